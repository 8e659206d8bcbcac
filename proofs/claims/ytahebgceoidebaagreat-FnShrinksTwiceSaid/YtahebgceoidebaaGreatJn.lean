/- Texts of our own, joined. -/
import Derived.Test.YtahebgceoidebaaGreatJm
import Derived.Test.YtahebgceoidebaaGreatJi
import Derived.Test.YtahebgceoidebaaGreatJa
import Derived.Shelf.SlSortCmp.WholeK
import Derived.Test.YtahebgceoidebaaGreatJe
import Derived.Test.YtahebgceoidebaaGreatJj
import Derived.Test.YtahebgceoidebaaGreatJc
import Derived.WalkSpells
import Derived.WalkSmall
/- What is gone is taken away. -/
namespace Go.Proofs.YtahebgceoidebaaGreat
open Go.RowKit

/-- A box is taken away. -/
theorem ToldO.drop {b n : Nat} {w w' : World} {T : Int → Option Tb} {P : Int → Option Nat} (h : ToldO b n w T P) (v : Int) (hm : MapIs iK ptrV w' b n (fun u => if u = v then none else (P u).map (fun c => c + 2))) (hg : w.grownBy w' (some b)) :
    ToldO b n w' (fun u => if u = v then none else T u) (fun u => if u = v then none else P u) := by
  refine ⟨hm.congr (fun u _ => ?_), fun u => ?_, fun u a t h1 h2 => ?_, fun u a h1 => ?_, fun u u' a a' h1 h2 hne => ?_⟩
  · by_cases e : u = v
    · simp [e]
    · simp [e]
  · by_cases e : u = v
    · simp [e]
    · simp [e, h.dom u]
  · by_cases e : u = v
    · simp [e] at h1
    · simp [e] at h1 h2
      have l := h.low u a h1
      exact (h.at' u a t h1 h2).kept hg (fun q => by have := Option.some.inj q; omega) (fun q => by have := Option.some.inj q; omega) (fun q => by have := Option.some.inj q; omega)
  · by_cases e : u = v
    · simp [e] at h1
    · simp [e] at h1; exact h.low u a h1
  · by_cases e : u = v
    · simp [e] at h1
    · by_cases e' : u' = v
      · simp [e'] at h2
      · simp [e] at h1; simp [e'] at h2; exact h.apart u u' a a' h1 h2 hne

set_option maxRecDepth 100000 in
set_option maxHeartbeats 4000000 in
theorem deleteGone_any (l : List Itm) (T : Int → Option Tb) (P : Int → Option Nat) (b n : Nat) (v : Value) (w : World) (h : ToldO b n w T P) (hrow : ∀ X, Below b w X → Rows' itE X v l) (hok : ∀ x ∈ l, itOk x) (hl : l.length ≤ 1000) :
    Calls Tryz.prog 71 #[.map (some b), v] w fun e w' => e = .returned (.tuple #[]) ∧ (∃ P', ToldO b n w' (delT T l) P') ∧ Below b w w' := by
  obtain ⟨ad, cap, rfl, _⟩ := (hrow w (Below.refl _ _)).items
  have HR : Hid (∀ X, Below b w X → ∀ i x, l[i]? = some x → ∃ g off, ad = some ⟨g, off, none⟩ ∧ X.cell? ⟨g, off + i * 9, none⟩ = some (.int .i64 x.1) ∧ X.cell? ⟨g, off + i * 9 + 1, none⟩ = some (.int .i64 x.2.kind) ∧ X.cell? ⟨g, off + i * 9 + 2, none⟩ = some (.int .i64 x.2.valid) ∧ X.cell? ⟨g, off + i * 9 + 3, none⟩ = some (.int .i64 x.2.uid) ∧ X.cell? ⟨g, off + i * 9 + 4, none⟩ = some (.int .i64 x.2.next) ∧ X.cell? ⟨g, off + i * 9 + 5, none⟩ = some (.int .i64 x.2.flags) ∧ X.cell? ⟨g, off + i * 9 + 6, none⟩ = some (.string x.2.user) ∧ X.cell? ⟨g, off + i * 9 + 7, none⟩ = some (.string x.2.name) ∧ X.cell? ⟨g, off + i * 9 + 8, none⟩ = some (.string x.2.text)) := fun X hX i x hi => by
    obtain ⟨ad', cap', e, hr⟩ := (hrow X hX).items
    cases e
    exact hr X (Below.refl _ _) i x hi
  have HOK := Lib.hid hok
  clear hrow hok
  have H0 : ToldO b n w (delT T (l.take 0)) P := h.congr (fun u => by rw [List.take_zero, delT_nil])
  have hble : b < w.heap.size := h.map.lt
  clear h
  go_enter Tryz.func71, Tryz.ntmps71
  go_wp2
  go_loopw [10] (fun iv wr => ∃ (i : Nat) (P' : Int → Option Nat), i ≤ l.length ∧ iv = .int .i64 (i : Int) ∧ ToldO b n wr (delT T (l.take i)) P' ∧ Below b w wr) (fun iv _ => l.length - (intOf iv).toNat)
  case atStart => exact ⟨0, _, by omega, rfl, H0, Below.refl _ _⟩
  case round =>
    clear H0 P
    obtain ⟨i, P, hi, rfl, hT, hb⟩ := hrel
    have HT := Lib.hid hT
    clear hT
    by_cases hlt : i < l.length
    · obtain ⟨x, hx⟩ : ∃ x, l[i]? = some x := ⟨_, List.getElem?_eq_getElem hlt⟩
      obtain ⟨ga, oa, rfl, a0, a1, a2, a3, a4, a5, a6, a7, a8⟩ := HR.out _ hb i _ hx
      have hxo := HOK.out x (List.mem_of_getElem? hx)
      have HTK : Hid (l.take (i + 1) = l.take i ++ [x]) := by show _ = _; rw [List.take_add_one, hx]; rfl
      have hwf : iK.ok x.2.valid := wf_of (by have := hxo.2.2.1; omega) (by have := hxo.2.2.1; omega)
      have HXO := Lib.hid hxo
      have HWF := Lib.hid hwf
      clear hx hxo hwf
      obtain ⟨sq, K, V, U, N, FL, US, NM, TX⟩ := x
      simp only at a0 a1 a2 a3 a4 a5 a6 a7 a8 HXO HWF HTK
      have hi0 : (0 : Int) ≤ (i : Int) := by omega
      have hi1 : (i : Int) < (l.length : Int) := by omega
      have XB := Box.new wr #[.int .i64 sq, .int .i64 K, .int .i64 V, .int .i64 U, .int .i64 N, .int .i64 FL, .string US, .string NM, .string TX] 49
      have kA := belNew wr (.cells #[.int .i64 sq, .int .i64 K, .int .i64 V, .int .i64 U, .int .i64 N, .int .i64 FL, .string US, .string NM, .string TX] 49)
      have TA := HT.out.later kA
      have hbs : b ≤ wr.heap.size := Nat.le_of_lt HT.out.map.lt
      have hbA := hb.trans (kA.mono hbs)
      go_upto_region 3 with fail
      clear a0 a1 a2 a3 a4 a5 a6 a7 a8
      generalize wr.alloc (.cells #[.int .i64 sq, .int .i64 K, .int .i64 V, .int .i64 U, .int .i64 N, .int .i64 FL, .string US, .string NM, .string TX] 49) = wA at XB TA hbA ⊢
      generalize wr.heap.size = gx at XB ⊢
      clear hb kA HT hbs
      obtain ⟨q0, q1, q2, q3, q4, q5, q6, q7, q8, _⟩ := XB.nine
      have HTA := Lib.hid TA
      have HXB := Lib.hid XB
      clear TA XB
      cases hp : P V with
      | none =>
        have hT0 := HTA.out.gone hp
        have hlk := HTA.out.map.look_gone (t := 99) Tryz.underlying99 (zero_ptr wA) HWF.out (show (P V).map (fun a => a + 2) = none by rw [hp]; rfl) true
        have hlk : (Instr.lookup 99 (.map (some b)) (.int .i64 V) true).run Tryz.prog wA = .ok (.tuple #[.pointer none, .bool false]) wA := hlk
        have HT0 := Lib.hid hT0
        clear hp hT0
        go_wp2
        go_roundw
        case rel => exact ⟨i + 1, P, by omega, by go_num, HTA.out.congr (fun u => by rw [HTK.out]; exact (delT_out HT0.out u).symm), hbA⟩
        case measure => simp [intOf]; omega
      | some a =>
        obtain ⟨t, ht⟩ := HTA.out.get hp
        have hlk := HTA.out.map.look_there (t := 99) Tryz.underlying99 (zero_ptr wA) HWF.out (show (P V).map (fun a => a + 2) = some (a + 2) by rw [hp]; rfl) true
        have hlk : (Instr.lookup 99 (.map (some b)) (.int .i64 V) true).run Tryz.prog wA = .ok (.tuple #[.pointer (some ⟨a + 2, 0, none⟩), .bool true]) wA := hlk
        have HP := Lib.hid hp
        have HTT := Lib.hid ht
        have HAT := Lib.hid (HTA.out.at' _ _ _ hp ht)
        have HLO := Lib.hid (HTA.out.low _ _ hp)
        clear hp ht
        by_cases h2 : K = 2
        · have h2 := h2.symm
          subst h2
          go_wp2_with (at_delete; refine wpList_del rfl _ _ _ iK rfl ptrV _ Tryz.underlying99 b n (fun v => (P v).map (fun a => a + 2)) rfl HTA.out.map V rfl HWF.out ?_; intro w8 hM8 hg8 hs8)
          go_roundw
          case rel => exact ⟨i + 1, _, by omega, by go_num, (HTA.out.drop V hM8 hg8).congr (fun u => by rw [HTK.out, delT_drop rfl]), hbA.grown hg8 (Nat.le_of_lt HTA.out.map.lt) (fun k hk => by have := Option.some.inj hk; omega)⟩
          case measure => simp [intOf]; omega
        by_cases h5 : K = 5
        · have h5 := h5.symm
          subst h5
          have hne : a ≠ gx := HAT.out.adds.notBox HXB.out
          have r0 : ∀ X, Kept a (a + 1) wA X → X.cell? ⟨a + 2, 10, none⟩ = some (.map (some a)) := fun X hX => by
            have hB : Box X (a + 2) (tbC a t) 105 := (hX.block (a + 2) HAT.out.box.lt (by omega)).trans HAT.out.box
            exact hB.cell 10 _ rfl
          have r1 : ∀ X, Kept a (a + 1) wA X → X.cell? ⟨gx, 3, none⟩ = some (.int .i64 U) := fun X hX => by
            have hB : Box X gx #[.int .i64 sq, .int .i64 5, .int .i64 V, .int .i64 U, .int .i64 N, .int .i64 FL, .string US, .string NM, .string TX] 49 := (hX.block gx HXB.out.lt (by omega)).trans HXB.out
            exact hB.cell 3 _ rfl
          have hU : 1 ≤ U ∧ U ≤ 9999 := ok_uid HXO.out.2 (show (3 : Int) ≤ 5 by decide)
          have hwu : iK.ok U := wf_of (by omega) (by omega)
          obtain ⟨w8, hdel, hM8, hg8, hs8⟩ := (HAT.out.adds.same (w' := wA.drew) rfl).del (t := 103) Tryz.underlying103 hwu 0
          have hdel : (Builtin.delete_ #[103, 3] 0 #[.map (some a), .int .i64 U]).run Tryz.prog wA.drew = .ok (.tuple #[]) w8 := hdel
          have hK8 : Kept a (a + 1) wA w8 := (show Kept a (a + 1) wA wA.drew from (Kept.of_below (Below.refl _ _) _ _).drew).trans (Kept.of_grown hg8 (fun k hk => by have := Option.some.inj hk; omega))
          have HM8 := Lib.hid hM8
          have HK8 := Lib.hid hK8
          clear hM8 hK8 hg8 hs8 hwu hne
          go_upto_region 9 with fail
          refine wp_region_held_drew (S := fun x => Kept a (a + 1) wA x) (by kernel_rfl) ((Kept.of_below (Below.refl _ _) _ _).drew) (fun hHeld => ?_)
          refine takeL (i := 0) (v := .pointer (some ⟨a + 2, 0, none⟩)) rfl (by kernel_rfl) (by kernel_rfl) (by kernel_rfl) (fun _ _ _ h => h) (Or.inl ⟨by rfl, ?_⟩) (by assumption) ?_
          · intro x hSx; go_simp
          try simp only [Act.put, List.setIfInBounds_toArray, List.set_cons_zero, List.set_cons_succ]
          refine takeL (i := 1) (v := .pointer (some ⟨a + 2, 0, none⟩)) rfl (by kernel_rfl) (by kernel_rfl) (by kernel_rfl) (fun _ _ _ h => h) (Or.inl ⟨by rfl, ?_⟩) (by assumption) ?_
          · intro x hSx; go_simp
          try simp only [Act.put, List.setIfInBounds_toArray, List.set_cons_zero, List.set_cons_succ]
          refine takeL (i := 2) (v := .pointer (some ⟨a + 2, 10, none⟩)) rfl (by kernel_rfl) (by kernel_rfl) (by kernel_rfl) (fun _ _ _ h => h) (Or.inl ⟨by rfl, ?_⟩) (by assumption) ?_
          · intro x hSx; go_simp
          try simp only [Act.put, List.setIfInBounds_toArray, List.set_cons_zero, List.set_cons_succ]
          refine takeL (i := 3) (v := .map (some a)) rfl (by kernel_rfl) (by kernel_rfl) (by kernel_rfl) (fun _ _ _ h => h) (Or.inl ⟨by rfl, ?_⟩) (by assumption) ?_
          · intro x hSx; have q0 := r0 x hSx; go_simp
          try simp only [Act.put, List.setIfInBounds_toArray, List.set_cons_zero, List.set_cons_succ]
          refine takeL (i := 4) (v := .pointer (some ⟨gx, 1, none⟩)) rfl (by kernel_rfl) (by kernel_rfl) (by kernel_rfl) (fun _ _ _ h => h) (Or.inl ⟨by rfl, ?_⟩) (by assumption) ?_
          · intro x hSx; go_simp
          try simp only [Act.put, List.setIfInBounds_toArray, List.set_cons_zero, List.set_cons_succ]
          refine takeL (i := 5) (v := .pointer (some ⟨gx, 3, none⟩)) rfl (by kernel_rfl) (by kernel_rfl) (by kernel_rfl) (fun _ _ _ h => h) (Or.inl ⟨by rfl, ?_⟩) (by assumption) ?_
          · intro x hSx; go_simp
          try simp only [Act.put, List.setIfInBounds_toArray, List.set_cons_zero, List.set_cons_succ]
          refine takeL (i := 6) (v := .int .i64 U) rfl (by kernel_rfl) (by kernel_rfl) (by kernel_rfl) (fun _ _ _ h => h) (Or.inl ⟨by rfl, ?_⟩) (by assumption) ?_
          · intro x hSx; have q0 := r1 x hSx; go_simp
          try simp only [Act.put, List.setIfInBounds_toArray, List.set_cons_zero, List.set_cons_succ]
          refine wpAnyH_ready (rs := [7]) (by kernel_rfl) (by simp) ?_
          refine readyOne rfl (fun K' hK => ?_)
          go_simp
          refine hK.out _ _ HK8.out (fun hS2 => ?_)
          clear hK K' hHeld hS2
          try simp only [Act.put, List.setIfInBounds_toArray, List.set_cons_zero, List.set_cons_succ]
          refine wpAnyH_done (by kernel_rfl) ?_ _
          go_wp2
          go_roundw
          case rel =>
            have T8 : TbAt w8 a n (lessM U t) := ⟨(HK8.out.block (a + 2) HAT.out.box.lt (by omega)).trans HAT.out.box, HM8.out, HAT.out.flags.same (HK8.out.block (a + 1) HAT.out.flags.lt (by omega))⟩
            refine ⟨i + 1, P, by omega, by go_num, (HTA.out.turn HP.out (lessM U t) (Nat.le_refl _) T8 (HK8.out.wider (Nat.le_refl _) (by omega))).congr (fun u => ?_), HK8.out.below hbA (Nat.le_of_lt HLO.out) (Nat.le_of_lt HTA.out.map.lt)⟩
            rw [HTK.out, delT_gone rfl]
            by_cases e : u = V
            · subst e; simp [HTT.out]
            · simp [e]
          case measure => simp [intOf]; omega
        · go_wp2
          go_roundw
          case rel => exact ⟨i + 1, P, by omega, by go_num, HTA.out.congr (fun u => by rw [HTK.out]; exact (delT_other h2 h5 u).symm), hbA⟩
          case measure => simp [intOf]; omega
    · go_wp2
      go_end0
      have e : i = l.length := by omega
      subst e
      have h1 := HT.out
      rw [List.take_length] at h1
      exact ⟨rfl, ⟨P, h1⟩, hb⟩

end Go.Proofs.YtahebgceoidebaaGreat

/- A list of the call's own, sorted by the library. -/
namespace Go.Proofs.YtahebgceoidebaaGreat
open Go.RowKit Go.Sort

/-- A list with room: nothing stands in it yet. -/
theorem wpList_make_cap {α : Type} {w : World} {ops : Array Oper} {rest : List Oper} {o : Oper} {a : Act} {Q : Exit → Act → World → Prop} (hg : o.guard = none) (x c : Operand) (E : Enc α) (hop : o.op = Op.makeSlice E.sty x c)
    (kl kc : IntKind) (C : Int) (n : Nat) (hl : a.eval x = .int kl 0) (hc : a.eval c = .int kc C) (hC : C = (n : Int)) (hn : (E.bytes + 1) * n ≤ 281474976710656)
    (h : ∀ w', RBuf E w.heap.size w w' (.slice (some ⟨w.heap.size, 0, none⟩) 0 n) [] → w.grownBy w' none → wpList Tryz.prog ops Q rest (a.put o.dst (.slice (some ⟨w.heap.size, 0, none⟩) 0 n)) w') : wpList Tryz.prog ops Q (o :: rest) a w := by
  obtain ⟨i0, hi, hz0, hz1, hz2⟩ := info_parts E.info
  have e0 : (E.bytes + 1) * n = E.bytes * n + n := Nat.succ_mul _ _
  refine wpList_make_own w hg x c E.sty hop w.heap.size E.ty i0 E.zero E.sz E.und hi hz0 hz1 kl kc C n hl hc hC (by rw [hz2]; omega) (by unfold maxLen; omega) (Nat.le_refl _) ?_
  intro w' hown hgrow
  exact h w' ⟨hown, (Below.refl _ _).grown hgrow (Nat.le_refl _) (fun k hk => by cases hk), hgrow.size⟩ hgrow

section
variable {α : Type} [Inhabited α] {E : Enc α} {B : Nat} {w0 w : World} {g cap : Nat} {l : List α}

theorem row_flat (E : Enc α) (l : List α) {t : Nat} (h : t < l.length * E.sz) : (E.row l)[t]? = some ((flatK E.f E.sz l.toArray)[t]!) := by
  have hp := E.pos
  have hj : t / E.sz < l.length := (Nat.div_lt_iff_lt_mul hp).2 h
  have hm : t % E.sz < E.sz := Nat.mod_lt _ hp
  have hx : l[t / E.sz]? = some l[t / E.sz] := List.getElem?_eq_getElem hj
  have h1 := E.row_at l (t / E.sz) _ hx (t % E.sz) hm
  rw [Nat.div_add_mod'] at h1
  rw [h1, get_flatK _ _ _ _ (by simpa using h)]
  have h2 : l.toArray[t / E.sz]! = l[t / E.sz] := by
    rw [getElem!_pos l.toArray (t / E.sz) (by simpa using hj)]; simp
  rw [h2, getElem!_pos _ _ (by rw [E.len]; exact hm), List.getElem?_eq_getElem (by rw [E.len]; exact hm)]

/-- What the sort asks of the row. -/
theorem RBuf.holdsK (h : RBuf E B w0 w (.slice (some ⟨g, 0, none⟩) l.length cap) l) : HoldsK E.f E.sz w g 0 l.toArray := by
  intro t ht
  rw [size_flatK] at ht
  have ht' : t < l.length * E.sz := by simpa using ht
  have hp := E.pos
  have hj : t / E.sz < l.length := (Nat.div_lt_iff_lt_mul hp).2 ht'
  have hm : t % E.sz < E.sz := Nat.mod_lt _ hp
  have hx : l[t / E.sz]? = some l[t / E.sz] := List.getElem?_eq_getElem hj
  refine ⟨?_, by rw [Nat.zero_add]; exact h.loose t⟩
  have h0 := row_flat E l ht'
  have h1 := E.row_at l (t / E.sz) _ hx (t % E.sz) hm
  rw [Nat.div_add_mod'] at h1
  rw [h1] at h0
  have h2 := h.cell rfl (t / E.sz) _ hx (t % E.sz) _ h0
  rw [Nat.div_add_mod'] at h2
  rw [Nat.zero_add]
  exact h2

theorem sorted_grown (E : Enc α) (w : World) (g n : Nat) (d : Array α) (os : Array Obj) : w.grownBy (sortWorldK E.f E.sz w g 0 n d os) (some g) := by
  refine ⟨rfl, rfl, rfl, by simp [sortWorldK, putRowK, grow, putRow, mapBlock, Sort.ahead], fun k hk hne => ?_⟩
  have : g ≠ k := fun e => hne (by rw [e])
  unfold sortWorldK putRowK
  rw [heap_grow_old _ _ (by simpa [putRow, mapBlock, Sort.ahead] using hk)]
  simp [putRow, mapBlock, Sort.ahead, Array.getElem?_modify, this]

/-- Behind it the same slice holds the sorted list. -/
theorem RBuf.sorted (h : RBuf E B w0 w (.slice (some ⟨g, 0, none⟩) l.length cap) l) {l' : List α} (hl : l'.length = l.length) (n : Nat) (os : Array Obj) :
    RBuf E B w0 (sortWorldK E.f E.sz w g 0 n l'.toArray os) (.slice (some ⟨g, 0, none⟩) l.length cap) l' := by
  have hg := sorted_grown E w g n l'.toArray os
  have hB : B ≤ g := (h.own.lt g rfl).1
  refine ⟨?_, h.bel.grown hg h.le (fun k hk => by cases hk; exact hB), Nat.le_trans h.le hg.size⟩
  rcases h.own.2 with ⟨e, _⟩ | ⟨g', cap', cur, e, hb', hb, h1, h2, h3, h4⟩
  · cases e
  · cases e
    rw [← hl]
    refine ⟨E.row_length l', .inr ⟨g, cap, putCells id 0 (flatK E.f E.sz l'.toArray) cur, rfl, hb', ?_, by omega, h2, by simp [putCells, h3], ?_⟩⟩
    · have hgl : g < w.heap.size := (Array.getElem?_eq_some_iff.1 hb).1
      unfold sortWorldK putRowK
      rw [heap_grow_old _ _ (by simpa [putRow, mapBlock, Sort.ahead] using hgl)]
      simp [putRow, mapBlock, Sort.ahead, Array.getElem?_modify, hb, onCells]
    · have hle : l'.length * E.sz ≤ cur.size := by rw [h3, hl]; exact Nat.mul_le_mul_right _ h1
      apply List.ext_getElem?
      intro t
      by_cases ht : t < l'.length * E.sz
      · rw [List.getElem?_take_of_lt ht, Array.getElem?_toList, row_flat E l' ht]
        simp [putCells, ht, show t < cur.size by omega]
      · rw [List.getElem?_take_eq_none (by omega), List.getElem?_eq_none (by rw [E.row_length]; omega)]
/-- What the library's sort says of a list. -/
theorem perm_of {d d' : Array α} (h : PermIn 0 d.size d d') : d'.toList.Perm d.toList := by
  have h1 := h.2.2
  have e1 : d'.extract 0 d.size = d' := by rw [← h.1]; simp
  have e2 : d.extract 0 d.size = d := by simp
  rwa [e1, e2] at h1
theorem sorted_of {lt : α → α → Bool} {d d' : Array α} (hs : d'.size = d.size) (h : SortedIn lt 0 d.size d') : d'.toList.Pairwise (fun x y => lt y x = false) := by
  rw [List.pairwise_iff_getElem]
  intro i j hi hj hij
  have hi' : i < d'.size := by simpa using hi
  have hj' : j < d'.size := by simpa using hj
  have := h i j (Nat.zero_le _) hij (by omega)
  rw [getElem!_pos d' j hj', getElem!_pos d' i hi'] at this
  simpa using this
end

end Go.Proofs.YtahebgceoidebaaGreat

/- Mails and boxes: there is one of each. -/
namespace Go.Proofs.YtahebgceoidebaaGreat

instance : Inhabited Ml := ⟨⟨0, 0, ⟨#[]⟩⟩⟩
instance : Inhabited BxH := ⟨⟨0, ⟨#[]⟩, ⟨#[]⟩, 0, none, 0, 0⟩⟩

end Go.Proofs.YtahebgceoidebaaGreat

/- The mails of a box, in order. -/
namespace Go.Proofs.YtahebgceoidebaaGreat
open Go.RowKit

/-- The mails that came so far. -/
def Coll (t : Tb) (todo : Int → Bool) (ms : List Ml) : Prop := (∀ m, m ∈ ms ↔ ∃ x, t.adds m.uid = some x ∧ todo m.uid = false ∧ m = mlOf t m.uid x) ∧ (ms.map (·.uid)).Nodup
theorem Coll.start (t : Tb) : Coll t (fun u => (t.adds u).isSome) [] := by
  refine ⟨fun m => ⟨fun h => (by cases h), ?_⟩, by simp⟩
  rintro ⟨x, h1, h2, _⟩
  dsimp only at h2
  rw [h1] at h2
  cases h2
theorem Coll.step {t : Tb} {todo : Int → Bool} {ms : List Ml} (h : Coll t todo ms) {u : Int} {x : Itm} (hu : todo u = true) (hx : t.adds u = some x) : Coll t (fun y => todo y && !decide (y = u)) (ms ++ [mlOf t u x]) := by
  have hn : ∀ m ∈ ms, m.uid ≠ u := fun m hm e => by
    obtain ⟨_, _, h2, _⟩ := (h.1 m).1 hm
    rw [e, hu] at h2
    cases h2
  refine ⟨fun m => ?_, ?_⟩
  · rw [List.mem_append, List.mem_singleton]
    constructor
    · rintro (hm | rfl)
      · obtain ⟨y, h1, h2, h3⟩ := (h.1 m).1 hm
        exact ⟨y, h1, by simp [h2], h3⟩
      · exact ⟨x, hx, by simp [mlOf], rfl⟩
    · rintro ⟨y, h1, h2, h3⟩
      by_cases e : m.uid = u
      · rw [e] at h1 h3
        rw [hx] at h1
        cases h1
        exact .inr h3
      · exact .inl ((h.1 m).2 ⟨y, h1, by simpa [e] using h2, h3⟩)
  · rw [List.map_append, List.nodup_append]
    refine ⟨h.2, by simp, fun a ha b hb => ?_⟩
    obtain ⟨m, hm, rfl⟩ := List.mem_map.1 ha
    simp at hb
    rw [hb]
    exact hn m hm

set_option maxRecDepth 100000 in
set_option maxHeartbeats 1000000 in
theorem byUid_any (x y : Ml) (W : World) : Calls Tryz.prog 91 #[.agg #[.int .i64 x.uid, .int .i64 x.flags, .string x.text], .agg #[.int .i64 y.uid, .int .i64 y.flags, .string y.text]] W fun e w' => e = .returned (.int .i64 (Lib.compareInt x.uid y.uid)) ∧ ∃ q os', w' = Sort.grow (W.drewN q) os' := by
  generalize hr : Lib.compareInt x.uid y.uid = r
  have hcon := fun W' => compare_any x.uid y.uid W'
  rw [hr] at hcon
  clear hr
  go_enter Tryz.func91, Tryz.ntmps91
  go_wp2_with (go_at_call 80; refine (hcon _).mono ?_; rintro e w' ⟨rfl, rfl⟩)
  go_ret
  exact ⟨rfl, 0, _, by rw [Sort.alloc_eq_grow, Sort.alloc_eq_grow, Sort.grow_grow]; rfl⟩
theorem ltUid (x y : Ml) : ltOf (fun x y : Ml => Lib.compareInt x.uid y.uid) x y = decide (x.uid < y.uid) := by
  unfold ltOf Lib.compareInt
  by_cases h1 : x.uid < y.uid
  · simp [h1]
  · by_cases h2 : y.uid < x.uid <;> simp [h1, h2]
theorem swoUid : Sort.SWO (ltOf fun x y : Ml => Lib.compareInt x.uid y.uid) where
  irrefl x := by rw [ltUid]; simp
  trans x y z h1 h2 := by rw [ltUid] at *; simp at *; omega
  ntrans x y z h1 h2 := by rw [ltUid] at *; simp at *; omega

set_option maxRecDepth 100000 in
set_option maxHeartbeats 1000000 in
theorem sortMails_any (l : List Ml) (B g cap : Nat) (w0 w : World) (h : RBuf mlE B w0 w (.slice (some ⟨g, 0, none⟩) l.length cap) l) (hl : l.length ≤ 1000000) :
    Calls Tryz.prog 90 #[.slice (some ⟨g, 0, none⟩) l.length cap, .func (.func 91) #[] #[]] w fun e w' => e = .returned (.tuple #[]) ∧ ∃ l', l'.Perm l ∧ l'.Pairwise (fun x y => ¬ y.uid < x.uid) ∧ RBuf mlE B w0 w' (.slice (some ⟨g, 0, none⟩) l.length cap) l' ∧ w.grownBy w' (some g) := by
  have eg : ∀ args w, (callFunc 91 args).run Tryz.prog w = .ok (.enter 91 args) w := enters_of Tryz.func91 (by kernel_rfl) rfl
  have hcmp : CmpLays Tryz.prog 91 #[] mlE.f 3 (fun x y : Ml => Lib.compareInt x.uid y.uid) g 0 l.toArray.size w := fun _ _ _ _ x y => byUid_any x y _
  have hcon := AnyQ.slices_SortFunc Tryz.sortMail 3 Tryz.isAgg69 Tryz.sizeOf69 mlE.f (fun _ => rfl) mlE.one (fun x y : Ml => Lib.compareInt x.uid y.uid) swoUid 91 #[] g 0 cap l.toArray w eg hcmp h.holdsK (h.own.lt g rfl).2 (by simp; omega)
  have hcon : Calls Tryz.prog 90 #[.slice (some ⟨g, 0, none⟩) l.length cap, .func (.func 91) #[] #[]] w _ := hcon
  refine hcon.mono ?_
  rintro e w' ⟨rfl, d', n, os, hp, hs, rfl⟩
  have hp' := perm_of hp
  have hs' := sorted_of hp.1 hs
  have hlen : d'.toList.length = l.length := hp'.length_eq
  refine ⟨rfl, d'.toList, hp', hs'.imp (fun {x y} h => ?_), ?_, ?_⟩
  · rw [ltUid] at h; simpa using h
  · have := h.sorted hlen n os
    rwa [Array.toArray_toList] at this
  · exact sorted_grown mlE w g n d' os

/-- A row of cells is no map, and no iterator. -/
theorem MapIs.notRow {κ β α : Type} {P : Program} {K : KeyE P κ} {mk : β → Value} {w w0 : World} {b n B : Nat} {f : κ → Option β} {E : Enc α} {v : Value} {l : List α} (h : MapIs K mk w b n f) (hr : RBuf E B w0 w v l) : some b ≠ v.ownBlock := by
  obtain ⟨D, ⟨es, clock, e, _⟩, _⟩ := h
  rcases hr.own.2 with ⟨rfl, _⟩ | ⟨g, cap, cur, rfl, _, hb, _⟩
  · simp [Value.ownBlock]
  · intro e1
    have : b = g := by simpa [Value.ownBlock] using e1
    subst this
    rw [e] at hb
    cases hb
theorem MapGo.notRow {κ β α : Type} {P : Program} {K : KeyE P κ} {mk : β → Value} {w w0 : World} {b r n cnt B : Nat} {f : κ → Option β} {todo : κ → Bool} {E : Enc α} {v : Value} {l : List α} (h : MapGo K mk w b r n f todo cnt) (hr : RBuf E B w0 w v l) : some r ≠ v.ownBlock := by
  obtain ⟨D, left, ⟨es, clock, _, _, _, _, _, _, _, e, _⟩, _⟩ := h
  rcases hr.own.2 with ⟨rfl, _⟩ | ⟨g, cap, cur, rfl, _, hb, _⟩
  · simp [Value.ownBlock]
  · intro e1
    have : r = g := by simpa [Value.ownBlock] using e1
    subst this
    rw [e] at hb
    cases hb

theorem MapGo.notMap {κ β κ' β' : Type} {P : Program} {K : KeyE P κ} {mk : β → Value} {K' : KeyE P κ'} {mk' : β' → Value} {w : World} {b r n cnt b' n' : Nat} {f : κ → Option β} {todo : κ → Bool} {f' : κ' → Option β'} (h : MapGo K mk w b r n f todo cnt) (h' : MapIs K' mk' w b' n' f') : r ≠ b' := by
  obtain ⟨D, left, ⟨es, clock, _, _, _, _, _, _, _, e, _⟩, _⟩ := h
  obtain ⟨D', ⟨es', clock', e', _⟩, _⟩ := h'
  rintro rfl
  rw [e] at e'
  cases e'

/-- What the loop over the mails keeps. -/
structure MlG (w : World) (a r n : Nat) (t : Tb) (lv : Value) (ms : List Ml) (todo : Int → Bool) (cnt : Nat) (X : World) : Prop where
  row : RBuf mlE w.heap.size w X lv ms
  some' : ∃ k, lv.ownBlock = some k
  go : MapGo iK itmV X a r n t.adds todo cnt
  tb : TbAt X a n t
  coll : Coll t todo ms
  len : ms.length + cnt ≤ n
  rl : w.heap.size ≤ r

/-- .. while an entry is at hand. -/
structure MlN (w : World) (a r n : Nat) (t : Tb) (lv : Value) (ms : List Ml) (todo : Int → Bool) (cnt : Nat) (X : World) : Prop where
  row : RBuf mlE w.heap.size w X lv ms
  go : MapGo iK itmV X a r n t.adds todo cnt
  tb : TbAt X a n t
theorem MlN.later {w : World} {a r n : Nat} {t : Tb} {lv : Value} {ms : List Ml} {todo : Int → Bool} {cnt : Nat} {X Y : World} (h : MlN w a r n t lv ms todo cnt X) (hb : Below X.heap.size X Y) : MlN w a r n t lv ms todo cnt Y := ⟨h.row.later hb, h.go.later hb, h.tb.later hb⟩
theorem MlN.of {w : World} {a r n : Nat} {t : Tb} {lv : Value} {ms : List Ml} {todo todo' : Int → Bool} {cnt cnt' : Nat} {X Y : World} (h : MlG w a r n t lv ms todo cnt X) (hg : X.grownBy Y (some r)) (hgo : MapGo iK itmV Y a r n t.adds todo' cnt') : MlN w a r n t lv ms todo' cnt' Y :=
  ⟨h.row.grown hg (by
      cases hv : lv.ownBlock with
      | none => exact .inl rfl
      | some k => exact .inr (fun e => h.go.notRow h.row (by rw [hv]; exact e.symm))) (fun k hk => by have := Option.some.inj hk; have := h.rl; omega), hgo,
    h.tb.kept hg (fun e => h.go.ne (Option.some.inj e).symm) (fun e => h.go.notMap h.tb.flags (Option.some.inj e).symm) (fun e => h.go.notBox h.tb.box (Option.some.inj e).symm)⟩
theorem MlG.of {w : World} {a r n : Nat} {t : Tb} {lv lv' : Value} {ms : List Ml} {todo : Int → Bool} {cnt cnt' : Nat} {X Y Z : World} {u : Int} {x : Itm} (h : MlN w a r n t lv ms (fun y => todo y && !decide (y = u)) cnt' Y) (hr : RBuf mlE w.heap.size Z Z lv' (ms ++ [mlOf t u x])) (hg : Y.grownBy Z lv.ownBlock) (hat : lv'.ownBlock = lv.ownBlock ∨ lv'.ownBlock = some Y.heap.size)
    (h0 : MlG w a r n t lv ms todo cnt X) (ht : todo u = true) (hx : t.adds u = some x) (hc : cnt' < cnt) : MlG w a r n t lv' (ms ++ [mlOf t u x]) (fun y => todo y && !decide (y = u)) cnt' Z := by
  have hb : Below w.heap.size w Z := h.row.bel.grown hg h.row.le (fun k hk => (h.row.own.lt k hk).1)
  refine ⟨⟨hr.own, hb, hr.le⟩, ?_, h.go.kept hg (h.tb.adds.notRow h.row) (h.go.notRow h.row), h.tb.kept hg (h.tb.adds.notRow h.row) (h.tb.flags.notRow h.row) ?_, h0.coll.step ht hx, ?_, h0.rl⟩
  · rcases hat with e | e
    · rw [e]; exact h0.some'
    · exact ⟨_, e⟩
  · intro e
    rcases h.row.own.2 with ⟨e1, _⟩ | ⟨g, cap, cur, e1, _, hb2, _⟩
    · rw [e1] at e; cases e
    · rw [e1] at e
      have hga : a + 2 = g := Option.some.inj e
      have hbx := h.tb.box
      unfold Box at hbx
      rw [hga, hb2] at hbx
      cases hbx
  · have := h0.len; simp; omega

set_option maxRecDepth 100000 in
set_option maxHeartbeats 8000000 in
theorem mails_any (t : Tb) (a n : Nat) (w : World) (h : TbAt w a n t) (hn : n ≤ 1000) (hdom : ∀ u x, t.adds u = some x → iK.ok u ∧ x.2.text.size ≤ 1000) :
    Calls Tryz.prog 85 #[.pointer (some ⟨a + 2, 0, none⟩)] w fun e w' => ∃ v ms, e = .returned v ∧ RBuf mlE w.heap.size w w' v ms ∧ (∀ m, m ∈ ms ↔ ∃ x, t.adds m.uid = some x ∧ m = mlOf t m.uid x) ∧ ms.Pairwise (fun x y => x.uid < y.uid) ∧ ms.length ≤ n := by
  obtain ⟨p0, p1, p2, p3, p4, p5, p6, p7, p8, p9, p10, p11⟩ := h.box.twelve
  obtain ⟨k, hk, hlen⟩ := h.adds.len (t := 103) Tryz.underlying103 3
  have HH := Lib.hid h
  have HDOM := Lib.hid hdom
  clear h hdom
  go_enter Tryz.func85, Tryz.ntmps85
  go_wp2_with (first | (at_make; refine wpList_make_cap rfl _ _ mlE rfl .i64 .i64 _ k rfl rfl rfl (by show 33 * k ≤ _; omega) ?_; intro w1 hr1 hg1; obtain ⟨_, _, _, _, _, _, _, _, _, _, s10, _⟩ := (HH.out.kept hg1 (by simp) (by simp) (by simp)).box.twelve) | (at_range; refine wpList_range_is rfl _ _ rfl iK itmV _ Tryz.underlying103 a n t.adds rfl (HH.out.kept hg1 (by simp) (by simp) (by simp)).adds ?_; intro w2 cnt0 hc0 hgo0 hg2 hs2))
  go_frame
  have I0 : MlG w a w1.heap.size n t (.slice (some ⟨w.heap.size, 0, none⟩) 0 k) [] (fun u => (t.adds u).isSome) cnt0 w2 := ⟨hr1.grown hg2 (.inr (by simp [Value.ownBlock])) (fun k hk => by cases hk), ⟨_, rfl⟩, hgo0, (HH.out.kept hg1 (by simp) (by simp) (by simp)).kept hg2 (by simp) (by simp) (by simp), Coll.start t, by simpa using hc0, hr1.le⟩
  generalize w1.heap.size = r at I0 ⊢
  clear hr1 hg1 hgo0 hg2 hs2 hc0 p0 p1 p2 p3 p4 p5 p6 p7 p8 p9 p10 p11 s10 hlen
  go_loopw [3] (fun lv wr => ∃ (ms : List Ml) (todo : Int → Bool) (cnt : Nat), MlG w a r n t lv ms todo cnt wr) (fun _ wr => wr.rangeLeft a r)
  case atStart => exact ⟨_, _, _, I0⟩
  case round =>
    clear I0
    obtain ⟨ms, todo, cnt, I⟩ := hrel
    obtain ⟨pl, cl, rfl⟩ := I.row.form
    have HI := Lib.hid I
    clear I
    go_wp2_with (at_next; refine wpList_next_is rfl _ rfl iK itmV itmV_inj a r n t.adds todo cnt rfl HI.out.go ?_ ?_)
    · intro hdone
      have HDN := Lib.hid hdone
      clear hdone
      obtain ⟨gk, hgk⟩ : ∃ gk : Nat, pl = some ⟨gk, 0, none⟩ := by
        obtain ⟨kk, hkk⟩ := HI.out.some'
        rcases HI.out.row.own.2 with ⟨e, _⟩ | ⟨g, cap, cur, e, _⟩
        · rw [e] at hkk; cases hkk
        · simp only [Value.slice.injEq] at e; exact ⟨g, e.1⟩
      subst hgk
      have HSO := Lib.hid (sortMails_any ms w.heap.size gk cl w _ HI.out.row (by have := HI.out.len; omega))
      go_wp2_with (go_at_call 90; refine HSO.out.mono ?_; rintro e w5 ⟨rfl, l5, hp5, hs5, hr5, hg5⟩)
      go_ret
      have hll : l5.length = ms.length := hp5.length_eq
      refine ⟨_, l5, rfl, by first | exact hr5 | (rw [hll]; exact hr5), fun m => ?_, ?_, by have := HI.out.len; omega⟩
      · rw [hp5.mem_iff, HI.out.coll.1 m]
        constructor
        · rintro ⟨x, h1, _, h3⟩; exact ⟨x, h1, h3⟩
        · rintro ⟨x, h1, h3⟩; exact ⟨x, h1, HDN.out _ (HDOM.out _ _ h1).1, h3⟩
      · have hnd : (l5.map (·.uid)).Nodup := (hp5.map (·.uid)).nodup_iff.2 HI.out.coll.2
        have hnd' : l5.Pairwise (fun x y => x.uid ≠ y.uid) := List.pairwise_map.1 hnd
        exact (hs5.and hnd').imp (fun {x y} h => by have := h.1; have := h.2; omega)
    · intro u sq rc wN cntN hku htodo hux hgoN hcntN hgN hsN hen
      replace hen : (Instr.entry (.pointer (some ⟨r, 0, none⟩))).run Tryz.prog wN = .ok (.tuple #[.int .i64 u, .agg #[.int .i64 sq, .int .i64 rc.kind, .int .i64 rc.valid, .int .i64 rc.uid, .int .i64 rc.next, .int .i64 rc.flags, .string rc.user, .string rc.name, .string rc.text]]) wN := hen
      rw [show iK.val u = .int .i64 u from rfl, show itmV (sq, rc) = .agg #[.int .i64 sq, .int .i64 rc.kind, .int .i64 rc.valid, .int .i64 rc.uid, .int .i64 rc.next, .int .i64 rc.flags, .string rc.user, .string rc.name, .string rc.text] from rfl]
      have GN : MlN w a r n t (.slice pl ms.length cl) ms (fun y => todo y && !decide (y = u)) cntN wN := MlN.of HI.out hgN hgoN
      have GX := GN.later (belNew wN (.cells #[.int .i64 sq, .int .i64 rc.kind, .int .i64 rc.valid, .int .i64 rc.uid, .int .i64 rc.next, .int .i64 rc.flags, .string rc.user, .string rc.name, .string rc.text] 49))
      have XX := Box.new wN #[.int .i64 sq, .int .i64 rc.kind, .int .i64 rc.valid, .int .i64 rc.uid, .int .i64 rc.next, .int .i64 rc.flags, .string rc.user, .string rc.name, .string rc.text] 49
      have HTD := Lib.hid htodo
      have HUX := Lib.hid hux
      have HKU := Lib.hid hku
      have HCN := Lib.hid hcntN
      clear GN hgoN hgN hsN htodo hux hku hcntN
      go_upto_region 5 with fail
      clear hen
      generalize wN.alloc (.cells #[.int .i64 sq, .int .i64 rc.kind, .int .i64 rc.valid, .int .i64 rc.uid, .int .i64 rc.next, .int .i64 rc.flags, .string rc.user, .string rc.name, .string rc.text] 49) = w4 at GX XX ⊢
      generalize wN.heap.size = gx at XX ⊢
      obtain ⟨q0, q1, q2, q3, q4, q5, q6, q7, q8, _⟩ := XX.nine
      obtain ⟨_, _, _, _, _, _, _, _, _, _, s10, s11⟩ := GX.tb.box.twelve
      have hcl := fun wx => clone_any rc.text wx (by have := (HDOM.out _ _ HUX.out).2; simp only at this; omega)
      have HCL := Lib.hid hcl
      clear hcl
      cases hf : t.flags u with
      | none =>
        have hlk := GX.tb.flags.look_gone (t := 103) Tryz.underlying103 (zero_item w4) HKU.out hf true
        replace hlk : (Instr.lookup 103 (.map (some (a + 1))) (.int .i64 u) true).run Tryz.prog w4 = .ok (.tuple #[.agg #[.int .i64 0, .int .i64 0, .int .i64 0, .int .i64 0, .int .i64 0, .int .i64 0, .string emp, .string emp, .string emp], .bool false]) w4 := hlk
        have HE : Hid (mlOf t u (sq, rc) = ⟨u, rc.flags, rc.text⟩) := by show _ = _; unfold mlOf; rw [hf]
        have G5 := GX.later (belNew w4 (.cells #[.int .i64 0, .int .i64 0, .int .i64 0, .int .i64 0, .int .i64 0, .int .i64 0, .string emp, .string emp, .string emp] 49))
        have X5 := XX.later (belNew w4 (.cells #[.int .i64 0, .int .i64 0, .int .i64 0, .int .i64 0, .int .i64 0, .int .i64 0, .string emp, .string emp, .string emp] 49))
        clear hf GX
        go_upto_region 9 with fail
        clear hlk q0 q1 q2 q3 q4 q5 q6 q7 q8 s10 s11 XX
        generalize w4.alloc (.cells #[.int .i64 0, .int .i64 0, .int .i64 0, .int .i64 0, .int .i64 0, .int .i64 0, .string emp, .string emp, .string emp] 49) = w5 at G5 X5 ⊢
        obtain ⟨q0, q1, q2, q3, q4, q5, q6, q7, q8, _⟩ := X5.nine
        have HG5 := Lib.hid G5
        clear X5 G5
        have hml : ms.length ≤ 1000 := by have := HI.out.len; omega
        have HLM : Hid (∀ X : World, RBuf mlE X.heap.size (X.alloc (.cells #[.int .i64 u, .int .i64 rc.flags, .string rc.text] 69)) (X.alloc (.cells #[.int .i64 u, .int .i64 rc.flags, .string rc.text] 69)) (.slice (some ⟨X.heap.size, 0, none⟩) 1 1) [⟨u, rc.flags, rc.text⟩]) := fun X => RBuf.lit1 mlE X ⟨u, rc.flags, rc.text⟩
        go_wp2_with (first
          | (go_at_call 63; refine (HCL.out _).mono ?_; rintro e w6 ⟨rfl, k6⟩)
          | (at_builtin; refine wpList_append_rows rfl _ _ mlE rfl w.heap.size _ _ rfl (((HG5.out.later k6).later (belNew w6 _)).row.here) w6.heap.size _ [⟨u, rc.flags, rc.text⟩] rfl (HLM.out w6) (by show _ * 33 ≤ _; simp only [List.length_cons, List.length_nil]; omega) ?_; intro v7 w7 r7 g7 at7))
        go_roundw
        case rel => exact ⟨_, _, _, MlG.of ((HG5.out.later k6).later (belNew w6 _)) (by rw [← HE.out] at r7; exact r7) g7 at7 HI.out HTD.out HUX.out HCN.out⟩
        case measure =>
          have h1 := (MlG.of ((HG5.out.later k6).later (belNew w6 _)) (by rw [← HE.out] at r7; exact r7) g7 at7 HI.out HTD.out HUX.out HCN.out).go.left_eq
          have h2 := HI.out.go.left_eq
          have := HCN.out
          omega
      | some y =>
        have hlk := GX.tb.flags.look_there (t := 103) Tryz.underlying103 (zero_item w4) HKU.out hf true
        replace hlk : (Instr.lookup 103 (.map (some (a + 1))) (.int .i64 u) true).run Tryz.prog w4 = .ok (.tuple #[.agg #[.int .i64 y.1, .int .i64 y.2.kind, .int .i64 y.2.valid, .int .i64 y.2.uid, .int .i64 y.2.next, .int .i64 y.2.flags, .string y.2.user, .string y.2.name, .string y.2.text], .bool true]) w4 := hlk
        have HE : Hid (mlOf t u (sq, rc) = ⟨u, y.2.flags, rc.text⟩) := by show _ = _; unfold mlOf; rw [hf]
        have G5 := GX.later (belNew w4 (.cells #[.int .i64 y.1, .int .i64 y.2.kind, .int .i64 y.2.valid, .int .i64 y.2.uid, .int .i64 y.2.next, .int .i64 y.2.flags, .string y.2.user, .string y.2.name, .string y.2.text] 49))
        have X5 := XX.later (belNew w4 (.cells #[.int .i64 y.1, .int .i64 y.2.kind, .int .i64 y.2.valid, .int .i64 y.2.uid, .int .i64 y.2.next, .int .i64 y.2.flags, .string y.2.user, .string y.2.name, .string y.2.text] 49))
        have Y5 := Box.new w4 #[.int .i64 y.1, .int .i64 y.2.kind, .int .i64 y.2.valid, .int .i64 y.2.uid, .int .i64 y.2.next, .int .i64 y.2.flags, .string y.2.user, .string y.2.name, .string y.2.text] 49
        clear hf GX
        go_upto_region 7 with fail
        clear hlk q0 q1 q2 q3 q4 q5 q6 q7 q8 s10 s11 XX
        generalize w4.alloc (.cells #[.int .i64 y.1, .int .i64 y.2.kind, .int .i64 y.2.valid, .int .i64 y.2.uid, .int .i64 y.2.next, .int .i64 y.2.flags, .string y.2.user, .string y.2.name, .string y.2.text] 49) = w5 at G5 X5 Y5 ⊢
        generalize w4.heap.size = gy at Y5 ⊢
        obtain ⟨q0, q1, q2, q3, q4, q5, q6, q7, q8, _⟩ := X5.nine
        obtain ⟨z0, z1, z2, z3, z4, z5, z6, z7, z8, _⟩ := Y5.nine
        have HG5 := Lib.hid G5
        clear X5 G5 Y5
        have hml : ms.length ≤ 1000 := by have := HI.out.len; omega
        have HLM : Hid (∀ X : World, RBuf mlE X.heap.size (X.alloc (.cells #[.int .i64 u, .int .i64 y.2.flags, .string rc.text] 69)) (X.alloc (.cells #[.int .i64 u, .int .i64 y.2.flags, .string rc.text] 69)) (.slice (some ⟨X.heap.size, 0, none⟩) 1 1) [⟨u, y.2.flags, rc.text⟩]) := fun X => RBuf.lit1 mlE X ⟨u, y.2.flags, rc.text⟩
        go_wp2_with (first
          | (go_at_call 63; refine (HCL.out _).mono ?_; rintro e w6 ⟨rfl, k6⟩)
          | (at_builtin; refine wpList_append_rows rfl _ _ mlE rfl w.heap.size _ _ rfl (((HG5.out.later k6).later (belNew w6 _)).row.here) w6.heap.size _ [⟨u, y.2.flags, rc.text⟩] rfl (HLM.out w6) (by show _ * 33 ≤ _; simp only [List.length_cons, List.length_nil]; omega) ?_; intro v7 w7 r7 g7 at7))
        go_roundw
        case rel => exact ⟨_, _, _, MlG.of ((HG5.out.later k6).later (belNew w6 _)) (by rw [← HE.out] at r7; exact r7) g7 at7 HI.out HTD.out HUX.out HCN.out⟩
        case measure =>
          have h1 := (MlG.of ((HG5.out.later k6).later (belNew w6 _)) (by rw [← HE.out] at r7; exact r7) g7 at7 HI.out HTD.out HUX.out HCN.out).go.left_eq
          have h2 := HI.out.go.left_eq
          have := HCN.out
          omega

end Go.Proofs.YtahebgceoidebaaGreat

/- A list that can be read, appended to one of the call's own. -/
namespace Go.Proofs.YtahebgceoidebaaGreat
open Go.RowKit

variable {α : Type} {E : Enc α}

theorem run_append_zero {P : Program} {w : World} (base : Nat) (t ty e : TypeId) (i : TypeInfo) (size : Nat) (ht : P.underlying t = some (.slice e)) (hi : P.info? e = some i)
    (v : Value) (n : Nat) (xs : List Value) (hown : w.ownsRow base e size v n xs) (a : Option Addr) (c : Nat) :
    (Builtin.append_ #[t, t] ty #[v, .slice a 0 c]).run P w = .ok v w := by
  rcases hown.2 with ⟨rfl, rfl⟩ | ⟨g, cap, cur, rfl, _, _, hnc, _⟩
  · cases a <;> simp [Builtin.append_, run_underlying ht, sizeOf, typeInfo, hi, Builtin.lenOf, Builtin.firstCells, loadCells, loadCellsFrom]
  · cases a <;> simp [Builtin.append_, run_underlying ht, sizeOf, typeInfo, hi, Builtin.lenOf, Builtin.firstCells, hnc, storeCells, loadCells, loadCellsFrom]

theorem run_append_rd {w : World} (ty : TypeId) (B : Nat) (v : Value) (l : List α) (hb : RBuf E B w w v l) (vx : Value) (m : List α) (hx : Rows' E w vx m)
    (hlen : (l.length + m.length) * (E.bytes + 1) ≤ 140737488355328) :
    ∃ v' w', (Builtin.append_ #[E.sty, E.sty] ty #[v, vx]).run Tryz.prog w = .ok v' w' ∧ RBuf E B w' w' v' (l ++ m) ∧ w.grownBy w' v.ownBlock ∧ (v'.ownBlock = v.ownBlock ∨ v'.ownBlock = some w.heap.size) := by
  obtain ⟨i0, hi, hz0, hz1, hz2⟩ := info_parts E.info
  have e0 : (l.length + m.length) * (E.bytes + 1) = (l.length + m.length) * E.bytes + (l.length + m.length) := Nat.mul_succ _ _
  rcases hx with ⟨rfl, a, c, rfl⟩ | ⟨g, off, cap, rfl, hc, hg, hcl⟩
  · exact ⟨v, w, run_append_zero (P := Tryz.prog) B E.sty ty E.ty i0 E.sz E.und hi v l.length (E.row l) hb.own a c, by simpa using hb, World.grownBy.refl _ _, .inl rfl⟩
  · obtain ⟨v', w', h1, h2, h3, _, h5⟩ := run_append_own_at (P := Tryz.prog) w B E.sty ty E.ty i0 E.zero E.sz E.bytes E.und hi hz0 hz1 hz2 E.zc E.pos v l.length (E.row l) hb.own ⟨g, off, none⟩ m.length cap (E.row m) (E.row_length m)
      (fun j u hu => by
        have hjl : j < m.length * E.sz := by have := (List.getElem?_eq_some_iff.1 hu).1; rwa [E.row_length] at this
        have hp := E.pos
        have hq : j / E.sz < m.length := Nat.div_lt_of_lt_mul (by rw [Nat.mul_comm]; exact hjl)
        have hr : j % E.sz < E.sz := Nat.mod_lt _ hp
        have hj : j / E.sz * E.sz + j % E.sz = j := Nat.div_add_mod' j E.sz
        have hgq : m[j / E.sz]? = some m[j / E.sz] := List.getElem?_eq_getElem hq
        have h6 := E.row_at m (j / E.sz) _ hgq (j % E.sz) hr
        rw [hj, hu] at h6
        have h7 := hcl (j / E.sz) _ hgq (j % E.sz) u h6.symm
        rw [Nat.add_assoc, hj] at h7
        rw [Addr.add_lit]
        exact h7) (E.row_one' m) (by unfold maxLen; omega) (by omega) hb.le
    refine ⟨v', w', h1, ⟨?_, Below.refl _ _, Nat.le_trans hb.le h3.size⟩, h3, h5⟩
    rw [List.length_append, E.row_append]
    exact h2

theorem wp_append_rd {w : World} {o : Oper} {a : Act} {K : Act → World → Prop} {Q : Exit → Act → World → Prop} (s x : Operand) (E : Enc α)
    (ho : o.op = .call { callee := .builtin .append, args := #[s, x], argTypes := #[E.sty, E.sty] })
    (B : Nat) (v : Value) (l : List α) (hs : a.eval s = v) (hb : RBuf E B w w v l) (vx : Value) (m : List α) (hxv : a.eval x = vx) (hx : Rows' E w vx m)
    (hlen : (l.length + m.length) * (E.bytes + 1) ≤ 140737488355328)
    (h : ∀ v' w', RBuf E B w' w' v' (l ++ m) → w.grownBy w' v.ownBlock → (v'.ownBlock = v.ownBlock ∨ v'.ownBlock = some w.heap.size) → K (a.put o.dst v') w') : o.wp Tryz.prog a w K Q := by
  obtain ⟨v', w', hr, h2, h3, h4⟩ := run_append_rd o.type B v l hb vx m hx hlen
  unfold Oper.wp execOp
  simp only [ho, resolve, invoke, builtin, Sem.run_bind, Sem.run_pure, Result.andThen_ok, List.map_toArray, List.map_cons, List.map_nil, hs, hxv, hr]
  exact h v' w' h2 h3 h4

theorem wpList_append_rd {w : World} {ops : Array Oper} {rest : List Oper} {o : Oper} {a : Act} {Q : Exit → Act → World → Prop} (hgd : o.guard = none) (s x : Operand) (E : Enc α)
    (ho : o.op = .call { callee := .builtin .append, args := #[s, x], argTypes := #[E.sty, E.sty] })
    (B : Nat) (v : Value) (l : List α) (hs : a.eval s = v) (hb : RBuf E B w w v l) (vx : Value) (m : List α) (hxv : a.eval x = vx) (hx : Rows' E w vx m)
    (hlen : (l.length + m.length) * (E.bytes + 1) ≤ 140737488355328)
    (h : ∀ v' w', RBuf E B w' w' v' (l ++ m) → w.grownBy w' v.ownBlock → (v'.ownBlock = v.ownBlock ∨ v'.ownBlock = some w.heap.size) → wpList Tryz.prog ops Q rest (a.put o.dst v') w') : wpList Tryz.prog ops Q (o :: rest) a w :=
  wpList_plain hgd fun _ hK => wp_append_rd s x E ho B v l hs hb vx m hxv hx hlen fun v' w' h2 h3 h4 => hK _ _ (h v' w' h2 h3 h4)

end Go.Proofs.YtahebgceoidebaaGreat

/- What records tell: the model's BoxOf. -/
namespace Go.Proofs.YtahebgceoidebaaGreat
open Go.RowKit

/-- A store elsewhere leaves a list of the call's own. -/
theorem RBuf.aside {α : Type} {E : Enc α} {B : Nat} {w : World} {v : Value} {l : List α} (h : RBuf E B w w v l) (g i : Nat) (u : Value) (hg : g < B) : RBuf E B (w.setCell ⟨g, i, none⟩ u) (w.setCell ⟨g, i, none⟩ u) v l := by
  refine h.shift (stored_grown w g i u) ?_
  cases hb : v.ownBlock with
  | none => exact .inl rfl
  | some k => exact .inr (fun e => by have := (h.own.lt k hb).1; have := Option.some.inj e; omega)
/-- Five cells stored. -/
def set5 (w : World) (b : Nat) (v0 v1 v2 v3 v4 : Value) : World := ((((w.setCell ⟨b, 0, none⟩ v0).setCell ⟨b, 1, none⟩ v1).setCell ⟨b, 2, none⟩ v2).setCell ⟨b, 3, none⟩ v3).setCell ⟨b, 4, none⟩ v4


end Go.Proofs.YtahebgceoidebaaGreat

/- A box out of what is gathered of it. -/
namespace Go.Proofs.YtahebgceoidebaaGreat
open Go.RowKit

set_option maxRecDepth 100000 in
set_option maxHeartbeats 4000000 in
theorem box_any (t : Tb) (a n : Nat) (w : World) (h : TbAt w a n t) (hn : n ≤ 1000) (hdom : ∀ u x, t.adds u = some x → iK.ok u ∧ x.2.text.size ≤ 1000) (hu : t.named.2.user.size ≤ 1000) (hnm : t.named.2.name.size ≤ 1000) :
    Calls Tryz.prog 72 #[.pointer (some ⟨a + 2, 0, none⟩)] w fun e w' => ∃ (pm : Option Addr) (cm : Nat) (ms : List Ml), e = .returned (.agg #[.int .i64 t.named.2.valid, .string t.named.2.user, .string t.named.2.name, .int .i64 t.next, .slice pm ms.length cm]) ∧ RBuf mlE w.heap.size w' w' (.slice pm ms.length cm) ms ∧ Below w.heap.size w w' ∧ (∀ m, m ∈ ms ↔ ∃ x, t.adds m.uid = some x ∧ m = mlOf t m.uid x) ∧ ms.Pairwise (fun x y => x.uid < y.uid) ∧ ms.length ≤ n := by
  obtain ⟨⟨sq, K, V, U, N, FL, US, NM, TX⟩, nx, ad, fl⟩ := t
  simp only at hdom hu hnm ⊢
  have h0 := belNew w (.cells #[.int .i64 0, .string ⟨#[]⟩, .string ⟨#[]⟩, .int .i64 0, .slice none 0 0] 67)
  have B0 := Box.new w #[.int .i64 0, .string ⟨#[]⟩, .string ⟨#[]⟩, .int .i64 0, .slice none 0 0] 67
  have T0 := h.later h0
  have e0 : (w.alloc (.cells #[.int .i64 0, .string ⟨#[]⟩, .string ⟨#[]⟩, .int .i64 0, .slice none 0 0] 67)).heap.size = w.heap.size + 1 := by simp
  have la := h.box.lt
  obtain ⟨p0, p1, p2, p3, p4, p5, p6, p7, p8, p9, p10, p11⟩ := T0.box.twelve
  go_enter Tryz.func72, Tryz.ntmps72
  go_upto_region 1 with fail
  generalize w.alloc (.cells #[.int .i64 0, .string ⟨#[]⟩, .string ⟨#[]⟩, .int .i64 0, .slice none 0 0] 67) = w0 at h0 B0 T0 e0 p0 p1 p2 p3 p4 p5 p6 p7 p8 p9 p10 p11 ⊢
  have HE0 := Lib.hid e0
  clear e0
  have k1 := belNew w0 (.cells #[.int .i64 K, .int .i64 V, .int .i64 U, .int .i64 N, .int .i64 FL, .string US, .string NM, .string TX] 47)
  have X1 := Box.new w0 #[.int .i64 K, .int .i64 V, .int .i64 U, .int .i64 N, .int .i64 FL, .string US, .string NM, .string TX] 47
  have B1 := B0.later k1
  have T1 := T0.later k1
  have h1 := h0.trans (k1.mono h0.size)
  go_upto_region 2 with fail
  clear p0 p1 p2 p3 p4 p5 p6 p7 p8 p9 p10 p11
  generalize w0.alloc (.cells #[.int .i64 K, .int .i64 V, .int .i64 U, .int .i64 N, .int .i64 FL, .string US, .string NM, .string TX] 47) = w1 at k1 X1 B1 T1 h1 ⊢
  obtain ⟨gr, hgr⟩ : ∃ gr, w0.heap.size = gr := ⟨_, rfl⟩
  have hgr2 : gr = w.heap.size + 1 := by have := HE0.out; omega
  rw [hgr] at X1 ⊢
  obtain ⟨g, hg⟩ : ∃ g, w.heap.size = g := ⟨_, rfl⟩
  rw [hg] at B1
  have hg1 : g ≠ gr := by omega
  have hg2 : a + 2 < g := by omega
  have r1 : ∀ X, Kept g (g + 1) w1 X → X.cell? ⟨gr, 1, none⟩ = some (.int .i64 V) := fun X hX => by
    have hB : Box X gr #[.int .i64 K, .int .i64 V, .int .i64 U, .int .i64 N, .int .i64 FL, .string US, .string NM, .string TX] 47 := (hX.block gr X1.lt (by omega)).trans X1
    exact hB.cell 1 _ rfl
  have r5 : ∀ X, Kept g (g + 1) w1 X → X.cell? ⟨gr, 5, none⟩ = some (.string US) := fun X hX => by
    have hB : Box X gr #[.int .i64 K, .int .i64 V, .int .i64 U, .int .i64 N, .int .i64 FL, .string US, .string NM, .string TX] 47 := (hX.block gr X1.lt (by omega)).trans X1
    exact hB.cell 5 _ rfl
  have r6 : ∀ X, Kept g (g + 1) w1 X → X.cell? ⟨gr, 6, none⟩ = some (.string NM) := fun X hX => by
    have hB : Box X gr #[.int .i64 K, .int .i64 V, .int .i64 U, .int .i64 N, .int .i64 FL, .string US, .string NM, .string TX] 47 := (hX.block gr X1.lt (by omega)).trans X1
    exact hB.cell 6 _ rfl
  have HTX : Hid (∀ X, Kept g (g + 1) w1 X → TbAt X a n ⟨(sq, ⟨K, V, U, N, FL, US, NM, TX⟩), nx, ad, fl⟩) := fun X hX => T1.same (hX.block a T1.adds.lt (by omega)) (hX.block (a + 1) T1.flags.lt (by omega)) (hX.block (a + 2) T1.box.lt (by omega))
  have rn : ∀ X, Kept g (g + 1) w1 X → X.cell? ⟨a + 2, 9, none⟩ = some (.int .i64 nx) := fun X hX => (HTX.out X hX).box.cell 9 _ rfl
  have HML : Hid (∀ X, Kept g (g + 1) w1 X → _) := fun X hX => mails_any ⟨(sq, ⟨K, V, U, N, FL, US, NM, TX⟩), nx, ad, fl⟩ a n X (HTX.out X hX) hn hdom
  have HCU := Lib.hid (fun wx => clone_any US wx (by omega))
  have HCN := Lib.hid (fun wx => clone_any NM wx (by omega))
  have HBX : Hid (∀ X, Below w1.heap.size w1 X → Box X g #[.int .i64 0, .string ⟨#[]⟩, .string ⟨#[]⟩, .int .i64 0, .slice none 0 0] 67) := fun X hX => B1.later hX
  have HH1 := Lib.hid h1
  have HG := Lib.hid hg
  have HGS : Hid (g < w1.heap.size) := B1.lt
  have hbelow : Below w1.heap.size w1 w1.drew := (Below.refl _ _).drew
  rw [hg]
  clear X1 B1 T1 T0 B0 h0 h1 k1 hgr hgr2 hg hg1 hg2 la h hdom
  refine wp_region_held_drew (S := fun x => Kept g (g + 1) w1 x) (by kernel_rfl) ((Kept.of_below (Below.refl _ _) _ _).drew) (fun hHeld => ?_)
  refine takeL (i := 0) (v := .pointer (some ⟨gr, 1, none⟩)) rfl (by kernel_rfl) (by kernel_rfl) (by kernel_rfl) (fun _ _ _ h => h) (Or.inl ⟨by rfl, ?_⟩) (by assumption) ?_
  · intro x hSx; go_simp
  try simp only [Act.put, List.setIfInBounds_toArray, List.set_cons_zero, List.set_cons_succ]
  refine takeL (i := 1) (v := .int .i64 V) rfl (by kernel_rfl) (by kernel_rfl) (by kernel_rfl) (fun _ _ _ h => h) (Or.inl ⟨by rfl, ?_⟩) (by assumption) ?_
  · intro x hSx; have q0 := r1 x hSx; go_simp
  try simp only [Act.put, List.setIfInBounds_toArray, List.set_cons_zero, List.set_cons_succ]
  refine takeL (i := 2) (v := .pointer (some ⟨gr, 5, none⟩)) rfl (by kernel_rfl) (by kernel_rfl) (by kernel_rfl) (fun _ _ _ h => h) (Or.inl ⟨by rfl, ?_⟩) (by assumption) ?_
  · intro x hSx; go_simp
  try simp only [Act.put, List.setIfInBounds_toArray, List.set_cons_zero, List.set_cons_succ]
  refine takeL (i := 3) (v := .string US) rfl (by kernel_rfl) (by kernel_rfl) (by kernel_rfl) (fun _ _ _ h => h) (Or.inl ⟨by rfl, ?_⟩) (by assumption) ?_
  · intro x hSx; have q0 := r5 x hSx; go_simp
  try simp only [Act.put, List.setIfInBounds_toArray, List.set_cons_zero, List.set_cons_succ]
  refine takeL (i := 5) (v := .pointer (some ⟨gr, 6, none⟩)) rfl (by kernel_rfl) (by kernel_rfl) (by kernel_rfl) (fun _ _ _ h => h) (Or.inl ⟨by rfl, ?_⟩) (by assumption) ?_
  · intro x hSx; go_simp
  try simp only [Act.put, List.setIfInBounds_toArray, List.set_cons_zero, List.set_cons_succ]
  refine takeL (i := 6) (v := .string NM) rfl (by kernel_rfl) (by kernel_rfl) (by kernel_rfl) (fun _ _ _ h => h) (Or.inl ⟨by rfl, ?_⟩) (by assumption) ?_
  · intro x hSx; have q0 := r6 x hSx; go_simp
  try simp only [Act.put, List.setIfInBounds_toArray, List.set_cons_zero, List.set_cons_succ]
  refine takeL (i := 8) (v := .pointer (some ⟨a + 2, 0, none⟩)) rfl (by kernel_rfl) (by kernel_rfl) (by kernel_rfl) (fun _ _ _ h => h) (Or.inl ⟨by rfl, ?_⟩) (by assumption) ?_
  · intro x hSx; go_simp
  try simp only [Act.put, List.setIfInBounds_toArray, List.set_cons_zero, List.set_cons_succ]
  refine takeL (i := 9) (v := .pointer (some ⟨a + 2, 0, none⟩)) rfl (by kernel_rfl) (by kernel_rfl) (by kernel_rfl) (fun _ _ _ h => h) (Or.inl ⟨by rfl, ?_⟩) (by assumption) ?_
  · intro x hSx; go_simp
  try simp only [Act.put, List.setIfInBounds_toArray, List.set_cons_zero, List.set_cons_succ]
  refine takeL (i := 10) (v := .pointer (some ⟨a + 2, 9, none⟩)) rfl (by kernel_rfl) (by kernel_rfl) (by kernel_rfl) (fun _ _ _ h => h) (Or.inl ⟨by rfl, ?_⟩) (by assumption) ?_
  · intro x hSx; go_simp
  try simp only [Act.put, List.setIfInBounds_toArray, List.set_cons_zero, List.set_cons_succ]
  refine takeL (i := 11) (v := .int .i64 nx) rfl (by kernel_rfl) (by kernel_rfl) (by kernel_rfl) (fun _ _ _ h => h) (Or.inl ⟨by rfl, ?_⟩) (by assumption) ?_
  · intro x hSx; have q0 := rn x hSx; go_simp
  try simp only [Act.put, List.setIfInBounds_toArray, List.set_cons_zero, List.set_cons_succ]
  refine takeL (i := 12) (v := .pointer (some ⟨a + 2, 0, none⟩)) rfl (by kernel_rfl) (by kernel_rfl) (by kernel_rfl) (fun _ _ _ h => h) (Or.inl ⟨by rfl, ?_⟩) (by assumption) ?_
  · intro x hSx; go_simp
  try simp only [Act.put, List.setIfInBounds_toArray, List.set_cons_zero, List.set_cons_succ]
  refine wpAnyH_ready (rs := [4]) (by kernel_rfl) (by simp) ?_
  refine readyOne rfl (fun K' hK => ?_)
  go_simp
  refine (HCU.out _).mono ?_
  rintro e wT4 ⟨rfl, k4⟩
  go_wp2_with fail
  refine hK.out _ _ (hHeld.trans (Kept.of_below k4 _ _)) (fun hS2 => ?_)
  clear hK K' hHeld
  have hHeld := hS2
  clear hS2
  try simp only [Act.put, List.setIfInBounds_toArray, List.set_cons_zero, List.set_cons_succ]
  refine wpAnyH_ready (rs := [7]) (by kernel_rfl) (by simp) ?_
  refine readyOne rfl (fun K' hK => ?_)
  go_simp
  refine (HCN.out _).mono ?_
  rintro e wT7 ⟨rfl, k7⟩
  go_wp2_with fail
  refine hK.out _ _ (hHeld.trans (Kept.of_below k7 _ _)) (fun hS2 => ?_)
  clear hK K' hHeld
  have hHeld := hS2
  clear hS2
  try simp only [Act.put, List.setIfInBounds_toArray, List.set_cons_zero, List.set_cons_succ]
  refine wpAnyH_ready (rs := [13]) (by kernel_rfl) (by simp) ?_
  refine readyOne rfl (fun K' hK => ?_)
  go_simp
  refine (HML.out _ hHeld).mono ?_
  rintro e wT13 ⟨mv, ms, rfl, RM, hm1, hm2, hm3⟩
  go_wp2_with fail
  refine hK.out _ _ (hHeld.trans (Kept.of_below RM.bel _ _)) (fun hS2 => ?_)
  clear hK K' hHeld
  have hHeld := hS2
  clear hS2
  try simp only [Act.put, List.setIfInBounds_toArray, List.set_cons_zero, List.set_cons_succ]
  obtain ⟨pm, cm, rfl⟩ := RM.form
  refine takeL (i := 14) (v := .agg #[.int .i64 V, .string US, .string NM, .int .i64 nx, .slice pm ms.length cm]) rfl (by kernel_rfl) (by kernel_rfl) (by kernel_rfl) (fun _ _ _ h => h) (Or.inl ⟨by rfl, ?_⟩) (by assumption) ?_
  · intro x hSx; go_simp
  try simp only [Act.put, List.setIfInBounds_toArray, List.set_cons_zero, List.set_cons_succ]
  have kT : Below w1.heap.size w1 wT13 := (hbelow.trans (k4.trans (k7.mono k4.size))).trans (RM.bel.mono (Nat.le_trans (Nat.le_trans hbelow.size k4.size) k7.size))
  have BT := HBX.out _ kT
  have HS5 : Hid (Kept g (g + 1) w1 (set5 wT13 g (.int .i64 V) (.string US) (.string NM) (.int .i64 nx) (.slice pm ms.length cm))) := ((((hHeld.store g 0 _ (by omega) (by omega)).store g 1 _ (by omega) (by omega)).store g 2 _ (by omega) (by omega)).store g 3 _ (by omega) (by omega)).store g 4 _ (by omega) (by omega)
  have HGT : Hid (g < wT7.heap.size) := Nat.lt_of_lt_of_le HGS.out (Nat.le_trans hbelow.size (Nat.le_trans k4.size k7.size))
  have L5 : Box (set5 wT13 g (.int .i64 V) (.string US) (.string NM) (.int .i64 nx) (.slice pm ms.length cm)) g #[.int .i64 V, .string US, .string NM, .int .i64 nx, .slice pm ms.length cm] 67 := ((((BT.set 0 _).set 1 _).set 2 _).set 3 _).set 4 _
  have HR5 : Hid (RBuf mlE wT7.heap.size (set5 wT13 g (.int .i64 V) (.string US) (.string NM) (.int .i64 nx) (.slice pm ms.length cm)) (set5 wT13 g (.int .i64 V) (.string US) (.string NM) (.int .i64 nx) (.slice pm ms.length cm)) (.slice pm ms.length cm) ms) := ((((RM.here.aside g 0 _ HGT.out).aside g 1 _ HGT.out).aside g 2 _ HGT.out).aside g 3 _ HGT.out).aside g 4 _ HGT.out
  have HB5 : Hid (Below g w (set5 wT13 g (.int .i64 V) (.string US) (.string NM) (.int .i64 nx) (.slice pm ms.length cm))) := by
    have h0 : Below w.heap.size w wT13 := HH1.out.trans (kT.mono HH1.out.size)
    rw [HG.out] at h0
    exact ((((h0.setCell (p := ⟨g, 0, none⟩) (Nat.le_refl _) _).setCell (p := ⟨g, 1, none⟩) (Nat.le_refl _) _).setCell (p := ⟨g, 2, none⟩) (Nat.le_refl _) _).setCell (p := ⟨g, 3, none⟩) (Nat.le_refl _) _).setCell (p := ⟨g, 4, none⟩) (Nat.le_refl _) _
  have hgT : g ≤ wT7.heap.size := Nat.le_of_lt HGT.out
  unfold set5 at HS5 L5 HR5 HB5
  obtain ⟨z0, z1, z2, z3, z4⟩ := L5.five
  obtain ⟨u0, u1, u2, u3, u4⟩ := BT.five
  have f0 := BT.loose 0
  have f1 := BT.loose 1
  have f2 := BT.loose 2
  have f3 := BT.loose 3
  have f4 := BT.loose 4
  have HM1 := Lib.hid hm1
  have HM2 := Lib.hid hm2
  clear L5 BT kT RM k4 k7 hbelow hm1 hm2
  refine wpAnyH_ready (rs := [15]) (by kernel_rfl) (by simp) ?_
  refine readyOne rfl (fun K' hK => ?_)
  go_simp
  refine hK.out _ _ HS5.out (fun hS2 => ?_)
  clear hK K' hHeld hS2
  try simp only [Act.put, List.setIfInBounds_toArray, List.set_cons_zero, List.set_cons_succ]
  refine wpAnyH_done (by kernel_rfl) ?_ _
  go_wp2
  refine bodyPost_ret (v := .agg #[.int .i64 V, .string US, .string NM, .int .i64 nx, .slice pm ms.length cm]) (by simp [results, Tryz.results72, go_sem, z0, z1, z2, z3, z4]) rfl ⟨pm, cm, ms, rfl, ?_, ?_, HM1.out, HM2.out, hm3⟩
  · rw [HG.out]; exact HR5.out.lower hgT
  · rw [HG.out]; exact HB5.out

end Go.Proofs.YtahebgceoidebaaGreat
