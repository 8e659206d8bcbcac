/- Texts of our own, joined. -/
import Derived.Test.YtgcnebepklelpaaGreatJk
import Derived.Test.YtgcnebepklelpaaGreatJi
import Derived.Test.YtgcnebepklelpaaGreatJh
import Derived.Test.YtgcnebepklelpaaGreatJe
import Derived.Test.YtgcnebepklelpaaGreatJd
import Derived.Test.YtgcnebepklelpaaGreatJc
import Derived.Test.YtgcnebepklelpaaGreatJa
import Derived.Maps.RangeWalk
import Derived.Maps.OwnSet
/- The helpers of the exact laws over boxes and states: each is marked, and the marks are held. -/
namespace Go.Proofs.YtgcnebepklelpaaGreat
open Go.RowKit

theorem set_ways {α : Type} {l : List α} {i j : Nat} {y z : α} (h : (l.set i y)[j]? = some z) : (j = i ∧ z = y) ∨ (j ≠ i ∧ l[j]? = some z) := by
  by_cases c : j = i
  · subst c
    have hl : j < l.length := by have := (List.getElem?_eq_some_iff.1 h).1; simpa using this
    rw [List.getElem?_set_self hl] at h
    exact .inl ⟨rfl, (Option.some.inj h).symm⟩
  · rw [List.getElem?_set_ne (fun e => c e.symm)] at h
    exact .inr ⟨c, h⟩

theorem StO.store {B : Nat} {w : World} {g n cap : Nat} {bs : List Bx} {hs : List BxH} (h : StO B w (.slice (some ⟨g, 0, none⟩) n cap) bs hs) (hn : n = hs.length) {i : Nat} {x : BxH} (hx : hs[i]? = some x) {b : Bx} (hb : bs[i]? = some b)
    (c : Nat) (hc : c < 5) (u : Value) (x' : BxH) (hf : hdE.f x' = (hdE.f x).set c u) (hmv : x'.mv = x.mv) (b' : Bx) (hb' : x'.valid = b'.valid ∧ x'.user = b'.user ∧ x'.name = b'.name ∧ x'.next = b'.next) (hm : b'.mails = b.mails) :
    StO B (w.setCell ⟨g, i * 5 + c, none⟩ u) (.slice (some ⟨g, 0, none⟩) n cap) (bs.set i b') (hs.set i x') := by
  subst hn
  have hg := grownBy_store w g (i * 5 + c) u
  have kept : ∀ (m : Value) (l : List Ml), RBuf mlE B w w m l → (∀ k, m.ownBlock = some k → (Value.slice (some ⟨g, 0, none⟩) hs.length cap).ownBlock ≠ some k) → RBuf mlE B (w.setCell ⟨g, i * 5 + c, none⟩ u) (w.setCell ⟨g, i * 5 + c, none⟩ u) m l := fun m l hm hf => by
    refine hm.shift hg ?_
    cases hmb : m.ownBlock with
    | none => exact .inl rfl
    | some k => exact .inr (fun e => hf k hmb e.symm)
  have hmvs : ∀ {j : Nat} {y : BxH}, (hs.set i x')[j]? = some y → ∃ z, hs[j]? = some z ∧ y.mv = z.mv := fun {j y} hj => by
    rcases set_ways hj with ⟨rfl, rfl⟩ | ⟨_, hj⟩
    · exact ⟨x, hx, hmv⟩
    · exact ⟨y, hj, rfl⟩
  refine ⟨(h.row.stored i x x' hx c hc u hf).here, by simp [h.len], fun j y d h1 h2 => ?_, fun j y h1 k hk => ?_, fun j k y z h1 h2 hjk q hq => ?_⟩
  · rcases set_ways h1 with ⟨rfl, rfl⟩ | ⟨hne, h1⟩
    · rcases set_ways h2 with ⟨_, rfl⟩ | ⟨hne, _⟩
      · refine ⟨hb', ?_⟩
        rw [hmv, hm]
        exact kept _ _ (h.at' j x b hx hb).2 (h.far j x hx)
      · exact absurd rfl hne
    · rcases set_ways h2 with ⟨e, _⟩ | ⟨_, h2⟩
      · exact absurd e hne
      · exact ⟨(h.at' j y d h1 h2).1, kept _ _ (h.at' j y d h1 h2).2 (h.far j y h1)⟩
  · obtain ⟨z, hz, e⟩ := hmvs h1
    rw [e] at hk
    exact h.far j z hz k hk
  · obtain ⟨y0, hy0, e1⟩ := hmvs h1
    obtain ⟨z0, hz0, e2⟩ := hmvs h2
    rw [e1] at hq
    rw [e2]
    exact h.apart j k y0 z0 hy0 hz0 hjk q hq

theorem StO.mails {B : Nat} {w w' : World} {v : Value} {bs : List Bx} {hs : List BxH} (h : StO B w v bs hs) {i : Nat} {x : BxH} (hx : hs[i]? = some x) {b : Bx} (hb : bs[i]? = some b) (ms : List Ml) (hr : RBuf mlE B w' w' x.mv ms) (hg : w.grownBy w' x.mv.ownBlock) :
    StO B w' v (bs.set i ⟨b.valid, b.user, b.name, b.next, ms⟩) hs := by
  refine ⟨h.row.shift hg ?_, by simp [h.len], fun j y d h1 h2 => ?_, h.far, h.apart⟩
  · cases hv : x.mv.ownBlock with
    | none =>
      cases hv2 : v.ownBlock with
      | none => exact .inl rfl
      | some k => exact .inr (fun e => by cases e)
    | some k => exact .inr (fun e => h.far i x hx k hv e)
  · rcases set_ways h2 with ⟨rfl, rfl⟩ | ⟨hne, h2⟩
    · rw [hx] at h1
      cases h1
      exact ⟨(h.at' j x b hx hb).1, hr⟩
    · refine ⟨(h.at' j y d h1 h2).1, (h.at' j y d h1 h2).2.shift hg ?_⟩
      cases hy : y.mv.ownBlock with
      | none => exact .inl rfl
      | some k => exact .inr (fun e => h.apart j i y x h1 hx hne k hy e.symm)

theorem StO.cellAt {B : Nat} {w : World} {g n cap : Nat} {bs : List Bx} {hs : List BxH} (h : StO B w (.slice (some ⟨g, 0, none⟩) n cap) bs hs) {i : Nat} {y : BxH} (hy : hs[i]? = some y) (hl : n = hs.length) (q : Nat) (u : Value) (hu : (hdE.f y)[q]? = some u) : w.cell? ⟨g, i * 5 + q, none⟩ = some u ∧ w.frozen? ⟨g, i * 5 + q, none⟩ = false := by
  subst hl
  exact ⟨h.row.cell rfl i y hy q u hu, h.row.loose _⟩

set_option maxRecDepth 100000 in
set_option maxHeartbeats 4000000 in
theorem markBoxS_any (bs : List Bx) (v : Value) (k B : Nat) (hs : List BxH) (w : World) (h : StO B w v bs hs) (_hk : 1 ≤ k) (hk2 : kE k bs ≤ 1099511627776) (hl : bs.length ≤ 1099511627776) :
    Calls Tryz.prog 26 #[v, .int .i64 (k : Int)] w fun e w' => e = .returned (.int .i64 (kE k bs : Int)) ∧ (∃ hs', StO B w' v (marksB k bs) hs') ∧ Below B w w' ∧ (∀ q, q < w.heap.size → v.ownBlock ≠ some q → (∀ (j : Nat) (x : BxH), hs[j]? = some x → x.mv.ownBlock ≠ some q) → w'.heap[q]? = w.heap[q]?) := by
  have hB := h.row.le
  have hl0 := h.len
  rcases h.row.own.2 with ⟨rfl, h0⟩ | ⟨g, cap, cur, rfl, hg, hh, hnc, hcp, hcs, htake⟩
  · obtain rfl := List.length_eq_zero_iff.1 h0
    obtain rfl := List.length_eq_zero_iff.1 hl0.symm
    go_enter Tryz.func26, Tryz.ntmps26
    go_wp2
    go_loop [1, 5] (fun kv iv => kv = .int .i64 (k : Int) ∧ iv = .int .i64 0) (fun _ _ => 0)
    case atStart => exact ⟨rfl, rfl⟩
    case round =>
      obtain ⟨rfl, rfl⟩ := hrel
      go_wp2
      go_ret
      exact ⟨rfl, ⟨[], h⟩, Below.refl _ _, by intros; rfl⟩
  · clear hh hcs htake hcp
    rw [hl0] at h ⊢
    go_enter Tryz.func26, Tryz.ntmps26
    go_wp2
    go_loopw [1, 5] (fun kv iv wr => ∃ (i : Nat) (hs' : List BxH), i ≤ bs.length ∧ iv = .int .i64 (i : Int) ∧ kv = .int .i64 ((kE k (bs.take i) : Nat) : Int) ∧ StO B wr (.slice (some ⟨g, 0, none⟩) bs.length cap) (putB k bs i) hs' ∧ Below B w wr ∧ (∀ (j : Nat) (y : BxH), hs'[j]? = some y → ∃ x, hs[j]? = some x ∧ y.mv = x.mv) ∧ ∀ q, q < w.heap.size → q ≠ g → (∀ (j : Nat) (x : BxH), hs[j]? = some x → x.mv.ownBlock ≠ some q) → wr.heap[q]? = w.heap[q]?) (fun _ iv _ => bs.length - (intOf iv).toNat)
    case atStart => exact ⟨0, hs, by omega, rfl, rfl, by rw [putB_zero]; exact h, Below.refl _ _, fun j y hy => ⟨y, hy, rfl⟩, fun _ _ _ _ => rfl⟩
    case round =>
      clear h
      obtain ⟨i, hs', hi, rfl, rfl, S, hb, hmv, hkp⟩ := hrel
      have HMV := Lib.hid hmv
      have HKP := Lib.hid hkp
      clear hmv hkp
      by_cases hlt : i < bs.length
      · have hgb : bs[i]? = some bs[i] := List.getElem?_eq_getElem hlt
        have hpl := putB_length k bs i hi
        have hn : bs.length = hs'.length := by rw [S.len, hpl]
        have hpa := putB_at k bs i _ hgb
        have hx : hs'[i]? = some (hs'[i]'(by omega)) := List.getElem?_eq_getElem (by omega)
        have hset := putB_set k bs i _ hgb
        have hkt := kE_take k bs i _ hgb
        have hkl := kE_take_le k bs (i + 1)
        have hkg := kE_le k (bs.take i)
        generalize bs[i] = b at *
        generalize hs'[i]'(by omega) = x at hx
        obtain ⟨K, hK⟩ : ∃ K, kE k (bs.take i) = K := ⟨_, rfl⟩
        rw [hK] at hset hkt hkg ⊢
        have HK := Lib.hid hkt
        have HSET := Lib.hid hset
        rw [hkt] at hkl
        unfold kB at hkl
        obtain ⟨⟨e1, e2, e3, e4⟩, hmr⟩ := S.at' i x b hx hpa
        clear hset hkt hK hgb
        have hi0 : (0 : Int) ≤ (i : Int) := by omega
        have hi1 : (i : Int) < (bs.length : Int) := by omega
        obtain ⟨xv, xu, xn, xx, xa, xl, xc⟩ := x
        simp only at e1 e2 e3 e4
        have hn1 : ∀ y : BxH, bs.length = (hs'.set i y).length := fun y => by simp; omega
        have hil : i < hs'.length := by omega
        have hip : i < (putB k bs i).length := by omega
        have gx : ∀ y : BxH, (hs'.set i y)[i]? = some y := fun y => List.getElem?_set_self hil
        have gb : ∀ y : Bx, ((putB k bs i).set i y)[i]? = some y := fun y => List.getElem?_set_self hip
        have S1 : StO B (wr.setCell ⟨g, i * 5, none⟩ (.int .i64 (K : Int))) (.slice (some ⟨g, 0, none⟩) bs.length cap) ((putB k bs i).set i ⟨K, b.user, b.name, b.next, b.mails⟩) (hs'.set i ⟨K, xu, xn, xx, xa, xl, xc⟩) :=
          S.store hn hx hpa 0 (by decide) (.int .i64 (K : Int)) ⟨K, xu, xn, xx, xa, xl, xc⟩ rfl rfl ⟨K, b.user, b.name, b.next, b.mails⟩ ⟨rfl, e2, e3, e4⟩ rfl
        obtain ⟨c0, f0⟩ := S.cellAt hx hn 0 _ rfl
        simp only [Nat.add_zero] at c0 f0
        have hgB := hg
        have HBS : Hid (w.heap.size ≤ wr.heap.size) := hb.size
        have b1 : Below B w (wr.setCell ⟨g, i * 5, none⟩ (.int .i64 (K : Int))) := hb.setCell (p := ⟨g, i * 5, none⟩) hgB _
        have G1 : wr.grownBy (wr.setCell ⟨g, i * 5, none⟩ (.int .i64 (K : Int))) (some g) := grownBy_store _ _ _ _
        have HMX : Hid (∃ x0, hs[i]? = some x0 ∧ (⟨xv, xu, xn, xx, xa, xl, xc⟩ : BxH).mv = x0.mv) := HMV.out i _ hx
        clear S hb
        have HN1 := Lib.hid hn1
        clear hn hpl hil hip
        have HGX := Lib.hid gx
        have HGB := Lib.hid gb
        clear hn1 gx gb
        go_wp2_with fail
        clear c0 f0
        generalize wr.setCell ⟨g, i * 5, none⟩ (.int .i64 (K : Int)) = X1 at S1 b1 G1 ⊢
        refine (markText_at _ (K + 1) _ (by omega) (by omega) (by omega)).mono ?_
        rintro e w2 ⟨rfl, k2⟩
        replace S1 := S1.later k2
        have b2 := b1.trans (k2.mono (Nat.le_trans hB b1.size))
        obtain ⟨c0, f0⟩ := S1.cellAt (HGX.out _) (HN1.out _) 1 _ rfl
        have S2 := S1.store (HN1.out _) (HGX.out _) (HGB.out _) 1 (by decide) (.string (mark (K + 1))) ⟨K, mark (K + 1), xn, xx, xa, xl, xc⟩ rfl rfl ⟨K, mark (K + 1), b.name, b.next, b.mails⟩ ⟨rfl, rfl, e3, e4⟩ rfl
        rw [List.set_set, List.set_set] at S2
        replace b2 : Below B w (w2.setCell ⟨g, i * 5 + 1, none⟩ (.string (mark (K + 1)))) := b2.setCell (p := ⟨g, i * 5 + 1, none⟩) hgB _
        have G2 := (G1.trans (grownBy_of_below k2 (some g))).trans (grownBy_store w2 g (i * 5 + 1) (.string (mark (K + 1))))
        clear S1 b1 k2 G1
        go_wp2_with fail
        clear c0 f0
        generalize w2.setCell ⟨g, i * 5 + 1, none⟩ (.string (mark (K + 1))) = X2 at S2 b2 G2 ⊢
        refine (markText_at _ (K + 2) _ (by omega) (by omega) (by omega)).mono ?_
        rintro e w3 ⟨rfl, k3⟩
        replace S2 := S2.later k3
        have b3 := b2.trans (k3.mono (Nat.le_trans hB b2.size))
        obtain ⟨c0, f0⟩ := S2.cellAt (HGX.out _) (HN1.out _) 2 _ rfl
        have S3 := S2.store (HN1.out _) (HGX.out _) (HGB.out _) 2 (by decide) (.string (mark (K + 2))) ⟨K, mark (K + 1), mark (K + 2), xx, xa, xl, xc⟩ rfl rfl ⟨K, mark (K + 1), mark (K + 2), b.next, b.mails⟩ ⟨rfl, rfl, rfl, e4⟩ rfl
        rw [List.set_set, List.set_set] at S3
        obtain ⟨c3, f3⟩ := S3.cellAt (HGX.out _) (HN1.out _) 3 _ rfl
        replace b3 : Below B w (w3.setCell ⟨g, i * 5 + 2, none⟩ (.string (mark (K + 2)))) := b3.setCell (p := ⟨g, i * 5 + 2, none⟩) hgB _
        have S4 := S3.store (HN1.out _) (HGX.out _) (HGB.out _) 3 (by decide) (.int .i64 ((K : Int) + 1 + 1 + 1)) ⟨K, mark (K + 1), mark (K + 2), (K : Int) + 1 + 1 + 1, xa, xl, xc⟩ rfl rfl ⟨K, mark (K + 1), mark (K + 2), (K : Int) + 1 + 1 + 1, b.mails⟩ ⟨rfl, rfl, rfl, rfl⟩ rfl
        rw [List.set_set, List.set_set] at S4
        obtain ⟨c4, f4⟩ := S4.cellAt (HGX.out _) (HN1.out _) 4 _ rfl
        have G3 := ((G2.trans (grownBy_of_below k3 (some g))).trans (grownBy_store w3 g (i * 5 + 2) (.string (mark (K + 2))))).trans (grownBy_store _ g (i * 5 + 3) (.int .i64 ((K : Int) + 1 + 1 + 1)))
        clear S2 b2 k3 G2
        have b4 : Below B w ((w3.setCell ⟨g, i * 5 + 2, none⟩ (.string (mark (K + 2)))).setCell ⟨g, i * 5 + 3, none⟩ (.int .i64 ((K : Int) + 1 + 1 + 1))) := b3.setCell (p := ⟨g, i * 5 + 3, none⟩) hgB _
        go_wp2_with fail
        clear c0 f0 c3 f3 c4 f4 S3 b3
        generalize (w3.setCell ⟨g, i * 5 + 2, none⟩ (.string (mark (K + 2)))).setCell ⟨g, i * 5 + 3, none⟩ (.int .i64 ((K : Int) + 1 + 1 + 1)) = X4 at S4 b4 G3 ⊢
        have hK4 : (K : Int) + 1 + 1 + 1 + 1 = ((K + 4 : Nat) : Int) := by omega
        rw [hK4]
        have hmr4 := (S4.at' i _ _ (HGX.out _) (HGB.out _)).2
        refine (markMailS_any b.mails _ (K + 4) B X4 X4 hmr4 (by omega) (by omega)).mono ?_
        rintro e w5 ⟨rfl, r5, g5⟩
        have S5 := S4.mails (HGX.out _) (HGB.out _) _ r5.here g5
        rw [List.set_set] at S5
        have b5 : Below B w w5 := b4.grown g5 (Nat.le_trans hB b4.size) (fun q hq => (hmr4.own.lt q hq).1)
        have HKN : Hid (∀ q, q < w.heap.size → q ≠ g → (∀ (j : Nat) (x : BxH), hs[j]? = some x → x.mv.ownBlock ≠ some q) → w5.heap[q]? = w.heap[q]?) := fun q hq hqg hqm => by
          obtain ⟨x0, hx0, ex⟩ := HMX.out
          have hwr : q < wr.heap.size := Nat.lt_of_lt_of_le hq HBS.out
          have e1 := g5.block q (Nat.lt_of_lt_of_le hwr G3.size) (fun e => hqm i x0 hx0 (by rw [← ex]; exact e.symm))
          have e2 := G3.block q hwr (fun e => hqg (Option.some.inj e))
          exact (e1.trans e2).trans (HKP.out q hq hqg hqm)
        have HMN : Hid (∀ (j : Nat) (y : BxH), (hs'.set i ⟨K, mark (K + 1), mark (K + 2), (K : Int) + 1 + 1 + 1, xa, xl, xc⟩)[j]? = some y → ∃ x, hs[j]? = some x ∧ y.mv = x.mv) := fun j y hy => by
          rcases set_ways hy with ⟨rfl, rfl⟩ | ⟨_, hy⟩
          · exact HMX.out
          · exact HMV.out j y hy
        have hmk : (⟨(K : Int), mark (K + 1), mark (K + 2), (K : Int) + 1 + 1 + 1, marksL (K + 4) b.mails.length⟩ : Bx) = markB K b := by
          unfold markB
          rw [show (K : Int) + 1 + 1 + 1 = ((K + 3 : Nat) : Int) by omega]
        rw [hmk, HSET.out] at S5
        have HS5 := Lib.hid S5
        clear S5 S4 r5 g5 b4 hmr4 hmk G3
        go_wp2
        exact ⟨⟨i + 1, _, by omega, by simp, by rw [HK.out]; rfl, HS5.out, b5, HMN.out, HKN.out⟩, by first | omega | (simp [intOf]; omega)⟩
      · have hge : ¬ (i : Int) < (bs.length : Int) := by omega
        have hil : i = bs.length := by omega
        have HE : Hid (kE k bs = kE k (bs.take i) ∧ putB k bs i = marksB k bs) := ⟨by rw [hil, List.take_length], by rw [hil, putB_all]⟩
        rw [HE.out.2] at S
        have HS := Lib.hid S
        clear S
        go_wp2
        go_ret
        exact ⟨by rw [HE.out.1]; rfl, ⟨_, HS.out⟩, hb, fun q hq hqv hqm => HKP.out q hq (fun e => hqv (by rw [e]; rfl)) hqm⟩

set_option maxRecDepth 100000 in
set_option maxHeartbeats 4000000 in
theorem heldBoxS_any (bs : List Bx) (v : Value) (k : Nat) (w : World) (h : BRd w v (marksB k bs)) (hk : 1 ≤ k) (hk2 : kE k bs ≤ 1099511627776) (hl : bs.length ≤ 1099511627776) :
    Calls Tryz.prog 27 #[v, .int .i64 (k : Int)] w fun e w' => e = .returned (.int .i64 (kE k bs : Int)) ∧ Below w.heap.size w w' := by
  obtain ⟨ad, cap, rfl, hrow⟩ := h.boxes
  rw [marksB_length] at *
  have HR := Lib.hid hrow
  clear h hrow
  go_enter Tryz.func27, Tryz.ntmps27
  go_wp2
  go_loopw [1, 5] (fun kv iv wr => ∃ i : Nat, i ≤ bs.length ∧ iv = .int .i64 (i : Int) ∧ kv = .int .i64 ((kE k (bs.take i) : Nat) : Int) ∧ Below w.heap.size w wr) (fun _ iv _ => bs.length - (intOf iv).toNat)
  case atStart => exact ⟨0, by omega, rfl, rfl, Below.refl _ _⟩
  case round =>
    obtain ⟨i, hi, rfl, rfl, hb⟩ := hrel
    by_cases hlt : i < bs.length
    · have hgb : bs[i]? = some bs[i] := List.getElem?_eq_getElem hlt
      have hma := marksB_at k bs i _ hgb
      have hkt := kE_take k bs i _ hgb
      have hkl := kE_take_le k bs (i + 1)
      have hkg := kE_le k (bs.take i)
      generalize bs[i] = b at *
      obtain ⟨K, hK⟩ : ∃ K, kE k (bs.take i) = K := ⟨_, rfl⟩
      rw [hK] at hma hkt hkg ⊢
      have HK := Lib.hid hkt
      rw [hkt] at hkl
      unfold kB at hkl
      clear hkt hK hgb
      have hi0 : (0 : Int) ≤ (i : Int) := by omega
      have hi1 : (i : Int) < (bs.length : Int) := by omega
      obtain ⟨ga, oa, a1, n1, c1, rfl, p0r, p1, p2, p3, p4, ra⟩ := HR.out _ hb i _ hma
      have HP : Hid (∀ X, Below w.heap.size w X → X.cell? ⟨ga, oa + i * 5 + 1, none⟩ = some (.string (mark (K + 1))) ∧ X.cell? ⟨ga, oa + i * 5 + 2, none⟩ = some (.string (mark (K + 2))) ∧ X.cell? ⟨ga, oa + i * 5 + 3, none⟩ = some (.int .i64 ((K + 3 : Nat) : Int)) ∧ X.cell? ⟨ga, oa + i * 5 + 4, none⟩ = some (.slice a1 n1 c1)) := by
        obtain ⟨ga2, oa2, a2, n2, c2, e2, q0, q1, q2, q3, q4, _⟩ := HR.out _ (Below.refl _ _) i _ hma
        cases e2
        have p4' := p4
        rw [(hb.cell (p := ⟨ga, oa + i * 5 + 4, none⟩) (World.block_lt_of_cell? _ _ q4)), q4] at p4'
        cases p4'
        exact fun X hX => ⟨(hX.cell (World.block_lt_of_cell? _ _ q1)).trans q1, (hX.cell (World.block_lt_of_cell? _ _ q2)).trans q2, (hX.cell (World.block_lt_of_cell? _ _ q3)).trans q3, (hX.cell (World.block_lt_of_cell? _ _ q4)).trans q4⟩
      have p0 : wr.cell? ⟨ga, oa + i * 5, none⟩ = some (.int .i64 (K : Int)) := p0r
      clear p0r p1 p2 p3 p4 hma
      have HRA : Hid (∀ X, Below w.heap.size w X → Rows' mlE X (.slice a1 n1 c1) (marksL (K + 4) b.mails.length)) := fun X hX => ra.later hX
      clear ra
      obtain ⟨t1, ht1⟩ : ∃ t, mark (K + 1) = t := ⟨_, rfl⟩
      obtain ⟨t2, ht2⟩ : ∃ t, mark (K + 2) = t := ⟨_, rfl⟩
      rw [ht1, ht2] at HP
      have HT1 := Lib.hid ht1
      have HT2 := Lib.hid ht2
      clear ht1 ht2
      have hbd : Below w.heap.size w wr.drew := hb.drew
      go_wp2
      clear p0
      go_region_held3 (fun X => X.cell? ⟨ga, oa + i * 5 + 1, none⟩ = some (.string t1))
        (first | exact (HP.out _ hbd).1 | exact (HP.out _ hb1).1)
        (first | (go_at_call 50; refine (markText_at _ (K + 1) _ (by omega) (by omega) (by omega)).mono ?_; rintro e w1 ⟨rfl, k1⟩; rw [HT1.out]; have hb1 := hbd.trans (k1.mono hbd.size)))
      rename_i hHeld
      clear hHeld k1 hbd hb
      have hbd := hb1.drew
      go_wp2
      go_region_held3 (fun X => X.cell? ⟨ga, oa + i * 5 + 2, none⟩ = some (.string t2))
        (first | exact (HP.out _ hbd).2.1 | exact (HP.out _ hb2).2.1)
        (first | (go_at_call 50; refine (markText_at _ (K + 2) _ (by omega) (by omega) (by omega)).mono ?_; rintro e w2 ⟨rfl, k2⟩; rw [HT2.out]; have hb2 := hbd.trans (k2.mono hbd.size)))
      rename_i hHeld
      clear hHeld k2 hbd hb1
      have p3 := (HP.out _ hb2).2.2.1
      have p4 := (HP.out _ hb2).2.2.2
      have hK3 : ((K + 3 : Nat) : Int) = (K : Int) + 1 + 1 + 1 := by omega
      rw [hK3] at p3
      go_wp2_with fail
      clear p3 p4
      have hK4 : (K : Int) + 1 + 1 + 1 + 1 = ((K + 4 : Nat) : Int) := by omega
      rw [hK4]
      refine (heldMailS_any b.mails.length _ (K + 4) _ (HRA.out _ hb2) (by omega) (by omega)).mono ?_
      rintro e w3 ⟨rfl, k3⟩
      have b3 := hb2.trans (k3.mono hb2.size)
      have hpos : ¬ (((K + 4 + 3 * b.mails.length : Nat) : Int) < 0) := by omega
      obtain ⟨Q, hQ⟩ : ∃ Q : Nat, K + 4 + 3 * b.mails.length = Q := ⟨_, rfl⟩
      rw [hQ] at hpos ⊢
      have HQ := Lib.hid hQ
      clear hQ k3
      go_wp2
      exact ⟨⟨i + 1, by omega, by simp, by rw [HK.out, ← HQ.out]; rfl, b3⟩, by first | omega | (simp [intOf]; omega)⟩
    · have hge : ¬ (i : Int) < (bs.length : Int) := by omega
      have hil : i = bs.length := by omega
      have HE : Hid (kE k bs = kE k (bs.take i)) := by rw [hil, List.take_length]; rfl
      go_wp2
      go_ret
      exact ⟨by rw [HE.out]; rfl, hb⟩

end Go.Proofs.YtgcnebepklelpaaGreat

/- States: what the law on StateOf asks, given what the program's StateOf hands back. -/
namespace Go.Proofs.YtgcnebepklelpaaGreat
open Go.RowKit

theorem upOf_all (f : Itm → Option Int) (l : List Itm) : (upOf f l).length ≤ l.length := by
  have := upOf_len f l l.length
  rwa [List.take_length] at this
theorem stateL_small (l : List Itm) : (stateL l).length ≤ 200 ∧ ∀ b ∈ stateL l, b.mails.length ≤ 200 := by
  unfold stateL
  by_cases h : itemsOk l
  · rw [if_pos h]
    have hl := h.2.2
    refine ⟨?_, fun b hb => ?_⟩
    · unfold tellAll
      rw [List.length_map]
      have := upOf_all (validK l) l
      omega
    · obtain ⟨v, _, rfl⟩ := List.mem_map.1 hb
      show (mailsOf v l).length ≤ 200
      unfold mailsOf
      rw [List.length_map]
      have := upOf_all (uidK v l) l
      omega
  · rw [if_neg h]
    exact ⟨by simp, fun b hb => by cases hb⟩
theorem kE_small : ∀ (k : Nat) (bs : List Bx), (∀ b ∈ bs, b.mails.length ≤ 200) → kE k bs ≤ k + 604 * bs.length
  | k, [], _ => by simp [kE]
  | k, b :: bs, h => by
    have h1 := kE_small (kB k b) bs (fun x hx => h x (List.mem_cons_of_mem _ hx))
    have h2 := h b (by simp)
    unfold kE
    unfold kB at *
    rw [List.length_cons]
    omega


set_option maxRecDepth 100000 in
set_option maxHeartbeats 1000000 in
theorem markState_any (bs : List Bx) (v : Value) (k B : Nat) (hs : List BxH) (w : World) (h : StO B w v bs hs) (hk : 1 ≤ k) (hk2 : kE k bs ≤ 1099511627776) (hl : bs.length ≤ 1099511627776) :
    Calls Tryz.prog 11 #[.agg #[v], .int .i64 (k : Int)] w fun e w' => e = .returned (.int .i64 (kE k bs : Int)) ∧ (∃ hs', StO B w' v (marksB k bs) hs') ∧ Below B w w' ∧ (∀ q, q < w.heap.size → v.ownBlock ≠ some q → (∀ (j : Nat) (x : BxH), hs[j]? = some x → x.mv.ownBlock ≠ some q) → w'.heap[q]? = w.heap[q]?) := by
  have hB := h.row.le
  obtain ⟨a, c, rfl⟩ := h.row.form
  have b1 : Below B w (w.alloc (.cells #[.slice a hs.length c] 35)) := (Below.refl _ _).alloc hB _
  have S1 := h.later (belNew w (.cells #[.slice a hs.length c] 35))
  have HM := Lib.hid (markBoxS_any bs _ k B hs _ S1 hk hk2 hl)
  clear h S1
  go_enter Tryz.func11, Tryz.ntmps11
  go_wp2_with fail
  refine HM.out.mono ?_
  rintro e w1 ⟨rfl, h1, k1, hq⟩
  have H1 := Lib.hid h1
  have HQ := Lib.hid hq
  clear h1 hq
  go_wp2
  go_ret
  exact ⟨rfl, H1.out, b1.trans k1, fun q hq h1 h2 => (HQ.out q (by simp; omega) h1 h2).trans (Below.heap_alloc _ _ _ hq)⟩

set_option maxRecDepth 100000 in
set_option maxHeartbeats 1000000 in
theorem heldState_any (bs : List Bx) (v : Value) (k : Nat) (w : World) (h : BRd w v (marksB k bs)) (hk : 1 ≤ k) (hk2 : kE k bs ≤ 1099511627776) (hl : bs.length ≤ 1099511627776) :
    Calls Tryz.prog 12 #[.agg #[v], .int .i64 (k : Int)] w fun e w' => e = .returned (.int .i64 (kE k bs : Int)) ∧ Below w.heap.size w w' := by
  obtain ⟨a, c, rfl, _⟩ := h.boxes
  have b1 : Below w.heap.size w (w.alloc (.cells #[.slice a (marksB k bs).length c] 35)) := belNew _ _
  have HM := Lib.hid (heldBoxS_any bs _ k _ (h.later b1) hk hk2 hl)
  have hp : ¬ ((kE k bs : Int) < 0) := by omega
  clear h
  go_enter Tryz.func12, Tryz.ntmps12
  go_wp2_with fail
  refine HM.out.mono ?_
  rintro e w1 ⟨rfl, k1⟩
  go_wp2
  go_ret
  exact ⟨rfl, b1.trans (k1.mono b1.size)⟩

end Go.Proofs.YtgcnebepklelpaaGreat

/- What records tell, gathered box by box, plainly. -/
namespace Go.Proofs.YtgcnebepklelpaaGreat

structure Tb where
  named : Itm
  next : Int
  adds : Int → Option Itm
  flags : Int → Option Itm
def Tb.nil : Tb := ⟨(0, Rc.nil), 0, fun _ => none, fun _ => none⟩

def sqO (o : Option Itm) : Int := match o with | some y => y.1 | none => 0
def keepL (f : Int → Option Itm) (x : Itm) : Int → Option Itm := if sqO (f x.2.uid) < x.1 then (fun u => if u = x.2.uid then some x else f u) else f
theorem keepL_lt {f : Int → Option Itm} {x : Itm} (h : sqO (f x.2.uid) < x.1) : keepL f x = fun u => if u = x.2.uid then some x else f u := if_pos h
theorem keepL_ge {f : Int → Option Itm} {x : Itm} (h : ¬ sqO (f x.2.uid) < x.1) : keepL f x = f := if_neg h
def takeT (t : Tb) (x : Itm) : Tb :=
  if x.2.kind = 1 then ⟨if aheadB (fun y => y.2.next) x t.named then x else t.named, max t.next x.2.next, t.adds, t.flags⟩
  else if x.2.kind = 3 then ⟨t.named, max t.next (x.2.uid + 1), keepL t.adds x, t.flags⟩
  else if x.2.kind = 4 then ⟨t.named, t.next, t.adds, keepL t.flags x⟩
  else if x.2.kind = 5 then ⟨t.named, max t.next (x.2.uid + 1), t.adds, t.flags⟩
  else t

def fmT (l : List Itm) (v : Int) : Tb := ⟨(tellO v l).getD (0, Rc.nil), mostOf 0 (nextK v) l, fun u => bestR 3 v u l, fun u => bestR 4 v u l⟩
open Classical in
noncomputable def toldT (l : List Itm) (v : Int) : Option Tb := if ∃ x ∈ l, x.2.valid = v then some (fmT l v) else none

theorem bestO_snoc (k : Itm → Int) (p : Itm → Bool) (l : List Itm) (x : Itm) : bestO k p (l ++ [x]) = bestStep k p (bestO k p l) x := by
  unfold bestO; rw [List.foldl_append]; rfl
theorem mostOf_snoc (b : Int) (f : Itm → Int) (l : List Itm) (x : Itm) : mostOf b f (l ++ [x]) = if mostOf b f l < f x then f x else mostOf b f l := by
  unfold mostOf; rw [List.foldl_append]; rfl
theorem mostOf_ge (b : Int) (f : Itm → Int) (l : List Itm) : b ≤ mostOf b f l := (mostFold f l b).1
theorem bestStep_out {k : Itm → Int} {p : Itm → Bool} {o : Option Itm} {x : Itm} (h : p x = false) : bestStep k p o x = o := by
  unfold bestStep; rw [h]; rfl
theorem bestStep_in {k : Itm → Int} {p : Itm → Bool} {x : Itm} (h : p x = true) : bestStep k p none x = some x := by
  unfold bestStep; rw [if_pos h]
theorem bestStep_more {k : Itm → Int} {p : Itm → Bool} {x y : Itm} (h : p x = true) : bestStep k p (some y) x = if aheadB k x y then some x else some y := by
  unfold bestStep; rw [if_pos h]

theorem fmT_none {l : List Itm} {v : Int} (h : ¬ ∃ x ∈ l, x.2.valid = v) : fmT l v = Tb.nil := by
  have hb : ∀ (k : Itm → Int) (p : Itm → Bool), (∀ x, p x = true → x.2.valid = v) → bestO k p l = none := by
    intro k p hp
    have hI := bestO_I k p l
    cases e : bestO k p l with
    | none => rfl
    | some y =>
      rw [e] at hI
      exact absurd ⟨y, hI.1, hp y hI.2.1⟩ h
  have hm : mostOf 0 (nextK v) l = 0 := by
    have : ∀ (m : List Itm), (∀ x ∈ m, nextK v x = 0) → mostOf 0 (nextK v) m = 0 := by
      intro m
      unfold mostOf
      induction m with
      | nil => intro _; rfl
      | cons x m ih =>
        intro hx
        rw [List.foldl_cons, hx x (by simp)]
        exact ih (fun y hy => hx y (List.mem_cons_of_mem _ hy))
    refine this l (fun x hx => ?_)
    unfold nextK
    rw [if_neg (fun e => h ⟨x, hx, e⟩)]
  unfold fmT Tb.nil
  congr 1
  · unfold tellO
    rw [hb _ _ (fun x hx => (of_decide_eq_true hx).2)]; rfl
  · funext u
    exact hb _ _ (fun x hx => (of_decide_eq_true hx).2.1)
  · funext u
    exact hb _ _ (fun x hx => (of_decide_eq_true hx).2.1)
theorem toldT_getD (l : List Itm) (v : Int) : (toldT l v).getD Tb.nil = fmT l v := by
  unfold toldT
  by_cases h : ∃ x ∈ l, x.2.valid = v
  · rw [if_pos h]; rfl
  · rw [if_neg h, fmT_none h]; rfl
theorem toldT_some {l : List Itm} {v : Int} {t : Tb} (h : toldT l v = some t) : t = fmT l v := by
  unfold toldT at h
  split at h
  · cases h; rfl
  · cases h

theorem fmT_other {l : List Itm} {x : Itm} {v : Int} (hv : x.2.valid ≠ v) : fmT (l ++ [x]) v = fmT l v := by
  have h0 : nextK v x = 0 := by unfold nextK; rw [if_neg hv]
  unfold fmT
  congr 1
  · unfold tellO
    rw [bestO_snoc, bestStep_out (decide_eq_false (fun c => hv c.2))]
  · rw [mostOf_snoc, h0, if_neg (by have := mostOf_ge 0 (nextK v) l; omega)]
  · funext u; unfold bestR; rw [bestO_snoc, bestStep_out (decide_eq_false (fun c => hv c.2.1))]
  · funext u; unfold bestR; rw [bestO_snoc, bestStep_out (decide_eq_false (fun c => hv c.2.1))]

theorem best_keep {kind v : Int} {l : List Itm} {x : Itm} (hv : x.2.valid = v) (hk : x.2.kind = kind) (hs : 1 ≤ x.1) : (fun u => bestR kind v u (l ++ [x])) = keepL (fun u => bestR kind v u l) x := by
  funext u
  by_cases hu : x.2.uid = u
  · have hp : decide (x.2.kind = kind ∧ x.2.valid = v ∧ x.2.uid = u) = true := decide_eq_true ⟨hk, hv, hu⟩
    have e0 : bestR kind v u (l ++ [x]) = bestStep (fun _ => 0) (fun x' => decide (x'.2.kind = kind ∧ x'.2.valid = v ∧ x'.2.uid = u)) (bestR kind v u l) x := bestO_snoc _ _ _ _
    show bestR kind v u (l ++ [x]) = _
    rw [e0]
    cases e : bestR kind v u l with
    | none =>
      have h1 : sqO ((fun u => bestR kind v u l) x.2.uid) < x.1 := by
        show sqO (bestR kind v x.2.uid l) < x.1
        rw [hu, e]; show (0 : Int) < x.1; omega
      rw [bestStep_in hp, keepL_lt h1]
      simp [hu]
    | some y =>
      rw [bestStep_more hp]
      have h0 : sqO ((fun u => bestR kind v u l) x.2.uid) = y.1 := by
        show sqO (bestR kind v x.2.uid l) = y.1
        rw [hu, e]; rfl
      by_cases c : y.1 < x.1
      · rw [keepL_lt (by rw [h0]; exact c), if_pos (by unfold aheadB; exact decide_eq_true (.inr ⟨rfl, c⟩))]; simp [hu]
      · rw [keepL_ge (by rw [h0]; exact c), if_neg (fun h => by unfold aheadB at h; have := of_decide_eq_true h; dsimp only at this; omega)]; exact e.symm
  · have e : bestR kind v u (l ++ [x]) = bestR kind v u l := by
      show bestO _ _ _ = _
      rw [bestO_snoc, bestStep_out (decide_eq_false (fun c => hu c.2.2))]; rfl
    show bestR kind v u (l ++ [x]) = _
    rw [e]
    unfold keepL
    split
    · show _ = if u = x.2.uid then some x else bestR kind v u l
      rw [if_neg (fun c => hu c.symm)]
    · rfl
theorem best_skip {kind v : Int} {l : List Itm} {x : Itm} (hk : x.2.kind ≠ kind) : (fun u => bestR kind v u (l ++ [x])) = fun u => bestR kind v u l := by
  funext u
  show bestO _ _ _ = _
  rw [bestO_snoc, bestStep_out (decide_eq_false (fun c => hk c.1))]; rfl
theorem tell_skip {v : Int} {l : List Itm} {x : Itm} (hk : x.2.kind ≠ 1) : tellO v (l ++ [x]) = tellO v l := by
  unfold tellO
  rw [bestO_snoc, bestStep_out (decide_eq_false (fun c => hk c.1))]
theorem most_max {v : Int} {l : List Itm} {x : Itm} : mostOf 0 (nextK v) (l ++ [x]) = max (mostOf 0 (nextK v) l) (nextK v x) := by
  rw [mostOf_snoc]
  split <;> omega
theorem fmT_step {l : List Itm} {x : Itm} (hs : 1 ≤ x.1) (hok : x.2.ok) : fmT (l ++ [x]) x.2.valid = takeT (fmT l x.2.valid) x := by
  have hge := mostOf_ge 0 (nextK x.2.valid) l
  unfold takeT
  by_cases h1 : x.2.kind = 1
  · rw [if_pos h1]
    have hn : 1 ≤ x.2.next := by
      have h := hok.2.2.1
      rw [if_pos h1] at h
      exact h.2.2.1
    have hnk : nextK x.2.valid x = x.2.next := by unfold nextK; rw [if_pos rfl, if_pos h1]
    unfold fmT
    rw [most_max, hnk, best_skip (by omega), best_skip (by omega)]
    congr 1
    unfold tellO
    rw [bestO_snoc]
    cases e : bestO (fun y => y.2.next) (fun y => decide (y.2.kind = 1 ∧ y.2.valid = x.2.valid)) l with
    | none =>
      rw [bestStep_in (decide_eq_true ⟨h1, rfl⟩)]
      simp only [Option.getD]
      rw [if_pos (by unfold aheadB; exact decide_eq_true (.inl (by show (0 : Int) < x.2.next; omega)))]
    | some y =>
      rw [bestStep_more (decide_eq_true ⟨h1, rfl⟩)]
      by_cases c : aheadB (fun y => y.2.next) x y = true
      · rw [if_pos c]
        show x = if aheadB (fun y => y.2.next) x y = true then x else y
        rw [if_pos c]
      · rw [if_neg c]
        show y = if aheadB (fun y => y.2.next) x y = true then x else y
        rw [if_neg c]
  rw [if_neg h1]
  by_cases h3 : x.2.kind = 3
  · rw [if_pos h3]
    have hnk : nextK x.2.valid x = x.2.uid + 1 := by unfold nextK; rw [if_pos rfl, if_neg h1, if_pos (.inl h3)]
    unfold fmT
    rw [most_max, hnk, best_keep rfl h3 hs, best_skip (kind := 4) (by omega), tell_skip h1]
  rw [if_neg h3]
  by_cases h4 : x.2.kind = 4
  · rw [if_pos h4]
    have hnk : nextK x.2.valid x = 0 := by unfold nextK; rw [if_pos rfl, if_neg h1, if_neg (by omega)]
    unfold fmT
    rw [most_max, hnk, best_keep rfl h4 hs, best_skip (kind := 3) (by omega), tell_skip h1, Int.max_eq_left hge]
  rw [if_neg h4]
  by_cases h5 : x.2.kind = 5
  · rw [if_pos h5]
    have hnk : nextK x.2.valid x = x.2.uid + 1 := by unfold nextK; rw [if_pos rfl, if_neg h1, if_pos (.inr h5)]
    unfold fmT
    rw [most_max, hnk, best_skip (kind := 3) (by omega), best_skip (kind := 4) (by omega), tell_skip h1]
  rw [if_neg h5]
  have hnk : nextK x.2.valid x = 0 := by unfold nextK; rw [if_pos rfl, if_neg h1, if_neg (by omega)]
  unfold fmT
  rw [most_max, hnk, best_skip (kind := 3) (by omega), best_skip (kind := 4) (by omega), tell_skip h1, Int.max_eq_left hge]

theorem toldT_step {l : List Itm} {x : Itm} (hs : 1 ≤ x.1) (hok : x.2.ok) (v : Int) : toldT (l ++ [x]) v = if v = x.2.valid then some (takeT ((toldT l v).getD Tb.nil) x) else toldT l v := by
  by_cases c : v = x.2.valid
  · subst c
    rw [if_pos rfl, toldT_getD]
    unfold toldT
    rw [if_pos ⟨x, by simp, rfl⟩, fmT_step hs hok]
  · rw [if_neg c]
    have hi : (∃ y ∈ l ++ [x], y.2.valid = v) ↔ ∃ y ∈ l, y.2.valid = v := by
      constructor
      · rintro ⟨y, hy, e⟩
        rcases List.mem_append.1 hy with h | h
        · exact ⟨y, h, e⟩
        · simp at h; subst h; exact absurd e.symm c
      · rintro ⟨y, hy, e⟩; exact ⟨y, List.mem_append_left _ hy, e⟩
    unfold toldT
    rw [fmT_other (fun e => c e.symm)]
    by_cases d : ∃ y ∈ l, y.2.valid = v
    · rw [if_pos d, if_pos (hi.2 d)]
    · rw [if_neg d, if_neg (fun h => d (hi.1 h))]
theorem toldT_nil (v : Int) : toldT [] v = none := by unfold toldT; rw [if_neg (by simp)]

end Go.Proofs.YtgcnebepklelpaaGreat

/- Maps of a call's own, as functions: at each key what stands there, or nothing. -/
namespace Go.Proofs.YtgcnebepklelpaaGreat
open Go.RowKit
open Go.Maps (Keyed)

section
variable {β : Type}

open Classical in
noncomputable def shp (mk : β → Value) (v : Value) : Option (DataW β × List MemPlace) :=
  if h : ∃ c, v = mk c then some (.held (Classical.choose h), []) else none

theorem shp_inv {mk : β → Value} {v : Value} {y : DataW β × List MemPlace} (h : shp mk v = some y) : ∃ c, v = mk c ∧ y = (.held c, []) := by
  unfold shp at h
  split at h
  · rename_i hc
    cases h
    exact ⟨_, Classical.choose_spec hc, rfl⟩
  · cases h

theorem shp_mk {mk : β → Value} (hi : ∀ x y, mk x = mk y → x = y) (c : β) : shp mk (mk c) = some (.held c, []) := by
  unfold shp
  have h : ∃ c', mk c = mk c' := ⟨c, rfl⟩
  rw [dif_pos h]
  have := hi _ _ (Classical.choose_spec h)
  rw [← this]
end

structure KeyE (P : Program) (κ : Type) where
  ty : TypeId
  law : Keyed P ty
  val : κ → Value
  lit : κ → Lit
  ok : κ → Prop
  key : ∀ x, ok x → keyOf P ty (val x) = some (lit x)
  inv : ∀ v l, keyOf P ty v = some l → ∃ x, ok x ∧ v = val x
  inj : ∀ x y, val x = val y → x = y

def intK {P : Program} (t : TypeId) (h : P.underlying t = some (.int .i64)) : KeyE P Int where
  ty := t
  law := Maps.int_keyed h
  val := Value.int .i64
  lit := Lit.int .i64
  ok := fun x => (Lit.int .i64 x).wf = true
  key := fun _ hx => Maps.keyOf_int_mk h hx
  inv := fun v l hv => by
    obtain ⟨x, rfl, rfl, hx⟩ := Maps.keyOf_int_inv h hv
    exact ⟨x, hx, rfl⟩
  inj := fun x y e => by cases e; rfl

section
variable {P : Program} {κ β : Type}

theorem KeyE.lit_inj (K : KeyE P κ) {x y : κ} (hx : K.ok x) (hy : K.ok y) (h : K.lit x = K.lit y) : x = y := by
  have h1 := K.key x hx
  have h2 := K.key y hy
  rw [h] at h1
  exact K.inj _ _ (K.law.inj h1 h2)

theorem KeyE.isKey (K : KeyE P κ) {x : κ} (hx : K.ok x) : WideAt.IsKeyLit (K.lit x) := K.law.key (K.key x hx)

def Looks (K : KeyE P κ) (D : DataW β) (f : κ → Option β) : Prop :=
  ∀ x, K.ok x → (f x = none ∧ Maps.has D (K.lit x) = false) ∨ ∃ c, f x = some c ∧ Maps.has D (K.lit x) = true ∧ ∀ z, D.atKey (K.lit x) z = .held c

def MapIs (K : KeyE P κ) (mk : β → Value) (w : World) (b n : Nat) (f : κ → Option β) : Prop :=
  ∃ D : DataW β, w.ownsMap P K.ty (shp mk) b n D ∧ Looks K D f

def MapGo (K : KeyE P κ) (mk : β → Value) (w : World) (b r n : Nat) (f : κ → Option β) (todo : κ → Bool) (cnt : Nat) : Prop :=
  ∃ (D : DataW β) (left : Lit → Bool), w.ranges P K.ty (shp mk) b r n D left cnt ∧ Looks K D f ∧ ∀ x, K.ok x → left (K.lit x) = todo x

variable {K : KeyE P κ} {mk : β → Value} {w w' : World} {b r n cnt : Nat} {f : κ → Option β} {todo : κ → Bool}

theorem MapIs.made (K : KeyE P κ) (mk : β → Value) (w : World) : MapIs K mk (w.alloc (.map #[] 0)) w.heap.size 0 (fun _ => none) :=
  ⟨.map [], World.ownsMap_made w P K.ty (shp mk), fun _ _ => .inl ⟨rfl, rfl⟩⟩
theorem MapIs.lt (h : MapIs K mk w b n f) : b < w.heap.size := by obtain ⟨D, h1, _⟩ := h; exact h1.lt
theorem MapIs.mono (h : MapIs K mk w b n f) {n' : Nat} (hn : n ≤ n') : MapIs K mk w b n' f := by obtain ⟨D, h1, h2⟩ := h; exact ⟨D, h1.mono hn, h2⟩
theorem MapIs.kept {row : Option Nat} (h : MapIs K mk w b n f) (hg : w.grownBy w' row) (hne : some b ≠ row) : MapIs K mk w' b n f := by
  obtain ⟨D, h1, h2⟩ := h
  exact ⟨D, h1.kept hg hne, h2⟩
theorem MapIs.later (h : MapIs K mk w b n f) (hb : Below w.heap.size w w') : MapIs K mk w' b n f :=
  h.kept (row := none) ⟨hb.os, hb.tape, hb.output, hb.size, fun k hk _ => hb.block k hk⟩ (by simp)
theorem MapIs.under {B : Nat} (h : MapIs K mk w b n f) (hb : Below B w w') (hl : b < B) : MapIs K mk w' b n f := by
  obtain ⟨D, ⟨es, clock, e, r⟩, h2⟩ := h
  exact ⟨D, ⟨es, clock, (hb.block b hl).trans e, r⟩, h2⟩
theorem MapIs.same (h : MapIs K mk w b n f) (e : w'.heap[b]? = w.heap[b]?) : MapIs K mk w' b n f := by
  obtain ⟨D, ⟨es, clock, e0, r⟩, h2⟩ := h
  exact ⟨D, ⟨es, clock, e.trans e0, r⟩, h2⟩
theorem MapIs.setCell (h : MapIs K mk w b n f) {a : Addr} (ha : b ≠ a.block) (u : Value) : MapIs K mk (w.setCell a u) b n f := by
  obtain ⟨D, h1, h2⟩ := h
  exact ⟨D, h1.setCell ha u, h2⟩
theorem MapIs.congr {g : κ → Option β} (h : MapIs K mk w b n f) (e : ∀ x, K.ok x → f x = g x) : MapIs K mk w b n g := by
  obtain ⟨D, h1, h2⟩ := h
  refine ⟨D, h1, fun x hx => ?_⟩
  rw [← e x hx]
  exact h2 x hx

theorem MapIs.notBox {cs : Array Value} {t : TypeId} (h : MapIs K mk w b n f) {g : Nat} (hb : Box w g cs t) : b ≠ g := by
  obtain ⟨D, ⟨es, clock, e, _⟩, _⟩ := h
  rintro rfl
  unfold Box at hb
  rw [e] at hb
  cases hb

theorem MapIs.look_there {t e : TypeId} (h : MapIs K mk w b n f) (ht : P.underlying t = some (.map K.ty e)) {z : Value} (hz : (zeroValue e).run P w = .ok z w) {x : κ} (hx : K.ok x) {c : β} (hf : f x = some c) (ok : Bool) :
    (Instr.lookup t (.map (some b)) (K.val x) ok).run P w = .ok (if ok then .tuple #[mk c, .bool true] else mk c) w := by
  obtain ⟨D, ⟨es, clock, hb, F, _, rfl⟩, hL⟩ := h
  rcases hL x hx with ⟨h1, _⟩ | ⟨c', h1, hh, h2⟩
  · rw [hf] at h1; cases h1
  · rw [hf] at h1
    cases h1
    rcases Maps.fit_look ok K.law ht hz hb F (K.key x hx) with ⟨hrun, _, hat⟩ | ⟨e0, y, _, _, hrun, hRv, hat, _⟩
    · have h3 := Maps.has_false_of_atKey hat
      rw [hh] at h3
      cases h3
    · obtain ⟨c2, e1, e2⟩ := shp_inv hRv
      have h3 : y.1 = .held c := (hat .nil).symm.trans (h2 .nil)
      rw [e2] at h3
      cases h3
      rw [e1] at hrun
      exact hrun

theorem MapIs.look_gone {t e : TypeId} (h : MapIs K mk w b n f) (ht : P.underlying t = some (.map K.ty e)) {z : Value} (hz : (zeroValue e).run P w = .ok z w) {x : κ} (hx : K.ok x) (hf : f x = none) (ok : Bool) :
    (Instr.lookup t (.map (some b)) (K.val x) ok).run P w = .ok (if ok then .tuple #[z, .bool false] else z) w := by
  obtain ⟨D, ⟨es, clock, hb, F, _, rfl⟩, hL⟩ := h
  rcases hL x hx with ⟨_, hh⟩ | ⟨c', h1, _⟩
  · rcases Maps.fit_look ok K.law ht hz hb F (K.key x hx) with ⟨hrun, _, hat⟩ | ⟨e0, y, _, _, hrun, hRv, hat, _⟩
    · exact hrun
    · have h3 := Maps.has_true_of_atKey hat
      rw [hh] at h3
      cases h3
  · rw [hf] at h1; cases h1

theorem MapIs.len {t e : TypeId} (h : MapIs K mk w b n f) (ht : P.underlying t = some (.map K.ty e)) (ty : TypeId) : ∃ k : Nat, k ≤ n ∧ (Builtin.len_ #[t] ty #[.map (some b)]).run P w = .ok (.int .i64 k) w := by
  obtain ⟨D, h1, _⟩ := h
  exact ⟨_, h1.size_le, h1.len ht ty⟩

theorem MapGo.is (h : MapGo K mk w b r n f todo cnt) : MapIs K mk w b n f := by
  obtain ⟨D, left, h1, h2, _⟩ := h
  exact ⟨D, h1.owns, h2⟩
theorem MapGo.left_eq (h : MapGo K mk w b r n f todo cnt) : w.rangeLeft b r = cnt := by obtain ⟨D, left, h1, _⟩ := h; exact h1.left_eq
theorem MapGo.ne (h : MapGo K mk w b r n f todo cnt) : r ≠ b := by obtain ⟨D, left, h1, _⟩ := h; exact h1.ne
theorem MapGo.lt (h : MapGo K mk w b r n f todo cnt) : r < w.heap.size := by obtain ⟨D, left, h1, _⟩ := h; exact h1.lt
theorem MapGo.kept {row : Option Nat} (h : MapGo K mk w b r n f todo cnt) (hg : w.grownBy w' row) (h1 : some b ≠ row) (h2 : some r ≠ row) : MapGo K mk w' b r n f todo cnt := by
  obtain ⟨D, left, h3, h4⟩ := h
  exact ⟨D, left, h3.kept hg h1 h2, h4⟩
theorem MapGo.later (h : MapGo K mk w b r n f todo cnt) (hb : Below w.heap.size w w') : MapGo K mk w' b r n f todo cnt :=
  h.kept (row := none) ⟨hb.os, hb.tape, hb.output, hb.size, fun k hk _ => hb.block k hk⟩ (by simp) (by simp)
theorem MapGo.notBox {cs : Array Value} {t : TypeId} (h : MapGo K mk w b r n f todo cnt) {g : Nat} (hb : Box w g cs t) : r ≠ g := by
  obtain ⟨D, left, ⟨es, clock, _, _, _, _, _, _, _, e, _⟩, _⟩ := h
  rintro rfl
  unfold Box at hb
  rw [e] at hb
  cases hb

theorem wpList_range_is {ops : Array Oper} {rest : List Oper} {o : Oper} {a : Act} {Q : Exit → Act → World → Prop} (hg : o.guard = none) (m : Operand) (t : TypeId) (hop : o.op = Op.range t m)
    (K : KeyE P κ) (mk : β → Value) (e : TypeId) (ht : P.underlying t = some (.map K.ty e)) (b n : Nat) (f : κ → Option β) (hm : a.eval m = .map (some b)) (h : MapIs K mk w b n f)
    (hK : ∀ w' cnt, cnt ≤ n → MapGo K mk w' b w.heap.size n f (fun x => (f x).isSome) cnt → w.grownBy w' none → w'.heap.size = w.heap.size + 1 → wpList P ops Q rest (a.put o.dst (.pointer (some ⟨w.heap.size, 0, none⟩))) w') :
    wpList P ops Q (o :: rest) a w := by
  obtain ⟨D, h1, h2⟩ := h
  refine wpList_range_own w hg m t hop K.ty e K.law ht (shp mk) b n D hm h1 fun w' r1 r2 r3 => hK w' _ h1.size_le ⟨D, _, r1, h2, fun x hx => ?_⟩ r2 r3
  rcases h2 x hx with ⟨e1, e2⟩ | ⟨c, e1, e2, _⟩
  · show _ = (f x).isSome
    rw [e1, e2]; rfl
  · show _ = (f x).isSome
    rw [e1, e2]; rfl

variable [DecidableEq κ]

theorem Looks.put {D : DataW β} (h : Looks K D f) (hD : Maps.IsMap D) {x : κ} (hx : K.ok x) (c : β) : Looks K (D.put (K.lit x) (.held c)) (fun y => if y = x then some c else f y) := by
  intro y hy
  by_cases e : y = x
  · subst e
    refine .inr ⟨c, by simp, Maps.has_put_same hD (K.isKey hy) _, fun z => Maps.atKey_put_same hD (K.isKey hy) _ z⟩
  · have hne : K.lit y ≠ K.lit x := fun e2 => e (K.lit_inj hy hx e2)
    rcases h y hy with ⟨h1, h2⟩ | ⟨c', h1, h2, h3⟩
    · exact .inl ⟨by simp [e, h1], by rw [Maps.has_put_other hne]; exact h2⟩
    · exact .inr ⟨c', by simp [e, h1], by rw [Maps.has_put_other hne]; exact h2, fun z => by rw [Maps.atKey_put_other hne]; exact h3 z⟩

theorem Looks.del {D : DataW β} (h : Looks K D f) {x : κ} (hx : K.ok x) : Looks K (D.del (K.lit x)) (fun y => if y = x then none else f y) := by
  intro y hy
  by_cases e : y = x
  · subst e
    exact .inl ⟨by simp, Maps.has_del_same⟩
  · have hne : K.lit y ≠ K.lit x := fun e2 => e (K.lit_inj hy hx e2)
    rcases h y hy with ⟨h1, h2⟩ | ⟨c', h1, h2, h3⟩
    · exact .inl ⟨by simp [e, h1], by rw [Maps.has_del_other hne]; exact h2⟩
    · exact .inr ⟨c', by simp [e, h1], by rw [Maps.has_del_other hne]; exact h2, fun z => by rw [Maps.atKey_del_other hne]; exact h3 z⟩

theorem MapIs.put {t e : TypeId} (h : MapIs K mk w b n f) (hi : ∀ x y, mk x = mk y → x = y) (ht : P.underlying t = some (.map K.ty e)) (hn : n < maxLen) {x : κ} (hx : K.ok x) (c : β) :
    ∃ w', (Instr.mapUpdate t (.map (some b)) (K.val x) (mk c)).run P w = .ok () w' ∧ MapIs K mk w' b (n + 1) (fun y => if y = x then some c else f y) ∧ w.grownBy w' (some b) ∧ w'.heap.size = w.heap.size := by
  obtain ⟨D, h1, h2⟩ := h
  obtain ⟨w', r1, r2, r3⟩ := h1.store K.law ht hn (K.key x hx) (shp_mk hi c)
  refine ⟨w', r1, ⟨_, r2, h2.put h1.isMap hx c⟩, r3.grown, ?_⟩
  obtain ⟨_, _, _, _, _, rfl⟩ := r3
  simp [ChangeMaps.setBlock]

theorem MapIs.del {t e : TypeId} (h : MapIs K mk w b n f) (ht : P.underlying t = some (.map K.ty e)) {x : κ} (hx : K.ok x) (ty : TypeId) :
    ∃ w', (Builtin.delete_ #[t, K.ty] ty #[.map (some b), K.val x]).run P w = .ok (.tuple #[]) w' ∧ MapIs K mk w' b n (fun y => if y = x then none else f y) ∧ w.grownBy w' (some b) ∧ w'.heap.size = w.heap.size := by
  obtain ⟨D, h1, h2⟩ := h
  obtain ⟨w', r1, r2, r3⟩ := h1.drop K.law ht (K.key x hx) ty
  refine ⟨w', r1, ⟨_, r2, h2.del hx⟩, r3.grown, ?_⟩
  obtain ⟨_, _, _, _, _, rfl⟩ := r3
  simp [ChangeMaps.setBlock]

theorem wpList_put {ops : Array Oper} {rest : List Oper} {o : Oper} {a : Act} {Q : Exit → Act → World → Prop} (hg : o.guard = none) (m x v : Operand) (t : TypeId) (hop : o.op = Op.mapUpdate t m x v)
    (K : KeyE P κ) (mk : β → Value) (hi : ∀ x y, mk x = mk y → x = y) (e : TypeId) (ht : P.underlying t = some (.map K.ty e)) (b n : Nat) (f : κ → Option β)
    (hm : a.eval m = .map (some b)) (h : MapIs K mk w b n f) (hn : n < maxLen) (y : κ) (c : β) (hx : a.eval x = K.val y) (hv : a.eval v = mk c) (hok : K.ok y)
    (hK : ∀ w', MapIs K mk w' b (n + 1) (fun z => if z = y then some c else f z) → w.grownBy w' (some b) → w'.heap.size = w.heap.size → wpList P ops Q rest (a.put o.dst undef) w') :
    wpList P ops Q (o :: rest) a w := by
  refine wpList_plain hg fun K' hK' => ?_
  obtain ⟨w', hrun, r1, r2, r3⟩ := h.put hi ht hn hok c
  unfold Oper.wp
  simp [execOp, hop, hm, hx, hv, hrun, Result.andThen]
  exact hK' _ _ (hK w' r1 r2 r3)

theorem wpList_del {ops : Array Oper} {rest : List Oper} {o : Oper} {a : Act} {Q : Exit → Act → World → Prop} (hg : o.guard = none) (m x : Operand) (t : TypeId) (K : KeyE P κ) (hop : o.op = Op.call { callee := Callee.builtin Builtin.delete, args := #[m, x], argTypes := #[t, K.ty] })
    (mk : β → Value) (e : TypeId) (ht : P.underlying t = some (.map K.ty e)) (b n : Nat) (f : κ → Option β)
    (hm : a.eval m = .map (some b)) (h : MapIs K mk w b n f) (y : κ) (hx : a.eval x = K.val y) (hok : K.ok y)
    (hK : ∀ w', MapIs K mk w' b n (fun z => if z = y then none else f z) → w.grownBy w' (some b) → w'.heap.size = w.heap.size → wpList P ops Q rest (a.put o.dst (.tuple #[])) w') :
    wpList P ops Q (o :: rest) a w := by
  refine wpList_plain hg fun K' hK' => ?_
  obtain ⟨w', hrun, r1, r2, r3⟩ := h.del ht hok o.type
  unfold Oper.wp
  simp [execOp, hop, resolve, invoke, builtin, hm, hx, hrun, Result.andThen]
  exact hK' _ _ (hK w' r1 r2 r3)

theorem wpList_next_is {ops : Array Oper} {rest : List Oper} {o : Oper} {a : Act} {Q : Exit → Act → World → Prop} (hg : o.guard = none) (it : Operand) (hop : o.op = Op.next it false)
    (K : KeyE P κ) (mk : β → Value) (hi : ∀ x y, mk x = mk y → x = y) (b r n : Nat) (f : κ → Option β) (todo : κ → Bool) (cnt : Nat) (hit : a.eval it = .pointer (some ⟨r, 0, none⟩)) (h : MapGo K mk w b r n f todo cnt)
    (hDone : (∀ x, K.ok x → todo x = false) → wpList P ops Q rest (a.put o.dst (.tuple #[.bool false])) w)
    (hMore : ∀ (x : κ) (c : β) (w' : World) (cnt' : Nat), K.ok x → todo x = true → f x = some c → MapGo K mk w' b r n f (fun y => todo y && !decide (y = x)) cnt' → cnt' < cnt → w.grownBy w' (some r) → w'.heap.size = w.heap.size →
      (Instr.entry (.pointer (some ⟨r, 0, none⟩))).run P w' = .ok (.tuple #[K.val x, mk c]) w' → wpList P ops Q rest (a.put o.dst (.tuple #[.bool true, K.val x, mk c])) w') :
    wpList P ops Q (o :: rest) a w := by
  obtain ⟨D, left, h1, h2, h3⟩ := h
  refine wpList_next_ranges (α := κ) (β := β) w hg it hop K.ty K.law (shp mk) K.val mk (fun key kl hk => ?_) (fun v y hv => ?_) b r n D left cnt hit h1 (fun _ hl => hDone fun x hx => by rw [← h3 x hx]; exact hl _) ?_
  · obtain ⟨x, _, rfl⟩ := K.inv key kl hk
    exact ⟨x, rfl⟩
  · obtain ⟨c, rfl, _⟩ := shp_inv hv
    exact ⟨c, rfl⟩
  · intro x c kl y w' cnt' hk hl hv hat hrg hlt hgr hsz hen
    obtain ⟨x', hx', e⟩ := K.inv _ _ hk
    have e' := K.inj _ _ e
    subst e'
    have ek : kl = K.lit x := Option.some.inj (hk.symm.trans (K.key x hx'))
    subst ek
    have hf : f x = some c := by
      have hh : Maps.has D (K.lit x) = true := Maps.has_true_of_atKey hat
      rcases h2 x hx' with ⟨_, e3⟩ | ⟨c', e3, _, e4⟩
      · rw [hh] at e3; cases e3
      · obtain ⟨c2, e5, e6⟩ := shp_inv hv
        have e7 : y.1 = .held c' := (hat .nil).symm.trans (e4 .nil)
        rw [e6] at e7
        cases e7
        rw [e3, hi _ _ e5]
    refine hMore x c w' cnt' hx' (by rw [← h3 x hx']; exact hl) hf ⟨D, _, hrg, h2, fun y' hy' => ?_⟩ hlt hgr hsz hen
    by_cases e3 : y' = x
    · subst e3
      simp [WideAt.sameKey_self (K.isKey hy')]
    · have : (K.lit y').sameKey (K.lit x) = false := Maps.sameKey_ne (fun e4 => e3 (K.lit_inj hy' hx' e4))
      rw [this, h3 y' hy']
      simp [e3]
end

end Go.Proofs.YtgcnebepklelpaaGreat
