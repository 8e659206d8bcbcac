/- Texts of our own, joined. -/
import Derived.Test.YtjfilicddnhniaaJi
import Derived.Test.YtjfilicddnhniaaJd
import Derived.Test.YtjfilicddnhniaaJg
import Derived.Test.YtjfilicddnhniaaJa
import Derived.Test.YtjfilicddnhniaaJf
import Derived.Test.YtjfilicddnhniaaJb
import Derived.Test.YtjfilicddnhniaaJe
/- The helpers of the exact laws over boxes and states: each is marked, and the marks are held. -/
namespace Go.Proofs.Ytjfilicddnhniaa
open Go.RowKit

theorem set_ways {α : Type} {l : List α} {i j : Nat} {y z : α} (h : (l.set i y)[j]? = some z) : (j = i ∧ z = y) ∨ (j ≠ i ∧ l[j]? = some z) := by
  by_cases c : j = i
  · subst c
    have hl : j < l.length := by have := (List.getElem?_eq_some_iff.1 h).1; simpa using this
    rw [List.getElem?_set_self hl] at h
    exact .inl ⟨rfl, (Option.some.inj h).symm⟩
  · rw [List.getElem?_set_ne (fun e => c e.symm)] at h
    exact .inr ⟨c, h⟩

/-- One cell of a box's own put anew. -/
theorem StO.store {B : Nat} {w : World} {g n cap : Nat} {bs : List Bx} {hs : List BxH} (h : StO B w (.slice (some ⟨g, 0, none⟩) n cap) bs hs) (hn : n = hs.length) {i : Nat} {x : BxH} (hx : hs[i]? = some x) {b : Bx} (hb : bs[i]? = some b)
    (c : Nat) (hc : c < 5) (u : Value) (x' : BxH) (hf : hdE.f x' = (hdE.f x).set c u) (hmv : x'.mv = x.mv) (b' : Bx) (hb' : x'.valid = b'.valid ∧ x'.user = b'.user ∧ x'.name = b'.name ∧ x'.next = b'.next) (hm : b'.mails = b.mails) :
    StO B (w.setCell ⟨g, i * 5 + c, none⟩ u) (.slice (some ⟨g, 0, none⟩) n cap) (bs.set i b') (hs.set i x') := by
  subst hn
  have hg := grownBy_store w g (i * 5 + c) u
  have kept : ∀ (m : Value) (l : List Ml), RBuf mlE B w w m l → (∀ k, m.ownBlock = some k → (Value.slice (some ⟨g, 0, none⟩) hs.length cap).ownBlock ≠ some k) → RBuf mlE B (w.setCell ⟨g, i * 5 + c, none⟩ u) (w.setCell ⟨g, i * 5 + c, none⟩ u) m l := fun m l hm hf => by
    refine hm.shift hg ?_
    cases hmb : m.ownBlock with
    | none => exact .inl rfl
    | some k => exact .inr (fun e => hf k hmb e.symm)
  have hmvs : ∀ {j : Nat} {y : BxH}, (hs.set i x')[j]? = some y → ∃ z, hs[j]? = some z ∧ y.mv = z.mv := fun {j y} hj => by
    rcases set_ways hj with ⟨rfl, rfl⟩ | ⟨_, hj⟩
    · exact ⟨x, hx, hmv⟩
    · exact ⟨y, hj, rfl⟩
  refine ⟨(h.row.stored i x x' hx c hc u hf).here, by simp [h.len], fun j y d h1 h2 => ?_, fun j y h1 k hk => ?_, fun j k y z h1 h2 hjk q hq => ?_⟩
  · rcases set_ways h1 with ⟨rfl, rfl⟩ | ⟨hne, h1⟩
    · rcases set_ways h2 with ⟨_, rfl⟩ | ⟨hne, _⟩
      · refine ⟨hb', ?_⟩
        rw [hmv, hm]
        exact kept _ _ (h.at' j x b hx hb).2 (h.far j x hx)
      · exact absurd rfl hne
    · rcases set_ways h2 with ⟨e, _⟩ | ⟨_, h2⟩
      · exact absurd e hne
      · exact ⟨(h.at' j y d h1 h2).1, kept _ _ (h.at' j y d h1 h2).2 (h.far j y h1)⟩
  · obtain ⟨z, hz, e⟩ := hmvs h1
    rw [e] at hk
    exact h.far j z hz k hk
  · obtain ⟨y0, hy0, e1⟩ := hmvs h1
    obtain ⟨z0, hz0, e2⟩ := hmvs h2
    rw [e1] at hq
    rw [e2]
    exact h.apart j k y0 z0 hy0 hz0 hjk q hq

/-- The mails of a box put anew. -/
theorem StO.mails {B : Nat} {w w' : World} {v : Value} {bs : List Bx} {hs : List BxH} (h : StO B w v bs hs) {i : Nat} {x : BxH} (hx : hs[i]? = some x) {b : Bx} (hb : bs[i]? = some b) (ms : List Ml) (hr : RBuf mlE B w' w' x.mv ms) (hg : w.grownBy w' x.mv.ownBlock) :
    StO B w' v (bs.set i ⟨b.valid, b.user, b.name, b.next, ms⟩) hs := by
  refine ⟨h.row.shift hg ?_, by simp [h.len], fun j y d h1 h2 => ?_, h.far, h.apart⟩
  · cases hv : x.mv.ownBlock with
    | none =>
      cases hv2 : v.ownBlock with
      | none => exact .inl rfl
      | some k => exact .inr (fun e => by cases e)
    | some k => exact .inr (fun e => h.far i x hx k hv e)
  · rcases set_ways h2 with ⟨rfl, rfl⟩ | ⟨hne, h2⟩
    · rw [hx] at h1
      cases h1
      exact ⟨(h.at' j x b hx hb).1, hr⟩
    · refine ⟨(h.at' j y d h1 h2).1, (h.at' j y d h1 h2).2.shift hg ?_⟩
      cases hy : y.mv.ownBlock with
      | none => exact .inl rfl
      | some k => exact .inr (fun e => h.apart j i y x h1 hx hne k hy e.symm)

theorem StO.cellAt {B : Nat} {w : World} {g n cap : Nat} {bs : List Bx} {hs : List BxH} (h : StO B w (.slice (some ⟨g, 0, none⟩) n cap) bs hs) {i : Nat} {y : BxH} (hy : hs[i]? = some y) (hl : n = hs.length) (q : Nat) (u : Value) (hu : (hdE.f y)[q]? = some u) : w.cell? ⟨g, i * 5 + q, none⟩ = some u ∧ w.frozen? ⟨g, i * 5 + q, none⟩ = false := by
  subst hl
  exact ⟨h.row.cell rfl i y hy q u hu, h.row.loose _⟩

set_option maxRecDepth 100000 in
set_option maxHeartbeats 4000000 in
theorem markBoxS_any (bs : List Bx) (v : Value) (k B : Nat) (hs : List BxH) (w : World) (h : StO B w v bs hs) (_hk : 1 ≤ k) (hk2 : kE k bs ≤ 1099511627776) (hl : bs.length ≤ 1099511627776) :
    Calls Try.prog 66 #[v, .int .i64 (k : Int)] w fun e w' => e = .returned (.int .i64 (kE k bs : Int)) ∧ (∃ hs', StO B w' v (marksB k bs) hs') ∧ Below B w w' ∧ (∀ q, q < w.heap.size → v.ownBlock ≠ some q → (∀ (j : Nat) (x : BxH), hs[j]? = some x → x.mv.ownBlock ≠ some q) → w'.heap[q]? = w.heap[q]?) := by
  have hB := h.row.le
  have hl0 := h.len
  rcases h.row.own.2 with ⟨rfl, h0⟩ | ⟨g, cap, cur, rfl, hg, hh, hnc, hcp, hcs, htake⟩
  · obtain rfl := List.length_eq_zero_iff.1 h0
    obtain rfl := List.length_eq_zero_iff.1 hl0.symm
    go_enter Try.func66, Try.ntmps66
    go_wp2
    go_loop [1, 5] (fun kv iv => kv = .int .i64 (k : Int) ∧ iv = .int .i64 0) (fun _ _ => 0)
    case atStart => exact ⟨rfl, rfl⟩
    case round =>
      obtain ⟨rfl, rfl⟩ := hrel
      go_wp2
      go_ret
      exact ⟨rfl, ⟨[], h⟩, Below.refl _ _, by intros; rfl⟩
  · clear hh hcs htake hcp
    rw [hl0] at h ⊢
    go_enter Try.func66, Try.ntmps66
    go_wp2
    go_loopw [1, 5] (fun kv iv wr => ∃ (i : Nat) (hs' : List BxH), i ≤ bs.length ∧ iv = .int .i64 (i : Int) ∧ kv = .int .i64 ((kE k (bs.take i) : Nat) : Int) ∧ StO B wr (.slice (some ⟨g, 0, none⟩) bs.length cap) (putB k bs i) hs' ∧ Below B w wr ∧ (∀ (j : Nat) (y : BxH), hs'[j]? = some y → ∃ x, hs[j]? = some x ∧ y.mv = x.mv) ∧ ∀ q, q < w.heap.size → q ≠ g → (∀ (j : Nat) (x : BxH), hs[j]? = some x → x.mv.ownBlock ≠ some q) → wr.heap[q]? = w.heap[q]?) (fun _ iv _ => bs.length - (intOf iv).toNat)
    case atStart => exact ⟨0, hs, by omega, rfl, rfl, by rw [putB_zero]; exact h, Below.refl _ _, fun j y hy => ⟨y, hy, rfl⟩, fun _ _ _ _ => rfl⟩
    case round =>
      clear h
      obtain ⟨i, hs', hi, rfl, rfl, S, hb, hmv, hkp⟩ := hrel
      have HMV := Lib.hid hmv
      have HKP := Lib.hid hkp
      clear hmv hkp
      by_cases hlt : i < bs.length
      · have hgb : bs[i]? = some bs[i] := List.getElem?_eq_getElem hlt
        have hpl := putB_length k bs i hi
        have hn : bs.length = hs'.length := by rw [S.len, hpl]
        have hpa := putB_at k bs i _ hgb
        have hx : hs'[i]? = some (hs'[i]'(by omega)) := List.getElem?_eq_getElem (by omega)
        have hset := putB_set k bs i _ hgb
        have hkt := kE_take k bs i _ hgb
        have hkl := kE_take_le k bs (i + 1)
        have hkg := kE_le k (bs.take i)
        generalize bs[i] = b at *
        generalize hs'[i]'(by omega) = x at hx
        obtain ⟨K, hK⟩ : ∃ K, kE k (bs.take i) = K := ⟨_, rfl⟩
        rw [hK] at hset hkt hkg ⊢
        have HK := Lib.hid hkt
        have HSET := Lib.hid hset
        rw [hkt] at hkl
        unfold kB at hkl
        obtain ⟨⟨e1, e2, e3, e4⟩, hmr⟩ := S.at' i x b hx hpa
        clear hset hkt hK hgb
        have hi0 : (0 : Int) ≤ (i : Int) := by omega
        have hi1 : (i : Int) < (bs.length : Int) := by omega
        obtain ⟨xv, xu, xn, xx, xa, xl, xc⟩ := x
        simp only at e1 e2 e3 e4
        have hn1 : ∀ y : BxH, bs.length = (hs'.set i y).length := fun y => by simp; omega
        have hil : i < hs'.length := by omega
        have hip : i < (putB k bs i).length := by omega
        have gx : ∀ y : BxH, (hs'.set i y)[i]? = some y := fun y => List.getElem?_set_self hil
        have gb : ∀ y : Bx, ((putB k bs i).set i y)[i]? = some y := fun y => List.getElem?_set_self hip
        have S1 : StO B (wr.setCell ⟨g, i * 5, none⟩ (.int .i64 (K : Int))) (.slice (some ⟨g, 0, none⟩) bs.length cap) ((putB k bs i).set i ⟨K, b.user, b.name, b.next, b.mails⟩) (hs'.set i ⟨K, xu, xn, xx, xa, xl, xc⟩) :=
          S.store hn hx hpa 0 (by decide) (.int .i64 (K : Int)) ⟨K, xu, xn, xx, xa, xl, xc⟩ rfl rfl ⟨K, b.user, b.name, b.next, b.mails⟩ ⟨rfl, e2, e3, e4⟩ rfl
        obtain ⟨c0, f0⟩ := S.cellAt hx hn 0 _ rfl
        simp only [Nat.add_zero] at c0 f0
        have hgB := hg
        have HBS : Hid (w.heap.size ≤ wr.heap.size) := hb.size
        have b1 : Below B w (wr.setCell ⟨g, i * 5, none⟩ (.int .i64 (K : Int))) := hb.setCell (p := ⟨g, i * 5, none⟩) hgB _
        have G1 : wr.grownBy (wr.setCell ⟨g, i * 5, none⟩ (.int .i64 (K : Int))) (some g) := grownBy_store _ _ _ _
        have HMX : Hid (∃ x0, hs[i]? = some x0 ∧ (⟨xv, xu, xn, xx, xa, xl, xc⟩ : BxH).mv = x0.mv) := HMV.out i _ hx
        clear S hb
        have HN1 := Lib.hid hn1
        clear hn hpl hil hip
        have HGX := Lib.hid gx
        have HGB := Lib.hid gb
        clear hn1 gx gb
        go_wp2_with fail
        clear c0 f0
        generalize wr.setCell ⟨g, i * 5, none⟩ (.int .i64 (K : Int)) = X1 at S1 b1 G1 ⊢
        refine (markText_at _ (K + 1) _ (by omega) (by omega) (by omega)).mono ?_
        rintro e w2 ⟨rfl, k2⟩
        replace S1 := S1.later k2
        have b2 := b1.trans (k2.mono (Nat.le_trans hB b1.size))
        obtain ⟨c0, f0⟩ := S1.cellAt (HGX.out _) (HN1.out _) 1 _ rfl
        have S2 := S1.store (HN1.out _) (HGX.out _) (HGB.out _) 1 (by decide) (.string (mark (K + 1))) ⟨K, mark (K + 1), xn, xx, xa, xl, xc⟩ rfl rfl ⟨K, mark (K + 1), b.name, b.next, b.mails⟩ ⟨rfl, rfl, e3, e4⟩ rfl
        rw [List.set_set, List.set_set] at S2
        replace b2 : Below B w (w2.setCell ⟨g, i * 5 + 1, none⟩ (.string (mark (K + 1)))) := b2.setCell (p := ⟨g, i * 5 + 1, none⟩) hgB _
        have G2 := (G1.trans (grownBy_of_below k2 (some g))).trans (grownBy_store w2 g (i * 5 + 1) (.string (mark (K + 1))))
        clear S1 b1 k2 G1
        go_wp2_with fail
        clear c0 f0
        generalize w2.setCell ⟨g, i * 5 + 1, none⟩ (.string (mark (K + 1))) = X2 at S2 b2 G2 ⊢
        refine (markText_at _ (K + 2) _ (by omega) (by omega) (by omega)).mono ?_
        rintro e w3 ⟨rfl, k3⟩
        replace S2 := S2.later k3
        have b3 := b2.trans (k3.mono (Nat.le_trans hB b2.size))
        obtain ⟨c0, f0⟩ := S2.cellAt (HGX.out _) (HN1.out _) 2 _ rfl
        have S3 := S2.store (HN1.out _) (HGX.out _) (HGB.out _) 2 (by decide) (.string (mark (K + 2))) ⟨K, mark (K + 1), mark (K + 2), xx, xa, xl, xc⟩ rfl rfl ⟨K, mark (K + 1), mark (K + 2), b.next, b.mails⟩ ⟨rfl, rfl, rfl, e4⟩ rfl
        rw [List.set_set, List.set_set] at S3
        obtain ⟨c3, f3⟩ := S3.cellAt (HGX.out _) (HN1.out _) 3 _ rfl
        replace b3 : Below B w (w3.setCell ⟨g, i * 5 + 2, none⟩ (.string (mark (K + 2)))) := b3.setCell (p := ⟨g, i * 5 + 2, none⟩) hgB _
        have S4 := S3.store (HN1.out _) (HGX.out _) (HGB.out _) 3 (by decide) (.int .i64 ((K : Int) + 1 + 1 + 1)) ⟨K, mark (K + 1), mark (K + 2), (K : Int) + 1 + 1 + 1, xa, xl, xc⟩ rfl rfl ⟨K, mark (K + 1), mark (K + 2), (K : Int) + 1 + 1 + 1, b.mails⟩ ⟨rfl, rfl, rfl, rfl⟩ rfl
        rw [List.set_set, List.set_set] at S4
        obtain ⟨c4, f4⟩ := S4.cellAt (HGX.out _) (HN1.out _) 4 _ rfl
        have G3 := ((G2.trans (grownBy_of_below k3 (some g))).trans (grownBy_store w3 g (i * 5 + 2) (.string (mark (K + 2))))).trans (grownBy_store _ g (i * 5 + 3) (.int .i64 ((K : Int) + 1 + 1 + 1)))
        clear S2 b2 k3 G2
        have b4 : Below B w ((w3.setCell ⟨g, i * 5 + 2, none⟩ (.string (mark (K + 2)))).setCell ⟨g, i * 5 + 3, none⟩ (.int .i64 ((K : Int) + 1 + 1 + 1))) := b3.setCell (p := ⟨g, i * 5 + 3, none⟩) hgB _
        go_wp2_with fail
        clear c0 f0 c3 f3 c4 f4 S3 b3
        generalize (w3.setCell ⟨g, i * 5 + 2, none⟩ (.string (mark (K + 2)))).setCell ⟨g, i * 5 + 3, none⟩ (.int .i64 ((K : Int) + 1 + 1 + 1)) = X4 at S4 b4 G3 ⊢
        have hK4 : (K : Int) + 1 + 1 + 1 + 1 = ((K + 4 : Nat) : Int) := by omega
        rw [hK4]
        have hmr4 := (S4.at' i _ _ (HGX.out _) (HGB.out _)).2
        refine (markMailS_any b.mails _ (K + 4) B X4 X4 hmr4 (by omega) (by omega)).mono ?_
        rintro e w5 ⟨rfl, r5, g5⟩
        have S5 := S4.mails (HGX.out _) (HGB.out _) _ r5.here g5
        rw [List.set_set] at S5
        have b5 : Below B w w5 := b4.grown g5 (Nat.le_trans hB b4.size) (fun q hq => (hmr4.own.lt q hq).1)
        have HKN : Hid (∀ q, q < w.heap.size → q ≠ g → (∀ (j : Nat) (x : BxH), hs[j]? = some x → x.mv.ownBlock ≠ some q) → w5.heap[q]? = w.heap[q]?) := fun q hq hqg hqm => by
          obtain ⟨x0, hx0, ex⟩ := HMX.out
          have hwr : q < wr.heap.size := Nat.lt_of_lt_of_le hq HBS.out
          have e1 := g5.block q (Nat.lt_of_lt_of_le hwr G3.size) (fun e => hqm i x0 hx0 (by rw [← ex]; exact e.symm))
          have e2 := G3.block q hwr (fun e => hqg (Option.some.inj e))
          exact (e1.trans e2).trans (HKP.out q hq hqg hqm)
        have HMN : Hid (∀ (j : Nat) (y : BxH), (hs'.set i ⟨K, mark (K + 1), mark (K + 2), (K : Int) + 1 + 1 + 1, xa, xl, xc⟩)[j]? = some y → ∃ x, hs[j]? = some x ∧ y.mv = x.mv) := fun j y hy => by
          rcases set_ways hy with ⟨rfl, rfl⟩ | ⟨_, hy⟩
          · exact HMX.out
          · exact HMV.out j y hy
        have hmk : (⟨(K : Int), mark (K + 1), mark (K + 2), (K : Int) + 1 + 1 + 1, marksL (K + 4) b.mails.length⟩ : Bx) = markB K b := by
          unfold markB
          rw [show (K : Int) + 1 + 1 + 1 = ((K + 3 : Nat) : Int) by omega]
        rw [hmk, HSET.out] at S5
        have HS5 := Lib.hid S5
        clear S5 S4 r5 g5 b4 hmr4 hmk G3
        go_wp2
        exact ⟨⟨i + 1, _, by omega, by simp, by rw [HK.out]; rfl, HS5.out, b5, HMN.out, HKN.out⟩, by first | omega | (simp [intOf]; omega)⟩
      · have hge : ¬ (i : Int) < (bs.length : Int) := by omega
        have hil : i = bs.length := by omega
        have HE : Hid (kE k bs = kE k (bs.take i) ∧ putB k bs i = marksB k bs) := ⟨by rw [hil, List.take_length], by rw [hil, putB_all]⟩
        rw [HE.out.2] at S
        have HS := Lib.hid S
        clear S
        go_wp2
        go_ret
        exact ⟨by rw [HE.out.1]; rfl, ⟨_, HS.out⟩, hb, fun q hq hqv hqm => HKP.out q hq (fun e => hqv (by rw [e]; rfl)) hqm⟩


end Go.Proofs.Ytjfilicddnhniaa

/- Records and items: the helpers of the exact laws. -/
namespace Go.Proofs.Ytjfilicddnhniaa
open Go.RowKit







end Go.Proofs.Ytjfilicddnhniaa

/- Lists copied element by element. -/
namespace Go.Proofs.Ytjfilicddnhniaa
open Go.RowKit

/-- The first i elements of l, then nothing yet. -/
def copyTo {α : Type} (z : α) (l : List α) (i : Nat) : List α := l.take i ++ List.replicate (l.length - i) z
theorem copyTo_length {α : Type} {z : α} {l : List α} {i : Nat} (h : i ≤ l.length) : (copyTo z l i).length = l.length := by simp [copyTo]; omega
theorem copyTo_zero {α : Type} (z : α) (l : List α) : copyTo z l 0 = List.replicate l.length z := by simp [copyTo]
theorem copyTo_all {α : Type} {z : α} {l : List α} {i : Nat} (h : l.length ≤ i) : copyTo z l i = l := by
  rw [copyTo, List.take_of_length_le h, show l.length - i = 0 by omega]; simp
theorem copyTo_at {α : Type} {z : α} {l : List α} {i : Nat} (h : i < l.length) : (copyTo z l i)[i]? = some z := by
  have hm : (l.take i).length = i := by simp; omega
  rw [copyTo, List.getElem?_append_right (by omega), hm, Nat.sub_self, List.getElem?_replicate, if_pos (by omega)]
theorem copyTo_set {α : Type} {z : α} {l : List α} {i : Nat} (h : i < l.length) : (copyTo z l i).set i l[i] = copyTo z l (i + 1) := by
  have hm : (l.take i).length = i := by simp; omega
  rw [copyTo, List.set_append_right _ _ (by omega), hm, Nat.sub_self, copyTo, List.take_succ_eq_append_getElem h, List.append_assoc]
  have : l.length - i = (l.length - (i + 1)) + 1 := by omega
  rw [this, List.replicate_succ]
  rfl

theorem Rows'.at {α : Type} {E : Enc α} {w : World} {a : Option Addr} {cap : Nat} {l : List α} (h : Rows' E w (.slice a l.length cap) l) (i : Nat) (hi : i < l.length) :
    ∃ g off : Nat, a = some ⟨g, off, none⟩ ∧ ∀ w', Below w.heap.size w w' → ∀ k u, (E.f l[i])[k]? = some u → w'.cell? ⟨g, off + i * E.sz + k, none⟩ = some u := by
  rcases h.ways with ⟨h0, _⟩ | ⟨_, g, off, c, hv, hc, hg, hcl⟩
  · rw [h0] at hi; simp at hi
  · simp only [Value.slice.injEq] at hv
    exact ⟨g, off, hv.1, fun w' hb k u hu => (hb.cell (p := ⟨g, off + i * E.sz + k, none⟩) hg).trans (hcl i _ (List.getElem?_eq_getElem hi) k u hu)⟩

end Go.Proofs.Ytjfilicddnhniaa

/- Lists of items that come in: how great they are, copies of them, and that two alike are alike; items marked. -/
namespace Go.Proofs.Ytjfilicddnhniaa
open Go.RowKit



/-- A whole item is stored. -/
theorem RBuf.put9 {B : Nat} {w0 w : World} {g cap : Nat} {l : List Itm} (h : RBuf itE B w0 w (.slice (some ⟨g, 0, none⟩) l.length cap) l) (i : Nat) (x : Itm) (hi : l[i]? = some x) (y : Itm) :
    RBuf itE B w0 (((((((((w.setCell ⟨g, i * 9, none⟩ (.int .i64 y.1)).setCell ⟨g, i * 9 + 1, none⟩ (.int .i64 y.2.kind)).setCell ⟨g, i * 9 + 2, none⟩ (.int .i64 y.2.valid)).setCell ⟨g, i * 9 + 3, none⟩ (.int .i64 y.2.uid)).setCell ⟨g, i * 9 + 4, none⟩ (.int .i64 y.2.next)).setCell ⟨g, i * 9 + 5, none⟩ (.int .i64 y.2.flags)).setCell ⟨g, i * 9 + 6, none⟩ (.string y.2.user)).setCell ⟨g, i * 9 + 7, none⟩ (.string y.2.name)).setCell ⟨g, i * 9 + 8, none⟩ (.string y.2.text)) (.slice (some ⟨g, 0, none⟩) l.length cap) (l.set i y) := by
  have hlt : i < l.length := (List.getElem?_eq_some_iff.1 hi).1
  have hl1 : ∀ z : Itm, (l.set i z).length = l.length := fun z => by simp
  have ha1 : ∀ z : Itm, (l.set i z)[i]? = some z := fun z => List.getElem?_set_self hlt
  have s0 : RBuf itE B w0 (w.setCell ⟨g, i * 9, none⟩ (.int .i64 y.1)) (.slice (some ⟨g, 0, none⟩) l.length cap) (l.set i (y.1, ⟨x.2.kind, x.2.valid, x.2.uid, x.2.next, x.2.flags, x.2.user, x.2.name, x.2.text⟩)) := h.stored i _ (y.1, ⟨x.2.kind, x.2.valid, x.2.uid, x.2.next, x.2.flags, x.2.user, x.2.name, x.2.text⟩) hi 0 (by decide) (.int .i64 y.1) rfl
  rw [← hl1 (y.1, ⟨x.2.kind, x.2.valid, x.2.uid, x.2.next, x.2.flags, x.2.user, x.2.name, x.2.text⟩)] at s0
  have s1 := s0.stored i _ (y.1, ⟨y.2.kind, x.2.valid, x.2.uid, x.2.next, x.2.flags, x.2.user, x.2.name, x.2.text⟩) (ha1 _) 1 (by decide) (.int .i64 y.2.kind) rfl
  rw [List.set_set, hl1] at s1
  rw [← hl1 (y.1, ⟨y.2.kind, x.2.valid, x.2.uid, x.2.next, x.2.flags, x.2.user, x.2.name, x.2.text⟩)] at s1
  have s2 := s1.stored i _ (y.1, ⟨y.2.kind, y.2.valid, x.2.uid, x.2.next, x.2.flags, x.2.user, x.2.name, x.2.text⟩) (ha1 _) 2 (by decide) (.int .i64 y.2.valid) rfl
  rw [List.set_set, hl1] at s2
  rw [← hl1 (y.1, ⟨y.2.kind, y.2.valid, x.2.uid, x.2.next, x.2.flags, x.2.user, x.2.name, x.2.text⟩)] at s2
  have s3 := s2.stored i _ (y.1, ⟨y.2.kind, y.2.valid, y.2.uid, x.2.next, x.2.flags, x.2.user, x.2.name, x.2.text⟩) (ha1 _) 3 (by decide) (.int .i64 y.2.uid) rfl
  rw [List.set_set, hl1] at s3
  rw [← hl1 (y.1, ⟨y.2.kind, y.2.valid, y.2.uid, x.2.next, x.2.flags, x.2.user, x.2.name, x.2.text⟩)] at s3
  have s4 := s3.stored i _ (y.1, ⟨y.2.kind, y.2.valid, y.2.uid, y.2.next, x.2.flags, x.2.user, x.2.name, x.2.text⟩) (ha1 _) 4 (by decide) (.int .i64 y.2.next) rfl
  rw [List.set_set, hl1] at s4
  rw [← hl1 (y.1, ⟨y.2.kind, y.2.valid, y.2.uid, y.2.next, x.2.flags, x.2.user, x.2.name, x.2.text⟩)] at s4
  have s5 := s4.stored i _ (y.1, ⟨y.2.kind, y.2.valid, y.2.uid, y.2.next, y.2.flags, x.2.user, x.2.name, x.2.text⟩) (ha1 _) 5 (by decide) (.int .i64 y.2.flags) rfl
  rw [List.set_set, hl1] at s5
  rw [← hl1 (y.1, ⟨y.2.kind, y.2.valid, y.2.uid, y.2.next, y.2.flags, x.2.user, x.2.name, x.2.text⟩)] at s5
  have s6 := s5.stored i _ (y.1, ⟨y.2.kind, y.2.valid, y.2.uid, y.2.next, y.2.flags, y.2.user, x.2.name, x.2.text⟩) (ha1 _) 6 (by decide) (.string y.2.user) rfl
  rw [List.set_set, hl1] at s6
  rw [← hl1 (y.1, ⟨y.2.kind, y.2.valid, y.2.uid, y.2.next, y.2.flags, y.2.user, x.2.name, x.2.text⟩)] at s6
  have s7 := s6.stored i _ (y.1, ⟨y.2.kind, y.2.valid, y.2.uid, y.2.next, y.2.flags, y.2.user, y.2.name, x.2.text⟩) (ha1 _) 7 (by decide) (.string y.2.name) rfl
  rw [List.set_set, hl1] at s7
  rw [← hl1 (y.1, ⟨y.2.kind, y.2.valid, y.2.uid, y.2.next, y.2.flags, y.2.user, y.2.name, x.2.text⟩)] at s7
  have s8 := s7.stored i _ (y.1, ⟨y.2.kind, y.2.valid, y.2.uid, y.2.next, y.2.flags, y.2.user, y.2.name, y.2.text⟩) (ha1 _) 8 (by decide) (.string y.2.text) rfl
  rw [List.set_set, hl1] at s8
  exact s8



/-- Items of whatever make in a row of the call's own. -/
def RItm (B : Nat) (X : World) (g n cap : Nat) : Prop := ∃ l : List Itm, l.length = n ∧ RBuf itE B X X (.slice (some ⟨g, 0, none⟩) n cap) l
theorem RItm.later {B : Nat} {X Y : World} {g n cap : Nat} (h : RItm B X g n cap) (hb : Below X.heap.size X Y) : RItm B Y g n cap := by
  obtain ⟨l, h1, h2⟩ := h
  exact ⟨l, h1, (h2.later hb).here⟩
theorem RItm.at0 {B : Nat} {X : World} {g n cap : Nat} (h : RItm B X g n cap) {i : Nat} (hi : i < n) : (∃ z : Int, X.cell? ⟨g, i * 9, none⟩ = some (.int .i64 z)) ∧ X.frozen? ⟨g, i * 9, none⟩ = false ∧ ∀ z : Int, RItm B (X.setCell ⟨g, i * 9, none⟩ (.int .i64 z)) g n cap := by
  obtain ⟨l, rfl, h2⟩ := h
  have hx : l[i]? = some l[i] := List.getElem?_eq_getElem hi
  generalize l[i] = x at hx
  exact ⟨⟨_, h2.cell rfl i x hx 0 _ rfl⟩, h2.loose _, fun z => ⟨l.set i (z, ⟨x.2.kind, x.2.valid, x.2.uid, x.2.next, x.2.flags, x.2.user, x.2.name, x.2.text⟩), by simp, (h2.stored i x (z, ⟨x.2.kind, x.2.valid, x.2.uid, x.2.next, x.2.flags, x.2.user, x.2.name, x.2.text⟩) hx 0 (by decide) (.int .i64 z) rfl).here⟩⟩
theorem RItm.at1 {B : Nat} {X : World} {g n cap : Nat} (h : RItm B X g n cap) {i : Nat} (hi : i < n) : (∃ z : Int, X.cell? ⟨g, i * 9 + 1, none⟩ = some (.int .i64 z)) ∧ X.frozen? ⟨g, i * 9 + 1, none⟩ = false ∧ ∀ z : Int, RItm B (X.setCell ⟨g, i * 9 + 1, none⟩ (.int .i64 z)) g n cap := by
  obtain ⟨l, rfl, h2⟩ := h
  have hx : l[i]? = some l[i] := List.getElem?_eq_getElem hi
  generalize l[i] = x at hx
  exact ⟨⟨_, h2.cell rfl i x hx 1 _ rfl⟩, h2.loose _, fun z => ⟨l.set i (x.1, ⟨z, x.2.valid, x.2.uid, x.2.next, x.2.flags, x.2.user, x.2.name, x.2.text⟩), by simp, (h2.stored i x (x.1, ⟨z, x.2.valid, x.2.uid, x.2.next, x.2.flags, x.2.user, x.2.name, x.2.text⟩) hx 1 (by decide) (.int .i64 z) rfl).here⟩⟩
theorem RItm.at2 {B : Nat} {X : World} {g n cap : Nat} (h : RItm B X g n cap) {i : Nat} (hi : i < n) : (∃ z : Int, X.cell? ⟨g, i * 9 + 2, none⟩ = some (.int .i64 z)) ∧ X.frozen? ⟨g, i * 9 + 2, none⟩ = false ∧ ∀ z : Int, RItm B (X.setCell ⟨g, i * 9 + 2, none⟩ (.int .i64 z)) g n cap := by
  obtain ⟨l, rfl, h2⟩ := h
  have hx : l[i]? = some l[i] := List.getElem?_eq_getElem hi
  generalize l[i] = x at hx
  exact ⟨⟨_, h2.cell rfl i x hx 2 _ rfl⟩, h2.loose _, fun z => ⟨l.set i (x.1, ⟨x.2.kind, z, x.2.uid, x.2.next, x.2.flags, x.2.user, x.2.name, x.2.text⟩), by simp, (h2.stored i x (x.1, ⟨x.2.kind, z, x.2.uid, x.2.next, x.2.flags, x.2.user, x.2.name, x.2.text⟩) hx 2 (by decide) (.int .i64 z) rfl).here⟩⟩
theorem RItm.at3 {B : Nat} {X : World} {g n cap : Nat} (h : RItm B X g n cap) {i : Nat} (hi : i < n) : (∃ z : Int, X.cell? ⟨g, i * 9 + 3, none⟩ = some (.int .i64 z)) ∧ X.frozen? ⟨g, i * 9 + 3, none⟩ = false ∧ ∀ z : Int, RItm B (X.setCell ⟨g, i * 9 + 3, none⟩ (.int .i64 z)) g n cap := by
  obtain ⟨l, rfl, h2⟩ := h
  have hx : l[i]? = some l[i] := List.getElem?_eq_getElem hi
  generalize l[i] = x at hx
  exact ⟨⟨_, h2.cell rfl i x hx 3 _ rfl⟩, h2.loose _, fun z => ⟨l.set i (x.1, ⟨x.2.kind, x.2.valid, z, x.2.next, x.2.flags, x.2.user, x.2.name, x.2.text⟩), by simp, (h2.stored i x (x.1, ⟨x.2.kind, x.2.valid, z, x.2.next, x.2.flags, x.2.user, x.2.name, x.2.text⟩) hx 3 (by decide) (.int .i64 z) rfl).here⟩⟩
theorem RItm.at4 {B : Nat} {X : World} {g n cap : Nat} (h : RItm B X g n cap) {i : Nat} (hi : i < n) : (∃ z : Int, X.cell? ⟨g, i * 9 + 4, none⟩ = some (.int .i64 z)) ∧ X.frozen? ⟨g, i * 9 + 4, none⟩ = false ∧ ∀ z : Int, RItm B (X.setCell ⟨g, i * 9 + 4, none⟩ (.int .i64 z)) g n cap := by
  obtain ⟨l, rfl, h2⟩ := h
  have hx : l[i]? = some l[i] := List.getElem?_eq_getElem hi
  generalize l[i] = x at hx
  exact ⟨⟨_, h2.cell rfl i x hx 4 _ rfl⟩, h2.loose _, fun z => ⟨l.set i (x.1, ⟨x.2.kind, x.2.valid, x.2.uid, z, x.2.flags, x.2.user, x.2.name, x.2.text⟩), by simp, (h2.stored i x (x.1, ⟨x.2.kind, x.2.valid, x.2.uid, z, x.2.flags, x.2.user, x.2.name, x.2.text⟩) hx 4 (by decide) (.int .i64 z) rfl).here⟩⟩
theorem RItm.at5 {B : Nat} {X : World} {g n cap : Nat} (h : RItm B X g n cap) {i : Nat} (hi : i < n) : (∃ z : Int, X.cell? ⟨g, i * 9 + 5, none⟩ = some (.int .i64 z)) ∧ X.frozen? ⟨g, i * 9 + 5, none⟩ = false ∧ ∀ z : Int, RItm B (X.setCell ⟨g, i * 9 + 5, none⟩ (.int .i64 z)) g n cap := by
  obtain ⟨l, rfl, h2⟩ := h
  have hx : l[i]? = some l[i] := List.getElem?_eq_getElem hi
  generalize l[i] = x at hx
  exact ⟨⟨_, h2.cell rfl i x hx 5 _ rfl⟩, h2.loose _, fun z => ⟨l.set i (x.1, ⟨x.2.kind, x.2.valid, x.2.uid, x.2.next, z, x.2.user, x.2.name, x.2.text⟩), by simp, (h2.stored i x (x.1, ⟨x.2.kind, x.2.valid, x.2.uid, x.2.next, z, x.2.user, x.2.name, x.2.text⟩) hx 5 (by decide) (.int .i64 z) rfl).here⟩⟩
theorem RItm.at6 {B : Nat} {X : World} {g n cap : Nat} (h : RItm B X g n cap) {i : Nat} (hi : i < n) : (∃ z : ByteArray, X.cell? ⟨g, i * 9 + 6, none⟩ = some (.string z)) ∧ X.frozen? ⟨g, i * 9 + 6, none⟩ = false ∧ ∀ z : ByteArray, RItm B (X.setCell ⟨g, i * 9 + 6, none⟩ (.string z)) g n cap := by
  obtain ⟨l, rfl, h2⟩ := h
  have hx : l[i]? = some l[i] := List.getElem?_eq_getElem hi
  generalize l[i] = x at hx
  exact ⟨⟨_, h2.cell rfl i x hx 6 _ rfl⟩, h2.loose _, fun z => ⟨l.set i (x.1, ⟨x.2.kind, x.2.valid, x.2.uid, x.2.next, x.2.flags, z, x.2.name, x.2.text⟩), by simp, (h2.stored i x (x.1, ⟨x.2.kind, x.2.valid, x.2.uid, x.2.next, x.2.flags, z, x.2.name, x.2.text⟩) hx 6 (by decide) (.string z) rfl).here⟩⟩
theorem RItm.at7 {B : Nat} {X : World} {g n cap : Nat} (h : RItm B X g n cap) {i : Nat} (hi : i < n) : (∃ z : ByteArray, X.cell? ⟨g, i * 9 + 7, none⟩ = some (.string z)) ∧ X.frozen? ⟨g, i * 9 + 7, none⟩ = false ∧ ∀ z : ByteArray, RItm B (X.setCell ⟨g, i * 9 + 7, none⟩ (.string z)) g n cap := by
  obtain ⟨l, rfl, h2⟩ := h
  have hx : l[i]? = some l[i] := List.getElem?_eq_getElem hi
  generalize l[i] = x at hx
  exact ⟨⟨_, h2.cell rfl i x hx 7 _ rfl⟩, h2.loose _, fun z => ⟨l.set i (x.1, ⟨x.2.kind, x.2.valid, x.2.uid, x.2.next, x.2.flags, x.2.user, z, x.2.text⟩), by simp, (h2.stored i x (x.1, ⟨x.2.kind, x.2.valid, x.2.uid, x.2.next, x.2.flags, x.2.user, z, x.2.text⟩) hx 7 (by decide) (.string z) rfl).here⟩⟩
theorem RItm.at8 {B : Nat} {X : World} {g n cap : Nat} (h : RItm B X g n cap) {i : Nat} (hi : i < n) : (∃ z : ByteArray, X.cell? ⟨g, i * 9 + 8, none⟩ = some (.string z)) ∧ X.frozen? ⟨g, i * 9 + 8, none⟩ = false ∧ ∀ z : ByteArray, RItm B (X.setCell ⟨g, i * 9 + 8, none⟩ (.string z)) g n cap := by
  obtain ⟨l, rfl, h2⟩ := h
  have hx : l[i]? = some l[i] := List.getElem?_eq_getElem hi
  generalize l[i] = x at hx
  exact ⟨⟨_, h2.cell rfl i x hx 8 _ rfl⟩, h2.loose _, fun z => ⟨l.set i (x.1, ⟨x.2.kind, x.2.valid, x.2.uid, x.2.next, x.2.flags, x.2.user, x.2.name, z⟩), by simp, (h2.stored i x (x.1, ⟨x.2.kind, x.2.valid, x.2.uid, x.2.next, x.2.flags, x.2.user, x.2.name, z⟩) hx 8 (by decide) (.string z) rfl).here⟩⟩


end Go.Proofs.Ytjfilicddnhniaa

/- States: what the law on StateOf asks, given what the program's StateOf hands back. -/
namespace Go.Proofs.Ytjfilicddnhniaa
open Go.RowKit

theorem upOf_all (f : Itm → Option Int) (l : List Itm) : (upOf f l).length ≤ l.length := by
  have := upOf_len f l l.length
  rwa [List.take_length] at this
/-- What is told is little. -/
theorem stateL_small (l : List Itm) : (stateL l).length ≤ 200 ∧ ∀ b ∈ stateL l, b.mails.length ≤ 200 := by
  unfold stateL
  by_cases h : itemsOk l
  · rw [if_pos h]
    have hl := h.2.2
    refine ⟨?_, fun b hb => ?_⟩
    · unfold tellAll
      rw [List.length_map]
      have := upOf_all (validK l) l
      omega
    · obtain ⟨v, _, rfl⟩ := List.mem_map.1 hb
      show (mailsOf v l).length ≤ 200
      unfold mailsOf
      rw [List.length_map]
      have := upOf_all (uidK v l) l
      omega
  · rw [if_neg h]
    exact ⟨by simp, fun b hb => by cases hb⟩
theorem kE_small : ∀ (k : Nat) (bs : List Bx), (∀ b ∈ bs, b.mails.length ≤ 200) → kE k bs ≤ k + 604 * bs.length
  | k, [], _ => by simp [kE]
  | k, b :: bs, h => by
    have h1 := kE_small (kB k b) bs (fun x hx => h x (List.mem_cons_of_mem _ hx))
    have h2 := h b (by simp)
    unfold kE
    unfold kB at *
    rw [List.length_cons]
    omega


set_option maxRecDepth 100000 in
set_option maxHeartbeats 1000000 in
theorem markState_any (bs : List Bx) (v : Value) (k B : Nat) (hs : List BxH) (w : World) (h : StO B w v bs hs) (hk : 1 ≤ k) (hk2 : kE k bs ≤ 1099511627776) (hl : bs.length ≤ 1099511627776) :
    Calls Try.prog 31 #[.agg #[v], .int .i64 (k : Int)] w fun e w' => e = .returned (.int .i64 (kE k bs : Int)) ∧ (∃ hs', StO B w' v (marksB k bs) hs') ∧ Below B w w' ∧ (∀ q, q < w.heap.size → v.ownBlock ≠ some q → (∀ (j : Nat) (x : BxH), hs[j]? = some x → x.mv.ownBlock ≠ some q) → w'.heap[q]? = w.heap[q]?) := by
  have hB := h.row.le
  obtain ⟨a, c, rfl⟩ := h.row.form
  have b1 : Below B w (w.alloc (.cells #[.slice a hs.length c] 28)) := (Below.refl _ _).alloc hB _
  have S1 := h.later (belNew w (.cells #[.slice a hs.length c] 28))
  have HM := Lib.hid (markBoxS_any bs _ k B hs _ S1 hk hk2 hl)
  clear h S1
  go_enter Try.func31, Try.ntmps31
  go_wp2_with fail
  refine HM.out.mono ?_
  rintro e w1 ⟨rfl, h1, k1, hq⟩
  have H1 := Lib.hid h1
  have HQ := Lib.hid hq
  clear h1 hq
  go_wp2
  go_ret
  exact ⟨rfl, H1.out, b1.trans k1, fun q hq h1 h2 => (HQ.out q (by simp; omega) h1 h2).trans (Below.heap_alloc _ _ _ hq)⟩


end Go.Proofs.Ytjfilicddnhniaa

/- What stays where its own block's cells stay, and where the blocks of boxes lie. -/
namespace Go.Proofs.Ytjfilicddnhniaa
open Go.RowKit

/-- A list of the call's own stays where its block stays. -/
theorem RBuf.stay {α : Type} {E : Enc α} {B : Nat} {w w' : World} {v : Value} {l : List α} (h : RBuf E B w w v l) (hz : w.heap.size ≤ w'.heap.size) (hk : ∀ k, v.ownBlock = some k → w'.heap[k]? = w.heap[k]?) : RBuf E B w' w' v l := by
  refine ⟨⟨h.own.1, ?_⟩, Below.refl _ _, Nat.le_trans h.le hz⟩
  rcases h.own.2 with h0 | ⟨g, cap, cur, rfl, hg, hh, h1, h2, h3, h4⟩
  · exact .inl h0
  · exact .inr ⟨g, cap, cur, rfl, hg, (hk g rfl).trans hh, h1, h2, h3, h4⟩
theorem Box.stay {w w' : World} {b : Nat} {cs : Array Value} {t : TypeId} (h : Box w b cs t) (hk : w'.heap[b]? = w.heap[b]?) : Box w' b cs t := hk.trans h

/-- The blocks of boxes of the call's own lie below the heap's end. -/
theorem StO.beyond {B : Nat} {w : World} {v : Value} {bs : List Bx} {hs : List BxH} (h : StO B w v bs hs) {q : Nat} (hq : w.heap.size ≤ q) : v.ownBlock ≠ some q ∧ ∀ (j : Nat) (x : BxH), hs[j]? = some x → x.mv.ownBlock ≠ some q := by
  refine ⟨fun e => by have := (h.row.own.lt q e).2; omega, fun j x hj e => ?_⟩
  have hl : j < bs.length := by have := (List.getElem?_eq_some_iff.1 hj).1; have := h.len; omega
  have := ((h.at' j x _ hj (List.getElem?_eq_getElem hl)).2.own.lt q e).2
  omega

end Go.Proofs.Ytjfilicddnhniaa

/- How great boxes are, plainly. -/
namespace Go.Proofs.Ytjfilicddnhniaa

/-- The bytes of the texts of mails. -/
def txs : List Ml → Nat
  | [] => 0
  | m :: ms => m.text.size + txs ms
theorem txs_append : ∀ (l m : List Ml), txs (l ++ m) = txs l + txs m
  | [], m => by simp [txs]
  | x :: l, m => by simp [txs, txs_append l m]; omega
theorem txs_take {l : List Ml} {i : Nat} {m : Ml} (h : l[i]? = some m) : txs (l.take (i + 1)) = txs (l.take i) + m.text.size := by
  rw [List.take_add_one, h, txs_append]; simp [txs]
theorem txs_mem : ∀ {l : List Ml} {m : Ml}, m ∈ l → m.text.size ≤ txs l
  | x :: l, m, h => by
    rcases List.mem_cons.1 h with rfl | h
    · simp [txs]
    · have := txs_mem h; simp [txs]; omega
theorem txs_take_le (l : List Ml) (i : Nat) : txs (l.take i) ≤ txs l := by
  have := txs_append (l.take i) (l.drop i)
  rw [List.take_append_drop] at this; omega
/-- A box: its words, its mails and their texts. -/
def bz (b : Bx) : Nat := b.user.size + b.name.size + (b.mails.length + txs b.mails)
def bzs : List Bx → Nat
  | [] => 0
  | b :: bs => bz b + bzs bs
theorem bzs_append : ∀ (l m : List Bx), bzs (l ++ m) = bzs l + bzs m
  | [], m => by simp [bzs]
  | x :: l, m => by simp [bzs, bzs_append l m]; omega
theorem bzs_take {l : List Bx} {i : Nat} {b : Bx} (h : l[i]? = some b) : bzs (l.take (i + 1)) = bzs (l.take i) + bz b := by
  rw [List.take_add_one, h, bzs_append]; simp [bzs]
theorem bzs_mem : ∀ {l : List Bx} {b : Bx}, b ∈ l → bz b ≤ bzs l
  | x :: l, b, h => by
    rcases List.mem_cons.1 h with rfl | h
    · simp [bzs]
    · have := bzs_mem h; simp [bzs]; omega
/-- Texts whose lengths are lengths. -/
def mlShort (m : Ml) : Prop := m.text.size ≤ 9223372036854775807
def bxShort (b : Bx) : Prop := b.user.size ≤ 9223372036854775807 ∧ b.name.size ≤ 9223372036854775807 ∧ b.mails.length ≤ 9223372036854775807 ∧ ∀ m ∈ b.mails, mlShort m
theorem bz_user (b : Bx) : b.user.size ≤ bz b := by unfold bz; omega
theorem bz_name (b : Bx) : b.name.size ≤ bz b := by unfold bz; omega
theorem bz_mails (b : Bx) : b.mails.length ≤ bz b := by unfold bz; omega
theorem bz_text {b : Bx} {m : Ml} (h : m ∈ b.mails) : m.text.size ≤ bz b := by have := txs_mem h; unfold bz; omega

end Go.Proofs.Ytjfilicddnhniaa

/- Boxes that come in: how great they are, and copies of them. -/
namespace Go.Proofs.Ytjfilicddnhniaa
open Go.RowKit

def lmlE : Enc Ml where
  ty := 172
  sty := 125
  sz := 3
  bytes := 32
  zero := .agg #[.int .i64 0, .int .i64 0, .string ⟨#[]⟩]
  f := fun x => [.int .i64 x.uid, .int .i64 x.flags, .string x.text]
  len := fun _ => rfl
  pos := by decide
  one := fun _ u hu => by simp at hu; rcases hu with rfl | rfl | rfl <;> rfl
  und := Try.underlying125
  info := by kernel_rfl
  zc := rfl
  z0 := ⟨0, 0, ⟨#[]⟩⟩
  zf := rfl
theorem Rows'.lmails {w : World} {a : Option Addr} {n c : Nat} {l : List Ml} (h : Rows' lmlE w (.slice a n c) l) : n = l.length ∧ MlRow w a l := by
  rcases h.ways with ⟨rfl, a, c, e⟩ | ⟨hne, g, off, c, e, hc, hg, hcl⟩
  · cases e
    exact ⟨rfl, fun X _ i x hi => by cases hi⟩
  · cases e
    refine ⟨rfl, fun X hb i x hi => ⟨g, off, rfl, ?_⟩⟩
    have hk : ∀ k u, (lmlE.f x)[k]? = some u → X.cell? ⟨g, off + i * 3 + k, none⟩ = some u := fun k u hu => (hb.cell (p := ⟨g, off + i * 3 + k, none⟩) hg).trans (hcl i _ hi k u hu)
    exact ⟨hk 0 _ rfl, hk 1 _ rfl, hk 2 _ rfl⟩

def lhdE : Enc BxH where
  ty := 127
  sty := 53
  sz := 5
  bytes := 72
  zero := .agg #[.int .i64 0, .string ⟨#[]⟩, .string ⟨#[]⟩, .int .i64 0, .slice none 0 0]
  f := fun x => [.int .i64 x.valid, .string x.user, .string x.name, .int .i64 x.next, .slice x.a x.n x.c]
  len := fun _ => rfl
  pos := by decide
  one := fun _ u hu => by simp at hu; rcases hu with rfl | rfl | rfl | rfl | rfl <;> rfl
  und := Try.underlying53
  info := by kernel_rfl
  zc := rfl
  z0 := ⟨0, ⟨#[]⟩, ⟨#[]⟩, 0, none, 0, 0⟩
  zf := rfl
/-- Boxes that came in can be read. -/
def LBRd (w : World) (v : Value) (bs : List Bx) : Prop := ∃ hs : List BxH, Rows' lhdE w v hs ∧ hs.length = bs.length ∧
  ∀ (j : Nat) (h : BxH) (b : Bx), hs[j]? = some h → bs[j]? = some b → (h.valid = b.valid ∧ h.user = b.user ∧ h.name = b.name ∧ h.next = b.next) ∧ Rows' lmlE w h.mv b.mails
theorem LBRd.later {w w' : World} {v : Value} {bs : List Bx} (h : LBRd w v bs) (hb : Below w.heap.size w w') : LBRd w' v bs := by
  obtain ⟨hs, h1, h2, h3⟩ := h
  exact ⟨hs, h1.later hb, h2, fun j x b e1 e2 => ⟨(h3 j x b e1 e2).1, (h3 j x b e1 e2).2.later hb⟩⟩
theorem LBRd.boxes {w : World} {v : Value} {bs : List Bx} (h : LBRd w v bs) : ∃ (ad : Option Addr) (cap : Nat), v = .slice ad bs.length cap ∧ ∀ X, Below w.heap.size w X → ∀ (i : Nat) (b : Bx), bs[i]? = some b → ∃ (g off : Nat) (a : Option Addr) (n c : Nat), ad = some ⟨g, off, none⟩ ∧
    X.cell? ⟨g, off + i * 5, none⟩ = some (.int .i64 b.valid) ∧ X.cell? ⟨g, off + i * 5 + 1, none⟩ = some (.string b.user) ∧ X.cell? ⟨g, off + i * 5 + 2, none⟩ = some (.string b.name) ∧ X.cell? ⟨g, off + i * 5 + 3, none⟩ = some (.int .i64 b.next) ∧ X.cell? ⟨g, off + i * 5 + 4, none⟩ = some (.slice a n c) ∧ Rows' lmlE w (.slice a n c) b.mails := by
  obtain ⟨hs, h1, h2, h3⟩ := h
  rcases h1.ways with ⟨rfl, a, c, rfl⟩ | ⟨hne, g, off, c, rfl, hc, hg, hcl⟩
  · have : bs = [] := by rw [← List.length_eq_zero_iff, ← h2]; rfl
    subst this
    exact ⟨a, c, rfl, fun X _ i b hi => by cases hi⟩
  · refine ⟨_, c, by rw [h2], fun X hb i b hi => ?_⟩
    have hl : i < hs.length := by rw [h2]; exact (List.getElem?_eq_some_iff.1 hi).1
    have hx : hs[i]? = some hs[i] := List.getElem?_eq_getElem hl
    obtain ⟨⟨e1, e2, e3, e4⟩, hm⟩ := h3 i _ b hx hi
    have hk : ∀ k u, (lhdE.f hs[i])[k]? = some u → X.cell? ⟨g, off + i * 5 + k, none⟩ = some u := fun k u hu => (hb.cell (p := ⟨g, off + i * 5 + k, none⟩) hg).trans (hcl i _ hx k u hu)
    refine ⟨g, off, hs[i].a, hs[i].n, hs[i].c, rfl, ?_, ?_, ?_, ?_, hk 4 _ rfl, hm⟩
    · rw [← e1]; exact hk 0 _ rfl
    · rw [← e2]; exact hk 1 _ rfl
    · rw [← e3]; exact hk 2 _ rfl
    · rw [← e4]; exact hk 3 _ rfl

set_option maxRecDepth 100000 in
theorem szMail_any (m : Ml) (left : Int) (w : World) (hs : mlShort m) (h0 : 0 ≤ left) (h1 : left ≤ 1048576) :
    Calls Try.prog 121 #[.agg #[.int .i64 m.uid, .int .i64 m.flags, .string m.text], .int .i64 left] w fun e w' => (∃ r : Int, e = .returned (.int .i64 r) ∧ (r < 0 ∨ r = left - (m.text.size : Int))) ∧ Below w.heap.size w w' := by
  unfold mlShort at hs
  have b0 := belNew w (.cells #[.int .i64 m.uid, .int .i64 m.flags, .string m.text] 172)
  by_cases hn : left - (m.text.size : Int) < 0
  · go_enter Try.func121, Try.ntmps121
    go_wp2
    go_ret
    exact ⟨⟨-1, rfl, .inl (by omega)⟩, b0⟩
  · go_enter Try.func121, Try.ntmps121
    go_wp2
    go_ret
    exact ⟨⟨left - (m.text.size : Int), by first | rfl | go_num, .inr rfl⟩, b0⟩

set_option maxRecDepth 100000 in
set_option maxHeartbeats 2000000 in
theorem szMailS_any (l : List Ml) (v : Value) (left : Int) (w : World) (h : Rows' lmlE w v l) (h0 : 0 ≤ left) (h1 : left ≤ 1048576) (hl : l.length ≤ 9223372036854775807) (hz : ∀ m ∈ l, mlShort m) :
    Calls Try.prog 111 #[v, .int .i64 left] w fun e w' => (∃ r : Int, e = .returned (.int .i64 r) ∧ (r < 0 ∨ r = left - ((l.length + txs l : Nat) : Int))) ∧ Below w.heap.size w w' := by
  obtain ⟨ad, n, cap, rfl⟩ : ∃ ad n cap, v = .slice ad n cap := by
    rcases h.ways with ⟨_, a, c, e⟩ | ⟨_, g, off, c, e, _⟩
    · exact ⟨_, _, _, e⟩
    · exact ⟨_, _, _, e⟩
  obtain ⟨rfl, hrow⟩ := h.lmails
  have HR := Lib.hid hrow
  have HZ := Lib.hid hz
  clear h hrow hz
  by_cases hneg : left - (l.length : Int) < 0
  · go_enter Try.func111, Try.ntmps111
    go_wp2
    go_ret
    exact ⟨⟨-1, rfl, .inl (by omega)⟩, Below.refl _ _⟩
  · go_enter Try.func111, Try.ntmps111
    go_wp2
    go_loopw [1, 5] (fun rv iv wr => ∃ (i : Nat) (r : Int), i ≤ l.length ∧ iv = .int .i64 (i : Int) ∧ rv = .int .i64 r ∧ 0 ≤ r ∧ r ≤ 1048576 ∧ Hid (r = left - ((l.length + txs (l.take i) : Nat) : Int)) ∧ Below w.heap.size w wr) (fun _ iv _ => l.length - (intOf iv).toNat)
    case atStart => exact ⟨0, left - (l.length : Int), by omega, rfl, by first | rfl | go_num, by omega, by omega, show _ = _ by simp [txs], Below.refl _ _⟩
    case round =>
      obtain ⟨i, r, hi, rfl, rfl, hr0, hr1, HRE, hb⟩ := hrel
      by_cases hlt : i < l.length
      · have hgx : l[i]? = some l[i] := List.getElem?_eq_getElem hlt
        have hzx := HZ.out l[i] (List.getElem_mem hlt)
        obtain ⟨ga, oa, rfl, a0, a1, a2⟩ := HR.out _ hb i _ hgx
        generalize l[i] = x at *
        have HX := Lib.hid hgx
        have HS := Lib.hid (fun wx => szMail_any x r wx hzx hr0 hr1)
        have hi0 : (0 : Int) ≤ (i : Int) := by omega
        have hi1 : (i : Int) < (l.length : Int) := by omega
        clear hgx hzx
        go_wp2_with fail
        clear a0 a1 a2
        refine (HS.out _).mono ?_
        rintro e w1 ⟨⟨r1, rfl, hr⟩, k1⟩
        have HW := Lib.hid hr
        have b1 := hb.trans (k1.mono hb.size)
        clear hr
        by_cases hn : r1 < 0
        · go_wp2
          go_ret
          exact ⟨⟨-1, rfl, .inl (by omega)⟩, b1⟩
        · have HU : Hid (r1 ≤ 1048576 ∧ r1 = left - ((l.length + txs (l.take (i + 1)) : Nat) : Int)) := by
            have h2 := HRE.out
            rcases HW.out with h3 | h3
            · exact absurd h3 hn
            · rw [txs_take HX.out]
              exact ⟨by omega, by omega⟩
          go_wp2
          exact ⟨⟨i + 1, r1, by omega, by simp, rfl, by omega, HU.out.1, HU.out.2, b1⟩, by first | omega | (simp [intOf]; omega)⟩
      · have hge : ¬ (i : Int) < (l.length : Int) := by omega
        have HE : Hid (r = left - ((l.length + txs l : Nat) : Int)) := by
          have h2 := HRE.out
          rw [List.take_of_length_le (by omega)] at h2
          exact h2
        go_wp2
        go_ret
        exact ⟨⟨r, rfl, .inr HE.out⟩, hb⟩

set_option maxRecDepth 100000 in
set_option maxHeartbeats 2000000 in
theorem szBox_any (b : Bx) (a : Option Addr) (n c : Nat) (left : Int) (w : World) (h : Rows' lmlE w (.slice a n c) b.mails) (hz : bxShort b) (h0 : 0 ≤ left) (h1 : left ≤ 1048576) :
    Calls Try.prog 87 #[.agg #[.int .i64 b.valid, .string b.user, .string b.name, .int .i64 b.next, .slice a n c], .int .i64 left] w fun e w' => (∃ r : Int, e = .returned (.int .i64 r) ∧ (r < 0 ∨ r = left - (bz b : Int))) ∧ Below w.heap.size w w' := by
  obtain ⟨z1, z2, z3, z4⟩ := hz
  have b0 := belNew w (.cells #[.int .i64 b.valid, .string b.user, .string b.name, .int .i64 b.next, .slice a n c] 127)
  have HB : Hid (bz b = b.user.size + b.name.size + (b.mails.length + txs b.mails)) := by show _ = _; rfl
  by_cases hn1 : left - (b.user.size : Int) < 0
  · go_enter Try.func87, Try.ntmps87
    go_wp2
    go_ret
    exact ⟨⟨-1, rfl, .inl (by omega)⟩, b0⟩
  by_cases hn2 : left - (b.user.size : Int) - (b.name.size : Int) < 0
  · go_enter Try.func87, Try.ntmps87
    go_wp2
    go_ret
    exact ⟨⟨-1, rfl, .inl (by omega)⟩, b0⟩
  have HS := Lib.hid (szMailS_any b.mails _ (left - (b.user.size : Int) - (b.name.size : Int)) _ (h.later b0) (by omega) (by omega) z3 z4)
  clear h z4
  go_enter Try.func87, Try.ntmps87
  go_wp2_with fail
  refine HS.out.mono ?_
  rintro e w1 ⟨⟨r1, rfl, hr⟩, k1⟩
  have HW := Lib.hid hr
  have b1 := b0.trans (k1.mono b0.size)
  clear hr HS
  by_cases hn : r1 < 0
  · go_wp2
    go_ret
    exact ⟨⟨-1, rfl, .inl (by omega)⟩, b1⟩
  · go_wp2
    go_ret
    refine ⟨⟨r1, rfl, ?_⟩, b1⟩
    rcases HW.out with h3 | h3
    · exact .inl h3
    · have := HB.out; right; omega

set_option maxRecDepth 100000 in
set_option maxHeartbeats 2000000 in
theorem szBoxS_any (l : List Bx) (v : Value) (left : Int) (w : World) (h : LBRd w v l) (h0 : 0 ≤ left) (h1 : left ≤ 1048576) (hl : l.length ≤ 9223372036854775807) (hz : ∀ b ∈ l, bxShort b) :
    Calls Try.prog 62 #[v, .int .i64 left] w fun e w' => (∃ r : Int, e = .returned (.int .i64 r) ∧ (r < 0 ∨ r = left - ((l.length + bzs l : Nat) : Int))) ∧ Below w.heap.size w w' := by
  obtain ⟨ad, cap, rfl, hrow⟩ := h.boxes
  have HR := Lib.hid hrow
  have HZ := Lib.hid hz
  clear h hrow hz
  by_cases hneg : left - (l.length : Int) < 0
  · go_enter Try.func62, Try.ntmps62
    go_wp2
    go_ret
    exact ⟨⟨-1, rfl, .inl (by omega)⟩, Below.refl _ _⟩
  · go_enter Try.func62, Try.ntmps62
    go_wp2
    go_loopw [1, 5] (fun rv iv wr => ∃ (i : Nat) (r : Int), i ≤ l.length ∧ iv = .int .i64 (i : Int) ∧ rv = .int .i64 r ∧ 0 ≤ r ∧ r ≤ 1048576 ∧ Hid (r = left - ((l.length + bzs (l.take i) : Nat) : Int)) ∧ Below w.heap.size w wr) (fun _ iv _ => l.length - (intOf iv).toNat)
    case atStart => exact ⟨0, left - (l.length : Int), by omega, rfl, by first | rfl | go_num, by omega, by omega, show _ = _ by simp [bzs], Below.refl _ _⟩
    case round =>
      obtain ⟨i, r, hi, rfl, rfl, hr0, hr1, HRE, hb⟩ := hrel
      by_cases hlt : i < l.length
      · have hgx : l[i]? = some l[i] := List.getElem?_eq_getElem hlt
        have hzx := HZ.out l[i] (List.getElem_mem hlt)
        obtain ⟨ga, oa, am, nm, cm, rfl, a0, a1, a2, a3, a4, rm⟩ := HR.out _ hb i _ hgx
        generalize l[i] = x at *
        have HX := Lib.hid hgx
        have HS := Lib.hid (szBox_any x am nm cm r wr (rm.later hb) hzx hr0 hr1)
        have hi0 : (0 : Int) ≤ (i : Int) := by omega
        have hi1 : (i : Int) < (l.length : Int) := by omega
        clear hgx hzx rm
        go_wp2_with fail
        clear a0 a1 a2 a3 a4
        refine HS.out.mono ?_
        rintro e w1 ⟨⟨r1, rfl, hr⟩, k1⟩
        have HW := Lib.hid hr
        have b1 := hb.trans (k1.mono hb.size)
        clear hr
        by_cases hn : r1 < 0
        · go_wp2
          go_ret
          exact ⟨⟨-1, rfl, .inl (by omega)⟩, b1⟩
        · have HU : Hid (r1 ≤ 1048576 ∧ r1 = left - ((l.length + bzs (l.take (i + 1)) : Nat) : Int)) := by
            have h2 := HRE.out
            rcases HW.out with h3 | h3
            · exact absurd h3 hn
            · rw [bzs_take HX.out]
              exact ⟨by omega, by omega⟩
          go_wp2
          exact ⟨⟨i + 1, r1, by omega, by simp, rfl, by omega, HU.out.1, HU.out.2, b1⟩, by first | omega | (simp [intOf]; omega)⟩
      · have hge : ¬ (i : Int) < (l.length : Int) := by omega
        have HE : Hid (r = left - ((l.length + bzs l : Nat) : Int)) := by
          have h2 := HRE.out
          rw [List.take_of_length_le (by omega)] at h2
          exact h2
        go_wp2
        go_ret
        exact ⟨⟨r, rfl, .inr HE.out⟩, hb⟩

set_option maxRecDepth 100000 in
set_option maxHeartbeats 2000000 in
theorem szState_any (l : List Bx) (v : Value) (left : Int) (w : World) (h : LBRd w v l) (h0 : 0 ≤ left) (h1 : left ≤ 1048576) (hl : l.length ≤ 9223372036854775807) (hz : ∀ b ∈ l, bxShort b) :
    Calls Try.prog 27 #[.agg #[v], .int .i64 left] w fun e w' => (∃ r : Int, e = .returned (.int .i64 r) ∧ (r < 0 ∨ r = left - ((l.length + bzs l : Nat) : Int))) ∧ Below w.heap.size w w' := by
  obtain ⟨ad, cap, rfl, _⟩ := h.boxes
  have b0 := belNew w (.cells #[.slice ad l.length cap] 55)
  have HS := Lib.hid (szBoxS_any l _ left _ (h.later b0) h0 h1 hl hz)
  clear h hz
  go_enter Try.func27, Try.ntmps27
  go_wp2_with fail
  refine HS.out.mono ?_
  rintro e w1 ⟨⟨r1, rfl, hr⟩, k1⟩
  have HW := Lib.hid hr
  have b1 := b0.trans (k1.mono b0.size)
  clear hr HS
  by_cases hn : r1 < 0
  · go_wp2
    go_ret
    exact ⟨⟨-1, rfl, .inl (by omega)⟩, b1⟩
  · go_wp2
    go_ret
    exact ⟨⟨r1, rfl, HW.out⟩, b1⟩

end Go.Proofs.Ytjfilicddnhniaa

/- Copies of boxes that come in. -/
namespace Go.Proofs.Ytjfilicddnhniaa
open Go.RowKit

/-- A whole mail is stored. -/
theorem RBuf.put3 {B : Nat} {w0 w : World} {g cap : Nat} {l : List Ml} (h : RBuf mlE B w0 w (.slice (some ⟨g, 0, none⟩) l.length cap) l) (i : Nat) (x : Ml) (hi : l[i]? = some x) (y : Ml) :
    RBuf mlE B w0 (((w.setCell ⟨g, i * 3, none⟩ (.int .i64 y.uid)).setCell ⟨g, i * 3 + 1, none⟩ (.int .i64 y.flags)).setCell ⟨g, i * 3 + 2, none⟩ (.string y.text)) (.slice (some ⟨g, 0, none⟩) l.length cap) (l.set i y) := by
  have hlt : i < l.length := (List.getElem?_eq_some_iff.1 hi).1
  have hl1 : ∀ z : Ml, (l.set i z).length = l.length := fun z => by simp
  have ha1 : ∀ z : Ml, (l.set i z)[i]? = some z := fun z => List.getElem?_set_self hlt
  have s0 : RBuf mlE B w0 (w.setCell ⟨g, i * 3, none⟩ (.int .i64 y.uid)) (.slice (some ⟨g, 0, none⟩) l.length cap) (l.set i ⟨y.uid, x.flags, x.text⟩) := h.stored i _ ⟨y.uid, x.flags, x.text⟩ hi 0 (by decide) (.int .i64 y.uid) rfl
  rw [← hl1 ⟨y.uid, x.flags, x.text⟩] at s0
  have s1 := s0.stored i _ ⟨y.uid, y.flags, x.text⟩ (ha1 _) 1 (by decide) (.int .i64 y.flags) rfl
  rw [List.set_set, hl1] at s1
  rw [← hl1 ⟨y.uid, y.flags, x.text⟩] at s1
  have s2 := s1.stored i _ ⟨y.uid, y.flags, y.text⟩ (ha1 _) 2 (by decide) (.string y.text) rfl
  rw [List.set_set, hl1] at s2
  exact s2

set_option maxRecDepth 100000 in
theorem toMail_any (m : Ml) (w : World) : Calls Try.prog 122 #[.agg #[.int .i64 m.uid, .int .i64 m.flags, .string m.text]] w fun e w' => e = .returned (.agg #[.int .i64 m.uid, .int .i64 m.flags, .string m.text]) ∧ Below w.heap.size w w' := by
  go_enter Try.func122, Try.ntmps122
  go_wp2
  refine bodyPost_ret (v := .agg #[.int .i64 m.uid, .int .i64 m.flags, .string m.text]) (by simp [results, Try.results122, go_sem]) rfl ?_
  exact ⟨rfl, (((Below.refl _ _).alloc (Nat.le_refl _) _).alloc (by simp) _).alloc (by simp; omega) _⟩

set_option maxRecDepth 100000 in
set_option maxHeartbeats 2000000 in
theorem toMailS_any (l : List Ml) (v : Value) (w : World) (h : Rows' lmlE w v l) (hl : l.length ≤ 1048576) :
    Calls Try.prog 112 #[v] w fun e w' => ∃ v', e = .returned v' ∧ RBuf mlE w.heap.size w w' v' l := by
  obtain ⟨a, n, cap, rfl⟩ : ∃ ad n cap, v = .slice ad n cap := by
    rcases h.ways with ⟨_, a, c, e⟩ | ⟨_, g, off, c, e, _⟩
    · exact ⟨_, _, _, e⟩
    · exact ⟨_, _, _, e⟩
  obtain ⟨rfl, hrow⟩ := h.lmails
  have HR := Lib.hid hrow
  clear h hrow
  go_enter Try.func112, Try.ntmps112
  go_wp2_with (at_make; refine wpList_make_rows rfl _ _ mlE rfl .i64 .i64 _ _ l.length rfl rfl rfl rfl (by show 33 * l.length ≤ _; omega) ?_; intro w1 hr1 hs1)
  go_loopw [4] (fun iv wr => ∃ i : Nat, i ≤ l.length ∧ iv = .int .i64 (i : Int) ∧ RBuf mlE w.heap.size w wr (.slice (some ⟨w.heap.size, 0, none⟩) l.length l.length) (copyTo mlE.z0 l i)) (fun iv _ => l.length - (intOf iv).toNat)
  case atStart => exact ⟨0, by omega, rfl, by rw [copyTo_zero]; exact hr1⟩
  case round =>
    obtain ⟨i, hi, rfl, hbr⟩ := hrel
    by_cases hlt : i < l.length
    · have hgx : l[i]? = some l[i] := List.getElem?_eq_getElem hlt
      obtain ⟨ga, oa, rfl, a0, a1, a2⟩ := HR.out _ hbr.bel i _ hgx
      have hi0 : (0 : Int) ≤ (i : Int) := by omega
      have hi1 : (i : Int) < (l.length : Int) := by omega
      have hml := copyTo_length (z := mlE.z0) hi
      have hms := copyTo_set (z := mlE.z0) hlt
      have hat := copyTo_at (z := mlE.z0) hlt
      rw [← hml] at hbr
      have HF : Hid (∀ w1, Below wr.heap.size wr w1 → (w1.cell? ⟨w.heap.size, i * 3, none⟩ = some (.int .i64 0) ∧ w1.frozen? ⟨w.heap.size, i * 3, none⟩ = false ∧ w1.cell? ⟨w.heap.size, i * 3 + 1, none⟩ = some (.int .i64 0) ∧ w1.frozen? ⟨w.heap.size, i * 3 + 1, none⟩ = false ∧ w1.cell? ⟨w.heap.size, i * 3 + 2, none⟩ = some (.string ⟨#[]⟩) ∧ w1.frozen? ⟨w.heap.size, i * 3 + 2, none⟩ = false)) := by
        intro w1 hb1
        have h1 := hbr.later hb1
        exact ⟨h1.cell rfl i _ hat 0 _ rfl, h1.loose _, h1.cell rfl i _ hat 1 _ rfl, h1.loose _, h1.cell rfl i _ hat 2 _ rfl, h1.loose _⟩
      generalize hx : l[i] = x at *
      have HT := Lib.hid (fun wx => toMail_any x wx)
      clear hgx
      go_wp2_with (go_at_call 122; refine (HT.out _).mono ?_; rintro e w1 ⟨rfl, hb1⟩; obtain ⟨d0, f0, d1, f1, d2, f2⟩ := HF.out w1 hb1)
      have hp := (hbr.later hb1).put3 i _ hat x
      rw [hms, hml] at hp
      go_roundw
      case rel => exact ⟨i + 1, by omega, by go_num, hp⟩
      case measure => simp [intOf]; omega
    · go_wp2
      go_ret
      rw [copyTo_all (by omega)] at hbr
      exact ⟨_, rfl, hbr⟩

set_option maxRecDepth 100000 in
set_option maxHeartbeats 2000000 in
theorem toBox_any (b : Bx) (a : Option Addr) (n c : Nat) (w : World) (h : Rows' lmlE w (.slice a n c) b.mails) (hl : b.mails.length ≤ 1048576) :
    Calls Try.prog 88 #[.agg #[.int .i64 b.valid, .string b.user, .string b.name, .int .i64 b.next, .slice a n c]] w fun e w' => ∃ (p : Option Addr) (k q : Nat), e = .returned (.agg #[.int .i64 b.valid, .string b.user, .string b.name, .int .i64 b.next, .slice p k q]) ∧ RBuf mlE w.heap.size w' w' (.slice p k q) b.mails ∧ Below w.heap.size w w' := by
  have bA := belNew w (.cells #[.int .i64 b.valid, .string b.user, .string b.name, .int .i64 b.next, .slice a n c] 127)
  obtain ⟨wA, hwA⟩ : ∃ wA, wA = w.alloc (.cells #[.int .i64 b.valid, .string b.user, .string b.name, .int .i64 b.next, .slice a n c] 127) := ⟨_, rfl⟩
  have eA : wA.heap.size = w.heap.size + 1 := by rw [hwA]; simp
  rw [← hwA] at bA
  have hB := Box.new wA #[.int .i64 0, .string ⟨#[]⟩, .string ⟨#[]⟩, .int .i64 0, .slice none 0 0] 32
  have bB := bA.trans ((belNew wA (.cells #[.int .i64 0, .string ⟨#[]⟩, .string ⟨#[]⟩, .int .i64 0, .slice none 0 0] 32)).mono bA.size)
  obtain ⟨wB, hwB⟩ : ∃ wB, wB = wA.alloc (.cells #[.int .i64 0, .string ⟨#[]⟩, .string ⟨#[]⟩, .int .i64 0, .slice none 0 0] 32) := ⟨_, rfl⟩
  have eB : wB.heap.size = w.heap.size + 1 + 1 := by rw [hwB]; simp; omega
  rw [← hwB] at hB bB
  rw [eA] at hB
  have hC := Box.new wB #[.int .i64 b.valid, .string b.user, .string b.name, .int .i64 b.next, .slice none 0 0] 32
  have kC := belNew wB (.cells #[.int .i64 b.valid, .string b.user, .string b.name, .int .i64 b.next, .slice none 0 0] 32)
  have bC := bB.trans (kC.mono bB.size)
  obtain ⟨wC, hwC⟩ : ∃ wC, wC = wB.alloc (.cells #[.int .i64 b.valid, .string b.user, .string b.name, .int .i64 b.next, .slice none 0 0] 32) := ⟨_, rfl⟩
  have eC : wC.heap.size = w.heap.size + 1 + 1 + 1 := by rw [hwC]; simp; omega
  rw [← hwC] at hC kC bC
  rw [eB] at hC
  have hB' := hB.later kC
  have HT := Lib.hid (toMailS_any b.mails _ wC (h.later bC) hl)
  have HEC := Lib.hid eC
  have HWC : Hid (wC = ((w.alloc (.cells #[.int .i64 b.valid, .string b.user, .string b.name, .int .i64 b.next, .slice a n c] 127)).alloc (.cells #[.int .i64 0, .string ⟨#[]⟩, .string ⟨#[]⟩, .int .i64 0, .slice none 0 0] 32)).alloc (.cells #[.int .i64 b.valid, .string b.user, .string b.name, .int .i64 b.next, .slice none 0 0] 32)) := by rw [← hwA, ← hwB, ← hwC]; exact rfl
  clear h hB bB bA kC eA eB eC hwA hwB hwC
  go_enter Try.func88, Try.ntmps88
  go_wp2_with fail
  rw [← HWC.out]
  refine HT.out.mono ?_
  rintro e w1 ⟨v1, rfl, R1⟩
  obtain ⟨p, q, rfl⟩ := R1.form
  have B1 := hB'.later R1.bel
  have C1 := hC.later R1.bel
  have b1 := bC.trans (R1.bel.mono bC.size)
  obtain ⟨u0, u1, u2, u3, u4⟩ := B1.five
  obtain ⟨x0, x1, x2, x3, x4⟩ := C1.five
  have f0 := B1.loose 0
  have f1 := B1.loose 1
  have f2 := B1.loose 2
  have f3 := B1.loose 3
  have f4 := B1.loose 4
  have y4 := C1.loose 4
  have C2 : Box (w1.setCell ⟨w.heap.size + 1 + 1, 4, none⟩ (.slice p b.mails.length q)) (w.heap.size + 1 + 1) #[.int .i64 b.valid, .string b.user, .string b.name, .int .i64 b.next, .slice p b.mails.length q] 32 := C1.set 4 _
  have B2 : Box (w1.setCell ⟨w.heap.size + 1 + 1, 4, none⟩ (.slice p b.mails.length q)) (w.heap.size + 1) #[.int .i64 0, .string ⟨#[]⟩, .string ⟨#[]⟩, .int .i64 0, .slice none 0 0] 32 := B1.other (by omega) 4 _
  have hg1 : w.heap.size + 1 + 1 < wC.heap.size := by have := HEC.out; omega
  have R2 := Lib.hid (R1.here.aside (w.heap.size + 1 + 1) 4 (.slice p b.mails.length q) hg1)
  have b2 := Lib.hid (b1.setCell (p := ⟨w.heap.size + 1 + 1, 4, none⟩) (show w.heap.size ≤ w.heap.size + 1 + 1 by omega) (.slice p b.mails.length q))
  have HG := Lib.hid hg1
  clear hB' hC bC HT HWC HEC B1 C1 b1 R1 hg1
  go_upto_region 7 with fail
  generalize w1.setCell ⟨w.heap.size + 1 + 1, 4, none⟩ (.slice p b.mails.length q) = w2 at C2 B2 R2 b2 ⊢
  clear u0 u1 u2 u3 u4 x0 x1 x2 x3 x4 f0 f1 f2 f3 f4 y4
  obtain ⟨u0, u1, u2, u3, u4⟩ := B2.five
  obtain ⟨x0, x1, x2, x3, x4⟩ := C2.five
  have f0 := B2.loose 0
  have f1 := B2.loose 1
  have f2 := B2.loose 2
  have f3 := B2.loose 3
  have f4 := B2.loose 4
  have L5 : Box (set5 w2 (w.heap.size + 1) (.int .i64 b.valid) (.string b.user) (.string b.name) (.int .i64 b.next) (.slice p b.mails.length q)) (w.heap.size + 1) #[.int .i64 b.valid, .string b.user, .string b.name, .int .i64 b.next, .slice p b.mails.length q] 32 := ((((B2.set 0 _).set 1 _).set 2 _).set 3 _).set 4 _
  unfold set5 at L5
  obtain ⟨z0, z1, z2, z3, z4⟩ := L5.five
  clear L5 B2 C2
  go_wp2
  refine bodyPost_ret (v := .agg #[.int .i64 b.valid, .string b.user, .string b.name, .int .i64 b.next, .slice p b.mails.length q]) (by simp [results, Try.results88, go_sem, z0, z1, z2, z3, z4]) rfl ⟨_, _, _, rfl, ?_, ?_⟩
  · have hl : w.heap.size + 1 < wC.heap.size := by have := HG.out; omega
    exact (((((R2.out.aside _ 0 _ hl).aside _ 1 _ hl).aside _ 2 _ hl).aside _ 3 _ hl).aside _ 4 _ hl).lower (by omega)
  · exact ((((b2.out.setCell (p := ⟨w.heap.size + 1, 0, none⟩) (by simp) _).setCell (p := ⟨w.heap.size + 1, 1, none⟩) (by simp) _).setCell (p := ⟨w.heap.size + 1, 2, none⟩) (by simp) _).setCell (p := ⟨w.heap.size + 1, 3, none⟩) (by simp) _).setCell (p := ⟨w.heap.size + 1, 4, none⟩) (by simp) _

end Go.Proofs.Ytjfilicddnhniaa
