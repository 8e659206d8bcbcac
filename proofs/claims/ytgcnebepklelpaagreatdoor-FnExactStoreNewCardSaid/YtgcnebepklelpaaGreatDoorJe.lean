/- Texts of our own, joined. -/
import Derived.Test.YtgcnebepklelpaaGreatDoorJd
import Derived.Lib.Hide
import Derived.Test.YtgcnebepklelpaaGreatDoorJb
import Derived.Deep.RegionHeld3
import Derived.Deep.QuietTactic
import Derived.BigQuiet
/- Stores in memory: a log, and the numbers of segments that are freed. -/
namespace Go.Proofs.YtgcnebepklelpaaGreatDoor
open Go.RowKit

structure So where
  g : Lg
  fr : List Int

theorem Kept.wideS {B T B' T' : Nat} {w w' : World} (h : Kept B T w w') (hB : B' ≤ B) (hT : T ≤ T') : Kept B' T' w w' := ⟨h.os, h.tape, h.output, h.size, fun k hk ho => h.block k hk (by omega)⟩
theorem Box.nineL {w : World} {b : Nat} {u0 u1 u2 u3 u4 u5 u6 u7 u8 : Value} {t : TypeId} (h : Box w b #[u0, u1, u2, u3, u4, u5, u6, u7, u8] t) :
    (w.cell? ⟨b, 0, none⟩ = some u0 ∧ w.cell? ⟨b, 1, none⟩ = some u1 ∧ w.cell? ⟨b, 2, none⟩ = some u2 ∧ w.cell? ⟨b, 3, none⟩ = some u3 ∧ w.cell? ⟨b, 4, none⟩ = some u4 ∧ w.cell? ⟨b, 5, none⟩ = some u5 ∧ w.cell? ⟨b, 6, none⟩ = some u6 ∧ w.cell? ⟨b, 7, none⟩ = some u7 ∧ w.cell? ⟨b, 8, none⟩ = some u8) ∧
    w.frozen? ⟨b, 0, none⟩ = false ∧ w.frozen? ⟨b, 1, none⟩ = false ∧ w.frozen? ⟨b, 2, none⟩ = false ∧ w.frozen? ⟨b, 3, none⟩ = false ∧ w.frozen? ⟨b, 4, none⟩ = false ∧ w.frozen? ⟨b, 5, none⟩ = false ∧ w.frozen? ⟨b, 6, none⟩ = false ∧ w.frozen? ⟨b, 7, none⟩ = false ∧ w.frozen? ⟨b, 8, none⟩ = false :=
  ⟨⟨h.cell 0 _ rfl, h.cell 1 _ rfl, h.cell 2 _ rfl, h.cell 3 _ rfl, h.cell 4 _ rfl, h.cell 5 _ rfl, h.cell 6 _ rfl, h.cell 7 _ rfl, h.cell 8 _ rfl⟩, h.loose 0, h.loose 1, h.loose 2, h.loose 3, h.loose 4, h.loose 5, h.loose 6, h.loose 7, h.loose 8⟩
theorem Box.set8S {w : World} {b : Nat} {u0 u1 u2 u3 u4 u5 u6 u7 u8 : Value} {t : TypeId} (h : Box w b #[u0, u1, u2, u3, u4, u5, u6, u7, u8] t) (v0 v1 v2 v3 v4 v5 v6 v7 : Value) : Box (Go.Proofs.YtgcnebepklelpaaGreatDoor.set8L w b v0 v1 v2 v3 v4 v5 v6 v7) b #[v0, v1, v2, v3, v4, v5, v6, v7, u8] t :=
  have a0 : Box (w.setCell ⟨b, 0, none⟩ v0) b #[v0, u1, u2, u3, u4, u5, u6, u7, u8] t := h.set 0 v0
  have a1 : Box ((w.setCell ⟨b, 0, none⟩ v0).setCell ⟨b, 1, none⟩ v1) b #[v0, v1, u2, u3, u4, u5, u6, u7, u8] t := a0.set 1 v1
  have a2 : Box (((w.setCell ⟨b, 0, none⟩ v0).setCell ⟨b, 1, none⟩ v1).setCell ⟨b, 2, none⟩ v2) b #[v0, v1, v2, u3, u4, u5, u6, u7, u8] t := a1.set 2 v2
  have a3 : Box ((((w.setCell ⟨b, 0, none⟩ v0).setCell ⟨b, 1, none⟩ v1).setCell ⟨b, 2, none⟩ v2).setCell ⟨b, 3, none⟩ v3) b #[v0, v1, v2, v3, u4, u5, u6, u7, u8] t := a2.set 3 v3
  have a4 : Box (((((w.setCell ⟨b, 0, none⟩ v0).setCell ⟨b, 1, none⟩ v1).setCell ⟨b, 2, none⟩ v2).setCell ⟨b, 3, none⟩ v3).setCell ⟨b, 4, none⟩ v4) b #[v0, v1, v2, v3, v4, u5, u6, u7, u8] t := a3.set 4 v4
  have a5 : Box ((((((w.setCell ⟨b, 0, none⟩ v0).setCell ⟨b, 1, none⟩ v1).setCell ⟨b, 2, none⟩ v2).setCell ⟨b, 3, none⟩ v3).setCell ⟨b, 4, none⟩ v4).setCell ⟨b, 5, none⟩ v5) b #[v0, v1, v2, v3, v4, v5, u6, u7, u8] t := a4.set 5 v5
  have a6 : Box (((((((w.setCell ⟨b, 0, none⟩ v0).setCell ⟨b, 1, none⟩ v1).setCell ⟨b, 2, none⟩ v2).setCell ⟨b, 3, none⟩ v3).setCell ⟨b, 4, none⟩ v4).setCell ⟨b, 5, none⟩ v5).setCell ⟨b, 6, none⟩ v6) b #[v0, v1, v2, v3, v4, v5, v6, u7, u8] t := a5.set 6 v6
  a6.set 7 v7

def set9S (w : World) (b : Nat) (v0 v1 v2 v3 v4 v5 v6 v7 v8 : Value) : World := (set8L w b v0 v1 v2 v3 v4 v5 v6 v7).setCell ⟨b, 8, none⟩ v8
theorem Box.set9S {w : World} {b : Nat} {u0 u1 u2 u3 u4 u5 u6 u7 u8 : Value} {t : TypeId} (h : Box w b #[u0, u1, u2, u3, u4, u5, u6, u7, u8] t) (v0 v1 v2 v3 v4 v5 v6 v7 v8 : Value) : Box (Go.Proofs.YtgcnebepklelpaaGreatDoor.set9S w b v0 v1 v2 v3 v4 v5 v6 v7 v8) b #[v0, v1, v2, v3, v4, v5, v6, v7, v8] t :=
  (h.set8S v0 v1 v2 v3 v4 v5 v6 v7).set 8 v8
theorem below_set9S {B b : Nat} {w0 w : World} (h : Below B w0 w) (hb : B ≤ b) (v0 v1 v2 v3 v4 v5 v6 v7 v8 : Value) : Below B w0 (set9S w b v0 v1 v2 v3 v4 v5 v6 v7 v8) :=
  (below_set8L h hb v0 v1 v2 v3 v4 v5 v6 v7).setCell (p := ⟨b, 8, none⟩) hb v8
theorem grown_set9S (w : World) (b : Nat) (v0 v1 v2 v3 v4 v5 v6 v7 v8 : Value) : w.grownBy (set9S w b v0 v1 v2 v3 v4 v5 v6 v7 v8) (some b) :=
  (grown_set8L w b v0 v1 v2 v3 v4 v5 v6 v7).trans (stored_grown _ b 8 v8)
def SoO (B T : Nat) (w : World) (v : Value) (S : So) : Prop :=
  ∃ va vb vu vf hs B1 T1 B2 T2, v = .agg #[va, vb, .int .i64 S.g.segs, vu, .int .i64 S.g.ng, .int .i64 S.g.ns, .int .i64 S.g.st, .int .i64 S.g.nv, vf] ∧ (B ≤ B1 ∧ T1 ≤ T ∧ B ≤ B2 ∧ T2 ≤ T ∧ T ≤ w.heap.size ∧ (T1 ≤ B2 ∨ T2 ≤ B1)) ∧ LgP B1 T1 w va vb vu S.g hs ∧ LOwn intE B2 T2 w vf S.fr
theorem SoO.kept {B T B' T' : Nat} {w w' : World} {v : Value} {S : So} (h : SoO B T w v S) (hk : Kept B' T' w w') (hd : T ≤ B' ∨ T' ≤ B) : SoO B T w' v S := by
  obtain ⟨va, vb, vu, vf, hs, B1, T1, B2, T2, e, n, p, q⟩ := h
  have := hk.size
  exact ⟨va, vb, vu, vf, hs, B1, T1, B2, T2, e, by omega, p.kept hk (by omega), q.kept hk (by omega)⟩
theorem SoO.later {B T : Nat} {w w' : World} {v : Value} {S : So} (h : SoO B T w v S) (hb : Below w.heap.size w w') : SoO B T w' v S :=
  h.kept (Kept.of_below hb T T) (.inl (Nat.le_refl _))
theorem SoO.form {B T : Nat} {w : World} {v : Value} {S : So} (h : SoO B T w v S) : ∃ (a b u f : Option Addr) (c e g i : Nat), v = .agg #[.slice a S.g.d.sec.length c, .slice b S.g.d.cache.length e, .int .i64 S.g.segs, .slice u S.g.used.length g, .int .i64 S.g.ng, .int .i64 S.g.ns, .int .i64 S.g.st, .int .i64 S.g.nv, .slice f S.fr.length i] := by
  obtain ⟨va, vb, vu, vf, hs, B1, T1, B2, T2, rfl, n, p, q⟩ := h
  obtain ⟨a, b, u, c, e, f, rfl, rfl, rfl⟩ := p.form
  obtain ⟨x, i, rfl⟩ := q.1.form
  exact ⟨a, b, u, x, c, e, f, i, rfl⟩
def SoRd (w : World) (v : Value) (S : So) : Prop :=
  ∃ va vb vu vf, v = .agg #[va, vb, .int .i64 S.g.segs, vu, .int .i64 S.g.ng, .int .i64 S.g.ns, .int .i64 S.g.st, .int .i64 S.g.nv, vf] ∧ LRd w (.agg #[va, vb, .int .i64 S.g.segs, vu, .int .i64 S.g.ng, .int .i64 S.g.ns, .int .i64 S.g.st, .int .i64 S.g.nv]) S.g ∧ Rows' intE w vf S.fr
theorem SoO.rd {B T : Nat} {w : World} {v : Value} {S : So} (h : SoO B T w v S) : SoRd w v S := by
  obtain ⟨va, vb, vu, vf, hs, B1, T1, B2, T2, rfl, n, p, q⟩ := h
  exact ⟨va, vb, vu, vf, rfl, LgO.rd ⟨va, vb, vu, hs, rfl, p⟩, q.rows⟩
theorem SoRd.later {w w' : World} {v : Value} {S : So} (h : SoRd w v S) (hb : Below w.heap.size w w') : SoRd w' v S := by
  obtain ⟨va, vb, vu, vf, e, p, q⟩ := h
  exact ⟨va, vb, vu, vf, e, p.later hb, q.later hb⟩
theorem SoO.mk2 {B T B1 T1 B2 T2 : Nat} {w : World} {va vb vu vf : Value} {S : So} (h : LgO B1 T1 w (.agg #[va, vb, .int .i64 S.g.segs, vu, .int .i64 S.g.ng, .int .i64 S.g.ns, .int .i64 S.g.st, .int .i64 S.g.nv]) S.g) (hf : LOwn intE B2 T2 w vf S.fr) (n : B ≤ B1 ∧ T1 ≤ T ∧ B ≤ B2 ∧ T2 ≤ T ∧ T ≤ w.heap.size ∧ (T1 ≤ B2 ∨ T2 ≤ B1)) :
    SoO B T w (.agg #[va, vb, .int .i64 S.g.segs, vu, .int .i64 S.g.ng, .int .i64 S.g.ns, .int .i64 S.g.st, .int .i64 S.g.nv, vf]) S := by
  obtain ⟨ua, ub, uu, hs, e, p⟩ := h
  simp only [Value.agg.injEq, Array.mk.injEq, List.cons.injEq, and_true, true_and] at e
  obtain ⟨rfl, rfl, rfl⟩ := e
  exact ⟨_, _, _, vf, hs, B1, T1, B2, T2, rfl, n, p, hf⟩


def marksSo (k : Nat) (S : So) : So := ⟨marksLg k S.g, marksN (S.g.kL k) S.fr.length⟩
def So.kS (k : Nat) (S : So) : Nat := S.g.kL k + S.fr.length

end Go.Proofs.YtgcnebepklelpaaGreatDoor

/- FreeSegs of both. -/
namespace Go.Proofs.YtgcnebepklelpaaGreatDoor
open Go.RowKit

def noB (n : Int) (s : Sg) : Bool := decide (s.no = n)
def hasB (u : List Sg) (n : Int) : Bool := u.any (noB n)
def frT (u : List Sg) : Nat → List Int
  | 0 => []
  | n + 1 => frT u n ++ (if hasB u (n : Int) then [] else [(n : Int)])
theorem frT_used {u : List Sg} {n : Nat} (h : hasB u (n : Int) = true) : frT u (n + 1) = frT u n := by
  show frT u n ++ _ = _
  rw [if_pos h, List.append_nil]
theorem frT_free {u : List Sg} {n : Nat} (h : hasB u (n : Int) = false) : frT u (n + 1) = frT u n ++ [(n : Int)] := by
  show frT u n ++ _ = _
  rw [if_neg (by rw [h]; exact Bool.false_ne_true)]
theorem frT_len (u : List Sg) : ∀ n, (frT u n).length ≤ n
  | 0 => Nat.le_refl _
  | n + 1 => by
    have := frT_len u n
    cases h : hasB u (n : Int) with
    | true => rw [frT_used h]; omega
    | false => rw [frT_free h, List.length_append]; simp; omega
def frN (segs : Int) : Nat := (min segs 11).toNat
theorem frN_le (s : Int) : frN s ≤ 11 := by unfold frN; omega
theorem frN_lt (s : Int) (n : Nat) : n < frN s ↔ (n : Int) < s ∧ (n : Int) < 11 := by unfold frN; omega
def fr (L : Lg) : List Int := frT L.used (frN L.segs)
theorem fr_len (L : Lg) : (fr L).length ≤ 11 := Nat.le_trans (frT_len _ _) (frN_le _)
theorem has_take {u : List Sg} {i : Nat} {s : Sg} (h : u[i]? = some s) (n : Int) : hasB (u.take (i + 1)) n = (hasB (u.take i) n || noB n s) := by
  unfold hasB
  rw [List.take_add_one, h, List.any_append]
  simp

set_option maxRecDepth 100000 in
set_option maxHeartbeats 4000000 in
theorem specFreeSegs_any (L : Lg) (v : Value) (w : World) (h : LRd w v L) (hl : L.used.length ≤ 1048576) :
    Calls Tryz.prog 35 #[v] w fun e w' => ∃ v', e = .returned v' ∧ RBuf intE w.heap.size w w' v' (fr L) := by
  obtain ⟨va, vb, vu, rfl, _, hu⟩ := h
  obtain ⟨ad, cap, rfl, hrow⟩ := hu.segs
  have b0 := belNew w (.cells #[va, vb, .int .i64 L.segs, .slice ad L.used.length cap, .int .i64 L.ng, .int .i64 L.ns, .int .i64 L.st, .int .i64 L.nv] 28)
  have q0 := Box.new w #[va, vb, .int .i64 L.segs, .slice ad L.used.length cap, .int .i64 L.ng, .int .i64 L.ns, .int .i64 L.st, .int .i64 L.nv] 28
  have HR : Hid _ := hrow
  clear hu hrow
  obtain ⟨n, hn⟩ : ∃ n, L.used.length = n := ⟨_, rfl⟩
  rw [hn] at hl q0 b0 ⊢
  have HN := Lib.hid hn
  clear hn
  have HF : Hid (fr L = frT L.used (frN L.segs)) := rfl
  have hfn := frN_le L.segs
  have HLT := Lib.hid (fun k => frN_lt L.segs k)
  generalize fr L = A at HF ⊢
  obtain ⟨N, hN⟩ : ∃ N, frN L.segs = N := ⟨_, rfl⟩
  rw [hN] at HF hfn HLT
  clear hN
  obtain ⟨W, hW⟩ : ∃ W, w.alloc (.cells #[va, vb, .int .i64 L.segs, .slice ad n cap, .int .i64 L.ng, .int .i64 L.ns, .int .i64 L.st, .int .i64 L.nv] 28) = W := ⟨_, rfl⟩
  rw [hW] at q0 b0
  have HW := Lib.hid hW
  clear hW
  have I0 := RBuf.fresh intE W
  go_enter Tryz.func35, Tryz.ntmps35
  go_upto_region 1 with fail
  rw [HW.out]
  have HQ := Lib.hid q0
  have HB0 := Lib.hid b0
  clear q0 b0 HW
  go_wp2
  go_loopw [3, 4] (fun v iv wr => ∃ k : Nat, k ≤ N ∧ iv = .int .i64 (k : Int) ∧ RBuf intE W.heap.size W wr v (frT L.used k)) (fun _ iv _ => N - (intOf iv).toNat)
  case atStart => exact ⟨0, by omega, rfl, I0⟩
  case round =>
    clear I0
    obtain ⟨k, hk, rfl, I⟩ := hrel
    obtain ⟨c0, c1, c2, c3, c4, c5, c6, c7, _⟩ := (HQ.out.later I.bel).eightL
    by_cases hlt : k < N
    · obtain ⟨hk1, hk2⟩ := (HLT.out k).1 hlt
      have hlen := frT_len L.used k
      have HU := Lib.hid (@frT_used L.used k)
      have HV := Lib.hid (@frT_free L.used k)
      obtain ⟨us, hus⟩ : ∃ us, frT L.used k = us := ⟨_, rfl⟩
      rw [hus] at I hlen HU HV
      clear hus
      obtain ⟨a3, p3, rfl⟩ := I.form
      go_wp2
      go_loop [5, 6] (fun bv iv => ∃ i : Nat, i ≤ n ∧ iv = .int .i64 (i : Int) ∧ bv = .bool (hasB (L.used.take i) (k : Int))) (fun _ iv => n - (intOf iv).toNat)
      case atStart => exact ⟨0, by omega, rfl, by simp [hasB]⟩
      case round =>
        obtain ⟨i, hi, rfl, rfl⟩ := hrel
        by_cases hli : i < n
        · obtain ⟨s, hgs⟩ : ∃ s, L.used[i]? = some s := ⟨_, List.getElem?_eq_getElem (by rw [HN.out]; exact hli)⟩
          obtain ⟨ga, oa, am, nm, cm, rfl, a0, a1, a2, a4, _⟩ := HR.out _ (HB0.out.trans (I.bel.mono HB0.out.size)) i s hgs
          have HT := Lib.hid (has_take hgs (k : Int))
          have hi0 : (0 : Int) ≤ (i : Int) := by omega
          have hi1 : (i : Int) < (n : Int) := by omega
          generalize hasB (L.used.take i) (k : Int) = D at HT ⊢
          clear hgs
          cases D with
          | true =>
            go_wp2
            exact ⟨⟨i + 1, by omega, by simp, by rw [HT.out, Bool.true_or]⟩, by first | omega | (simp [intOf]; omega)⟩
          | false =>
            rw [Bool.false_or] at HT
            by_cases hs : s.no = (k : Int)
            · have HT' : Hid (hasB (L.used.take (i + 1)) (k : Int) = true) := by show _ = _; rw [HT.out]; exact decide_eq_true hs
              have hs' : (s.no == (k : Int)) = true := by rw [hs]; exact beq_self_eq_true _
              clear HT
              go_wp2
              exact ⟨⟨i + 1, by omega, by simp, by rw [HT'.out]⟩, by first | omega | (simp [intOf]; omega)⟩
            · have HT' : Hid (hasB (L.used.take (i + 1)) (k : Int) = false) := by show _ = _; rw [HT.out]; exact decide_eq_false hs
              have hs' : (s.no == (k : Int)) = false := beq_eq_false_iff_ne.2 hs
              clear HT
              go_wp2
              exact ⟨⟨i + 1, by omega, by simp, by rw [HT'.out]⟩, by first | omega | (simp [intOf]; omega)⟩
        · have HT : Hid (hasB (L.used.take i) (k : Int) = hasB L.used (k : Int)) := by show _ = _; rw [List.take_of_length_le (by rw [HN.out]; omega)]
          rw [HT.out]
          clear HT
          cases hD : hasB L.used (k : Int) with
          | true =>
            have HU' := Lib.hid (HU.out hD)
            clear HU HV hD
            go_wp2
            exact ⟨⟨k + 1, by omega, by simp, by rw [HU'.out]; exact I⟩, by first | omega | (simp [intOf]; omega)⟩
          | false =>
            have HV' := Lib.hid (HV.out hD)
            have HR6 := Lib.hid (I.alloc (.cells #[.int .i64 (k : Int)] 3))
            have HL6 := Lib.hid (RBuf.lit1 intE wr (k : Int))
            clear HU HV hD I
            go_wp2_with (at_builtin; refine wpList_append_rows rfl _ _ intE rfl W.heap.size _ _ rfl HR6.out.here wr.heap.size _ [(k : Int)] rfl HL6.out (by show _ * 9 ≤ _; simp only [List.length_cons, List.length_nil]; omega) ?_; intro v6 w6 r6 g6 at6)
            exact ⟨⟨k + 1, by omega, by simp, by rw [HV'.out]; exact ⟨r6.own, HR6.out.bel.grown g6 HR6.out.le (fun q hq => (HR6.out.own.lt q hq).1), r6.le⟩⟩, by first | omega | (simp [intOf]; omega)⟩
    · have hkn : k = N := by omega
      have hnot : ¬ ((k : Int) < L.segs ∧ (k : Int) < 11) := fun e => hlt ((HLT.out k).2 e)
      have HE : Hid (A = frT L.used k) := by show _ = _; rw [HF.out, hkn]
      have HI := Lib.hid I
      clear I hkn hlt
      by_cases h1 : (k : Int) < L.segs
      · have h2 : ¬ (k : Int) < 11 := fun e => hnot ⟨h1, e⟩
        go_wp2
        go_ret
        exact ⟨_, rfl, by rw [HE.out]; exact HI.out.down (HB0.out.trans (HI.out.bel.mono HB0.out.size)) HB0.out.size⟩
      · go_wp2
        go_ret
        exact ⟨_, rfl, by rw [HE.out]; exact HI.out.down (HB0.out.trans (HI.out.bel.mono HB0.out.size)) HB0.out.size⟩

set_option maxRecDepth 100000 in
theorem hasNo1_any (s : Sg) (a : Option Addr) (n c : Nat) (k : Int) (g : Nat) (w : World) (h : w.cell? ⟨g, 0, none⟩ = some (.int .i64 k)) :
    Calls Tryz.prog 86 #[.agg #[.int .i64 s.no, .int .i64 s.gen, .int .i64 s.ende, .slice a n c], .pointer (some ⟨g, 0, none⟩)] w fun e w' => e = .returned (.bool (noB k s)) ∧ Below w.heap.size w w' := by
  have b1 := belNew w (.cells #[.int .i64 s.no, .int .i64 s.gen, .int .i64 s.ende, .slice a n c] 76)
  have c0 := (b1.cell (p := ⟨g, 0, none⟩) (World.block_lt_of_cell? _ _ h)).trans h
  have q := (Box.new w #[.int .i64 s.no, .int .i64 s.gen, .int .i64 s.ende, .slice a n c] 76).cell 0 _ rfl
  clear h
  by_cases hs : s.no = k
  · subst hs
    have HD : Hid (noB s.no s = true) := decide_eq_true rfl
    go_enter Tryz.func86, Tryz.ntmps86
    go_wp2
    go_ret
    exact ⟨by rw [HD.out]; first | rfl | simp, b1⟩
  · have HD : Hid (noB k s = false) := decide_eq_false hs
    have hs' : (s.no == k) = false := beq_eq_false_iff_ne.2 hs
    go_enter Tryz.func86, Tryz.ntmps86
    go_wp2
    go_ret
    exact ⟨by rw [HD.out]; first | rfl | simp [hs'], b1⟩

set_option maxRecDepth 100000 in
set_option maxHeartbeats 2000000 in
theorem indexSeg_any (l : List Sg) (v : Value) (k : Int) (gr : Nat) (w : World) (h : GRd w v l) (hl : l.length ≤ 1048576) (h0 : w.cell? ⟨gr, 0, none⟩ = some (.int .i64 k)) :
    Calls Tryz.prog 106 #[v, .func (.func 86) #[] #[.pointer (some ⟨gr, 0, none⟩)]] w fun e w' => (∃ r : Int, e = .returned (.int .i64 r) ∧ ((0 ≤ r ∧ hasB l k = true) ∨ (¬ 0 ≤ r ∧ hasB l k = false))) ∧ Below w.heap.size w w' := by
  obtain ⟨ad, cap, rfl, hrow⟩ := h.segs
  have HR : Hid _ := hrow
  clear h hrow
  obtain ⟨n, hn⟩ : ∃ n, l.length = n := ⟨_, rfl⟩
  rw [hn] at hl ⊢
  have HN := Lib.hid hn
  clear hn
  have l0 := World.block_lt_of_cell? _ _ h0
  have HO : Hid (∀ (y : Sg) a m c x, Below w.heap.size w x → Calls Tryz.prog 86 #[.agg #[.int .i64 y.no, .int .i64 y.gen, .int .i64 y.ende, .slice a m c], .pointer (some ⟨gr, 0, none⟩)] x fun e w' => e = .returned (.bool (noB k y)) ∧ Below x.heap.size x w') := fun y a m c x hx => hasNo1_any y a m c k gr x ((hx.cell (p := ⟨gr, 0, none⟩) l0).trans h0)
  clear h0 l0
  obtain ⟨Q, hQ⟩ : ∃ Q, hasB l k = Q := ⟨_, rfl⟩
  rw [hQ]
  have HQ := Lib.hid hQ
  clear hQ
  go_enter Tryz.func106, Tryz.ntmps106
  go_wp2
  go_loopw [8] (fun iv wr => ∃ i : Nat, i ≤ n ∧ iv = .int .i64 (i : Int) ∧ Hid (hasB (l.take i) k = false) ∧ Below w.heap.size w wr) (fun iv _ => n - (intOf iv).toNat)
  case atStart => exact ⟨0, by omega, rfl, show _ = _ by simp [hasB], Below.refl _ _⟩
  case round =>
    obtain ⟨i, hi, rfl, HNO, bq⟩ := hrel
    by_cases hlt : i < n
    · obtain ⟨y, hgy⟩ : ∃ y, l[i]? = some y := ⟨_, List.getElem?_eq_getElem (by rw [HN.out]; omega)⟩
      obtain ⟨ga, oa, am, nm, cm, rfl, a0, a1, a2, a3, _⟩ := HR.out _ bq i y hgy
      have HOY := Lib.hid (HO.out y am nm cm _ bq)
      have HT := Lib.hid (has_take hgy k)
      rw [HNO.out, Bool.false_or] at HT
      have HFA : Hid (noB k y = true → Q = true) := fun hy => by rw [← HQ.out]; exact List.any_eq_true.2 ⟨y, List.mem_of_getElem? hgy, hy⟩
      clear hgy
      generalize noB k y = D at HOY HT HFA
      have hi0 : (0 : Int) ≤ (i : Int) := by omega
      have hi1 : (i : Int) < (n : Int) := by omega
      cases D with
      | true =>
        have HF := Lib.hid (HFA.out rfl)
        clear HFA HT
        go_wp2_with (go_at_call 86; refine HOY.out.mono ?_; rintro e w1 ⟨rfl, k1⟩)
        go_ret
        exact ⟨⟨(i : Int), rfl, .inl ⟨hi0, HF.out⟩⟩, bq.trans (k1.mono bq.size)⟩
      | false =>
        clear HFA
        go_wp2_with (go_at_call 86; refine HOY.out.mono ?_; rintro e w1 ⟨rfl, k1⟩)
        exact ⟨⟨i + 1, by omega, by simp, HT, bq.trans (k1.mono bq.size)⟩, by first | omega | (simp [intOf]; omega)⟩
    · have HF : Hid (Q = false) := by
        have h1 := HNO.out
        rw [List.take_of_length_le (by rw [HN.out]; omega)] at h1
        rw [← HQ.out]
        exact h1
      clear HNO
      go_wp2
      go_ret
      exact ⟨⟨-1, rfl, .inr ⟨by omega, HF.out⟩⟩, bq⟩

set_option maxRecDepth 100000 in
theorem containsSeg_any (l : List Sg) (v : Value) (k : Int) (gr : Nat) (w : World) (h : GRd w v l) (hl : l.length ≤ 1048576) (h0 : w.cell? ⟨gr, 0, none⟩ = some (.int .i64 k)) :
    Calls Tryz.prog 85 #[v, .func (.func 86) #[] #[.pointer (some ⟨gr, 0, none⟩)]] w fun e w' => e = .returned (.bool (hasB l k)) ∧ Below w.heap.size w w' := by
  have HI := Lib.hid (indexSeg_any l v k gr w h hl h0)
  obtain ⟨ad, cap, rfl, _⟩ := h.segs
  clear h h0
  go_enter Tryz.func85, Tryz.ntmps85
  go_wp2_with fail
  refine HI.out.mono ?_
  rintro e w1 ⟨⟨r, rfl, hr⟩, k1⟩
  clear HI
  rcases hr with ⟨hr, he⟩ | ⟨hr, he⟩
  · have HE := Lib.hid he
    clear he
    go_wp2
    go_ret
    exact ⟨by rw [HE.out]; first | rfl | simp [hr], k1⟩
  · have HE := Lib.hid he
    clear he
    go_wp2
    go_ret
    exact ⟨by rw [HE.out]; first | rfl | simp [hr], k1⟩

set_option maxRecDepth 100000 in
theorem hasNo_any (l : List Sg) (v : Value) (k : Int) (w : World) (h : GRd w v l) (hl : l.length ≤ 1048576) :
    Calls Tryz.prog 69 #[v, .int .i64 k] w fun e w' => e = .returned (.bool (hasB l k)) ∧ Below w.heap.size w w' := by
  have b1 := belNew w (.cells #[.int .i64 k] 3)
  have q := (Box.new w #[.int .i64 k] 3).cell 0 _ rfl
  have HC := Lib.hid (containsSeg_any l v k w.heap.size _ (h.later b1) hl q)
  obtain ⟨ad, cap, rfl, _⟩ := h.segs
  have hmf : ∀ (fn : Fn) (first cap : Array Value) (w : World), (Instr.makeFunc fn first cap).run Tryz.prog w = .ok (.func fn first cap) w := fun _ _ _ _ => rfl
  generalize hasB l k = D at HC
  clear h q
  go_enter Tryz.func69, Tryz.ntmps69
  go_wp2_with (go_at_call 85; refine HC.out.mono ?_; rintro e w1 ⟨rfl, k1⟩)
  go_ret
  exact ⟨rfl, b1.trans (k1.mono b1.size)⟩

set_option maxRecDepth 100000 in
set_option maxHeartbeats 4000000 in
theorem freeAmong_any (u : List Sg) (v : Value) (segs : Int) (w : World) (h : GRd w v u) (hl : u.length ≤ 1048576) :
    Calls Tryz.prog 45 #[.int .i64 segs, v] w fun e w' => ∃ v', e = .returned v' ∧ RBuf intE w.heap.size w w' v' (frT u (frN segs)) := by
  have HH : Hid (∀ (k : Int) x, Below w.heap.size w x → Calls Tryz.prog 69 #[v, .int .i64 k] x fun e w' => e = .returned (.bool (hasB u k)) ∧ Below x.heap.size x w') := fun k x hx => hasNo_any u v k x (h.later hx) hl
  obtain ⟨ad, cap, rfl, _⟩ := h.segs
  clear h
  obtain ⟨n, hn⟩ : ∃ n, u.length = n := ⟨_, rfl⟩
  rw [hn] at HH ⊢
  clear hn hl
  have hfn := frN_le segs
  have hmin : min segs 11 = (frN segs : Int) ∨ (min segs 11 < 0 ∧ frN segs = 0) := by unfold frN; omega
  obtain ⟨N, hN⟩ : ∃ N, frN segs = N := ⟨_, rfl⟩
  rw [hN] at hfn hmin ⊢
  clear hN
  obtain ⟨M, hM⟩ : ∃ M : Int, min segs 11 = M := ⟨_, rfl⟩
  have hM2 : (if segs < 11 then segs else 11) = M := by rw [← hM]; omega
  have HMM : Hid (M = (N : Int) ∨ (M < 0 ∧ N = 0)) := by rw [← hM]; exact hmin
  clear hmin
  have I0 := RBuf.fresh intE w
  go_enter Tryz.func45, Tryz.ntmps45
  go_wp2
  go_loopw [5, 10] (fun v iv wr => ∃ k : Nat, k ≤ N ∧ iv = .int .i64 (k : Int) ∧ RBuf intE w.heap.size w wr v (frT u k)) (fun _ iv _ => N - (intOf iv).toNat)
  case atStart => exact ⟨0, by omega, rfl, I0⟩
  case round =>
    clear I0
    obtain ⟨k, hk, rfl, I⟩ := hrel
    by_cases hlt : k < N
    · have hk1 : (k : Int) < M := by have := HMM.out; omega
      have hlen := frT_len u k
      have HU := Lib.hid (@frT_used u k)
      have HV := Lib.hid (@frT_free u k)
      obtain ⟨us, hus⟩ : ∃ us, frT u k = us := ⟨_, rfl⟩
      rw [hus] at I hlen HU HV
      clear hus
      obtain ⟨a3, p3, rfl⟩ := I.form
      have HK := Lib.hid (HH.out (k : Int) _ I.bel)
      cases hD : hasB u (k : Int) with
      | true =>
        rw [hD] at HK
        have HU' := Lib.hid (HU.out hD)
        clear HU HV hD
        go_wp2_with (go_at_call 69; refine HK.out.mono ?_; rintro e w1 ⟨rfl, k1⟩)
        exact ⟨⟨k + 1, by omega, by simp, by rw [HU'.out]; exact I.later k1⟩, by first | omega | (simp [intOf]; omega)⟩
      | false =>
        rw [hD] at HK
        have HV' := Lib.hid (HV.out hD)
        clear HU HV hD
        go_wp2_with fail
        refine HK.out.mono ?_
        rintro e w1 ⟨rfl, k1⟩
        have I1 := I.later k1
        have HR6 := Lib.hid (I1.alloc (.cells #[.int .i64 (k : Int)] 3))
        have HL6 := Lib.hid (RBuf.lit1 intE w1 (k : Int))
        clear I1 I HK k1
        go_wp2_with (at_builtin; refine wpList_append_rows rfl _ _ intE rfl w.heap.size _ _ rfl HR6.out.here w1.heap.size _ [(k : Int)] rfl HL6.out (by show _ * 9 ≤ _; simp only [List.length_cons, List.length_nil]; omega) ?_; intro v6 w6 r6 g6 at6)
        exact ⟨⟨k + 1, by omega, by simp, by rw [HV'.out]; exact ⟨r6.own, HR6.out.bel.grown g6 HR6.out.le (fun q hq => (HR6.out.own.lt q hq).1), r6.le⟩⟩, by first | omega | (simp [intOf]; omega)⟩
    · have hk1 : ¬ (k : Int) < M := by have := HMM.out; omega
      have hkn : Hid (k = N) := by show _ = _; omega
      go_wp2
      go_ret
      exact ⟨_, rfl, by rw [← hkn.out]; exact I⟩


end Go.Proofs.YtgcnebepklelpaaGreatDoor

/- Plain facts on disks: what is right, what is read. -/
namespace Go.Proofs.YtgcnebepklelpaaGreatDoor
open Go.RowKit

def Dk.ok (d : Dk) : Prop := 1 ≤ d.sec.length ∧ d.sec.length ≤ 100 ∧ d.cache.length ≤ 60 ∧ (∀ s ∈ d.sec, s.size = 32) ∧ ∀ x ∈ d.cache, 0 ≤ x.at_ ∧ x.at_ < d.sec.length ∧ x.text.size = 32

instance (d : Dk) : Decidable d.ok := by unfold Dk.ok; infer_instance

def lastAt (c : List Wr) (a : Int) : Option ByteArray := match c with
  | [] => none
  | x :: c => match lastAt c a with
    | some t => some t
    | none => if x.at_ = a then some x.text else none

theorem lastAt_append (c : List Wr) (x : Wr) (a : Int) : lastAt (c ++ [x]) a = if x.at_ = a then some x.text else lastAt c a := by
  induction c with
  | nil => simp only [List.nil_append, lastAt]
  | cons y c ih =>
    show (match lastAt (c ++ [x]) a with
      | some t => some t
      | none => if y.at_ = a then some y.text else none) = _
    rw [ih]
    by_cases h : x.at_ = a
    · simp [h]
    · simp only [h, if_false]; rfl

theorem lastAt_take {c : List Wr} {i : Nat} (h : i < c.length) (a : Int) : lastAt (c.take (i + 1)) a = if c[i].at_ = a then some c[i].text else lastAt (c.take i) a := by
  rw [List.take_succ_eq_append_getElem h, lastAt_append]

def rdT (d : Dk) (a : Int) : Value :=
  if 0 ≤ a ∧ a < d.sec.length then .tuple #[.string ((lastAt d.cache a).getD (d.sec.getD a.toNat ⟨#[]⟩)), .bool true] else .tuple #[.string ⟨#[]⟩, .bool false]

theorem rdT_no {d : Dk} {a : Int} (h : ¬ (0 ≤ a ∧ a < d.sec.length)) : rdT d a = .tuple #[.string ⟨#[]⟩, .bool false] := by rw [rdT, if_neg h]
theorem rdT_last {d : Dk} {a : Int} (h : 0 ≤ a ∧ a < d.sec.length) {t : ByteArray} (ht : lastAt d.cache a = some t) : rdT d a = .tuple #[.string t, .bool true] := by rw [rdT, if_pos h, ht]; rfl
theorem rdT_sec {d : Dk} {k : Nat} (h : k < d.sec.length) (ht : lastAt d.cache (k : Int) = none) : rdT d (k : Int) = .tuple #[.string d.sec[k], .bool true] := by
  rw [rdT, if_pos ⟨by omega, by omega⟩, ht, Int.toNat_natCast, List.getD_eq_getElem?_getD, List.getElem?_eq_getElem h]; rfl

end Go.Proofs.YtgcnebepklelpaaGreatDoor

/- Disks: what the model's functions hand back. -/
namespace Go.Proofs.YtgcnebepklelpaaGreatDoor
open Go.RowKit

theorem in_yes (n lo hi : Int) (w : World) (h1 : lo ≤ n) (h2 : n ≤ hi) :
    Calls Tryz.prog 17 #[.int .i64 n, .int .i64 lo, .int .i64 hi] w fun e w' => e = .returned (.bool true) ∧ w = w' := by
  have g2 : decide (n ≤ hi) = true := decide_eq_true h2
  go_enter Tryz.func17, Tryz.ntmps17
  go_wp2
  go_ret
  exact ⟨rfl, rfl⟩

theorem in_no (n lo hi : Int) (w : World) (h : ¬ (lo ≤ n ∧ n ≤ hi)) :
    Calls Tryz.prog 17 #[.int .i64 n, .int .i64 lo, .int .i64 hi] w fun e w' => e = .returned (.bool false) ∧ w = w' := by
  by_cases h1 : lo ≤ n
  · have g2 : decide (n ≤ hi) = false := decide_eq_false (fun h2 => h ⟨h1, h2⟩)
    go_enter Tryz.func17, Tryz.ntmps17
    go_wp2
    go_ret
    exact ⟨rfl, rfl⟩
  · go_enter Tryz.func17, Tryz.ntmps17
    go_wp2
    go_ret
    exact ⟨rfl, rfl⟩

theorem in_yes_q (n lo hi : Int) (w : World) (h1 : lo ≤ n) (h2 : n ≤ hi) :
    Calls Tryz.prog 17 #[.int .i64 n, .int .i64 lo, .int .i64 hi] w fun e w' => e = .returned (.bool true) ∧ w' = w :=
  (in_yes n lo hi w h1 h2).mono fun _ _ h => ⟨h.1, h.2.symm⟩
theorem in_no_q (n lo hi : Int) (w : World) (h : ¬ (lo ≤ n ∧ n ≤ hi)) :
    Calls Tryz.prog 17 #[.int .i64 n, .int .i64 lo, .int .i64 hi] w fun e w' => e = .returned (.bool false) ∧ w' = w :=
  (in_no n lo hi w h).mono fun _ _ h => ⟨h.1, h.2.symm⟩

set_option maxRecDepth 100000 in
set_option maxHeartbeats 2000000 in
theorem specDiskOk_any (d : Dk) (v : Value) (w : World) (h : DRd w v d) (hs : d.small) (ht : ∀ s ∈ d.sec, s.size ≤ 1099511627776) (hu : ∀ x ∈ d.cache, x.text.size ≤ 1099511627776) :
    Calls Tryz.prog 40 #[v] w fun e w' => e = .returned (.bool (decide d.ok)) ∧ Below w.heap.size w w' := by
  obtain ⟨va, vb, rfl, ha, hb⟩ := h
  obtain ⟨s1, s2⟩ := hs
  have b0 : Below w.heap.size w (w.alloc (.cells #[va, vb] 25)) := (Below.refl _ _).alloc (Nat.le_refl _) _
  have hx := Box.new w #[va, vb] 25
  obtain ⟨aa, ca, rfl⟩ : ∃ (a : Option Addr) (c : Nat), va = .slice a d.sec.length c := by
    rcases ha with ⟨e, a, c, rfl⟩ | ⟨g, c, rfl, _⟩
    · exact ⟨a, c, by rw [e]; rfl⟩
    · exact ⟨_, c, rfl⟩
  obtain ⟨ab, cb, rfl⟩ : ∃ (a : Option Addr) (c : Nat), vb = .slice a d.cache.length c := by
    rcases hb with ⟨e, a, c, rfl⟩ | ⟨g, o, c, rfl, _⟩
    · exact ⟨a, c, by rw [e]; rfl⟩
    · exact ⟨_, c, rfl⟩
  have c0 := hx.cell 0 (.slice aa d.sec.length ca) rfl
  have c1 := hx.cell 1 (.slice ab d.cache.length cb) rfl
  by_cases hin : 1 ≤ d.sec.length ∧ d.sec.length ≤ 100
  · by_cases hc : d.cache.length ≤ 60
    · have HA := Lib.hid (ha.later b0)
      have HB := Lib.hid (hb.later b0)
      clear ha hb
      go_enter Tryz.func40, Tryz.ntmps40
      go_wp2_with (go_at_call 17; refine (in_yes _ _ _ _ (by omega) (by omega)).mono ?_; rintro e w1 ⟨rfl, rfl⟩)
      generalize w.alloc (.cells #[.slice aa d.sec.length ca, .slice ab d.cache.length cb] 25) = W at *
      go_loopw [3] (fun iv wr => ∃ i : Nat, i ≤ d.sec.length ∧ iv = .int .i64 (i : Int) ∧ (∀ s ∈ d.sec.take i, s.size = 32) ∧ wr = W) (fun iv _ => d.sec.length - (intOf iv).toNat)
      case atStart => exact ⟨0, by omega, rfl, by simp, rfl⟩
      case round =>
        obtain ⟨i, hi, rfl, hall, hw⟩ := hrel
        have hw' := hw.symm
        clear hw
        subst hw'
        by_cases hlt : i < d.sec.length
        · have HL := Lib.hid hall
          have hz := Lib.hid (ht _ (List.getElem_mem hlt))
          have HM := Lib.hid (List.getElem_mem hlt)
          have htk := Lib.hid (List.take_succ_eq_append_getElem hlt)
          obtain ⟨g, rfl, hcs⟩ : ∃ g : Nat, aa = some ⟨g, 0, none⟩ ∧ W.cell? ⟨g, i, none⟩ = some (.string d.sec[i]) := by
            rcases HA.out with ⟨e, _⟩ | ⟨g, c, hv, _, _, hcl⟩
            · rw [e] at hlt; simp at hlt
            · simp only [Value.slice.injEq] at hv
              exact ⟨g, hv.1, hcl i _ (List.getElem?_eq_getElem hlt)⟩
          clear hall ht hu
          generalize d.sec[i] = t at *
          have hz2 := hz.out
          by_cases h32 : t.size = 32
          · go_wp2
            go_roundw
            case rel => exact ⟨i + 1, by omega, by go_num, by
              rw [htk.out]
              intro x hx
              rcases List.mem_append.1 hx with h | h
              · exact HL.out x h
              · simp at h; rw [h]; exact h32, trivial⟩
            case measure => simp [intOf]; omega
          · have HNO := Lib.hid (show decide d.ok = false from decide_eq_false (fun h => h32 (h.2.2.2.1 t HM.out)))
            go_wp2
            go_ret
            exact ⟨by rw [HNO.out]; rfl, b0⟩
        · have hall' : ∀ s ∈ d.sec, s.size = 32 := by rw [List.take_of_length_le (by omega)] at hall; exact hall
          have HALL := Lib.hid hall'
          clear hall hall' ht
          go_wp2
          go_loopw [4] (fun iv wx => ∃ j : Nat, j ≤ d.cache.length ∧ iv = .int .i64 (j : Int) ∧ (∀ x ∈ d.cache.take j, 0 ≤ x.at_ ∧ x.at_ < d.sec.length ∧ x.text.size = 32) ∧ Below W.heap.size W wx) (fun iv _ => d.cache.length - (intOf iv).toNat)
          case atStart => exact ⟨0, by omega, rfl, by simp, Below.refl _ _⟩
          case round =>
            obtain ⟨j, hj, rfl, hall, hbx⟩ := hrel
            have bx : Below w.heap.size w wr := b0.trans (hbx.mono b0.size)
            have e0 := (hbx.cell (p := ⟨w.heap.size, 0, none⟩) hx.lt).trans c0
            have e1 := (hbx.cell (p := ⟨w.heap.size, 1, none⟩) hx.lt).trans c1
            clear c0 c1
            by_cases hlt2 : j < d.cache.length
            · have HL := Lib.hid hall
              have hz := Lib.hid (hu _ (List.getElem_mem hlt2))
              have HM := Lib.hid (List.getElem_mem hlt2)
              have htk := Lib.hid (List.take_succ_eq_append_getElem hlt2)
              obtain ⟨g, off, rfl, hcl⟩ := HB.out.at j hlt2
              have d0 : wr.cell? ⟨g, off + j * 2, none⟩ = some (.int .i64 d.cache[j].at_) := hcl wr hbx 0 _ rfl
              have d1 : wr.cell? ⟨g, off + j * 2 + 1, none⟩ = some (.string d.cache[j].text) := hcl wr hbx 1 _ rfl
              clear hall hu hcl
              generalize d.cache[j] = x at *
              obtain ⟨n, t⟩ := x
              simp only at d0 d1
              have hz2 := hz.out
              simp only at hz2
              have hj0 : (0 : Int) ≤ (j : Int) := by omega
              have hj1 : (j : Int) < (d.cache.length : Int) := by omega
              have hw1 : IntKind.i64.wrap ((d.sec.length : Int) - 1) = (d.sec.length : Int) - 1 := IntWalk.i64_in _ ⟨by omega, by omega⟩
              by_cases hat : 0 ≤ n ∧ n < d.sec.length
              · by_cases h32 : t.size = 32
                · have g1 : ((t.size : Int) != 32) = false := by rw [h32]; rfl
                  go_wp2
                  go_quiet (first | (go_at_call 17; exact Calls.quiet_of_same (in_yes_q _ _ _ _ (by omega) (by omega))))
                  go_wp2
                  go_roundw
                  case rel => exact ⟨j + 1, by omega, by go_num, by
                    rw [htk.out]
                    intro x hx
                    rcases List.mem_append.1 hx with h | h
                    · exact HL.out x h
                    · simp at h; rw [h]; exact ⟨hat.1, hat.2, h32⟩, hbx.trans ⟨rfl, rfl, rfl, Nat.le_refl _, fun _ _ => rfl⟩⟩
                  case measure => simp [intOf]; omega
                · have g1 : ((t.size : Int) != 32) = true := by simp; omega
                  have HNO := Lib.hid (show decide d.ok = false from decide_eq_false (fun h => h32 (h.2.2.2.2 _ HM.out).2.2))
                  go_wp2
                  go_quiet (first | (go_at_call 17; exact Calls.quiet_of_same (in_yes_q _ _ _ _ (by omega) (by omega))))
                  go_wp2
                  go_ret
                  exact ⟨by rw [HNO.out]; rfl, bx.trans ⟨rfl, rfl, rfl, Nat.le_refl _, fun _ _ => rfl⟩⟩
              · have HNO := Lib.hid (show decide d.ok = false from decide_eq_false (fun h => hat ⟨(h.2.2.2.2 _ HM.out).1, (h.2.2.2.2 _ HM.out).2.1⟩))
                go_wp2
                go_quiet (first | (go_at_call 17; exact Calls.quiet_of_same (in_no_q _ _ _ _ (by omega))))
                go_wp2
                go_ret
                exact ⟨by rw [HNO.out]; rfl, bx.trans ⟨rfl, rfl, rfl, Nat.le_refl _, fun _ _ => rfl⟩⟩
            · have hyes : decide d.ok = true := decide_eq_true ⟨hin.1, hin.2, hc, HALL.out, by rw [List.take_of_length_le (by omega)] at hall; exact hall⟩
              have HY := Lib.hid hyes
              clear hall hyes
              go_wp2
              go_ret
              exact ⟨by rw [HY.out]; rfl, bx⟩
    · have hno : decide d.ok = false := decide_eq_false (fun h => hc h.2.2.1)
      go_enter Tryz.func40, Tryz.ntmps40
      go_wp2_with (go_at_call 17; refine (in_yes _ _ _ _ (by omega) (by omega)).mono ?_; rintro e w1 ⟨rfl, rfl⟩)
      go_ret
      exact ⟨by rw [hno]; rfl, b0⟩
  · have hno : decide d.ok = false := decide_eq_false (fun h => hin ⟨h.1, h.2.1⟩)
    go_enter Tryz.func40, Tryz.ntmps40
    go_wp2_with (go_at_call 17; refine (in_no _ _ _ _ (by omega)).mono ?_; rintro e w1 ⟨rfl, rfl⟩)
    go_ret
    exact ⟨by rw [hno]; rfl, b0⟩

theorem DRd.form {w : World} {v : Value} {d : Dk} (h : DRd w v d) : ∃ (aa ab : Option Addr) (ca cb : Nat), v = .agg #[.slice aa d.sec.length ca, .slice ab d.cache.length cb] ∧ Strs w (.slice aa d.sec.length ca) d.sec ∧ Rows' wrE w (.slice ab d.cache.length cb) d.cache := by
  obtain ⟨va, vb, rfl, ha, hb⟩ := h
  obtain ⟨aa, ca, rfl⟩ : ∃ (a : Option Addr) (c : Nat), va = .slice a d.sec.length c := by
    rcases ha with ⟨e, a, c, rfl⟩ | ⟨g, c, rfl, _⟩
    · exact ⟨a, c, by rw [e]; rfl⟩
    · exact ⟨_, c, rfl⟩
  obtain ⟨ab, cb, rfl⟩ : ∃ (a : Option Addr) (c : Nat), vb = .slice a d.cache.length c := by
    rcases hb with ⟨e, a, c, rfl⟩ | ⟨g, o, c, rfl, _⟩
    · exact ⟨a, c, by rw [e]; rfl⟩
    · exact ⟨_, c, rfl⟩
  exact ⟨aa, ab, ca, cb, rfl, ha, hb⟩

theorem Strs.at {w : World} {a : Option Addr} {cap : Nat} {l : List ByteArray} (h : Strs w (.slice a l.length cap) l) (i : Nat) (hi : i < l.length) : ∃ g : Nat, a = some ⟨g, 0, none⟩ ∧ w.cell? ⟨g, i, none⟩ = some (.string l[i]) := by
  rcases h with ⟨e, _⟩ | ⟨g, c, hv, _, _, hcl⟩
  · rw [e] at hi; simp at hi
  · simp only [Value.slice.injEq] at hv
    exact ⟨g, hv.1, hcl i _ (List.getElem?_eq_getElem hi)⟩

set_option maxRecDepth 100000 in
set_option maxHeartbeats 2000000 in
theorem specReadSector_any (d : Dk) (v : Value) (a : Int) (w : World) (h : DRd w v d) (hs : d.small) :
    Calls Tryz.prog 66 #[v, .int .i64 a] w fun e w' => e = .returned (rdT d a) ∧ Below w.heap.size w w' := by
  obtain ⟨aa, ab, ca, cb, rfl, ha, hb⟩ := h.form
  obtain ⟨s1, s2⟩ := hs
  have b0 : Below w.heap.size w (w.alloc (.cells #[.slice aa d.sec.length ca, .slice ab d.cache.length cb] 25)) := (Below.refl _ _).alloc (Nat.le_refl _) _
  have hx := Box.new w #[.slice aa d.sec.length ca, .slice ab d.cache.length cb] 25
  have c0 := hx.cell 0 (.slice aa d.sec.length ca) rfl
  have c1 := hx.cell 1 (.slice ab d.cache.length cb) rfl
  by_cases hin : 0 ≤ a ∧ a < d.sec.length
  · have HA := Lib.hid (ha.later b0)
    have HB := Lib.hid (hb.later b0)
    clear ha hb h hx
    go_enter Tryz.func66, Tryz.ntmps66
    go_wp2_with (go_at_call 17; refine (in_yes _ _ _ _ (by omega) (by omega)).mono ?_; rintro e w1 ⟨rfl, rfl⟩)
    generalize w.alloc (.cells #[.slice aa d.sec.length ca, .slice ab d.cache.length cb] 25) = W at *
    go_loopw [6] (fun iv wr => ∃ j : Nat, j ≤ d.cache.length ∧ iv = .int .i64 ((j : Int) - 1) ∧ lastAt d.cache a = lastAt (d.cache.take j) a ∧ wr = W) (fun iv _ => (intOf iv + 1).toNat)
    case atStart => exact ⟨d.cache.length, by omega, rfl, by rw [List.take_length], rfl⟩
    case round =>
      obtain ⟨j, hj, rfl, hla, hw⟩ := hrel
      have hw' := hw.symm
      clear hw
      subst hw'
      by_cases hj0 : j = 0
      · subst hj0
        have hnone : lastAt d.cache a = none := by rw [hla]; rfl
        obtain ⟨k, rfl⟩ := Int.eq_ofNat_of_zero_le hin.1
        have hk : k < d.sec.length := by omega
        obtain ⟨g, rfl, hcs⟩ := HA.out.at k hk
        have HZ := Lib.hid (rdT_sec hk hnone)
        have hk1 : (k : Int) < (d.sec.length : Int) := by omega
        clear hla hnone
        generalize d.sec[k] = t at *
        go_wp2
        go_ret2
        exact ⟨by rw [HZ.out]; rfl, b0⟩
      · obtain ⟨i, rfl⟩ : ∃ i, j = i + 1 := ⟨j - 1, by omega⟩
        have hi : i < d.cache.length := by omega
        obtain ⟨g, off, rfl, hcl⟩ := HB.out.at i hi
        have d0 : W.cell? ⟨g, off + i * 2, none⟩ = some (.int .i64 d.cache[i].at_) := hcl W (Below.refl _ _) 0 _ rfl
        have d1 : W.cell? ⟨g, off + i * 2 + 1, none⟩ = some (.string d.cache[i].text) := hcl W (Below.refl _ _) 1 _ rfl
        rw [lastAt_take hi] at hla
        clear hcl
        generalize d.cache[i] = x at *
        obtain ⟨n, t⟩ := x
        simp only at d0 d1 hla
        have hii : (((i + 1 : Nat) : Int) - 1) = (i : Int) := by omega
        rw [hii]
        have hi0 : (0 : Int) ≤ (i : Int) := by omega
        have hi1 : (i : Int) < (d.cache.length : Int) := by omega
        by_cases hna : n = a
        · rw [if_pos hna] at hla
          have HZ := Lib.hid (rdT_last hin hla)
          clear hla
          subst hna
          go_wp2
          go_ret2
          exact ⟨by rw [HZ.out]; rfl, b0⟩
        · rw [if_neg hna] at hla
          have HL := Lib.hid hla
          clear hla
          go_wp2
          go_roundw
          case rel => exact ⟨i, by omega, rfl, HL.out, trivial⟩
          case measure => simp [intOf]
  · have HZ := Lib.hid (rdT_no hin)
    clear ha hb h hx
    go_enter Tryz.func66, Tryz.ntmps66
    go_wp2_with (go_at_call 17; refine (in_no _ _ _ _ (by omega)).mono ?_; rintro e w1 ⟨rfl, rfl⟩)
    go_ret2
    exact ⟨by rw [HZ.out]; rfl, b0⟩

end Go.Proofs.YtgcnebepklelpaaGreatDoor
