/- Texts of our own, joined. -/
import Derived.Test.YtgcnebepklelpaaGreatDoorJl
import Derived.Test.YtgcnebepklelpaaGreatDoorJk
import Derived.Test.YtgcnebepklelpaaGreatDoorJb
import Derived.Deep.DeepCutAuto
import Derived.Deep.QuietTactic
import Derived.BigQuiet
import Derived.WalkSmall
import Derived.Deep.RegionHeld3
import Derived.Laws.Concat
/- CheckOf of the model. -/
namespace Go.Proofs.YtgcnebepklelpaaGreatDoor
open Go.RowKit

set_option maxRecDepth 100000 in
set_option maxHeartbeats 4000000 in
theorem specCheckOf_any (L : Lg) (v : Value) (w : World) (h : LRd w v L) (hl : L.used.length ≤ 1048576) :
    Calls Tryz.prog 21 #[v] w fun e w' => ∃ (a : Option Addr) (cap : Nat), e = .returned (.agg #[.int .i64 (ckOf L).st, .int .i64 (ckOf L).ng, .int .i64 (ckOf L).ns, .int .i64 (ckOf L).nv, .slice a (ckOf L).refs.length cap]) ∧ RBuf rfE w.heap.size w w' (.slice a (ckOf L).refs.length cap) (ckOf L).refs := by
  obtain ⟨va, vb, vu, rfl, _, hu⟩ := h
  obtain ⟨ad, cap, rfl, hrow⟩ := hu.segs
  have HR : Hid _ := hrow
  clear hu hrow
  have HF : Hid (ckOf L = ⟨IntKind.i64.wrap (L.st + 1), L.ng, L.ns, L.nv, (L.used.take L.used.length).map (fun s => (s.no, s.gen))⟩) := by show _ = _; rw [List.take_length]; rfl
  obtain ⟨d, segs, us, ng, ns, st, nv⟩ := L
  generalize ckOf ⟨d, segs, us, ng, ns, st, nv⟩ = C at HF ⊢
  simp only at HR HF hl ⊢
  obtain ⟨n, hn⟩ : ∃ n, us.length = n := ⟨_, rfl⟩
  rw [hn] at hl HF ⊢
  have HN := Lib.hid hn
  clear hn
  obtain ⟨S, hS⟩ : ∃ S, IntKind.i64.wrap (st + 1) = S := ⟨_, rfl⟩
  have hS2 := hS
  rw [hS] at HF
  have X1 := Box.new w #[va, vb, .int .i64 segs, .slice ad n cap, .int .i64 ng, .int .i64 ns, .int .i64 st, .int .i64 nv] 28
  have k1 := belNew w (.cells #[va, vb, .int .i64 segs, .slice ad n cap, .int .i64 ng, .int .i64 ns, .int .i64 st, .int .i64 nv] 28)
  obtain ⟨w1, hw1⟩ : ∃ y, w.alloc (.cells #[va, vb, .int .i64 segs, .slice ad n cap, .int .i64 ng, .int .i64 ns, .int .i64 st, .int .i64 nv] 28) = y := ⟨_, rfl⟩
  have z1 : w1.heap.size = w.heap.size + 1 := by rw [← hw1]; simp
  have X2 := Box.new w1 #[.int .i64 0, .int .i64 0, .int .i64 0, .int .i64 0, .slice none 0 0] 51
  have k2 := belNew w1 (.cells #[.int .i64 0, .int .i64 0, .int .i64 0, .int .i64 0, .slice none 0 0] 51)
  obtain ⟨w2, hw2⟩ : ∃ y, w1.alloc (.cells #[.int .i64 0, .int .i64 0, .int .i64 0, .int .i64 0, .slice none 0 0] 51) = y := ⟨_, rfl⟩
  have z2 : w2.heap.size = w.heap.size + 2 := by rw [← hw2]; simp; omega
  have X3 := Box.new w2 #[.int .i64 S, .int .i64 ng, .int .i64 ns, .int .i64 nv, .slice none 0 0] 51
  have k3 := belNew w2 (.cells #[.int .i64 S, .int .i64 ng, .int .i64 ns, .int .i64 nv, .slice none 0 0] 51)
  obtain ⟨w3, hw3⟩ : ∃ y, w2.alloc (.cells #[.int .i64 S, .int .i64 ng, .int .i64 ns, .int .i64 nv, .slice none 0 0] 51) = y := ⟨_, rfl⟩
  have z3 : w3.heap.size = w.heap.size + 3 := by rw [← hw3]; simp; omega
  rw [hw1] at k1 X1
  rw [hw2] at k2 X2
  rw [hw3] at k3 X3
  rw [z1] at X2
  rw [z2] at X3
  have I0 : CkL w w3.heap.size w.heap.size (w.heap.size + 1) (w.heap.size + 2) 28 51 #[va, vb, .int .i64 segs, .slice ad n cap, .int .i64 ng, .int .i64 ns, .int .i64 st, .int .i64 nv] S ng ns nv w3 none 0 0 [] :=
    ⟨(X1.later k2).later k3, X2.later k3, X3, RBuf.nil rfE w3, (k1.trans (k2.mono k1.size)).trans (k3.mono (k1.trans (k2.mono k1.size)).size), ⟨by omega, by omega⟩, ⟨by omega, by omega, by omega⟩⟩
  have HI0 := Lib.hid I0
  have HB : Hid (w.heap.size ≤ w3.heap.size) := by show _ ≤ _; omega
  obtain ⟨B, hB⟩ : ∃ B, w3.heap.size = B := ⟨_, rfl⟩
  rw [hB] at HI0 HB
  have HW : Hid (((w.alloc (.cells #[va, vb, .int .i64 segs, .slice ad n cap, .int .i64 ng, .int .i64 ns, .int .i64 st, .int .i64 nv] 28)).alloc (.cells #[.int .i64 0, .int .i64 0, .int .i64 0, .int .i64 0, .slice none 0 0] 51)).alloc (.cells #[.int .i64 S, .int .i64 ng, .int .i64 ns, .int .i64 nv, .slice none 0 0] 51) = w3) := by show _ = _; rw [hw1, hw2, hw3]
  clear X1 X2 X3 k1 k2 k3 z1 z2 z3 hw1 hw2 hw3 I0 hB hS
  go_enter Tryz.func21, Tryz.ntmps21
  go_wp2_with fail
  rw [HW.out]
  clear HW hS2
  go_loopw [4] (fun iv wr => ∃ (i : Nat) (a : Option Addr) (c : Nat), i ≤ n ∧ iv = .int .i64 (i : Int) ∧ CkL w B w.heap.size (w.heap.size + 1) (w.heap.size + 2) 28 51 #[va, vb, .int .i64 segs, .slice ad n cap, .int .i64 ng, .int .i64 ns, .int .i64 st, .int .i64 nv] S ng ns nv wr a i c ((us.take i).map (fun s => (s.no, s.gen)))) (fun iv _ => n - (intOf iv).toNat)
  case atStart => exact ⟨0, none, 0, by omega, rfl, HI0.out⟩
  case round =>
    clear HI0
    obtain ⟨i, a, c, hi, rfl, I⟩ := hrel
    by_cases hlt : i < n
    · obtain ⟨s, hgs⟩ : ∃ s, us[i]? = some s := ⟨_, List.getElem?_eq_getElem (by rw [HN.out]; exact hlt)⟩
      obtain ⟨gp, op, am, nm, cm, rfl, p0, p1, p2, p3, _⟩ := HR.out _ I.bel i _ hgs
      have HT : Hid ((us.take (i + 1)).map (fun s => (s.no, s.gen)) = (us.take i).map (fun s => (s.no, s.gen)) ++ [(s.no, s.gen)]) := refs_take hgs
      obtain ⟨rs, hrs⟩ : ∃ rs, (us.take i).map (fun s => (s.no, s.gen)) = rs := ⟨_, rfl⟩
      have hln : rs.length = i := by rw [← hrs, List.length_map, List.length_take, HN.out]; omega
      have HLN := Lib.hid hln
      rw [hrs] at I HT
      clear hrs hgs hln
      obtain ⟨no, gen, ende, its⟩ := s
      simp only at p0 p1 p2 p3 HT
      have hi0 : (0 : Int) ≤ (i : Int) := by omega
      have hi1 : (i : Int) < (n : Int) := by omega
      obtain ⟨_, _, _, h3, _⟩ := I.log.eightL
      have c4 := I.chk.cell 4 _ rfl
      have kL := belNew wr (.cells #[.int .i64 no, .int .i64 gen] 80)
      have I2 := I.later kL
      obtain ⟨_, _, _, h3', _⟩ := I2.log.eightL
      have c4' := I2.chk.cell 4 _ rfl
      have kF : Below (wr.alloc (.cells #[.int .i64 no, .int .i64 gen] 80)).heap.size (wr.alloc (.cells #[.int .i64 no, .int .i64 gen] 80)) (wr.alloc (.cells #[.int .i64 no, .int .i64 gen] 80)).drew := (Below.refl _ _).drew
      have I3 := Lib.hid (I2.later kF)
      have HL := Lib.hid ((RBuf.lit1 rfE wr (no, gen)).later kF).here
      clear I I2 kL kF p2 p3
      go_upto_region 5 with fail
      go_region_law (first
        | (refine step_append_rows (by rfl) _ _ rfE (by rfl) B _ rs (by rfl) I3.out.refs wr.heap.size _ [(no, gen)] (by rfl) HL.out (by show _ * 17 ≤ _; simp only [List.length_cons, List.length_nil]; have := HLN.out; omega) ?_; intro v8 w8 r8 g8 at8 lt8; obtain ⟨a8, c8, e8⟩ := r8.form; simp only [List.length_append, List.length_cons, List.length_nil, Nat.zero_add] at e8; rw [HLN.out] at e8; subst e8; obtain ⟨d4, f4⟩ := I3.out.cells g8; have I9 := Lib.hid (I3.out.push a8 _ c8 r8 g8)))
      all_goals
        clear HL r8 g8 at8 lt8 p0 p1 h3 c4 h3' c4'
        go_wp2
        go_roundw
        case rel => exact ⟨i + 1, a8, c8, by omega, by go_num, by rw [HT.out]; exact I9.out⟩
        case measure => simp [intOf]; omega
    · have hin : i = n := by omega
      have HE : Hid ((us.take n).map (fun s => (s.no, s.gen)) = (us.take i).map (fun s => (s.no, s.gen))) := by show _ = _; rw [hin]
      have HLN : Hid (((us.take i).map (fun s => (s.no, s.gen))).length = i) := by show _ = _; rw [List.length_map, List.length_take, HN.out]; omega
      obtain ⟨rs, hrs⟩ : ∃ rs, (us.take i).map (fun s => (s.no, s.gen)) = rs := ⟨_, rfl⟩
      rw [hrs] at I HE HLN
      clear hrs hin
      rw [HE.out] at HF
      obtain ⟨x0, x1, x2, x3, x4, _⟩ := I.chk.fiveC
      obtain ⟨y0, y1, y2, y3, y4, f0, f1, f2, f3, f4⟩ := I.res.fiveC
      have R5 := I.res.set5C (.int .i64 S) (.int .i64 ng) (.int .i64 ns) (.int .i64 nv) (.slice a i c)
      obtain ⟨u0, u1, u2, u3, u4, _⟩ := R5.fiveC
      have HD := Lib.hid (I.refs.set5C (g := w.heap.size + 1) I.bel HB.out (by have := I.lt; omega) (by omega) (.int .i64 S) (.int .i64 ng) (.int .i64 ns) (.int .i64 nv) (.slice a i c))
      have hge : ¬ (i : Int) < (n : Int) := by omega
      obtain ⟨_, _, _, h3, _⟩ := I.log.eightL
      clear I R5 HE
      go_wp2
      refine bodyPost_ret (v := .agg #[.int .i64 S, .int .i64 ng, .int .i64 ns, .int .i64 nv, .slice a i c]) (by simp [results, Tryz.results21, go_sem, u0, u1, u2, u3, u4]) rfl ?_
      refine ⟨a, c, by rw [HF.out]; simp only; rw [HLN.out], ?_⟩
      rw [HF.out]
      simp only
      rw [HLN.out]
      exact HD.out

end Go.Proofs.YtgcnebepklelpaaGreatDoor

/- CheckOk of the model. -/
namespace Go.Proofs.YtgcnebepklelpaaGreatDoor
open Go.RowKit

theorem inC_yes (n lo hi : Int) (w : World) (h1 : lo ≤ n) (h2 : n ≤ hi) : Calls Tryz.prog 17 #[.int .i64 n, .int .i64 lo, .int .i64 hi] w fun e w' => e = .returned (.bool true) ∧ w' = w :=
  (l01In_yes n lo hi w h1 h2).mono fun _ _ h => ⟨h.1, h.2.symm⟩
theorem inC_no (n lo hi : Int) (w : World) (h : ¬ (lo ≤ n ∧ n ≤ hi)) : Calls Tryz.prog 17 #[.int .i64 n, .int .i64 lo, .int .i64 hi] w fun e w' => e = .returned (.bool false) ∧ w' = w :=
  (l01In_no n lo hi w h).mono fun _ _ h => ⟨h.1, h.2.symm⟩

set_option maxRecDepth 100000 in
set_option maxHeartbeats 4000000 in
theorem specCheckOk_any (c : Ck) (a : Option Addr) (cap : Nat) (w : World) (h : Rows' rfE w (.slice a c.refs.length cap) c.refs) (hl : c.refs.length ≤ 1048576) :
    Calls Tryz.prog 64 #[.agg #[.int .i64 c.st, .int .i64 c.ng, .int .i64 c.ns, .int .i64 c.nv, .slice a c.refs.length cap]] w fun e w' => e = .returned (.bool (ckB c)) ∧ Below w.heap.size w w' := by
  obtain ⟨_, _, hv, hrow⟩ := h.refs
  cases hv
  have HR := Lib.hid hrow
  clear h hrow
  have HYES := Lib.hid (fun h => @ckB_yes c h)
  have HNO := Lib.hid (fun h => @ckB_no c h)
  obtain ⟨st, ng, ns, nv, rs⟩ := c
  generalize ckB ⟨st, ng, ns, nv, rs⟩ = A at HYES HNO ⊢
  replace HYES : Hid (((numIn st ∧ numIn ng ∧ numIn ns ∧ numIn nv) ∧ (1 ≤ rs.length ∧ rs.length ≤ 11) ∧ ∀ (i : Nat) (r : Rf), rs[i]? = some r → rfAt ng rs i r) → A = true) := HYES
  replace HNO : Hid (¬ ((numIn st ∧ numIn ng ∧ numIn ns ∧ numIn nv) ∧ (1 ≤ rs.length ∧ rs.length ≤ 11) ∧ ∀ (i : Nat) (r : Rf), rs[i]? = some r → rfAt ng rs i r) → A = false) := HNO
  simp only at hl HR ⊢
  obtain ⟨n, hn⟩ : ∃ n, rs.length = n := ⟨_, rfl⟩
  rw [hn] at hl HYES HNO ⊢
  have HN := Lib.hid hn
  clear hn
  have X0 := Box.new w #[.int .i64 st, .int .i64 ng, .int .i64 ns, .int .i64 nv, .slice a n cap] 51
  have b0 := belNew w (.cells #[.int .i64 st, .int .i64 ng, .int .i64 ns, .int .i64 nv, .slice a n cap] 51)
  have HC : Hid (∀ x, Below (w.alloc (.cells #[.int .i64 st, .int .i64 ng, .int .i64 ns, .int .i64 nv, .slice a n cap] 51)).heap.size (w.alloc (.cells #[.int .i64 st, .int .i64 ng, .int .i64 ns, .int .i64 nv, .slice a n cap] 51)) x → (x.cell? ⟨w.heap.size, 0, none⟩ = some (.int .i64 st) ∧ x.cell? ⟨w.heap.size, 1, none⟩ = some (.int .i64 ng) ∧ x.cell? ⟨w.heap.size, 2, none⟩ = some (.int .i64 ns) ∧ x.cell? ⟨w.heap.size, 3, none⟩ = some (.int .i64 nv) ∧ x.cell? ⟨w.heap.size, 4, none⟩ = some (.slice a n cap)) ∧ Below w.heap.size w x) := fun x hx => by
    obtain ⟨x0, x1, x2, x3, x4, _⟩ := (X0.later hx).fiveC
    exact ⟨⟨x0, x1, x2, x3, x4⟩, b0.trans (hx.mono b0.size)⟩
  clear X0 b0
  go_enter Tryz.func64, Tryz.ntmps64
  go_upto_region 1 with fail
  generalize w.alloc (.cells #[.int .i64 st, .int .i64 ng, .int .i64 ns, .int .i64 nv, .slice a n cap] 51) = W at HC ⊢
  obtain ⟨g, hg⟩ : ∃ g, w.heap.size = g := ⟨_, rfl⟩
  rw [hg] at HC ⊢
  obtain ⟨⟨c0, c1, c2, c3, c4⟩, bW⟩ := HC.out _ (Below.refl _ _)
  rw [← hg] at bW
  by_cases h1 : 1 ≤ st ∧ st ≤ 1000000000
  rotate_left
  · have HE : Hid (A = false) := HNO.out (fun c => h1 c.1.1)
    go_wp2_with (go_at_call 17; first | (refine (l01In_yes _ _ _ _ (by omega) (by omega)).mono ?_; rintro e w1 ⟨rfl, rfl⟩) | (refine (l01In_no _ _ _ _ (by omega)).mono ?_; rintro e w1 ⟨rfl, rfl⟩))
    go_ret
    exact ⟨by rw [HE.out]; rfl, by first | exact bW | (rw [← hg]; exact bW)⟩
  by_cases h2 : 1 ≤ ng ∧ ng ≤ 1000000000
  rotate_left
  · have HE : Hid (A = false) := HNO.out (fun c => h2 c.1.2.1)
    go_wp2_with (go_at_call 17; first | (refine (l01In_yes _ _ _ _ (by omega) (by omega)).mono ?_; rintro e w1 ⟨rfl, rfl⟩) | (refine (l01In_no _ _ _ _ (by omega)).mono ?_; rintro e w1 ⟨rfl, rfl⟩))
    go_ret
    exact ⟨by rw [HE.out]; rfl, by first | exact bW | (rw [← hg]; exact bW)⟩
  by_cases h3 : 1 ≤ ns ∧ ns ≤ 1000000000
  rotate_left
  · have HE : Hid (A = false) := HNO.out (fun c => h3 c.1.2.2.1)
    go_wp2_with (go_at_call 17; first | (refine (l01In_yes _ _ _ _ (by omega) (by omega)).mono ?_; rintro e w1 ⟨rfl, rfl⟩) | (refine (l01In_no _ _ _ _ (by omega)).mono ?_; rintro e w1 ⟨rfl, rfl⟩))
    go_ret
    exact ⟨by rw [HE.out]; rfl, by first | exact bW | (rw [← hg]; exact bW)⟩
  by_cases h4 : 1 ≤ nv ∧ nv ≤ 1000000000
  rotate_left
  · have HE : Hid (A = false) := HNO.out (fun c => h4 c.1.2.2.2)
    go_wp2_with (go_at_call 17; first | (refine (l01In_yes _ _ _ _ (by omega) (by omega)).mono ?_; rintro e w1 ⟨rfl, rfl⟩) | (refine (l01In_no _ _ _ _ (by omega)).mono ?_; rintro e w1 ⟨rfl, rfl⟩))
    go_ret
    exact ⟨by rw [HE.out]; rfl, by first | exact bW | (rw [← hg]; exact bW)⟩
  by_cases h5 : 1 ≤ n ∧ n ≤ 11
  rotate_left
  · have HE : Hid (A = false) := HNO.out (fun c => h5 c.2.1)
    go_wp2_with (go_at_call 17; first | (refine (l01In_yes _ _ _ _ (by omega) (by omega)).mono ?_; rintro e w1 ⟨rfl, rfl⟩) | (refine (l01In_no _ _ _ _ (by omega)).mono ?_; rintro e w1 ⟨rfl, rfl⟩))
    go_ret
    exact ⟨by rw [HE.out]; rfl, by first | exact bW | (rw [← hg]; exact bW)⟩
  have HBAD : Hid (∀ (i : Nat) (r : Rf), rs[i]? = some r → ¬ rfAt ng rs i r → A = false) := fun i r hr hb => HNO.out (fun c => hb (c.2.2 i r hr))
  have HGOOD : Hid ((∀ (i : Nat) (r : Rf), rs[i]? = some r → rfAt ng rs i r) → A = true) := fun hb => HYES.out ⟨⟨h1, h2, h3, h4⟩, h5, hb⟩
  clear HYES HNO bW
  go_wp2_with (go_at_call 17; first | (refine (l01In_yes _ _ _ _ (by omega) (by omega)).mono ?_; rintro e w1 ⟨rfl, rfl⟩) | (refine (l01In_no _ _ _ _ (by omega)).mono ?_; rintro e w1 ⟨rfl, rfl⟩))
  clear c0 c1 c2 c3 c4
  go_loopw [3] (fun iv wr => ∃ i : Nat, i ≤ n ∧ iv = .int .i64 (i : Int) ∧ Hid (∀ (k : Nat) (r : Rf), k < i → rs[k]? = some r → rfAt ng rs k r) ∧ Below W.heap.size W wr) (fun iv _ => n - (intOf iv).toNat)
  case atStart => exact ⟨0, by omega, rfl, fun k r hk => by omega, Below.refl _ _⟩
  case round =>
    obtain ⟨i, hi, rfl, HOK, bq⟩ := hrel
    obtain ⟨⟨c0, c1, c2, c3, c4⟩, bw⟩ := HC.out _ bq
    rw [← hg] at bw
    by_cases hlt : i < n
    · obtain ⟨r, hgr⟩ : ∃ r, rs[i]? = some r := ⟨_, List.getElem?_eq_getElem (by rw [HN.out]; exact hlt)⟩
      obtain ⟨gp, op, rfl, p0, p1⟩ := HR.out _ bw i _ hgr
      have HGR := Lib.hid hgr
      clear hgr
      obtain ⟨rN, rG⟩ := r
      simp only at p0 p1
      have hi0 : (0 : Int) ≤ (i : Int) := by omega
      have hi1 : (i : Int) < (n : Int) := by omega
      have XB := Box.new wr #[.int .i64 rN, .int .i64 rG] 80
      have k9 := belNew wr (.cells #[.int .i64 rN, .int .i64 rG] 80)
      have b9 := bq.trans (k9.mono bq.size)
      clear bq bw
      go_upto_region 7 with fail
      clear p0 p1 c0 c1 c2 c3 c4
      generalize wr.alloc (.cells #[.int .i64 rN, .int .i64 rG] 80) = w9 at XB b9 ⊢
      obtain ⟨g9, hg9⟩ : ∃ g9, wr.heap.size = g9 := ⟨_, rfl⟩
      rw [hg9] at XB ⊢
      clear hg9 k9
      have H9 : Hid (∀ x, Below w9.heap.size w9 x → (x.cell? ⟨g9, 0, none⟩ = some (.int .i64 rN) ∧ x.cell? ⟨g9, 1, none⟩ = some (.int .i64 rG)) ∧ (x.cell? ⟨g, 0, none⟩ = some (.int .i64 st) ∧ x.cell? ⟨g, 1, none⟩ = some (.int .i64 ng) ∧ x.cell? ⟨g, 2, none⟩ = some (.int .i64 ns) ∧ x.cell? ⟨g, 3, none⟩ = some (.int .i64 nv) ∧ x.cell? ⟨g, 4, none⟩ = some (.slice (some ⟨gp, op, none⟩) n cap)) ∧ Below w.heap.size w x ∧ Below W.heap.size W x) := fun x hx =>
        have hb := b9.trans (hx.mono b9.size)
        ⟨⟨(XB.later hx).cell 0 _ rfl, (XB.later hx).cell 1 _ rfl⟩, (HC.out _ hb).1, by have := (HC.out _ hb).2; rw [← hg] at this; exact this, hb⟩
      clear XB b9
      obtain ⟨F, hF0⟩ := someC (¬ ((0 ≤ rN ∧ rN ≤ 10) ∧ (1 ≤ rG ∧ rG ≤ ng - 1) ∧ ∀ p : Rf, 0 < i → rs[i - 1]? = some p → p.2 < rG))
      have hF := Lib.hid hF0
      clear hF0
      have hng : IntKind.i64.wrap (ng - 1) = ng - 1 := IntWalk.i64_in _ ⟨by omega, by omega⟩
      go_cut [75] (fun c wx => c = .bool F ∧ Below w9.heap.size w9 wx)
      case first =>
        obtain ⟨⟨d0, d1⟩, ⟨_, c1, _, _, c4⟩, bw, _⟩ := H9.out _ (Below.refl _ _)
        by_cases hv : 0 ≤ rN ∧ rN ≤ 10
        rotate_left
        · have HE : Hid (F = true) := hF.out.2 (fun c => hv c.1)
          clear hF HR HN HC HBAD HGOOD HOK HGR H9 bw
          go_quiet (first | (go_at_call 17; first | exact Calls.quiet_of_same (inC_yes _ _ _ _ (by omega) (by omega)) | exact Calls.quiet_of_same (inC_no _ _ _ _ (by omega))))
          go_wp2_with fail
          go_meet
          exact ⟨by rw [HE.out], below_drewN (Below.refl _ _) _⟩
        by_cases hu : 1 ≤ rG ∧ rG ≤ ng - 1
        rotate_left
        · have HE : Hid (F = true) := hF.out.2 (fun c => hu c.2.1)
          clear hF HR HN HC HBAD HGOOD HOK HGR H9 bw
          go_quiet (first | (go_at_call 17; first | exact Calls.quiet_of_same (inC_yes _ _ _ _ (by omega) (by omega)) | exact Calls.quiet_of_same (inC_no _ _ _ _ (by omega))))
          go_wp2_with fail
          go_meet
          exact ⟨by rw [HE.out], below_drewN (Below.refl _ _) _⟩
        rcases (show i = 0 ∨ ∃ j, i = j + 1 by cases i with | zero => exact .inl rfl | succ j => exact .inr ⟨j, rfl⟩) with rfl | ⟨j, rfl⟩
        · have hz : ¬ ((0 : Int) < ((0 : Nat) : Int)) := by omega
          have HE : Hid (F = false) := Bool.eq_false_iff.2 (fun h => hF.out.1 h ⟨hv, hu, fun p h => absurd h (Nat.lt_irrefl 0)⟩)
          clear hF HR HN HC HBAD HGOOD HOK HGR H9 bw
          go_quiet (first | (go_at_call 17; first | exact Calls.quiet_of_same (inC_yes _ _ _ _ (by omega) (by omega)) | exact Calls.quiet_of_same (inC_no _ _ _ _ (by omega))))
          go_wp2_with fail
          go_meet
          exact ⟨by rw [HE.out], below_drewN (Below.refl _ _) _⟩
        · obtain ⟨p, hgp⟩ : ∃ p, rs[j]? = some p := ⟨_, List.getElem?_eq_getElem (by rw [HN.out]; omega)⟩
          have hpos : (0 : Int) < (j : Int) + 1 := by omega
          have hj1 : (j : Int) < (n : Int) := by omega
          have hj0 : (0 : Int) ≤ (j : Int) := by omega
          obtain ⟨_, _, e0, _, t1⟩ := HR.out _ bw j _ hgp
          cases e0
          have HGP := Lib.hid hgp
          clear hgp
          obtain ⟨pN, pG⟩ := p
          simp only at t1
          have hwr : IntKind.i64.wrap ((j : Int) + 1 - 1) = (j : Int) := by rw [show (j : Int) + 1 - 1 = (j : Int) by omega]; exact IntWalk.i64_in _ ⟨by omega, by omega⟩
          have hwr2 : IntKind.i64.wrap (j : Int) = (j : Int) := IntWalk.i64_in _ ⟨by omega, by omega⟩
          by_cases hup : rG ≤ pG
          · have HE : Hid (F = true) := hF.out.2 (fun c => by have h1 := c.2.2 _ (Nat.succ_pos j) HGP.out; simp only at h1; omega)
            clear hF HR HN HC HBAD HGOOD HOK HGR H9 bw HGP
            go_quiet (first | (go_at_call 17; first | exact Calls.quiet_of_same (inC_yes _ _ _ _ (by omega) (by omega)) | exact Calls.quiet_of_same (inC_no _ _ _ _ (by omega))))
            go_wp2_with fail
            go_meet
            exact ⟨by rw [HE.out], below_drewN (Below.refl _ _) _⟩
          · have HE : Hid (F = false) := Bool.eq_false_iff.2 (fun h => hF.out.1 h ⟨hv, hu, fun p _ h => by have e := Option.some.inj (h.symm.trans HGP.out); rw [e]; simp only; omega⟩)
            clear hF HR HN HC HBAD HGOOD HOK HGR H9 bw HGP
            go_quiet (first | (go_at_call 17; first | exact Calls.quiet_of_same (inC_yes _ _ _ _ (by omega) (by omega)) | exact Calls.quiet_of_same (inC_no _ _ _ _ (by omega))))
            go_wp2_with fail
            go_meet
            exact ⟨by rw [HE.out], below_drewN (Below.refl _ _) _⟩
      case rest =>
        obtain ⟨rfl, k10⟩ := hcut
        cases F with
        | true =>
          have HE : Hid (A = false) := HBAD.out i _ HGR.out (fun c => hF.out.1 rfl ⟨c.1, c.2.1, c.2.2.1⟩)
          have bE := (H9.out _ k10).2.2.1
          go_wp2
          go_ret
          exact ⟨by rw [HE.out]; rfl, by first | exact bE | (rw [← hg]; exact bE)⟩
        | false =>
          have HP : Hid ((0 ≤ rN ∧ rN ≤ 10) ∧ (1 ≤ rG ∧ rG ≤ ng - 1) ∧ ∀ p : Rf, 0 < i → rs[i - 1]? = some p → p.2 < rG) := Classical.byContradiction (fun c => by have := hF.out.2 c; cases this)
          clear hF
          go_wp2
          go_loopw [5] (fun kv wq => ∃ k : Nat, k ≤ i ∧ kv = .int .i64 (k : Int) ∧ Hid (∀ (q : Nat) (y : Rf), q < k → rs[q]? = some y → y.1 ≠ rN) ∧ Below w9.heap.size w9 wq) (fun kv _ => i - (intOf kv).toNat)
          case atStart => exact ⟨0, by omega, rfl, fun q y hq => by omega, k10⟩
          case round =>
            clear k10
            obtain ⟨k, hk, rfl, HNOS, bq⟩ := hrel
            obtain ⟨⟨d0, d1⟩, ⟨_, _, _, _, c4⟩, bw, bWx⟩ := H9.out _ bq
            by_cases hlk : k < i
            · obtain ⟨y, hgy⟩ : ∃ y, rs[k]? = some y := ⟨_, List.getElem?_eq_getElem (by rw [HN.out]; omega)⟩
              obtain ⟨_, _, e0, t0, _⟩ := HR.out _ bw k _ hgy
              cases e0
              have HGY := Lib.hid hgy
              clear hgy
              obtain ⟨yN, yG⟩ := y
              simp only at t0
              have hk0 : (0 : Int) ≤ (k : Int) := by omega
              have hk1 : (k : Int) < (n : Int) := by omega
              have hk2 : (k : Int) < (i : Int) := by omega
              by_cases he : yN = rN
              · subst he
                have HE : Hid (A = false) := HBAD.out i _ HGR.out (fun c => c.2.2.2 k _ hlk HGY.out rfl)
                clear HNOS HGY HR HN HC HBAD HGOOD HOK HGR H9 HP
                go_wp2
                go_quiet (fail)
                go_wp2
                go_ret
                exact ⟨by rw [HE.out]; rfl, by first | exact below_drewN bw _ | (rw [← hg]; exact below_drewN bw _)⟩
              · have he' : (yN == rN) = false := beq_eq_false_iff_ne.2 he
                have HS : Hid (∀ (q : Nat) (y : Rf), q < k + 1 → rs[q]? = some y → y.1 ≠ rN) := fun q y hq hy => by
                  rcases Nat.lt_succ_iff_lt_or_eq.1 hq with h | rfl
                  · exact HNOS.out q y h hy
                  · have e := Option.some.inj (hy.symm.trans HGY.out); rw [e]; exact he
                clear HNOS HGY bw bWx
                go_wp2
                go_quiet (fail)
                go_wp2
                go_roundw
                case rel => exact ⟨k + 1, by omega, by go_num, HS, below_drewN bq _⟩
                case measure => simp [intOf]; omega
            · have hki : Hid (i = k) := by show i = k; omega
              have HNB : Hid (∀ (q : Nat) (y : Rf), q < i → rs[q]? = some y → y.1 ≠ rN) := by rw [hki.out]; exact HNOS.out
              have hk2 : ¬ (k : Int) < (i : Int) := by omega
              have HS : Hid (∀ (k : Nat) (r : Rf), k < i + 1 → rs[k]? = some r → rfAt ng rs k r) := fun q y hq hy => by
                rcases Nat.lt_succ_iff_lt_or_eq.1 hq with h | rfl
                · exact HOK.out q y h hy
                · have e := Option.some.inj (hy.symm.trans HGR.out); rw [e]; exact ⟨HP.out.1, HP.out.2.1, HP.out.2.2, HNB.out⟩
              clear HNOS hki d0 d1 c4 bw
              go_wp2
              go_roundw
              case rel => exact ⟨i + 1, by omega, by go_num, HS, bWx⟩
              case measure => simp [intOf]; omega
    · have hge : ¬ (i : Int) < (n : Int) := by omega
      have HE : Hid (A = true) := HGOOD.out (fun k r hr => HOK.out k r (by have := (List.getElem?_eq_some_iff.1 hr).1; rw [HN.out] at this; omega) hr)
      go_wp2
      go_ret
      exact ⟨by rw [HE.out]; rfl, by first | exact bw | (rw [← hg]; exact bw)⟩

end Go.Proofs.YtgcnebepklelpaaGreatDoor

/- CheckText of the model. -/
namespace Go.Proofs.YtgcnebepklelpaaGreatDoor
open Go.RowKit

set_option maxRecDepth 100000 in
set_option maxHeartbeats 8000000 in
theorem specCheckText_any (c : Ck) (a : Option Addr) (cap : Nat) (w : World) (h : Rows' rfE w (.slice a c.refs.length cap) c.refs) (hl : c.refs.length ≤ 1048576) :
    Calls Tryz.prog 39 #[.agg #[.int .i64 c.st, .int .i64 c.ng, .int .i64 c.ns, .int .i64 c.nv, .slice a c.refs.length cap]] w fun e w' => e = .returned (ctT c) ∧ Below w.heap.size w w' := by
  have HOKW := Lib.hid (fun (x : World) (hx : Below w.heap.size w x) => specCheckOk_any c a cap x (h.later hx) hl)
  obtain ⟨_, _, hv, hrow⟩ := h.refs
  cases hv
  have HR := Lib.hid hrow
  clear h hrow
  have HYES := Lib.hid (fun (e : ckB c = true) => And.intro (ctT_yes e) (ckB_iff.1 e))
  have HNO := Lib.hid (fun (e : ckB c = false) => ctT_no e)
  have HBD := Lib.hid (fun (e : c.ok) => ckBd_len e)
  have HSE := Lib.hid (fun (e : c.ok) => ckSe_len e)
  have HIN := Lib.hid (fun (e : c.ok) (i : Nat) (r : Rf) (hr : c.refs[i]? = some r) => c.ref_in e hr)
  have HST := Lib.hid (fun (i : Nat) (r : Rf) (hr : c.refs[i]? = some r) => ckBd_step hr)
  have HZ := Lib.hid (ckBd_zero c)
  have HDE : Hid (ckSe c = ckBd c c.refs.length ++ fourOf (ckBd c c.refs.length) ∧ ckTx c = shB (ckSe c)) := ⟨rfl, rfl⟩
  have HNU : Hid (c.ok → (numIn c.st ∧ numIn c.ng ∧ numIn c.ns ∧ numIn c.nv) ∧ c.refs.length ≤ 11) := fun e => ⟨e.1, e.2.1.2⟩
  obtain ⟨Q, hQ⟩ : ∃ Q, c.ok = Q := ⟨_, rfl⟩
  obtain ⟨D, hD⟩ : ∃ D, ckB c = D := ⟨_, rfl⟩
  obtain ⟨TT, hTT⟩ : ∃ TT, ctT c = TT := ⟨_, rfl⟩
  obtain ⟨TX, hTX⟩ : ∃ TX, ckTx c = TX := ⟨_, rfl⟩
  obtain ⟨SE, hSE⟩ : ∃ SE, ckSe c = SE := ⟨_, rfl⟩
  obtain ⟨BD, hBD⟩ : ∃ BD, ckBd c = BD := ⟨_, rfl⟩
  rw [hQ, hD, hTT, hTX] at HYES
  rw [hD, hTT] at HNO
  rw [hQ, hBD] at HBD
  rw [hQ, hBD, hSE, hTX] at HSE
  rw [hQ] at HIN HNU
  rw [hBD] at HST HZ
  rw [hBD, hSE, hTX] at HDE
  rw [hD] at HOKW
  rw [hTT]
  clear hQ hD hTT hTX hSE hBD
  obtain ⟨st, ng, ns, nv, rs⟩ := c
  simp only at HOKW HR HBD HSE HIN HST HZ HDE HNU hl ⊢
  obtain ⟨n, hn⟩ : ∃ n, rs.length = n := ⟨_, rfl⟩
  rw [hn] at hl HOKW HBD HSE HZ HDE HNU ⊢
  have HN := Lib.hid hn
  clear hn
  have X0 := Box.new w #[.int .i64 st, .int .i64 ng, .int .i64 ns, .int .i64 nv, .slice a n cap] 51
  have b0 := belNew w (.cells #[.int .i64 st, .int .i64 ng, .int .i64 ns, .int .i64 nv, .slice a n cap] 51)
  have HC : Hid (∀ x, Below (w.alloc (.cells #[.int .i64 st, .int .i64 ng, .int .i64 ns, .int .i64 nv, .slice a n cap] 51)).heap.size (w.alloc (.cells #[.int .i64 st, .int .i64 ng, .int .i64 ns, .int .i64 nv, .slice a n cap] 51)) x → (x.cell? ⟨w.heap.size, 0, none⟩ = some (.int .i64 st) ∧ x.cell? ⟨w.heap.size, 1, none⟩ = some (.int .i64 ng) ∧ x.cell? ⟨w.heap.size, 2, none⟩ = some (.int .i64 ns) ∧ x.cell? ⟨w.heap.size, 3, none⟩ = some (.int .i64 nv) ∧ x.cell? ⟨w.heap.size, 4, none⟩ = some (.slice a n cap)) ∧ Below w.heap.size w x) := fun x hx => by
    obtain ⟨x0, x1, x2, x3, x4, _⟩ := (X0.later hx).fiveC
    exact ⟨⟨x0, x1, x2, x3, x4⟩, b0.trans (hx.mono b0.size)⟩
  obtain ⟨x0, x1, x2, x3, x4, _⟩ := X0.fiveC
  clear X0 b0
  go_enter Tryz.func39, Tryz.ntmps39
  go_wp2_with fail
  clear x0 x1 x2 x3 x4
  generalize w.alloc (.cells #[.int .i64 st, .int .i64 ng, .int .i64 ns, .int .i64 nv, .slice a n cap] 51) = W at HC ⊢
  obtain ⟨g, hg⟩ : ∃ g, w.heap.size = g := ⟨_, rfl⟩
  replace HC : Hid (∀ x, Below W.heap.size W x → (x.cell? ⟨g, 0, none⟩ = some (.int .i64 st) ∧ x.cell? ⟨g, 1, none⟩ = some (.int .i64 ng) ∧ x.cell? ⟨g, 2, none⟩ = some (.int .i64 ns) ∧ x.cell? ⟨g, 3, none⟩ = some (.int .i64 nv) ∧ x.cell? ⟨g, 4, none⟩ = some (.slice a n cap)) ∧ Below w.heap.size w x) := by rw [hg] at HC ⊢; exact HC
  simp only [hg]
  have HG := Lib.hid hg
  clear hg
  refine (HOKW.out _ (HC.out _ (Below.refl _ _)).2).mono ?_
  rintro e w1 ⟨rfl, k1⟩
  clear HOKW
  cases D with
  | false =>
    have HE := Lib.hid (HNO.out rfl)
    have bE := (HC.out _ k1).2
    go_wp2
    go_ret2
    exact ⟨by rw [HE.out]; rfl, by first | exact bE | (rw [← HG.out]; exact bE)⟩
  | true =>
    have HOK := Lib.hid (HYES.out rfl).2
    have HE := Lib.hid (HYES.out rfl).1
    obtain ⟨⟨h1, h2, h3, h4⟩, h5⟩ := HNU.out HOK.out
    unfold numIn at h1 h2 h3 h4
    have HL1 := Lib.hid (fun x => l01VarZ_any st x (by omega) (by omega))
    have HL2 := Lib.hid (fun x => l01VarZ_any ng x (by omega) (by omega))
    have HL3 := Lib.hid (fun x => l01VarZ_any ns x (by omega) (by omega))
    have HL4 := Lib.hid (fun x => l01VarZ_any nv x (by omega) (by omega))
    have HL5 := Lib.hid (fun x => l01VarZ_any (n : Int) x (by omega) (by omega))
    have z1 := vtB_five (n := st.toNat) (by omega)
    have z2 := vtB_five (n := ng.toNat) (by omega)
    have z3 := vtB_five (n := ns.toNat) (by omega)
    have z4 := vtB_five (n := nv.toNat) (by omega)
    have z5 := vtB_five (n := n) (by omega)
    rw [Int.toNat_natCast] at HL5
    obtain ⟨V1, hV1⟩ : ∃ V, vtB st.toNat = V := ⟨_, rfl⟩
    obtain ⟨V2, hV2⟩ : ∃ V, vtB ng.toNat = V := ⟨_, rfl⟩
    obtain ⟨V3, hV3⟩ : ∃ V, vtB ns.toNat = V := ⟨_, rfl⟩
    obtain ⟨V4, hV4⟩ : ∃ V, vtB nv.toNat = V := ⟨_, rfl⟩
    obtain ⟨V5, hV5⟩ : ∃ V, vtB n = V := ⟨_, rfl⟩
    rw [hV1] at HL1 z1 HZ
    rw [hV2] at HL2 z2 HZ
    rw [hV3] at HL3 z3 HZ
    rw [hV4] at HL4 z4 HZ
    rw [hV5] at HL5 z5 HZ
    clear hV1 hV2 hV3 hV4 hV5 HYES HNO HNU
    have ad1 := fun wx => run_string_add_sum (P := Tryz.prog) (w := wx) V1 V2 (by omega)
    have y1 : (V1 ++ V2).size ≤ 10 := by rw [ByteArray.size_append]; omega
    obtain ⟨U1, hU1⟩ : ∃ U, V1 ++ V2 = U := ⟨_, rfl⟩
    rw [hU1] at ad1 y1 HZ
    have ad2 := fun wx => run_string_add_sum (P := Tryz.prog) (w := wx) U1 V3 (by omega)
    have y2 : (U1 ++ V3).size ≤ 15 := by rw [ByteArray.size_append]; omega
    obtain ⟨U2, hU2⟩ : ∃ U, U1 ++ V3 = U := ⟨_, rfl⟩
    rw [hU2] at ad2 y2 HZ
    have ad3 := fun wx => run_string_add_sum (P := Tryz.prog) (w := wx) U2 V4 (by omega)
    have y3 : (U2 ++ V4).size ≤ 20 := by rw [ByteArray.size_append]; omega
    obtain ⟨U3, hU3⟩ : ∃ U, U2 ++ V4 = U := ⟨_, rfl⟩
    rw [hU3] at ad3 y3 HZ
    have ad4 := fun wx => run_string_add_sum (P := Tryz.prog) (w := wx) U3 V5 (by omega)
    obtain ⟨U4, hU4⟩ : ∃ U, U3 ++ V5 = U := ⟨_, rfl⟩
    rw [hU4] at ad4 HZ
    clear hU1 hU2 hU3 hU4 y1 y2 y3 z1 z2 z3 z4 z5
    have kk : Below W.heap.size W w1.drew := k1.drew
    obtain ⟨c0, c1, c2, c3, c4⟩ := (HC.out _ kk).1
    go_upto_region 3 with fail
    go_cut [4] (fun c wx => c = .string (BD 0) ∧ Below W.heap.size W wx)
    case first =>
      clear k1 HIN HST HBD HSE HDE HR
      go_region_held3 (fun x => x.cell? ⟨g, 0, none⟩ = some (.int .i64 st) ∧ x.cell? ⟨g, 1, none⟩ = some (.int .i64 ng) ∧ x.cell? ⟨g, 2, none⟩ = some (.int .i64 ns) ∧ x.cell? ⟨g, 3, none⟩ = some (.int .i64 nv) ∧ x.cell? ⟨g, 4, none⟩ = some (.slice a n cap))
        (first | exact (HC.out _ kk).1)
        (first
          | (go_at_call 62; first
            | (with_reducible refine (HL1.out _).mono ?_; rintro e wX ⟨rfl, kX⟩; have kk := kk.trans (kX.mono kk.size); clear kX)
            | (with_reducible refine (HL2.out _).mono ?_; rintro e wX ⟨rfl, kX⟩; have kk := kk.trans (kX.mono kk.size); clear kX)
            | (with_reducible refine (HL3.out _).mono ?_; rintro e wX ⟨rfl, kX⟩; have kk := kk.trans (kX.mono kk.size); clear kX)
            | (with_reducible refine (HL4.out _).mono ?_; rintro e wX ⟨rfl, kX⟩; have kk := kk.trans (kX.mono kk.size); clear kX)
            | (with_reducible refine (HL5.out _).mono ?_; rintro e wX ⟨rfl, kX⟩; have kk := kk.trans (kX.mono kk.size); clear kX)))
      all_goals
        go_wp2_with fail
        go_meet
        exact ⟨by rw [HZ.out], kk⟩
    case rest =>
      obtain ⟨rfl, k2⟩ := hcut
      clear c0 c1 c2 c3 c4 ad1 ad2 ad3 ad4 HL1 HL2 HL3 HL4 HL5 kk k1
      go_wp2_with fail
      go_loopw [4, 5] (fun sv iv wr => ∃ i : Nat, i ≤ n ∧ iv = .int .i64 (i : Int) ∧ sv = .string (BD i) ∧ Below W.heap.size W wr) (fun _ iv _ => n - (intOf iv).toNat)
      case atStart => exact ⟨0, by omega, rfl, rfl, k2⟩
      case round =>
        clear k2
        obtain ⟨i, hi, rfl, rfl, bq⟩ := hrel
        obtain ⟨⟨c0, c1, c2, c3, c4⟩, bw⟩ := HC.out _ bq
        by_cases hlt : i < n
        · obtain ⟨r, hgr⟩ : ∃ r, rs[i]? = some r := ⟨_, List.getElem?_eq_getElem (by rw [HN.out]; exact hlt)⟩
          have hin := HIN.out HOK.out i r hgr
          have HS := Lib.hid (HST.out i r hgr)
          have hbl := HBD.out HOK.out i (by omega)
          have HROW : Hid (∀ X, Below w.heap.size w X → ∃ g off, a = some ⟨g, off, none⟩ ∧ X.cell? ⟨g, off + i * 2, none⟩ = some (.int .i64 r.1) ∧ X.cell? ⟨g, off + i * 2 + 1, none⟩ = some (.int .i64 r.2)) := fun X hX => HR.out X hX i r hgr
          clear hgr
          obtain ⟨rN, rG⟩ := r
          simp only at hin HS HROW
          have HL1 := Lib.hid (fun x => l01VarZ_any rN x (by omega) (by omega))
          have HL2 := Lib.hid (fun x => l01VarZ_any rG x (by omega) (by omega))
          have z1 := vtB_five (n := rN.toNat) (by omega)
          have z2 := vtB_five (n := rG.toNat) (by omega)
          obtain ⟨V1, hV1⟩ : ∃ V, vtB rN.toNat = V := ⟨_, rfl⟩
          obtain ⟨V2, hV2⟩ : ∃ V, vtB rG.toNat = V := ⟨_, rfl⟩
          rw [hV1] at HL1 z1 HS
          rw [hV2] at HL2 z2 HS
          clear hV1 hV2
          obtain ⟨B1, hB1⟩ : ∃ B, BD (i + 1) = B := ⟨_, rfl⟩
          rw [hB1] at HS
          have HB1 := Lib.hid hB1
          clear hB1
          generalize BD i = B0 at HS hbl
          have ad1 := fun wx => run_string_add_sum (P := Tryz.prog) (w := wx) B0 V1 (by omega)
          have y1 : (B0 ++ V1).size ≤ 1000 := by rw [ByteArray.size_append]; omega
          obtain ⟨U1, hU1⟩ : ∃ U, B0 ++ V1 = U := ⟨_, rfl⟩
          rw [hU1] at ad1 y1 HS
          have ad2 := fun wx => run_string_add_sum (P := Tryz.prog) (w := wx) U1 V2 (by omega)
          obtain ⟨U2, hU2⟩ : ∃ U, U1 ++ V2 = U := ⟨_, rfl⟩
          rw [hU2] at ad2 HS
          clear hU1 hU2 y1 z1 z2
          have hi0 : (0 : Int) ≤ (i : Int) := by omega
          have hi1 : (i : Int) < (n : Int) := by omega
          have kk : Below W.heap.size W wr.drew := bq.drew
          obtain ⟨gp, op, rfl, _, _⟩ := HROW.out _ bw
          have HX : Hid (∀ X, Below W.heap.size W X → (X.cell? ⟨g, 4, none⟩ = some (.slice (some ⟨gp, op, none⟩) n cap) ∧ X.cell? ⟨gp, op + i * 2, none⟩ = some (.int .i64 rN) ∧ X.cell? ⟨gp, op + i * 2 + 1, none⟩ = some (.int .i64 rG))) := fun X hX => by
            obtain ⟨⟨_, _, _, _, e4⟩, bX⟩ := HC.out X hX
            obtain ⟨_, _, e0, q0, q1⟩ := HROW.out X bX
            cases e0
            exact ⟨e4, q0, q1⟩
          obtain ⟨d0, d1, d2⟩ := HX.out _ kk
          go_upto_region 7 with fail
          clear HR HIN HST HBD HSE HDE HROW HZ HE c0 c1 c2 c3 c4 bq bw
          go_region_held3 (fun X => X.cell? ⟨g, 4, none⟩ = some (.slice (some ⟨gp, op, none⟩) n cap) ∧ X.cell? ⟨gp, op + i * 2, none⟩ = some (.int .i64 rN) ∧ X.cell? ⟨gp, op + i * 2 + 1, none⟩ = some (.int .i64 rG))
            (first | exact HX.out _ kk)
            (first
              | (go_at_call 62; first
                | (with_reducible refine (HL1.out _).mono ?_; rintro e wX ⟨rfl, kX⟩; have kk := kk.trans (kX.mono kk.size); clear kX)
                | (with_reducible refine (HL2.out _).mono ?_; rintro e wX ⟨rfl, kX⟩; have kk := kk.trans (kX.mono kk.size); clear kX)))
          all_goals
            clear d0 d1 d2
            go_wp2_with fail
            go_roundw
            case rel => exact ⟨i + 1, by omega, by go_num, by rw [HB1.out, HS.out], kk⟩
            case measure => simp [intOf]; omega
        · have hge : ¬ (i : Int) < (n : Int) := by omega
          have hin : i = n := by omega
          obtain ⟨s1, s2, s3⟩ := HSE.out HOK.out
          rw [hin] at hge ⊢
          obtain ⟨hd1, hd2⟩ := HDE.out
          obtain ⟨BN, hBN⟩ : ∃ B, BD n = B := ⟨_, rfl⟩
          rw [hBN] at s1 hd1 ⊢
          have HSEL := Lib.hid (seT_yes (s := BN) (by omega))
          rw [← hd1] at HSEL
          have HSS := Lib.hid (fun x => specSealed_any BN x (by omega))
          have HSH := Lib.hid (fun x => specShortB_any SE x (by omega))
          rw [← hd2] at HSH
          have h128 : ¬ (128 : Int) < (TX.size : Int) := by omega
          have HBW := Lib.hid bw
          clear hd1 hd2 hBN bq bw s1 s2 hin HSE HDE HBD HIN HST HZ
          go_wp2_with (first
            | (go_at_call 61; refine (HSS.out _).mono ?_; rintro e w8 ⟨rfl, k8⟩; rw [HSEL.out])
            | (go_at_call 65; refine (HSH.out _).mono ?_; rintro e w9 ⟨rfl, k9⟩))
          go_ret2
          have bE := (HBW.out.trans (k8.mono HBW.out.size)).trans (k9.mono (HBW.out.trans (k8.mono HBW.out.size)).size)
          exact ⟨by rw [HE.out]; rfl, by first | exact bE | (rw [← HG.out]; exact bE)⟩

end Go.Proofs.YtgcnebepklelpaaGreatDoor

/- WriteBytes of the model beyond the disk. -/
namespace Go.Proofs.YtgcnebepklelpaaGreatDoor
open Go.RowKit

set_option maxRecDepth 100000 in
set_option maxHeartbeats 600000 in
theorem specWriteBytes_far (d : Dk) (v : Value) (se : Nat) (t : ByteArray) (B T : Nat) (w : World) (h : DOwn B T w v d) (hok : d.ok) (hse : ¬ se < d.sec.length) :
    Calls Tryz.prog 42 #[v, .int .i64 (se : Int), .int .i64 0, .string t] w fun e w' => DiskR d false w e w' := by
  obtain ⟨aa, ab, ca, cb, rfl⟩ := h.form
  obtain ⟨hsm, hts, htu⟩ := Dk.ok_small hok
  obtain ⟨hx0, hx1, b0, hsz⟩ := two_boxes w #[.slice aa d.sec.length ca, .slice ab d.cache.length cb] #[.slice none 0 0, .slice none 0 0] 25 25
  have h' := h.later b0
  have hl100 := hok.2.1
  have g4 : ¬ ((0 : Int) ≤ (se : Int) ∧ (se : Int) ≤ (d.sec.length : Int) - 1) := by omega
  go_enter Tryz.func42, Tryz.ntmps42
  go_wp2_with fail
  generalize ((w.alloc (.cells #[.slice aa d.sec.length ca, .slice ab d.cache.length cb] 25)).alloc (.cells #[.slice none 0 0, .slice none 0 0] 25)) = W at hx0 hx1 b0 hsz h' ⊢
  refine (specCopy_any d _ B T _ h' hsm).mono ?_
  rintro e w2 ⟨v2, rfl, o2, k2⟩
  obtain ⟨a1, a2, q1, q2, rfl⟩ := o2.form
  have k3 := belNew w2 (.cells #[.slice a1 d.sec.length q1, .slice a2 d.cache.length q2] 25)
  have XO := Box.new w2 #[.slice a1 d.sec.length q1, .slice a2 d.cache.length q2] 25
  have j3 := k2.trans (k3.mono k2.size)
  have hzW := b0.size
  replace hx0 := hx0.later j3
  replace hx1 := hx1.later j3
  have o3 := o2.later k3
  have b3 := b0.trans (j3.mono b0.size)
  go_upto_region 2 with fail
  generalize w2.alloc (.cells #[.slice a1 d.sec.length q1, .slice a2 d.cache.length q2] 25) = w3 at hx0 hx1 XO o3 b3 ⊢
  clear k3 j3 o2 k2 h' h
  generalize w2.heap.size = g2 at XO o3 ⊢
  have c0 := hx0.cell 0 (.slice aa d.sec.length ca) rfl
  obtain ⟨z0, z1⟩ : _ ∧ _ := ⟨XO.cell 0 _ rfl, XO.cell 1 _ rfl⟩
  obtain ⟨x0, x1, f0, f1⟩ : _ ∧ _ ∧ _ ∧ _ := ⟨hx1.cell 0 _ rfl, hx1.cell 1 _ rfl, hx1.loose 0, hx1.loose 1⟩
  have rX := (hx1.set 0 (.slice a1 d.sec.length q1)).set 1 (.slice a2 d.cache.length q2)
  have HR : Hid (DiskR d false w (.returned (.tuple #[.agg #[.slice a1 d.sec.length q1, .slice a2 d.cache.length q2], .bool false])) ((w3.setCell ⟨w.heap.size + 1, 0, none⟩ (.slice a1 d.sec.length q1)).setCell ⟨w.heap.size + 1, 1, none⟩ (.slice a2 d.cache.length q2))) := by
    refine ⟨_, rfl, ?_, (b3.setCell (p := ⟨w.heap.size + 1, 0, none⟩) (by simp) _).setCell (p := ⟨w.heap.size + 1, 1, none⟩) (by simp) _⟩
    have := (((o3.base hzW).boxStore hx1 0 (.slice a1 d.sec.length q1)).boxStore (hx1.set 0 (.slice a1 d.sec.length q1)) 1 (.slice a2 d.cache.length q2)).top
    simpa using this
  have q0 := rX.cell 0 (.slice a1 d.sec.length q1) rfl
  have q3 := rX.cell 1 (.slice a2 d.cache.length q2) rfl
  clear rX o3 hx0 hx1 XO b3
  go_wp2_with (first
    | (go_at_call 17; refine (in_yes _ _ _ _ (by omega) (by omega)).mono ?_; rintro e w5 ⟨rfl, rfl⟩)
    | (go_at_call 17; refine (in_no _ _ _ _ (by omega)).mono ?_; rintro e w5 ⟨rfl, rfl⟩))
  refine bodyPost_ret (v := .tuple #[.agg #[.slice a1 d.sec.length q1, .slice a2 d.cache.length q2], .bool false]) (by simp [results, Tryz.results42, go_sem, q0, q3]) rfl ?_
  exact HR.out


end Go.Proofs.YtgcnebepklelpaaGreatDoor

/- WriteCheck of the model. -/
namespace Go.Proofs.YtgcnebepklelpaaGreatDoor
open Go.RowKit

theorem specWriteBytes_at (d : Dk) (v : Value) (c : Ck) (hc : (ckTx c).size ≤ 1000000) (B T : Nat) (w : World) (h : DOwn B T w v d) (hok : d.ok) :
    Calls Tryz.prog 42 #[v, .int .i64 (regN c : Int), .int .i64 0, .string (ckTx c)] w fun e w' => ∃ (d' : Dk) (f : Bool), (f = true → regN c < d.sec.length ∧ wbL d (regN c) 0 (ckTx c).data.toList = some d') ∧ (f = false → ¬ regN c < d.sec.length ∨ wbL d (regN c) 0 (ckTx c).data.toList = none) ∧ DiskR d' f w e w' := by
  by_cases hse : regN c < d.sec.length
  · refine (specWriteBytes_wb d v (regN c) 0 (ckTx c) B T w h hok hse (by omega) hc).mono ?_
    rintro e w' ⟨d', f, _, _, _, h1, _, hr⟩
    simp only [Nat.zero_div, Nat.add_zero, Nat.zero_mod] at h1
    cases f with
    | false => exact ⟨d', false, (fun e => by cases e), fun _ => .inr (by simpa using h1), hr⟩
    | true => exact ⟨d', true, fun _ => ⟨hse, by simpa using h1⟩, (fun e => by cases e), hr⟩
  · exact (specWriteBytes_far d v (regN c) (ckTx c) B T w h hok hse).mono fun e w' hr => ⟨d, false, (fun e => by cases e), fun _ => .inl hse, hr⟩

set_option maxRecDepth 100000 in
set_option maxHeartbeats 2000000 in
theorem specWriteCheck_any (d : Dk) (c : Ck) (v : Value) (a : Option Addr) (cap B T : Nat) (w : World) (h : DOwn B T w v d) (hsm : d.small) (hts : ∀ s ∈ d.sec, s.size ≤ 1099511627776) (htu : ∀ x ∈ d.cache, x.text.size ≤ 1099511627776) (hr : Rows' rfE w (.slice a c.refs.length cap) c.refs) (hl : c.refs.length ≤ 1048576) :
    Calls Tryz.prog 20 #[v, .agg #[.int .i64 c.st, .int .i64 c.ng, .int .i64 c.ns, .int .i64 c.nv, .slice a c.refs.length cap]] w fun e w' => DiskR ((wcO d c).getD d) (wcO d c).isSome w e w' := by
  obtain ⟨aa, ab, ca, cb, rfl⟩ := h.form
  obtain ⟨X0, X1, X2, b0, hsz⟩ := three_boxes w #[.slice aa d.sec.length ca, .slice ab d.cache.length cb] #[.int .i64 c.st, .int .i64 c.ng, .int .i64 c.ns, .int .i64 c.nv, .slice a c.refs.length cap] #[.slice none 0 0, .slice none 0 0] 25 51 25
  have h' := h.later b0
  have HTX := Lib.hid (specCheckText_any c a cap _ (hr.later b0) hl)
  have HOKS : Hid (ckB c = true → (IntKind.i64.wrap (Int.tmod c.st 2) = ((c.st % 2).toNat : Int) ∧ Int.tmod c.st 2 = ((c.st % 2).toNat : Int)) ∧ IntKind.i64.wrap (4 * ((c.st % 2).toNat : Int)) = (regN c : Int) ∧ 4 * ((c.st % 2).toNat : Int) = (regN c : Int) ∧ (ckTx c).size ≤ 1000000) := fun hb => by
    have hok := ckB_iff.1 hb
    have hst : 1 ≤ c.st := hok.1.1.1
    have e1 : Int.tmod c.st 2 = c.st % 2 := Int.tmod_eq_emod_of_nonneg (by omega)
    have := (ckSe_len hok).2.2
    refine ⟨⟨?_, by rw [e1]; omega⟩, ?_, by unfold regN; omega, by omega⟩
    · rw [e1, IntWalk.i64_in _ ⟨by omega, by omega⟩]; omega
    · rw [IntWalk.i64_in _ ⟨by omega, by omega⟩]; unfold regN; omega
  clear h hr hl
  obtain ⟨O, hO⟩ : ∃ O, wcO d c = O := ⟨_, rfl⟩
  have HO := Lib.hid hO
  rw [hO]
  clear hO
  obtain ⟨n, hn⟩ : ∃ n, c.refs.length = n := ⟨_, rfl⟩
  rw [hn] at X1 HTX X0 X2 b0 hsz h' ⊢
  clear hn
  obtain ⟨y0, y1, y2, y3, y4⟩ := X1.fiveW
  go_enter Tryz.func20, Tryz.ntmps20
  go_wp2_with fail
  clear y0 y1 y2 y3 y4
  generalize (((w.alloc (.cells #[.slice aa d.sec.length ca, .slice ab d.cache.length cb] 25)).alloc (.cells #[.int .i64 c.st, .int .i64 c.ng, .int .i64 c.ns, .int .i64 c.nv, .slice a n cap] 51)).alloc (.cells #[.slice none 0 0, .slice none 0 0] 25)) = W at X0 X1 X2 b0 hsz h' HTX ⊢
  refine HTX.out.mono ?_
  rintro e w1 ⟨rfl, k1⟩
  clear HTX
  replace X0 := X0.later k1
  replace X1 := X1.later k1
  replace X2 := X2.later k1
  replace h' := h'.later k1
  have b1 := b0.trans (k1.mono b0.size)
  clear b0 hsz k1
  have HCOPY : Hid (∀ (x : World), Below w1.heap.size w1 x → Box x w.heap.size #[.slice aa d.sec.length ca, .slice ab d.cache.length cb] 25 ∧ Box x (w.heap.size + 2) #[.slice none 0 0, .slice none 0 0] 25 ∧ Box x (w.heap.size + 1) #[.int .i64 c.st, .int .i64 c.ng, .int .i64 c.ns, .int .i64 c.nv, .slice a n cap] 51 ∧ DOwn B T x (.agg #[.slice aa d.sec.length ca, .slice ab d.cache.length cb]) d ∧ Below w.heap.size w x) := fun x hx => ⟨X0.later hx, X2.later hx, X1.later hx, h'.later hx, b1.trans (hx.mono b1.size)⟩
  have HEND : Hid (∀ (E : Dk) (f : Bool) (p1 p2 : Option Addr) (r1 r2 C : Nat) (x : World), w.heap.size ≤ C → Box x (w.heap.size + 2) #[.slice none 0 0, .slice none 0 0] 25 → Below w.heap.size w x → DOwn C x.heap.size x (.agg #[.slice p1 E.sec.length r1, .slice p2 E.cache.length r2]) E → DiskR E f w (.returned (.tuple #[.agg #[.slice p1 E.sec.length r1, .slice p2 E.cache.length r2], .bool f])) ((x.setCell ⟨w.heap.size + 2, 0, none⟩ (.slice p1 E.sec.length r1)).setCell ⟨w.heap.size + 2, 1, none⟩ (.slice p2 E.cache.length r2))) := by
    intro E f p1 p2 r1 r2 C x hC xX bX oX
    refine ⟨_, rfl, ?_, (bX.setCell (p := ⟨w.heap.size + 2, 0, none⟩) (by simp) _).setCell (p := ⟨w.heap.size + 2, 1, none⟩) (by simp) _⟩
    have := ((oX.base hC).boxStore xX 0 (.slice p1 E.sec.length r1)).boxStore (xX.set 0 (.slice p1 E.sec.length r1)) 1 (.slice p2 E.cache.length r2)
    simpa using this
  cases hcb : ckB c with
  | false =>
    have HOO : Hid (O = none) := HO.out.symm.trans (wcO_bad (d := d) hcb)
    rw [ctT_no hcb]
    clear hcb HOKS X1
    obtain ⟨m0, m1⟩ : _ ∧ _ := ⟨X0.cell 0 _ rfl, X0.cell 1 _ rfl⟩
    clear X0 X2
    go_wp2_with fail
    clear m0 m1
    refine (specCopy_any d _ B T _ h' hsm).mono ?_
    rintro e wX ⟨vX, rfl, oX, kX⟩
    obtain ⟨p1, p2, r1, r2, rfl⟩ := oX.form
    obtain ⟨_, xX, _, _, bX⟩ := HCOPY.out _ kX
    obtain ⟨x0, x1, f0, f1⟩ : _ ∧ _ ∧ _ ∧ _ := ⟨xX.cell 0 _ rfl, xX.cell 1 _ rfl, xX.loose 0, xX.loose 1⟩
    have rX := (xX.set 0 (.slice p1 d.sec.length r1)).set 1 (.slice p2 d.cache.length r2)
    have HR := Lib.hid (HEND.out d false p1 p2 r1 r2 _ wX b1.size xX bX oX)
    have q0 := rX.cell 0 (.slice p1 d.sec.length r1) rfl
    have q1 := rX.cell 1 (.slice p2 d.cache.length r2) rfl
    clear rX oX kX xX h' HEND HCOPY bX
    go_wp2
    refine bodyPost_ret (v := .tuple #[.agg #[.slice p1 d.sec.length r1, .slice p2 d.cache.length r2], .bool false]) (by simp [results, Tryz.results20, go_sem, q0, q1]) rfl ?_
    rw [HOO.out]; exact HR.out
  | true =>
    rw [ctT_yes hcb]
    obtain ⟨⟨hm1, hm2⟩, hm3, hm4, hcz⟩ := HOKS.out hcb
    have HCB := Lib.hid hcb
    have HDO := Lib.hid (specDiskOk_any d _ _ h'.rd hsm hts htu)
    obtain ⟨m0, m1⟩ : _ ∧ _ := ⟨X0.cell 0 _ rfl, X0.cell 1 _ rfl⟩
    clear X0 X1 X2 hcb HOKS
    by_cases hok : d.ok
    case neg =>
      have HOO : Hid (O = none) := HO.out.symm.trans (wcO_not (c := c) hok)
      rw [decide_eq_false hok] at HDO
      clear hok
      go_wp2_with fail
      clear m0 m1
      refine HDO.out.mono ?_
      rintro e w2 ⟨rfl, k2⟩
      clear HDO
      obtain ⟨X0, _, _, h2, b2⟩ := HCOPY.out _ k2
      obtain ⟨m0, m1⟩ : _ ∧ _ := ⟨X0.cell 0 _ rfl, X0.cell 1 _ rfl⟩
      clear X0
      go_wp2_with fail
      clear m0 m1
      refine (specCopy_any d _ B T _ h2 hsm).mono ?_
      rintro e wX ⟨vX, rfl, oX, kX⟩
      obtain ⟨p1, p2, r1, r2, rfl⟩ := oX.form
      obtain ⟨_, xX, _, _, bX⟩ := HCOPY.out _ (k2.trans (kX.mono k2.size))
      obtain ⟨x0, x1, f0, f1⟩ : _ ∧ _ ∧ _ ∧ _ := ⟨xX.cell 0 _ rfl, xX.cell 1 _ rfl, xX.loose 0, xX.loose 1⟩
      have rX := (xX.set 0 (.slice p1 d.sec.length r1)).set 1 (.slice p2 d.cache.length r2)
      have HR := Lib.hid (HEND.out d false p1 p2 r1 r2 _ wX b2.size xX bX oX)
      have q0 := rX.cell 0 (.slice p1 d.sec.length r1) rfl
      have q1 := rX.cell 1 (.slice p2 d.cache.length r2) rfl
      clear rX oX kX xX h' HEND HCOPY bX h2
      go_wp2
      refine bodyPost_ret (v := .tuple #[.agg #[.slice p1 d.sec.length r1, .slice p2 d.cache.length r2], .bool false]) (by simp [results, Tryz.results20, go_sem, q0, q1]) rfl ?_
      rw [HOO.out]; exact HR.out
    rw [decide_eq_true hok] at HDO
    have HWB := Lib.hid (fun (x : World) (hx : DOwn B T x (.agg #[.slice aa d.sec.length ca, .slice ab d.cache.length cb]) d) => specWriteBytes_at d _ c hcz B T x hx hok)
    obtain ⟨tx, htx⟩ : ∃ tx, ckTx c = tx := ⟨_, rfl⟩
    have HTX := Lib.hid htx
    obtain ⟨rN, hrN⟩ : ∃ rN, regN c = rN := ⟨_, rfl⟩
    have HRN := Lib.hid hrN
    obtain ⟨st, hst⟩ : ∃ st, c.st = st := ⟨_, rfl⟩
    rw [htx, hrN] at HWB
    rw [hrN] at hm3 hm4
    rw [hst] at HCOPY hm1 hm2 hm3 hm4
    rw [htx]
    generalize (((st % 2).toNat : Nat) : Int) = rgi at hm1 hm2 hm3 hm4
    have hrb : rN ≤ 4 := by rw [← HRN.out]; unfold regN; omega
    have hm5 : wrap64 (rN : Int) = (rN : Int) := by unfold wrap64; omega
    clear hrb
    have HOK := Lib.hid hok
    clear htx hrN hst hcz hok
    go_wp2_with fail
    clear m0 m1
    refine HDO.out.mono ?_
    rintro e w2 ⟨rfl, k2⟩
    clear HDO
    obtain ⟨X0, _, X1, h2, b2⟩ := HCOPY.out _ k2
    obtain ⟨m0, m1⟩ : _ ∧ _ := ⟨X0.cell 0 _ rfl, X0.cell 1 _ rfl⟩
    have y0 := X1.cell 0 _ rfl
    clear X0 X1
    go_wp2_with fail
    clear m0 m1 y0
    refine (HWB.out _ h2).mono ?_
    rintro e w3 ⟨D, F, hF1, hF2, v3, rfl, o3, k3⟩
    obtain ⟨e1, e2, e3, e4, rfl⟩ := o3.form
    have k4 := belNew w3 (.cells #[.slice e1 D.sec.length e3, .slice e2 D.cache.length e4] 25)
    have XO := Box.new w3 #[.slice e1 D.sec.length e3, .slice e2 D.cache.length e4] 25
    have k23 := k2.trans (k3.mono k2.size)
    have j4 := k23.trans (k4.mono k23.size)
    have o4 := o3.later k4
    clear HWB k3 k4 o3 h2 hm1 hm2 hm3 hm4 hm5 k23
    cases F with
    | false =>
      have HB : wcO d c = none := by
        rcases hF2 rfl with hx | hx
        · exact wcO_far (by rw [HRN.out]; exact hx)
        · exact wcO_none (by rw [HRN.out, HTX.out]; exact hx)
      have HOO : Hid (O = none) := HO.out.symm.trans HB
      clear HB hF1 hF2 XO o4
      obtain ⟨X0, _, _, h2, b4⟩ := HCOPY.out _ j4
      obtain ⟨m0, m1⟩ : _ ∧ _ := ⟨X0.cell 0 _ rfl, X0.cell 1 _ rfl⟩
      clear X0
      go_upto_region 5 with fail
      generalize w3.alloc (.cells #[.slice e1 D.sec.length e3, .slice e2 D.cache.length e4] 25) = w4 at j4 h2 b4 m0 m1 ⊢
      go_wp2_with fail
      clear m0 m1
      refine (specCopy_any d _ B T _ h2 hsm).mono ?_
      rintro e wX ⟨vX, rfl, oX, kX⟩
      obtain ⟨p1, p2, r1, r2, rfl⟩ := oX.form
      obtain ⟨_, xX, _, _, bX⟩ := HCOPY.out _ (j4.trans (kX.mono j4.size))
      obtain ⟨x0, x1, f0, f1⟩ : _ ∧ _ ∧ _ ∧ _ := ⟨xX.cell 0 _ rfl, xX.cell 1 _ rfl, xX.loose 0, xX.loose 1⟩
      have rX := (xX.set 0 (.slice p1 d.sec.length r1)).set 1 (.slice p2 d.cache.length r2)
      have HR := Lib.hid (HEND.out d false p1 p2 r1 r2 _ wX b4.size xX bX oX)
      have q0 := rX.cell 0 (.slice p1 d.sec.length r1) rfl
      have q1 := rX.cell 1 (.slice p2 d.cache.length r2) rfl
      clear rX oX kX xX h' HEND HCOPY bX h2
      go_wp2
      refine bodyPost_ret (v := .tuple #[.agg #[.slice p1 d.sec.length r1, .slice p2 d.cache.length r2], .bool false]) (by simp [results, Tryz.results20, go_sem, q0, q1]) rfl ?_
      rw [HOO.out]; exact HR.out
    | true =>
      obtain ⟨hlt, hwb⟩ := hF1 rfl
      have HDS : wcO d c = some (flD D) := wcO_some HCB.out (by rw [HRN.out]; exact hlt) (by rw [HRN.out, HTX.out]; exact hwb)
      have HOO : Hid (O = some (flD D)) := HO.out.symm.trans HDS
      have hDok := (wbL_ok _ _ (Nat.le_refl _) d D _ _ (by omega) HOK.out hwb).1
      obtain ⟨hsD, htD, huD⟩ := Dk.ok_small hDok
      have HFL := Lib.hid (specFlushDisk_any D _ _ _ _ o4 hsD htD huD)
      obtain ⟨z0, z1⟩ : _ ∧ _ := ⟨XO.cell 0 _ rfl, XO.cell 1 _ rfl⟩
      obtain ⟨_, _, _, _, b4⟩ := HCOPY.out _ j4
      clear hF1 hF2 hwb hlt hDok hsD htD huD o4 XO HDS
      generalize flD D = E at HFL HOO
      go_upto_region 5 with fail
      generalize w3.alloc (.cells #[.slice e1 D.sec.length e3, .slice e2 D.cache.length e4] 25) = w4 at j4 HFL b4 z0 z1 ⊢
      generalize w3.heap.size = g3 at z0 z1 ⊢
      go_wp2_with fail
      clear z0 z1
      refine HFL.out.mono ?_
      rintro e wX ⟨vX, rfl, oX, kX⟩
      obtain ⟨p1, p2, r1, r2, rfl⟩ := oX.form
      obtain ⟨_, xX, _, _, bX⟩ := HCOPY.out _ (j4.trans (kX.mono j4.size))
      obtain ⟨x0, x1, f0, f1⟩ : _ ∧ _ ∧ _ ∧ _ := ⟨xX.cell 0 _ rfl, xX.cell 1 _ rfl, xX.loose 0, xX.loose 1⟩
      have rX := (xX.set 0 (.slice p1 E.sec.length r1)).set 1 (.slice p2 E.cache.length r2)
      have HR := Lib.hid (HEND.out E true p1 p2 r1 r2 _ wX b4.size xX bX oX)
      have q0 := rX.cell 0 (.slice p1 E.sec.length r1) rfl
      have q1 := rX.cell 1 (.slice p2 E.cache.length r2) rfl
      clear rX oX kX xX h' HEND HCOPY bX
      go_wp2
      refine bodyPost_ret (v := .tuple #[.agg #[.slice p1 E.sec.length r1, .slice p2 E.cache.length r2], .bool true]) (by simp [results, Tryz.results20, go_sem, q0, q1]) rfl ?_
      rw [HOO.out]; exact HR.out

end Go.Proofs.YtgcnebepklelpaaGreatDoor
