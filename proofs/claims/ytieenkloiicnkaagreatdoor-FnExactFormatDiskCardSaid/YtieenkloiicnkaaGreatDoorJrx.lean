/- Texts of our own, joined. -/
import Derived.Test.YtieenkloiicnkaaGreatDoorJy
/- CheckOf of the program. -/
namespace Go.Proofs.YtieenkloiicnkaaGreatDoor
open Go.RowKit

set_option maxRecDepth 100000 in
set_option maxHeartbeats 4000000 in
theorem implCheckOf_any (L : Lg) (v : Value) (w : World) (h : LRd w v L) (hl : L.used.length ≤ 1048576) :
    Calls Tryz.prog 105 #[v] w fun e w' => ∃ (a : Option Addr) (cap : Nat), e = .returned (.agg #[.int .i64 (ckOf L).st, .int .i64 (ckOf L).ng, .int .i64 (ckOf L).ns, .int .i64 (ckOf L).nv, .slice a (ckOf L).refs.length cap]) ∧ RBuf rfE w.heap.size w w' (.slice a (ckOf L).refs.length cap) (ckOf L).refs := by
  obtain ⟨va, vb, vu, rfl, _, hu⟩ := h
  obtain ⟨ad, cap, rfl, hrow⟩ := hu.segs
  have HR : Hid _ := hrow
  clear hu hrow
  have HF : Hid (ckOf L = ⟨IntKind.i64.wrap (L.st + 1), L.ng, L.ns, L.nv, (L.used.take L.used.length).map (fun s => (s.no, s.gen))⟩) := by show _ = _; rw [List.take_length]; rfl
  obtain ⟨d, segs, us, ng, ns, st, nv⟩ := L
  generalize ckOf ⟨d, segs, us, ng, ns, st, nv⟩ = C at HF ⊢
  simp only at HR HF hl ⊢
  obtain ⟨n, hn⟩ : ∃ n, us.length = n := ⟨_, rfl⟩
  rw [hn] at hl HF ⊢
  have HN := Lib.hid hn
  clear hn
  obtain ⟨S, hS⟩ : ∃ S, IntKind.i64.wrap (st + 1) = S := ⟨_, rfl⟩
  have hS2 := hS
  rw [hS] at HF
  have X1 := Box.new w #[va, vb, .int .i64 segs, .slice ad n cap, .int .i64 ng, .int .i64 ns, .int .i64 st, .int .i64 nv] 55
  have k1 := belNew w (.cells #[va, vb, .int .i64 segs, .slice ad n cap, .int .i64 ng, .int .i64 ns, .int .i64 st, .int .i64 nv] 55)
  obtain ⟨w1, hw1⟩ : ∃ y, w.alloc (.cells #[va, vb, .int .i64 segs, .slice ad n cap, .int .i64 ng, .int .i64 ns, .int .i64 st, .int .i64 nv] 55) = y := ⟨_, rfl⟩
  have z1 : w1.heap.size = w.heap.size + 1 := by rw [← hw1]; simp
  have X2 := Box.new w1 #[.int .i64 0, .int .i64 0, .int .i64 0, .int .i64 0, .slice none 0 0] 48
  have k2 := belNew w1 (.cells #[.int .i64 0, .int .i64 0, .int .i64 0, .int .i64 0, .slice none 0 0] 48)
  obtain ⟨w2, hw2⟩ : ∃ y, w1.alloc (.cells #[.int .i64 0, .int .i64 0, .int .i64 0, .int .i64 0, .slice none 0 0] 48) = y := ⟨_, rfl⟩
  have z2 : w2.heap.size = w.heap.size + 2 := by rw [← hw2]; simp; omega
  have X3 := Box.new w2 #[.int .i64 S, .int .i64 ng, .int .i64 ns, .int .i64 nv, .slice none 0 0] 48
  have k3 := belNew w2 (.cells #[.int .i64 S, .int .i64 ng, .int .i64 ns, .int .i64 nv, .slice none 0 0] 48)
  obtain ⟨w3, hw3⟩ : ∃ y, w2.alloc (.cells #[.int .i64 S, .int .i64 ng, .int .i64 ns, .int .i64 nv, .slice none 0 0] 48) = y := ⟨_, rfl⟩
  have z3 : w3.heap.size = w.heap.size + 3 := by rw [← hw3]; simp; omega
  rw [hw1] at k1 X1
  rw [hw2] at k2 X2
  rw [hw3] at k3 X3
  rw [z1] at X2
  rw [z2] at X3
  have I0 : CkL w w3.heap.size w.heap.size (w.heap.size + 1) (w.heap.size + 2) 55 48 #[va, vb, .int .i64 segs, .slice ad n cap, .int .i64 ng, .int .i64 ns, .int .i64 st, .int .i64 nv] S ng ns nv w3 none 0 0 [] :=
    ⟨(X1.later k2).later k3, X2.later k3, X3, RBuf.nil rfE w3, (k1.trans (k2.mono k1.size)).trans (k3.mono (k1.trans (k2.mono k1.size)).size), ⟨by omega, by omega⟩, ⟨by omega, by omega, by omega⟩⟩
  have HI0 := Lib.hid I0
  have HB : Hid (w.heap.size ≤ w3.heap.size) := by show _ ≤ _; omega
  obtain ⟨B, hB⟩ : ∃ B, w3.heap.size = B := ⟨_, rfl⟩
  rw [hB] at HI0 HB
  have HW : Hid (((w.alloc (.cells #[va, vb, .int .i64 segs, .slice ad n cap, .int .i64 ng, .int .i64 ns, .int .i64 st, .int .i64 nv] 55)).alloc (.cells #[.int .i64 0, .int .i64 0, .int .i64 0, .int .i64 0, .slice none 0 0] 48)).alloc (.cells #[.int .i64 S, .int .i64 ng, .int .i64 ns, .int .i64 nv, .slice none 0 0] 48) = w3) := by show _ = _; rw [hw1, hw2, hw3]
  clear X1 X2 X3 k1 k2 k3 z1 z2 z3 hw1 hw2 hw3 I0 hB hS
  go_enter Tryz.func105, Tryz.ntmps105
  go_wp2_with fail
  rw [HW.out]
  clear HW hS2
  go_loopw [19] (fun iv wr => ∃ (i : Nat) (a : Option Addr) (c : Nat), i ≤ n ∧ iv = .int .i64 (i : Int) ∧ CkL w B w.heap.size (w.heap.size + 1) (w.heap.size + 2) 55 48 #[va, vb, .int .i64 segs, .slice ad n cap, .int .i64 ng, .int .i64 ns, .int .i64 st, .int .i64 nv] S ng ns nv wr a i c ((us.take i).map (fun s => (s.no, s.gen)))) (fun iv _ => n - (intOf iv).toNat)
  case atStart => exact ⟨0, none, 0, by omega, rfl, HI0.out⟩
  case round =>
    clear HI0
    obtain ⟨i, a, c, hi, rfl, I⟩ := hrel
    by_cases hlt : i < n
    · obtain ⟨s, hgs⟩ : ∃ s, us[i]? = some s := ⟨_, List.getElem?_eq_getElem (by rw [HN.out]; exact hlt)⟩
      obtain ⟨gp, op, am, nm, cm, rfl, p0, p1, p2, p3, _⟩ := HR.out _ I.bel i _ hgs
      have HT : Hid ((us.take (i + 1)).map (fun s => (s.no, s.gen)) = (us.take i).map (fun s => (s.no, s.gen)) ++ [(s.no, s.gen)]) := refs_take hgs
      obtain ⟨rs, hrs⟩ : ∃ rs, (us.take i).map (fun s => (s.no, s.gen)) = rs := ⟨_, rfl⟩
      have hln : rs.length = i := by rw [← hrs, List.length_map, List.length_take, HN.out]; omega
      have HLN := Lib.hid hln
      rw [hrs] at I HT
      clear hrs hgs hln
      obtain ⟨no, gen, ende, its⟩ := s
      simp only at p0 p1 p2 p3 HT
      have hi0 : (0 : Int) ≤ (i : Int) := by omega
      have hi1 : (i : Int) < (n : Int) := by omega
      have XS := Box.new wr #[.int .i64 no, .int .i64 gen, .int .i64 ende, .slice am nm cm] 29
      have kS := belNew wr (.cells #[.int .i64 no, .int .i64 gen, .int .i64 ende, .slice am nm cm] 29)
      have I1 := I.later kS
      clear I kS
      go_upto_region 5 with fail
      clear p0 p1 p2 p3
      generalize wr.alloc (.cells #[.int .i64 no, .int .i64 gen, .int .i64 ende, .slice am nm cm] 29) = wS at XS I1 ⊢
      obtain ⟨gS, hgS⟩ : ∃ gS, wr.heap.size = gS := ⟨_, rfl⟩
      rw [hgS] at XS ⊢
      clear hgS
      have s0 := XS.cell 0 _ rfl
      have s1 := XS.cell 1 _ rfl
      have c4 := I1.chk.cell 4 _ rfl
      have kL := belNew wS (.cells #[.int .i64 no, .int .i64 gen] 124)
      have I2 := Lib.hid (I1.later kL)
      have HL := Lib.hid (RBuf.lit1 rfE wS (no, gen))
      clear XS I1 kL
      go_wp2_with (at_builtin; refine wpList_append_rows rfl _ _ rfE rfl B _ rs rfl I2.out.refs wS.heap.size _ [(no, gen)] rfl HL.out (by show _ * 17 ≤ _; simp only [List.length_cons, List.length_nil]; have := HLN.out; omega) ?_; intro v8 w8 r8 g8 at8; obtain ⟨a8, c8, e8⟩ := r8.form; simp only [List.length_append, List.length_cons, List.length_nil, Nat.zero_add] at e8; rw [HLN.out] at e8; subst e8; obtain ⟨d4, f4⟩ := I2.out.cells g8; have I9 := Lib.hid (I2.out.push a8 _ c8 r8 g8))
      exact ⟨⟨i + 1, a8, c8, by omega, by simp, by rw [HT.out]; exact I9.out⟩, by first | omega | (simp [intOf]; omega)⟩
    · have hin : i = n := by omega
      have HE : Hid ((us.take n).map (fun s => (s.no, s.gen)) = (us.take i).map (fun s => (s.no, s.gen))) := by show _ = _; rw [hin]
      have HLN : Hid (((us.take i).map (fun s => (s.no, s.gen))).length = i) := by show _ = _; rw [List.length_map, List.length_take, HN.out]; omega
      obtain ⟨rs, hrs⟩ : ∃ rs, (us.take i).map (fun s => (s.no, s.gen)) = rs := ⟨_, rfl⟩
      rw [hrs] at I HE HLN
      clear hrs hin
      rw [HE.out] at HF
      obtain ⟨x0, x1, x2, x3, x4, _⟩ := I.chk.fiveC
      obtain ⟨y0, y1, y2, y3, y4, f0, f1, f2, f3, f4⟩ := I.res.fiveC
      have R5 := I.res.set5C (.int .i64 S) (.int .i64 ng) (.int .i64 ns) (.int .i64 nv) (.slice a i c)
      obtain ⟨u0, u1, u2, u3, u4, _⟩ := R5.fiveC
      have HD := Lib.hid (I.refs.set5C (g := w.heap.size + 1) I.bel HB.out (by have := I.lt; omega) (by omega) (.int .i64 S) (.int .i64 ng) (.int .i64 ns) (.int .i64 nv) (.slice a i c))
      have hge : ¬ (i : Int) < (n : Int) := by omega
      clear I R5 HE
      go_wp2
      refine bodyPost_ret (v := .agg #[.int .i64 S, .int .i64 ng, .int .i64 ns, .int .i64 nv, .slice a i c]) (by simp [results, Tryz.results105, go_sem, u0, u1, u2, u3, u4]) rfl ?_
      refine ⟨a, c, by rw [HF.out]; simp only; rw [HLN.out], ?_⟩
      rw [HF.out]
      simp only
      rw [HLN.out]
      exact HD.out

end Go.Proofs.YtieenkloiicnkaaGreatDoor
