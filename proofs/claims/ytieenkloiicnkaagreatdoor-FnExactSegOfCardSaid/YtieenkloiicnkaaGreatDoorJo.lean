/- Texts of our own, joined. -/
import Derived.Test.YtieenkloiicnkaaGreatDoorJl
import Derived.Lib.Hide
import Derived.Laws.StructEq
import Derived.Test.YtieenkloiicnkaaGreatDoorJk
import Derived.Test.YtieenkloiicnkaaGreatDoorJa
import Derived.Test.YtieenkloiicnkaaGreatDoorJb
/- SegOf of the model: a segment as it is on a disk. -/
namespace Go.Proofs.YtieenkloiicnkaaGreatDoor
open Go.RowKit

set_option maxRecDepth 100000 in
set_option maxHeartbeats 4000000 in
theorem specL09Seg_any (d : Dk) (v : Value) (s : Int) (w : World) (h : DRd w v d) (hs : d.small) (ht : ∀ s ∈ d.sec, s.size ≤ 137438953472) (hu : ∀ x ∈ d.cache, x.text.size ≤ 137438953472) :
    Calls Tryz.prog 29 #[v, .int .i64 s] w fun e w' => SoR (sgOf d s) w e w' := by
  obtain ⟨aa, ab, ca, cb, rfl, _, _⟩ := h.form
  have hz := sgT_size ht hu s
  have X1 := Box.new w #[.slice aa d.sec.length ca, .slice ab d.cache.length cb] 33
  have k1 := belNew w (.cells #[.slice aa d.sec.length ca, .slice ab d.cache.length cb] 33)
  obtain ⟨w1, hw1⟩ : ∃ y, w.alloc (.cells #[.slice aa d.sec.length ca, .slice ab d.cache.length cb] 33) = y := ⟨_, rfl⟩
  have z1 : w1.heap.size = w.heap.size + 1 := by rw [← hw1]; simp
  have X2 := Box.new w1 #[.int .i64 0, .int .i64 0, .int .i64 0, .slice none 0 0] 29
  have k2 := belNew w1 (.cells #[.int .i64 0, .int .i64 0, .int .i64 0, .slice none 0 0] 29)
  obtain ⟨w2, hw2⟩ : ∃ y, w1.alloc (.cells #[.int .i64 0, .int .i64 0, .int .i64 0, .slice none 0 0] 29) = y := ⟨_, rfl⟩
  have z2 : w2.heap.size = w.heap.size + 2 := by rw [← hw2]; simp; omega
  rw [hw1] at k1 X1
  rw [hw2] at k2 X2
  rw [z1] at X2
  replace X1 := X1.later k2
  have b2 : Below w.heap.size w w2 := k1.trans (k2.mono k1.size)
  have hr := h.later b2
  obtain ⟨t, ht0⟩ : ∃ t, sgT d s = t := ⟨_, rfl⟩
  have HSG : Hid (∀ x (hx : Below w.heap.size w x), Calls Tryz.prog 70 #[.agg #[.slice aa d.sec.length ca, .slice ab d.cache.length cb], .int .i64 s] x fun e w' => e = .returned (.int .i64 (sgG t)) ∧ Below x.heap.size x w') := by
    intro x hx
    rw [← ht0]
    exact specSegGen_any d _ s _ (h.later hx) hs ht hu
  have HSF : Hid (Calls Tryz.prog 69 #[.agg #[.slice aa d.sec.length ca, .slice ab d.cache.length cb], .int .i64 s] w2 fun e w' => ∃ v, e = .returned (.tuple #[v, .int .i64 (sfE t : Int)]) ∧ Rows' frE w' v (sfL t) ∧ Below w2.heap.size w2 w') := by
    show Calls _ _ _ _ _
    refine (specSegFrames_any d _ s _ hr hs ht hu).mono ?_
    rintro e x ⟨v, e1, r1⟩
    rw [ht0] at e1 r1
    exact ⟨v, e1, r1.rows, r1.bel⟩
  have HE : Hid (sgOf d s = ⟨s, sgG t, (sfE t : Int), ((sfL t).take (sfL t).length).filterMap fiO⟩) := by show _ = _; unfold sgOf; rw [ht0, List.take_length]; rfl
  generalize sgOf d s = SO at HE ⊢
  have HOK : Hid (∀ f ∈ sfL t, f.ok) := sfL_ok t
  have hfl : (sfL t).length ≤ 1099511627776 := by have := sfL_le t; rw [ht0] at hz; omega
  have HW : Hid ((w.alloc (.cells #[.slice aa d.sec.length ca, .slice ab d.cache.length cb] 33)).alloc (.cells #[.int .i64 0, .int .i64 0, .int .i64 0, .slice none 0 0] 29) = w2) := by show _ = _; rw [hw1, hw2]
  have HB2 := Lib.hid b2
  generalize sgG t = gn at HSG HE ⊢
  generalize hen : (sfE t : Int) = en at HSF HE ⊢
  generalize sfL t = fs at HSF HE HOK hfl ⊢
  have HZ2 := Lib.hid z2
  clear ht0 hz h hr k1 k2 z1 z2 hw1 hw2 hs ht hu hen b2
  obtain ⟨g1, hg1⟩ : ∃ g1, w.heap.size + 1 = g1 := ⟨_, rfl⟩
  have HG1 := Lib.hid hg1
  obtain ⟨g0, hg0⟩ : ∃ g0, w.heap.size = g0 := ⟨_, rfl⟩
  have HG0 := Lib.hid hg0
  rw [hg1] at X2
  rw [hg0] at X1
  clear hg0 hg1
  go_enter Tryz.func29, Tryz.ntmps29
  go_upto_region 1 with fail
  rw [HW.out, HG1.out, HG0.out]
  obtain ⟨x0, x1⟩ : w2.cell? ⟨g0, 0, none⟩ = some (.slice aa d.sec.length ca) ∧ w2.cell? ⟨g0, 1, none⟩ = some (.slice ab d.cache.length cb) := ⟨X1.cell 0 _ rfl, X1.cell 1 _ rfl⟩
  go_wp2_with fail
  clear x0 x1
  refine HSF.out.mono ?_
  rintro e w3 ⟨vf, rfl, hrows, k3⟩
  obtain ⟨ad, cap, rfl, hrow⟩ := hrows.framesG
  have HR3 := Lib.hid hrow
  clear hrows hrow HSF
  replace X1 := X1.later k3
  replace X2 := X2.later k3
  obtain ⟨x0, x1⟩ : w3.cell? ⟨g0, 0, none⟩ = some (.slice aa d.sec.length ca) ∧ w3.cell? ⟨g0, 1, none⟩ = some (.slice ab d.cache.length cb) := ⟨X1.cell 0 _ rfl, X1.cell 1 _ rfl⟩
  have b3 : Below w.heap.size w w3 := HB2.out.trans (k3.mono HB2.out.size)
  have HB3 := Lib.hid b3
  have HK3 := Lib.hid k3
  clear b3 k3
  go_wp2_with fail
  clear x0 x1
  refine (HSG.out _ HB3.out).mono ?_
  rintro e w4 ⟨rfl, k4⟩
  replace X2 := X2.later k4
  have HB4 : Hid (Below w.heap.size w w4 ∧ w.heap.size + 2 ≤ w4.heap.size) := ⟨HB3.out.trans (k4.mono HB3.out.size), by have := HZ2.out; have := HK3.out.size; have := k4.size; omega⟩
  have HR4 : Hid (∀ X, Below w4.heap.size w4 X → ∀ (i : Nat) (f : Fr), fs[i]? = some f → ∃ g off : Nat, ad = some ⟨g, off, none⟩ ∧
    X.cell? ⟨g, off + i * 3, none⟩ = some (.int .i64 f.gen) ∧ X.cell? ⟨g, off + i * 3 + 1, none⟩ = some (.int .i64 f.seq) ∧ X.cell? ⟨g, off + i * 3 + 2, none⟩ = some (.string f.body)) := fun X hX => HR3.out X (k4.trans (hX.mono k4.size))
  clear HSG X1 k4 HR3 HB3 HK3
  have k5 := belNew w4 (.cells #[.int .i64 s, .int .i64 gn, .int .i64 en, .slice none 0 0] 29)
  have X5 := Box.new w4 #[.int .i64 s, .int .i64 gn, .int .i64 en, .slice none 0 0] 29
  have z5 : (w4.alloc (.cells #[.int .i64 s, .int .i64 gn, .int .i64 en, .slice none 0 0] 29)).heap.size = w4.heap.size + 1 := by simp
  have I0 : SgL w4 (w4.heap.size + 1) 29 s gn en (w4.alloc (.cells #[.int .i64 s, .int .i64 gn, .int .i64 en, .slice none 0 0] 29)) none 0 [] := ⟨X5, by rw [← z5]; exact RBuf.nil itE _, k5, by omega⟩
  have HI0 := Lib.hid I0
  have HX2 : Hid (∀ x, Below w4.heap.size w4 x → Box x g1 #[.int .i64 0, .int .i64 0, .int .i64 0, .slice none 0 0] 29) := fun x hx => X2.later hx
  clear I0 k5 X5 z5 X2
  generalize hB : w4.heap.size + 1 = B at HI0 ⊢
  have HBB := Lib.hid hB
  clear hB
  obtain ⟨m, hm⟩ : ∃ m, fs.length = m := ⟨_, rfl⟩
  have HM := Lib.hid hm
  rw [hm] at hfl HE ⊢
  clear hm
  go_upto_region 3 with fail
  generalize w4.alloc (.cells #[.int .i64 s, .int .i64 gn, .int .i64 en, .slice none 0 0] 29) = w5 at HI0 ⊢
  go_wp2_with fail
  go_loopw [8] (fun iv wr => ∃ (i : Nat) (a : Option Addr) (c : Nat), i ≤ m ∧ iv = .int .i64 (i : Int) ∧ SgL w4 B 29 s gn en wr a c ((fs.take i).filterMap fiO)) (fun iv _ => m - (intOf iv).toNat)
  case atStart => exact ⟨0, none, 0, by omega, rfl, HI0.out⟩
  case round =>
    clear HI0
    obtain ⟨i, a, c, hi, rfl, I⟩ := hrel
    by_cases hlt : i < m
    · obtain ⟨f, hgf⟩ : ∃ f, fs[i]? = some f := ⟨_, List.getElem?_eq_getElem (by rw [HM.out]; exact hlt)⟩
      obtain ⟨gp, op, rfl, p0, p1, p2⟩ := HR4.out _ I.bel i _ hgf
      have hi0 : (0 : Int) ≤ (i : Int) := by omega
      have hi1 : (i : Int) < (m : Int) := by omega
      have hle := items_take_le fs i
      have HFI := Lib.hid (fun x => specFrameItem_any f x (by have := (HOK.out f (List.mem_of_getElem? hgf)).2.2.2; omega))
      cases ho : fiO f with
      | none =>
        have HT1 : Hid ((fs.take (i + 1)).filterMap fiO = (fs.take i).filterMap fiO) := items_take_none hgf ho
        rw [fiT_none' ho] at HFI
        generalize (fs.take i).filterMap fiO = l at I HT1 hle
        clear ho hgf
        obtain ⟨gen, seq, body⟩ := f
        unfold Fr.v itV at HFI
        simp only at p0 p1 p2 HFI
        have I1 := I
        go_wp2_with fail
        refine (HFI.out _).mono ?_
        rintro e w6 ⟨rfl, k6⟩
        have I2 := (I1.later k6).later (belNew w6 (.cells #[.int .i64 0, .int .i64 Rc.nil.kind, .int .i64 Rc.nil.valid, .int .i64 Rc.nil.uid, .int .i64 Rc.nil.next, .int .i64 Rc.nil.flags, .string Rc.nil.user, .string Rc.nil.name, .string Rc.nil.text] 73))
        clear I I1 k6
        go_wp2
        exact ⟨⟨i + 1, a, c, by omega, by simp, by rw [HT1.out]; exact I2⟩, by first | omega | (simp [intOf]; omega)⟩
      | some x =>
        have HT1 : Hid ((fs.take (i + 1)).filterMap fiO = (fs.take i).filterMap fiO ++ [x]) := items_take_some hgf ho
        rw [fiT_some' ho] at HFI
        generalize (fs.take i).filterMap fiO = l at I HT1 hle
        clear ho hgf
        obtain ⟨gen, seq, body⟩ := f
        obtain ⟨sq, K, V, U, N, FL, US, NM, TX⟩ := x
        unfold Fr.v itV at HFI
        simp only at p0 p1 p2 HFI
        have I1 := I
        go_wp2_with fail
        refine (HFI.out _).mono ?_
        rintro e w6 ⟨rfl, k6⟩
        have I2 := (I1.later k6).later (belNew w6 (.cells #[.int .i64 sq, .int .i64 K, .int .i64 V, .int .i64 U, .int .i64 N, .int .i64 FL, .string US, .string NM, .string TX] 73))
        have XI := Box.new w6 #[.int .i64 sq, .int .i64 K, .int .i64 V, .int .i64 U, .int .i64 N, .int .i64 FL, .string US, .string NM, .string TX] 73
        clear I I1 k6 p0 p1 p2
        go_upto_region 8 with fail
        generalize w6.alloc (.cells #[.int .i64 sq, .int .i64 K, .int .i64 V, .int .i64 U, .int .i64 N, .int .i64 FL, .string US, .string NM, .string TX] 73) = w7 at XI I2 ⊢
        generalize w6.heap.size = gi at XI ⊢
        obtain ⟨q0, q1, q2, q3, q4, q5, q6, q7, q8⟩ := XI.nineG
        have c3 := I2.seg.cell 3 _ rfl
        have kL := belNew w7 (.cells #[.int .i64 sq, .int .i64 K, .int .i64 V, .int .i64 U, .int .i64 N, .int .i64 FL, .string US, .string NM, .string TX] 73)
        have I3 := Lib.hid (I2.later kL)
        have HL := Lib.hid (RBuf.lit1 itE w7 (sq, ⟨K, V, U, N, FL, US, NM, TX⟩))
        have HLE : Hid (l.length ≤ 1099511627776) := by show _ ≤ _; have := HM.out; omega
        clear XI I2 kL hle
        go_wp2_with (at_builtin; refine wpList_append_rows rfl _ _ itE rfl B _ l rfl I3.out.its w7.heap.size _ [(sq, ⟨K, V, U, N, FL, US, NM, TX⟩)] rfl HL.out (by show _ * 97 ≤ _; simp only [List.length_cons, List.length_nil]; have := HLE.out; omega) ?_; intro v8 w8 r8 g8 at8; obtain ⟨a8, c8, e8⟩ := r8.form; subst e8; obtain ⟨d4, f4⟩ := I3.out.cells g8; have I9 := Lib.hid (I3.out.push a8 c8 r8 g8))
        exact ⟨⟨i + 1, a8, c8, by omega, by simp, by rw [HT1.out]; have h9 := I9.out; simp only [List.length_append, List.length_cons, List.length_nil, Nat.zero_add] at h9; exact h9⟩, by first | omega | (simp [intOf]; omega)⟩
    · have hin : i = m := by omega
      have HF : Hid (SO = ⟨s, gn, en, (fs.take i).filterMap fiO⟩) := by show _ = _; rw [HE.out, hin]
      generalize (fs.take i).filterMap fiO = l at I HF
      clear hin
      obtain ⟨x0, x1, x2, x3, _⟩ := I.seg.fourG
      have XR := HX2.out _ I.bel
      obtain ⟨y0, y1, y2, y3, f0, f1, f2, f3⟩ := XR.fourG
      have R5 := XR.set4G (.int .i64 s) (.int .i64 gn) (.int .i64 en) (.slice a l.length c)
      obtain ⟨u0, u1, u2, u3, _⟩ := R5.fourG
      have HD := Lib.hid (I.its.set4G (g := g1) (HB4.out.1.trans (I.bel.mono HB4.out.1.size)) (by have := HBB.out; have := HB4.out.2; omega) (by have := HBB.out; have := HB4.out.2; have := HG1.out; omega) (by have := HG1.out; omega) (.int .i64 s) (.int .i64 gn) (.int .i64 en) (.slice a l.length c))
      have hge : ¬ (i : Int) < (m : Int) := by omega
      clear I R5 XR HX2
      go_wp2
      refine bodyPost_ret (v := .agg #[.int .i64 s, .int .i64 gn, .int .i64 en, .slice a l.length c]) (by simp [results, Tryz.results29, go_sem, u0, u1, u2, u3]) rfl ?_
      rw [HF.out]
      exact ⟨a, c, rfl, HD.out⟩

set_option maxRecDepth 100000 in
set_option maxHeartbeats 1000000 in
theorem specSegOf_any (d : Dk) (v : Value) (s : Int) (w : World) (h : DRd w v d) (hs : d.small) (ht : ∀ s ∈ d.sec, s.size ≤ 137438953472) (hu : ∀ x ∈ d.cache, x.text.size ≤ 137438953472) :
    Calls Tryz.prog 7 #[v, .int .i64 s] w fun e w' => SoR (sgOf d s) w e w' := by
  obtain ⟨aa, ab, ca, cb, rfl, _, _⟩ := h.form
  have X1 := Box.new w #[.slice aa d.sec.length ca, .slice ab d.cache.length cb] 33
  have k1 := belNew w (.cells #[.slice aa d.sec.length ca, .slice ab d.cache.length cb] 33)
  obtain ⟨w1, hw1⟩ : ∃ y, w.alloc (.cells #[.slice aa d.sec.length ca, .slice ab d.cache.length cb] 33) = y := ⟨_, rfl⟩
  have z1 : w1.heap.size = w.heap.size + 1 := by rw [← hw1]; simp
  have X2 := Box.new w1 #[.int .i64 0, .int .i64 0, .int .i64 0, .slice none 0 0] 29
  have k2 := belNew w1 (.cells #[.int .i64 0, .int .i64 0, .int .i64 0, .slice none 0 0] 29)
  obtain ⟨w2, hw2⟩ : ∃ y, w1.alloc (.cells #[.int .i64 0, .int .i64 0, .int .i64 0, .slice none 0 0] 29) = y := ⟨_, rfl⟩
  have z2 : w2.heap.size = w.heap.size + 2 := by rw [← hw2]; simp; omega
  rw [hw1] at k1 X1
  rw [hw2] at k2 X2
  rw [z1] at X2
  replace X1 := X1.later k2
  have b2 : Below w.heap.size w w2 := k1.trans (k2.mono k1.size)
  have HC := Lib.hid (specL09Seg_any d _ s _ (h.later b2) hs ht hu)
  have HW : Hid ((w.alloc (.cells #[.slice aa d.sec.length ca, .slice ab d.cache.length cb] 33)).alloc (.cells #[.int .i64 0, .int .i64 0, .int .i64 0, .slice none 0 0] 29) = w2) := by show _ = _; rw [hw1, hw2]
  have HB2 := Lib.hid b2
  have HZ2 := Lib.hid z2
  generalize sgOf d s = SO at HC ⊢
  obtain ⟨no, gn, en, l⟩ := SO
  unfold SoR at HC ⊢
  simp only at HC ⊢
  clear h k1 k2 z1 z2 hw1 hw2 hs ht hu b2
  obtain ⟨g1, hg1⟩ : ∃ g1, w.heap.size + 1 = g1 := ⟨_, rfl⟩
  have HG1 := Lib.hid hg1
  obtain ⟨g0, hg0⟩ : ∃ g0, w.heap.size = g0 := ⟨_, rfl⟩
  have HG0 := Lib.hid hg0
  rw [hg1] at X2
  rw [hg0] at X1
  clear hg0 hg1
  go_enter Tryz.func7, Tryz.ntmps7
  go_upto_region 1 with fail
  rw [HW.out, HG1.out, HG0.out]
  obtain ⟨x0, x1⟩ : w2.cell? ⟨g0, 0, none⟩ = some (.slice aa d.sec.length ca) ∧ w2.cell? ⟨g0, 1, none⟩ = some (.slice ab d.cache.length cb) := ⟨X1.cell 0 _ rfl, X1.cell 1 _ rfl⟩
  go_wp2_with fail
  clear x0 x1
  refine HC.out.mono ?_
  rintro e w3 ⟨a, c, rfl, r3⟩
  have XR := X2.later r3.bel
  have k3 := r3.bel
  obtain ⟨y0, y1, y2, y3, f0, f1, f2, f3⟩ := XR.fourG
  have R5 := XR.set4G (.int .i64 no) (.int .i64 gn) (.int .i64 en) (.slice a l.length c)
  obtain ⟨u0, u1, u2, u3, _⟩ := R5.fourG
  have HD := Lib.hid (r3.here.set4G (g := g1) (HB2.out.trans (k3.mono HB2.out.size)) (by have := HZ2.out; omega) (by have := HZ2.out; have := HG1.out; omega) (by have := HG1.out; omega) (.int .i64 no) (.int .i64 gn) (.int .i64 en) (.slice a l.length c))
  clear r3 R5 XR k3 X1 X2
  go_wp2
  refine bodyPost_ret (v := .agg #[.int .i64 no, .int .i64 gn, .int .i64 en, .slice a l.length c]) (by simp [results, Tryz.results7, go_sem, u0, u1, u2, u3]) rfl ?_
  exact ⟨a, c, rfl, HD.out⟩

end Go.Proofs.YtieenkloiicnkaaGreatDoor

/- What records tell: the model's choice of a record. -/
namespace Go.Proofs.YtieenkloiicnkaaGreatDoor
open Go.RowKit

theorem Box.set9 {w : World} {b : Nat} {u0 u1 u2 u3 u4 u5 u6 u7 u8 : Value} {t : TypeId} (h : Box w b #[u0, u1, u2, u3, u4, u5, u6, u7, u8] t) (v0 v1 v2 v3 v4 v5 v6 v7 v8 : Value) : Box ((Go.Proofs.YtieenkloiicnkaaGreatDoor.set8 w b v0 v1 v2 v3 v4 v5 v6 v7).setCell ⟨b, 8, none⟩ v8) b #[v0, v1, v2, v3, v4, v5, v6, v7, v8] t :=
  have a0 : Box (w.setCell ⟨b, 0, none⟩ v0) b #[v0, u1, u2, u3, u4, u5, u6, u7, u8] t := h.set 0 v0
  have a1 : Box ((w.setCell ⟨b, 0, none⟩ v0).setCell ⟨b, 1, none⟩ v1) b #[v0, v1, u2, u3, u4, u5, u6, u7, u8] t := a0.set 1 v1
  have a2 : Box (((w.setCell ⟨b, 0, none⟩ v0).setCell ⟨b, 1, none⟩ v1).setCell ⟨b, 2, none⟩ v2) b #[v0, v1, v2, u3, u4, u5, u6, u7, u8] t := a1.set 2 v2
  have a3 : Box ((((w.setCell ⟨b, 0, none⟩ v0).setCell ⟨b, 1, none⟩ v1).setCell ⟨b, 2, none⟩ v2).setCell ⟨b, 3, none⟩ v3) b #[v0, v1, v2, v3, u4, u5, u6, u7, u8] t := a2.set 3 v3
  have a4 : Box (((((w.setCell ⟨b, 0, none⟩ v0).setCell ⟨b, 1, none⟩ v1).setCell ⟨b, 2, none⟩ v2).setCell ⟨b, 3, none⟩ v3).setCell ⟨b, 4, none⟩ v4) b #[v0, v1, v2, v3, v4, u5, u6, u7, u8] t := a3.set 4 v4
  have a5 : Box ((((((w.setCell ⟨b, 0, none⟩ v0).setCell ⟨b, 1, none⟩ v1).setCell ⟨b, 2, none⟩ v2).setCell ⟨b, 3, none⟩ v3).setCell ⟨b, 4, none⟩ v4).setCell ⟨b, 5, none⟩ v5) b #[v0, v1, v2, v3, v4, v5, u6, u7, u8] t := a4.set 5 v5
  have a6 : Box (((((((w.setCell ⟨b, 0, none⟩ v0).setCell ⟨b, 1, none⟩ v1).setCell ⟨b, 2, none⟩ v2).setCell ⟨b, 3, none⟩ v3).setCell ⟨b, 4, none⟩ v4).setCell ⟨b, 5, none⟩ v5).setCell ⟨b, 6, none⟩ v6) b #[v0, v1, v2, v3, v4, v5, v6, u7, u8] t := a5.set 6 v6
  have a7 : Box ((((((((w.setCell ⟨b, 0, none⟩ v0).setCell ⟨b, 1, none⟩ v1).setCell ⟨b, 2, none⟩ v2).setCell ⟨b, 3, none⟩ v3).setCell ⟨b, 4, none⟩ v4).setCell ⟨b, 5, none⟩ v5).setCell ⟨b, 6, none⟩ v6).setCell ⟨b, 7, none⟩ v7) b #[v0, v1, v2, v3, v4, v5, v6, v7, u8] t := a6.set 7 v7
  have a8 : Box (((((((((w.setCell ⟨b, 0, none⟩ v0).setCell ⟨b, 1, none⟩ v1).setCell ⟨b, 2, none⟩ v2).setCell ⟨b, 3, none⟩ v3).setCell ⟨b, 4, none⟩ v4).setCell ⟨b, 5, none⟩ v5).setCell ⟨b, 6, none⟩ v6).setCell ⟨b, 7, none⟩ v7).setCell ⟨b, 8, none⟩ v8) b #[v0, v1, v2, v3, v4, v5, v6, v7, v8] t := a7.set 8 v8
  a8

theorem bestO_take {k : Itm → Int} {p : Itm → Bool} {l : List Itm} {i : Nat} {x : Itm} (h : l[i]? = some x) : bestO k p (l.take (i + 1)) = bestStep k p (bestO k p (l.take i)) x := by
  unfold bestO
  rw [List.take_add_one, h, List.foldl_append]
  rfl

/-- What the choice hands back. -/
def bestT (o : Option Itm) : Value := match o with
  | some x => .tuple #[itV x.1 x.2, .bool true]
  | none => .tuple #[itV 0 Rc.nil, .bool false]
/-- What stands in its variable. -/
def bestX (o : Option Itm) : Itm := o.getD (0, Rc.nil)
theorem bestT_eq (o : Option Itm) : bestT o = .tuple #[itV (bestX o).1 (bestX o).2, .bool o.isSome] := by cases o <;> rfl
def bestP (kind valid uid : Int) (x : Itm) : Bool := decide (x.2.kind = kind ∧ x.2.valid = valid ∧ x.2.uid = uid)
theorem bestStep_no {k : Itm → Int} {p : Itm → Bool} {o : Option Itm} {x : Itm} (h : p x = false) : bestStep k p o x = o := by
  unfold bestStep; rw [h]; rfl
theorem bestStep_yes {p : Itm → Bool} {o : Option Itm} {x : Itm} (h : p x = true) (h2 : o = none ∨ (bestX o).1 < x.1) : bestStep (fun _ => 0) p o x = some x := by
  unfold bestStep; rw [if_pos h]
  cases o with
  | none => rfl
  | some y =>
    have : y.1 < x.1 := by rcases h2 with h2 | h2; cases h2; exact h2
    exact if_pos (decide_eq_true (.inr ⟨rfl, this⟩))
theorem bestStep_old {p : Itm → Bool} {o : Option Itm} {x : Itm} (h : p x = true) (h1 : o.isSome = true) (h2 : ¬ (bestX o).1 < x.1) : bestStep (fun _ => 0) p o x = o := by
  unfold bestStep; rw [if_pos h]
  cases o with
  | none => cases h1
  | some y => exact if_neg (fun c => by have := of_decide_eq_true c; dsimp only at this; have h2 : ¬ y.1 < x.1 := h2; omega)

/-- The choice at work: its answer's variable g0, its own g1. -/
structure BsI (w : World) (g0 g1 : Nat) (x : Itm) (X : World) : Prop where
  res : Box X g0 #[.int .i64 0, .int .i64 0, .int .i64 0, .int .i64 0, .int .i64 0, .int .i64 0, .string ⟨#[]⟩, .string ⟨#[]⟩, .string ⟨#[]⟩] 73
  out : Box X g1 #[.int .i64 x.1, .int .i64 x.2.kind, .int .i64 x.2.valid, .int .i64 x.2.uid, .int .i64 x.2.next, .int .i64 x.2.flags, .string x.2.user, .string x.2.name, .string x.2.text] 73
  bel : Below w.heap.size w X
  l0 : w.heap.size ≤ g0
  l1 : w.heap.size ≤ g1
  n01 : g0 ≠ g1
theorem BsI.later {w X Y : World} {g0 g1 : Nat} {x : Itm} (h : BsI w g0 g1 x X) (hb : Below X.heap.size X Y) : BsI w g0 g1 x Y := ⟨h.res.later hb, h.out.later hb, h.bel.trans (hb.mono h.bel.size), h.l0, h.l1, h.n01⟩
theorem BsI.put {w X : World} {g0 g1 : Nat} {x : Itm} (h : BsI w g0 g1 x X) (y : Itm) : BsI w g0 g1 y ((set8 X g1 (.int .i64 y.1) (.int .i64 y.2.kind) (.int .i64 y.2.valid) (.int .i64 y.2.uid) (.int .i64 y.2.next) (.int .i64 y.2.flags) (.string y.2.user) (.string y.2.name)).setCell ⟨g1, 8, none⟩ (.string y.2.text)) :=
  ⟨h.res.but ((grown_set8 X g1 _ _ _ _ _ _ _ _).trans (stored_grown _ _ _ _)) h.n01, h.out.set9 _ _ _ _ _ _ _ _ _, below_set9 h.bel h.l1 _ _ _ _ _ _ _ _ _, h.l0, h.l1, h.n01⟩


end Go.Proofs.YtieenkloiicnkaaGreatDoor

/- Right items, plainly: as they are gone through. -/
namespace Go.Proofs.YtieenkloiicnkaaGreatDoor

theorem upOf_take {f : Itm → Option Int} {l : List Itm} {i : Nat} {x : Itm} (h : l[i]? = some x) : upOf f (l.take (i + 1)) = match f x with | some n => insI (upOf f (l.take i)) n | none => upOf f (l.take i) := by
  unfold upOf
  rw [List.take_add_one, h, List.foldl_append]
  rfl
theorem insI_len (l : List Int) (x : Int) : (insI l x).length ≤ l.length + 1 := by
  unfold insI
  rw [List.length_append, List.length_cons]
  have h : ∀ l : List Int, (l.filter (fun y => decide (y < x))).length + (l.filter (fun y => decide (x < y))).length ≤ l.length := by
    intro l
    induction l with
    | nil => simp
    | cons y l ih =>
      simp only [List.filter_cons, List.length_cons]
      by_cases h1 : y < x
      · have h2 : ¬ x < y := by omega
        simp [h1, h2]; omega
      · by_cases h2 : x < y
        · simp [h1, h2]; omega
        · simp [h1, h2]; omega
  have := h l
  omega
theorem upOf_len (f : Itm → Option Int) (l : List Itm) : ∀ i, (upOf f (l.take i)).length ≤ i
  | 0 => by simp [upOf]
  | i + 1 => by
    have ih := upOf_len f l i
    cases h : l[i]? with
    | none =>
      have h2 : l.take (i + 1) = l.take i := by rw [List.take_add_one, h]; simp
      rw [h2]; omega
    | some x =>
      rw [upOf_take h]
      split
      · have := insI_len (upOf f (l.take i)) ‹Int›; omega
      · omega

/-- An item that is right by itself. -/
def itOk (x : Itm) : Prop := (1 ≤ x.1 ∧ x.1 ≤ 1000000000) ∧ x.2.ok
/-- The first i are right, and no two of them part. -/
def ItG (l : List Itm) (i : Nat) : Prop := (∀ (j : Nat) (x : Itm), l[j]? = some x → j < i → itOk x) ∧ ∀ (j k : Nat) (x y : Itm), l[j]? = some x → l[k]? = some y → j < k → k < i → x.1 = y.1 → x = y
noncomputable instance decItemsOk (l : List Itm) : Decidable (itemsOk l) := Classical.propDecidable _

theorem ItG.zero (l : List Itm) : ItG l 0 := ⟨fun _ _ _ h => by omega, fun _ _ _ _ _ _ _ h => by omega⟩
theorem ItG.next {l : List Itm} {i : Nat} {x : Itm} (h : ItG l i) (hx : l[i]? = some x) (hok : itOk x) (hd : ∀ (j : Nat) (y : Itm), l[j]? = some y → j < i → y.1 = x.1 → y = x) : ItG l (i + 1) := by
  refine ⟨fun j y hy hj => ?_, fun j k y z hy hz hjk hk e => ?_⟩
  · by_cases e : j = i
    · subst e; rw [hx] at hy; cases hy; exact hok
    · exact h.1 j y hy (by omega)
  · by_cases e2 : k = i
    · subst e2; rw [hx] at hz; cases hz; exact hd j y hy hjk e
    · exact h.2 j k y z hy hz hjk (by omega) e
theorem ItG.done {l : List Itm} (h : ItG l l.length) : decide (itemsOk l) = decide (l.length ≤ 200) := by
  apply decide_eq_decide.2
  constructor
  · exact fun c => c.2.2
  · intro hl
    refine ⟨fun x hx => ?_, fun x hx y hy e => ?_, hl⟩
    · obtain ⟨j, hj, rfl⟩ := List.getElem_of_mem hx
      exact h.1 j _ (List.getElem?_eq_getElem hj) hj
    · obtain ⟨j, hj, rfl⟩ := List.getElem_of_mem hx
      obtain ⟨k, hk, rfl⟩ := List.getElem_of_mem hy
      rcases Nat.lt_trichotomy j k with c | c | c
      · exact h.2 j k _ _ (List.getElem?_eq_getElem hj) (List.getElem?_eq_getElem hk) c hk e
      · subst c; rfl
      · exact (h.2 k j _ _ (List.getElem?_eq_getElem hk) (List.getElem?_eq_getElem hj) c hj e.symm).symm
theorem items_bad {l : List Itm} {i : Nat} {x : Itm} (hx : l[i]? = some x) (h : ¬ itOk x) : decide (itemsOk l) = false :=
  decide_eq_false fun c => h (c.1 x (List.mem_of_getElem? hx))
theorem items_part {l : List Itm} {j i : Nat} {x y : Itm} (hx : l[j]? = some x) (hy : l[i]? = some y) (e : x.1 = y.1) (h : x ≠ y) : decide (itemsOk l) = false :=
  decide_eq_false fun c => h (c.2.1 x (List.mem_of_getElem? hx) y (List.mem_of_getElem? hy) e)

end Go.Proofs.YtieenkloiicnkaaGreatDoor

/- What records tell: the model's ItemsOk. -/
namespace Go.Proofs.YtieenkloiicnkaaGreatDoor
open Go.RowKit

theorem ba_same (a b : ByteArray) : a.toList = b.toList ↔ a = b := by
  have h := ba_beq a b
  constructor
  · intro e
    rw [beq_iff_eq.2 e] at h
    exact of_decide_eq_true h.symm
  · intro e; rw [e]

/-- A list of items that can be read, as a loop reads it. -/
def ItRow (w : World) (ad : Option Addr) (l : List Itm) : Prop := ∀ X, Below w.heap.size w X → ∀ i x, l[i]? = some x → ∃ g off, ad = some ⟨g, off, none⟩ ∧ X.cell? ⟨g, off + i * 9, none⟩ = some (.int .i64 x.1) ∧ X.cell? ⟨g, off + i * 9 + 1, none⟩ = some (.int .i64 x.2.kind) ∧ X.cell? ⟨g, off + i * 9 + 2, none⟩ = some (.int .i64 x.2.valid) ∧ X.cell? ⟨g, off + i * 9 + 3, none⟩ = some (.int .i64 x.2.uid) ∧ X.cell? ⟨g, off + i * 9 + 4, none⟩ = some (.int .i64 x.2.next) ∧ X.cell? ⟨g, off + i * 9 + 5, none⟩ = some (.int .i64 x.2.flags) ∧ X.cell? ⟨g, off + i * 9 + 6, none⟩ = some (.string x.2.user) ∧ X.cell? ⟨g, off + i * 9 + 7, none⟩ = some (.string x.2.name) ∧ X.cell? ⟨g, off + i * 9 + 8, none⟩ = some (.string x.2.text)
theorem Rows'.items {w : World} {v : Value} {l : List Itm} (h : Rows' itE w v l) : ∃ (ad : Option Addr) (cap : Nat), v = .slice ad l.length cap ∧ ItRow w ad l := by
  rcases h.ways with ⟨rfl, a, c, rfl⟩ | ⟨hne, g, off, c, rfl, hc, hg, hcl⟩
  · exact ⟨a, c, rfl, fun X _ i x hi => by cases hi⟩
  · exact ⟨_, c, rfl, fun X hb i x hi => ⟨g, off, rfl, it_cells hcl hg hb i x hi⟩⟩


end Go.Proofs.YtieenkloiicnkaaGreatDoor

/- Records and items: the helpers of the exact laws. -/
namespace Go.Proofs.YtieenkloiicnkaaGreatDoor
open Go.RowKit



set_option maxRecDepth 100000 in
set_option maxHeartbeats 1000000 in
theorem eqRec_same (r : Rc) (w : World) : Calls Tryz.prog 117 #[r.v, r.v] w fun e w' => e = .returned (.bool true) ∧ Below w.heap.size w w' := by
  unfold Rc.v
  go_enter Tryz.func117, Tryz.ntmps117
  go_wp2
  go_ret
  exact ⟨rfl, ((Below.refl _ _).alloc (Nat.le_refl _) _).alloc (by simp) _⟩



set_option maxRecDepth 100000 in
set_option maxHeartbeats 1000000 in
theorem eqItem_same (seq : Int) (r : Rc) (w : World) : Calls Tryz.prog 78 #[itV seq r, itV seq r] w fun e w' => e = .returned (.bool true) ∧ Below w.heap.size w w' := by
  have HT := Lib.hid (fun wx => eqRec_same r wx)
  have bA := belNew w (.cells #[.int .i64 seq, .int .i64 r.kind, .int .i64 r.valid, .int .i64 r.uid, .int .i64 r.next, .int .i64 r.flags, .string r.user, .string r.name, .string r.text] 73)
  have bB := bA.trans ((belNew (w.alloc (.cells #[.int .i64 seq, .int .i64 r.kind, .int .i64 r.valid, .int .i64 r.uid, .int .i64 r.next, .int .i64 r.flags, .string r.user, .string r.name, .string r.text] 73)) (.cells #[.int .i64 seq, .int .i64 r.kind, .int .i64 r.valid, .int .i64 r.uid, .int .i64 r.next, .int .i64 r.flags, .string r.user, .string r.name, .string r.text] 73)).mono bA.size)
  clear bA
  unfold Rc.v at HT
  unfold itV
  go_enter Tryz.func78, Tryz.ntmps78
  go_wp2_with fail
  generalize (w.alloc (.cells #[.int .i64 seq, .int .i64 r.kind, .int .i64 r.valid, .int .i64 r.uid, .int .i64 r.next, .int .i64 r.flags, .string r.user, .string r.name, .string r.text] 73)).alloc (.cells #[.int .i64 seq, .int .i64 r.kind, .int .i64 r.valid, .int .i64 r.uid, .int .i64 r.next, .int .i64 r.flags, .string r.user, .string r.name, .string r.text] 73) = W at bB ⊢
  refine (HT.out _).mono ?_
  rintro e w1 ⟨rfl, k1⟩
  have BB := Lib.hid (bB.trans (k1.mono bB.size))
  clear bB k1 HT
  go_wp2
  go_ret
  exact ⟨rfl, BB.out⟩

end Go.Proofs.YtieenkloiicnkaaGreatDoor

/- Lists of items that come in: how great they are, copies of them, and that two alike are alike; items marked. -/
namespace Go.Proofs.YtieenkloiicnkaaGreatDoor
open Go.RowKit



/-- A whole item is stored. -/
theorem RBuf.put9 {B : Nat} {w0 w : World} {g cap : Nat} {l : List Itm} (h : RBuf itE B w0 w (.slice (some ⟨g, 0, none⟩) l.length cap) l) (i : Nat) (x : Itm) (hi : l[i]? = some x) (y : Itm) :
    RBuf itE B w0 (((((((((w.setCell ⟨g, i * 9, none⟩ (.int .i64 y.1)).setCell ⟨g, i * 9 + 1, none⟩ (.int .i64 y.2.kind)).setCell ⟨g, i * 9 + 2, none⟩ (.int .i64 y.2.valid)).setCell ⟨g, i * 9 + 3, none⟩ (.int .i64 y.2.uid)).setCell ⟨g, i * 9 + 4, none⟩ (.int .i64 y.2.next)).setCell ⟨g, i * 9 + 5, none⟩ (.int .i64 y.2.flags)).setCell ⟨g, i * 9 + 6, none⟩ (.string y.2.user)).setCell ⟨g, i * 9 + 7, none⟩ (.string y.2.name)).setCell ⟨g, i * 9 + 8, none⟩ (.string y.2.text)) (.slice (some ⟨g, 0, none⟩) l.length cap) (l.set i y) := by
  have hlt : i < l.length := (List.getElem?_eq_some_iff.1 hi).1
  have hl1 : ∀ z : Itm, (l.set i z).length = l.length := fun z => by simp
  have ha1 : ∀ z : Itm, (l.set i z)[i]? = some z := fun z => List.getElem?_set_self hlt
  have s0 : RBuf itE B w0 (w.setCell ⟨g, i * 9, none⟩ (.int .i64 y.1)) (.slice (some ⟨g, 0, none⟩) l.length cap) (l.set i (y.1, ⟨x.2.kind, x.2.valid, x.2.uid, x.2.next, x.2.flags, x.2.user, x.2.name, x.2.text⟩)) := h.stored i _ (y.1, ⟨x.2.kind, x.2.valid, x.2.uid, x.2.next, x.2.flags, x.2.user, x.2.name, x.2.text⟩) hi 0 (by decide) (.int .i64 y.1) rfl
  rw [← hl1 (y.1, ⟨x.2.kind, x.2.valid, x.2.uid, x.2.next, x.2.flags, x.2.user, x.2.name, x.2.text⟩)] at s0
  have s1 := s0.stored i _ (y.1, ⟨y.2.kind, x.2.valid, x.2.uid, x.2.next, x.2.flags, x.2.user, x.2.name, x.2.text⟩) (ha1 _) 1 (by decide) (.int .i64 y.2.kind) rfl
  rw [List.set_set, hl1] at s1
  rw [← hl1 (y.1, ⟨y.2.kind, x.2.valid, x.2.uid, x.2.next, x.2.flags, x.2.user, x.2.name, x.2.text⟩)] at s1
  have s2 := s1.stored i _ (y.1, ⟨y.2.kind, y.2.valid, x.2.uid, x.2.next, x.2.flags, x.2.user, x.2.name, x.2.text⟩) (ha1 _) 2 (by decide) (.int .i64 y.2.valid) rfl
  rw [List.set_set, hl1] at s2
  rw [← hl1 (y.1, ⟨y.2.kind, y.2.valid, x.2.uid, x.2.next, x.2.flags, x.2.user, x.2.name, x.2.text⟩)] at s2
  have s3 := s2.stored i _ (y.1, ⟨y.2.kind, y.2.valid, y.2.uid, x.2.next, x.2.flags, x.2.user, x.2.name, x.2.text⟩) (ha1 _) 3 (by decide) (.int .i64 y.2.uid) rfl
  rw [List.set_set, hl1] at s3
  rw [← hl1 (y.1, ⟨y.2.kind, y.2.valid, y.2.uid, x.2.next, x.2.flags, x.2.user, x.2.name, x.2.text⟩)] at s3
  have s4 := s3.stored i _ (y.1, ⟨y.2.kind, y.2.valid, y.2.uid, y.2.next, x.2.flags, x.2.user, x.2.name, x.2.text⟩) (ha1 _) 4 (by decide) (.int .i64 y.2.next) rfl
  rw [List.set_set, hl1] at s4
  rw [← hl1 (y.1, ⟨y.2.kind, y.2.valid, y.2.uid, y.2.next, x.2.flags, x.2.user, x.2.name, x.2.text⟩)] at s4
  have s5 := s4.stored i _ (y.1, ⟨y.2.kind, y.2.valid, y.2.uid, y.2.next, y.2.flags, x.2.user, x.2.name, x.2.text⟩) (ha1 _) 5 (by decide) (.int .i64 y.2.flags) rfl
  rw [List.set_set, hl1] at s5
  rw [← hl1 (y.1, ⟨y.2.kind, y.2.valid, y.2.uid, y.2.next, y.2.flags, x.2.user, x.2.name, x.2.text⟩)] at s5
  have s6 := s5.stored i _ (y.1, ⟨y.2.kind, y.2.valid, y.2.uid, y.2.next, y.2.flags, y.2.user, x.2.name, x.2.text⟩) (ha1 _) 6 (by decide) (.string y.2.user) rfl
  rw [List.set_set, hl1] at s6
  rw [← hl1 (y.1, ⟨y.2.kind, y.2.valid, y.2.uid, y.2.next, y.2.flags, y.2.user, x.2.name, x.2.text⟩)] at s6
  have s7 := s6.stored i _ (y.1, ⟨y.2.kind, y.2.valid, y.2.uid, y.2.next, y.2.flags, y.2.user, y.2.name, x.2.text⟩) (ha1 _) 7 (by decide) (.string y.2.name) rfl
  rw [List.set_set, hl1] at s7
  rw [← hl1 (y.1, ⟨y.2.kind, y.2.valid, y.2.uid, y.2.next, y.2.flags, y.2.user, y.2.name, x.2.text⟩)] at s7
  have s8 := s7.stored i _ (y.1, ⟨y.2.kind, y.2.valid, y.2.uid, y.2.next, y.2.flags, y.2.user, y.2.name, y.2.text⟩) (ha1 _) 8 (by decide) (.string y.2.text) rfl
  rw [List.set_set, hl1] at s8
  exact s8


set_option maxRecDepth 100000 in
set_option maxHeartbeats 2000000 in
theorem eqItemS_same (l : List Itm) (va vb : Value) (w : World) (ha : Rows' itE w va l) (hb : Rows' itE w vb l) (hl : l.length ≤ 1099511627776) :
    Calls Tryz.prog 35 #[va, vb] w fun e w' => e = .returned (.bool true) ∧ Below w.heap.size w w' := by
  obtain ⟨ad, cap, rfl, hrowa⟩ := ha.items
  obtain ⟨ad2, cap2, rfl, hrowb⟩ := hb.items
  have HA := Lib.hid hrowa
  have HB := Lib.hid hrowb
  clear ha hb hrowa hrowb
  go_enter Tryz.func35, Tryz.ntmps35
  go_wp2
  go_loopw [5] (fun iv wr => ∃ i : Nat, i ≤ l.length ∧ iv = .int .i64 (i : Int) ∧ Below w.heap.size w wr) (fun iv _ => l.length - (intOf iv).toNat)
  case atStart => exact ⟨0, by omega, rfl, Below.refl _ _⟩
  case round =>
    obtain ⟨i, hi, rfl, hbel⟩ := hrel
    by_cases hlt : i < l.length
    · have hg : l[i]? = some l[i] := List.getElem?_eq_getElem hlt
      have hbd : Below w.heap.size w wr.drew := hbel.drew
      have HXA : Hid (∀ X, Below wr.drew.heap.size wr.drew X → ∃ ga oa gb ob, ad = some ⟨ga, oa, none⟩ ∧ ad2 = some ⟨gb, ob, none⟩ ∧ (X.cell? ⟨ga, oa + i * 9, none⟩ = some (.int .i64 l[i].1) ∧ X.cell? ⟨ga, oa + i * 9 + 1, none⟩ = some (.int .i64 l[i].2.kind) ∧ X.cell? ⟨ga, oa + i * 9 + 2, none⟩ = some (.int .i64 l[i].2.valid) ∧ X.cell? ⟨ga, oa + i * 9 + 3, none⟩ = some (.int .i64 l[i].2.uid) ∧ X.cell? ⟨ga, oa + i * 9 + 4, none⟩ = some (.int .i64 l[i].2.next) ∧ X.cell? ⟨ga, oa + i * 9 + 5, none⟩ = some (.int .i64 l[i].2.flags) ∧ X.cell? ⟨ga, oa + i * 9 + 6, none⟩ = some (.string l[i].2.user) ∧ X.cell? ⟨ga, oa + i * 9 + 7, none⟩ = some (.string l[i].2.name) ∧ X.cell? ⟨ga, oa + i * 9 + 8, none⟩ = some (.string l[i].2.text)) ∧ (X.cell? ⟨gb, ob + i * 9, none⟩ = some (.int .i64 l[i].1) ∧ X.cell? ⟨gb, ob + i * 9 + 1, none⟩ = some (.int .i64 l[i].2.kind) ∧ X.cell? ⟨gb, ob + i * 9 + 2, none⟩ = some (.int .i64 l[i].2.valid) ∧ X.cell? ⟨gb, ob + i * 9 + 3, none⟩ = some (.int .i64 l[i].2.uid) ∧ X.cell? ⟨gb, ob + i * 9 + 4, none⟩ = some (.int .i64 l[i].2.next) ∧ X.cell? ⟨gb, ob + i * 9 + 5, none⟩ = some (.int .i64 l[i].2.flags) ∧ X.cell? ⟨gb, ob + i * 9 + 6, none⟩ = some (.string l[i].2.user) ∧ X.cell? ⟨gb, ob + i * 9 + 7, none⟩ = some (.string l[i].2.name) ∧ X.cell? ⟨gb, ob + i * 9 + 8, none⟩ = some (.string l[i].2.text))) := fun X hX => by
        obtain ⟨ga, oa, e1, p⟩ := HA.out X (hbd.trans (hX.mono hbd.size)) i _ hg
        obtain ⟨gb, ob, e2, q⟩ := HB.out X (hbd.trans (hX.mono hbd.size)) i _ hg
        exact ⟨ga, oa, gb, ob, e1, e2, p, q⟩
      have HE := Lib.hid (fun wx => eqItem_same l[i].1 l[i].2 wx)
      generalize l[i] = x at *
      obtain ⟨sq, K, V, U, N, FL, US, NM, TX⟩ := x
      unfold itV at HE
      simp only at HXA HE
      obtain ⟨ga, oa, gb, ob, rfl, rfl, p0, q0⟩ := HXA.out _ (Below.refl _ _)
      have HS : Hid (∀ X, Below wr.drew.heap.size wr.drew X → (X.cell? ⟨ga, oa + i * 9, none⟩ = some (.int .i64 sq) ∧ X.cell? ⟨ga, oa + i * 9 + 1, none⟩ = some (.int .i64 K) ∧ X.cell? ⟨ga, oa + i * 9 + 2, none⟩ = some (.int .i64 V) ∧ X.cell? ⟨ga, oa + i * 9 + 3, none⟩ = some (.int .i64 U) ∧ X.cell? ⟨ga, oa + i * 9 + 4, none⟩ = some (.int .i64 N) ∧ X.cell? ⟨ga, oa + i * 9 + 5, none⟩ = some (.int .i64 FL) ∧ X.cell? ⟨ga, oa + i * 9 + 6, none⟩ = some (.string US) ∧ X.cell? ⟨ga, oa + i * 9 + 7, none⟩ = some (.string NM) ∧ X.cell? ⟨ga, oa + i * 9 + 8, none⟩ = some (.string TX)) ∧ (X.cell? ⟨gb, ob + i * 9, none⟩ = some (.int .i64 sq) ∧ X.cell? ⟨gb, ob + i * 9 + 1, none⟩ = some (.int .i64 K) ∧ X.cell? ⟨gb, ob + i * 9 + 2, none⟩ = some (.int .i64 V) ∧ X.cell? ⟨gb, ob + i * 9 + 3, none⟩ = some (.int .i64 U) ∧ X.cell? ⟨gb, ob + i * 9 + 4, none⟩ = some (.int .i64 N) ∧ X.cell? ⟨gb, ob + i * 9 + 5, none⟩ = some (.int .i64 FL) ∧ X.cell? ⟨gb, ob + i * 9 + 6, none⟩ = some (.string US) ∧ X.cell? ⟨gb, ob + i * 9 + 7, none⟩ = some (.string NM) ∧ X.cell? ⟨gb, ob + i * 9 + 8, none⟩ = some (.string TX))) := fun X hX => by
        obtain ⟨ga2, oa2, gb2, ob2, e1, e2, p, q⟩ := HXA.out X hX
        cases e1
        cases e2
        exact ⟨p, q⟩
      have hi0 : (0 : Int) ≤ (i : Int) := by omega
      have hi1 : (i : Int) < (l.length : Int) := by omega
      clear hg HXA p0 q0
      go_wp2
      go_region_held3 (fun X => (X.cell? ⟨ga, oa + i * 9, none⟩ = some (.int .i64 sq) ∧ X.cell? ⟨ga, oa + i * 9 + 1, none⟩ = some (.int .i64 K) ∧ X.cell? ⟨ga, oa + i * 9 + 2, none⟩ = some (.int .i64 V) ∧ X.cell? ⟨ga, oa + i * 9 + 3, none⟩ = some (.int .i64 U) ∧ X.cell? ⟨ga, oa + i * 9 + 4, none⟩ = some (.int .i64 N) ∧ X.cell? ⟨ga, oa + i * 9 + 5, none⟩ = some (.int .i64 FL) ∧ X.cell? ⟨ga, oa + i * 9 + 6, none⟩ = some (.string US) ∧ X.cell? ⟨ga, oa + i * 9 + 7, none⟩ = some (.string NM) ∧ X.cell? ⟨ga, oa + i * 9 + 8, none⟩ = some (.string TX)) ∧ (X.cell? ⟨gb, ob + i * 9, none⟩ = some (.int .i64 sq) ∧ X.cell? ⟨gb, ob + i * 9 + 1, none⟩ = some (.int .i64 K) ∧ X.cell? ⟨gb, ob + i * 9 + 2, none⟩ = some (.int .i64 V) ∧ X.cell? ⟨gb, ob + i * 9 + 3, none⟩ = some (.int .i64 U) ∧ X.cell? ⟨gb, ob + i * 9 + 4, none⟩ = some (.int .i64 N) ∧ X.cell? ⟨gb, ob + i * 9 + 5, none⟩ = some (.int .i64 FL) ∧ X.cell? ⟨gb, ob + i * 9 + 6, none⟩ = some (.string US) ∧ X.cell? ⟨gb, ob + i * 9 + 7, none⟩ = some (.string NM) ∧ X.cell? ⟨gb, ob + i * 9 + 8, none⟩ = some (.string TX)))
        (first | exact HS.out _ (Below.refl _ _) | exact HS.out _ hb1)
        (first | (go_at_call 78; refine (HE.out _).mono ?_; rintro e w1 ⟨rfl, hb1⟩))
      all_goals
        go_wp2
        go_roundw
        case rel => exact ⟨i + 1, by omega, by go_num, hbd.trans (hb1.mono hbd.size)⟩
        case measure => simp [intOf]; omega
    · go_wp2
      go_ret
      exact ⟨rfl, hbel⟩

/-- Items of whatever make in a row of the call's own. -/
def RItm (B : Nat) (X : World) (g n cap : Nat) : Prop := ∃ l : List Itm, l.length = n ∧ RBuf itE B X X (.slice (some ⟨g, 0, none⟩) n cap) l
theorem RItm.later {B : Nat} {X Y : World} {g n cap : Nat} (h : RItm B X g n cap) (hb : Below X.heap.size X Y) : RItm B Y g n cap := by
  obtain ⟨l, h1, h2⟩ := h
  exact ⟨l, h1, (h2.later hb).here⟩
theorem RItm.at0 {B : Nat} {X : World} {g n cap : Nat} (h : RItm B X g n cap) {i : Nat} (hi : i < n) : (∃ z : Int, X.cell? ⟨g, i * 9, none⟩ = some (.int .i64 z)) ∧ X.frozen? ⟨g, i * 9, none⟩ = false ∧ ∀ z : Int, RItm B (X.setCell ⟨g, i * 9, none⟩ (.int .i64 z)) g n cap := by
  obtain ⟨l, rfl, h2⟩ := h
  have hx : l[i]? = some l[i] := List.getElem?_eq_getElem hi
  generalize l[i] = x at hx
  exact ⟨⟨_, h2.cell rfl i x hx 0 _ rfl⟩, h2.loose _, fun z => ⟨l.set i (z, ⟨x.2.kind, x.2.valid, x.2.uid, x.2.next, x.2.flags, x.2.user, x.2.name, x.2.text⟩), by simp, (h2.stored i x (z, ⟨x.2.kind, x.2.valid, x.2.uid, x.2.next, x.2.flags, x.2.user, x.2.name, x.2.text⟩) hx 0 (by decide) (.int .i64 z) rfl).here⟩⟩
theorem RItm.at1 {B : Nat} {X : World} {g n cap : Nat} (h : RItm B X g n cap) {i : Nat} (hi : i < n) : (∃ z : Int, X.cell? ⟨g, i * 9 + 1, none⟩ = some (.int .i64 z)) ∧ X.frozen? ⟨g, i * 9 + 1, none⟩ = false ∧ ∀ z : Int, RItm B (X.setCell ⟨g, i * 9 + 1, none⟩ (.int .i64 z)) g n cap := by
  obtain ⟨l, rfl, h2⟩ := h
  have hx : l[i]? = some l[i] := List.getElem?_eq_getElem hi
  generalize l[i] = x at hx
  exact ⟨⟨_, h2.cell rfl i x hx 1 _ rfl⟩, h2.loose _, fun z => ⟨l.set i (x.1, ⟨z, x.2.valid, x.2.uid, x.2.next, x.2.flags, x.2.user, x.2.name, x.2.text⟩), by simp, (h2.stored i x (x.1, ⟨z, x.2.valid, x.2.uid, x.2.next, x.2.flags, x.2.user, x.2.name, x.2.text⟩) hx 1 (by decide) (.int .i64 z) rfl).here⟩⟩
theorem RItm.at2 {B : Nat} {X : World} {g n cap : Nat} (h : RItm B X g n cap) {i : Nat} (hi : i < n) : (∃ z : Int, X.cell? ⟨g, i * 9 + 2, none⟩ = some (.int .i64 z)) ∧ X.frozen? ⟨g, i * 9 + 2, none⟩ = false ∧ ∀ z : Int, RItm B (X.setCell ⟨g, i * 9 + 2, none⟩ (.int .i64 z)) g n cap := by
  obtain ⟨l, rfl, h2⟩ := h
  have hx : l[i]? = some l[i] := List.getElem?_eq_getElem hi
  generalize l[i] = x at hx
  exact ⟨⟨_, h2.cell rfl i x hx 2 _ rfl⟩, h2.loose _, fun z => ⟨l.set i (x.1, ⟨x.2.kind, z, x.2.uid, x.2.next, x.2.flags, x.2.user, x.2.name, x.2.text⟩), by simp, (h2.stored i x (x.1, ⟨x.2.kind, z, x.2.uid, x.2.next, x.2.flags, x.2.user, x.2.name, x.2.text⟩) hx 2 (by decide) (.int .i64 z) rfl).here⟩⟩
theorem RItm.at3 {B : Nat} {X : World} {g n cap : Nat} (h : RItm B X g n cap) {i : Nat} (hi : i < n) : (∃ z : Int, X.cell? ⟨g, i * 9 + 3, none⟩ = some (.int .i64 z)) ∧ X.frozen? ⟨g, i * 9 + 3, none⟩ = false ∧ ∀ z : Int, RItm B (X.setCell ⟨g, i * 9 + 3, none⟩ (.int .i64 z)) g n cap := by
  obtain ⟨l, rfl, h2⟩ := h
  have hx : l[i]? = some l[i] := List.getElem?_eq_getElem hi
  generalize l[i] = x at hx
  exact ⟨⟨_, h2.cell rfl i x hx 3 _ rfl⟩, h2.loose _, fun z => ⟨l.set i (x.1, ⟨x.2.kind, x.2.valid, z, x.2.next, x.2.flags, x.2.user, x.2.name, x.2.text⟩), by simp, (h2.stored i x (x.1, ⟨x.2.kind, x.2.valid, z, x.2.next, x.2.flags, x.2.user, x.2.name, x.2.text⟩) hx 3 (by decide) (.int .i64 z) rfl).here⟩⟩
theorem RItm.at4 {B : Nat} {X : World} {g n cap : Nat} (h : RItm B X g n cap) {i : Nat} (hi : i < n) : (∃ z : Int, X.cell? ⟨g, i * 9 + 4, none⟩ = some (.int .i64 z)) ∧ X.frozen? ⟨g, i * 9 + 4, none⟩ = false ∧ ∀ z : Int, RItm B (X.setCell ⟨g, i * 9 + 4, none⟩ (.int .i64 z)) g n cap := by
  obtain ⟨l, rfl, h2⟩ := h
  have hx : l[i]? = some l[i] := List.getElem?_eq_getElem hi
  generalize l[i] = x at hx
  exact ⟨⟨_, h2.cell rfl i x hx 4 _ rfl⟩, h2.loose _, fun z => ⟨l.set i (x.1, ⟨x.2.kind, x.2.valid, x.2.uid, z, x.2.flags, x.2.user, x.2.name, x.2.text⟩), by simp, (h2.stored i x (x.1, ⟨x.2.kind, x.2.valid, x.2.uid, z, x.2.flags, x.2.user, x.2.name, x.2.text⟩) hx 4 (by decide) (.int .i64 z) rfl).here⟩⟩
theorem RItm.at5 {B : Nat} {X : World} {g n cap : Nat} (h : RItm B X g n cap) {i : Nat} (hi : i < n) : (∃ z : Int, X.cell? ⟨g, i * 9 + 5, none⟩ = some (.int .i64 z)) ∧ X.frozen? ⟨g, i * 9 + 5, none⟩ = false ∧ ∀ z : Int, RItm B (X.setCell ⟨g, i * 9 + 5, none⟩ (.int .i64 z)) g n cap := by
  obtain ⟨l, rfl, h2⟩ := h
  have hx : l[i]? = some l[i] := List.getElem?_eq_getElem hi
  generalize l[i] = x at hx
  exact ⟨⟨_, h2.cell rfl i x hx 5 _ rfl⟩, h2.loose _, fun z => ⟨l.set i (x.1, ⟨x.2.kind, x.2.valid, x.2.uid, x.2.next, z, x.2.user, x.2.name, x.2.text⟩), by simp, (h2.stored i x (x.1, ⟨x.2.kind, x.2.valid, x.2.uid, x.2.next, z, x.2.user, x.2.name, x.2.text⟩) hx 5 (by decide) (.int .i64 z) rfl).here⟩⟩
theorem RItm.at6 {B : Nat} {X : World} {g n cap : Nat} (h : RItm B X g n cap) {i : Nat} (hi : i < n) : (∃ z : ByteArray, X.cell? ⟨g, i * 9 + 6, none⟩ = some (.string z)) ∧ X.frozen? ⟨g, i * 9 + 6, none⟩ = false ∧ ∀ z : ByteArray, RItm B (X.setCell ⟨g, i * 9 + 6, none⟩ (.string z)) g n cap := by
  obtain ⟨l, rfl, h2⟩ := h
  have hx : l[i]? = some l[i] := List.getElem?_eq_getElem hi
  generalize l[i] = x at hx
  exact ⟨⟨_, h2.cell rfl i x hx 6 _ rfl⟩, h2.loose _, fun z => ⟨l.set i (x.1, ⟨x.2.kind, x.2.valid, x.2.uid, x.2.next, x.2.flags, z, x.2.name, x.2.text⟩), by simp, (h2.stored i x (x.1, ⟨x.2.kind, x.2.valid, x.2.uid, x.2.next, x.2.flags, z, x.2.name, x.2.text⟩) hx 6 (by decide) (.string z) rfl).here⟩⟩
theorem RItm.at7 {B : Nat} {X : World} {g n cap : Nat} (h : RItm B X g n cap) {i : Nat} (hi : i < n) : (∃ z : ByteArray, X.cell? ⟨g, i * 9 + 7, none⟩ = some (.string z)) ∧ X.frozen? ⟨g, i * 9 + 7, none⟩ = false ∧ ∀ z : ByteArray, RItm B (X.setCell ⟨g, i * 9 + 7, none⟩ (.string z)) g n cap := by
  obtain ⟨l, rfl, h2⟩ := h
  have hx : l[i]? = some l[i] := List.getElem?_eq_getElem hi
  generalize l[i] = x at hx
  exact ⟨⟨_, h2.cell rfl i x hx 7 _ rfl⟩, h2.loose _, fun z => ⟨l.set i (x.1, ⟨x.2.kind, x.2.valid, x.2.uid, x.2.next, x.2.flags, x.2.user, z, x.2.text⟩), by simp, (h2.stored i x (x.1, ⟨x.2.kind, x.2.valid, x.2.uid, x.2.next, x.2.flags, x.2.user, z, x.2.text⟩) hx 7 (by decide) (.string z) rfl).here⟩⟩
theorem RItm.at8 {B : Nat} {X : World} {g n cap : Nat} (h : RItm B X g n cap) {i : Nat} (hi : i < n) : (∃ z : ByteArray, X.cell? ⟨g, i * 9 + 8, none⟩ = some (.string z)) ∧ X.frozen? ⟨g, i * 9 + 8, none⟩ = false ∧ ∀ z : ByteArray, RItm B (X.setCell ⟨g, i * 9 + 8, none⟩ (.string z)) g n cap := by
  obtain ⟨l, rfl, h2⟩ := h
  have hx : l[i]? = some l[i] := List.getElem?_eq_getElem hi
  generalize l[i] = x at hx
  exact ⟨⟨_, h2.cell rfl i x hx 8 _ rfl⟩, h2.loose _, fun z => ⟨l.set i (x.1, ⟨x.2.kind, x.2.valid, x.2.uid, x.2.next, x.2.flags, x.2.user, x.2.name, z⟩), by simp, (h2.stored i x (x.1, ⟨x.2.kind, x.2.valid, x.2.uid, x.2.next, x.2.flags, x.2.user, x.2.name, z⟩) hx 8 (by decide) (.string z) rfl).here⟩⟩

set_option maxRecDepth 100000 in
set_option maxHeartbeats 4000000 in
theorem markItemS_any (l : List Itm) (v : Value) (k B : Nat) (w : World) (h : RBuf itE B w w v l) (hk : 1 ≤ k) (hk2 : k + 9 * l.length ≤ 1099511627776) :
    Calls Tryz.prog 40 #[v, .int .i64 (k : Int)] w fun e w' => e = .returned (.int .i64 ((k + 9 * l.length : Nat) : Int)) ∧ w.grownBy w' v.ownBlock := by
  rcases h.own.2 with ⟨rfl, h0⟩ | ⟨g, cap, cur, rfl, hg, hh, hnc, hcp, hcs, htake⟩
  · obtain rfl := List.length_eq_zero_iff.1 h0
    go_enter Tryz.func40, Tryz.ntmps40
    go_wp2
    go_loop [1, 5] (fun kv iv => kv = .int .i64 (k : Int) ∧ iv = .int .i64 0) (fun _ _ => 0)
    case atStart => exact ⟨rfl, rfl⟩
    case round =>
      obtain ⟨rfl, rfl⟩ := hrel
      go_wp2
      go_ret
      exact ⟨rfl, World.grownBy.refl _ _⟩
  · clear hh hcs htake hcp
    have R0 : RItm B w g l.length cap := ⟨l, rfl, h⟩
    clear h
    generalize l.length = n at *
    go_enter Tryz.func40, Tryz.ntmps40
    go_wp2
    go_loopw [1, 5] (fun kv iv wr => ∃ i : Nat, i ≤ n ∧ iv = .int .i64 (i : Int) ∧ kv = .int .i64 ((k + 9 * i : Nat) : Int) ∧ RItm B wr g n cap ∧ w.grownBy wr (some g)) (fun _ iv _ => n - (intOf iv).toNat)
    case atStart => exact ⟨0, by omega, rfl, rfl, R0, World.grownBy.refl _ _⟩
    case round =>
      clear R0
      obtain ⟨i, hi, rfl, rfl, R, hG⟩ := hrel
      by_cases hlt : i < n
      · have hi0 : (0 : Int) ≤ (i : Int) := by omega
        have hi1 : (i : Int) < (n : Int) := by omega
        obtain ⟨K, hK⟩ : ∃ K : Nat, K = k + 9 * i := ⟨_, rfl⟩
        have HK := Lib.hid hK
        rw [← hK]
        have hK1 : K + 9 ≤ 4611686018427387904 := by omega
        have hK2 : 1 ≤ K := by omega
        clear hK
        obtain ⟨⟨z0, c0⟩, f0, R0⟩ := R.at0 hlt
        have R0' : RItm B (wr.setCell ⟨g, i * 9, none⟩ (.int .i64 ((K : Int)))) g n cap := R0 _
        have G0 : w.grownBy (wr.setCell ⟨g, i * 9, none⟩ (.int .i64 ((K : Int)))) (some g) := hG.trans (grownBy_store _ g (i * 9) (.int .i64 ((K : Int))))
        obtain ⟨⟨z1, c1⟩, f1, R1⟩ := R0'.at1 hlt
        have R1' : RItm B ((wr.setCell ⟨g, i * 9, none⟩ (.int .i64 ((K : Int)))).setCell ⟨g, i * 9 + 1, none⟩ (.int .i64 ((K : Int) + 1))) g n cap := R1 _
        have G1 : w.grownBy ((wr.setCell ⟨g, i * 9, none⟩ (.int .i64 ((K : Int)))).setCell ⟨g, i * 9 + 1, none⟩ (.int .i64 ((K : Int) + 1))) (some g) := G0.trans (grownBy_store _ g (i * 9 + 1) (.int .i64 ((K : Int) + 1)))
        obtain ⟨⟨z2, c2⟩, f2, R2⟩ := R1'.at2 hlt
        have R2' : RItm B (((wr.setCell ⟨g, i * 9, none⟩ (.int .i64 ((K : Int)))).setCell ⟨g, i * 9 + 1, none⟩ (.int .i64 ((K : Int) + 1))).setCell ⟨g, i * 9 + 2, none⟩ (.int .i64 ((K : Int) + 1 + 1))) g n cap := R2 _
        have G2 : w.grownBy (((wr.setCell ⟨g, i * 9, none⟩ (.int .i64 ((K : Int)))).setCell ⟨g, i * 9 + 1, none⟩ (.int .i64 ((K : Int) + 1))).setCell ⟨g, i * 9 + 2, none⟩ (.int .i64 ((K : Int) + 1 + 1))) (some g) := G1.trans (grownBy_store _ g (i * 9 + 2) (.int .i64 ((K : Int) + 1 + 1)))
        obtain ⟨⟨z3, c3⟩, f3, R3⟩ := R2'.at3 hlt
        have R3' : RItm B ((((wr.setCell ⟨g, i * 9, none⟩ (.int .i64 ((K : Int)))).setCell ⟨g, i * 9 + 1, none⟩ (.int .i64 ((K : Int) + 1))).setCell ⟨g, i * 9 + 2, none⟩ (.int .i64 ((K : Int) + 1 + 1))).setCell ⟨g, i * 9 + 3, none⟩ (.int .i64 ((K : Int) + 1 + 1 + 1))) g n cap := R3 _
        have G3 : w.grownBy ((((wr.setCell ⟨g, i * 9, none⟩ (.int .i64 ((K : Int)))).setCell ⟨g, i * 9 + 1, none⟩ (.int .i64 ((K : Int) + 1))).setCell ⟨g, i * 9 + 2, none⟩ (.int .i64 ((K : Int) + 1 + 1))).setCell ⟨g, i * 9 + 3, none⟩ (.int .i64 ((K : Int) + 1 + 1 + 1))) (some g) := G2.trans (grownBy_store _ g (i * 9 + 3) (.int .i64 ((K : Int) + 1 + 1 + 1)))
        obtain ⟨⟨z4, c4⟩, f4, R4⟩ := R3'.at4 hlt
        have R4' : RItm B (((((wr.setCell ⟨g, i * 9, none⟩ (.int .i64 ((K : Int)))).setCell ⟨g, i * 9 + 1, none⟩ (.int .i64 ((K : Int) + 1))).setCell ⟨g, i * 9 + 2, none⟩ (.int .i64 ((K : Int) + 1 + 1))).setCell ⟨g, i * 9 + 3, none⟩ (.int .i64 ((K : Int) + 1 + 1 + 1))).setCell ⟨g, i * 9 + 4, none⟩ (.int .i64 ((K : Int) + 1 + 1 + 1 + 1))) g n cap := R4 _
        have G4 : w.grownBy (((((wr.setCell ⟨g, i * 9, none⟩ (.int .i64 ((K : Int)))).setCell ⟨g, i * 9 + 1, none⟩ (.int .i64 ((K : Int) + 1))).setCell ⟨g, i * 9 + 2, none⟩ (.int .i64 ((K : Int) + 1 + 1))).setCell ⟨g, i * 9 + 3, none⟩ (.int .i64 ((K : Int) + 1 + 1 + 1))).setCell ⟨g, i * 9 + 4, none⟩ (.int .i64 ((K : Int) + 1 + 1 + 1 + 1))) (some g) := G3.trans (grownBy_store _ g (i * 9 + 4) (.int .i64 ((K : Int) + 1 + 1 + 1 + 1)))
        obtain ⟨⟨z5, c5⟩, f5, R5⟩ := R4'.at5 hlt
        have R5' : RItm B ((((((wr.setCell ⟨g, i * 9, none⟩ (.int .i64 ((K : Int)))).setCell ⟨g, i * 9 + 1, none⟩ (.int .i64 ((K : Int) + 1))).setCell ⟨g, i * 9 + 2, none⟩ (.int .i64 ((K : Int) + 1 + 1))).setCell ⟨g, i * 9 + 3, none⟩ (.int .i64 ((K : Int) + 1 + 1 + 1))).setCell ⟨g, i * 9 + 4, none⟩ (.int .i64 ((K : Int) + 1 + 1 + 1 + 1))).setCell ⟨g, i * 9 + 5, none⟩ (.int .i64 ((K : Int) + 1 + 1 + 1 + 1 + 1))) g n cap := R5 _
        have G5 : w.grownBy ((((((wr.setCell ⟨g, i * 9, none⟩ (.int .i64 ((K : Int)))).setCell ⟨g, i * 9 + 1, none⟩ (.int .i64 ((K : Int) + 1))).setCell ⟨g, i * 9 + 2, none⟩ (.int .i64 ((K : Int) + 1 + 1))).setCell ⟨g, i * 9 + 3, none⟩ (.int .i64 ((K : Int) + 1 + 1 + 1))).setCell ⟨g, i * 9 + 4, none⟩ (.int .i64 ((K : Int) + 1 + 1 + 1 + 1))).setCell ⟨g, i * 9 + 5, none⟩ (.int .i64 ((K : Int) + 1 + 1 + 1 + 1 + 1))) (some g) := G4.trans (grownBy_store _ g (i * 9 + 5) (.int .i64 ((K : Int) + 1 + 1 + 1 + 1 + 1)))
        clear R0 R1 R2 R3 R4 R5 R0' R1' R2' R3' R4' G0 G1 G2 G3 G4 R hG
        go_wp2_with fail
        clear c0 c1 c2 c3 c4 c5 f0 f1 f2 f3 f4 f5
        generalize ((((((wr.setCell ⟨g, i * 9, none⟩ (.int .i64 ((K : Int)))).setCell ⟨g, i * 9 + 1, none⟩ (.int .i64 ((K : Int) + 1))).setCell ⟨g, i * 9 + 2, none⟩ (.int .i64 ((K : Int) + 1 + 1))).setCell ⟨g, i * 9 + 3, none⟩ (.int .i64 ((K : Int) + 1 + 1 + 1))).setCell ⟨g, i * 9 + 4, none⟩ (.int .i64 ((K : Int) + 1 + 1 + 1 + 1))).setCell ⟨g, i * 9 + 5, none⟩ (.int .i64 ((K : Int) + 1 + 1 + 1 + 1 + 1))) = X5 at R5' G5 ⊢
        refine (markText_at _ (K + 6) _ (by omega) (by omega) (by omega)).mono ?_
        rintro e w6 ⟨rfl, k6⟩
        obtain ⟨⟨z6, c6⟩, f6, R6⟩ := (R5'.later k6).at6 hlt
        have R6' := R6 (mark (K + 6))
        have G6 := (G5.trans (grownBy_of_below k6 (some g))).trans (grownBy_store w6 g (i * 9 + 6) (.string (mark (K + 6))))
        clear R5' G5 k6 R6
        go_wp2_with fail
        clear c6 f6
        generalize w6.setCell ⟨g, i * 9 + 6, none⟩ (.string (mark (K + 6))) = X6 at R6' G6 ⊢
        refine (markText_at _ (K + 7) _ (by omega) (by omega) (by omega)).mono ?_
        rintro e w7 ⟨rfl, k7⟩
        obtain ⟨⟨z7, c7⟩, f7, R7⟩ := (R6'.later k7).at7 hlt
        have R7' := R7 (mark (K + 7))
        have G7 := (G6.trans (grownBy_of_below k7 (some g))).trans (grownBy_store w7 g (i * 9 + 7) (.string (mark (K + 7))))
        clear R6' G6 k7 R7
        go_wp2_with fail
        clear c7 f7
        generalize w7.setCell ⟨g, i * 9 + 7, none⟩ (.string (mark (K + 7))) = X7 at R7' G7 ⊢
        refine (markText_at _ (K + 8) _ (by omega) (by omega) (by omega)).mono ?_
        rintro e w8 ⟨rfl, k8⟩
        obtain ⟨⟨z8, c8⟩, f8, R8⟩ := (R7'.later k8).at8 hlt
        have R8' := R8 (mark (K + 8))
        have G8 := (G7.trans (grownBy_of_below k8 (some g))).trans (grownBy_store w8 g (i * 9 + 8) (.string (mark (K + 8))))
        clear R7' G7 k8 R8
        go_wp2
        exact ⟨⟨i + 1, by omega, by simp, by rw [HK.out]; first | go_num | (congr 1; omega), R8', G8⟩, by first | omega | (simp [intOf]; omega)⟩
      · have hge : ¬ (i : Int) < (n : Int) := by omega
        have hin : Hid (i = n) := by show i = n; omega
        clear R
        go_wp2
        go_ret
        exact ⟨by rw [← hin.out]; rfl, hG⟩

end Go.Proofs.YtieenkloiicnkaaGreatDoor
