/- Texts of our own, joined. -/
import Derived.Test.YtahebgceoidebacJg
import Derived.Test.YtahebgceoidebacJh
import Derived.Lib.Hide
/- ItemsOf of both. -/
namespace Go.Proofs.Ytahebgceoidebac
open Go.RowKit

/-- All items, segment by segment. -/
def its : List Sg → List Itm
  | [] => []
  | s :: u => s.items ++ its u
theorem its_append : ∀ (u v : List Sg), its (u ++ v) = its u ++ its v
  | [], v => rfl
  | s :: u, v => by simp [its, its_append u v]
theorem its_take {u : List Sg} {i : Nat} {s : Sg} (h : u[i]? = some s) : its (u.take (i + 1)) = its (u.take i) ++ s.items := by
  rw [List.take_add_one, h, its_append]; simp [its]
theorem its_len : ∀ u : List Sg, (its u).length = gIts u
  | [] => rfl
  | s :: u => by simp [its, gIts, its_len u]
theorem gIts_take_le (u : List Sg) (i : Nat) : gIts (u.take i) ≤ gIts u := by
  have := gIts_append (u.take i) (u.drop i)
  rw [List.take_append_drop] at this; omega

set_option maxRecDepth 100000 in
theorem cloneI_any (l : List Itm) (v : Value) (w : World) (h : Rows' itE w v l) (hl : l.length ≤ 1073741824) :
    Calls Try.prog 30 #[v] w fun e w' => ∃ v', e = .returned v' ∧ RBuf itE w.heap.size w w' v' l := by
  have q : ∀ (w : World) (a : Option Addr) (n c n' c' : Nat), (binOp .eql 30 (.slice a n c) (.slice none n' c')).run Try.prog w = .ok (.bool a.isNone) w := fun w a n c n' c' => Lib.run_eql_slice_nil w _ _ a n c n' c' Try.underlying30
  have hv : ∃ (a : Option Addr) (c : Nat), v = .slice a l.length c ∧ (a = none → l = []) := by
    rcases h with ⟨rfl, a, c, rfl⟩ | ⟨g, off, cap, rfl, _⟩
    · exact ⟨a, c, rfl, fun _ => rfl⟩
    · exact ⟨_, _, rfl, fun e => by cases e⟩
  obtain ⟨a, c, rfl, hn⟩ := hv
  cases a with
  | none =>
    obtain rfl := hn rfl
    clear h hn
    go_enter Try.func30, Try.ntmps30
    go_wp2
    go_ret
    exact ⟨_, rfl, RBuf.nil itE w⟩
  | some p =>
    clear hn
    have hb := (RBuf.fresh itE w).here
    have hx := Lib.hid (h.later (belNew w (.cells #[] itE.ty)))
    clear h
    go_enter Try.func30, Try.ntmps30
    go_wp2_with (at_builtin; refine wpList_append_rd rfl _ _ itE rfl w.heap.size _ [] rfl hb _ l rfl hx.out (by simp [itE]; omega) ?_; intro v1 w1 r1 g1 _; obtain ⟨a1, c1, rfl⟩ := r1.form)
    go_ret
    rw [List.nil_append] at r1
    exact ⟨_, rfl, ⟨r1.own, ((Below.refl w.heap.size w).alloc (Nat.le_refl _) _).grown g1 (by simp) (fun k hk => by have : w.heap.size = k := Option.some.inj hk; omega), r1.le⟩⟩

set_option maxRecDepth 100000 in
set_option maxHeartbeats 4000000 in
theorem copyItems_any (l : List Itm) (v : Value) (w : World) (h : Rows' itE w v l) (hl : l.length ≤ 1048576) (hz : ∀ x ∈ l, x.2.user.size ≤ 1048576 ∧ x.2.name.size ≤ 1048576 ∧ x.2.text.size ≤ 1048576) :
    Calls Try.prog 17 #[v] w fun e w' => ∃ v', e = .returned v' ∧ RBuf itE w.heap.size w w' v' l := by
  have HC := Lib.hid (cloneI_any l v w h (by omega))
  have HZ := Lib.hid hz
  obtain ⟨ad, cap, rfl, _⟩ := h.items
  clear h hz
  go_enter Try.func17, Try.ntmps17
  go_wp2_with fail
  refine HC.out.mono ?_
  rintro e w1 ⟨v1, rfl, R1⟩
  obtain ⟨a1, c1, rfl⟩ := R1.form
  clear HC
  go_wp2
  go_loopw [9] (fun iv wr => ∃ i : Nat, i ≤ l.length ∧ iv = .int .i64 (i : Int) ∧ RBuf itE w.heap.size w wr (.slice a1 l.length c1) l) (fun iv _ => l.length - (intOf iv).toNat)
  case atStart => exact ⟨0, by omega, rfl, R1⟩
  case round =>
    clear R1
    obtain ⟨i, hi, rfl, I⟩ := hrel
    by_cases hlt : i < l.length
    · obtain ⟨x, hgx⟩ : ∃ x, l[i]? = some x := ⟨_, List.getElem?_eq_getElem hlt⟩
      obtain ⟨zu, zn, zt⟩ := HZ.out _ (List.mem_of_getElem? hgx)
      have HIT := Lib.hid I
      rcases I.own.2 with ⟨h1, h2⟩ | ⟨g, cp, cur, hv, _⟩
      · omega
      · obtain ⟨rfl, rfl⟩ : a1 = some ⟨g, 0, none⟩ ∧ c1 = cp := by simpa using hv
        clear hv
        have hi0 : (0 : Int) ≤ (i : Int) := by omega
        have hi1 : (i : Int) < (l.length : Int) := by omega
        have HF : Hid (∀ X, Below wr.heap.size wr X → RBuf itE w.heap.size w X (.slice (some ⟨g, 0, none⟩) l.length c1) l) := fun X hX => I.later hX
        obtain ⟨sq, r⟩ := x
        simp only at zu zn zt
        have HCI := Lib.hid (copyItem_any sq r wr (by omega) (by omega) (by omega))
        unfold itV at HCI
        have p0 := I.cell rfl i _ hgx 0 _ rfl
        have p1 := I.cell rfl i _ hgx 1 _ rfl
        have p2 := I.cell rfl i _ hgx 2 _ rfl
        have p3 := I.cell rfl i _ hgx 3 _ rfl
        have p4 := I.cell rfl i _ hgx 4 _ rfl
        have p5 := I.cell rfl i _ hgx 5 _ rfl
        have p6 := I.cell rfl i _ hgx 6 _ rfl
        have p7 := I.cell rfl i _ hgx 7 _ rfl
        have p8 := I.cell rfl i _ hgx 8 _ rfl
        change wr.cell? ⟨g, i * 9, none⟩ = some (.int .i64 sq) at p0
        change wr.cell? ⟨g, i * 9 + 1, none⟩ = some (.int .i64 r.kind) at p1
        change wr.cell? ⟨g, i * 9 + 2, none⟩ = some (.int .i64 r.valid) at p2
        change wr.cell? ⟨g, i * 9 + 3, none⟩ = some (.int .i64 r.uid) at p3
        change wr.cell? ⟨g, i * 9 + 4, none⟩ = some (.int .i64 r.next) at p4
        change wr.cell? ⟨g, i * 9 + 5, none⟩ = some (.int .i64 r.flags) at p5
        change wr.cell? ⟨g, i * 9 + 6, none⟩ = some (.string r.user) at p6
        change wr.cell? ⟨g, i * 9 + 7, none⟩ = some (.string r.name) at p7
        change wr.cell? ⟨g, i * 9 + 8, none⟩ = some (.string r.text) at p8
        have HGX := Lib.hid hgx
        clear hgx I HIT
        go_wp2_with fail
        clear p0 p1 p2 p3 p4 p5 p6 p7 p8
        refine HCI.out.mono ?_
        rintro e w2 ⟨rfl, k2⟩
        have I2 := HF.out _ k2
        have p0 := I2.cell rfl i _ HGX.out 0 _ rfl
        have p1 := I2.cell rfl i _ HGX.out 1 _ rfl
        have p2 := I2.cell rfl i _ HGX.out 2 _ rfl
        have p3 := I2.cell rfl i _ HGX.out 3 _ rfl
        have p4 := I2.cell rfl i _ HGX.out 4 _ rfl
        have p5 := I2.cell rfl i _ HGX.out 5 _ rfl
        have p6 := I2.cell rfl i _ HGX.out 6 _ rfl
        have p7 := I2.cell rfl i _ HGX.out 7 _ rfl
        have p8 := I2.cell rfl i _ HGX.out 8 _ rfl
        change w2.cell? ⟨g, i * 9, none⟩ = some (.int .i64 sq) at p0
        change w2.cell? ⟨g, i * 9 + 1, none⟩ = some (.int .i64 r.kind) at p1
        change w2.cell? ⟨g, i * 9 + 2, none⟩ = some (.int .i64 r.valid) at p2
        change w2.cell? ⟨g, i * 9 + 3, none⟩ = some (.int .i64 r.uid) at p3
        change w2.cell? ⟨g, i * 9 + 4, none⟩ = some (.int .i64 r.next) at p4
        change w2.cell? ⟨g, i * 9 + 5, none⟩ = some (.int .i64 r.flags) at p5
        change w2.cell? ⟨g, i * 9 + 6, none⟩ = some (.string r.user) at p6
        change w2.cell? ⟨g, i * 9 + 7, none⟩ = some (.string r.name) at p7
        change w2.cell? ⟨g, i * 9 + 8, none⟩ = some (.string r.text) at p8
        have f0 := I2.loose (i * 9)
        have f1 := I2.loose (i * 9 + 1)
        have f2 := I2.loose (i * 9 + 2)
        have f3 := I2.loose (i * 9 + 3)
        have f4 := I2.loose (i * 9 + 4)
        have f5 := I2.loose (i * 9 + 5)
        have f6 := I2.loose (i * 9 + 6)
        have f7 := I2.loose (i * 9 + 7)
        have f8 := I2.loose (i * 9 + 8)
        have s0 := setCell_same p0
        have s1 := setCell_same p1
        have s2 := setCell_same p2
        have s3 := setCell_same p3
        have s4 := setCell_same p4
        have s5 := setCell_same p5
        have s6 := setCell_same p6
        have s7 := setCell_same p7
        have s8 := setCell_same p8
        have HI2 := Lib.hid I2
        clear I2 HF HCI k2
        go_wp2
        exact ⟨⟨i + 1, by omega, by simp, by first | exact HI2.out | (simp only [s0, s1, s2, s3, s4, s5, s6, s7, s8]; exact HI2.out)⟩, by first | omega | (simp [intOf]; omega)⟩
    · go_wp2
      go_ret
      exact ⟨_, rfl, I⟩

set_option maxRecDepth 100000 in
set_option maxHeartbeats 4000000 in
theorem specItemsOf_any (L : Lg) (v : Value) (w : World) (h : LRd w v L) (hl : L.used.length + gIts L.used ≤ 1048576) :
    Calls Try.prog 5 #[v] w fun e w' => ∃ v', e = .returned v' ∧ RBuf itE w.heap.size w w' v' (its L.used) := by
  obtain ⟨va, vb, vu, rfl, _, hu⟩ := h
  obtain ⟨ad, cap, rfl, hrow⟩ := hu.segs
  have HR : Hid _ := hrow
  clear hu hrow
  have b0 := belNew w (.cells #[va, vb, .int .i64 L.segs, .slice ad L.used.length cap, .int .i64 L.ng, .int .i64 L.ns, .int .i64 L.st, .int .i64 L.nv] 37)
  have q0 := Box.new w #[va, vb, .int .i64 L.segs, .slice ad L.used.length cap, .int .i64 L.ng, .int .i64 L.ns, .int .i64 L.st, .int .i64 L.nv] 37
  obtain ⟨W, hW⟩ : ∃ W, w.alloc (.cells #[va, vb, .int .i64 L.segs, .slice ad L.used.length cap, .int .i64 L.ng, .int .i64 L.ns, .int .i64 L.st, .int .i64 L.nv] 37) = W := ⟨_, rfl⟩
  rw [hW] at q0 b0
  have HW := Lib.hid hW
  clear hW
  have HGL := Lib.hid (fun i => gIts_take_le L.used i)
  obtain ⟨n, hn⟩ : ∃ n, L.used.length = n := ⟨_, rfl⟩
  rw [hn] at hl q0 HW ⊢
  have HN := Lib.hid hn
  clear hn
  have I0 := RBuf.fresh itE W
  go_enter Try.func5, Try.ntmps5
  go_upto_region 1 with fail
  rw [HW.out]
  have HQ := Lib.hid q0
  have HB0 := Lib.hid b0
  clear q0 b0 HW
  go_wp2
  go_loopw [3, 4] (fun v iv wr => ∃ k : Nat, k ≤ n ∧ iv = .int .i64 (k : Int) ∧ RBuf itE W.heap.size W wr v (its (L.used.take k))) (fun _ iv _ => n - (intOf iv).toNat)
  case atStart => exact ⟨0, by omega, rfl, I0⟩
  case round =>
    clear I0
    obtain ⟨k, hk, rfl, I⟩ := hrel
    obtain ⟨c0, c1, c2, c3, c4, c5, c6, c7, _⟩ := (HQ.out.later I.bel).eightL
    by_cases hlt : k < n
    · obtain ⟨s, hgs⟩ : ∃ s, L.used[k]? = some s := ⟨_, List.getElem?_eq_getElem (by rw [HN.out]; exact hlt)⟩
      have bW := HB0.out.trans (I.bel.mono HB0.out.size)
      obtain ⟨ga, oa, am, nm, cm, rfl, a0, a1, a2, a4, rm⟩ := HR.out _ bW k s hgs
      have HT := Lib.hid (its_take hgs)
      have hlen : (its (L.used.take k)).length + s.items.length ≤ 1048576 := by
        have h1 := HGL.out (k + 1)
        rw [← its_len, HT.out, List.length_append] at h1
        omega
      obtain ⟨us, hus⟩ : ∃ us, its (L.used.take k) = us := ⟨_, rfl⟩
      rw [hus] at I hlen HT
      have hi0 : (0 : Int) ≤ (k : Int) := by omega
      have hi1 : (k : Int) < (n : Int) := by omega
      have HM := Lib.hid (rm.later bW)
      have HI := Lib.hid I
      obtain ⟨a3, p3, rfl⟩ := I.form
      clear hgs hus rm I
      go_wp2_with (at_builtin; refine wpList_append_rd rfl _ _ itE rfl W.heap.size _ us rfl HI.out.here _ s.items rfl HM.out (by show _ * 97 ≤ _; omega) ?_; intro v6 w6 r6 g6 at6)
      exact ⟨⟨k + 1, by omega, by simp, by rw [HT.out]; exact ⟨r6.own, HI.out.bel.grown g6 HI.out.le (fun q hq => (HI.out.own.lt q hq).1), r6.le⟩⟩, by first | omega | (simp [intOf]; omega)⟩
    · have HE : Hid (its L.used = its (L.used.take k)) := by show _ = _; rw [List.take_of_length_le (by rw [HN.out]; omega)]
      have HI := Lib.hid I
      clear I
      go_wp2
      go_ret
      exact ⟨_, rfl, by rw [HE.out]; exact HI.out.down (HB0.out.trans (HI.out.bel.mono HB0.out.size)) HB0.out.size⟩

set_option maxRecDepth 100000 in
set_option maxHeartbeats 4000000 in
theorem implItemsOf_any (L : Lg) (v : Value) (w : World) (h : LRd w v L) (hl : L.used.length + gIts L.used ≤ 1048576) (hz : ∀ b ∈ L.used, ∀ x ∈ b.items, x.2.user.size ≤ 1048576 ∧ x.2.name.size ≤ 1048576 ∧ x.2.text.size ≤ 1048576) :
    Calls Try.prog 7 #[v] w fun e w' => ∃ v', e = .returned v' ∧ RBuf itE w.heap.size w w' v' (its L.used) := by
  obtain ⟨va, vb, vu, rfl, _, hu⟩ := h
  obtain ⟨ad, cap, rfl, hrow⟩ := hu.segs
  have HR : Hid _ := hrow
  have HZ := Lib.hid hz
  clear hu hrow hz
  have b0 := belNew w (.cells #[va, vb, .int .i64 L.segs, .slice ad L.used.length cap, .int .i64 L.ng, .int .i64 L.ns, .int .i64 L.st, .int .i64 L.nv] 37)
  obtain ⟨W, hW⟩ : ∃ W, w.alloc (.cells #[va, vb, .int .i64 L.segs, .slice ad L.used.length cap, .int .i64 L.ng, .int .i64 L.ns, .int .i64 L.st, .int .i64 L.nv] 37) = W := ⟨_, rfl⟩
  have q0 := Box.new w #[va, vb, .int .i64 L.segs, .slice ad L.used.length cap, .int .i64 L.ng, .int .i64 L.ns, .int .i64 L.st, .int .i64 L.nv] 37
  rw [hW] at b0 q0
  have q3 := (q0.later (belNew W (.cells #[] 55))).cell 3 (.slice ad L.used.length cap) rfl
  clear q0
  have HW := Lib.hid hW
  clear hW
  have HGL := Lib.hid (fun i => gIts_take_le L.used i)
  obtain ⟨n, hn⟩ : ∃ n, L.used.length = n := ⟨_, rfl⟩
  rw [hn] at hl HW q3 ⊢
  have HN := Lib.hid hn
  clear hn
  have I0 := RBuf.fresh itE W
  go_enter Try.func7, Try.ntmps7
  go_upto_region 1 with fail
  rw [HW.out]
  have HB0 := Lib.hid b0
  clear b0 HW
  go_wp2
  clear q3
  go_loopw [3, 10] (fun v iv wr => ∃ k : Nat, k ≤ n ∧ iv = .int .i64 (k : Int) ∧ RBuf itE W.heap.size W wr v (its (L.used.take k))) (fun _ iv _ => n - (intOf iv).toNat)
  case atStart => exact ⟨0, by omega, rfl, I0⟩
  case round =>
    clear I0
    obtain ⟨k, hk, rfl, I⟩ := hrel
    by_cases hlt : k < n
    · obtain ⟨s, hgs⟩ : ∃ s, L.used[k]? = some s := ⟨_, List.getElem?_eq_getElem (by rw [HN.out]; exact hlt)⟩
      have bW := HB0.out.trans (I.bel.mono HB0.out.size)
      obtain ⟨ga, oa, am, nm, cm, rfl, a0, a1, a2, a4, rm⟩ := HR.out _ bW k s hgs
      have HT := Lib.hid (its_take hgs)
      have hlen : (its (L.used.take k)).length + s.items.length ≤ 1048576 := by
        have h1 := HGL.out (k + 1)
        rw [← its_len, HT.out, List.length_append] at h1
        omega
      have hzx := HZ.out s (List.mem_of_getElem? hgs)
      obtain ⟨us, hus⟩ : ∃ us, its (L.used.take k) = us := ⟨_, rfl⟩
      rw [hus] at I hlen HT
      have hi0 : (0 : Int) ≤ (k : Int) := by omega
      have hi1 : (k : Int) < (n : Int) := by omega
      have I4 := I.alloc (.cells #[.int .i64 s.no, .int .i64 s.gen, .int .i64 s.ende, .slice am nm cm] 47)
      have HCP := Lib.hid (copyItems_any s.items (.slice am nm cm) _ (rm.later (bW.alloc bW.size (.cells #[.int .i64 s.no, .int .i64 s.gen, .int .i64 s.ende, .slice am nm cm] 47))) (by omega) hzx)
      obtain ⟨a3, p3, rfl⟩ := I.form
      clear hgs hus rm hzx I
      go_wp2_with fail
      refine HCP.out.mono ?_
      rintro e w5 ⟨v5, rfl, R5⟩
      have I5 := I4.later R5.bel
      have HI := Lib.hid I5
      have HM := Lib.hid R5.rows
      obtain ⟨a5, c5, rfl⟩ := R5.form
      clear I4 I5 R5 HCP a0 a1 a2 a4
      go_wp2_with (at_builtin; refine wpList_append_rd rfl _ _ itE rfl W.heap.size _ us rfl HI.out.here _ s.items rfl HM.out (by show _ * 97 ≤ _; omega) ?_; intro v6 w6 r6 g6 at6)
      exact ⟨⟨k + 1, by omega, by simp, by rw [HT.out]; exact ⟨r6.own, HI.out.bel.grown g6 HI.out.le (fun q hq => (HI.out.own.lt q hq).1), r6.le⟩⟩, by first | omega | (simp [intOf]; omega)⟩
    · have HE : Hid (its L.used = its (L.used.take k)) := by show _ = _; rw [List.take_of_length_le (by rw [HN.out]; omega)]
      have HI := Lib.hid I
      clear I
      go_wp2
      go_ret
      exact ⟨_, rfl, by rw [HE.out]; exact HI.out.down (HB0.out.trans (HI.out.bel.mono HB0.out.size)) HB0.out.size⟩

end Go.Proofs.Ytahebgceoidebac
