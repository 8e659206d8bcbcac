/- For every disk and every check, WriteCheck answers as its model; it writes into no argument, its answer owns its memory, and nothing that was there is changed. Its conditions: the variable of the library that errors.As reads and the table of the sums hold what the program's text lays there (the card ties both to the text). -/
import Derived.Test.YtieenkloiicnkaaGreatDoorJp
import Derived.Test.YtieenkloiicnkaaGreatDoorJq
import Derived.Test.YtieenkloiicnkaaGreatDoorTie
import Derived.Test.YtieenkloiicnkaaGreatDoorCards
import Derived.ProofKit
import Derived.OpenShut
import Derived.LaidMore
import Derived.OpenVars
import Derived.Stop.Joined
import Derived.SevenTiedAt
import Derived.Below
import Derived.Deep.RegionHeld3
namespace Go.Proofs.YtieenkloiicnkaaGreatDoor
open Go.ChangeShapes Go.WideShapes Go.ChangeAt Go.RowKit
open Go.ChangeMaps (open_string shut_string)
set_option linter.unusedVariables false

theorem keepC {C : World → Prop} {W x y : World} (HS : ∀ x, Below W.heap.size W x → C x) (h : C x ∧ Below W.heap.size W x) (hb : Below x.heap.size x y) : C y ∧ Below W.heap.size W y :=
  ⟨HS _ (h.2.trans (hb.mono h.2.size)), h.2.trans (hb.mono h.2.size)⟩
theorem keepCs {C : World → Prop} {W x : World} {g : Nat} {y z : Value} (HS : ∀ x, Below W.heap.size W x → C x) (hg : W.heap.size ≤ g) (h : C x ∧ Below W.heap.size W x) : C ((x.setCell ⟨g, 0, none⟩ y).setCell ⟨g, 1, none⟩ z) ∧ Below W.heap.size W ((x.setCell ⟨g, 0, none⟩ y).setCell ⟨g, 1, none⟩ z) :=
  have hb := (h.2.setCell (p := ⟨g, 0, none⟩) hg y).setCell (p := ⟨g, 1, none⟩) hg z
  ⟨HS _ hb, hb⟩
theorem wcO_small {d : Dk} {c : Ck} (h : d.small) (hc : d.count ≤ 4000000) : ((wcO d c).getD d).small ∧ ((wcO d c).getD d).count ≤ 4000010 := by
  cases hw : wcO d c with
  | none => exact ⟨h, by show d.count ≤ _; omega⟩
  | some D =>
    obtain ⟨h1, _⟩ := wcO_ok hw
    refine ⟨(Dk.ok_small h1).1, ?_⟩
    have := h1.2.1
    have := h1.2.2.1
    show D.count ≤ _
    unfold Dk.count
    omega

set_option maxRecDepth 100000 in
set_option maxHeartbeats 1000000 in
theorem szCheck_at (c : Ck) (a : Option Addr) (cap : Nat) (left : Int) (w : World) (h1 : 0 ≤ left) (h2 : left ≤ 1048576) (hl : c.refs.length ≤ 9223372036854775807) :
    Calls Tryz.prog 15 #[.agg #[.int .i64 c.st, .int .i64 c.ng, .int .i64 c.ns, .int .i64 c.nv, .slice a c.refs.length cap], .int .i64 left] w fun e w' => (∃ r : Int, e = .returned (.int .i64 r) ∧ (0 ≤ r → c.refs.length ≤ 1048576)) ∧ Below w.heap.size w w' := by
  have X0 := Box.new w #[.int .i64 c.st, .int .i64 c.ng, .int .i64 c.ns, .int .i64 c.nv, .slice a c.refs.length cap] 42
  have b0 := belNew w (.cells #[.int .i64 c.st, .int .i64 c.ng, .int .i64 c.ns, .int .i64 c.nv, .slice a c.refs.length cap] 42)
  obtain ⟨x0, x1, x2, x3, x4⟩ := X0.fiveW
  clear X0
  go_enter Tryz.func15, Tryz.ntmps15
  go_wp2_with fail
  refine (szRefS_any c.refs a cap left _ h1 h2 hl).mono ?_
  rintro e w1 ⟨⟨r, rfl, hr, hs⟩, rfl⟩
  clear x0 x1 x2 x3 x4
  by_cases hn : r < 0
  · go_wp2
    go_ret
    exact ⟨⟨-1, rfl, fun h => by omega⟩, b0⟩
  · have HR := Lib.hid hr
    clear hr
    go_wp2
    go_ret
    exact ⟨⟨r, rfl, fun h => by have := HR.out h; omega⟩, b0⟩

set_option maxRecDepth 100000 in
set_option maxHeartbeats 8000000 in
theorem walk_FnExactWriteCheck (v : Value) (d : Dk) (u : Value) (c : Ck) {w : World} (hd : DIn w v d) (h : CIn w u c) (hts : ErrTab w ∧ SumTab w) :
    Calls Tryz.prog 4 #[v, u] w fun e w' => e = .returned (.bool true) ∧ Below w.heap.size w w' := by
  obtain ⟨ht, hs⟩ := hts
  obtain ⟨va, vb, rfl, _⟩ := id hd
  obtain ⟨a, cap, rfl, hr, hl⟩ := h
  obtain ⟨st, ng, ns, nv, rs⟩ := c
  simp only at hr hl
  have HT : Hid (∀ x, Below w.heap.size w x → ErrTab x ∧ SumTab x) := fun x hx => ⟨(hx.cell (p := ⟨0, 0, none⟩) (World.block_lt_of_cell? _ _ ht)).trans ht, hs.later hx⟩
  have HTO := Lib.hid (fun (x : World) (hx : Rows' lrfE x (.slice a rs.length cap) rs) (hn : rs.length ≤ 1048576) => toCheck_any ⟨st, ng, ns, nv, rs⟩ a rs.length cap x hx hn)
  have HEQ := Lib.hid (fun (x : World) (p p' : Option Addr) (q q' : Nat) (hx : Rows' rfE x (.slice p rs.length q) rs) (hx' : Rows' rfE x (.slice p' rs.length q') rs) (hn : rs.length ≤ 1048576) => eqCheck_same ⟨st, ng, ns, nv, rs⟩ p p' q q' x hx hx' (by show rs.length ≤ _; omega))
  have HSZ := Lib.hid (fun (x : World) (left : Int) h1 h2 => szCheck_at ⟨st, ng, ns, nv, rs⟩ a cap left x h1 h2 hl)
  have HMC := Lib.hid (fun (x : World) (p : Option Addr) (q k B : Nat) (hx : RBuf rfE B x x (.slice p rs.length q) rs) (hk : k + 2 * rs.length ≤ 1099511627776) => markCheck_put ⟨st, ng, ns, nv, rs⟩ p q k B x x hx hk)
  have HSP0 := Lib.hid (fun (x : World) (vv : Value) (B : Nat) (p : Option Addr) (q T : Nat) (ho : DOwn B T x vv d) (hsm : d.small) (hts : ∀ s ∈ d.sec, s.size ≤ 1099511627776) (htu : ∀ x ∈ d.cache, x.text.size ≤ 1099511627776) (hx : Rows' rfE x (.slice p rs.length q) rs) (hn : rs.length ≤ 1048576) => specWriteCheck_any d ⟨st, ng, ns, nv, rs⟩ vv p q B T x ho hsm hts htu hx hn)
  have HIM0 := Lib.hid (fun (x : World) (vv : Value) (B : Nat) (p : Option Addr) (q T : Nat) (ho : DOwn B T x vv d) (hsm : d.small) (hts : ∀ s ∈ d.sec, s.size ≤ 1099511627776) (htu : ∀ x ∈ d.cache, x.text.size ≤ 1099511627776) (hcl : d.cache.length < 1073741824) (hx : Rows' rfE x (.slice p rs.length q) rs) (hn : rs.length ≤ 1048576) (he : ErrTab x) (hs : SumTab x) => implWriteCheck_any d ⟨st, ng, ns, nv, rs⟩ vv p q B T x ho hsm hts htu hcl hx hn hs he)
  simp only at HTO HEQ HSZ HMC HSP0 HIM0
  obtain ⟨O, hO⟩ : ∃ O, wcO d ⟨st, ng, ns, nv, rs⟩ = O := ⟨_, rfl⟩
  have HSMO : Hid (d.small → d.count ≤ 4000000 → (O.getD d).small ∧ (O.getD d).count ≤ 4000010) := by rw [← hO]; exact wcO_small
  rw [hO] at HSP0 HIM0
  obtain ⟨D2, hD2⟩ : ∃ D2, O.getD d = D2 := ⟨_, rfl⟩
  obtain ⟨F, hF⟩ : ∃ F, O.isSome = F := ⟨_, rfl⟩
  rw [hD2] at HSMO HSP0 HIM0
  rw [hF] at HSP0 HIM0
  have hFF : (F != F) = false := by cases F <;> rfl
  clear hO hD2 hF ht hs
  obtain ⟨n, hn⟩ : ∃ n, rs.length = n := ⟨_, rfl⟩
  rw [hn] at hr HTO HEQ HSZ HMC HSP0 HIM0 ⊢
  have HN := Lib.hid hn
  clear hn hl
  have X2 := (Box.new w #[va, vb] 25).later (belNew _ (.cells #[.int .i64 st, .int .i64 ng, .int .i64 ns, .int .i64 nv, .slice a n cap] 42))
  have X3 : Box ((w.alloc (.cells #[va, vb] 25)).alloc (.cells #[.int .i64 st, .int .i64 ng, .int .i64 ns, .int .i64 nv, .slice a n cap] 42)) (w.heap.size + 1) #[.int .i64 st, .int .i64 ng, .int .i64 ns, .int .i64 nv, .slice a n cap] 42 := by
    have := Box.new (w.alloc (.cells #[va, vb] 25)) #[.int .i64 st, .int .i64 ng, .int .i64 ns, .int .i64 nv, .slice a n cap] 42
    rwa [show (w.alloc (.cells #[va, vb] 25)).heap.size = w.heap.size + 1 from by simp] at this
  have b0 : Below w.heap.size w ((w.alloc (.cells #[va, vb] 25)).alloc (.cells #[.int .i64 st, .int .i64 ng, .int .i64 ns, .int .i64 nv, .slice a n cap] 42)) := ((Below.refl _ _).alloc (Nat.le_refl _) _).alloc (by simp) _
  go_enter Tryz.func4, Tryz.ntmps4
  go_wp2_with fail
  generalize (w.alloc (.cells #[va, vb] 25)).alloc (.cells #[.int .i64 st, .int .i64 ng, .int .i64 ns, .int .i64 nv, .slice a n cap] 42) = W at X2 X3 b0 ⊢
  obtain ⟨g1, hg1⟩ : ∃ g1, w.heap.size + 1 = g1 := ⟨_, rfl⟩
  obtain ⟨g0, hg0⟩ : ∃ g0, w.heap.size = g0 := ⟨_, rfl⟩
  have HC : Hid (∀ x, Below W.heap.size W x → (x.cell? ⟨g0, 0, none⟩ = some va ∧ x.cell? ⟨g0, 1, none⟩ = some vb ∧ x.cell? ⟨g1, 0, none⟩ = some (.int .i64 st) ∧ x.cell? ⟨g1, 1, none⟩ = some (.int .i64 ng) ∧ x.cell? ⟨g1, 2, none⟩ = some (.int .i64 ns) ∧ x.cell? ⟨g1, 3, none⟩ = some (.int .i64 nv) ∧ x.cell? ⟨g1, 4, none⟩ = some (.slice a n cap)) ∧ DIn x (.agg #[va, vb]) d ∧ Rows' lrfE x (.slice a n cap) rs ∧ Below w.heap.size w x ∧ ErrTab x ∧ SumTab x) := by
    intro x h
    have h' := b0.trans (h.mono b0.size)
    rw [← hg0, ← hg1]
    exact ⟨⟨(X2.later h).cell 0 _ rfl, (X2.later h).cell 1 _ rfl, (X3.later h).fiveW⟩, hd.later h', hr.later h', h', HT.out _ h'⟩
  rw [hg1]
  simp only [hg0]
  have HG0 := Lib.hid hg0
  clear hg0 hg1 X2 X3 b0 hr hd HT
  refine (szDisk_any d _ 1048576 _ (HC.out _ (Below.refl _ _)).2.1 (by omega) (by omega)).mono ?_
  rintro e w1 ⟨r, rfl, k1, hr1, hr2, hr3⟩
  by_cases hneg : r < 0
  · have b2 := (HC.out _ k1).2.2.2.1
    clear hr3
    go_wp2
    go_ret
    exact ⟨rfl, by first | exact b2 | (rw [← HG0.out]; exact b2)⟩
  obtain ⟨ls, lc, ht, hu⟩ := hr3 (by omega)
  have hsm : d.small := ⟨by omega, by omega⟩
  have HT2 : Hid ((∀ s ∈ d.sec, s.size ≤ 1099511627776) ∧ ∀ x ∈ d.cache, x.text.size ≤ 1099511627776) := ⟨fun s hs => by have := ht s hs; omega, fun x hx => by have := hu x hx; omega⟩
  have hdc : d.count ≤ 4000000 := by unfold Dk.count; omega
  have hsm2 := Lib.hid (HSMO.out hsm hdc)
  have hcl : d.cache.length < 1073741824 := by omega
  clear hr3 ht hu HSMO
  obtain ⟨⟨_, _, x0, x1, x2, x3, x4⟩, _⟩ := HC.out _ k1
  go_wp2_with fail
  clear x0 x1 x2 x3 x4
  refine (HSZ.out _ r (by omega) (by omega)).mono ?_
  rintro e w2 ⟨⟨q, rfl, hq⟩, k2⟩
  have j2 := k1.trans (k2.mono k1.size)
  clear HSZ k1 k2
  by_cases hneg2 : q < 0
  · have b2 := (HC.out _ j2).2.2.2.1
    clear hq
    go_wp2
    go_ret
    exact ⟨rfl, by first | exact b2 | (rw [← HG0.out]; exact b2)⟩
  have hnn : n ≤ 1048576 := hq (by omega)
  have HNN := Lib.hid hnn
  clear hq
  have HSP := Lib.hid (fun (x : World) (vv : Value) (p : Option Addr) (q : Nat) (ho : ∃ B T, DOwn B T x vv d) => HSP0.out x vv ho.choose p q ho.choose_spec.choose ho.choose_spec.choose_spec hsm HT2.out.1 HT2.out.2)
  have HIM := Lib.hid (fun (x : World) (vv : Value) (p : Option Addr) (q : Nat) (ho : ∃ B T, DOwn B T x vv d) => HIM0.out x vv ho.choose p q ho.choose_spec.choose ho.choose_spec.choose_spec hsm HT2.out.1 HT2.out.2 hcl)
  clear HSP0 HIM0

  have HSC : Hid (∀ x, Below w2.heap.size w2 x → (x.cell? ⟨g0, 0, none⟩ = some va ∧ x.cell? ⟨g0, 1, none⟩ = some vb ∧ x.cell? ⟨g1, 0, none⟩ = some (.int .i64 st) ∧ x.cell? ⟨g1, 1, none⟩ = some (.int .i64 ng) ∧ x.cell? ⟨g1, 2, none⟩ = some (.int .i64 ns) ∧ x.cell? ⟨g1, 3, none⟩ = some (.int .i64 nv) ∧ x.cell? ⟨g1, 4, none⟩ = some (.slice a n cap))) := fun x hx => (HC.out x (j2.trans (hx.mono j2.size))).1
  have HS2 : Hid (∀ x, ((x.cell? ⟨g0, 0, none⟩ = some va ∧ x.cell? ⟨g0, 1, none⟩ = some vb ∧ x.cell? ⟨g1, 0, none⟩ = some (.int .i64 st) ∧ x.cell? ⟨g1, 1, none⟩ = some (.int .i64 ng) ∧ x.cell? ⟨g1, 2, none⟩ = some (.int .i64 ns) ∧ x.cell? ⟨g1, 3, none⟩ = some (.int .i64 nv) ∧ x.cell? ⟨g1, 4, none⟩ = some (.slice a n cap)) ∧ Below w2.heap.size w2 x) → DIn x (.agg #[va, vb]) d ∧ Rows' lrfE x (.slice a n cap) rs ∧ ErrTab x ∧ SumTab x) := fun x hx => by
    have h9 := HC.out x (j2.trans (hx.2.mono j2.size))
    exact ⟨h9.2.1, h9.2.2.1, h9.2.2.2.2⟩
  have HK0 : Hid ((fun x => (x.cell? ⟨g0, 0, none⟩ = some va ∧ x.cell? ⟨g0, 1, none⟩ = some vb ∧ x.cell? ⟨g1, 0, none⟩ = some (.int .i64 st) ∧ x.cell? ⟨g1, 1, none⟩ = some (.int .i64 ng) ∧ x.cell? ⟨g1, 2, none⟩ = some (.int .i64 ns) ∧ x.cell? ⟨g1, 3, none⟩ = some (.int .i64 nv) ∧ x.cell? ⟨g1, 4, none⟩ = some (.slice a n cap)) ∧ Below w2.heap.size w2 x) w2.drew) := ⟨HSC.out _ (drewBel _), drewBel _⟩
  have HK1 : Hid ((fun x => (x.cell? ⟨g0, 0, none⟩ = some va ∧ x.cell? ⟨g0, 1, none⟩ = some vb ∧ x.cell? ⟨g1, 0, none⟩ = some (.int .i64 st) ∧ x.cell? ⟨g1, 1, none⟩ = some (.int .i64 ng) ∧ x.cell? ⟨g1, 2, none⟩ = some (.int .i64 ns) ∧ x.cell? ⟨g1, 3, none⟩ = some (.int .i64 nv) ∧ x.cell? ⟨g1, 4, none⟩ = some (.slice a n cap)) ∧ Below w2.heap.size w2 x) (w2.alloc (.cells #[.slice none 0 0, .slice none 0 0] 33)).drew) := ⟨HSC.out _ ((belAlloc _ _).drew), (belAlloc _ _).drew⟩
  have HB0 : Hid (Box (w2.alloc (.cells #[.slice none 0 0, .slice none 0 0] 33)).drew w2.heap.size #[.slice none 0 0, .slice none 0 0] 33) := Box.new w2 _ _
  go_upto_region 8 with fail
  go_cut [6, 7] (fun p f wx => ∃ (g : Nat) (e1 e2 : Option Addr) (e3 e4 : Nat), p = .pointer (some ⟨g, 0, none⟩) ∧ f = .bool F ∧ w2.heap.size ≤ g ∧ Box wx g #[.slice e1 D2.sec.length e3, .slice e2 D2.cache.length e4] 33 ∧ DOwn w2.heap.size wx.heap.size wx (.agg #[.slice e1 D2.sec.length e3, .slice e2 D2.cache.length e4]) D2 ∧ Below w2.heap.size w2 wx)
  case first =>
    go_region_held3 (fun x => (x.cell? ⟨g0, 0, none⟩ = some va ∧ x.cell? ⟨g0, 1, none⟩ = some vb ∧ x.cell? ⟨g1, 0, none⟩ = some (.int .i64 st) ∧ x.cell? ⟨g1, 1, none⟩ = some (.int .i64 ng) ∧ x.cell? ⟨g1, 2, none⟩ = some (.int .i64 ns) ∧ x.cell? ⟨g1, 3, none⟩ = some (.int .i64 nv) ∧ x.cell? ⟨g1, 4, none⟩ = some (.slice a n cap)) ∧ Below w2.heap.size w2 x)
      (first | exact HK0.out | exact HK1.out | exact keepC HSC.out (by assumption) (belAlloc _ _) | exact hSD.out | exact hSC.out | exact hSW.out | exact keepC HSC.out hSD.out (belAlloc _ _) | exact keepC HSC.out hSC.out (belAlloc _ _) | exact keepC HSC.out hSW.out (belAlloc _ _) | exact keepCs HSC.out (Nat.le_refl _) (by assumption) | exact keepCs HSC.out tP.out (by assumption) | exact keepCs HSC.out tQ.out (by assumption) | exact keepCs HSC.out tW.out (by assumption))
      (first
        | (go_at_call 8; refine (toDisk_any d _ _ (HS2.out _ (by assumption)).1 (by omega) (by omega)).mono ?_; rintro e wP ⟨vP, rfl, oP, kP⟩; have hSD := Lib.hid (keepC HSC.out (by assumption) kP); have tP := Lib.hid hSD.out.2.size)
        | (go_at_call 17; refine (HTO.out _ (HS2.out _ (by assumption)).2.1 HNN.out).mono ?_; rintro e wQ ⟨aQ, nQ, cQ, rfl, RQ, kQ⟩; obtain ⟨_, _, eQ⟩ := RQ.form; rw [HN.out] at eQ; cases eQ; have hSC := Lib.hid (keepC HSC.out (by assumption) kQ); have tQ := Lib.hid hSC.out.2.size)
        | (go_at_call 16; refine Calls.mono (HSP.out _ _ aQ cQ ?_ ?_ HNN.out) ?_; (· first | exact ⟨_, _, oP.later kQ⟩ | exact ⟨_, _, (oP.later (belAlloc _ _)).later kQ⟩ | exact ⟨_, _, (oP.later kQ).later (belAlloc _ _)⟩); (· first | exact RQ.rows | exact RQ.rows.later (belAlloc _ _)); rintro e wR ⟨vR, rfl, oR, kR⟩; have hSW := Lib.hid (keepC HSC.out (by assumption) kR); have tW := Lib.hid hSW.out.2.size; obtain ⟨e1, e2, e3, e4, rfl⟩ := oR.form; (first | (have bx : Box wR w2.heap.size #[.slice none 0 0, .slice none 0 0] 33 := ((HB0.out.later kP).later kQ).later kR; have x0 := bx.cell 0 _ rfl; have x1 := bx.cell 1 _ rfl; have f0 := bx.loose 0; have f1 := bx.loose 1; have hle := Lib.hid (Nat.le_refl w2.heap.size)) | (have bx : Box wR wP.heap.size #[.slice none 0 0, .slice none 0 0] 33 := ((Box.new wP _ _).later kQ).later kR; have x0 := bx.cell 0 _ rfl; have x1 := bx.cell 1 _ rfl; have f0 := bx.loose 0; have f1 := bx.loose 1; have hle := tP) | (have bx : Box wR wQ.heap.size #[.slice none 0 0, .slice none 0 0] 33 := (Box.new wQ _ _).later kR; have x0 := bx.cell 0 _ rfl; have x1 := bx.cell 1 _ rfl; have f0 := bx.loose 0; have f1 := bx.loose 1; have hle := tQ) | skip)))
    all_goals
      go_wp2_with fail
      go_meet
      first
        | exact ⟨_, e1, e2, e3, e4, rfl, rfl, tW.out, Box.new wR _ _, ((oR.later (belAlloc _ _)).base (by first | exact tW.out | exact tQ.out | exact Nat.le_trans tQ.out (by simp))).top, hSW.out.2.alloc tW.out _⟩
        | exact ⟨_, e1, e2, e3, e4, rfl, rfl, hle.out, (bx.set 0 _).set 1 _, (((oR.base (by first | exact tQ.out | exact Nat.le_trans tQ.out (by simp))).boxStore bx 0 _).boxStore (bx.set 0 _) 1 _).top, (hSW.out.2.setCell (p := ⟨_, 0, none⟩) hle.out _).setCell (p := ⟨_, 1, none⟩) hle.out _⟩

  case rest =>
  obtain ⟨g8, p8, r8, q8, s8, rfl, rfl, hg8, B8, O8, k3⟩ := hcut
  have D8 : DB wc g8 w2.heap.size wc.heap.size (.slice p8 D2.sec.length q8) (.slice r8 D2.cache.length s8) D2 := ⟨B8, O8⟩
  have ZA : Hid (W.heap.size ≤ w2.heap.size ∧ w2.heap.size ≤ g8 ∧ g8 < wc.heap.size) := ⟨j2.size, hg8, B8.lt⟩
  have j3 := j2.trans (k3.mono j2.size)
  clear HSC HS2 HK0 HK1 HB0 B8 O8 k3 hg8 j2
  obtain ⟨⟨c0, c1, _⟩, d3, _⟩ := HC.out _ j3
  go_wp2_with fail
  clear c0 c1
  refine (toDisk_any d _ _ d3 (by omega) (by omega)).mono ?_
  rintro e w4 ⟨v2, rfl, o2, k4⟩
  have j4 := j3.trans (k4.mono j3.size)
  obtain ⟨p10, r10, q10, s10, rfl⟩ := o2.form
  have D10 := DB.new o2
  have k5 := belNew w4 (.cells #[.slice p10 d.sec.length q10, .slice r10 d.cache.length s10] 33)
  have j5 := j4.trans (k5.mono j4.size)
  replace D8 := (D8.later k4).later k5
  have ZB : Hid (wc.heap.size ≤ w4.heap.size ∧ w4.heap.size < (w4.alloc (.cells #[.slice p10 d.sec.length q10, .slice r10 d.cache.length s10] 33)).heap.size) := ⟨k4.size, by simp⟩
  obtain ⟨⟨_, _, x0, x1, x2, x3, x4⟩, _, la, _⟩ := HC.out _ j5
  clear o2 d3 k4 k5 j3 j4
  go_wp2_with fail
  clear x0 x1 x2 x3 x4
  generalize w4.alloc (.cells #[.slice p10 d.sec.length q10, .slice r10 d.cache.length s10] 33) = w5 at D10 D8 j5 ZB la ⊢
  generalize hg4 : w4.heap.size = g10 at D10 ZB ⊢
  clear hg4
  refine (HTO.out _ la HNN.out).mono ?_
  rintro e w6 ⟨aX, nX, cX, rfl, RX, k6⟩
  obtain ⟨_, _, eX⟩ := RX.form
  rw [HN.out] at eX
  cases eX
  have j6 := j5.trans (k6.mono j5.size)
  have k7 := belNew w6 (.cells #[.int .i64 st, .int .i64 ng, .int .i64 ns, .int .i64 nv, .slice aX n cX] 48)
  have BX := Box.new w6 #[.int .i64 st, .int .i64 ng, .int .i64 ns, .int .i64 nv, .slice aX n cX] 48
  have j7 := j6.trans (k7.mono j6.size)
  have RX7 := RX.lown.later k7
  replace D8 := (D8.later k6).later k7
  replace D10 := (D10.later k6).later k7
  have ZC : Hid (w5.heap.size ≤ w6.heap.size ∧ w6.heap.size < (w6.alloc (.cells #[.int .i64 st, .int .i64 ng, .int .i64 ns, .int .i64 nv, .slice aX n cX] 48)).heap.size) := ⟨k6.size, by simp⟩
  obtain ⟨x0, x1, x2, x3, x4⟩ := BX.fiveW
  have c0 := D10.c0
  have c1 := D10.c1
  obtain ⟨_, _, _, _, et, st'⟩ := HC.out _ j7
  clear la k6 k7 j5 j6 RX
  go_wp2_with fail
  clear x0 x1 x2 x3 x4 c0 c1
  generalize w6.alloc (.cells #[.int .i64 st, .int .i64 ng, .int .i64 ns, .int .i64 nv, .slice aX n cX] 48) = w7 at BX D10 D8 j7 ZC RX7 et st' ⊢
  generalize hg6 : w6.heap.size = g6 at BX ZC RX7 ⊢
  clear hg6
  refine (HIM.out _ _ aX cX ⟨_, _, D10.2⟩ RX7.rows HNN.out et st').mono ?_
  rintro e w8 ⟨v3, rfl, o3, k8⟩
  have j8 := j7.trans (k8.mono j7.size)
  obtain ⟨p11, r11, q11, s11, rfl⟩ := o3.form
  have D11 := DB.new o3
  have k9 := belNew w8 (.cells #[.slice p11 D2.sec.length q11, .slice r11 D2.cache.length s11] 33)
  have j9 := j8.trans (k9.mono j8.size)
  replace D8 := (D8.later k8).later k9
  replace D10 := (D10.later k8).later k9
  replace BX := (BX.later k8).later k9
  replace RX7 := (RX7.later k8).later k9
  have ZD : Hid (w7.heap.size ≤ w8.heap.size) := k8.size
  have c0 := D11.c0
  have c1 := D11.c1
  have e0 := D8.c0
  have e1 := D8.c1
  clear o3 k8 k9 j7 j8 et st'
  go_upto_region 12 with fail
  generalize w8.alloc (.cells #[.slice p11 D2.sec.length q11, .slice r11 D2.cache.length s11] 33) = w9 at D11 D8 D10 BX RX7 j9 c0 c1 e0 e1 ⊢
  generalize hg11 : w8.heap.size = g11 at D11 ZD c0 c1 ⊢
  clear hg11
  go_wp2_with fail
  clear c0 c1 e0 e1
  refine (eqDisk_same D2 _ _ _ D11.2.rd D8.2.rd hsm2.out.1).mono ?_
  rintro e wA ⟨rfl, kA⟩
  have jA := j9.trans (kA.mono j9.size)
  replace D8 := D8.later kA
  replace D10 := D10.later kA
  replace D11 := D11.later kA
  replace BX := BX.later kA
  replace RX7 := RX7.later kA
  clear j9 kA
  have dA := (HC.out _ (jA.trans ((drewBel wA).mono jA.size))).2.1
  have HS : Hid (∀ x, Below wA.drew.heap.size wA.drew x → (x.cell? ⟨g0, 0, none⟩ = some va ∧ x.cell? ⟨g0, 1, none⟩ = some vb ∧ x.cell? ⟨g10, 0, none⟩ = some (.slice p10 d.sec.length q10) ∧ x.cell? ⟨g10, 1, none⟩ = some (.slice r10 d.cache.length s10)) ∧ DB x g10 wc.heap.size g10 (.slice p10 d.sec.length q10) (.slice r10 d.cache.length s10) d ∧ Below wA.heap.size wA x) := by
    intro x hx
    have hx2 : Below wA.heap.size wA x := (drewBel wA).trans hx
    obtain ⟨⟨u0, u1, _⟩, _⟩ := HC.out _ (jA.trans (hx2.mono jA.size))
    have h9 := D10.later hx2
    exact ⟨⟨u0, u1, h9.c0, h9.c1⟩, h9, hx2⟩
  go_upto_region 14 with fail
  go_cut [58] (fun c wx => c = .bool false ∧ ∃ y, y = wx ∧ Below wA.heap.size wA y)
  case first =>
    clear D8 D10 D11 BX RX7 jA
    go_region_held3 (fun x => x.cell? ⟨g0, 0, none⟩ = some va ∧ x.cell? ⟨g0, 1, none⟩ = some vb ∧ x.cell? ⟨g10, 0, none⟩ = some (.slice p10 d.sec.length q10) ∧ x.cell? ⟨g10, 1, none⟩ = some (.slice r10 d.cache.length s10))
      (first | (exact (HS.out _ (Below.refl _ _)).1) | (exact (HS.out _ kX).1) | (exact (HS.out _ kY).1))
      (first
        | (go_at_call 8; refine (toDisk_any d _ _ dA (by omega) (by omega)).mono ?_; rintro e wX ⟨v9, rfl, o9, kX⟩; have o9' := (HS.out _ kX).2.1)
        | (go_at_call 11; refine (eqDisk_same d _ _ _ o9'.2.rd o9.rd hsm).mono ?_; rintro e wY ⟨rfl, kY'⟩; have kY := kX.trans (kY'.mono kX.size)))
    all_goals
      have bZ := (HS.out _ kY).2.2
      go_wp2_with fail
      go_meet
      exact ⟨rfl, _, rfl, bZ⟩
  case rest =>
  obtain ⟨rfl, wB, hwr, kB⟩ := hcut
  clear HS dA
  subst hwr
  have jB := jA.trans (kB.mono jA.size)
  replace D8 := D8.later kB
  replace D10 := D10.later kB
  replace D11 := D11.later kB
  replace BX := BX.later kB
  replace RX7 := RX7.later kB
  clear jA kB
  have laB := (HC.out _ (jB.trans ((drewBel wB).mono jB.size))).2.2.1
  have HS : Hid (∀ x, Below wB.drew.heap.size wB.drew x → ((x.cell? ⟨g1, 0, none⟩ = some (.int .i64 st) ∧ x.cell? ⟨g1, 1, none⟩ = some (.int .i64 ng) ∧ x.cell? ⟨g1, 2, none⟩ = some (.int .i64 ns) ∧ x.cell? ⟨g1, 3, none⟩ = some (.int .i64 nv) ∧ x.cell? ⟨g1, 4, none⟩ = some (.slice a n cap)) ∧ x.cell? ⟨g6, 0, none⟩ = some (.int .i64 st) ∧ x.cell? ⟨g6, 1, none⟩ = some (.int .i64 ng) ∧ x.cell? ⟨g6, 2, none⟩ = some (.int .i64 ns) ∧ x.cell? ⟨g6, 3, none⟩ = some (.int .i64 nv) ∧ x.cell? ⟨g6, 4, none⟩ = some (.slice aX n cX)) ∧ Rows' rfE x (.slice aX n cX) rs ∧ Below wB.heap.size wB x) := by
    intro x hx
    have hx2 : Below wB.heap.size wB x := (drewBel wB).trans hx
    obtain ⟨⟨_, _, u0, u1, u2, u3, u4⟩, _⟩ := HC.out _ (jB.trans (hx2.mono jB.size))
    exact ⟨⟨⟨u0, u1, u2, u3, u4⟩, (BX.later hx2).fiveW⟩, (RX7.later hx2).rows, hx2⟩
  go_upto_region 16 with fail
  go_cut [63] (fun c wx => c = .bool false ∧ ∃ y, y = wx ∧ Below wB.heap.size wB y)
  case first =>
    clear D8 D10 D11 BX RX7 jB
    go_region_held3 (fun x => (x.cell? ⟨g1, 0, none⟩ = some (.int .i64 st) ∧ x.cell? ⟨g1, 1, none⟩ = some (.int .i64 ng) ∧ x.cell? ⟨g1, 2, none⟩ = some (.int .i64 ns) ∧ x.cell? ⟨g1, 3, none⟩ = some (.int .i64 nv) ∧ x.cell? ⟨g1, 4, none⟩ = some (.slice a n cap)) ∧ x.cell? ⟨g6, 0, none⟩ = some (.int .i64 st) ∧ x.cell? ⟨g6, 1, none⟩ = some (.int .i64 ng) ∧ x.cell? ⟨g6, 2, none⟩ = some (.int .i64 ns) ∧ x.cell? ⟨g6, 3, none⟩ = some (.int .i64 nv) ∧ x.cell? ⟨g6, 4, none⟩ = some (.slice aX n cX))
      (first | (exact (HS.out _ (Below.refl _ _)).1) | (exact (HS.out _ kX).1) | (exact (HS.out _ kY).1))
      (first
        | (go_at_call 17; refine (HTO.out _ laB HNN.out).mono ?_; rintro e wX ⟨aY, nY, cY, rfl, RY, kX⟩; obtain ⟨_, _, eY⟩ := RY.form; rw [HN.out] at eY; cases eY)
        | (go_at_call 19; refine (HEQ.out _ _ _ _ _ (HS.out _ kX).2.1 RY.rows HNN.out).mono ?_; rintro e wY ⟨rfl, kY'⟩; have kY := kX.trans (kY'.mono kX.size)))
    all_goals
      have bZ := (HS.out _ kY).2.2
      go_wp2_with fail
      go_meet
      exact ⟨rfl, _, rfl, bZ⟩
  case rest =>
  obtain ⟨rfl, wC, hwr, kC⟩ := hcut
  clear HS laB
  subst hwr
  have jC := jB.trans (kC.mono jB.size)
  replace D8 := D8.later kC
  replace D10 := D10.later kC
  replace D11 := D11.later kC
  replace BX := BX.later kC
  replace RX7 := RX7.later kC
  have c0 := D10.c0
  have c1 := D10.c1
  clear jB kC
  go_wp2_with fail
  clear c0 c1
  refine (markDisk_any d _ 1 _ _ _ D10.2 (by omega) (by omega)).mono ?_
  rintro e wD ⟨rfl, _, kD⟩
  have jD := kD.belowW jC (by have := ZA.out; have := ZB.out; have := ZC.out; have := ZD.out; omega)
  replace D8 := D8.kept kD (by have := ZA.out; have := ZB.out; have := ZC.out; have := ZD.out; omega) (by have := ZA.out; have := ZB.out; have := ZC.out; have := ZD.out; omega)
  replace D11 := D11.kept kD (by have := ZA.out; have := ZB.out; have := ZC.out; have := ZD.out; omega) (by have := ZA.out; have := ZB.out; have := ZC.out; have := ZD.out; omega)
  replace BX := BX.kept kD (by have := ZA.out; have := ZB.out; have := ZC.out; have := ZD.out; omega)
  replace RX7 := RX7.kept kD (by have := ZA.out; have := ZB.out; have := ZC.out; have := ZD.out; omega)
  obtain ⟨x0, x1, x2, x3, x4⟩ := BX.fiveW
  have HMK := Lib.hid (HMC.out _ aX cX (1 + d.count) _ RX7.1 (by omega))
  have hk0 : ¬ (((1 + d.count + 2 * n : Nat) : Int) < 0) := by omega
  generalize 1 + d.count = kk at HMK hk0 ⊢
  generalize kk + 2 * n = kz at HMK hk0 ⊢
  clear D10 kD jC
  go_wp2_with fail
  clear x0 x1 x2 x3 x4
  refine HMK.out.mono ?_
  rintro e wE ⟨rfl, _, gE⟩
  have kE : Kept w5.heap.size g6 wD wE := Kept.of_grown gE (fun k hk => ⟨(RX7.1.own.lt k hk).1, RX7.2.2 k hk⟩)
  have jE := kE.belowW jD (by have := ZA.out; have := ZB.out; have := ZC.out; have := ZD.out; omega)
  replace D8 := D8.kept kE (by have := ZA.out; have := ZB.out; have := ZC.out; have := ZD.out; omega) (by have := ZA.out; have := ZB.out; have := ZC.out; have := ZD.out; omega)
  replace D11 := D11.kept kE (by have := ZA.out; have := ZB.out; have := ZC.out; have := ZD.out; omega) (by have := ZA.out; have := ZB.out; have := ZC.out; have := ZD.out; omega)
  have c0 := D11.c0
  have c1 := D11.c1
  have e0 := D8.c0
  have e1 := D8.c1
  clear BX RX7 gE kE jD HMK
  go_wp2_with fail
  clear c0 c1 e0 e1
  refine (eqDisk_same D2 _ _ _ D11.2.rd D8.2.rd hsm2.out.1).mono ?_
  rintro e wF ⟨rfl, kF⟩
  have jF := jE.trans (kF.mono jE.size)
  replace D8 := D8.later kF
  replace D11 := D11.later kF
  have c0 := D11.c0
  have c1 := D11.c1
  have hcnt := hsm2.out.2
  have HMD := Lib.hid (markDisk_any D2 _ 1 _ _ _ D11.2 (by omega) (by omega))
  have HHD := Lib.hid (fun x h => heldDisk_any D2 (.agg #[.slice p11 D2.sec.length q11, .slice r11 D2.cache.length s11]) 1 x h (by omega) (by omega))
  have hm0 : ¬ ((1 + D2.count : Nat) : Int) < 0 := by omega
  generalize 1 + D2.count = mm at HMD HHD hm0 ⊢
  clear hcnt kF jE
  go_wp2_with fail
  clear c0 c1
  refine HMD.out.mono ?_
  rintro e wG ⟨rfl, oG, kG⟩
  have jG := kG.belowW jF (by have := ZA.out; have := ZB.out; have := ZC.out; have := ZD.out; omega)
  replace D8 := D8.kept kG (by have := ZA.out; have := ZB.out; have := ZC.out; have := ZD.out; omega) (by have := ZA.out; have := ZB.out; have := ZC.out; have := ZD.out; omega)
  replace D11 := D11.marked kG oG (by have := ZA.out; have := ZB.out; have := ZC.out; have := ZD.out; omega)
  have c0 := D11.c0
  have c1 := D11.c1
  clear oG kG jF HMD
  go_wp2_with fail
  clear c0 c1
  refine (HHD.out _ D11.2.rd).mono ?_
  rintro e wH ⟨rfl, kH⟩
  have jH := jG.trans (kH.mono jG.size)
  replace D8 := D8.later kH
  replace D11 := D11.later kH
  clear kH jG

  have HSC : Hid (∀ x, Below wH.heap.size wH x → (x.cell? ⟨g0, 0, none⟩ = some va ∧ x.cell? ⟨g0, 1, none⟩ = some vb ∧ x.cell? ⟨g1, 0, none⟩ = some (.int .i64 st) ∧ x.cell? ⟨g1, 1, none⟩ = some (.int .i64 ng) ∧ x.cell? ⟨g1, 2, none⟩ = some (.int .i64 ns) ∧ x.cell? ⟨g1, 3, none⟩ = some (.int .i64 nv) ∧ x.cell? ⟨g1, 4, none⟩ = some (.slice a n cap))) := fun x hx => (HC.out x (jH.trans (hx.mono jH.size))).1
  have HS2 : Hid (∀ x, ((x.cell? ⟨g0, 0, none⟩ = some va ∧ x.cell? ⟨g0, 1, none⟩ = some vb ∧ x.cell? ⟨g1, 0, none⟩ = some (.int .i64 st) ∧ x.cell? ⟨g1, 1, none⟩ = some (.int .i64 ng) ∧ x.cell? ⟨g1, 2, none⟩ = some (.int .i64 ns) ∧ x.cell? ⟨g1, 3, none⟩ = some (.int .i64 nv) ∧ x.cell? ⟨g1, 4, none⟩ = some (.slice a n cap)) ∧ Below wH.heap.size wH x) → DIn x (.agg #[va, vb]) d ∧ Rows' lrfE x (.slice a n cap) rs ∧ ErrTab x ∧ SumTab x) := fun x hx => by
    have h9 := HC.out x (jH.trans (hx.2.mono jH.size))
    exact ⟨h9.2.1, h9.2.2.1, h9.2.2.2.2⟩
  have HK0 : Hid ((fun x => (x.cell? ⟨g0, 0, none⟩ = some va ∧ x.cell? ⟨g0, 1, none⟩ = some vb ∧ x.cell? ⟨g1, 0, none⟩ = some (.int .i64 st) ∧ x.cell? ⟨g1, 1, none⟩ = some (.int .i64 ng) ∧ x.cell? ⟨g1, 2, none⟩ = some (.int .i64 ns) ∧ x.cell? ⟨g1, 3, none⟩ = some (.int .i64 nv) ∧ x.cell? ⟨g1, 4, none⟩ = some (.slice a n cap)) ∧ Below wH.heap.size wH x) wH.drew) := ⟨HSC.out _ (drewBel _), drewBel _⟩
  have HK1 : Hid ((fun x => (x.cell? ⟨g0, 0, none⟩ = some va ∧ x.cell? ⟨g0, 1, none⟩ = some vb ∧ x.cell? ⟨g1, 0, none⟩ = some (.int .i64 st) ∧ x.cell? ⟨g1, 1, none⟩ = some (.int .i64 ng) ∧ x.cell? ⟨g1, 2, none⟩ = some (.int .i64 ns) ∧ x.cell? ⟨g1, 3, none⟩ = some (.int .i64 nv) ∧ x.cell? ⟨g1, 4, none⟩ = some (.slice a n cap)) ∧ Below wH.heap.size wH x) (wH.alloc (.cells #[.slice none 0 0, .slice none 0 0] 33)).drew) := ⟨HSC.out _ ((belAlloc _ _).drew), (belAlloc _ _).drew⟩
  have HB0 : Hid (Box (wH.alloc (.cells #[.slice none 0 0, .slice none 0 0] 33)).drew wH.heap.size #[.slice none 0 0, .slice none 0 0] 33) := Box.new wH _ _
  go_upto_region 31 with fail
  go_cut [15, 16] (fun p f wx => ∃ (g : Nat) (e1 e2 : Option Addr) (e3 e4 : Nat), p = .pointer (some ⟨g, 0, none⟩) ∧ f = .bool F ∧ wH.heap.size ≤ g ∧ Box wx g #[.slice e1 D2.sec.length e3, .slice e2 D2.cache.length e4] 33 ∧ DOwn wH.heap.size wx.heap.size wx (.agg #[.slice e1 D2.sec.length e3, .slice e2 D2.cache.length e4]) D2 ∧ Below wH.heap.size wH wx)
  case first =>
    go_region_held3 (fun x => (x.cell? ⟨g0, 0, none⟩ = some va ∧ x.cell? ⟨g0, 1, none⟩ = some vb ∧ x.cell? ⟨g1, 0, none⟩ = some (.int .i64 st) ∧ x.cell? ⟨g1, 1, none⟩ = some (.int .i64 ng) ∧ x.cell? ⟨g1, 2, none⟩ = some (.int .i64 ns) ∧ x.cell? ⟨g1, 3, none⟩ = some (.int .i64 nv) ∧ x.cell? ⟨g1, 4, none⟩ = some (.slice a n cap)) ∧ Below wH.heap.size wH x)
      (first | exact HK0.out | exact HK1.out | exact keepC HSC.out (by assumption) (belAlloc _ _) | exact hSD.out | exact hSC.out | exact hSW.out | exact keepC HSC.out hSD.out (belAlloc _ _) | exact keepC HSC.out hSC.out (belAlloc _ _) | exact keepC HSC.out hSW.out (belAlloc _ _) | exact keepCs HSC.out (Nat.le_refl _) (by assumption) | exact keepCs HSC.out tP.out (by assumption) | exact keepCs HSC.out tQ.out (by assumption) | exact keepCs HSC.out tW.out (by assumption))
      (first
        | (go_at_call 8; refine (toDisk_any d _ _ (HS2.out _ (by assumption)).1 (by omega) (by omega)).mono ?_; rintro e wP ⟨vP, rfl, oP, kP⟩; have hSD := Lib.hid (keepC HSC.out (by assumption) kP); have tP := Lib.hid hSD.out.2.size)
        | (go_at_call 17; refine (HTO.out _ (HS2.out _ (by assumption)).2.1 HNN.out).mono ?_; rintro e wQ ⟨aQ, nQ, cQ, rfl, RQ, kQ⟩; obtain ⟨_, _, eQ⟩ := RQ.form; rw [HN.out] at eQ; cases eQ; have hSC := Lib.hid (keepC HSC.out (by assumption) kQ); have tQ := Lib.hid hSC.out.2.size)
        | (go_at_call 18; refine Calls.mono (HIM.out _ _ aQ cQ ?_ ?_ HNN.out ?_ ?_) ?_; (· first | exact ⟨_, _, oP.later kQ⟩ | exact ⟨_, _, (oP.later (belAlloc _ _)).later kQ⟩ | exact ⟨_, _, (oP.later kQ).later (belAlloc _ _)⟩); (· first | exact RQ.rows | exact RQ.rows.later (belAlloc _ _)); (· exact (HS2.out _ (by assumption)).2.2.1); (· exact (HS2.out _ (by assumption)).2.2.2); rintro e wR ⟨vR, rfl, oR, kR⟩; have hSW := Lib.hid (keepC HSC.out (by assumption) kR); have tW := Lib.hid hSW.out.2.size; obtain ⟨e1, e2, e3, e4, rfl⟩ := oR.form; (first | (have bx : Box wR wH.heap.size #[.slice none 0 0, .slice none 0 0] 33 := ((HB0.out.later kP).later kQ).later kR; have x0 := bx.cell 0 _ rfl; have x1 := bx.cell 1 _ rfl; have f0 := bx.loose 0; have f1 := bx.loose 1; have hle := Lib.hid (Nat.le_refl wH.heap.size)) | (have bx : Box wR wP.heap.size #[.slice none 0 0, .slice none 0 0] 33 := ((Box.new wP _ _).later kQ).later kR; have x0 := bx.cell 0 _ rfl; have x1 := bx.cell 1 _ rfl; have f0 := bx.loose 0; have f1 := bx.loose 1; have hle := tP) | (have bx : Box wR wQ.heap.size #[.slice none 0 0, .slice none 0 0] 33 := (Box.new wQ _ _).later kR; have x0 := bx.cell 0 _ rfl; have x1 := bx.cell 1 _ rfl; have f0 := bx.loose 0; have f1 := bx.loose 1; have hle := tQ) | skip)))
    all_goals
      go_wp2_with fail
      go_meet
      first
        | exact ⟨_, e1, e2, e3, e4, rfl, rfl, tW.out, Box.new wR _ _, ((oR.later (belAlloc _ _)).base (by first | exact tW.out | exact tQ.out | exact Nat.le_trans tQ.out (by simp))).top, hSW.out.2.alloc tW.out _⟩
        | exact ⟨_, e1, e2, e3, e4, rfl, rfl, hle.out, (bx.set 0 _).set 1 _, (((oR.base (by first | exact tQ.out | exact Nat.le_trans tQ.out (by simp))).boxStore bx 0 _).boxStore (bx.set 0 _) 1 _).top, (hSW.out.2.setCell (p := ⟨_, 0, none⟩) hle.out _).setCell (p := ⟨_, 1, none⟩) hle.out _⟩

  case rest =>
  obtain ⟨g15, p15, r15, q15, s15, rfl, rfl, hg15, B15, O15, kI⟩ := hcut
  have D15 : DB wc g15 wH.heap.size wc.heap.size (.slice p15 D2.sec.length q15) (.slice r15 D2.cache.length s15) D2 := ⟨B15, O15⟩
  have jI := jH.trans (kI.mono jH.size)
  replace D8 := D8.later kI
  replace D11 := D11.later kI
  have c0 := D15.c0
  have c1 := D15.c1
  have e0 := D8.c0
  have e1 := D8.c1
  clear HSC HS2 HK0 HK1 HB0 B15 O15 kI hg15 jH
  go_wp2_with fail
  clear c0 c1 e0 e1
  refine (eqDisk_same D2 _ _ _ D15.2.rd D8.2.rd hsm2.out.1).mono ?_
  rintro e wJ ⟨rfl, kJ⟩
  have jJ := jI.trans (kJ.mono jI.size)
  replace D11 := D11.later kJ
  have c0 := D11.c0
  have c1 := D11.c1
  clear D8 D15 kJ jI
  go_wp2_with fail
  clear c0 c1
  refine (HHD.out _ D11.2.rd).mono ?_
  rintro e wK ⟨rfl, kK⟩
  have bZ := (HC.out _ (jJ.trans (kK.mono jJ.size))).2.2.2.1
  clear D11
  go_wp2
  go_ret
  exact ⟨rfl, by first | exact bZ | (rw [← HG0.out]; exact bZ)⟩

theorem FnExactWriteCheck_of_laid {W : World} (h : laidMetH Tryz.prog Rows.fnExactWriteCheckRow.laid W) : ErrTab W ∧ SumTab W := by
  have h' : laidMet Tryz.prog [("loop.example/g00287/impl.sumTable", Rows.laid_loop_example_g00287_impl_sumTable)] W ∧ handlesMet Tryz.prog [("errors.errorType", Rows.laid_errors_errorType)] W := h
  refine ⟨errTab_of_handles (List.mem_singleton.2 rfl) h'.2, sumTab_of_laid ?_⟩
  rw [MakeChecks.laidMetH_plain _ _ _ (by kernel_rfl)]
  exact h'.1

theorem FnExactWriteCheck_own : ownKnob Tryz.prog.godebug = none := by kernel_rfl
theorem FnExactWriteCheck_door (os : Os) (args : Array Value) : laidMetH Tryz.prog Rows.fnExactWriteCheckRow.laid ((World.doorLaid Tryz.prog 400 os).forCall (fun _ _ => 0) ⟨#[], args, []⟩).memory :=
  laidMetH_of_parts3 (fuel := 8) (laidMet_of_run' 8 (by kernel_rfl) (by kernel_rfl)) (by kernel_rfl) (by kernel_rfl)

set_option maxRecDepth 100000 in
theorem FnExactWriteCheck_lifted (os : Os) (started : os.Started) (H : Type) (enc : TypeId × Value → H) :
    ReturnsInHanded {} Tryz.checked os 4 .any (fun w args => (Rows.fnExactWriteCheckSpec.pre enc Tryz.prog Tryz.f4 [] false w args ∧ laidMetH Tryz.prog Rows.fnExactWriteCheckRow.laid w) ∧ sizedMet enc Tryz.prog Tryz.f4 (OpenSpec.ofChange Rows.fnExactWriteCheckSpec) false w args)
      (Rows.fnExactWriteCheckSpec.post enc Tryz.prog Tryz.f4 false true false false) := by
  refine returnsInHanded_of_change_and (C := Tryz.checked) (X := fun w _ => laidMetH Tryz.prog Rows.fnExactWriteCheckRow.laid w) (fun _ _ _ hh h => h.of_heap hh) FnExactWriteCheck_own started (by kernel_rfl) Tryz.func4
    (ChangeSpec.witness_shaped (enc := enc) (C := Tryz.checked) (os := os) (X := fun w _ => laidMetH Tryz.prog Rows.fnExactWriteCheckRow.laid w) false (World.doorLaid Tryz.prog 400 os) #[.agg #[.slice none 0 0, .slice none 0 0], .agg #[.int .i64 0, .int .i64 0, .int .i64 0, .int .i64 0, .slice none 0 0]] 8 rfl (World.shaped_of_RefB (by kernel_rfl) (by kernel_rfl)) (by kernel_rfl) (by kernel_rfl) (by kernel_rfl) (FnExactWriteCheck_door os _)) ?_
  intro W base args ds gs before hval0 hW _ _ hL _
  have hval : ∀ (j : Nat) t v, Tryz.f4.params[j]? = some t → args[j]? = some v → Value.okWide Tryz.prog W .any base t v := hval0
  have hW' := hW
  obtain ⟨p, q, hA0, hV, rfl, hfz, hnd⟩ := hW
  have hA : DataW.TrodAll enc Tryz.prog W 0 (fun _ => true) true Tryz.f4.params.toList args.toList ds p := hA0
  rw [Tryz.params4] at hA hval
  obtain ⟨v0, vs0, d0, ds0, p0, q0, hargs, rfl, rfl, h0, r0⟩ := trodAll_cons hA
  obtain ⟨v1, vs1, d1, ds1, p1, q1, rfl, rfl, rfl, h1, r1⟩ := trodAll_cons r0
  obtain ⟨rfl, rfl, rfl⟩ := trodAll_nil r1
  obtain rfl : args = #[v0, v1] := by cases args; simp_all
  obtain ⟨e0, rfl⟩ : ∃ d, gs = [d] := by obtain ⟨_, _, _, _, d, _, e, _⟩ := trodVars_one hV; exact ⟨d, e⟩
  have k0 := h0
  have lt0 : ∀ x ∈ p0, x.block < W.heap.size := by obtain ⟨m, hm⟩ := k0; exact DataW.trod_lt m _ _ _ hm
  obtain ⟨D0, w0⟩ := open_Disk (hval 0 25 v0 rfl rfl) h0
  have k1 := h1
  have lt1 : ∀ x ∈ p1, x.block < W.heap.size := by obtain ⟨m, hm⟩ := k1; exact DataW.trod_lt m _ _ _ hm
  obtain ⟨D1, w1⟩ := open_Check (hval 1 42 v1 rfl rfl) h1
  clear hA0 hval0
  try simp only [List.append_nil] at hW'
  refine (walk_FnExactWriteCheck v0 D0 v1 D1 w0 w1 (w := W) (FnExactWriteCheck_of_laid hL)).mono fun e W' ⟨he, bel⟩ => ?_
  subst he
  exact ⟨_, rfl, _, _, _, [], _, _, hW', trodAll_mk1 (shut_bool Tryz.underlying4 _), (trodAll_cons_mk (Below.trod (show laidOutB Tryz.prog = true by kernel_rfl) (by kernel_rfl) (of_decide_eq_true (by kernel_rfl)) k0 bel lt0) (trodAll_cons_mk (Below.trod (show laidOutB Tryz.prog = true by kernel_rfl) (by kernel_rfl) (of_decide_eq_true (by kernel_rfl)) k1 bel lt1) trodAll_mk0)), Below.trodVars (show laidOutB Tryz.prog = true by kernel_rfl) bel (by kernel_rfl) hV, bel.frame _, fun h => by cases h⟩

theorem fnExactWriteCheck_row : Rows.FnExactWriteCheckSaid :=
  OpenClaim.holds_of_wide 4 Tryz.f4 rfl rfl rfl rfl rfl rfl rfl ⟨rfl, rfl, rfl, rfl, rfl⟩ rfl rfl rfl rfl rfl (by kernel_rfl) Tryz.func4 (by kernel_rfl)
    (of_decide_eq_true (by kernel_rfl)) (by unfold Func.isWrapper; first | (rw [if_pos (by decide +kernel)]; kernel_rfl) | (rw [if_neg (by decide +kernel)]; exact ⟨rfl, rfl⟩))
    (fun os started H enc _ => FnExactWriteCheck_lifted os started H enc)

/-- The given statement. -/
theorem fnExactWriteCheck_cardsaid : Rows.FnExactWriteCheckCardSaid :=
  Claim7.holds_tied_plain_at .later [] [.handle, .data] true (true, "86b249c541a9206e1da35a22826e517713138d78ec26604ff10e59483b28f276") true
    fnExactWriteCheck_row (fun _ h => by cases h) (by kernel_rfl) (fun _ h => by cases h) fnExactWriteCheck_row_tie rfl ⟨rfl, rfl⟩ (by kernel_rfl) rfl
    (fun f fn hf hfn => by
      obtain rfl : f = 4 := Option.some.inj ((show Tryz.prog.funcNamed "loop.example/g00287/laws.FnExactWriteCheck" = some 4 by kernel_rfl).symm.trans hf) |>.symm
      obtain rfl : fn = Tryz.f4 := (Option.some.inj (Tryz.func4.symm.trans hfn)).symm
      exact ⟨by kernel_rfl, fun j t ht => by
        rw [Tryz.params4] at ht
        have hm : t ∈ [25, 42] := by simpa using Array.mem_of_getElem? ht
        have hall : ([25, 42].all fun u => !Tryz.prog.wantsStandIn u) = true := by kernel_rfl
        exact (show Tryz.prog.wantsStandIn t = false by simpa using List.all_eq_true.1 hall t hm)⟩)
    (by kernel_rfl)
#print axioms fnExactWriteCheck_cardsaid

end Go.Proofs.YtieenkloiicnkaaGreatDoor
