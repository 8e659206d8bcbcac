/- Texts of our own, joined. -/
import Derived.Test.YtieenkloiicnkaaJf
import Derived.Test.YtieenkloiicnkaaJg
import Derived.Deep.Slices
import Derived.Lib.SmallJoins
import Derived.ProofKit
/- Logs that come in as arguments. -/
namespace Go.Proofs.Ytieenkloiicnkaa
open Go.RowKit Go.ChangeShapes Go.WideShapes Go.ChangeAt Go.Deep Go.Joins

instance : Inhabited SgH := ⟨⟨0, 0, 0, none, 0, 0⟩⟩
theorem list4G {α : Type} {l : List α} (h : l.length = 4) : ∃ v0 v1 v2 v3, l = [v0, v1, v2, v3] := by
  match l, h with
  | [v0, v1, v2, v3], _ => exact ⟨v0, v1, v2, v3, rfl⟩
theorem list8G {α : Type} {l : List α} (h : l.length = 8) : ∃ v0 v1 v2 v3 v4 v5 v6 v7, l = [v0, v1, v2, v3, v4, v5, v6, v7] := by
  match l, h with
  | [v0, v1, v2, v3, v4, v5, v6, v7], _ => exact ⟨v0, v1, v2, v3, v4, v5, v6, v7, rfl⟩

section
variable {H : Type} {enc : TypeId × Value → H} {P : Program} {w : World} {base : Nat} {spare : Nat → Bool} {held : Bool}

/-- The fields of a struct, each of one cell. -/
theorem trod_onesG {t : TypeId} {fs : Array Field} {fuel : Nat} {cs : List Value} {x : DataW H × List MemPlace} (hs : P.underlying t = some (.struct fs)) (hone : oneCellFields P fs = true)
    (h : DataW.trod enc P w base spare held fuel t cs = some x) :
    ∃ n : Nat, cs.length = P.cellsOf t ∧ ∀ (i : Nat) (f : Field) (v : Value), fs[i]? = some f → cs[i]? = some v → ∃ y, DataW.trod enc P w base spare held n f.type [v] = some y := by
  obtain ⟨xs, n, _, _, hl, hlen, hf⟩ := DataW.trod_struct hs h
  refine ⟨n, hl, fun i f v hi hv => ?_⟩
  obtain ⟨o, k⟩ := hone_of hone i f hi
  have hx := hf i f hi
  rw [o, k] at hx
  have e : (List.drop i cs).take 1 = [v] := by
    rw [List.take_one, List.head?_drop, hv]; rfl
  rw [e] at hx
  have hi' : i < xs.length := by
    rw [hlen]
    exact (Array.getElem?_eq_some_iff.1 hi).1
  exact ⟨xs[i], by first | (rw [hx]; exact List.getElem?_eq_getElem hi') | (rw [List.getElem?_eq_getElem hi'] at hx; exact hx) | simpa [hi'] using hx⟩
end

section
variable {H : Type} {enc : TypeId × Value → H} {W : World}

/-- A segment as it came in: its items can be read. -/
def SgIn (W : World) (x : SgH) : Prop := ∃ l : List Itm, ItsIn W x.mv l

set_option maxRecDepth 100000 in
theorem seg_form {fuel : Nat} {l : List Value} {x : DataW H × List MemPlace} (hf : DataW.trod enc Try.prog W 0 (fun _ => true) true fuel 55 l = some x) :
    ∃ y : SgH, l = lsgE.f y ∧ SgIn W y := by
  have hC : Try.prog.cellsOf 55 = 4 := by kernel_rfl
  obtain ⟨n, hl, hx⟩ := trod_onesG Try.underlying55 (by kernel_rfl) hf
  obtain ⟨v0, v1, v2, v3, rfl⟩ := list4G (hl.trans hC)
  obtain ⟨y0, h0⟩ := hx 0 _ v0 rfl rfl
  obtain ⟨y1, h1⟩ := hx 1 _ v1 rfl rfl
  obtain ⟨y2, h2⟩ := hx 2 _ v2 rfl rfl
  obtain ⟨y3, h3⟩ := hx 3 _ v3 rfl rfl
  obtain ⟨k0, hk0, _, _⟩ := DataW.trod_int Try.underlying3 h0
  obtain ⟨k1, hk1, _, _⟩ := DataW.trod_int Try.underlying3 h1
  obtain ⟨k2, hk2, _, _⟩ := DataW.trod_int Try.underlying3 h2
  obtain ⟨ms, hr⟩ := items_of_trod h3
  simp at hk0 hk1 hk2
  obtain ⟨a, n, c, rfl⟩ : ∃ ad n cap, v3 = .slice ad n cap := by
    rcases hr.1.ways with ⟨_, a, c, e⟩ | ⟨_, g, off, c, e, _⟩
    · exact ⟨_, _, _, e⟩
    · exact ⟨_, _, _, e⟩
  exact ⟨⟨k0, k1, k2, a, n, c⟩, by rw [hk0, hk1, hk2]; rfl, ms, hr⟩

set_option maxRecDepth 100000 in
theorem segs_of_trod {fuel : Nat} {v : Value} {x : DataW H × List MemPlace} (h : DataW.trod enc Try.prog W 0 (fun _ => true) true fuel 26 [v] = some x) :
    ∃ l : List Sg, LGRd W v l ∧ l.length ≤ 9223372036854775807 ∧ ∀ b ∈ l, sgShort b := by
  have hC : Try.prog.cellsOf 55 = 4 := by kernel_rfl
  have hml : maxLen ≤ 9223372036854775807 := by decide
  have hrows : ∃ hs : List SgH, Rows' lsgE W v hs ∧ hs.length ≤ 9223372036854775807 ∧ ∀ y ∈ hs, SgIn W y := by
    rcases open_slice Try.underlying26 h with ⟨hv, _⟩ | ⟨a, len, cap, m, n, D, Pl, hv, _, hl, hm, hmm, _, hc⟩
    · simp at hv; subst hv
      exact ⟨[], .inl ⟨rfl, _, _, rfl⟩, by simp, by simp⟩
    · simp at hv; subst hv
      have hm2 : m = cap := by simpa using hmm
      have hex : ∀ i, i < len → ∃ y : SgH, (∀ k u, (lsgE.f y)[k]? = some u → W.cell? (a.add (i * 4 + k)) = some u) ∧ SgIn W y := by
        intro i hi
        obtain ⟨cs', h1, h2⟩ := hc i (by omega)
        rw [hC] at h1
        obtain ⟨_, hlen, hcell⟩ := World.cells?_some h1
        obtain ⟨y, hy, z⟩ := seg_form h2
        refine ⟨y, fun k u hu => ?_, z⟩
        have hk : k < 4 := by have h9 := (List.getElem?_eq_some_iff.1 hu).1; rw [lsgE.len y] at h9; exact h9
        have := hcell k hk
        rw [add_add] at this
        rw [this, hy]
        exact hu
      obtain ⟨l, hlen, hr, hp⟩ := rows_of_cells lsgE hl (fun i hi => by
        obtain ⟨y, hy, _⟩ := hex i hi
        exact ⟨y, hy⟩) (SgIn W) (fun i hi y hy => by
        obtain ⟨z, hz, hs⟩ := hex i hi
        have e3 := hy 3 _ rfl
        have g3 := hz 3 _ rfl
        change W.cell? (a.add (i * 4 + 3)) = _ at e3
        rw [g3] at e3
        have q3 : z.mv = y.mv := Option.some.inj e3
        unfold SgIn at hs ⊢
        rw [← q3]
        exact hs)
      exact ⟨l, hr, by omega, hp⟩
  obtain ⟨hs, hr, hlen, hp⟩ := hrows
  have hch : ∀ y : SgH, ∃ b : Sg, SgIn W y → ((y.no = b.no ∧ y.gen = b.gen ∧ y.ende = b.ende) ∧ Rows' litE W y.mv b.items) ∧ sgShort b := by
    intro y
    by_cases c : SgIn W y
    · obtain ⟨ms, hr, hl, hsh⟩ := c
      exact ⟨⟨y.no, y.gen, y.ende, ms⟩, fun _ => ⟨⟨⟨rfl, rfl, rfl⟩, hr⟩, hl, hsh⟩⟩
    · exact ⟨⟨0, 0, 0, []⟩, fun e => absurd e c⟩
  obtain ⟨f, hf⟩ := Classical.axiomOfChoice hch
  refine ⟨hs.map f, ⟨hs, hr, by simp, fun j y b h1 h2 => ?_⟩, by simpa using hlen, fun b hb => ?_⟩
  · rw [List.getElem?_map, h1] at h2
    cases h2
    exact (hf y (hp y (List.mem_of_getElem? h1))).1
  · obtain ⟨y, hy, rfl⟩ := List.mem_map.1 hb
    exact (hf y (hp y hy)).2

set_option maxRecDepth 100000 in
theorem log_of_trod {fuel : Nat} {l : List Value} {x : DataW H × List MemPlace} (hf : DataW.trod enc Try.prog W 0 (fun _ => true) true fuel 28 l = some x) : ∃ L : Lg, LIn W (.agg ⟨l⟩) L := by
  have hC : Try.prog.cellsOf 28 = 8 := by kernel_rfl
  have hN : Try.prog.cellsOf 3 = 1 := by kernel_rfl
  have hD : Try.prog.cellsOf 25 = 2 := by kernel_rfl
  have hG : Try.prog.cellsOf 26 = 1 := by kernel_rfl
  have hS1 : Try.prog.cellsOf 22 = 1 := by kernel_rfl
  have hW1 : Try.prog.cellsOf 23 = 1 := by kernel_rfl
  obtain ⟨xs, n, _, _, hl, hlen, hx⟩ := DataW.trod_struct Try.underlying28 hf
  obtain ⟨v0, v1, v2, v3, v4, v5, v6, v7, rfl⟩ := list8G (hl.trans hC)
  have hlen' : xs.length = 7 := hlen
  have ex : ∀ i, i < 7 → ∃ y, xs[i]? = some y := fun i hi => ⟨_, List.getElem?_eq_getElem (by omega)⟩
  obtain ⟨y0, e0⟩ := ex 0 (by omega)
  obtain ⟨y1, e1⟩ := ex 1 (by omega)
  obtain ⟨y2, e2⟩ := ex 2 (by omega)
  obtain ⟨y3, e3⟩ := ex 3 (by omega)
  obtain ⟨y4, e4⟩ := ex 4 (by omega)
  obtain ⟨y5, e5⟩ := ex 5 (by omega)
  obtain ⟨y6, e6⟩ := ex 6 (by omega)
  have h0 := (hx 0 _ rfl).trans e0
  have h1 := (hx 1 _ rfl).trans e1
  have h2 := (hx 2 _ rfl).trans e2
  have h3 := (hx 3 _ rfl).trans e3
  have h4 := (hx 4 _ rfl).trans e4
  have h5 := (hx 5 _ rfl).trans e5
  have h6 := (hx 6 _ rfl).trans e6
  simp [hD, hN, hG] at h0 h1 h2 h3 h4 h5 h6
  obtain ⟨z0, z1, m, _, _, g0, g1⟩ := trod_struct2 Try.underlying25 h0
  simp [hS1, hW1] at g0 g1
  obtain ⟨ls, hs1, hs2, hs3⟩ := strs_of_trod g0
  obtain ⟨lc, hc1, hc2, hc3⟩ := writes_of_trod g1
  obtain ⟨k1, hk1, _, _⟩ := DataW.trod_int Try.underlying3 h1
  obtain ⟨us, hu1, hu2, hu3⟩ := segs_of_trod h2
  obtain ⟨k3, hk3, _, _⟩ := DataW.trod_int Try.underlying3 h3
  obtain ⟨k4, hk4, _, _⟩ := DataW.trod_int Try.underlying3 h4
  obtain ⟨k5, hk5, _, _⟩ := DataW.trod_int Try.underlying3 h5
  obtain ⟨k6, hk6, _, _⟩ := DataW.trod_int Try.underlying3 h6
  simp at hk1 hk3 hk4 hk5 hk6
  have hml : maxLen ≤ 9223372036854775807 := by decide
  refine ⟨⟨⟨ls, lc⟩, k1, us, k3, k4, k5, k6⟩, v0, v1, v3, ?_, ⟨v0, v1, rfl, hs1, hc1, Nat.le_trans hs2 hml, Nat.le_trans hc2 hml, fun s hs => Nat.le_trans (hs3 s hs) hml, fun x hx => Nat.le_trans (hc3 x hx) hml⟩, hu1, hu2, hu3⟩
  rw [hk1, hk3, hk4, hk5, hk6]

set_option maxRecDepth 100000 in
theorem open_Log {b0 : Nat} {r : Reach} {v : Value} {d : DataW H} {p : List MemPlace} (hv : Value.okWide Try.prog W r b0 28 v) (h : DataW.Trod enc Try.prog W 0 (fun _ => true) true 28 v d p) : ∃ L : Lg, LIn W v L := by
  obtain ⟨cs, rfl, hsz⟩ := okWide_struct Try.underlying28 hv
  obtain ⟨fuel, hf⟩ := h
  obtain ⟨l⟩ := cs
  exact log_of_trod hf
end

end Go.Proofs.Ytieenkloiicnkaa

/- The helpers of the exact laws over logs. -/
namespace Go.Proofs.Ytieenkloiicnkaa
open Go.RowKit

set_option maxRecDepth 100000 in
set_option maxHeartbeats 1000000 in
theorem eqLog_same (L : Lg) (v1 v2 : Value) (w : World) (h1 : LRd w v1 L) (h2 : LRd w v2 L) (hs : L.d.small) (hl : L.used.length ≤ 1099511627776) (hm : ∀ b ∈ L.used, b.items.length ≤ 1099511627776) :
    Calls Try.prog 8 #[v1, v2] w fun e w' => e = .returned (.bool true) ∧ Below w.heap.size w w' := by
  obtain ⟨va, vb, vu, rfl, ha, hb⟩ := h1
  obtain ⟨vc, vd, vx, rfl, hc, hd⟩ := h2
  have b0 : Below w.heap.size w ((w.alloc (.cells #[va, vb, .int .i64 L.segs, vu, .int .i64 L.ng, .int .i64 L.ns, .int .i64 L.st, .int .i64 L.nv] 36)).alloc (.cells #[vc, vd, .int .i64 L.segs, vx, .int .i64 L.ng, .int .i64 L.ns, .int .i64 L.st, .int .i64 L.nv] 36)) := ((Below.refl _ _).alloc (Nat.le_refl _) _).alloc (by simp) _
  have q0 := Box.new w #[va, vb, .int .i64 L.segs, vu, .int .i64 L.ng, .int .i64 L.ns, .int .i64 L.st, .int .i64 L.nv] 36
  have q1 := Box.new (w.alloc (.cells #[va, vb, .int .i64 L.segs, vu, .int .i64 L.ng, .int .i64 L.ns, .int .i64 L.st, .int .i64 L.nv] 36)) #[vc, vd, .int .i64 L.segs, vx, .int .i64 L.ng, .int .i64 L.ns, .int .i64 L.st, .int .i64 L.nv] 36
  rw [show (w.alloc (.cells #[va, vb, .int .i64 L.segs, vu, .int .i64 L.ng, .int .i64 L.ns, .int .i64 L.st, .int .i64 L.nv] 36)).heap.size = w.heap.size + 1 by simp] at q1
  replace q0 := q0.later (belNew _ (.cells #[vc, vd, .int .i64 L.segs, vx, .int .i64 L.ng, .int .i64 L.ns, .int .i64 L.st, .int .i64 L.nv] 36))
  have HB : Hid (∀ x, Below ((w.alloc (.cells #[va, vb, .int .i64 L.segs, vu, .int .i64 L.ng, .int .i64 L.ns, .int .i64 L.st, .int .i64 L.nv] 36)).alloc (.cells #[vc, vd, .int .i64 L.segs, vx, .int .i64 L.ng, .int .i64 L.ns, .int .i64 L.st, .int .i64 L.nv] 36)).heap.size ((w.alloc (.cells #[va, vb, .int .i64 L.segs, vu, .int .i64 L.ng, .int .i64 L.ns, .int .i64 L.st, .int .i64 L.nv] 36)).alloc (.cells #[vc, vd, .int .i64 L.segs, vx, .int .i64 L.ng, .int .i64 L.ns, .int .i64 L.st, .int .i64 L.nv] 36)) x →
      Below w.heap.size w x ∧ GRd x vu L.used ∧ GRd x vx L.used ∧ Box x w.heap.size #[va, vb, .int .i64 L.segs, vu, .int .i64 L.ng, .int .i64 L.ns, .int .i64 L.st, .int .i64 L.nv] 36 ∧ Box x (w.heap.size + 1) #[vc, vd, .int .i64 L.segs, vx, .int .i64 L.ng, .int .i64 L.ns, .int .i64 L.st, .int .i64 L.nv] 36) := by
    intro x h
    have h' : Below w.heap.size w x := b0.trans (h.mono b0.size)
    exact ⟨h', hb.later h', hd.later h', q0.later h, q1.later h⟩
  have HD := Lib.hid (eqDisk_same L.d _ _ _ (ha.later b0) (hc.later b0) hs)
  have HG := Lib.hid (fun x p q => eqSegS_same L.used vu vx x p q hl hm)
  clear hb hd ha hc q0 q1 b0 hm
  go_enter Try.func8, Try.ntmps8
  go_wp2_with fail
  refine HD.out.mono ?_
  rintro e w1 ⟨rfl, k1⟩
  obtain ⟨b1, r1, r2, x0, x1⟩ := HB.out w1 k1
  obtain ⟨c0, c1, c2, c3, c4, c5, c6, c7, _⟩ := x0.eightL
  obtain ⟨d0, d1, d2, d3, d4, d5, d6, d7, _⟩ := x1.eightL
  clear x0 x1
  go_wp2_with fail
  refine (HG.out _ r1 r2).mono ?_
  rintro e w2 ⟨rfl, k2⟩
  obtain ⟨b2, _, _, x0, x1⟩ := HB.out w2 (k1.trans (k2.mono k1.size))
  clear c0 c1 c2 c3 c4 c5 c6 c7 d0 d1 d2 d3 d4 d5 d6 d7 r1 r2
  obtain ⟨c0, c1, c2, c3, c4, c5, c6, c7, _⟩ := x0.eightL
  obtain ⟨d0, d1, d2, d3, d4, d5, d6, d7, _⟩ := x1.eightL
  clear x0 x1
  go_wp2
  go_ret
  exact ⟨rfl, b2⟩

set_option maxRecDepth 100000 in
set_option maxHeartbeats 1000000 in
theorem szLog_any (L : Lg) (v : Value) (w : World) (h : LIn w v L) :
    Calls Try.prog 4 #[v, .int .i64 1048576] w fun e w' => (∃ r : Int, e = .returned (.int .i64 r) ∧ (0 ≤ r → L.lean 1048576)) ∧ Below w.heap.size w w' := by
  obtain ⟨va, vb, vu, rfl, ha, hb, hl, hz⟩ := h
  have b0 := belNew w (.cells #[va, vb, .int .i64 L.segs, vu, .int .i64 L.ng, .int .i64 L.ns, .int .i64 L.st, .int .i64 L.nv] 28)
  have q0 := Box.new w #[va, vb, .int .i64 L.segs, vu, .int .i64 L.ng, .int .i64 L.ns, .int .i64 L.st, .int .i64 L.nv] 28
  have HD := Lib.hid (szDisk_any L.d _ 1048576 _ (ha.later b0) (by omega) (by omega))
  have HB : Hid (∀ x, Below (w.alloc (.cells #[va, vb, .int .i64 L.segs, vu, .int .i64 L.ng, .int .i64 L.ns, .int .i64 L.st, .int .i64 L.nv] 28)).heap.size (w.alloc (.cells #[va, vb, .int .i64 L.segs, vu, .int .i64 L.ng, .int .i64 L.ns, .int .i64 L.st, .int .i64 L.nv] 28)) x → Below w.heap.size w x ∧ LGRd x vu L.used ∧ Box x w.heap.size #[va, vb, .int .i64 L.segs, vu, .int .i64 L.ng, .int .i64 L.ns, .int .i64 L.st, .int .i64 L.nv] 28) := by
    intro x h
    have h' : Below w.heap.size w x := b0.trans (h.mono b0.size)
    exact ⟨h', hb.later h', q0.later h⟩
  have HG := Lib.hid (fun x r p h0 h1 => szSegS_any L.used vu r x p h0 h1 hl hz)
  clear ha hb q0 b0 hz
  go_enter Try.func4, Try.ntmps4
  go_wp2_with fail
  refine HD.out.mono ?_
  rintro e w1 ⟨r, rfl, k1, hr1, hr2, hr3⟩
  obtain ⟨b1, g1, x1⟩ := HB.out w1 k1
  have HR := Lib.hid hr3
  clear hr3
  by_cases hn : r < 0
  · clear x1
    go_wp2
    go_ret
    exact ⟨⟨-1, rfl, fun h => absurd h (by omega)⟩, b1⟩
  · obtain ⟨c0, c1, c2, c3, c4, c5, c6, c7, _⟩ := x1.eightL
    clear x1
    go_wp2_with fail
    clear c0 c1 c2 c3 c4 c5 c6 c7
    refine (HG.out _ r g1 (by omega) (by omega)).mono ?_
    rintro e w2 ⟨⟨q, rfl, hq, hq2, hq3⟩, k2⟩
    obtain ⟨b2, _, _⟩ := HB.out w2 (k1.trans (k2.mono k1.size))
    have HQ := Lib.hid hq
    clear hq
    by_cases hn2 : q < 0
    · go_wp2
      go_ret
      exact ⟨⟨-1, rfl, fun h => absurd h (by omega)⟩, b2⟩
    · have HE : Hid (L.lean 1048576) := by
        have h3 := HR.out (by omega)
        rcases HQ.out with h4 | ⟨h4, h5⟩
        · exact absurd h4 hn2
        · exact ⟨h3, by omega, fun b hb => (h5 b hb).mono hr1⟩
      go_wp2
      go_ret
      exact ⟨⟨q, rfl, fun _ => HE.out⟩, b2⟩




set_option maxRecDepth 100000 in
set_option maxHeartbeats 4000000 in
theorem toLog_any (L : Lg) (v : Value) (w : World) (h : LIn w v L) (hL : L.lean 1048576) :
    Calls Try.prog 6 #[v] w fun e w' => ∃ v', e = .returned v' ∧ LgO w.heap.size w'.heap.size w' v' L ∧ Below w.heap.size w w' := by
  obtain ⟨va, vb, vu, rfl, ha, hb, _, _⟩ := h
  obtain ⟨⟨hL1, hL2, _, _⟩, hL3, _⟩ := hL
  have hm : ∀ b ∈ L.used, b.items.length ≤ 1048576 := fun b hb => by have := gIts_mem hb; omega
  have bA := belNew w (.cells #[va, vb, .int .i64 L.segs, vu, .int .i64 L.ng, .int .i64 L.ns, .int .i64 L.st, .int .i64 L.nv] 28)
  have qA := Box.new w #[va, vb, .int .i64 L.segs, vu, .int .i64 L.ng, .int .i64 L.ns, .int .i64 L.st, .int .i64 L.nv] 28
  obtain ⟨wA, hwA⟩ : ∃ wA, wA = w.alloc (.cells #[va, vb, .int .i64 L.segs, vu, .int .i64 L.ng, .int .i64 L.ns, .int .i64 L.st, .int .i64 L.nv] 28) := ⟨_, rfl⟩
  have eA : wA.heap.size = w.heap.size + 1 := by rw [hwA]; simp
  rw [← hwA] at bA qA
  have hB := Box.new wA #[.slice none 0 0, .slice none 0 0, .int .i64 0, .slice none 0 0, .int .i64 0, .int .i64 0, .int .i64 0, .int .i64 0] 36
  have kB := belNew wA (.cells #[.slice none 0 0, .slice none 0 0, .int .i64 0, .slice none 0 0, .int .i64 0, .int .i64 0, .int .i64 0, .int .i64 0] 36)
  have bB := bA.trans (kB.mono bA.size)
  obtain ⟨wB, hwB⟩ : ∃ wB, wB = wA.alloc (.cells #[.slice none 0 0, .slice none 0 0, .int .i64 0, .slice none 0 0, .int .i64 0, .int .i64 0, .int .i64 0, .int .i64 0] 36) := ⟨_, rfl⟩
  have eB : wB.heap.size = w.heap.size + 1 + 1 := by rw [hwB]; simp; omega
  rw [← hwB] at hB kB bB
  rw [eA] at hB
  have hC := Box.new wB #[.slice none 0 0, .slice none 0 0, .int .i64 0, .slice none 0 0, .int .i64 0, .int .i64 0, .int .i64 0, .int .i64 0] 36
  have kC := belNew wB (.cells #[.slice none 0 0, .slice none 0 0, .int .i64 0, .slice none 0 0, .int .i64 0, .int .i64 0, .int .i64 0, .int .i64 0] 36)
  have bC := bB.trans (kC.mono bB.size)
  obtain ⟨wC, hwC⟩ : ∃ wC, wC = wB.alloc (.cells #[.slice none 0 0, .slice none 0 0, .int .i64 0, .slice none 0 0, .int .i64 0, .int .i64 0, .int .i64 0, .int .i64 0] 36) := ⟨_, rfl⟩
  have eC : wC.heap.size = w.heap.size + 1 + 1 + 1 := by rw [hwC]; simp; omega
  rw [← hwC] at hC kC bC
  rw [eB] at hC
  have x1 := hB.later kC
  have x0 := (qA.later kB).later kC
  have HT := Lib.hid (toDisk_any L.d _ wC (ha.later bC) (by omega) (by omega))
  have HU := Lib.hid (fun x p => toSegS_any L.used vu x p (by omega) hm)
  have HEC := Lib.hid eC
  have HWC : Hid (wC = ((w.alloc (.cells #[va, vb, .int .i64 L.segs, vu, .int .i64 L.ng, .int .i64 L.ns, .int .i64 L.st, .int .i64 L.nv] 28)).alloc (.cells #[.slice none 0 0, .slice none 0 0, .int .i64 0, .slice none 0 0, .int .i64 0, .int .i64 0, .int .i64 0, .int .i64 0] 36)).alloc (.cells #[.slice none 0 0, .slice none 0 0, .int .i64 0, .slice none 0 0, .int .i64 0, .int .i64 0, .int .i64 0, .int .i64 0] 36)) := by rw [← hwA, ← hwB, ← hwC]; exact rfl
  have HLB : Hid (∀ x, Below w.heap.size w x → LGRd x vu L.used) := fun x hx => hb.later hx
  clear ha hb qA hB kB bB bA kC eA eB eC hwA hwB hwC hm hL3
  go_enter Try.func6, Try.ntmps6
  go_wp2_with fail
  rw [← HWC.out]
  clear HWC
  refine HT.out.mono ?_
  rintro e w4 ⟨v1, rfl, o1, k4⟩
  obtain ⟨a1, a2, p1, p2, rfl⟩ := o1.form
  replace x0 := x0.later k4
  replace x1 := x1.later k4
  have x2 := hC.later k4
  have b4 := bC.trans (k4.mono bC.size)
  obtain ⟨c0, c1, c2, c3, c4, c5, c6, c7, _⟩ := x0.eightL
  obtain ⟨d0, d1, d2, d3, d4, d5, d6, d7, f0, f1, f2, f3, f4, f5, f6, f7⟩ := x2.eightL
  have y0 := ((x0.other (g := w.heap.size + 1 + 1) (by omega) 0 (.slice a1 L.d.sec.length p1)).other (g := w.heap.size + 1 + 1) (by omega) 1 (.slice a2 L.d.cache.length p2)).other (g := w.heap.size + 1 + 1) (by omega) 2 (.int .i64 L.segs)
  have y1 := ((x1.other (g := w.heap.size + 1 + 1) (by omega) 0 (.slice a1 L.d.sec.length p1)).other (g := w.heap.size + 1 + 1) (by omega) 1 (.slice a2 L.d.cache.length p2)).other (g := w.heap.size + 1 + 1) (by omega) 2 (.int .i64 L.segs)
  have y2a : Box (w4.setCell ⟨w.heap.size + 1 + 1, 0, none⟩ (.slice a1 L.d.sec.length p1)) (w.heap.size + 1 + 1) #[.slice a1 L.d.sec.length p1, .slice none 0 0, .int .i64 0, .slice none 0 0, .int .i64 0, .int .i64 0, .int .i64 0, .int .i64 0] 36 := x2.set 0 _
  have y2b : Box ((w4.setCell ⟨w.heap.size + 1 + 1, 0, none⟩ (.slice a1 L.d.sec.length p1)).setCell ⟨w.heap.size + 1 + 1, 1, none⟩ (.slice a2 L.d.cache.length p2)) (w.heap.size + 1 + 1) #[.slice a1 L.d.sec.length p1, .slice a2 L.d.cache.length p2, .int .i64 0, .slice none 0 0, .int .i64 0, .int .i64 0, .int .i64 0, .int .i64 0] 36 := y2a.set 1 _
  have y2 : Box (((w4.setCell ⟨w.heap.size + 1 + 1, 0, none⟩ (.slice a1 L.d.sec.length p1)).setCell ⟨w.heap.size + 1 + 1, 1, none⟩ (.slice a2 L.d.cache.length p2)).setCell ⟨w.heap.size + 1 + 1, 2, none⟩ (.int .i64 L.segs)) (w.heap.size + 1 + 1) #[.slice a1 L.d.sec.length p1, .slice a2 L.d.cache.length p2, .int .i64 L.segs, .slice none 0 0, .int .i64 0, .int .i64 0, .int .i64 0, .int .i64 0] 36 := y2b.set 2 _
  have b5 := ((b4.setCell (p := ⟨w.heap.size + 1 + 1, 0, none⟩) (by simp; omega) (.slice a1 L.d.sec.length p1)).setCell (p := ⟨w.heap.size + 1 + 1, 1, none⟩) (by simp; omega) (.slice a2 L.d.cache.length p2)).setCell (p := ⟨w.heap.size + 1 + 1, 2, none⟩) (by simp; omega) (.int .i64 L.segs)
  have g5 := ((stored_grown w4 (w.heap.size + 1 + 1) 0 (.slice a1 L.d.sec.length p1)).trans (stored_grown _ (w.heap.size + 1 + 1) 1 (.slice a2 L.d.cache.length p2))).trans (stored_grown _ (w.heap.size + 1 + 1) 2 (.int .i64 L.segs))
  have s5 : (((w4.setCell ⟨w.heap.size + 1 + 1, 0, none⟩ (.slice a1 L.d.sec.length p1)).setCell ⟨w.heap.size + 1 + 1, 1, none⟩ (.slice a2 L.d.cache.length p2)).setCell ⟨w.heap.size + 1 + 1, 2, none⟩ (.int .i64 L.segs)).heap.size = w4.heap.size := by simp
  have HO1 := Lib.hid o1
  have HK4 := Lib.hid k4
  clear x0 x1 x2 y2a y2b b4 hC o1 k4 bC HT
  have HB5 := Lib.hid b5
  have HG5 := Lib.hid g5
  have HS5 := Lib.hid s5
  clear b5 g5 s5
  go_wp2_with fail
  clear c0 c1 c2 c3 c4 c5 c6 c7 d0 d1 d2 d3 d4 d5 d6 d7 f0 f1 f2 f3 f4 f5 f6 f7
  generalize ((w4.setCell ⟨w.heap.size + 1 + 1, 0, none⟩ (.slice a1 L.d.sec.length p1)).setCell ⟨w.heap.size + 1 + 1, 1, none⟩ (.slice a2 L.d.cache.length p2)).setCell ⟨w.heap.size + 1 + 1, 2, none⟩ (.int .i64 L.segs) = w5 at y0 y1 y2 HB5 HG5 HS5 ⊢
  refine (HU.out _ (HLB.out _ HB5.out)).mono ?_
  rintro e w6 ⟨v2, hs, rfl, S, k6⟩
  obtain ⟨a3, p3, rfl⟩ := S.row.form
  have hlen := S.len
  rw [hlen] at S ⊢
  have HP : Hid (LgP wC.heap.size w6.heap.size w6 (.slice a1 L.d.sec.length p1) (.slice a2 L.d.cache.length p2) (.slice a3 L.used.length p3) L hs) := by
    have o5 : DOwn wC.heap.size w4.heap.size w5 (.agg #[.slice a1 L.d.sec.length p1, .slice a2 L.d.cache.length p2]) L.d := by
      refine HO1.out.kept (B' := w.heap.size + 1 + 1) (T' := w.heap.size + 1 + 1 + 1) (Kept.of_grown HG5.out (fun k hk => by have := Option.some.inj hk; omega)) (.inr ?_)
      have := HEC.out
      omega
    exact LgP.mk2 (o5.later k6) S.gown (by have := HS5.out; omega) (by have := HK4.out.size; have := HS5.out; omega) (by have := k6.size; have := HS5.out; omega)
  have b6 := HB5.out.trans (k6.mono HB5.out.size)
  replace y0 := y0.later k6
  replace y1 := y1.later k6
  replace y2 := y2.later k6
  obtain ⟨c0, c1, c2, c3, c4, c5, c6, c7, _⟩ := y0.eightL
  obtain ⟨d0, d1, d2, d3, d4, d5, d6, d7, f0, f1, f2, f3, f4, f5, f6, f7⟩ := y2.eightL
  obtain ⟨l0, l1, l2, l3, l4, l5, l6, l7, m0, m1, m2, m3, m4, m5, m6, m7⟩ := y1.eightL
  have HB6 := Lib.hid b6
  have L5 := (((((y1.other (g := w.heap.size + 1 + 1) (by omega) 3 (.slice a3 L.used.length p3)).other (g := w.heap.size + 1 + 1) (by omega) 4 (.int .i64 L.ng)).other (g := w.heap.size + 1 + 1) (by omega) 5 (.int .i64 L.ns)).other (g := w.heap.size + 1 + 1) (by omega) 6 (.int .i64 L.st)).other (g := w.heap.size + 1 + 1) (by omega) 7 (.int .i64 L.nv)).set8L (.slice a1 L.d.sec.length p1) (.slice a2 L.d.cache.length p2) (.int .i64 L.segs) (.slice a3 L.used.length p3) (.int .i64 L.ng) (.int .i64 L.ns) (.int .i64 L.st) (.int .i64 L.nv)
  have G5 : w6.grownBy (((((w6.setCell ⟨w.heap.size + 1 + 1, 3, none⟩ (.slice a3 L.used.length p3)).setCell ⟨w.heap.size + 1 + 1, 4, none⟩ (.int .i64 L.ng)).setCell ⟨w.heap.size + 1 + 1, 5, none⟩ (.int .i64 L.ns)).setCell ⟨w.heap.size + 1 + 1, 6, none⟩ (.int .i64 L.st)).setCell ⟨w.heap.size + 1 + 1, 7, none⟩ (.int .i64 L.nv)) (some (w.heap.size + 1 + 1)) := ((((stored_grown w6 (w.heap.size + 1 + 1) 3 (.slice a3 L.used.length p3)).trans (stored_grown _ (w.heap.size + 1 + 1) 4 (.int .i64 L.ng))).trans (stored_grown _ (w.heap.size + 1 + 1) 5 (.int .i64 L.ns))).trans (stored_grown _ (w.heap.size + 1 + 1) 6 (.int .i64 L.st))).trans (stored_grown _ (w.heap.size + 1 + 1) 7 (.int .i64 L.nv))
  have G6 := grown_set8L (((((w6.setCell ⟨w.heap.size + 1 + 1, 3, none⟩ (.slice a3 L.used.length p3)).setCell ⟨w.heap.size + 1 + 1, 4, none⟩ (.int .i64 L.ng)).setCell ⟨w.heap.size + 1 + 1, 5, none⟩ (.int .i64 L.ns)).setCell ⟨w.heap.size + 1 + 1, 6, none⟩ (.int .i64 L.st)).setCell ⟨w.heap.size + 1 + 1, 7, none⟩ (.int .i64 L.nv)) (w.heap.size + 1) (.slice a1 L.d.sec.length p1) (.slice a2 L.d.cache.length p2) (.int .i64 L.segs) (.slice a3 L.used.length p3) (.int .i64 L.ng) (.int .i64 L.ns) (.int .i64 L.st) (.int .i64 L.nv)
  have b5 : Below w.heap.size w (set8L (((((w6.setCell ⟨w.heap.size + 1 + 1, 3, none⟩ (.slice a3 L.used.length p3)).setCell ⟨w.heap.size + 1 + 1, 4, none⟩ (.int .i64 L.ng)).setCell ⟨w.heap.size + 1 + 1, 5, none⟩ (.int .i64 L.ns)).setCell ⟨w.heap.size + 1 + 1, 6, none⟩ (.int .i64 L.st)).setCell ⟨w.heap.size + 1 + 1, 7, none⟩ (.int .i64 L.nv)) (w.heap.size + 1) (.slice a1 L.d.sec.length p1) (.slice a2 L.d.cache.length p2) (.int .i64 L.segs) (.slice a3 L.used.length p3) (.int .i64 L.ng) (.int .i64 L.ns) (.int .i64 L.st) (.int .i64 L.nv)) := below_set8L (((((HB6.out.setCell (p := ⟨w.heap.size + 1 + 1, 3, none⟩) (by simp; omega) (.slice a3 L.used.length p3)).setCell (p := ⟨w.heap.size + 1 + 1, 4, none⟩) (by simp; omega) (.int .i64 L.ng)).setCell (p := ⟨w.heap.size + 1 + 1, 5, none⟩) (by simp; omega) (.int .i64 L.ns)).setCell (p := ⟨w.heap.size + 1 + 1, 6, none⟩) (by simp; omega) (.int .i64 L.st)).setCell (p := ⟨w.heap.size + 1 + 1, 7, none⟩) (by simp; omega) (.int .i64 L.nv)) (by omega) (.slice a1 L.d.sec.length p1) (.slice a2 L.d.cache.length p2) (.int .i64 L.segs) (.slice a3 L.used.length p3) (.int .i64 L.ng) (.int .i64 L.ns) (.int .i64 L.st) (.int .i64 L.nv)
  obtain ⟨z0, z1, z2, z3, z4, z5, z6, z7, _⟩ := L5.eightL
  have HG5 := Lib.hid G5
  have HG6 := Lib.hid G6
  have HB7 := Lib.hid b5
  unfold set8L at z0 z1 z2 z3 z4 z5 z6 z7 HG6 HB7
  clear L5 G5 G6 b5 S k6 hlen b6 y0 HB5 HS5 HO1 HK4 HLB HU
  clear y1 y2
  go_wp2
  refine bodyPost_ret (v := .agg #[.slice a1 L.d.sec.length p1, .slice a2 L.d.cache.length p2, .int .i64 L.segs, .slice a3 L.used.length p3, .int .i64 L.ng, .int .i64 L.ns, .int .i64 L.st, .int .i64 L.nv]) (by simp [results, Try.results6, go_sem, z0, z1, z2, z3, z4, z5, z6, z7]) rfl ⟨_, rfl, ⟨_, _, _, hs, rfl, ?_⟩, HB7.out⟩
  have hz := Nat.le_trans HG5.out.size HG6.out.size
  refine (HP.out.stay hz (fun q h1 h2 => ?_)).widen (by have := HEC.out; omega) hz (Nat.le_refl _)
  have h3 := HEC.out
  have e1 := HG5.out.block q h2 (fun e => by have := Option.some.inj e; omega)
  have e2 := HG6.out.block q (Nat.lt_of_lt_of_le h2 HG5.out.size) (fun e => by have := Option.some.inj e; omega)
  exact e2.trans e1

end Go.Proofs.Ytieenkloiicnkaa
