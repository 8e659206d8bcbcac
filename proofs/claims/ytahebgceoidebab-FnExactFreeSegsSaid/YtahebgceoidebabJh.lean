/- Texts of our own, joined. -/
import Derived.Test.YtahebgceoidebabJg
import Derived.Deep.Slices
import Derived.Lib.SmallJoins
import Derived.ProofKit
import Derived.Test.YtahebgceoidebabJb
import Derived.Deep.QuietTactic
import Derived.BigQuiet
import Derived.Test.YtahebgceoidebabJa
import Derived.OpenShut
import Derived.Lib.Hide
import Derived.WalkSmall
/- Logs that come in as arguments. -/
namespace Go.Proofs.Ytahebgceoidebab
open Go.RowKit Go.ChangeShapes Go.WideShapes Go.ChangeAt Go.Deep Go.Joins

instance : Inhabited SgH := ⟨⟨0, 0, 0, none, 0, 0⟩⟩
theorem list4G {α : Type} {l : List α} (h : l.length = 4) : ∃ v0 v1 v2 v3, l = [v0, v1, v2, v3] := by
  match l, h with
  | [v0, v1, v2, v3], _ => exact ⟨v0, v1, v2, v3, rfl⟩
theorem list8G {α : Type} {l : List α} (h : l.length = 8) : ∃ v0 v1 v2 v3 v4 v5 v6 v7, l = [v0, v1, v2, v3, v4, v5, v6, v7] := by
  match l, h with
  | [v0, v1, v2, v3, v4, v5, v6, v7], _ => exact ⟨v0, v1, v2, v3, v4, v5, v6, v7, rfl⟩

section
variable {H : Type} {enc : TypeId × Value → H} {P : Program} {w : World} {base : Nat} {spare : Nat → Bool} {held : Bool}

/-- The fields of a struct, each of one cell. -/
theorem trod_onesG {t : TypeId} {fs : Array Field} {fuel : Nat} {cs : List Value} {x : DataW H × List MemPlace} (hs : P.underlying t = some (.struct fs)) (hone : oneCellFields P fs = true)
    (h : DataW.trod enc P w base spare held fuel t cs = some x) :
    ∃ n : Nat, cs.length = P.cellsOf t ∧ ∀ (i : Nat) (f : Field) (v : Value), fs[i]? = some f → cs[i]? = some v → ∃ y, DataW.trod enc P w base spare held n f.type [v] = some y := by
  obtain ⟨xs, n, _, _, hl, hlen, hf⟩ := DataW.trod_struct hs h
  refine ⟨n, hl, fun i f v hi hv => ?_⟩
  obtain ⟨o, k⟩ := hone_of hone i f hi
  have hx := hf i f hi
  rw [o, k] at hx
  have e : (List.drop i cs).take 1 = [v] := by
    rw [List.take_one, List.head?_drop, hv]; rfl
  rw [e] at hx
  have hi' : i < xs.length := by
    rw [hlen]
    exact (Array.getElem?_eq_some_iff.1 hi).1
  exact ⟨xs[i], by first | (rw [hx]; exact List.getElem?_eq_getElem hi') | (rw [List.getElem?_eq_getElem hi'] at hx; exact hx) | simpa [hi'] using hx⟩
end

section
variable {H : Type} {enc : TypeId × Value → H} {W : World}

/-- A segment as it came in: its items can be read. -/
def SgIn (W : World) (x : SgH) : Prop := ∃ l : List Itm, ItsIn W x.mv l

set_option maxRecDepth 100000 in
theorem seg_form {fuel : Nat} {l : List Value} {x : DataW H × List MemPlace} (hf : DataW.trod enc Try.prog W 0 (fun _ => true) true fuel 61 l = some x) :
    ∃ y : SgH, l = lsgE.f y ∧ SgIn W y := by
  have hC : Try.prog.cellsOf 61 = 4 := by kernel_rfl
  obtain ⟨n, hl, hx⟩ := trod_onesG Try.underlying61 (by kernel_rfl) hf
  obtain ⟨v0, v1, v2, v3, rfl⟩ := list4G (hl.trans hC)
  obtain ⟨y0, h0⟩ := hx 0 _ v0 rfl rfl
  obtain ⟨y1, h1⟩ := hx 1 _ v1 rfl rfl
  obtain ⟨y2, h2⟩ := hx 2 _ v2 rfl rfl
  obtain ⟨y3, h3⟩ := hx 3 _ v3 rfl rfl
  obtain ⟨k0, hk0, _, _⟩ := DataW.trod_int Try.underlying3 h0
  obtain ⟨k1, hk1, _, _⟩ := DataW.trod_int Try.underlying3 h1
  obtain ⟨k2, hk2, _, _⟩ := DataW.trod_int Try.underlying3 h2
  obtain ⟨ms, hr⟩ := items_of_trod h3
  simp at hk0 hk1 hk2
  obtain ⟨a, n, c, rfl⟩ : ∃ ad n cap, v3 = .slice ad n cap := by
    rcases hr.1.ways with ⟨_, a, c, e⟩ | ⟨_, g, off, c, e, _⟩
    · exact ⟨_, _, _, e⟩
    · exact ⟨_, _, _, e⟩
  exact ⟨⟨k0, k1, k2, a, n, c⟩, by rw [hk0, hk1, hk2]; rfl, ms, hr⟩

set_option maxRecDepth 100000 in
theorem segs_of_trod {fuel : Nat} {v : Value} {x : DataW H × List MemPlace} (h : DataW.trod enc Try.prog W 0 (fun _ => true) true fuel 26 [v] = some x) :
    ∃ l : List Sg, LGRd W v l ∧ l.length ≤ 9223372036854775807 ∧ ∀ b ∈ l, sgShort b := by
  have hC : Try.prog.cellsOf 61 = 4 := by kernel_rfl
  have hml : maxLen ≤ 9223372036854775807 := by decide
  have hrows : ∃ hs : List SgH, Rows' lsgE W v hs ∧ hs.length ≤ 9223372036854775807 ∧ ∀ y ∈ hs, SgIn W y := by
    rcases open_slice Try.underlying26 h with ⟨hv, _⟩ | ⟨a, len, cap, m, n, D, Pl, hv, _, hl, hm, hmm, _, hc⟩
    · simp at hv; subst hv
      exact ⟨[], .inl ⟨rfl, _, _, rfl⟩, by simp, by simp⟩
    · simp at hv; subst hv
      have hm2 : m = cap := by simpa using hmm
      have hex : ∀ i, i < len → ∃ y : SgH, (∀ k u, (lsgE.f y)[k]? = some u → W.cell? (a.add (i * 4 + k)) = some u) ∧ SgIn W y := by
        intro i hi
        obtain ⟨cs', h1, h2⟩ := hc i (by omega)
        rw [hC] at h1
        obtain ⟨_, hlen, hcell⟩ := World.cells?_some h1
        obtain ⟨y, hy, z⟩ := seg_form h2
        refine ⟨y, fun k u hu => ?_, z⟩
        have hk : k < 4 := by have h9 := (List.getElem?_eq_some_iff.1 hu).1; rw [lsgE.len y] at h9; exact h9
        have := hcell k hk
        rw [add_add] at this
        rw [this, hy]
        exact hu
      obtain ⟨l, hlen, hr, hp⟩ := rows_of_cells lsgE hl (fun i hi => by
        obtain ⟨y, hy, _⟩ := hex i hi
        exact ⟨y, hy⟩) (SgIn W) (fun i hi y hy => by
        obtain ⟨z, hz, hs⟩ := hex i hi
        have e3 := hy 3 _ rfl
        have g3 := hz 3 _ rfl
        change W.cell? (a.add (i * 4 + 3)) = _ at e3
        rw [g3] at e3
        have q3 : z.mv = y.mv := Option.some.inj e3
        unfold SgIn at hs ⊢
        rw [← q3]
        exact hs)
      exact ⟨l, hr, by omega, hp⟩
  obtain ⟨hs, hr, hlen, hp⟩ := hrows
  have hch : ∀ y : SgH, ∃ b : Sg, SgIn W y → ((y.no = b.no ∧ y.gen = b.gen ∧ y.ende = b.ende) ∧ Rows' litE W y.mv b.items) ∧ sgShort b := by
    intro y
    by_cases c : SgIn W y
    · obtain ⟨ms, hr, hl, hsh⟩ := c
      exact ⟨⟨y.no, y.gen, y.ende, ms⟩, fun _ => ⟨⟨⟨rfl, rfl, rfl⟩, hr⟩, hl, hsh⟩⟩
    · exact ⟨⟨0, 0, 0, []⟩, fun e => absurd e c⟩
  obtain ⟨f, hf⟩ := Classical.axiomOfChoice hch
  refine ⟨hs.map f, ⟨hs, hr, by simp, fun j y b h1 h2 => ?_⟩, by simpa using hlen, fun b hb => ?_⟩
  · rw [List.getElem?_map, h1] at h2
    cases h2
    exact (hf y (hp y (List.mem_of_getElem? h1))).1
  · obtain ⟨y, hy, rfl⟩ := List.mem_map.1 hb
    exact (hf y (hp y hy)).2

set_option maxRecDepth 100000 in
theorem log_of_trod {fuel : Nat} {l : List Value} {x : DataW H × List MemPlace} (hf : DataW.trod enc Try.prog W 0 (fun _ => true) true fuel 28 l = some x) : ∃ L : Lg, LIn W (.agg ⟨l⟩) L := by
  have hC : Try.prog.cellsOf 28 = 8 := by kernel_rfl
  have hN : Try.prog.cellsOf 3 = 1 := by kernel_rfl
  have hD : Try.prog.cellsOf 25 = 2 := by kernel_rfl
  have hG : Try.prog.cellsOf 26 = 1 := by kernel_rfl
  have hS1 : Try.prog.cellsOf 22 = 1 := by kernel_rfl
  have hW1 : Try.prog.cellsOf 23 = 1 := by kernel_rfl
  obtain ⟨xs, n, _, _, hl, hlen, hx⟩ := DataW.trod_struct Try.underlying28 hf
  obtain ⟨v0, v1, v2, v3, v4, v5, v6, v7, rfl⟩ := list8G (hl.trans hC)
  have hlen' : xs.length = 7 := hlen
  have ex : ∀ i, i < 7 → ∃ y, xs[i]? = some y := fun i hi => ⟨_, List.getElem?_eq_getElem (by omega)⟩
  obtain ⟨y0, e0⟩ := ex 0 (by omega)
  obtain ⟨y1, e1⟩ := ex 1 (by omega)
  obtain ⟨y2, e2⟩ := ex 2 (by omega)
  obtain ⟨y3, e3⟩ := ex 3 (by omega)
  obtain ⟨y4, e4⟩ := ex 4 (by omega)
  obtain ⟨y5, e5⟩ := ex 5 (by omega)
  obtain ⟨y6, e6⟩ := ex 6 (by omega)
  have h0 := (hx 0 _ rfl).trans e0
  have h1 := (hx 1 _ rfl).trans e1
  have h2 := (hx 2 _ rfl).trans e2
  have h3 := (hx 3 _ rfl).trans e3
  have h4 := (hx 4 _ rfl).trans e4
  have h5 := (hx 5 _ rfl).trans e5
  have h6 := (hx 6 _ rfl).trans e6
  simp [hD, hN, hG] at h0 h1 h2 h3 h4 h5 h6
  obtain ⟨z0, z1, m, _, _, g0, g1⟩ := trod_struct2 Try.underlying25 h0
  simp [hS1, hW1] at g0 g1
  obtain ⟨ls, hs1, hs2, hs3⟩ := strs_of_trod g0
  obtain ⟨lc, hc1, hc2, hc3⟩ := writes_of_trod g1
  obtain ⟨k1, hk1, _, _⟩ := DataW.trod_int Try.underlying3 h1
  obtain ⟨us, hu1, hu2, hu3⟩ := segs_of_trod h2
  obtain ⟨k3, hk3, _, _⟩ := DataW.trod_int Try.underlying3 h3
  obtain ⟨k4, hk4, _, _⟩ := DataW.trod_int Try.underlying3 h4
  obtain ⟨k5, hk5, _, _⟩ := DataW.trod_int Try.underlying3 h5
  obtain ⟨k6, hk6, _, _⟩ := DataW.trod_int Try.underlying3 h6
  simp at hk1 hk3 hk4 hk5 hk6
  have hml : maxLen ≤ 9223372036854775807 := by decide
  refine ⟨⟨⟨ls, lc⟩, k1, us, k3, k4, k5, k6⟩, v0, v1, v3, ?_, ⟨v0, v1, rfl, hs1, hc1, Nat.le_trans hs2 hml, Nat.le_trans hc2 hml, fun s hs => Nat.le_trans (hs3 s hs) hml, fun x hx => Nat.le_trans (hc3 x hx) hml⟩, hu1, hu2, hu3⟩
  rw [hk1, hk3, hk4, hk5, hk6]

set_option maxRecDepth 100000 in
theorem open_Log {b0 : Nat} {r : Reach} {v : Value} {d : DataW H} {p : List MemPlace} (hv : Value.okWide Try.prog W r b0 28 v) (h : DataW.Trod enc Try.prog W 0 (fun _ => true) true 28 v d p) : ∃ L : Lg, LIn W v L := by
  obtain ⟨cs, rfl, hsz⟩ := okWide_struct Try.underlying28 hv
  obtain ⟨fuel, hf⟩ := h
  obtain ⟨l⟩ := cs
  exact log_of_trod hf
end

end Go.Proofs.Ytahebgceoidebab

/- The helpers of the exact laws over logs. -/
namespace Go.Proofs.Ytahebgceoidebab
open Go.RowKit

set_option maxRecDepth 100000 in
set_option maxHeartbeats 1000000 in
theorem eqLog_same (L : Lg) (v1 v2 : Value) (w : World) (h1 : LRd w v1 L) (h2 : LRd w v2 L) (hs : L.d.small) (hl : L.used.length ≤ 1099511627776) (hm : ∀ b ∈ L.used, b.items.length ≤ 1099511627776) :
    Calls Try.prog 9 #[v1, v2] w fun e w' => e = .returned (.bool true) ∧ Below w.heap.size w w' := by
  obtain ⟨va, vb, vu, rfl, ha, hb⟩ := h1
  obtain ⟨vc, vd, vx, rfl, hc, hd⟩ := h2
  have b0 : Below w.heap.size w ((w.alloc (.cells #[va, vb, .int .i64 L.segs, vu, .int .i64 L.ng, .int .i64 L.ns, .int .i64 L.st, .int .i64 L.nv] 37)).alloc (.cells #[vc, vd, .int .i64 L.segs, vx, .int .i64 L.ng, .int .i64 L.ns, .int .i64 L.st, .int .i64 L.nv] 37)) := ((Below.refl _ _).alloc (Nat.le_refl _) _).alloc (by simp) _
  have q0 := Box.new w #[va, vb, .int .i64 L.segs, vu, .int .i64 L.ng, .int .i64 L.ns, .int .i64 L.st, .int .i64 L.nv] 37
  have q1 := Box.new (w.alloc (.cells #[va, vb, .int .i64 L.segs, vu, .int .i64 L.ng, .int .i64 L.ns, .int .i64 L.st, .int .i64 L.nv] 37)) #[vc, vd, .int .i64 L.segs, vx, .int .i64 L.ng, .int .i64 L.ns, .int .i64 L.st, .int .i64 L.nv] 37
  rw [show (w.alloc (.cells #[va, vb, .int .i64 L.segs, vu, .int .i64 L.ng, .int .i64 L.ns, .int .i64 L.st, .int .i64 L.nv] 37)).heap.size = w.heap.size + 1 by simp] at q1
  replace q0 := q0.later (belNew _ (.cells #[vc, vd, .int .i64 L.segs, vx, .int .i64 L.ng, .int .i64 L.ns, .int .i64 L.st, .int .i64 L.nv] 37))
  have HB : Hid (∀ x, Below ((w.alloc (.cells #[va, vb, .int .i64 L.segs, vu, .int .i64 L.ng, .int .i64 L.ns, .int .i64 L.st, .int .i64 L.nv] 37)).alloc (.cells #[vc, vd, .int .i64 L.segs, vx, .int .i64 L.ng, .int .i64 L.ns, .int .i64 L.st, .int .i64 L.nv] 37)).heap.size ((w.alloc (.cells #[va, vb, .int .i64 L.segs, vu, .int .i64 L.ng, .int .i64 L.ns, .int .i64 L.st, .int .i64 L.nv] 37)).alloc (.cells #[vc, vd, .int .i64 L.segs, vx, .int .i64 L.ng, .int .i64 L.ns, .int .i64 L.st, .int .i64 L.nv] 37)) x →
      Below w.heap.size w x ∧ GRd x vu L.used ∧ GRd x vx L.used ∧ Box x w.heap.size #[va, vb, .int .i64 L.segs, vu, .int .i64 L.ng, .int .i64 L.ns, .int .i64 L.st, .int .i64 L.nv] 37 ∧ Box x (w.heap.size + 1) #[vc, vd, .int .i64 L.segs, vx, .int .i64 L.ng, .int .i64 L.ns, .int .i64 L.st, .int .i64 L.nv] 37) := by
    intro x h
    have h' : Below w.heap.size w x := b0.trans (h.mono b0.size)
    exact ⟨h', hb.later h', hd.later h', q0.later h, q1.later h⟩
  have HD := Lib.hid (eqDisk_same L.d _ _ _ (ha.later b0) (hc.later b0) hs)
  have HG := Lib.hid (fun x p q => eqSegS_same L.used vu vx x p q hl hm)
  clear hb hd ha hc q0 q1 b0 hm
  go_enter Try.func9, Try.ntmps9
  go_wp2_with fail
  refine HD.out.mono ?_
  rintro e w1 ⟨rfl, k1⟩
  obtain ⟨b1, r1, r2, x0, x1⟩ := HB.out w1 k1
  obtain ⟨c0, c1, c2, c3, c4, c5, c6, c7, _⟩ := x0.eightL
  obtain ⟨d0, d1, d2, d3, d4, d5, d6, d7, _⟩ := x1.eightL
  clear x0 x1
  go_wp2_with fail
  refine (HG.out _ r1 r2).mono ?_
  rintro e w2 ⟨rfl, k2⟩
  obtain ⟨b2, _, _, x0, x1⟩ := HB.out w2 (k1.trans (k2.mono k1.size))
  clear c0 c1 c2 c3 c4 c5 c6 c7 d0 d1 d2 d3 d4 d5 d6 d7 r1 r2
  obtain ⟨c0, c1, c2, c3, c4, c5, c6, c7, _⟩ := x0.eightL
  obtain ⟨d0, d1, d2, d3, d4, d5, d6, d7, _⟩ := x1.eightL
  clear x0 x1
  go_wp2
  go_ret
  exact ⟨rfl, b2⟩

set_option maxRecDepth 100000 in
set_option maxHeartbeats 1000000 in
theorem szLog_any (L : Lg) (v : Value) (w : World) (h : LIn w v L) :
    Calls Try.prog 4 #[v, .int .i64 1048576] w fun e w' => (∃ r : Int, e = .returned (.int .i64 r) ∧ (0 ≤ r → L.lean 1048576)) ∧ Below w.heap.size w w' := by
  obtain ⟨va, vb, vu, rfl, ha, hb, hl, hz⟩ := h
  have b0 := belNew w (.cells #[va, vb, .int .i64 L.segs, vu, .int .i64 L.ng, .int .i64 L.ns, .int .i64 L.st, .int .i64 L.nv] 28)
  have q0 := Box.new w #[va, vb, .int .i64 L.segs, vu, .int .i64 L.ng, .int .i64 L.ns, .int .i64 L.st, .int .i64 L.nv] 28
  have HD := Lib.hid (szDisk_any L.d _ 1048576 _ (ha.later b0) (by omega) (by omega))
  have HB : Hid (∀ x, Below (w.alloc (.cells #[va, vb, .int .i64 L.segs, vu, .int .i64 L.ng, .int .i64 L.ns, .int .i64 L.st, .int .i64 L.nv] 28)).heap.size (w.alloc (.cells #[va, vb, .int .i64 L.segs, vu, .int .i64 L.ng, .int .i64 L.ns, .int .i64 L.st, .int .i64 L.nv] 28)) x → Below w.heap.size w x ∧ LGRd x vu L.used ∧ Box x w.heap.size #[va, vb, .int .i64 L.segs, vu, .int .i64 L.ng, .int .i64 L.ns, .int .i64 L.st, .int .i64 L.nv] 28) := by
    intro x h
    have h' : Below w.heap.size w x := b0.trans (h.mono b0.size)
    exact ⟨h', hb.later h', q0.later h⟩
  have HG := Lib.hid (fun x r p h0 h1 => szSegS_any L.used vu r x p h0 h1 hl hz)
  clear ha hb q0 b0 hz
  go_enter Try.func4, Try.ntmps4
  go_wp2_with fail
  refine HD.out.mono ?_
  rintro e w1 ⟨r, rfl, k1, hr1, hr2, hr3⟩
  obtain ⟨b1, g1, x1⟩ := HB.out w1 k1
  have HR := Lib.hid hr3
  clear hr3
  by_cases hn : r < 0
  · clear x1
    go_wp2
    go_ret
    exact ⟨⟨-1, rfl, fun h => absurd h (by omega)⟩, b1⟩
  · obtain ⟨c0, c1, c2, c3, c4, c5, c6, c7, _⟩ := x1.eightL
    clear x1
    go_wp2_with fail
    clear c0 c1 c2 c3 c4 c5 c6 c7
    refine (HG.out _ r g1 (by omega) (by omega)).mono ?_
    rintro e w2 ⟨⟨q, rfl, hq, hq2, hq3⟩, k2⟩
    obtain ⟨b2, _, _⟩ := HB.out w2 (k1.trans (k2.mono k1.size))
    have HQ := Lib.hid hq
    clear hq
    by_cases hn2 : q < 0
    · go_wp2
      go_ret
      exact ⟨⟨-1, rfl, fun h => absurd h (by omega)⟩, b2⟩
    · have HE : Hid (L.lean 1048576) := by
        have h3 := HR.out (by omega)
        rcases HQ.out with h4 | ⟨h4, h5⟩
        · exact absurd h4 hn2
        · exact ⟨h3, by omega, fun b hb => (h5 b hb).mono hr1⟩
      go_wp2
      go_ret
      exact ⟨⟨q, rfl, fun _ => HE.out⟩, b2⟩

set_option maxRecDepth 100000 in
set_option maxHeartbeats 1000000 in
/-- A disk marked: no block but those of its two rows. -/
theorem markDisk_fine (d : Dk) (va vb : Value) (k B T : Nat) (w : World) (h1 : LOwn strE B T w va d.sec) (h2 : LOwn wrE B T w vb d.cache) (h3 : va.ownBlock = none ∨ va.ownBlock ≠ vb.ownBlock) (hk : 1 ≤ k) (hk2 : k + d.count ≤ 1099511627776) :
    Calls Try.prog 20 #[.agg #[va, vb], .int .i64 (k : Int)] w fun e w' => e = .returned (.int .i64 ((k + d.count : Nat) : Int)) ∧ LOwn strE B T w' va (marksD k d).sec ∧ LOwn wrE B T w' vb (marksD k d).cache ∧ Kept B T w w' ∧ ∀ q, q < w.heap.size → va.ownBlock ≠ some q → vb.ownBlock ≠ some q → w'.heap[q]? = w.heap[q]? := by
  unfold Dk.count at hk2
  have b0 : Below w.heap.size w (w.alloc (.cells #[va, vb] 34)) := (Below.refl _ _).alloc (Nat.le_refl _) _
  have k0 := Kept.of_below b0 B T
  have h1' := h1.later b0
  have hin : ∀ j, va.ownBlock = some j → B ≤ j ∧ j < T := fun j hj => ⟨(h1.1.own.lt j hj).1, h1.2.2 j hj⟩
  have hin2 : ∀ j, vb.ownBlock = some j → B ≤ j ∧ j < T := fun j hj => ⟨(h2.1.own.lt j hj).1, h2.2.2 j hj⟩
  have hT : T ≤ w.heap.size := h1.2.1
  have HB : Hid (∀ w', (w.alloc (.cells #[va, vb] 34)).grownBy w' va.ownBlock → SBuf B (w.alloc (.cells #[va, vb] 34)) w' va (marksOf k d.sec.length) →
      w'.cell? ⟨w.heap.size, 1, none⟩ = some vb ∧ LOwn wrE B T w' vb d.cache ∧ Kept B T w w') := by
    intro w' hg hb
    refine ⟨?_, (h2.later b0).grown hg ?_, k0.trans (Kept.of_grown hg hin)⟩
    · have : (w.alloc (.cells #[va, vb] 34)).cell? ⟨w.heap.size, 1, none⟩ = some vb := by
        rw [cell_of_row _ _ _ #[va, vb] _ (0, 0) (heap_alloc_new w _)]; rfl
      exact hg.cell this (fun e => by have := hin w.heap.size e.symm; omega)
    · rcases h3 with h3 | h3
      · cases hvb : vb.ownBlock with
        | none => exact .inl rfl
        | some j => exact .inr (by rw [h3]; simp)
      · exact .inr (Ne.symm h3)
  clear h2 k0
  go_enter Try.func20, Try.ntmps20
  go_wp2_with fail
  refine (markStringS_row d.sec va k B _ _ h1'.1.toS hk (by omega)).mono ?_
  rintro e w1 ⟨rfl, hs1, hg1⟩
  obtain ⟨c1, r1, k1⟩ := HB.out w1 hg1 hs1
  go_wp2_with fail
  refine (markWriteS_any d.cache vb (k + d.sec.length) B _ _ r1.1 (by omega) (by omega)).mono ?_
  rintro e w2 ⟨rfl, hs2, hg2⟩
  go_wp2
  go_ret
  have k2 := Kept.of_grown hg2 hin2
  refine ⟨congrArg (fun z : Int => Ending.returned (.int .i64 z)) (show (k : Int) + (d.sec.length : Int) + 2 * (d.cache.length : Int) = ((k + d.count : Nat) : Int) by unfold Dk.count; omega), ?_, ?_, k1.trans k2, fun q hq hqa hqb => ?_⟩
  · have l1 : LOwn strE B T w1 va (marksOf k d.sec.length) := ⟨hs1.toR.here, Nat.le_trans hT k1.size, fun j hj => (hin j hj).2⟩
    exact l1.grown hg2 h3
  · exact ⟨hs2.here, Nat.le_trans hT (k1.trans k2).size, fun j hj => (hin2 j hj).2⟩
  · have e1 := hg1.block q (Nat.lt_of_lt_of_le hq b0.size) (fun e => hqa e.symm)
    have e2 := hg2.block q (Nat.lt_of_lt_of_le hq (Nat.le_trans b0.size hg1.size)) (fun e => hqb e.symm)
    exact e2.trans (e1.trans (b0.block q hq))

set_option maxRecDepth 100000 in
set_option maxHeartbeats 2000000 in
theorem markLog_any (L : Lg) (v : Value) (k B T : Nat) (w : World) (h : LgO B T w v L) (hk : 1 ≤ k) (hk2 : L.kL k ≤ 1099511627776) (hl : L.used.length ≤ 1099511627776) :
    Calls Try.prog 10 #[v, .int .i64 (k : Int)] w fun e w' => e = .returned (.int .i64 (L.kL k : Int)) ∧ LgO B T w' v (marksLg k L) ∧ Kept B T w w' := by
  obtain ⟨va, vb, vu, hs, rfl, P⟩ := h
  have hT : T ≤ w.heap.size := P.use.le
  have hk3 : k + L.d.count ≤ 1099511627776 := Nat.le_trans (kF_le _ _) hk2
  have b0 := belNew w (.cells #[va, vb, .int .i64 L.segs, vu, .int .i64 L.ng, .int .i64 L.ns, .int .i64 L.st, .int .i64 L.nv] 37)
  have q0 := Box.new w #[va, vb, .int .i64 L.segs, vu, .int .i64 L.ng, .int .i64 L.ns, .int .i64 L.st, .int .i64 L.nv] 37
  have P1 := P.later b0
  have k0 := Kept.of_below b0 B T
  clear P
  have HMD := Lib.hid (markDisk_fine L.d va vb k B T _ P1.sec P1.cac P1.two hk hk3)
  have HP := Lib.hid P1
  have HK0 := Lib.hid k0
  have HMS := Lib.hid (fun x hx => markSegS_any L.used vu (k + L.d.count) B hs x hx (by omega) hk2 hl)
  have hcl : Hid (w.heap.size < (w.alloc (.cells #[va, vb, .int .i64 L.segs, vu, .int .i64 L.ng, .int .i64 L.ns, .int .i64 L.st, .int .i64 L.nv] 37)).heap.size) := by show _ < _; simp
  obtain ⟨K1, hK1⟩ : ∃ K1, k + L.d.count = K1 := ⟨_, rfl⟩
  have HK1 := Lib.hid hK1
  rw [hK1] at HMD HMS
  obtain ⟨K2, hK2⟩ : ∃ K2, L.kL k = K2 := ⟨_, rfl⟩
  have HK2 : Hid (kF K1 L.used = K2) := by show _ = _; rw [← hK1, ← hK2]; rfl
  rw [hK2]
  rw [HK2.out] at HMS
  clear P1 k0 b0 hK1 hK2 hk2 hk3
  go_enter Try.func10, Try.ntmps10
  go_wp2_with fail
  generalize w.alloc (.cells #[va, vb, .int .i64 L.segs, vu, .int .i64 L.ng, .int .i64 L.ns, .int .i64 L.st, .int .i64 L.nv] 37) = W at HMD HP HK0 q0 hcl ⊢
  refine HMD.out.mono ?_
  rintro e w1 ⟨rfl, s1, c1, k1, f1⟩
  have q1 : Box w1 w.heap.size #[va, vb, .int .i64 L.segs, vu, .int .i64 L.ng, .int .i64 L.ns, .int .i64 L.st, .int .i64 L.nv] 37 := q0.keptG k1 (by omega)
  have u1 : SgO B w1 vu L.used hs := HP.out.use.own.stay k1.size (fun q hq => f1 q (HP.out.use.own.where'.1 q hq).2 (fun e => (HP.out.far q (.inl e)).1 hq) (fun e => (HP.out.far q (.inr e)).1 hq)) (fun j x hj q hq => f1 q (HP.out.use.own.where'.2 j x hj q hq).2 (fun e => (HP.out.far q (.inl e)).2 j x hj hq) (fun e => (HP.out.far q (.inr e)).2 j x hj hq))
  have c3 := q1.cell 3 _ rfl
  have HS1 := Lib.hid s1
  have HC1 := Lib.hid c1
  have HKK1 := Lib.hid k1
  clear s1 c1 k1 f1 q0 q1 HMD
  go_wp2_with fail
  clear c3
  refine (HMS.out _ u1).mono ?_
  rintro e w2 ⟨rfl, ⟨hs', u2, mv2⟩, b2, f2⟩
  have HU2 := Lib.hid u2
  have HMV := Lib.hid mv2
  have HF2 := Lib.hid f2
  have HB2 := Lib.hid b2
  clear u1 u2 mv2 f2 b2 HMS
  go_wp2
  go_ret
  have hrow : ∀ q, vu.ownBlock = some q → q < T := HP.out.use.row
  have hits : ∀ (j : Nat) (x : SgH), hs[j]? = some x → ∀ q, x.mv.ownBlock = some q → q < T := HP.out.use.its
  have hz1 : W.heap.size ≤ w1.heap.size := HKK1.out.size
  have hz2 : w1.heap.size ≤ w2.heap.size := HB2.out.size
  have hTW : T ≤ W.heap.size := HP.out.use.le
  refine ⟨rfl, ⟨va, vb, vu, hs', rfl, ⟨?_, ?_, HP.out.two, ⟨?_, by omega, hrow, fun j y hj q hq => ?_⟩, fun q hq => ⟨(HP.out.far q hq).1, fun j y hj e => ?_⟩⟩⟩, HK0.out.trans (HKK1.out.trans ⟨HB2.out.os, HB2.out.tape, HB2.out.output, hz2, fun q hq ho => HF2.out q hq (fun e => ?_) (fun j x hj e => ?_)⟩)⟩
  · refine ⟨HS1.out.1.stayG hz2 (fun q hq => HF2.out q (HS1.out.1.own.lt q hq).2 (HP.out.far q (.inl hq)).1 (HP.out.far q (.inl hq)).2), by omega, HS1.out.2.2⟩
  · refine ⟨HC1.out.1.stayG hz2 (fun q hq => HF2.out q (HC1.out.1.own.lt q hq).2 (HP.out.far q (.inr hq)).1 (HP.out.far q (.inr hq)).2), by omega, HC1.out.2.2⟩
  · show SgO B w2 vu (marksG (k + L.d.count) L.used) hs'
    rw [HK1.out]
    exact HU2.out
  · obtain ⟨x, hx, ex⟩ := HMV.out j y hj
    rw [ex] at hq
    exact hits j x hx q hq
  · obtain ⟨x, hx, ex⟩ := HMV.out j y hj
    rw [ex] at e
    exact (HP.out.far q hq).2 j x hx e
  · have h1 := hrow q e
    have h2 := (HP.out.use.own.where'.1 q e).1
    omega
  · have h1 := hits j x hj q e
    have h2 := (HP.out.use.own.where'.2 j x hj q e).1
    omega


set_option maxRecDepth 100000 in
set_option maxHeartbeats 4000000 in
theorem toLog_any (L : Lg) (v : Value) (w : World) (h : LIn w v L) (hL : L.lean 1048576) :
    Calls Try.prog 6 #[v] w fun e w' => ∃ v', e = .returned v' ∧ LgO w.heap.size w'.heap.size w' v' L ∧ Below w.heap.size w w' := by
  obtain ⟨va, vb, vu, rfl, ha, hb, _, _⟩ := h
  obtain ⟨⟨hL1, hL2, _, _⟩, hL3, _⟩ := hL
  have hm : ∀ b ∈ L.used, b.items.length ≤ 1048576 := fun b hb => by have := gIts_mem hb; omega
  have bA := belNew w (.cells #[va, vb, .int .i64 L.segs, vu, .int .i64 L.ng, .int .i64 L.ns, .int .i64 L.st, .int .i64 L.nv] 28)
  have qA := Box.new w #[va, vb, .int .i64 L.segs, vu, .int .i64 L.ng, .int .i64 L.ns, .int .i64 L.st, .int .i64 L.nv] 28
  obtain ⟨wA, hwA⟩ : ∃ wA, wA = w.alloc (.cells #[va, vb, .int .i64 L.segs, vu, .int .i64 L.ng, .int .i64 L.ns, .int .i64 L.st, .int .i64 L.nv] 28) := ⟨_, rfl⟩
  have eA : wA.heap.size = w.heap.size + 1 := by rw [hwA]; simp
  rw [← hwA] at bA qA
  have hB := Box.new wA #[.slice none 0 0, .slice none 0 0, .int .i64 0, .slice none 0 0, .int .i64 0, .int .i64 0, .int .i64 0, .int .i64 0] 37
  have kB := belNew wA (.cells #[.slice none 0 0, .slice none 0 0, .int .i64 0, .slice none 0 0, .int .i64 0, .int .i64 0, .int .i64 0, .int .i64 0] 37)
  have bB := bA.trans (kB.mono bA.size)
  obtain ⟨wB, hwB⟩ : ∃ wB, wB = wA.alloc (.cells #[.slice none 0 0, .slice none 0 0, .int .i64 0, .slice none 0 0, .int .i64 0, .int .i64 0, .int .i64 0, .int .i64 0] 37) := ⟨_, rfl⟩
  have eB : wB.heap.size = w.heap.size + 1 + 1 := by rw [hwB]; simp; omega
  rw [← hwB] at hB kB bB
  rw [eA] at hB
  have hC := Box.new wB #[.slice none 0 0, .slice none 0 0, .int .i64 0, .slice none 0 0, .int .i64 0, .int .i64 0, .int .i64 0, .int .i64 0] 37
  have kC := belNew wB (.cells #[.slice none 0 0, .slice none 0 0, .int .i64 0, .slice none 0 0, .int .i64 0, .int .i64 0, .int .i64 0, .int .i64 0] 37)
  have bC := bB.trans (kC.mono bB.size)
  obtain ⟨wC, hwC⟩ : ∃ wC, wC = wB.alloc (.cells #[.slice none 0 0, .slice none 0 0, .int .i64 0, .slice none 0 0, .int .i64 0, .int .i64 0, .int .i64 0, .int .i64 0] 37) := ⟨_, rfl⟩
  have eC : wC.heap.size = w.heap.size + 1 + 1 + 1 := by rw [hwC]; simp; omega
  rw [← hwC] at hC kC bC
  rw [eB] at hC
  have x1 := hB.later kC
  have x0 := (qA.later kB).later kC
  have HT := Lib.hid (toDisk_any L.d _ wC (ha.later bC) (by omega) (by omega))
  have HU := Lib.hid (fun x p => toSegS_any L.used vu x p (by omega) hm)
  have HEC := Lib.hid eC
  have HWC : Hid (wC = ((w.alloc (.cells #[va, vb, .int .i64 L.segs, vu, .int .i64 L.ng, .int .i64 L.ns, .int .i64 L.st, .int .i64 L.nv] 28)).alloc (.cells #[.slice none 0 0, .slice none 0 0, .int .i64 0, .slice none 0 0, .int .i64 0, .int .i64 0, .int .i64 0, .int .i64 0] 37)).alloc (.cells #[.slice none 0 0, .slice none 0 0, .int .i64 0, .slice none 0 0, .int .i64 0, .int .i64 0, .int .i64 0, .int .i64 0] 37)) := by rw [← hwA, ← hwB, ← hwC]; exact rfl
  have HLB : Hid (∀ x, Below w.heap.size w x → LGRd x vu L.used) := fun x hx => hb.later hx
  clear ha hb qA hB kB bB bA kC eA eB eC hwA hwB hwC hm hL3
  go_enter Try.func6, Try.ntmps6
  go_wp2_with fail
  rw [← HWC.out]
  clear HWC
  refine HT.out.mono ?_
  rintro e w4 ⟨v1, rfl, o1, k4⟩
  obtain ⟨a1, a2, p1, p2, rfl⟩ := o1.form
  replace x0 := x0.later k4
  replace x1 := x1.later k4
  have x2 := hC.later k4
  have b4 := bC.trans (k4.mono bC.size)
  obtain ⟨c0, c1, c2, c3, c4, c5, c6, c7, _⟩ := x0.eightL
  obtain ⟨d0, d1, d2, d3, d4, d5, d6, d7, f0, f1, f2, f3, f4, f5, f6, f7⟩ := x2.eightL
  have y0 := ((x0.other (g := w.heap.size + 1 + 1) (by omega) 0 (.slice a1 L.d.sec.length p1)).other (g := w.heap.size + 1 + 1) (by omega) 1 (.slice a2 L.d.cache.length p2)).other (g := w.heap.size + 1 + 1) (by omega) 2 (.int .i64 L.segs)
  have y1 := ((x1.other (g := w.heap.size + 1 + 1) (by omega) 0 (.slice a1 L.d.sec.length p1)).other (g := w.heap.size + 1 + 1) (by omega) 1 (.slice a2 L.d.cache.length p2)).other (g := w.heap.size + 1 + 1) (by omega) 2 (.int .i64 L.segs)
  have y2a : Box (w4.setCell ⟨w.heap.size + 1 + 1, 0, none⟩ (.slice a1 L.d.sec.length p1)) (w.heap.size + 1 + 1) #[.slice a1 L.d.sec.length p1, .slice none 0 0, .int .i64 0, .slice none 0 0, .int .i64 0, .int .i64 0, .int .i64 0, .int .i64 0] 37 := x2.set 0 _
  have y2b : Box ((w4.setCell ⟨w.heap.size + 1 + 1, 0, none⟩ (.slice a1 L.d.sec.length p1)).setCell ⟨w.heap.size + 1 + 1, 1, none⟩ (.slice a2 L.d.cache.length p2)) (w.heap.size + 1 + 1) #[.slice a1 L.d.sec.length p1, .slice a2 L.d.cache.length p2, .int .i64 0, .slice none 0 0, .int .i64 0, .int .i64 0, .int .i64 0, .int .i64 0] 37 := y2a.set 1 _
  have y2 : Box (((w4.setCell ⟨w.heap.size + 1 + 1, 0, none⟩ (.slice a1 L.d.sec.length p1)).setCell ⟨w.heap.size + 1 + 1, 1, none⟩ (.slice a2 L.d.cache.length p2)).setCell ⟨w.heap.size + 1 + 1, 2, none⟩ (.int .i64 L.segs)) (w.heap.size + 1 + 1) #[.slice a1 L.d.sec.length p1, .slice a2 L.d.cache.length p2, .int .i64 L.segs, .slice none 0 0, .int .i64 0, .int .i64 0, .int .i64 0, .int .i64 0] 37 := y2b.set 2 _
  have b5 := ((b4.setCell (p := ⟨w.heap.size + 1 + 1, 0, none⟩) (by simp; omega) (.slice a1 L.d.sec.length p1)).setCell (p := ⟨w.heap.size + 1 + 1, 1, none⟩) (by simp; omega) (.slice a2 L.d.cache.length p2)).setCell (p := ⟨w.heap.size + 1 + 1, 2, none⟩) (by simp; omega) (.int .i64 L.segs)
  have g5 := ((stored_grown w4 (w.heap.size + 1 + 1) 0 (.slice a1 L.d.sec.length p1)).trans (stored_grown _ (w.heap.size + 1 + 1) 1 (.slice a2 L.d.cache.length p2))).trans (stored_grown _ (w.heap.size + 1 + 1) 2 (.int .i64 L.segs))
  have s5 : (((w4.setCell ⟨w.heap.size + 1 + 1, 0, none⟩ (.slice a1 L.d.sec.length p1)).setCell ⟨w.heap.size + 1 + 1, 1, none⟩ (.slice a2 L.d.cache.length p2)).setCell ⟨w.heap.size + 1 + 1, 2, none⟩ (.int .i64 L.segs)).heap.size = w4.heap.size := by simp
  have HO1 := Lib.hid o1
  have HK4 := Lib.hid k4
  clear x0 x1 x2 y2a y2b b4 hC o1 k4 bC HT
  have HB5 := Lib.hid b5
  have HG5 := Lib.hid g5
  have HS5 := Lib.hid s5
  clear b5 g5 s5
  go_wp2_with fail
  clear c0 c1 c2 c3 c4 c5 c6 c7 d0 d1 d2 d3 d4 d5 d6 d7 f0 f1 f2 f3 f4 f5 f6 f7
  generalize ((w4.setCell ⟨w.heap.size + 1 + 1, 0, none⟩ (.slice a1 L.d.sec.length p1)).setCell ⟨w.heap.size + 1 + 1, 1, none⟩ (.slice a2 L.d.cache.length p2)).setCell ⟨w.heap.size + 1 + 1, 2, none⟩ (.int .i64 L.segs) = w5 at y0 y1 y2 HB5 HG5 HS5 ⊢
  refine (HU.out _ (HLB.out _ HB5.out)).mono ?_
  rintro e w6 ⟨v2, hs, rfl, S, k6⟩
  obtain ⟨a3, p3, rfl⟩ := S.row.form
  have hlen := S.len
  rw [hlen] at S ⊢
  have HP : Hid (LgP wC.heap.size w6.heap.size w6 (.slice a1 L.d.sec.length p1) (.slice a2 L.d.cache.length p2) (.slice a3 L.used.length p3) L hs) := by
    have o5 : DOwn wC.heap.size w4.heap.size w5 (.agg #[.slice a1 L.d.sec.length p1, .slice a2 L.d.cache.length p2]) L.d := by
      refine HO1.out.kept (B' := w.heap.size + 1 + 1) (T' := w.heap.size + 1 + 1 + 1) (Kept.of_grown HG5.out (fun k hk => by have := Option.some.inj hk; omega)) (.inr ?_)
      have := HEC.out
      omega
    exact LgP.mk2 (o5.later k6) S.gown (by have := HS5.out; omega) (by have := HK4.out.size; have := HS5.out; omega) (by have := k6.size; have := HS5.out; omega)
  have b6 := HB5.out.trans (k6.mono HB5.out.size)
  replace y0 := y0.later k6
  replace y1 := y1.later k6
  replace y2 := y2.later k6
  obtain ⟨c0, c1, c2, c3, c4, c5, c6, c7, _⟩ := y0.eightL
  obtain ⟨d0, d1, d2, d3, d4, d5, d6, d7, f0, f1, f2, f3, f4, f5, f6, f7⟩ := y2.eightL
  obtain ⟨l0, l1, l2, l3, l4, l5, l6, l7, m0, m1, m2, m3, m4, m5, m6, m7⟩ := y1.eightL
  have HB6 := Lib.hid b6
  have L5 := (((((y1.other (g := w.heap.size + 1 + 1) (by omega) 3 (.slice a3 L.used.length p3)).other (g := w.heap.size + 1 + 1) (by omega) 4 (.int .i64 L.ng)).other (g := w.heap.size + 1 + 1) (by omega) 5 (.int .i64 L.ns)).other (g := w.heap.size + 1 + 1) (by omega) 6 (.int .i64 L.st)).other (g := w.heap.size + 1 + 1) (by omega) 7 (.int .i64 L.nv)).set8L (.slice a1 L.d.sec.length p1) (.slice a2 L.d.cache.length p2) (.int .i64 L.segs) (.slice a3 L.used.length p3) (.int .i64 L.ng) (.int .i64 L.ns) (.int .i64 L.st) (.int .i64 L.nv)
  have G5 : w6.grownBy (((((w6.setCell ⟨w.heap.size + 1 + 1, 3, none⟩ (.slice a3 L.used.length p3)).setCell ⟨w.heap.size + 1 + 1, 4, none⟩ (.int .i64 L.ng)).setCell ⟨w.heap.size + 1 + 1, 5, none⟩ (.int .i64 L.ns)).setCell ⟨w.heap.size + 1 + 1, 6, none⟩ (.int .i64 L.st)).setCell ⟨w.heap.size + 1 + 1, 7, none⟩ (.int .i64 L.nv)) (some (w.heap.size + 1 + 1)) := ((((stored_grown w6 (w.heap.size + 1 + 1) 3 (.slice a3 L.used.length p3)).trans (stored_grown _ (w.heap.size + 1 + 1) 4 (.int .i64 L.ng))).trans (stored_grown _ (w.heap.size + 1 + 1) 5 (.int .i64 L.ns))).trans (stored_grown _ (w.heap.size + 1 + 1) 6 (.int .i64 L.st))).trans (stored_grown _ (w.heap.size + 1 + 1) 7 (.int .i64 L.nv))
  have G6 := grown_set8L (((((w6.setCell ⟨w.heap.size + 1 + 1, 3, none⟩ (.slice a3 L.used.length p3)).setCell ⟨w.heap.size + 1 + 1, 4, none⟩ (.int .i64 L.ng)).setCell ⟨w.heap.size + 1 + 1, 5, none⟩ (.int .i64 L.ns)).setCell ⟨w.heap.size + 1 + 1, 6, none⟩ (.int .i64 L.st)).setCell ⟨w.heap.size + 1 + 1, 7, none⟩ (.int .i64 L.nv)) (w.heap.size + 1) (.slice a1 L.d.sec.length p1) (.slice a2 L.d.cache.length p2) (.int .i64 L.segs) (.slice a3 L.used.length p3) (.int .i64 L.ng) (.int .i64 L.ns) (.int .i64 L.st) (.int .i64 L.nv)
  have b5 : Below w.heap.size w (set8L (((((w6.setCell ⟨w.heap.size + 1 + 1, 3, none⟩ (.slice a3 L.used.length p3)).setCell ⟨w.heap.size + 1 + 1, 4, none⟩ (.int .i64 L.ng)).setCell ⟨w.heap.size + 1 + 1, 5, none⟩ (.int .i64 L.ns)).setCell ⟨w.heap.size + 1 + 1, 6, none⟩ (.int .i64 L.st)).setCell ⟨w.heap.size + 1 + 1, 7, none⟩ (.int .i64 L.nv)) (w.heap.size + 1) (.slice a1 L.d.sec.length p1) (.slice a2 L.d.cache.length p2) (.int .i64 L.segs) (.slice a3 L.used.length p3) (.int .i64 L.ng) (.int .i64 L.ns) (.int .i64 L.st) (.int .i64 L.nv)) := below_set8L (((((HB6.out.setCell (p := ⟨w.heap.size + 1 + 1, 3, none⟩) (by simp; omega) (.slice a3 L.used.length p3)).setCell (p := ⟨w.heap.size + 1 + 1, 4, none⟩) (by simp; omega) (.int .i64 L.ng)).setCell (p := ⟨w.heap.size + 1 + 1, 5, none⟩) (by simp; omega) (.int .i64 L.ns)).setCell (p := ⟨w.heap.size + 1 + 1, 6, none⟩) (by simp; omega) (.int .i64 L.st)).setCell (p := ⟨w.heap.size + 1 + 1, 7, none⟩) (by simp; omega) (.int .i64 L.nv)) (by omega) (.slice a1 L.d.sec.length p1) (.slice a2 L.d.cache.length p2) (.int .i64 L.segs) (.slice a3 L.used.length p3) (.int .i64 L.ng) (.int .i64 L.ns) (.int .i64 L.st) (.int .i64 L.nv)
  obtain ⟨z0, z1, z2, z3, z4, z5, z6, z7, _⟩ := L5.eightL
  have HG5 := Lib.hid G5
  have HG6 := Lib.hid G6
  have HB7 := Lib.hid b5
  unfold set8L at z0 z1 z2 z3 z4 z5 z6 z7 HG6 HB7
  clear L5 G5 G6 b5 S k6 hlen b6 y0 HB5 HS5 HO1 HK4 HLB HU
  clear y1 y2
  go_wp2
  refine bodyPost_ret (v := .agg #[.slice a1 L.d.sec.length p1, .slice a2 L.d.cache.length p2, .int .i64 L.segs, .slice a3 L.used.length p3, .int .i64 L.ng, .int .i64 L.ns, .int .i64 L.st, .int .i64 L.nv]) (by simp [results, Try.results6, go_sem, z0, z1, z2, z3, z4, z5, z6, z7]) rfl ⟨_, rfl, ⟨_, _, _, hs, rfl, ?_⟩, HB7.out⟩
  have hz := Nat.le_trans HG5.out.size HG6.out.size
  refine (HP.out.stay hz (fun q h1 h2 => ?_)).widen (by have := HEC.out; omega) hz (Nat.le_refl _)
  have h3 := HEC.out
  have e1 := HG5.out.block q h2 (fun e => by have := Option.some.inj e; omega)
  have e2 := HG6.out.block q (Nat.lt_of_lt_of_le h2 HG5.out.size) (fun e => by have := Option.some.inj e; omega)
  exact e2.trans e1

end Go.Proofs.Ytahebgceoidebab

/- Lists of numbers in the exact laws: a copy, two alike, marks; and one that comes in. -/
namespace Go.Proofs.Ytahebgceoidebab
open Go.RowKit Go.ChangeShapes Go.WideShapes Go.ChangeAt Go.Deep Go.Joins


set_option maxRecDepth 100000 in
set_option maxHeartbeats 1000000 in
theorem eqIntS_same (l : List Int) (va vb : Value) (w : World) (ha : Rows' intE w va l) (hb : Rows' intE w vb l) (hl : l.length ≤ 1099511627776) :
    Calls Try.prog 8 #[va, vb] w fun e w' => e = .returned (.bool true) ∧ Below w.heap.size w w' := by
  rcases ha.ways with ⟨rfl, a, c, rfl⟩ | ⟨hne, ga, oa, ca, rfl, hca, hga, hcla⟩
  · rcases hb.ways with ⟨_, b, d, rfl⟩ | ⟨hne, _⟩
    · clear ha hb
      go_enter Try.func8, Try.ntmps8
      go_wp2
      go_loop [5] (fun iv => iv = .int .i64 0) (fun _ => 0)
      case atStart => rfl
      case round =>
        obtain rfl := hrel
        go_wp2
        go_ret
        exact ⟨rfl, Below.refl _ _⟩
    · exact absurd rfl hne
  · rcases hb.ways with ⟨e, _⟩ | ⟨_, gb, ob, cb, rfl, hcb, hgb, hclb⟩
    · exact absurd e hne
    · clear ha hb
      have HA := Lib.hid hcla
      have HB := Lib.hid hclb
      clear hcla hclb
      go_enter Try.func8, Try.ntmps8
      go_wp2
      go_loopw [5] (fun iv wr => ∃ i : Nat, i ≤ l.length ∧ iv = .int .i64 (i : Int) ∧ Below w.heap.size w wr) (fun iv _ => l.length - (intOf iv).toNat)
      case atStart => exact ⟨0, by omega, rfl, Below.refl _ _⟩
      case round =>
        obtain ⟨i, hi, rfl, hbel⟩ := hrel
        by_cases hlt : i < l.length
        · have hg : l[i]? = some l[i] := List.getElem?_eq_getElem hlt
          have h1 := (hbel.cell (p := ⟨ga, oa + i * intE.sz + 0, none⟩) hga).trans (HA.out i _ hg 0 _ rfl)
          have h2 := (hbel.cell (p := ⟨gb, ob + i * intE.sz + 0, none⟩) hgb).trans (HB.out i _ hg 0 _ rfl)
          rw [show intE.sz = 1 from rfl, Nat.mul_one, Nat.add_zero] at h1 h2
          generalize l[i] = t at *
          have hi0 : (0 : Int) ≤ (i : Int) := by omega
          have hi1 : (i : Int) < (l.length : Int) := by omega
          clear hg
          go_wp2
          go_quiet (fail)
          go_wp2
          go_roundw
          case rel => exact ⟨i + 1, by omega, by go_num, below_drewN hbel _⟩
          case measure => simp [intOf]; omega
        · go_wp2
          go_ret
          exact ⟨rfl, hbel⟩

set_option maxRecDepth 100000 in
set_option maxHeartbeats 1000000 in
theorem markIntS_any (l : List Int) (v : Value) (k B : Nat) (w : World) (hb : RBuf intE B w w v l) (hk2 : k + l.length ≤ 1099511627776) :
    Calls Try.prog 11 #[v, .int .i64 (k : Int)] w fun e w' => e = .returned (.int .i64 ((k + l.length : Nat) : Int)) ∧ w.grownBy w' v.ownBlock := by
  rcases hb.own.2 with ⟨rfl, h0⟩ | ⟨g, cap, cur, rfl, hg, hh, hnc, hcp, hcs, htake⟩
  · obtain rfl := List.length_eq_zero_iff.1 h0
    go_enter Try.func11, Try.ntmps11
    go_wp2
    go_loop [1, 5] (fun kv iv => kv = .int .i64 (k : Int) ∧ iv = .int .i64 0) (fun _ _ => 0)
    case atStart => exact ⟨rfl, rfl⟩
    case round =>
      obtain ⟨rfl, rfl⟩ := hrel
      go_wp2
      go_ret
      exact ⟨rfl, World.grownBy.refl _ _⟩
  · clear hh hcs htake hcp
    have hle : l.length ≤ 1099511627776 := by omega
    go_enter Try.func11, Try.ntmps11
    go_wp2
    go_loopw [1, 5] (fun kv iv wr => ∃ i : Nat, i ≤ l.length ∧ iv = .int .i64 (i : Int) ∧ kv = .int .i64 ((k + i : Nat) : Int) ∧ (∃ m : List Int, m.length = l.length ∧ RBuf intE B wr wr (.slice (some ⟨g, 0, none⟩) l.length cap) m) ∧ w.grownBy wr (some g)) (fun _ iv _ => l.length - (intOf iv).toNat)
    case atStart => exact ⟨0, by omega, rfl, rfl, ⟨l, rfl, hb⟩, World.grownBy.refl _ _⟩
    case round =>
      obtain ⟨i, hi, rfl, rfl, ⟨m, hml, hbr⟩, hgr⟩ := hrel
      by_cases hlt : i < l.length
      · have hi0 : (0 : Int) ≤ (i : Int) := by omega
        have hi1 : (i : Int) < (l.length : Int) := by omega
        have him : i < m.length := by omega
        have hat := List.getElem?_eq_getElem him
        rw [← hml] at hbr
        obtain ⟨K, hK⟩ : ∃ K : Nat, K = k + i := ⟨_, rfl⟩
        have HK := Lib.hid hK
        rw [← hK]
        have hK1 : K + 1 ≤ 4611686018427387904 := by omega
        clear hK
        have cs : wr.cell? ⟨g, i, none⟩ = some (.int .i64 m[i]) := by
          have := hbr.cell rfl i _ hat 0 _ rfl
          rw [show intE.sz = 1 from rfl, Nat.mul_one, Nat.add_zero] at this
          exact this
        have fs := hbr.loose i
        have hst := (hbr.stored i _ (K : Int) hat 0 (by decide) (.int .i64 (K : Int)) rfl).here
        rw [show intE.sz = 1 from rfl, Nat.mul_one, Nat.add_zero, hml] at hst
        have hg2 := hgr.trans (grownBy_store wr g i (.int .i64 (K : Int)))
        have HST := Lib.hid (And.intro hst hg2)
        have hml2 : (m.set i (K : Int)).length = l.length := by simp [hml]
        generalize m[i] = old at cs
        clear hbr hat hst hg2 hgr
        go_wp2
        go_roundw
        case rel => exact ⟨i + 1, by omega, by go_num, by rw [HK.out]; go_num, ⟨_, hml2, HST.out.1⟩, HST.out.2⟩
        case measure => simp [intOf]; omega
      · have hfin : Hid (i = l.length) := by show i = l.length; omega
        go_wp2
        go_ret
        refine ⟨?_, hgr⟩
        rw [← hfin.out]; rfl

/-- A list of numbers that comes in. -/
def IsIn (w : World) (v : Value) (l : List Int) : Prop := Rows' intE w v l ∧ l.length ≤ 9223372036854775807

instance : Inhabited Int := ⟨0⟩

theorem open_IntS {H : Type} {enc : TypeId × Value → H} {W : World} {b0 : Nat} {r : Reach} {v : Value} {d : DataW H} {p : List MemPlace} (hv : Value.okWide Try.prog W r b0 30 v) (h : DataW.Trod enc Try.prog W 0 (fun _ => true) true 30 v d p) : ∃ l : List Int, IsIn W v l := by
  obtain ⟨fuel, h⟩ := h
  obtain ⟨a0, len0, cap0, rfl⟩ := okWide_slice Try.underlying30 hv
  have hml : maxLen ≤ 9223372036854775807 := by decide
  rcases open_slice1 Try.underlying30 (by kernel_rfl) h with ⟨hv, _⟩ | ⟨a, len, cap, m, n, V, D, Pl, hv, _, hl, hm, hmm, _, hc⟩
  · simp [Value.cells] at hv
    obtain ⟨rfl, rfl, rfl⟩ := hv
    exact ⟨[], .inl ⟨rfl, _, _, rfl⟩, by simp⟩
  · simp [Value.cells] at hv
    obtain ⟨rfl, rfl, rfl⟩ := hv
    have hm2 : m = cap0 := by simpa using hmm
    have hex : ∀ i, i < len0 → ∃ s : Int, W.cell? (a.add i) = some (.int .i64 s) := by
      intro i hi
      obtain ⟨h1, h2⟩ := hc i (by omega)
      obtain ⟨s, hs, _, _⟩ := DataW.trod_int Try.underlying3 h2
      simp at hs
      exact ⟨s, by rw [h1, hs]⟩
    obtain ⟨l, hlen, hr, _⟩ := rows_of_cells intE hl (fun i hi => by
      obtain ⟨s, hs⟩ := hex i hi
      refine ⟨s, fun k u hu => ?_⟩
      match k, hu with
      | 0, hu => simp [intE] at hu; subst hu; rw [show intE.sz = 1 from rfl, Nat.mul_one, Nat.add_zero]; exact hs
      | k + 1, hu => simp [intE] at hu) (fun _ => True) (fun _ _ _ _ => trivial)
    exact ⟨l, hr, by omega⟩

end Go.Proofs.Ytahebgceoidebab

/- Lists of numbers: each is marked, and the marks are held. -/
namespace Go.Proofs.Ytahebgceoidebab
open Go.RowKit

/-- The marks of a list of numbers. -/
def markN (k : Nat) (j : Nat) : Int := ((k + j : Nat) : Int)
def marksN (k n : Nat) : List Int := (List.range n).map (markN k)
theorem marksN_length (k n : Nat) : (marksN k n).length = n := by simp [marksN]
theorem marksN_at {k n i : Nat} (h : i < n) : (marksN k n)[i]? = some (markN k i) := by simp [marksN, h]

set_option maxRecDepth 100000 in
set_option maxHeartbeats 1000000 in
theorem markIntS_put (l : List Int) (v : Value) (k B : Nat) (w0 w : World) (hb : RBuf intE B w0 w v l) (hk2 : k + l.length ≤ 1099511627776) :
    Calls Try.prog 11 #[v, .int .i64 (k : Int)] w fun e w' => e = .returned (.int .i64 ((k + l.length : Nat) : Int)) ∧ RBuf intE B w0 w' v (marksN k l.length) ∧ w.grownBy w' v.ownBlock := by
  rcases hb.own.2 with ⟨rfl, h0⟩ | ⟨g, cap, cur, rfl, hg, hh, hnc, hcp, hcs, htake⟩
  · obtain rfl := List.length_eq_zero_iff.1 h0
    go_enter Try.func11, Try.ntmps11
    go_wp2
    go_loop [1, 5] (fun kv iv => kv = .int .i64 (k : Int) ∧ iv = .int .i64 0) (fun _ _ => 0)
    case atStart => exact ⟨rfl, rfl⟩
    case round =>
      obtain ⟨rfl, rfl⟩ := hrel
      go_wp2
      go_ret
      exact ⟨rfl, hb, World.grownBy.refl _ _⟩
  · clear hh hcs htake hcp
    have hle : l.length ≤ 1099511627776 := by omega
    go_enter Try.func11, Try.ntmps11
    go_wp2
    go_loopw [1, 5] (fun kv iv wr => ∃ i : Nat, i ≤ l.length ∧ iv = .int .i64 (i : Int) ∧ kv = .int .i64 ((k + i : Nat) : Int) ∧ RBuf intE B w0 wr (.slice (some ⟨g, 0, none⟩) l.length cap) (putTo (markN k) l i) ∧ w.grownBy wr (some g)) (fun _ iv _ => l.length - (intOf iv).toNat)
    case atStart => exact ⟨0, by omega, rfl, rfl, by rw [putTo_zero]; exact hb, World.grownBy.refl _ _⟩
    case round =>
      obtain ⟨i, hi, rfl, rfl, hbr, hgr⟩ := hrel
      by_cases hlt : i < l.length
      · have hi0 : (0 : Int) ≤ (i : Int) := by omega
        have hi1 : (i : Int) < (l.length : Int) := by omega
        have hml := putTo_length (m := markN k) hi
        have hat := putTo_at (m := markN k) hlt
        have hms := putTo_set (m := markN k) hlt
        rw [← hml] at hbr
        obtain ⟨K, hK⟩ : ∃ K : Nat, K = k + i := ⟨_, rfl⟩
        have HK := Lib.hid hK
        have hmk : markN k i = (K : Int) := by rw [hK]; rfl
        rw [← hK]
        have hK1 : K + 1 ≤ 4611686018427387904 := by omega
        clear hK
        generalize l[i] = x at hat
        have cs : wr.cell? ⟨g, i, none⟩ = some (.int .i64 x) := by
          have := hbr.cell rfl i _ hat 0 _ rfl
          rw [show intE.sz = 1 from rfl, Nat.mul_one, Nat.add_zero] at this
          exact this
        have fs := hbr.loose i
        have hst := hbr.stored i _ (markN k i) hat 0 (by decide) (.int .i64 (markN k i)) rfl
        rw [show intE.sz = 1 from rfl, Nat.mul_one, Nat.add_zero, hml, hms] at hst
        have hg2 := hgr.trans (grownBy_store wr g i (.int .i64 (markN k i)))
        rw [hmk] at hst hg2
        have HST := Lib.hid (And.intro hst hg2)
        clear hbr hat hst hg2 hgr hmk hms hml
        go_wp2
        go_roundw
        case rel => exact ⟨i + 1, by omega, by go_num, by rw [HK.out]; go_num, HST.out.1, HST.out.2⟩
        case measure => simp [intOf]; omega
      · have hfin : Hid (i = l.length) := by show i = l.length; omega
        go_wp2
        go_ret
        refine ⟨?_, ?_, hgr⟩
        · rw [← hfin.out]; rfl
        · have := hbr
          rw [hfin.out, putTo_all] at this
          exact this

set_option maxRecDepth 100000 in
set_option maxHeartbeats 1000000 in
theorem heldIntS_any (n : Nat) (v : Value) (k : Nat) (w : World) (hb : Rows' intE w v (marksN k n)) (hk2 : k + n ≤ 1099511627776) :
    Calls Try.prog 12 #[v, .int .i64 (k : Int)] w fun e w' => e = .returned (.int .i64 ((k + n : Nat) : Int)) ∧ Below w.heap.size w w' := by
  have hmn := marksN_length k n
  rcases hb.ways with ⟨h0, a, c, rfl⟩ | ⟨hne, g, off, cap, rfl, hca, hg, hcl⟩
  · obtain rfl : n = 0 := by rw [h0] at hmn; simpa using hmn.symm
    clear hb h0 hmn
    go_enter Try.func12, Try.ntmps12
    go_wp2
    go_loop [1, 5] (fun kv iv => kv = .int .i64 (k : Int) ∧ iv = .int .i64 0) (fun _ _ => 0)
    case atStart => exact ⟨rfl, rfl⟩
    case round =>
      obtain ⟨rfl, rfl⟩ := hrel
      go_wp2
      go_ret
      exact ⟨rfl, Below.refl _ _⟩
  · rw [hmn] at *
    have HC := Lib.hid hcl
    clear hcl hb hne hmn
    go_enter Try.func12, Try.ntmps12
    go_wp2
    go_loopw [1, 5] (fun kv iv wr => ∃ i : Nat, i ≤ n ∧ iv = .int .i64 (i : Int) ∧ kv = .int .i64 ((k + i : Nat) : Int) ∧ Below w.heap.size w wr) (fun _ iv _ => n - (intOf iv).toNat)
    case atStart => exact ⟨0, by omega, rfl, rfl, Below.refl _ _⟩
    case round =>
      obtain ⟨i, hi, rfl, rfl, hbel⟩ := hrel
      by_cases hlt : i < n
      · have hi0 : (0 : Int) ≤ (i : Int) := by omega
        have hi1 : (i : Int) < (n : Int) := by omega
        have h1 := (hbel.cell (p := ⟨g, off + i * intE.sz + 0, none⟩) hg).trans (HC.out i _ (marksN_at hlt) 0 _ rfl)
        rw [show intE.sz = 1 from rfl, Nat.mul_one, Nat.add_zero] at h1
        obtain ⟨K, hK⟩ : ∃ K : Nat, K = k + i := ⟨_, rfl⟩
        have HK := Lib.hid hK
        have hmk : markN k i = (K : Int) := by rw [hK]; rfl
        rw [hmk] at h1
        rw [← hK]
        have hK1 : K + 1 ≤ 4611686018427387904 := by omega
        clear hK hmk
        go_wp2
        go_roundw
        case rel => exact ⟨i + 1, by omega, by go_num, by rw [HK.out]; go_num, hbel⟩
        case measure => simp [intOf]; omega
      · have hfin : Hid (i = n) := by show i = n; omega
        go_wp2
        go_ret
        exact ⟨by rw [← hfin.out]; rfl, hbel⟩

end Go.Proofs.Ytahebgceoidebab
