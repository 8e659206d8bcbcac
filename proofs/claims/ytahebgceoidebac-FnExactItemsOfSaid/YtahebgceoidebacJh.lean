/- Texts of our own, joined. -/
import Derived.Test.YtahebgceoidebacJg
import Derived.Deep.Slices
import Derived.Lib.SmallJoins
import Derived.ProofKit
import Derived.Test.YtahebgceoidebacJb
import Derived.Test.YtahebgceoidebacJa
import Derived.Test.YtahebgceoidebacJd
import Derived.Test.YtahebgceoidebacJc
import Derived.Lib.Hide
/- Logs that come in as arguments. -/
namespace Go.Proofs.Ytahebgceoidebac
open Go.RowKit Go.ChangeShapes Go.WideShapes Go.ChangeAt Go.Deep Go.Joins

instance : Inhabited SgH := ⟨⟨0, 0, 0, none, 0, 0⟩⟩
theorem list4G {α : Type} {l : List α} (h : l.length = 4) : ∃ v0 v1 v2 v3, l = [v0, v1, v2, v3] := by
  match l, h with
  | [v0, v1, v2, v3], _ => exact ⟨v0, v1, v2, v3, rfl⟩
theorem list8G {α : Type} {l : List α} (h : l.length = 8) : ∃ v0 v1 v2 v3 v4 v5 v6 v7, l = [v0, v1, v2, v3, v4, v5, v6, v7] := by
  match l, h with
  | [v0, v1, v2, v3, v4, v5, v6, v7], _ => exact ⟨v0, v1, v2, v3, v4, v5, v6, v7, rfl⟩

section
variable {H : Type} {enc : TypeId × Value → H} {P : Program} {w : World} {base : Nat} {spare : Nat → Bool} {held : Bool}

/-- The fields of a struct, each of one cell. -/
theorem trod_onesG {t : TypeId} {fs : Array Field} {fuel : Nat} {cs : List Value} {x : DataW H × List MemPlace} (hs : P.underlying t = some (.struct fs)) (hone : oneCellFields P fs = true)
    (h : DataW.trod enc P w base spare held fuel t cs = some x) :
    ∃ n : Nat, cs.length = P.cellsOf t ∧ ∀ (i : Nat) (f : Field) (v : Value), fs[i]? = some f → cs[i]? = some v → ∃ y, DataW.trod enc P w base spare held n f.type [v] = some y := by
  obtain ⟨xs, n, _, _, hl, hlen, hf⟩ := DataW.trod_struct hs h
  refine ⟨n, hl, fun i f v hi hv => ?_⟩
  obtain ⟨o, k⟩ := hone_of hone i f hi
  have hx := hf i f hi
  rw [o, k] at hx
  have e : (List.drop i cs).take 1 = [v] := by
    rw [List.take_one, List.head?_drop, hv]; rfl
  rw [e] at hx
  have hi' : i < xs.length := by
    rw [hlen]
    exact (Array.getElem?_eq_some_iff.1 hi).1
  exact ⟨xs[i], by first | (rw [hx]; exact List.getElem?_eq_getElem hi') | (rw [List.getElem?_eq_getElem hi'] at hx; exact hx) | simpa [hi'] using hx⟩
end

section
variable {H : Type} {enc : TypeId × Value → H} {W : World}

/-- A segment as it came in: its items can be read. -/
def SgIn (W : World) (x : SgH) : Prop := ∃ l : List Itm, ItsIn W x.mv l

set_option maxRecDepth 100000 in
theorem seg_form {fuel : Nat} {l : List Value} {x : DataW H × List MemPlace} (hf : DataW.trod enc Try.prog W 0 (fun _ => true) true fuel 66 l = some x) :
    ∃ y : SgH, l = lsgE.f y ∧ SgIn W y := by
  have hC : Try.prog.cellsOf 66 = 4 := by kernel_rfl
  obtain ⟨n, hl, hx⟩ := trod_onesG Try.underlying66 (by kernel_rfl) hf
  obtain ⟨v0, v1, v2, v3, rfl⟩ := list4G (hl.trans hC)
  obtain ⟨y0, h0⟩ := hx 0 _ v0 rfl rfl
  obtain ⟨y1, h1⟩ := hx 1 _ v1 rfl rfl
  obtain ⟨y2, h2⟩ := hx 2 _ v2 rfl rfl
  obtain ⟨y3, h3⟩ := hx 3 _ v3 rfl rfl
  obtain ⟨k0, hk0, _, _⟩ := DataW.trod_int Try.underlying3 h0
  obtain ⟨k1, hk1, _, _⟩ := DataW.trod_int Try.underlying3 h1
  obtain ⟨k2, hk2, _, _⟩ := DataW.trod_int Try.underlying3 h2
  obtain ⟨ms, hr⟩ := items_of_trod h3
  simp at hk0 hk1 hk2
  obtain ⟨a, n, c, rfl⟩ : ∃ ad n cap, v3 = .slice ad n cap := by
    rcases hr.1.ways with ⟨_, a, c, e⟩ | ⟨_, g, off, c, e, _⟩
    · exact ⟨_, _, _, e⟩
    · exact ⟨_, _, _, e⟩
  exact ⟨⟨k0, k1, k2, a, n, c⟩, by rw [hk0, hk1, hk2]; rfl, ms, hr⟩

set_option maxRecDepth 100000 in
theorem segs_of_trod {fuel : Nat} {v : Value} {x : DataW H × List MemPlace} (h : DataW.trod enc Try.prog W 0 (fun _ => true) true fuel 26 [v] = some x) :
    ∃ l : List Sg, LGRd W v l ∧ l.length ≤ 9223372036854775807 ∧ ∀ b ∈ l, sgShort b := by
  have hC : Try.prog.cellsOf 66 = 4 := by kernel_rfl
  have hml : maxLen ≤ 9223372036854775807 := by decide
  have hrows : ∃ hs : List SgH, Rows' lsgE W v hs ∧ hs.length ≤ 9223372036854775807 ∧ ∀ y ∈ hs, SgIn W y := by
    rcases open_slice Try.underlying26 h with ⟨hv, _⟩ | ⟨a, len, cap, m, n, D, Pl, hv, _, hl, hm, hmm, _, hc⟩
    · simp at hv; subst hv
      exact ⟨[], .inl ⟨rfl, _, _, rfl⟩, by simp, by simp⟩
    · simp at hv; subst hv
      have hm2 : m = cap := by simpa using hmm
      have hex : ∀ i, i < len → ∃ y : SgH, (∀ k u, (lsgE.f y)[k]? = some u → W.cell? (a.add (i * 4 + k)) = some u) ∧ SgIn W y := by
        intro i hi
        obtain ⟨cs', h1, h2⟩ := hc i (by omega)
        rw [hC] at h1
        obtain ⟨_, hlen, hcell⟩ := World.cells?_some h1
        obtain ⟨y, hy, z⟩ := seg_form h2
        refine ⟨y, fun k u hu => ?_, z⟩
        have hk : k < 4 := by have h9 := (List.getElem?_eq_some_iff.1 hu).1; rw [lsgE.len y] at h9; exact h9
        have := hcell k hk
        rw [add_add] at this
        rw [this, hy]
        exact hu
      obtain ⟨l, hlen, hr, hp⟩ := rows_of_cells lsgE hl (fun i hi => by
        obtain ⟨y, hy, _⟩ := hex i hi
        exact ⟨y, hy⟩) (SgIn W) (fun i hi y hy => by
        obtain ⟨z, hz, hs⟩ := hex i hi
        have e3 := hy 3 _ rfl
        have g3 := hz 3 _ rfl
        change W.cell? (a.add (i * 4 + 3)) = _ at e3
        rw [g3] at e3
        have q3 : z.mv = y.mv := Option.some.inj e3
        unfold SgIn at hs ⊢
        rw [← q3]
        exact hs)
      exact ⟨l, hr, by omega, hp⟩
  obtain ⟨hs, hr, hlen, hp⟩ := hrows
  have hch : ∀ y : SgH, ∃ b : Sg, SgIn W y → ((y.no = b.no ∧ y.gen = b.gen ∧ y.ende = b.ende) ∧ Rows' litE W y.mv b.items) ∧ sgShort b := by
    intro y
    by_cases c : SgIn W y
    · obtain ⟨ms, hr, hl, hsh⟩ := c
      exact ⟨⟨y.no, y.gen, y.ende, ms⟩, fun _ => ⟨⟨⟨rfl, rfl, rfl⟩, hr⟩, hl, hsh⟩⟩
    · exact ⟨⟨0, 0, 0, []⟩, fun e => absurd e c⟩
  obtain ⟨f, hf⟩ := Classical.axiomOfChoice hch
  refine ⟨hs.map f, ⟨hs, hr, by simp, fun j y b h1 h2 => ?_⟩, by simpa using hlen, fun b hb => ?_⟩
  · rw [List.getElem?_map, h1] at h2
    cases h2
    exact (hf y (hp y (List.mem_of_getElem? h1))).1
  · obtain ⟨y, hy, rfl⟩ := List.mem_map.1 hb
    exact (hf y (hp y hy)).2

set_option maxRecDepth 100000 in
theorem log_of_trod {fuel : Nat} {l : List Value} {x : DataW H × List MemPlace} (hf : DataW.trod enc Try.prog W 0 (fun _ => true) true fuel 28 l = some x) : ∃ L : Lg, LIn W (.agg ⟨l⟩) L := by
  have hC : Try.prog.cellsOf 28 = 8 := by kernel_rfl
  have hN : Try.prog.cellsOf 3 = 1 := by kernel_rfl
  have hD : Try.prog.cellsOf 25 = 2 := by kernel_rfl
  have hG : Try.prog.cellsOf 26 = 1 := by kernel_rfl
  have hS1 : Try.prog.cellsOf 22 = 1 := by kernel_rfl
  have hW1 : Try.prog.cellsOf 23 = 1 := by kernel_rfl
  obtain ⟨xs, n, _, _, hl, hlen, hx⟩ := DataW.trod_struct Try.underlying28 hf
  obtain ⟨v0, v1, v2, v3, v4, v5, v6, v7, rfl⟩ := list8G (hl.trans hC)
  have hlen' : xs.length = 7 := hlen
  have ex : ∀ i, i < 7 → ∃ y, xs[i]? = some y := fun i hi => ⟨_, List.getElem?_eq_getElem (by omega)⟩
  obtain ⟨y0, e0⟩ := ex 0 (by omega)
  obtain ⟨y1, e1⟩ := ex 1 (by omega)
  obtain ⟨y2, e2⟩ := ex 2 (by omega)
  obtain ⟨y3, e3⟩ := ex 3 (by omega)
  obtain ⟨y4, e4⟩ := ex 4 (by omega)
  obtain ⟨y5, e5⟩ := ex 5 (by omega)
  obtain ⟨y6, e6⟩ := ex 6 (by omega)
  have h0 := (hx 0 _ rfl).trans e0
  have h1 := (hx 1 _ rfl).trans e1
  have h2 := (hx 2 _ rfl).trans e2
  have h3 := (hx 3 _ rfl).trans e3
  have h4 := (hx 4 _ rfl).trans e4
  have h5 := (hx 5 _ rfl).trans e5
  have h6 := (hx 6 _ rfl).trans e6
  simp [hD, hN, hG] at h0 h1 h2 h3 h4 h5 h6
  obtain ⟨z0, z1, m, _, _, g0, g1⟩ := trod_struct2 Try.underlying25 h0
  simp [hS1, hW1] at g0 g1
  obtain ⟨ls, hs1, hs2, hs3⟩ := strs_of_trod g0
  obtain ⟨lc, hc1, hc2, hc3⟩ := writes_of_trod g1
  obtain ⟨k1, hk1, _, _⟩ := DataW.trod_int Try.underlying3 h1
  obtain ⟨us, hu1, hu2, hu3⟩ := segs_of_trod h2
  obtain ⟨k3, hk3, _, _⟩ := DataW.trod_int Try.underlying3 h3
  obtain ⟨k4, hk4, _, _⟩ := DataW.trod_int Try.underlying3 h4
  obtain ⟨k5, hk5, _, _⟩ := DataW.trod_int Try.underlying3 h5
  obtain ⟨k6, hk6, _, _⟩ := DataW.trod_int Try.underlying3 h6
  simp at hk1 hk3 hk4 hk5 hk6
  have hml : maxLen ≤ 9223372036854775807 := by decide
  refine ⟨⟨⟨ls, lc⟩, k1, us, k3, k4, k5, k6⟩, v0, v1, v3, ?_, ⟨v0, v1, rfl, hs1, hc1, Nat.le_trans hs2 hml, Nat.le_trans hc2 hml, fun s hs => Nat.le_trans (hs3 s hs) hml, fun x hx => Nat.le_trans (hc3 x hx) hml⟩, hu1, hu2, hu3⟩
  rw [hk1, hk3, hk4, hk5, hk6]

set_option maxRecDepth 100000 in
theorem open_Log {b0 : Nat} {r : Reach} {v : Value} {d : DataW H} {p : List MemPlace} (hv : Value.okWide Try.prog W r b0 28 v) (h : DataW.Trod enc Try.prog W 0 (fun _ => true) true 28 v d p) : ∃ L : Lg, LIn W v L := by
  obtain ⟨cs, rfl, hsz⟩ := okWide_struct Try.underlying28 hv
  obtain ⟨fuel, hf⟩ := h
  obtain ⟨l⟩ := cs
  exact log_of_trod hf
end

end Go.Proofs.Ytahebgceoidebac

/- The helpers of the exact laws over logs. -/
namespace Go.Proofs.Ytahebgceoidebac
open Go.RowKit

set_option maxRecDepth 100000 in
set_option maxHeartbeats 1000000 in
theorem eqLog_same (L : Lg) (v1 v2 : Value) (w : World) (h1 : LRd w v1 L) (h2 : LRd w v2 L) (hs : L.d.small) (hl : L.used.length ≤ 1099511627776) (hm : ∀ b ∈ L.used, b.items.length ≤ 1099511627776) :
    Calls Try.prog 9 #[v1, v2] w fun e w' => e = .returned (.bool true) ∧ Below w.heap.size w w' := by
  obtain ⟨va, vb, vu, rfl, ha, hb⟩ := h1
  obtain ⟨vc, vd, vx, rfl, hc, hd⟩ := h2
  have b0 : Below w.heap.size w ((w.alloc (.cells #[va, vb, .int .i64 L.segs, vu, .int .i64 L.ng, .int .i64 L.ns, .int .i64 L.st, .int .i64 L.nv] 37)).alloc (.cells #[vc, vd, .int .i64 L.segs, vx, .int .i64 L.ng, .int .i64 L.ns, .int .i64 L.st, .int .i64 L.nv] 37)) := ((Below.refl _ _).alloc (Nat.le_refl _) _).alloc (by simp) _
  have q0 := Box.new w #[va, vb, .int .i64 L.segs, vu, .int .i64 L.ng, .int .i64 L.ns, .int .i64 L.st, .int .i64 L.nv] 37
  have q1 := Box.new (w.alloc (.cells #[va, vb, .int .i64 L.segs, vu, .int .i64 L.ng, .int .i64 L.ns, .int .i64 L.st, .int .i64 L.nv] 37)) #[vc, vd, .int .i64 L.segs, vx, .int .i64 L.ng, .int .i64 L.ns, .int .i64 L.st, .int .i64 L.nv] 37
  rw [show (w.alloc (.cells #[va, vb, .int .i64 L.segs, vu, .int .i64 L.ng, .int .i64 L.ns, .int .i64 L.st, .int .i64 L.nv] 37)).heap.size = w.heap.size + 1 by simp] at q1
  replace q0 := q0.later (belNew _ (.cells #[vc, vd, .int .i64 L.segs, vx, .int .i64 L.ng, .int .i64 L.ns, .int .i64 L.st, .int .i64 L.nv] 37))
  have HB : Hid (∀ x, Below ((w.alloc (.cells #[va, vb, .int .i64 L.segs, vu, .int .i64 L.ng, .int .i64 L.ns, .int .i64 L.st, .int .i64 L.nv] 37)).alloc (.cells #[vc, vd, .int .i64 L.segs, vx, .int .i64 L.ng, .int .i64 L.ns, .int .i64 L.st, .int .i64 L.nv] 37)).heap.size ((w.alloc (.cells #[va, vb, .int .i64 L.segs, vu, .int .i64 L.ng, .int .i64 L.ns, .int .i64 L.st, .int .i64 L.nv] 37)).alloc (.cells #[vc, vd, .int .i64 L.segs, vx, .int .i64 L.ng, .int .i64 L.ns, .int .i64 L.st, .int .i64 L.nv] 37)) x →
      Below w.heap.size w x ∧ GRd x vu L.used ∧ GRd x vx L.used ∧ Box x w.heap.size #[va, vb, .int .i64 L.segs, vu, .int .i64 L.ng, .int .i64 L.ns, .int .i64 L.st, .int .i64 L.nv] 37 ∧ Box x (w.heap.size + 1) #[vc, vd, .int .i64 L.segs, vx, .int .i64 L.ng, .int .i64 L.ns, .int .i64 L.st, .int .i64 L.nv] 37) := by
    intro x h
    have h' : Below w.heap.size w x := b0.trans (h.mono b0.size)
    exact ⟨h', hb.later h', hd.later h', q0.later h, q1.later h⟩
  have HD := Lib.hid (eqDisk_same L.d _ _ _ (ha.later b0) (hc.later b0) hs)
  have HG := Lib.hid (fun x p q => eqSegS_same L.used vu vx x p q hl hm)
  clear hb hd ha hc q0 q1 b0 hm
  go_enter Try.func9, Try.ntmps9
  go_wp2_with fail
  refine HD.out.mono ?_
  rintro e w1 ⟨rfl, k1⟩
  obtain ⟨b1, r1, r2, x0, x1⟩ := HB.out w1 k1
  obtain ⟨c0, c1, c2, c3, c4, c5, c6, c7, _⟩ := x0.eightL
  obtain ⟨d0, d1, d2, d3, d4, d5, d6, d7, _⟩ := x1.eightL
  clear x0 x1
  go_wp2_with fail
  refine (HG.out _ r1 r2).mono ?_
  rintro e w2 ⟨rfl, k2⟩
  obtain ⟨b2, _, _, x0, x1⟩ := HB.out w2 (k1.trans (k2.mono k1.size))
  clear c0 c1 c2 c3 c4 c5 c6 c7 d0 d1 d2 d3 d4 d5 d6 d7 r1 r2
  obtain ⟨c0, c1, c2, c3, c4, c5, c6, c7, _⟩ := x0.eightL
  obtain ⟨d0, d1, d2, d3, d4, d5, d6, d7, _⟩ := x1.eightL
  clear x0 x1
  go_wp2
  go_ret
  exact ⟨rfl, b2⟩

set_option maxRecDepth 100000 in
set_option maxHeartbeats 1000000 in
theorem szLog_any (L : Lg) (v : Value) (w : World) (h : LIn w v L) :
    Calls Try.prog 4 #[v, .int .i64 1048576] w fun e w' => (∃ r : Int, e = .returned (.int .i64 r) ∧ (0 ≤ r → L.lean 1048576)) ∧ Below w.heap.size w w' := by
  obtain ⟨va, vb, vu, rfl, ha, hb, hl, hz⟩ := h
  have b0 := belNew w (.cells #[va, vb, .int .i64 L.segs, vu, .int .i64 L.ng, .int .i64 L.ns, .int .i64 L.st, .int .i64 L.nv] 28)
  have q0 := Box.new w #[va, vb, .int .i64 L.segs, vu, .int .i64 L.ng, .int .i64 L.ns, .int .i64 L.st, .int .i64 L.nv] 28
  have HD := Lib.hid (szDisk_any L.d _ 1048576 _ (ha.later b0) (by omega) (by omega))
  have HB : Hid (∀ x, Below (w.alloc (.cells #[va, vb, .int .i64 L.segs, vu, .int .i64 L.ng, .int .i64 L.ns, .int .i64 L.st, .int .i64 L.nv] 28)).heap.size (w.alloc (.cells #[va, vb, .int .i64 L.segs, vu, .int .i64 L.ng, .int .i64 L.ns, .int .i64 L.st, .int .i64 L.nv] 28)) x → Below w.heap.size w x ∧ LGRd x vu L.used ∧ Box x w.heap.size #[va, vb, .int .i64 L.segs, vu, .int .i64 L.ng, .int .i64 L.ns, .int .i64 L.st, .int .i64 L.nv] 28) := by
    intro x h
    have h' : Below w.heap.size w x := b0.trans (h.mono b0.size)
    exact ⟨h', hb.later h', q0.later h⟩
  have HG := Lib.hid (fun x r p h0 h1 => szSegS_any L.used vu r x p h0 h1 hl hz)
  clear ha hb q0 b0 hz
  go_enter Try.func4, Try.ntmps4
  go_wp2_with fail
  refine HD.out.mono ?_
  rintro e w1 ⟨r, rfl, k1, hr1, hr2, hr3⟩
  obtain ⟨b1, g1, x1⟩ := HB.out w1 k1
  have HR := Lib.hid hr3
  clear hr3
  by_cases hn : r < 0
  · clear x1
    go_wp2
    go_ret
    exact ⟨⟨-1, rfl, fun h => absurd h (by omega)⟩, b1⟩
  · obtain ⟨c0, c1, c2, c3, c4, c5, c6, c7, _⟩ := x1.eightL
    clear x1
    go_wp2_with fail
    clear c0 c1 c2 c3 c4 c5 c6 c7
    refine (HG.out _ r g1 (by omega) (by omega)).mono ?_
    rintro e w2 ⟨⟨q, rfl, hq, hq2, hq3⟩, k2⟩
    obtain ⟨b2, _, _⟩ := HB.out w2 (k1.trans (k2.mono k1.size))
    have HQ := Lib.hid hq
    clear hq
    by_cases hn2 : q < 0
    · go_wp2
      go_ret
      exact ⟨⟨-1, rfl, fun h => absurd h (by omega)⟩, b2⟩
    · have HE : Hid (L.lean 1048576) := by
        have h3 := HR.out (by omega)
        rcases HQ.out with h4 | ⟨h4, h5⟩
        · exact absurd h4 hn2
        · exact ⟨h3, by omega, fun b hb => (h5 b hb).mono hr1⟩
      go_wp2
      go_ret
      exact ⟨⟨q, rfl, fun _ => HE.out⟩, b2⟩

set_option maxRecDepth 100000 in
set_option maxHeartbeats 1000000 in
/-- A disk marked: no block but those of its two rows. -/
theorem markDisk_fine (d : Dk) (va vb : Value) (k B T : Nat) (w : World) (h1 : LOwn strE B T w va d.sec) (h2 : LOwn wrE B T w vb d.cache) (h3 : va.ownBlock = none ∨ va.ownBlock ≠ vb.ownBlock) (hk : 1 ≤ k) (hk2 : k + d.count ≤ 1099511627776) :
    Calls Try.prog 21 #[.agg #[va, vb], .int .i64 (k : Int)] w fun e w' => e = .returned (.int .i64 ((k + d.count : Nat) : Int)) ∧ LOwn strE B T w' va (marksD k d).sec ∧ LOwn wrE B T w' vb (marksD k d).cache ∧ Kept B T w w' ∧ ∀ q, q < w.heap.size → va.ownBlock ≠ some q → vb.ownBlock ≠ some q → w'.heap[q]? = w.heap[q]? := by
  unfold Dk.count at hk2
  have b0 : Below w.heap.size w (w.alloc (.cells #[va, vb] 34)) := (Below.refl _ _).alloc (Nat.le_refl _) _
  have k0 := Kept.of_below b0 B T
  have h1' := h1.later b0
  have hin : ∀ j, va.ownBlock = some j → B ≤ j ∧ j < T := fun j hj => ⟨(h1.1.own.lt j hj).1, h1.2.2 j hj⟩
  have hin2 : ∀ j, vb.ownBlock = some j → B ≤ j ∧ j < T := fun j hj => ⟨(h2.1.own.lt j hj).1, h2.2.2 j hj⟩
  have hT : T ≤ w.heap.size := h1.2.1
  have HB : Hid (∀ w', (w.alloc (.cells #[va, vb] 34)).grownBy w' va.ownBlock → SBuf B (w.alloc (.cells #[va, vb] 34)) w' va (marksOf k d.sec.length) →
      w'.cell? ⟨w.heap.size, 1, none⟩ = some vb ∧ LOwn wrE B T w' vb d.cache ∧ Kept B T w w') := by
    intro w' hg hb
    refine ⟨?_, (h2.later b0).grown hg ?_, k0.trans (Kept.of_grown hg hin)⟩
    · have : (w.alloc (.cells #[va, vb] 34)).cell? ⟨w.heap.size, 1, none⟩ = some vb := by
        rw [cell_of_row _ _ _ #[va, vb] _ (0, 0) (heap_alloc_new w _)]; rfl
      exact hg.cell this (fun e => by have := hin w.heap.size e.symm; omega)
    · rcases h3 with h3 | h3
      · cases hvb : vb.ownBlock with
        | none => exact .inl rfl
        | some j => exact .inr (by rw [h3]; simp)
      · exact .inr (Ne.symm h3)
  clear h2 k0
  go_enter Try.func21, Try.ntmps21
  go_wp2_with fail
  refine (markStringS_row d.sec va k B _ _ h1'.1.toS hk (by omega)).mono ?_
  rintro e w1 ⟨rfl, hs1, hg1⟩
  obtain ⟨c1, r1, k1⟩ := HB.out w1 hg1 hs1
  go_wp2_with fail
  refine (markWriteS_any d.cache vb (k + d.sec.length) B _ _ r1.1 (by omega) (by omega)).mono ?_
  rintro e w2 ⟨rfl, hs2, hg2⟩
  go_wp2
  go_ret
  have k2 := Kept.of_grown hg2 hin2
  refine ⟨congrArg (fun z : Int => Ending.returned (.int .i64 z)) (show (k : Int) + (d.sec.length : Int) + 2 * (d.cache.length : Int) = ((k + d.count : Nat) : Int) by unfold Dk.count; omega), ?_, ?_, k1.trans k2, fun q hq hqa hqb => ?_⟩
  · have l1 : LOwn strE B T w1 va (marksOf k d.sec.length) := ⟨hs1.toR.here, Nat.le_trans hT k1.size, fun j hj => (hin j hj).2⟩
    exact l1.grown hg2 h3
  · exact ⟨hs2.here, Nat.le_trans hT (k1.trans k2).size, fun j hj => (hin2 j hj).2⟩
  · have e1 := hg1.block q (Nat.lt_of_lt_of_le hq b0.size) (fun e => hqa e.symm)
    have e2 := hg2.block q (Nat.lt_of_lt_of_le hq (Nat.le_trans b0.size hg1.size)) (fun e => hqb e.symm)
    exact e2.trans (e1.trans (b0.block q hq))

set_option maxRecDepth 100000 in
set_option maxHeartbeats 2000000 in
theorem markLog_any (L : Lg) (v : Value) (k B T : Nat) (w : World) (h : LgO B T w v L) (hk : 1 ≤ k) (hk2 : L.kL k ≤ 1099511627776) (hl : L.used.length ≤ 1099511627776) :
    Calls Try.prog 10 #[v, .int .i64 (k : Int)] w fun e w' => e = .returned (.int .i64 (L.kL k : Int)) ∧ LgO B T w' v (marksLg k L) ∧ Kept B T w w' := by
  obtain ⟨va, vb, vu, hs, rfl, P⟩ := h
  have hT : T ≤ w.heap.size := P.use.le
  have hk3 : k + L.d.count ≤ 1099511627776 := Nat.le_trans (kF_le _ _) hk2
  have b0 := belNew w (.cells #[va, vb, .int .i64 L.segs, vu, .int .i64 L.ng, .int .i64 L.ns, .int .i64 L.st, .int .i64 L.nv] 37)
  have q0 := Box.new w #[va, vb, .int .i64 L.segs, vu, .int .i64 L.ng, .int .i64 L.ns, .int .i64 L.st, .int .i64 L.nv] 37
  have P1 := P.later b0
  have k0 := Kept.of_below b0 B T
  clear P
  have HMD := Lib.hid (markDisk_fine L.d va vb k B T _ P1.sec P1.cac P1.two hk hk3)
  have HP := Lib.hid P1
  have HK0 := Lib.hid k0
  have HMS := Lib.hid (fun x hx => markSegS_any L.used vu (k + L.d.count) B hs x hx (by omega) hk2 hl)
  have hcl : Hid (w.heap.size < (w.alloc (.cells #[va, vb, .int .i64 L.segs, vu, .int .i64 L.ng, .int .i64 L.ns, .int .i64 L.st, .int .i64 L.nv] 37)).heap.size) := by show _ < _; simp
  obtain ⟨K1, hK1⟩ : ∃ K1, k + L.d.count = K1 := ⟨_, rfl⟩
  have HK1 := Lib.hid hK1
  rw [hK1] at HMD HMS
  obtain ⟨K2, hK2⟩ : ∃ K2, L.kL k = K2 := ⟨_, rfl⟩
  have HK2 : Hid (kF K1 L.used = K2) := by show _ = _; rw [← hK1, ← hK2]; rfl
  rw [hK2]
  rw [HK2.out] at HMS
  clear P1 k0 b0 hK1 hK2 hk2 hk3
  go_enter Try.func10, Try.ntmps10
  go_wp2_with fail
  generalize w.alloc (.cells #[va, vb, .int .i64 L.segs, vu, .int .i64 L.ng, .int .i64 L.ns, .int .i64 L.st, .int .i64 L.nv] 37) = W at HMD HP HK0 q0 hcl ⊢
  refine HMD.out.mono ?_
  rintro e w1 ⟨rfl, s1, c1, k1, f1⟩
  have q1 : Box w1 w.heap.size #[va, vb, .int .i64 L.segs, vu, .int .i64 L.ng, .int .i64 L.ns, .int .i64 L.st, .int .i64 L.nv] 37 := q0.keptG k1 (by omega)
  have u1 : SgO B w1 vu L.used hs := HP.out.use.own.stay k1.size (fun q hq => f1 q (HP.out.use.own.where'.1 q hq).2 (fun e => (HP.out.far q (.inl e)).1 hq) (fun e => (HP.out.far q (.inr e)).1 hq)) (fun j x hj q hq => f1 q (HP.out.use.own.where'.2 j x hj q hq).2 (fun e => (HP.out.far q (.inl e)).2 j x hj hq) (fun e => (HP.out.far q (.inr e)).2 j x hj hq))
  have c3 := q1.cell 3 _ rfl
  have HS1 := Lib.hid s1
  have HC1 := Lib.hid c1
  have HKK1 := Lib.hid k1
  clear s1 c1 k1 f1 q0 q1 HMD
  go_wp2_with fail
  clear c3
  refine (HMS.out _ u1).mono ?_
  rintro e w2 ⟨rfl, ⟨hs', u2, mv2⟩, b2, f2⟩
  have HU2 := Lib.hid u2
  have HMV := Lib.hid mv2
  have HF2 := Lib.hid f2
  have HB2 := Lib.hid b2
  clear u1 u2 mv2 f2 b2 HMS
  go_wp2
  go_ret
  have hrow : ∀ q, vu.ownBlock = some q → q < T := HP.out.use.row
  have hits : ∀ (j : Nat) (x : SgH), hs[j]? = some x → ∀ q, x.mv.ownBlock = some q → q < T := HP.out.use.its
  have hz1 : W.heap.size ≤ w1.heap.size := HKK1.out.size
  have hz2 : w1.heap.size ≤ w2.heap.size := HB2.out.size
  have hTW : T ≤ W.heap.size := HP.out.use.le
  refine ⟨rfl, ⟨va, vb, vu, hs', rfl, ⟨?_, ?_, HP.out.two, ⟨?_, by omega, hrow, fun j y hj q hq => ?_⟩, fun q hq => ⟨(HP.out.far q hq).1, fun j y hj e => ?_⟩⟩⟩, HK0.out.trans (HKK1.out.trans ⟨HB2.out.os, HB2.out.tape, HB2.out.output, hz2, fun q hq ho => HF2.out q hq (fun e => ?_) (fun j x hj e => ?_)⟩)⟩
  · refine ⟨HS1.out.1.stayG hz2 (fun q hq => HF2.out q (HS1.out.1.own.lt q hq).2 (HP.out.far q (.inl hq)).1 (HP.out.far q (.inl hq)).2), by omega, HS1.out.2.2⟩
  · refine ⟨HC1.out.1.stayG hz2 (fun q hq => HF2.out q (HC1.out.1.own.lt q hq).2 (HP.out.far q (.inr hq)).1 (HP.out.far q (.inr hq)).2), by omega, HC1.out.2.2⟩
  · show SgO B w2 vu (marksG (k + L.d.count) L.used) hs'
    rw [HK1.out]
    exact HU2.out
  · obtain ⟨x, hx, ex⟩ := HMV.out j y hj
    rw [ex] at hq
    exact hits j x hx q hq
  · obtain ⟨x, hx, ex⟩ := HMV.out j y hj
    rw [ex] at e
    exact (HP.out.far q hq).2 j x hx e
  · have h1 := hrow q e
    have h2 := (HP.out.use.own.where'.1 q e).1
    omega
  · have h1 := hits j x hj q e
    have h2 := (HP.out.use.own.where'.2 j x hj q e).1
    omega


set_option maxRecDepth 100000 in
set_option maxHeartbeats 4000000 in
theorem toLog_any (L : Lg) (v : Value) (w : World) (h : LIn w v L) (hL : L.lean 1048576) :
    Calls Try.prog 6 #[v] w fun e w' => ∃ v', e = .returned v' ∧ LgO w.heap.size w'.heap.size w' v' L ∧ Below w.heap.size w w' := by
  obtain ⟨va, vb, vu, rfl, ha, hb, _, _⟩ := h
  obtain ⟨⟨hL1, hL2, _, _⟩, hL3, _⟩ := hL
  have hm : ∀ b ∈ L.used, b.items.length ≤ 1048576 := fun b hb => by have := gIts_mem hb; omega
  have bA := belNew w (.cells #[va, vb, .int .i64 L.segs, vu, .int .i64 L.ng, .int .i64 L.ns, .int .i64 L.st, .int .i64 L.nv] 28)
  have qA := Box.new w #[va, vb, .int .i64 L.segs, vu, .int .i64 L.ng, .int .i64 L.ns, .int .i64 L.st, .int .i64 L.nv] 28
  obtain ⟨wA, hwA⟩ : ∃ wA, wA = w.alloc (.cells #[va, vb, .int .i64 L.segs, vu, .int .i64 L.ng, .int .i64 L.ns, .int .i64 L.st, .int .i64 L.nv] 28) := ⟨_, rfl⟩
  have eA : wA.heap.size = w.heap.size + 1 := by rw [hwA]; simp
  rw [← hwA] at bA qA
  have hB := Box.new wA #[.slice none 0 0, .slice none 0 0, .int .i64 0, .slice none 0 0, .int .i64 0, .int .i64 0, .int .i64 0, .int .i64 0] 37
  have kB := belNew wA (.cells #[.slice none 0 0, .slice none 0 0, .int .i64 0, .slice none 0 0, .int .i64 0, .int .i64 0, .int .i64 0, .int .i64 0] 37)
  have bB := bA.trans (kB.mono bA.size)
  obtain ⟨wB, hwB⟩ : ∃ wB, wB = wA.alloc (.cells #[.slice none 0 0, .slice none 0 0, .int .i64 0, .slice none 0 0, .int .i64 0, .int .i64 0, .int .i64 0, .int .i64 0] 37) := ⟨_, rfl⟩
  have eB : wB.heap.size = w.heap.size + 1 + 1 := by rw [hwB]; simp; omega
  rw [← hwB] at hB kB bB
  rw [eA] at hB
  have hC := Box.new wB #[.slice none 0 0, .slice none 0 0, .int .i64 0, .slice none 0 0, .int .i64 0, .int .i64 0, .int .i64 0, .int .i64 0] 37
  have kC := belNew wB (.cells #[.slice none 0 0, .slice none 0 0, .int .i64 0, .slice none 0 0, .int .i64 0, .int .i64 0, .int .i64 0, .int .i64 0] 37)
  have bC := bB.trans (kC.mono bB.size)
  obtain ⟨wC, hwC⟩ : ∃ wC, wC = wB.alloc (.cells #[.slice none 0 0, .slice none 0 0, .int .i64 0, .slice none 0 0, .int .i64 0, .int .i64 0, .int .i64 0, .int .i64 0] 37) := ⟨_, rfl⟩
  have eC : wC.heap.size = w.heap.size + 1 + 1 + 1 := by rw [hwC]; simp; omega
  rw [← hwC] at hC kC bC
  rw [eB] at hC
  have x1 := hB.later kC
  have x0 := (qA.later kB).later kC
  have HT := Lib.hid (toDisk_any L.d _ wC (ha.later bC) (by omega) (by omega))
  have HU := Lib.hid (fun x p => toSegS_any L.used vu x p (by omega) hm)
  have HEC := Lib.hid eC
  have HWC : Hid (wC = ((w.alloc (.cells #[va, vb, .int .i64 L.segs, vu, .int .i64 L.ng, .int .i64 L.ns, .int .i64 L.st, .int .i64 L.nv] 28)).alloc (.cells #[.slice none 0 0, .slice none 0 0, .int .i64 0, .slice none 0 0, .int .i64 0, .int .i64 0, .int .i64 0, .int .i64 0] 37)).alloc (.cells #[.slice none 0 0, .slice none 0 0, .int .i64 0, .slice none 0 0, .int .i64 0, .int .i64 0, .int .i64 0, .int .i64 0] 37)) := by rw [← hwA, ← hwB, ← hwC]; exact rfl
  have HLB : Hid (∀ x, Below w.heap.size w x → LGRd x vu L.used) := fun x hx => hb.later hx
  clear ha hb qA hB kB bB bA kC eA eB eC hwA hwB hwC hm hL3
  go_enter Try.func6, Try.ntmps6
  go_wp2_with fail
  rw [← HWC.out]
  clear HWC
  refine HT.out.mono ?_
  rintro e w4 ⟨v1, rfl, o1, k4⟩
  obtain ⟨a1, a2, p1, p2, rfl⟩ := o1.form
  replace x0 := x0.later k4
  replace x1 := x1.later k4
  have x2 := hC.later k4
  have b4 := bC.trans (k4.mono bC.size)
  obtain ⟨c0, c1, c2, c3, c4, c5, c6, c7, _⟩ := x0.eightL
  obtain ⟨d0, d1, d2, d3, d4, d5, d6, d7, f0, f1, f2, f3, f4, f5, f6, f7⟩ := x2.eightL
  have y0 := ((x0.other (g := w.heap.size + 1 + 1) (by omega) 0 (.slice a1 L.d.sec.length p1)).other (g := w.heap.size + 1 + 1) (by omega) 1 (.slice a2 L.d.cache.length p2)).other (g := w.heap.size + 1 + 1) (by omega) 2 (.int .i64 L.segs)
  have y1 := ((x1.other (g := w.heap.size + 1 + 1) (by omega) 0 (.slice a1 L.d.sec.length p1)).other (g := w.heap.size + 1 + 1) (by omega) 1 (.slice a2 L.d.cache.length p2)).other (g := w.heap.size + 1 + 1) (by omega) 2 (.int .i64 L.segs)
  have y2a : Box (w4.setCell ⟨w.heap.size + 1 + 1, 0, none⟩ (.slice a1 L.d.sec.length p1)) (w.heap.size + 1 + 1) #[.slice a1 L.d.sec.length p1, .slice none 0 0, .int .i64 0, .slice none 0 0, .int .i64 0, .int .i64 0, .int .i64 0, .int .i64 0] 37 := x2.set 0 _
  have y2b : Box ((w4.setCell ⟨w.heap.size + 1 + 1, 0, none⟩ (.slice a1 L.d.sec.length p1)).setCell ⟨w.heap.size + 1 + 1, 1, none⟩ (.slice a2 L.d.cache.length p2)) (w.heap.size + 1 + 1) #[.slice a1 L.d.sec.length p1, .slice a2 L.d.cache.length p2, .int .i64 0, .slice none 0 0, .int .i64 0, .int .i64 0, .int .i64 0, .int .i64 0] 37 := y2a.set 1 _
  have y2 : Box (((w4.setCell ⟨w.heap.size + 1 + 1, 0, none⟩ (.slice a1 L.d.sec.length p1)).setCell ⟨w.heap.size + 1 + 1, 1, none⟩ (.slice a2 L.d.cache.length p2)).setCell ⟨w.heap.size + 1 + 1, 2, none⟩ (.int .i64 L.segs)) (w.heap.size + 1 + 1) #[.slice a1 L.d.sec.length p1, .slice a2 L.d.cache.length p2, .int .i64 L.segs, .slice none 0 0, .int .i64 0, .int .i64 0, .int .i64 0, .int .i64 0] 37 := y2b.set 2 _
  have b5 := ((b4.setCell (p := ⟨w.heap.size + 1 + 1, 0, none⟩) (by simp; omega) (.slice a1 L.d.sec.length p1)).setCell (p := ⟨w.heap.size + 1 + 1, 1, none⟩) (by simp; omega) (.slice a2 L.d.cache.length p2)).setCell (p := ⟨w.heap.size + 1 + 1, 2, none⟩) (by simp; omega) (.int .i64 L.segs)
  have g5 := ((stored_grown w4 (w.heap.size + 1 + 1) 0 (.slice a1 L.d.sec.length p1)).trans (stored_grown _ (w.heap.size + 1 + 1) 1 (.slice a2 L.d.cache.length p2))).trans (stored_grown _ (w.heap.size + 1 + 1) 2 (.int .i64 L.segs))
  have s5 : (((w4.setCell ⟨w.heap.size + 1 + 1, 0, none⟩ (.slice a1 L.d.sec.length p1)).setCell ⟨w.heap.size + 1 + 1, 1, none⟩ (.slice a2 L.d.cache.length p2)).setCell ⟨w.heap.size + 1 + 1, 2, none⟩ (.int .i64 L.segs)).heap.size = w4.heap.size := by simp
  have HO1 := Lib.hid o1
  have HK4 := Lib.hid k4
  clear x0 x1 x2 y2a y2b b4 hC o1 k4 bC HT
  have HB5 := Lib.hid b5
  have HG5 := Lib.hid g5
  have HS5 := Lib.hid s5
  clear b5 g5 s5
  go_wp2_with fail
  clear c0 c1 c2 c3 c4 c5 c6 c7 d0 d1 d2 d3 d4 d5 d6 d7 f0 f1 f2 f3 f4 f5 f6 f7
  generalize ((w4.setCell ⟨w.heap.size + 1 + 1, 0, none⟩ (.slice a1 L.d.sec.length p1)).setCell ⟨w.heap.size + 1 + 1, 1, none⟩ (.slice a2 L.d.cache.length p2)).setCell ⟨w.heap.size + 1 + 1, 2, none⟩ (.int .i64 L.segs) = w5 at y0 y1 y2 HB5 HG5 HS5 ⊢
  refine (HU.out _ (HLB.out _ HB5.out)).mono ?_
  rintro e w6 ⟨v2, hs, rfl, S, k6⟩
  obtain ⟨a3, p3, rfl⟩ := S.row.form
  have hlen := S.len
  rw [hlen] at S ⊢
  have HP : Hid (LgP wC.heap.size w6.heap.size w6 (.slice a1 L.d.sec.length p1) (.slice a2 L.d.cache.length p2) (.slice a3 L.used.length p3) L hs) := by
    have o5 : DOwn wC.heap.size w4.heap.size w5 (.agg #[.slice a1 L.d.sec.length p1, .slice a2 L.d.cache.length p2]) L.d := by
      refine HO1.out.kept (B' := w.heap.size + 1 + 1) (T' := w.heap.size + 1 + 1 + 1) (Kept.of_grown HG5.out (fun k hk => by have := Option.some.inj hk; omega)) (.inr ?_)
      have := HEC.out
      omega
    exact LgP.mk2 (o5.later k6) S.gown (by have := HS5.out; omega) (by have := HK4.out.size; have := HS5.out; omega) (by have := k6.size; have := HS5.out; omega)
  have b6 := HB5.out.trans (k6.mono HB5.out.size)
  replace y0 := y0.later k6
  replace y1 := y1.later k6
  replace y2 := y2.later k6
  obtain ⟨c0, c1, c2, c3, c4, c5, c6, c7, _⟩ := y0.eightL
  obtain ⟨d0, d1, d2, d3, d4, d5, d6, d7, f0, f1, f2, f3, f4, f5, f6, f7⟩ := y2.eightL
  obtain ⟨l0, l1, l2, l3, l4, l5, l6, l7, m0, m1, m2, m3, m4, m5, m6, m7⟩ := y1.eightL
  have HB6 := Lib.hid b6
  have L5 := (((((y1.other (g := w.heap.size + 1 + 1) (by omega) 3 (.slice a3 L.used.length p3)).other (g := w.heap.size + 1 + 1) (by omega) 4 (.int .i64 L.ng)).other (g := w.heap.size + 1 + 1) (by omega) 5 (.int .i64 L.ns)).other (g := w.heap.size + 1 + 1) (by omega) 6 (.int .i64 L.st)).other (g := w.heap.size + 1 + 1) (by omega) 7 (.int .i64 L.nv)).set8L (.slice a1 L.d.sec.length p1) (.slice a2 L.d.cache.length p2) (.int .i64 L.segs) (.slice a3 L.used.length p3) (.int .i64 L.ng) (.int .i64 L.ns) (.int .i64 L.st) (.int .i64 L.nv)
  have G5 : w6.grownBy (((((w6.setCell ⟨w.heap.size + 1 + 1, 3, none⟩ (.slice a3 L.used.length p3)).setCell ⟨w.heap.size + 1 + 1, 4, none⟩ (.int .i64 L.ng)).setCell ⟨w.heap.size + 1 + 1, 5, none⟩ (.int .i64 L.ns)).setCell ⟨w.heap.size + 1 + 1, 6, none⟩ (.int .i64 L.st)).setCell ⟨w.heap.size + 1 + 1, 7, none⟩ (.int .i64 L.nv)) (some (w.heap.size + 1 + 1)) := ((((stored_grown w6 (w.heap.size + 1 + 1) 3 (.slice a3 L.used.length p3)).trans (stored_grown _ (w.heap.size + 1 + 1) 4 (.int .i64 L.ng))).trans (stored_grown _ (w.heap.size + 1 + 1) 5 (.int .i64 L.ns))).trans (stored_grown _ (w.heap.size + 1 + 1) 6 (.int .i64 L.st))).trans (stored_grown _ (w.heap.size + 1 + 1) 7 (.int .i64 L.nv))
  have G6 := grown_set8L (((((w6.setCell ⟨w.heap.size + 1 + 1, 3, none⟩ (.slice a3 L.used.length p3)).setCell ⟨w.heap.size + 1 + 1, 4, none⟩ (.int .i64 L.ng)).setCell ⟨w.heap.size + 1 + 1, 5, none⟩ (.int .i64 L.ns)).setCell ⟨w.heap.size + 1 + 1, 6, none⟩ (.int .i64 L.st)).setCell ⟨w.heap.size + 1 + 1, 7, none⟩ (.int .i64 L.nv)) (w.heap.size + 1) (.slice a1 L.d.sec.length p1) (.slice a2 L.d.cache.length p2) (.int .i64 L.segs) (.slice a3 L.used.length p3) (.int .i64 L.ng) (.int .i64 L.ns) (.int .i64 L.st) (.int .i64 L.nv)
  have b5 : Below w.heap.size w (set8L (((((w6.setCell ⟨w.heap.size + 1 + 1, 3, none⟩ (.slice a3 L.used.length p3)).setCell ⟨w.heap.size + 1 + 1, 4, none⟩ (.int .i64 L.ng)).setCell ⟨w.heap.size + 1 + 1, 5, none⟩ (.int .i64 L.ns)).setCell ⟨w.heap.size + 1 + 1, 6, none⟩ (.int .i64 L.st)).setCell ⟨w.heap.size + 1 + 1, 7, none⟩ (.int .i64 L.nv)) (w.heap.size + 1) (.slice a1 L.d.sec.length p1) (.slice a2 L.d.cache.length p2) (.int .i64 L.segs) (.slice a3 L.used.length p3) (.int .i64 L.ng) (.int .i64 L.ns) (.int .i64 L.st) (.int .i64 L.nv)) := below_set8L (((((HB6.out.setCell (p := ⟨w.heap.size + 1 + 1, 3, none⟩) (by simp; omega) (.slice a3 L.used.length p3)).setCell (p := ⟨w.heap.size + 1 + 1, 4, none⟩) (by simp; omega) (.int .i64 L.ng)).setCell (p := ⟨w.heap.size + 1 + 1, 5, none⟩) (by simp; omega) (.int .i64 L.ns)).setCell (p := ⟨w.heap.size + 1 + 1, 6, none⟩) (by simp; omega) (.int .i64 L.st)).setCell (p := ⟨w.heap.size + 1 + 1, 7, none⟩) (by simp; omega) (.int .i64 L.nv)) (by omega) (.slice a1 L.d.sec.length p1) (.slice a2 L.d.cache.length p2) (.int .i64 L.segs) (.slice a3 L.used.length p3) (.int .i64 L.ng) (.int .i64 L.ns) (.int .i64 L.st) (.int .i64 L.nv)
  obtain ⟨z0, z1, z2, z3, z4, z5, z6, z7, _⟩ := L5.eightL
  have HG5 := Lib.hid G5
  have HG6 := Lib.hid G6
  have HB7 := Lib.hid b5
  unfold set8L at z0 z1 z2 z3 z4 z5 z6 z7 HG6 HB7
  clear L5 G5 G6 b5 S k6 hlen b6 y0 HB5 HS5 HO1 HK4 HLB HU
  clear y1 y2
  go_wp2
  refine bodyPost_ret (v := .agg #[.slice a1 L.d.sec.length p1, .slice a2 L.d.cache.length p2, .int .i64 L.segs, .slice a3 L.used.length p3, .int .i64 L.ng, .int .i64 L.ns, .int .i64 L.st, .int .i64 L.nv]) (by simp [results, Try.results6, go_sem, z0, z1, z2, z3, z4, z5, z6, z7]) rfl ⟨_, rfl, ⟨_, _, _, hs, rfl, ?_⟩, HB7.out⟩
  have hz := Nat.le_trans HG5.out.size HG6.out.size
  refine (HP.out.stay hz (fun q h1 h2 => ?_)).widen (by have := HEC.out; omega) hz (Nat.le_refl _)
  have h3 := HEC.out
  have e1 := HG5.out.block q h2 (fun e => by have := Option.some.inj e; omega)
  have e2 := HG6.out.block q (Nat.lt_of_lt_of_le h2 HG5.out.size) (fun e => by have := Option.some.inj e; omega)
  exact e2.trans e1

end Go.Proofs.Ytahebgceoidebac

/- A list that can be read, appended to one of the call's own. -/
namespace Go.Proofs.Ytahebgceoidebac
open Go.RowKit

variable {α : Type} {E : Enc α}

theorem run_append_zero {P : Program} {w : World} (base : Nat) (t ty e : TypeId) (i : TypeInfo) (size : Nat) (ht : P.underlying t = some (.slice e)) (hi : P.info? e = some i)
    (v : Value) (n : Nat) (xs : List Value) (hown : w.ownsRow base e size v n xs) (a : Option Addr) (c : Nat) :
    (Builtin.append_ #[t, t] ty #[v, .slice a 0 c]).run P w = .ok v w := by
  rcases hown.2 with ⟨rfl, rfl⟩ | ⟨g, cap, cur, rfl, _, _, hnc, _⟩
  · cases a <;> simp [Builtin.append_, run_underlying ht, sizeOf, typeInfo, hi, Builtin.lenOf, Builtin.firstCells, loadCells, loadCellsFrom]
  · cases a <;> simp [Builtin.append_, run_underlying ht, sizeOf, typeInfo, hi, Builtin.lenOf, Builtin.firstCells, hnc, storeCells, loadCells, loadCellsFrom]

theorem run_append_rd {w : World} (ty : TypeId) (B : Nat) (v : Value) (l : List α) (hb : RBuf E B w w v l) (vx : Value) (m : List α) (hx : Rows' E w vx m)
    (hlen : (l.length + m.length) * (E.bytes + 1) ≤ 140737488355328) :
    ∃ v' w', (Builtin.append_ #[E.sty, E.sty] ty #[v, vx]).run Try.prog w = .ok v' w' ∧ RBuf E B w' w' v' (l ++ m) ∧ w.grownBy w' v.ownBlock ∧ (v'.ownBlock = v.ownBlock ∨ v'.ownBlock = some w.heap.size) := by
  obtain ⟨i0, hi, hz0, hz1, hz2⟩ := info_parts E.info
  have e0 : (l.length + m.length) * (E.bytes + 1) = (l.length + m.length) * E.bytes + (l.length + m.length) := Nat.mul_succ _ _
  rcases hx with ⟨rfl, a, c, rfl⟩ | ⟨g, off, cap, rfl, hc, hg, hcl⟩
  · exact ⟨v, w, run_append_zero (P := Try.prog) B E.sty ty E.ty i0 E.sz E.und hi v l.length (E.row l) hb.own a c, by simpa using hb, World.grownBy.refl _ _, .inl rfl⟩
  · obtain ⟨v', w', h1, h2, h3, _, h5⟩ := run_append_own_at (P := Try.prog) w B E.sty ty E.ty i0 E.zero E.sz E.bytes E.und hi hz0 hz1 hz2 E.zc E.pos v l.length (E.row l) hb.own ⟨g, off, none⟩ m.length cap (E.row m) (E.row_length m)
      (fun j u hu => by
        have hjl : j < m.length * E.sz := by have := (List.getElem?_eq_some_iff.1 hu).1; rwa [E.row_length] at this
        have hp := E.pos
        have hq : j / E.sz < m.length := Nat.div_lt_of_lt_mul (by rw [Nat.mul_comm]; exact hjl)
        have hr : j % E.sz < E.sz := Nat.mod_lt _ hp
        have hj : j / E.sz * E.sz + j % E.sz = j := Nat.div_add_mod' j E.sz
        have hgq : m[j / E.sz]? = some m[j / E.sz] := List.getElem?_eq_getElem hq
        have h6 := E.row_at m (j / E.sz) _ hgq (j % E.sz) hr
        rw [hj, hu] at h6
        have h7 := hcl (j / E.sz) _ hgq (j % E.sz) u h6.symm
        rw [Nat.add_assoc, hj] at h7
        rw [Addr.add_lit]
        exact h7) (E.row_one' m) (by unfold maxLen; omega) (by omega) hb.le
    refine ⟨v', w', h1, ⟨?_, Below.refl _ _, Nat.le_trans hb.le h3.size⟩, h3, h5⟩
    rw [List.length_append, E.row_append]
    exact h2

theorem wp_append_rd {w : World} {o : Oper} {a : Act} {K : Act → World → Prop} {Q : Exit → Act → World → Prop} (s x : Operand) (E : Enc α)
    (ho : o.op = .call { callee := .builtin .append, args := #[s, x], argTypes := #[E.sty, E.sty] })
    (B : Nat) (v : Value) (l : List α) (hs : a.eval s = v) (hb : RBuf E B w w v l) (vx : Value) (m : List α) (hxv : a.eval x = vx) (hx : Rows' E w vx m)
    (hlen : (l.length + m.length) * (E.bytes + 1) ≤ 140737488355328)
    (h : ∀ v' w', RBuf E B w' w' v' (l ++ m) → w.grownBy w' v.ownBlock → (v'.ownBlock = v.ownBlock ∨ v'.ownBlock = some w.heap.size) → K (a.put o.dst v') w') : o.wp Try.prog a w K Q := by
  obtain ⟨v', w', hr, h2, h3, h4⟩ := run_append_rd o.type B v l hb vx m hx hlen
  unfold Oper.wp execOp
  simp only [ho, resolve, invoke, builtin, Sem.run_bind, Sem.run_pure, Result.andThen_ok, List.map_toArray, List.map_cons, List.map_nil, hs, hxv, hr]
  exact h v' w' h2 h3 h4

theorem wpList_append_rd {w : World} {ops : Array Oper} {rest : List Oper} {o : Oper} {a : Act} {Q : Exit → Act → World → Prop} (hgd : o.guard = none) (s x : Operand) (E : Enc α)
    (ho : o.op = .call { callee := .builtin .append, args := #[s, x], argTypes := #[E.sty, E.sty] })
    (B : Nat) (v : Value) (l : List α) (hs : a.eval s = v) (hb : RBuf E B w w v l) (vx : Value) (m : List α) (hxv : a.eval x = vx) (hx : Rows' E w vx m)
    (hlen : (l.length + m.length) * (E.bytes + 1) ≤ 140737488355328)
    (h : ∀ v' w', RBuf E B w' w' v' (l ++ m) → w.grownBy w' v.ownBlock → (v'.ownBlock = v.ownBlock ∨ v'.ownBlock = some w.heap.size) → wpList Try.prog ops Q rest (a.put o.dst v') w') : wpList Try.prog ops Q (o :: rest) a w :=
  wpList_plain hgd fun _ hK => wp_append_rd s x E ho B v l hs hb vx m hxv hx hlen fun v' w' h2 h3 h4 => hK _ _ (h v' w' h2 h3 h4)

end Go.Proofs.Ytahebgceoidebac

/- How bools lie in memory. -/
namespace Go.Proofs.Ytahebgceoidebac
open Go.RowKit


end Go.Proofs.Ytahebgceoidebac

/- Without of either side: the items of which drop is not so, in order. -/
namespace Go.Proofs.Ytahebgceoidebac
open Go.RowKit

/-- What is left of the first i. -/
def woT (l : List Itm) (d : List Bool) : Nat → List Itm
  | 0 => []
  | i + 1 => woT l d i ++ (if d[i]? = some true then [] else (l[i]?).toList)
def wo (l : List Itm) (d : List Bool) : List Itm := woT l d l.length
theorem woT_go {l : List Itm} {d : List Bool} {i : Nat} (h : d[i]? = some true) : woT l d (i + 1) = woT l d i := by
  show _ ++ _ = _
  rw [if_pos h, List.append_nil]
theorem woT_stay {l : List Itm} {d : List Bool} {i : Nat} {x : Itm} (h : d[i]? ≠ some true) (hx : l[i]? = some x) : woT l d (i + 1) = woT l d i ++ [x] := by
  show _ ++ _ = _
  rw [if_neg h, hx]; rfl
theorem woT_len (l : List Itm) (d : List Bool) : ∀ i, (woT l d i).length ≤ i
  | 0 => Nat.le_refl _
  | i + 1 => by
    have h := woT_len l d i
    show (woT l d i ++ _).length ≤ _
    rw [List.length_append]
    by_cases hd : d[i]? = some true
    · rw [if_pos hd]; simp; omega
    · rw [if_neg hd]; cases l[i]? <;> simp <;> omega
theorem wo_len (l : List Itm) (d : List Bool) : (wo l d).length ≤ l.length := woT_len l d _
theorem woT_mem {l : List Itm} {d : List Bool} : ∀ {i : Nat} {x : Itm}, x ∈ woT l d i → x ∈ l
  | i + 1, x, h => by
    rcases List.mem_append.1 h with h | h
    · exact woT_mem h
    · by_cases hd : d[i]? = some true
      · rw [if_pos hd] at h; cases h
      · rw [if_neg hd] at h
        cases hx : l[i]? with
        | none => rw [hx] at h; cases h
        | some y => rw [hx] at h; simp at h; subst h; exact List.mem_of_getElem? hx

/-- Whether a list of bools is so at a place. -/
def soB (d : List Bool) (k : Int) : Bool := decide (0 ≤ k ∧ d[k.toNat]? = some true)
theorem soB_nat (d : List Bool) (i : Nat) : soB d (i : Int) = decide (d[i]? = some true) := by
  unfold soB
  congr 1
  apply propext
  constructor
  · exact fun h => h.2
  · exact fun h => ⟨by omega, h⟩




theorem setCell_same {w : World} {g i : Nat} {v : Value} (h : w.cell? ⟨g, i, none⟩ = some v) : w.setCell ⟨g, i, none⟩ v = w := by
  have : w.heap.modify g (fun
      | .cells c elem frozen => .cells (if (none : Option Nat).isSome then c else c.setIfInBounds i v) elem frozen
      | o => o) = w.heap := by
    apply Array.ext_getElem?
    intro k
    rw [Array.getElem?_modify]
    by_cases hk : g = k
    · subst hk
      rw [if_pos rfl]
      unfold World.cell? at h
      cases ho : w.heap[g]? with
      | none => rfl
      | some o =>
        rw [ho] at h
        cases o <;> simp_all
        rename_i c _ _
        apply Array.ext_getElem?
        intro j
        rw [Array.getElem?_setIfInBounds]
        by_cases hj : i = j
        · subst hj; simp_all; exact (Array.getElem?_eq_some_iff.1 h).1
        · simp [hj]
    · rw [if_neg hk]
  show { w with heap := _ } = w
  exact congrArg (fun hp => { w with heap := hp }) this

theorem Box.set9n {w : World} {b : Nat} {u0 u1 u2 u3 u4 u5 u6 u7 u8 : Value} {t : TypeId} (h : Box w b #[u0, u1, u2, u3, u4, u5, u6, u7, u8] t) (v0 v1 v2 v3 v4 v5 v6 v7 v8 : Value) : Box (((((((((w.setCell ⟨b, 0, none⟩ v0).setCell ⟨b, 1, none⟩ v1).setCell ⟨b, 2, none⟩ v2).setCell ⟨b, 3, none⟩ v3).setCell ⟨b, 4, none⟩ v4).setCell ⟨b, 5, none⟩ v5).setCell ⟨b, 6, none⟩ v6).setCell ⟨b, 7, none⟩ v7).setCell ⟨b, 8, none⟩ v8) b #[v0, v1, v2, v3, v4, v5, v6, v7, v8] t := by
  have h0 : Box (w.setCell ⟨b, 0, none⟩ v0) b #[v0, u1, u2, u3, u4, u5, u6, u7, u8] t := h.set 0 v0
  have h1 : Box ((w.setCell ⟨b, 0, none⟩ v0).setCell ⟨b, 1, none⟩ v1) b #[v0, v1, u2, u3, u4, u5, u6, u7, u8] t := h0.set 1 v1
  have h2 : Box (((w.setCell ⟨b, 0, none⟩ v0).setCell ⟨b, 1, none⟩ v1).setCell ⟨b, 2, none⟩ v2) b #[v0, v1, v2, u3, u4, u5, u6, u7, u8] t := h1.set 2 v2
  have h3 : Box ((((w.setCell ⟨b, 0, none⟩ v0).setCell ⟨b, 1, none⟩ v1).setCell ⟨b, 2, none⟩ v2).setCell ⟨b, 3, none⟩ v3) b #[v0, v1, v2, v3, u4, u5, u6, u7, u8] t := h2.set 3 v3
  have h4 : Box (((((w.setCell ⟨b, 0, none⟩ v0).setCell ⟨b, 1, none⟩ v1).setCell ⟨b, 2, none⟩ v2).setCell ⟨b, 3, none⟩ v3).setCell ⟨b, 4, none⟩ v4) b #[v0, v1, v2, v3, v4, u5, u6, u7, u8] t := h3.set 4 v4
  have h5 : Box ((((((w.setCell ⟨b, 0, none⟩ v0).setCell ⟨b, 1, none⟩ v1).setCell ⟨b, 2, none⟩ v2).setCell ⟨b, 3, none⟩ v3).setCell ⟨b, 4, none⟩ v4).setCell ⟨b, 5, none⟩ v5) b #[v0, v1, v2, v3, v4, v5, u6, u7, u8] t := h4.set 5 v5
  have h6 : Box (((((((w.setCell ⟨b, 0, none⟩ v0).setCell ⟨b, 1, none⟩ v1).setCell ⟨b, 2, none⟩ v2).setCell ⟨b, 3, none⟩ v3).setCell ⟨b, 4, none⟩ v4).setCell ⟨b, 5, none⟩ v5).setCell ⟨b, 6, none⟩ v6) b #[v0, v1, v2, v3, v4, v5, v6, u7, u8] t := h5.set 6 v6
  have h7 : Box ((((((((w.setCell ⟨b, 0, none⟩ v0).setCell ⟨b, 1, none⟩ v1).setCell ⟨b, 2, none⟩ v2).setCell ⟨b, 3, none⟩ v3).setCell ⟨b, 4, none⟩ v4).setCell ⟨b, 5, none⟩ v5).setCell ⟨b, 6, none⟩ v6).setCell ⟨b, 7, none⟩ v7) b #[v0, v1, v2, v3, v4, v5, v6, v7, u8] t := h6.set 7 v7
  have h8 : Box (((((((((w.setCell ⟨b, 0, none⟩ v0).setCell ⟨b, 1, none⟩ v1).setCell ⟨b, 2, none⟩ v2).setCell ⟨b, 3, none⟩ v3).setCell ⟨b, 4, none⟩ v4).setCell ⟨b, 5, none⟩ v5).setCell ⟨b, 6, none⟩ v6).setCell ⟨b, 7, none⟩ v7).setCell ⟨b, 8, none⟩ v8) b #[v0, v1, v2, v3, v4, v5, v6, v7, v8] t := h7.set 8 v8
  exact h8

set_option maxRecDepth 100000 in
set_option maxHeartbeats 4000000 in
theorem copyItem_any (sq : Int) (r : Rc) (w : World) (hu : r.user.size ≤ 281474976710656) (hn : r.name.size ≤ 281474976710656) (ht : r.text.size ≤ 281474976710656) :
    Calls Try.prog 31 #[itV sq r] w fun e w' => e = .returned (itV sq r) ∧ Below w.heap.size w w' := by
  unfold itV
  have X1 := (Box.new w #[.int .i64 sq, .int .i64 r.kind, .int .i64 r.valid, .int .i64 r.uid, .int .i64 r.next, .int .i64 r.flags, .string r.user, .string r.name, .string r.text] 55).later (belNew _ (.cells #[.int .i64 0, .int .i64 0, .int .i64 0, .int .i64 0, .int .i64 0, .int .i64 0, .string ⟨#[]⟩, .string ⟨#[]⟩, .string ⟨#[]⟩] 55))
  have X2 : Box ((w.alloc (.cells #[.int .i64 sq, .int .i64 r.kind, .int .i64 r.valid, .int .i64 r.uid, .int .i64 r.next, .int .i64 r.flags, .string r.user, .string r.name, .string r.text] 55)).alloc (.cells #[.int .i64 0, .int .i64 0, .int .i64 0, .int .i64 0, .int .i64 0, .int .i64 0, .string ⟨#[]⟩, .string ⟨#[]⟩, .string ⟨#[]⟩] 55)) (w.heap.size + 1) #[.int .i64 0, .int .i64 0, .int .i64 0, .int .i64 0, .int .i64 0, .int .i64 0, .string ⟨#[]⟩, .string ⟨#[]⟩, .string ⟨#[]⟩] 55 := by
    have := Box.new (w.alloc (.cells #[.int .i64 sq, .int .i64 r.kind, .int .i64 r.valid, .int .i64 r.uid, .int .i64 r.next, .int .i64 r.flags, .string r.user, .string r.name, .string r.text] 55)) #[.int .i64 0, .int .i64 0, .int .i64 0, .int .i64 0, .int .i64 0, .int .i64 0, .string ⟨#[]⟩, .string ⟨#[]⟩, .string ⟨#[]⟩] 55
    rwa [show (w.alloc (.cells #[.int .i64 sq, .int .i64 r.kind, .int .i64 r.valid, .int .i64 r.uid, .int .i64 r.next, .int .i64 r.flags, .string r.user, .string r.name, .string r.text] 55)).heap.size = w.heap.size + 1 from by simp] at this
  have b1 : Below w.heap.size w ((w.alloc (.cells #[.int .i64 sq, .int .i64 r.kind, .int .i64 r.valid, .int .i64 r.uid, .int .i64 r.next, .int .i64 r.flags, .string r.user, .string r.name, .string r.text] 55)).alloc (.cells #[.int .i64 0, .int .i64 0, .int .i64 0, .int .i64 0, .int .i64 0, .int .i64 0, .string ⟨#[]⟩, .string ⟨#[]⟩, .string ⟨#[]⟩] 55)) := ((Below.refl _ _).alloc (Nat.le_refl _) _).alloc (by simp) _
  go_enter Try.func31, Try.ntmps31
  go_upto_region 1 with fail
  generalize (w.alloc (.cells #[.int .i64 sq, .int .i64 r.kind, .int .i64 r.valid, .int .i64 r.uid, .int .i64 r.next, .int .i64 r.flags, .string r.user, .string r.name, .string r.text] 55)).alloc (.cells #[.int .i64 0, .int .i64 0, .int .i64 0, .int .i64 0, .int .i64 0, .int .i64 0, .string ⟨#[]⟩, .string ⟨#[]⟩, .string ⟨#[]⟩] 55) = w1 at X1 X2 b1 ⊢
  have H1 : Hid (∀ x, Below w1.heap.size w1 x → Box x w.heap.size #[.int .i64 sq, .int .i64 r.kind, .int .i64 r.valid, .int .i64 r.uid, .int .i64 r.next, .int .i64 r.flags, .string r.user, .string r.name, .string r.text] 55 ∧ Box x (w.heap.size + 1) #[.int .i64 0, .int .i64 0, .int .i64 0, .int .i64 0, .int .i64 0, .int .i64 0, .string ⟨#[]⟩, .string ⟨#[]⟩, .string ⟨#[]⟩] 55 ∧ Below w.heap.size w x) := fun x hx => ⟨X1.later hx, X2.later hx, b1.trans (hx.mono b1.size)⟩
  clear X1 X2 b1
  have c6 := (H1.out _ (Below.refl _ _)).1.cell 6 (.string r.user) rfl
  go_wp2_with fail
  clear c6
  refine (clone_any _ _ hu).mono ?_
  rintro e w2 ⟨rfl, k2⟩
  have c6 := (H1.out _ k2).1.cell 6 (.string r.user) rfl
  have f6 := (H1.out _ k2).1.loose 6
  go_upto_region 2 with fail
  rw [setCell_same c6]
  clear c6 f6
  have c7 := (H1.out _ k2).1.cell 7 (.string r.name) rfl
  go_wp2_with fail
  clear c7
  refine (clone_any _ _ hn).mono ?_
  rintro e w3 ⟨rfl, k3⟩
  have j3 := k2.trans (k3.mono k2.size)
  have c7 := (H1.out _ j3).1.cell 7 (.string r.name) rfl
  have f7 := (H1.out _ j3).1.loose 7
  go_upto_region 3 with fail
  rw [setCell_same c7]
  clear c7 f7 k2 k3
  have c8 := (H1.out _ j3).1.cell 8 (.string r.text) rfl
  go_wp2_with fail
  clear c8
  refine (clone_any _ _ ht).mono ?_
  rintro e w4 ⟨rfl, k4⟩
  have j4 := j3.trans (k4.mono j3.size)
  have c8 := (H1.out _ j4).1.cell 8 (.string r.text) rfl
  have f8 := (H1.out _ j4).1.loose 8
  go_upto_region 4 with fail
  rw [setCell_same c8]
  clear c8 f8 j3 k4
  obtain ⟨X1, X2, bE⟩ := H1.out _ j4
  obtain ⟨q0, q1, q2, q3, q4, q5, q6, q7, q8, _⟩ := X1.nine
  obtain ⟨z0, z1, z2, z3, z4, z5, z6, z7, z8, f0, f1, f2, f3, f4, f5, f6, f7, f8⟩ := X2.nine
  have X9 : Box (((((((((w4.setCell ⟨w.heap.size + 1, 0, none⟩ (.int .i64 sq)).setCell ⟨w.heap.size + 1, 1, none⟩ (.int .i64 r.kind)).setCell ⟨w.heap.size + 1, 2, none⟩ (.int .i64 r.valid)).setCell ⟨w.heap.size + 1, 3, none⟩ (.int .i64 r.uid)).setCell ⟨w.heap.size + 1, 4, none⟩ (.int .i64 r.next)).setCell ⟨w.heap.size + 1, 5, none⟩ (.int .i64 r.flags)).setCell ⟨w.heap.size + 1, 6, none⟩ (.string r.user)).setCell ⟨w.heap.size + 1, 7, none⟩ (.string r.name)).setCell ⟨w.heap.size + 1, 8, none⟩ (.string r.text)) (w.heap.size + 1) #[.int .i64 sq, .int .i64 r.kind, .int .i64 r.valid, .int .i64 r.uid, .int .i64 r.next, .int .i64 r.flags, .string r.user, .string r.name, .string r.text] 55 := X2.set9n _ _ _ _ _ _ _ _ _
  have B9 := Lib.hid (below_set9 bE (show w.heap.size ≤ w.heap.size + 1 by omega) (.int .i64 sq) (.int .i64 r.kind) (.int .i64 r.valid) (.int .i64 r.uid) (.int .i64 r.next) (.int .i64 r.flags) (.string r.user) (.string r.name) (.string r.text))
  obtain ⟨y0, y1, y2, y3, y4, y5, y6, y7, y8, _⟩ := X9.nine
  clear X1 X2 X9 bE j4 H1
  go_wp2
  refine bodyPost_ret (v := .agg #[.int .i64 sq, .int .i64 r.kind, .int .i64 r.valid, .int .i64 r.uid, .int .i64 r.next, .int .i64 r.flags, .string r.user, .string r.name, .string r.text]) (by simp [results, Try.results31, go_sem, y0, y1, y2, y3, y4, y5, y6, y7, y8]) rfl ⟨rfl, B9.out⟩


end Go.Proofs.Ytahebgceoidebac
