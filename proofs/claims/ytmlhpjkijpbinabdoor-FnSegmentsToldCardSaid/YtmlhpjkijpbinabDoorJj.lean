/- Texts of our own, joined. -/
import Derived.Test.YtmlhpjkijpbinabDoorJi
import Derived.Deep.Cut
import Derived.Deep.CutRange
import Derived.Lib.Hide
import Derived.Test.YtmlhpjkijpbinabDoorJd
import Derived.Deep.RegionLaw
import Derived.Test.YtmlhpjkijpbinabDoorJc
import Derived.Test.YtmlhpjkijpbinabDoorJf
import Derived.Great.BuildSlice
import Derived.Test.YtmlhpjkijpbinabDoorJa
/- Disks: what the model's WriteBytes hands back of a right disk: a right disk of as many sectors. -/
namespace Go.Proofs.YtmlhpjkijpbinabDoor
open Go.RowKit

/-- A row of other elements lies in no box. -/
theorem Box.notRow {α : Type} {E : Enc α} {B : Nat} {w0 w : World} {v : Value} {l : List α} {g : Nat} {cs : Array Value} {t : TypeId} (h : Box w g cs t) (hr : RBuf E B w0 w v l) (ht : E.ty ≠ t) : v.ownBlock ≠ some g := by
  rcases hr.own.2 with ⟨rfl, _⟩ | ⟨g', cap, cur, rfl, _, hh, _⟩
  · intro e; cases e
  · intro e
    have : g' = g := Option.some.inj e
    subst this
    rw [show w.heap[g']? = _ from h] at hh
    simp only [Option.some.injEq, Obj.cells.injEq] at hh
    exact ht hh.2.1.symm

theorem DOwn.boxStore {B T : Nat} {w : World} {v : Value} {d : Dk} {g : Nat} {cs : Array Value} (h : DOwn B T w v d) (hb : Box w g cs 45) (i : Nat) (u : Value) : DOwn B T (w.setCell ⟨g, i, none⟩ u) v d := by
  obtain ⟨va, vb, hv, h1, h2, h3⟩ := h
  exact ⟨va, vb, hv, h1.grown (stored_grown _ _ _ _) (.inr (hb.notRow h1.1 (by decide))), h2.grown (stored_grown _ _ _ _) (.inr (hb.notRow h2.1 (by decide))), h3⟩

theorem DOwn.top {B T : Nat} {w : World} {v : Value} {d : Dk} (h : DOwn B T w v d) : DOwn B w.heap.size w v d := by
  obtain ⟨va, vb, hv, h1, h2, h3⟩ := h
  exact ⟨va, vb, hv, h1.wider h1.2.1 (Nat.le_refl _), h2.wider h2.2.1 (Nat.le_refl _), h3⟩
theorem DOwn.base {B B' T : Nat} {w : World} {v : Value} {d : Dk} (h : DOwn B T w v d) (hB : B' ≤ B) : DOwn B' T w v d := by
  obtain ⟨va, vb, hv, h1, h2, h3⟩ := h
  exact ⟨va, vb, hv, h1.deeper hB, h2.deeper hB, h3⟩

theorem Dk.ok_small {d : Dk} (h : d.ok) : d.small ∧ (∀ s ∈ d.sec, s.size ≤ 1099511627776) ∧ ∀ x ∈ d.cache, x.text.size ≤ 1099511627776 := by
  obtain ⟨h1, h2, h3, h4, h5⟩ := h
  exact ⟨⟨by omega, by omega⟩, fun s hs => by have := h4 s hs; omega, fun x hx => by have := (h5 x hx).2.2; omega⟩

theorem lastAt_mem' {c : List Wr} {a : Int} {t : ByteArray} (h : lastAt c a = some t) : ∃ x ∈ c, x.text = t := by
  induction c with
  | nil => cases h
  | cons x c ih =>
    unfold lastAt at h
    split at h
    · rename_i t' ht
      obtain ⟨y, hy, he⟩ := ih (by rw [ht]; exact h)
      exact ⟨y, by simp [hy], he⟩
    · split at h
      · exact ⟨x, by simp, Option.some.inj h⟩
      · cases h

theorem rdT_ok {d : Dk} (h : d.ok) (a : Int) : (¬ (0 ≤ a ∧ a < d.sec.length) ∧ rdT d a = .tuple #[.string ⟨#[]⟩, .bool false]) ∨ ∃ t : ByteArray, t.size = 32 ∧ (0 ≤ a ∧ a < d.sec.length) ∧ rdT d a = .tuple #[.string t, .bool true] := by
  by_cases hin : 0 ≤ a ∧ a < d.sec.length
  · refine .inr ?_
    cases hl : lastAt d.cache a with
    | some t =>
      obtain ⟨x, hx, rfl⟩ := lastAt_mem' hl
      exact ⟨_, (h.2.2.2.2 x hx).2.2, hin, rdT_last hin hl⟩
    | none =>
      obtain ⟨k, rfl⟩ := Int.eq_ofNat_of_zero_le hin.1
      have hk : k < d.sec.length := by omega
      exact ⟨d.sec[k], h.2.2.2.1 _ (List.getElem_mem hk), hin, rdT_sec hk hl⟩
  · exact .inl ⟨hin, rdT_no hin⟩

theorem wrD_ok {d : Dk} (h : d.ok) (a : Int) (t : ByteArray) : (wrD d a t).ok ∧ (wrD d a t).sec.length = d.sec.length := by
  unfold wrD
  split
  · rename_i hw; exact ⟨(wrOk_iff d a t).2 hw, rfl⟩
  · exact ⟨h, rfl⟩
theorem wrD_more (d : Dk) (a : Int) (t : ByteArray) : (wrD d a t).cache.length ≤ d.cache.length + 1 := by
  unfold wrD
  split
  · simp
  · omega

/-- How many writes there are at most behind i bytes. -/
def WbQ (A i n : Nat) (d d' : Dk) : Prop := (i = 0 ∧ d'.cache.length = d.cache.length) ∨ (((A + i) % 32 = 0 ∨ i = n) ∧ d'.cache.length + A / 32 ≤ d.cache.length + (A + i + 31) / 32)
theorem WbQ.fin {A i n : Nat} {d d' : Dk} (h : WbQ A i n d d') (hi : i ≤ n) : d'.cache.length ≤ d.cache.length + (n + 62) / 32 := by
  unfold WbQ at h
  omega
theorem WbQ.next {A i n m : Nat} {d d' D : Dk} (h : WbQ A i n d d') (hi : i < n) (hm : 0 < m) (hfr : (A + i) % 32 + m ≤ 32) (he : (A + (i + m)) % 32 = 0 ∨ i + m = n) (hD : D.cache.length ≤ d'.cache.length + 1) : WbQ A (i + m) n d D := by
  unfold WbQ at h ⊢
  omega

/-- The three boxes of WriteBytes: what came in, what is handed back, and what is written on. -/
structure WbI (w : World) (v1 v2 : Value) (b2 : Nat) (va vb : Value) (d d' : Dk) (B T : Nat) (X : World) : Prop where
  bel : Below w.heap.size w X
  inn : Box X w.heap.size #[v1, v2] 45
  res : Box X (w.heap.size + 1) #[.slice none 0 0, .slice none 0 0] 45
  out : Box X b2 #[va, vb] 45
  dsk : DOwn w.heap.size X.heap.size X (.agg #[va, vb]) d'
  was : DOwn B T X (.agg #[v1, v2]) d
  lt : w.heap.size + 1 < b2

theorem WbI.later {w : World} {v1 v2 : Value} {b2 : Nat} {va vb : Value} {d d' : Dk} {B T : Nat} {X Y : World} (h : WbI w v1 v2 b2 va vb d d' B T X) (hb : Below X.heap.size X Y) : WbI w v1 v2 b2 va vb d d' B T Y :=
  ⟨h.bel.trans (hb.mono h.bel.size), h.inn.later hb, h.res.later hb, h.out.later hb, (h.dsk.later hb).top, h.was.later hb, h.lt⟩

set_option maxRecDepth 100000 in
set_option maxHeartbeats 4000000 in
theorem specWriteBytes_ok (d : Dk) (v : Value) (se A : Nat) (t : ByteArray) (B T : Nat) (w : World) (h : DOwn B T w v d) (hok : d.ok) (hse : se < d.sec.length) (hA : A ≤ 3200) (htz : t.size ≤ 1000000) :
    Calls Tryd.prog 87 #[v, .int .i64 (se : Int), .int .i64 (A : Int), .string t] w fun e w' => ∃ (d' : Dk) (f : Bool), d'.ok ∧ d'.sec.length = d.sec.length ∧ d'.cache.length ≤ d.cache.length + (t.size + 62) / 32 ∧ DiskR d' f w e w' := by
  obtain ⟨aa, ab, ca, cb, rfl⟩ := h.form
  obtain ⟨hsm, hts, htu⟩ := Dk.ok_small hok
  obtain ⟨hx0, hx1, b0, hsz⟩ := two_boxes w #[.slice aa d.sec.length ca, .slice ab d.cache.length cb] #[.slice none 0 0, .slice none 0 0] 45 45
  have h' := h.later b0
  have hl100 := hok.2.1
  go_enter Tryd.func87, Tryd.ntmps87
  go_wp2_with fail
  generalize ((w.alloc (.cells #[.slice aa d.sec.length ca, .slice ab d.cache.length cb] 45)).alloc (.cells #[.slice none 0 0, .slice none 0 0] 45)) = W at hx0 hx1 b0 hsz h' ⊢
  refine (specCopy_any d _ B T _ h' hsm).mono ?_
  rintro e w2 ⟨v2, rfl, o2, k2⟩
  obtain ⟨a1, a2, q1, q2, rfl⟩ := o2.form
  have k3 : Below w2.heap.size w2 (w2.alloc (.cells #[.slice a1 d.sec.length q1, .slice a2 d.cache.length q2] 45)) := (Below.refl _ _).alloc (Nat.le_refl _) _
  have j3 := k2.trans (k3.mono k2.size)
  have hz2 := k2.size
  have I3 : WbI w (.slice aa d.sec.length ca) (.slice ab d.cache.length cb) w2.heap.size (.slice a1 d.sec.length q1) (.slice a2 d.cache.length q2) d d B T (w2.alloc (.cells #[.slice a1 d.sec.length q1, .slice a2 d.cache.length q2] 45)) :=
    ⟨b0.trans (j3.mono b0.size), hx0.later j3, hx1.later j3, Box.new w2 _ _, ((o2.later k3).base (by omega)).top, h'.later j3, by omega⟩
  go_upto_region 2 with fail
  generalize w2.alloc (.cells #[.slice a1 d.sec.length q1, .slice a2 d.cache.length q2] 45) = w3 at I3 ⊢
  clear hx0 hx1 b0 h' h k3 j3 o2
  have c0 := I3.inn.cell 0 (.slice aa d.sec.length ca) rfl
  have c1 := I3.inn.cell 1 (.slice ab d.cache.length cb) rfl
  have g1 : ((0 : Int) ≤ (A : Int)) ∧ (A : Int) ≤ 3200 := by omega
  go_wp2_with (first | (go_at_call 50; refine (in_yes _ _ _ _ (by omega) (by omega)).mono ?_; rintro e w5 ⟨rfl, rfl⟩))
  refine (specDiskOk_any d _ _ I3.was.rd hsm hts htu).mono ?_
  rintro e w4 ⟨rfl, k4⟩
  rw [decide_eq_true hok]
  have I4 := I3.later k4
  clear I3 k4 c0 c1 g1
  go_wp2
  go_loopw [11] (fun iv wr => ∃ (i : Nat) (d' : Dk) (va vb : Value), i ≤ t.size ∧ iv = .int .i64 (i : Int) ∧ d'.ok ∧ d'.sec.length = d.sec.length ∧ WbQ A i t.size d d' ∧ WbI w (.slice aa d.sec.length ca) (.slice ab d.cache.length cb) w2.heap.size va vb d d' B T wr) (fun iv _ => t.size - (intOf iv).toNat)
  case atStart => exact ⟨0, d, _, _, by omega, rfl, hok, rfl, .inl ⟨rfl, rfl⟩, I4⟩
  case round =>
    clear I4
    obtain ⟨i, d', va, vb, hi, rfl, hok', hlen0, hq0, I⟩ := hrel
    have hlen := Lib.hid hlen0
    have HQ := Lib.hid hq0
    clear hlen0 hq0
    obtain ⟨a5, a6, c5, c6, hv5⟩ := I.dsk.form
    simp only [Value.agg.injEq, Array.mk.injEq, List.cons.injEq, and_true] at hv5
    obtain ⟨rfl, rfl⟩ := hv5
    obtain ⟨hsm', hts', htu'⟩ := Dk.ok_small hok'
    have m0 := I.out.cell 0 (.slice a5 d'.sec.length c5) rfl
    have m1 := I.out.cell 1 (.slice a6 d'.cache.length c6) rfl
    by_cases hlt : i < t.size
    · have hlt' : (i : Int) < (t.size : Int) := by omega
      obtain ⟨fr, hfr⟩ : ∃ fr : Nat, ((A : Int) + (i : Int)) % 32 = (fr : Int) := Int.eq_ofNat_of_zero_le (by omega)
      obtain ⟨kq, hkq⟩ : ∃ q : Nat, (se : Int) + ((A : Int) + (i : Int)) / 32 = (q : Int) := Int.eq_ofNat_of_zero_le (by omega)
      have hfr32 : fr < 32 := by omega
      have HFR := Lib.hid hfr
      have HKQ := Lib.hid hkq
      clear hfr hkq
      go_upto_region 11 with fail
      · obtain ⟨n, hnn, hn0, hn1, hn2⟩ : ∃ n : Nat, (t.size : Int) - (i : Int) = (n : Int) ∧ 0 < n ∧ fr + n ≤ 32 ∧ i + n ≤ t.size := ⟨t.size - i, by omega, by omega, by have := HFR.out; omega, by omega⟩
        have hend : Hid ((A + (i + n)) % 32 = 0 ∨ i + n = t.size) := .inr (by omega)
        rw [HKQ.out, HFR.out, hnn]
        clear hnn
        go_wp2_with fail
        refine (specReadSector_any d' _ (kq : Int) _ I.dsk.rd hsm').mono ?_
        rintro e w5 ⟨rfl, k5⟩
        have IK := I.later k5
        clear m0 m1 k5 I
        rcases rdT_ok hok' (kq : Int) with ⟨_, hr⟩ | ⟨ws, hw32, hin, hr⟩
        · rw [hr]
          clear hr
          have c0 := IK.inn.cell 0 (.slice aa d.sec.length ca) rfl
          have c1 := IK.inn.cell 1 (.slice ab d.cache.length cb) rfl
          go_wp2_with fail
          refine (specCopy_any d _ B T _ IK.was hsm).mono ?_
          rintro e wX ⟨vX, rfl, oX, kX⟩
          obtain ⟨p1, p2, r1, r2, rfl⟩ := oX.form
          have IX := IK.later kX
          have x0 := IX.res.cell 0 (.slice none 0 0) rfl
          have x1 := IX.res.cell 1 (.slice none 0 0) rfl
          have f0 := IX.res.loose 0
          have f1 := IX.res.loose 1
          have rX := (IX.res.set 0 (.slice p1 d.sec.length r1)).set 1 (.slice p2 d.cache.length r2)
          have HR : Hid (DiskR d false w (.returned (.tuple #[.agg #[.slice p1 d.sec.length r1, .slice p2 d.cache.length r2], .bool false])) ((wX.setCell ⟨w.heap.size + 1, 0, none⟩ (.slice p1 d.sec.length r1)).setCell ⟨w.heap.size + 1, 1, none⟩ (.slice p2 d.cache.length r2))) := by
            refine ⟨_, rfl, ?_, (IX.bel.setCell (p := ⟨w.heap.size + 1, 0, none⟩) (by simp) _).setCell (p := ⟨w.heap.size + 1, 1, none⟩) (by simp) _⟩
            have := ((oX.base (IK.bel.size)).boxStore IX.res 0 (.slice p1 d.sec.length r1)).boxStore (IX.res.set 0 (.slice p1 d.sec.length r1)) 1 (.slice p2 d.cache.length r2)
            simpa using this
          have q0 := rX.cell 0 (.slice p1 d.sec.length r1) rfl
          have q1 := rX.cell 1 (.slice p2 d.cache.length r2) rfl
          clear IK IX rX oX kX c0 c1
          go_wp2
          refine bodyPost_ret (v := .tuple #[.agg #[.slice p1 d.sec.length r1, .slice p2 d.cache.length r2], .bool false]) (by simp [results, Tryd.results87, go_sem, q0, q1]) rfl ?_
          exact ⟨d, false, hok, rfl, by omega, HR.out⟩
        · rw [hr]
          clear hr
          have hws2 : ((ws.size : Int) != 32) = false := by rw [hw32]; rfl
          have hlt5 : w2.heap.size < w5.heap.size := IK.out.lt
          have hw5le : w.heap.size ≤ w5.heap.size := IK.bel.size
          go_upto_region 14 with fail
          have b1 : (fr : Int) ≤ (ws.size : Int) := by omega
          have sl1 : ∀ wx, (Instr.slice 9 (.string ws) none (some (.int .i64 (fr : Int))) none).run Tryd.prog wx = .ok (.string (ws.extract 0 fr)) wx := fun wx => by
            have := run_slice_string_to_if (P := Tryd.prog) (w := wx) 9 ws .i64 (fr : Int) Tryd.underlying9
            rw [this]; simp; omega
          have sl2 : ∀ wx, (Instr.slice 9 (.string t) (some (.int .i64 (i : Int))) (some (.int .i64 ((i : Int) + (n : Int)))) none).run Tryd.prog wx = .ok (.string (t.extract i (i + n))) wx := fun wx => by
            have := run_slice_string (P := Tryd.prog) (w := wx) 9 t .i64 .i64 (i : Int) ((i : Int) + (n : Int)) Tryd.underlying9 (by omega) (by omega) (by omega)
            rw [this]
            congr 3
          have sl3 : ∀ wx, (Instr.slice 9 (.string ws) (some (.int .i64 ((fr : Int) + (n : Int)))) none none).run Tryd.prog wx = .ok (.string (ws.extract (fr + n) ws.size)) wx := fun wx => by
            have := run_slice_string_from_if (P := Tryd.prog) (w := wx) 9 ws .i64 ((fr : Int) + (n : Int)) Tryd.underlying9
            rw [this, if_pos ⟨by omega, by omega⟩]
            congr 3
          have z1 : (ws.extract 0 fr).size = fr := by rw [ByteArray.size_extract]; omega
          have z2 : (t.extract i (i + n)).size = n := by rw [ByteArray.size_extract]; omega
          have z3 : (ws.extract (fr + n) ws.size).size = 32 - (fr + n) := by rw [ByteArray.size_extract]; omega
          generalize ws.extract 0 fr = A1 at sl1 z1
          generalize t.extract i (i + n) = A2 at sl2 z2
          generalize ws.extract (fr + n) ws.size = A3 at sl3 z3
          have ad1 := fun (wx : World) => run_string_add_sum (P := Tryd.prog) (w := wx) A1 A2 (by omega)
          have ad2 := fun (wx : World) => run_string_add_sum (P := Tryd.prog) (w := wx) (A1 ++ A2) A3 (by rw [ByteArray.size_append]; omega)
          have hw1 : IntKind.i64.wrap ((i : Int) + (n : Int)) = (i : Int) + (n : Int) := IntWalk.i64_in _ ⟨by omega, by omega⟩
          have hw2 : IntKind.i64.wrap ((fr : Int) + (n : Int)) = (fr : Int) + (n : Int) := IntWalk.i64_in _ ⟨by omega, by omega⟩
          have hsz : (A1 ++ A2 ++ A3).size = 32 := by simp only [ByteArray.size_append]; omega
          generalize A1 ++ A2 ++ A3 = S at ad2 hsz
          obtain ⟨D, hD⟩ : ∃ D, wrD d' (kq : Int) S = D := ⟨_, rfl⟩
          obtain ⟨F, hF⟩ : ∃ F, decide (wrOk d' (kq : Int) S) = F := ⟨_, rfl⟩
          have hDok : (D.ok ∧ D.sec.length = d'.sec.length) ∧ D.cache.length ≤ d'.cache.length + 1 := by rw [← hD]; exact ⟨wrD_ok hok' _ _, wrD_more _ _ _⟩
          have HDF : Hid (wrD d' (kq : Int) S = D ∧ decide (wrOk d' (kq : Int) S) = F) := ⟨hD, hF⟩
          have HDok := Lib.hid hDok
          clear hD hF hDok
          go_cut [17, 18] from 80 to 101 (fun p f wx => ∃ (g : Nat) (e1 e2 : Option Addr) (e3 e4 : Nat), p = .pointer (some ⟨g, 0, none⟩) ∧ f = .bool F ∧ w5.heap.size ≤ g ∧ Box wx g #[.slice e1 D.sec.length e3, .slice e2 D.cache.length e4] 45 ∧ DOwn w5.heap.size wx.heap.size wx (.agg #[.slice e1 D.sec.length e3, .slice e2 D.cache.length e4]) D ∧ Below w5.heap.size w5 wx)
          case first =>
            have m0 := IK.out.cell 0 (.slice a5 d'.sec.length c5) rfl
            have m1 := IK.out.cell 1 (.slice a6 d'.cache.length c6) rfl
            have HS : Hid (∀ x : World, (x.cell? ⟨w2.heap.size, 0, none⟩ = some (.slice a5 d'.sec.length c5) ∧ x.cell? ⟨w2.heap.size, 1, none⟩ = some (.slice a6 d'.cache.length c6) ∧ Below w5.heap.size w5 x) → DOwn w.heap.size w5.heap.size x (.agg #[.slice a5 d'.sec.length c5, .slice a6 d'.cache.length c6]) d') := fun x hx => IK.dsk.later hx.2.2
            have HK0 : Hid (w5.drew.cell? ⟨w2.heap.size, 0, none⟩ = some (.slice a5 d'.sec.length c5) ∧ w5.drew.cell? ⟨w2.heap.size, 1, none⟩ = some (.slice a6 d'.cache.length c6) ∧ Below w5.heap.size w5 w5.drew) := ⟨m0, m1, (Below.refl _ _).drew⟩
            have hlt2 : w2.heap.size < w5.heap.size := IK.out.lt
            have HB0 : Hid (Box (w5.alloc (.cells #[.slice none 0 0, .slice none 0 0] 45)).drew w5.heap.size #[.slice none 0 0, .slice none 0 0] 45) := Box.new w5 _ _
            clear IK hlt' m0 m1
            go_region_held3 (fun x => x.cell? ⟨w2.heap.size, 0, none⟩ = some (.slice a5 d'.sec.length c5) ∧ x.cell? ⟨w2.heap.size, 1, none⟩ = some (.slice a6 d'.cache.length c6) ∧ Below w5.heap.size w5 x)
              (first | exact HK0.out | exact keep2 (by assumption) (belAlloc _ _) | exact keep2 (by assumption) kS | exact keep2 hSS.out (belAlloc _ _) | exact keep2s hlt2 (Nat.le_refl _) (by assumption) | exact keep2s hlt2 tS (by assumption))
              (first
                | (go_at_call 94; refine (specWriteSector_any d' _ (kq : Int) S w.heap.size w5.heap.size _ (HS.out _ (by assumption)) hsm' hts' htu' (by omega)).mono ?_; rintro e wS ⟨vS, rfl, oS, kS⟩; rw [HDF.out.1] at oS; rw [HDF.out.2]; have hSS := Lib.hid (keep2 (by assumption) kS); have tS : w5.heap.size ≤ wS.heap.size := hSS.out.2.2.size; obtain ⟨e1, e2, e3, e4, rfl⟩ := oS.form; (first | (have bx : Box wS w5.heap.size #[.slice none 0 0, .slice none 0 0] 45 := HB0.out.later kS; have x0 := bx.cell 0 _ rfl; have x1 := bx.cell 1 _ rfl; have f0 := bx.loose 0; have f1 := bx.loose 1) | skip)))
            all_goals
              go_wp2_with fail
              go_meet
              first
                | exact ⟨_, e1, e2, e3, e4, rfl, rfl, tS, Box.new wS _ _, ((oS.later (belAlloc _ _)).base (Nat.le_refl _)).top, hSS.out.2.2.alloc tS _⟩
                | exact ⟨_, e1, e2, e3, e4, rfl, rfl, Nat.le_refl _, (bx.set 0 _).set 1 _, (((oS.base (by simp)).boxStore bx 0 _).boxStore (bx.set 0 _) 1 _).top, (hSS.out.2.2.setCell (p := ⟨w5.heap.size, 0, none⟩) (Nat.le_refl _) _).setCell (p := ⟨w5.heap.size, 1, none⟩) (Nat.le_refl _) _⟩
          case rest =>
            obtain ⟨g, e1, e2, e3, e4, rfl, rfl, hgle, bxc, oD, kD⟩ := hcut
            have IK5 := IK.later kD
            clear IK
            have IK := IK5
            clear IK5
            have hz5 := IK.bel.size
            cases F with
            | false =>
            have c0 := IK.inn.cell 0 (.slice aa d.sec.length ca) rfl
            have c1 := IK.inn.cell 1 (.slice ab d.cache.length cb) rfl
            go_wp2_with fail
            refine (specCopy_any d _ B T _ IK.was hsm).mono ?_
            rintro e wX ⟨vX, rfl, oX, kX⟩
            obtain ⟨p1, p2, r1, r2, rfl⟩ := oX.form
            have IX := IK.later kX
            have x0 := IX.res.cell 0 (.slice none 0 0) rfl
            have x1 := IX.res.cell 1 (.slice none 0 0) rfl
            have f0 := IX.res.loose 0
            have f1 := IX.res.loose 1
            have rX := (IX.res.set 0 (.slice p1 d.sec.length r1)).set 1 (.slice p2 d.cache.length r2)
            have HR : Hid (DiskR d false w (.returned (.tuple #[.agg #[.slice p1 d.sec.length r1, .slice p2 d.cache.length r2], .bool false])) ((wX.setCell ⟨w.heap.size + 1, 0, none⟩ (.slice p1 d.sec.length r1)).setCell ⟨w.heap.size + 1, 1, none⟩ (.slice p2 d.cache.length r2))) := by
              refine ⟨_, rfl, ?_, (IX.bel.setCell (p := ⟨w.heap.size + 1, 0, none⟩) (by simp) _).setCell (p := ⟨w.heap.size + 1, 1, none⟩) (by simp) _⟩
              have := ((oX.base (IK.bel.size)).boxStore IX.res 0 (.slice p1 d.sec.length r1)).boxStore (IX.res.set 0 (.slice p1 d.sec.length r1)) 1 (.slice p2 d.cache.length r2)
              simpa using this
            have q0 := rX.cell 0 (.slice p1 d.sec.length r1) rfl
            have q1 := rX.cell 1 (.slice p2 d.cache.length r2) rfl
            clear IK IX rX oX kX c0 c1 bxc oD
            go_wp2
            refine bodyPost_ret (v := .tuple #[.agg #[.slice p1 d.sec.length r1, .slice p2 d.cache.length r2], .bool false]) (by simp [results, Tryd.results87, go_sem, q0, q1]) rfl ?_
            exact ⟨d, false, hok, rfl, by omega, HR.out⟩
            | true =>
              have hout := IK.out
              have hblt := IK.lt
              have hbg : w2.heap.size ≠ g := by
                intro e
                have h1 := hlt5
                omega
              have x0 := bxc.cell 0 (.slice e1 D.sec.length e3) rfl
              have x1 := bxc.cell 1 (.slice e2 D.cache.length e4) rfl
              have y0 := hout.cell 0 (.slice a5 d'.sec.length c5) rfl
              have y1 := hout.cell 1 (.slice a6 d'.cache.length c6) rfl
              have f0 := hout.loose 0
              have f1 := hout.loose 1
              have IN : Hid (WbI w (.slice aa d.sec.length ca) (.slice ab d.cache.length cb) w2.heap.size (.slice e1 D.sec.length e3) (.slice e2 D.cache.length e4) d D B T ((wc.setCell ⟨w2.heap.size, 0, none⟩ (.slice e1 D.sec.length e3)).setCell ⟨w2.heap.size, 1, none⟩ (.slice e2 D.cache.length e4))) := by
                have o1 := hout.set 0 (.slice e1 D.sec.length e3)
                refine ⟨(IK.bel.setCell (p := ⟨w2.heap.size, 0, none⟩) (by show w.heap.size ≤ w2.heap.size; omega) _).setCell (p := ⟨w2.heap.size, 1, none⟩) (by show w.heap.size ≤ w2.heap.size; omega) _, (IK.inn.other (by omega) _ _).other (by omega) _ _, (IK.res.other (by omega) _ _).other (by omega) _ _, o1.set 1 _, ?_, (IK.was.boxStore hout 0 _).boxStore o1 1 _, hblt⟩
                have := (((oD.base hw5le).boxStore hout 0 (.slice e1 D.sec.length e3)).boxStore o1 1 (.slice e2 D.cache.length e4)).top
                exact this
              clear IK hout bxc oD kD
              go_wp2
              go_roundw
              case rel => exact ⟨i + n, D, _, _, by omega, by go_num, HDok.out.1.1, HDok.out.1.2.trans hlen.out, HQ.out.next hlt hn0 (by have := HFR.out; omega) hend.out HDok.out.2, IN.out⟩
              case measure => simp [intOf]; omega
      · obtain ⟨n, hnn, hn0, hn1, hn2⟩ : ∃ n : Nat, 32 - (fr : Int) = (n : Int) ∧ 0 < n ∧ fr + n ≤ 32 ∧ i + n ≤ t.size := ⟨32 - fr, by omega, by omega, by omega, by have := HFR.out; omega⟩
        have hend : Hid ((A + (i + n)) % 32 = 0 ∨ i + n = t.size) := .inl (by have := HFR.out; omega)
        rw [HKQ.out, HFR.out, hnn]
        clear hnn
        go_wp2_with fail
        refine (specReadSector_any d' _ (kq : Int) _ I.dsk.rd hsm').mono ?_
        rintro e w5 ⟨rfl, k5⟩
        have IK := I.later k5
        clear m0 m1 k5 I
        rcases rdT_ok hok' (kq : Int) with ⟨_, hr⟩ | ⟨ws, hw32, hin, hr⟩
        · rw [hr]
          clear hr
          have c0 := IK.inn.cell 0 (.slice aa d.sec.length ca) rfl
          have c1 := IK.inn.cell 1 (.slice ab d.cache.length cb) rfl
          go_wp2_with fail
          refine (specCopy_any d _ B T _ IK.was hsm).mono ?_
          rintro e wX ⟨vX, rfl, oX, kX⟩
          obtain ⟨p1, p2, r1, r2, rfl⟩ := oX.form
          have IX := IK.later kX
          have x0 := IX.res.cell 0 (.slice none 0 0) rfl
          have x1 := IX.res.cell 1 (.slice none 0 0) rfl
          have f0 := IX.res.loose 0
          have f1 := IX.res.loose 1
          have rX := (IX.res.set 0 (.slice p1 d.sec.length r1)).set 1 (.slice p2 d.cache.length r2)
          have HR : Hid (DiskR d false w (.returned (.tuple #[.agg #[.slice p1 d.sec.length r1, .slice p2 d.cache.length r2], .bool false])) ((wX.setCell ⟨w.heap.size + 1, 0, none⟩ (.slice p1 d.sec.length r1)).setCell ⟨w.heap.size + 1, 1, none⟩ (.slice p2 d.cache.length r2))) := by
            refine ⟨_, rfl, ?_, (IX.bel.setCell (p := ⟨w.heap.size + 1, 0, none⟩) (by simp) _).setCell (p := ⟨w.heap.size + 1, 1, none⟩) (by simp) _⟩
            have := ((oX.base (IK.bel.size)).boxStore IX.res 0 (.slice p1 d.sec.length r1)).boxStore (IX.res.set 0 (.slice p1 d.sec.length r1)) 1 (.slice p2 d.cache.length r2)
            simpa using this
          have q0 := rX.cell 0 (.slice p1 d.sec.length r1) rfl
          have q1 := rX.cell 1 (.slice p2 d.cache.length r2) rfl
          clear IK IX rX oX kX c0 c1
          go_wp2
          refine bodyPost_ret (v := .tuple #[.agg #[.slice p1 d.sec.length r1, .slice p2 d.cache.length r2], .bool false]) (by simp [results, Tryd.results87, go_sem, q0, q1]) rfl ?_
          exact ⟨d, false, hok, rfl, by omega, HR.out⟩
        · rw [hr]
          clear hr
          have hws2 : ((ws.size : Int) != 32) = false := by rw [hw32]; rfl
          have hlt5 : w2.heap.size < w5.heap.size := IK.out.lt
          have hw5le : w.heap.size ≤ w5.heap.size := IK.bel.size
          go_upto_region 14 with fail
          have b1 : (fr : Int) ≤ (ws.size : Int) := by omega
          have sl1 : ∀ wx, (Instr.slice 9 (.string ws) none (some (.int .i64 (fr : Int))) none).run Tryd.prog wx = .ok (.string (ws.extract 0 fr)) wx := fun wx => by
            have := run_slice_string_to_if (P := Tryd.prog) (w := wx) 9 ws .i64 (fr : Int) Tryd.underlying9
            rw [this]; simp; omega
          have sl2 : ∀ wx, (Instr.slice 9 (.string t) (some (.int .i64 (i : Int))) (some (.int .i64 ((i : Int) + (n : Int)))) none).run Tryd.prog wx = .ok (.string (t.extract i (i + n))) wx := fun wx => by
            have := run_slice_string (P := Tryd.prog) (w := wx) 9 t .i64 .i64 (i : Int) ((i : Int) + (n : Int)) Tryd.underlying9 (by omega) (by omega) (by omega)
            rw [this]
            congr 3
          have sl3 : ∀ wx, (Instr.slice 9 (.string ws) (some (.int .i64 ((fr : Int) + (n : Int)))) none none).run Tryd.prog wx = .ok (.string (ws.extract (fr + n) ws.size)) wx := fun wx => by
            have := run_slice_string_from_if (P := Tryd.prog) (w := wx) 9 ws .i64 ((fr : Int) + (n : Int)) Tryd.underlying9
            rw [this, if_pos ⟨by omega, by omega⟩]
            congr 3
          have z1 : (ws.extract 0 fr).size = fr := by rw [ByteArray.size_extract]; omega
          have z2 : (t.extract i (i + n)).size = n := by rw [ByteArray.size_extract]; omega
          have z3 : (ws.extract (fr + n) ws.size).size = 32 - (fr + n) := by rw [ByteArray.size_extract]; omega
          generalize ws.extract 0 fr = A1 at sl1 z1
          generalize t.extract i (i + n) = A2 at sl2 z2
          generalize ws.extract (fr + n) ws.size = A3 at sl3 z3
          have ad1 := fun (wx : World) => run_string_add_sum (P := Tryd.prog) (w := wx) A1 A2 (by omega)
          have ad2 := fun (wx : World) => run_string_add_sum (P := Tryd.prog) (w := wx) (A1 ++ A2) A3 (by rw [ByteArray.size_append]; omega)
          have hw1 : IntKind.i64.wrap ((i : Int) + (n : Int)) = (i : Int) + (n : Int) := IntWalk.i64_in _ ⟨by omega, by omega⟩
          have hw2 : IntKind.i64.wrap ((fr : Int) + (n : Int)) = (fr : Int) + (n : Int) := IntWalk.i64_in _ ⟨by omega, by omega⟩
          have hsz : (A1 ++ A2 ++ A3).size = 32 := by simp only [ByteArray.size_append]; omega
          generalize A1 ++ A2 ++ A3 = S at ad2 hsz
          obtain ⟨D, hD⟩ : ∃ D, wrD d' (kq : Int) S = D := ⟨_, rfl⟩
          obtain ⟨F, hF⟩ : ∃ F, decide (wrOk d' (kq : Int) S) = F := ⟨_, rfl⟩
          have hDok : (D.ok ∧ D.sec.length = d'.sec.length) ∧ D.cache.length ≤ d'.cache.length + 1 := by rw [← hD]; exact ⟨wrD_ok hok' _ _, wrD_more _ _ _⟩
          have HDF : Hid (wrD d' (kq : Int) S = D ∧ decide (wrOk d' (kq : Int) S) = F) := ⟨hD, hF⟩
          have HDok := Lib.hid hDok
          clear hD hF hDok
          go_cut [17, 18] from 80 to 101 (fun p f wx => ∃ (g : Nat) (e1 e2 : Option Addr) (e3 e4 : Nat), p = .pointer (some ⟨g, 0, none⟩) ∧ f = .bool F ∧ w5.heap.size ≤ g ∧ Box wx g #[.slice e1 D.sec.length e3, .slice e2 D.cache.length e4] 45 ∧ DOwn w5.heap.size wx.heap.size wx (.agg #[.slice e1 D.sec.length e3, .slice e2 D.cache.length e4]) D ∧ Below w5.heap.size w5 wx)
          case first =>
            have m0 := IK.out.cell 0 (.slice a5 d'.sec.length c5) rfl
            have m1 := IK.out.cell 1 (.slice a6 d'.cache.length c6) rfl
            have HS : Hid (∀ x : World, (x.cell? ⟨w2.heap.size, 0, none⟩ = some (.slice a5 d'.sec.length c5) ∧ x.cell? ⟨w2.heap.size, 1, none⟩ = some (.slice a6 d'.cache.length c6) ∧ Below w5.heap.size w5 x) → DOwn w.heap.size w5.heap.size x (.agg #[.slice a5 d'.sec.length c5, .slice a6 d'.cache.length c6]) d') := fun x hx => IK.dsk.later hx.2.2
            have HK0 : Hid (w5.drew.cell? ⟨w2.heap.size, 0, none⟩ = some (.slice a5 d'.sec.length c5) ∧ w5.drew.cell? ⟨w2.heap.size, 1, none⟩ = some (.slice a6 d'.cache.length c6) ∧ Below w5.heap.size w5 w5.drew) := ⟨m0, m1, (Below.refl _ _).drew⟩
            have hlt2 : w2.heap.size < w5.heap.size := IK.out.lt
            have HB0 : Hid (Box (w5.alloc (.cells #[.slice none 0 0, .slice none 0 0] 45)).drew w5.heap.size #[.slice none 0 0, .slice none 0 0] 45) := Box.new w5 _ _
            clear IK hlt' m0 m1
            go_region_held3 (fun x => x.cell? ⟨w2.heap.size, 0, none⟩ = some (.slice a5 d'.sec.length c5) ∧ x.cell? ⟨w2.heap.size, 1, none⟩ = some (.slice a6 d'.cache.length c6) ∧ Below w5.heap.size w5 x)
              (first | exact HK0.out | exact keep2 (by assumption) (belAlloc _ _) | exact keep2 (by assumption) kS | exact keep2 hSS.out (belAlloc _ _) | exact keep2s hlt2 (Nat.le_refl _) (by assumption) | exact keep2s hlt2 tS (by assumption))
              (first
                | (go_at_call 94; refine (specWriteSector_any d' _ (kq : Int) S w.heap.size w5.heap.size _ (HS.out _ (by assumption)) hsm' hts' htu' (by omega)).mono ?_; rintro e wS ⟨vS, rfl, oS, kS⟩; rw [HDF.out.1] at oS; rw [HDF.out.2]; have hSS := Lib.hid (keep2 (by assumption) kS); have tS : w5.heap.size ≤ wS.heap.size := hSS.out.2.2.size; obtain ⟨e1, e2, e3, e4, rfl⟩ := oS.form; (first | (have bx : Box wS w5.heap.size #[.slice none 0 0, .slice none 0 0] 45 := HB0.out.later kS; have x0 := bx.cell 0 _ rfl; have x1 := bx.cell 1 _ rfl; have f0 := bx.loose 0; have f1 := bx.loose 1) | skip)))
            all_goals
              go_wp2_with fail
              go_meet
              first
                | exact ⟨_, e1, e2, e3, e4, rfl, rfl, tS, Box.new wS _ _, ((oS.later (belAlloc _ _)).base (Nat.le_refl _)).top, hSS.out.2.2.alloc tS _⟩
                | exact ⟨_, e1, e2, e3, e4, rfl, rfl, Nat.le_refl _, (bx.set 0 _).set 1 _, (((oS.base (by simp)).boxStore bx 0 _).boxStore (bx.set 0 _) 1 _).top, (hSS.out.2.2.setCell (p := ⟨w5.heap.size, 0, none⟩) (Nat.le_refl _) _).setCell (p := ⟨w5.heap.size, 1, none⟩) (Nat.le_refl _) _⟩
          case rest =>
            obtain ⟨g, e1, e2, e3, e4, rfl, rfl, hgle, bxc, oD, kD⟩ := hcut
            have IK5 := IK.later kD
            clear IK
            have IK := IK5
            clear IK5
            have hz5 := IK.bel.size
            cases F with
            | false =>
            have c0 := IK.inn.cell 0 (.slice aa d.sec.length ca) rfl
            have c1 := IK.inn.cell 1 (.slice ab d.cache.length cb) rfl
            go_wp2_with fail
            refine (specCopy_any d _ B T _ IK.was hsm).mono ?_
            rintro e wX ⟨vX, rfl, oX, kX⟩
            obtain ⟨p1, p2, r1, r2, rfl⟩ := oX.form
            have IX := IK.later kX
            have x0 := IX.res.cell 0 (.slice none 0 0) rfl
            have x1 := IX.res.cell 1 (.slice none 0 0) rfl
            have f0 := IX.res.loose 0
            have f1 := IX.res.loose 1
            have rX := (IX.res.set 0 (.slice p1 d.sec.length r1)).set 1 (.slice p2 d.cache.length r2)
            have HR : Hid (DiskR d false w (.returned (.tuple #[.agg #[.slice p1 d.sec.length r1, .slice p2 d.cache.length r2], .bool false])) ((wX.setCell ⟨w.heap.size + 1, 0, none⟩ (.slice p1 d.sec.length r1)).setCell ⟨w.heap.size + 1, 1, none⟩ (.slice p2 d.cache.length r2))) := by
              refine ⟨_, rfl, ?_, (IX.bel.setCell (p := ⟨w.heap.size + 1, 0, none⟩) (by simp) _).setCell (p := ⟨w.heap.size + 1, 1, none⟩) (by simp) _⟩
              have := ((oX.base (IK.bel.size)).boxStore IX.res 0 (.slice p1 d.sec.length r1)).boxStore (IX.res.set 0 (.slice p1 d.sec.length r1)) 1 (.slice p2 d.cache.length r2)
              simpa using this
            have q0 := rX.cell 0 (.slice p1 d.sec.length r1) rfl
            have q1 := rX.cell 1 (.slice p2 d.cache.length r2) rfl
            clear IK IX rX oX kX c0 c1 bxc oD
            go_wp2
            refine bodyPost_ret (v := .tuple #[.agg #[.slice p1 d.sec.length r1, .slice p2 d.cache.length r2], .bool false]) (by simp [results, Tryd.results87, go_sem, q0, q1]) rfl ?_
            exact ⟨d, false, hok, rfl, by omega, HR.out⟩
            | true =>
              have hout := IK.out
              have hblt := IK.lt
              have hbg : w2.heap.size ≠ g := by
                intro e
                have h1 := hlt5
                omega
              have x0 := bxc.cell 0 (.slice e1 D.sec.length e3) rfl
              have x1 := bxc.cell 1 (.slice e2 D.cache.length e4) rfl
              have y0 := hout.cell 0 (.slice a5 d'.sec.length c5) rfl
              have y1 := hout.cell 1 (.slice a6 d'.cache.length c6) rfl
              have f0 := hout.loose 0
              have f1 := hout.loose 1
              have IN : Hid (WbI w (.slice aa d.sec.length ca) (.slice ab d.cache.length cb) w2.heap.size (.slice e1 D.sec.length e3) (.slice e2 D.cache.length e4) d D B T ((wc.setCell ⟨w2.heap.size, 0, none⟩ (.slice e1 D.sec.length e3)).setCell ⟨w2.heap.size, 1, none⟩ (.slice e2 D.cache.length e4))) := by
                have o1 := hout.set 0 (.slice e1 D.sec.length e3)
                refine ⟨(IK.bel.setCell (p := ⟨w2.heap.size, 0, none⟩) (by show w.heap.size ≤ w2.heap.size; omega) _).setCell (p := ⟨w2.heap.size, 1, none⟩) (by show w.heap.size ≤ w2.heap.size; omega) _, (IK.inn.other (by omega) _ _).other (by omega) _ _, (IK.res.other (by omega) _ _).other (by omega) _ _, o1.set 1 _, ?_, (IK.was.boxStore hout 0 _).boxStore o1 1 _, hblt⟩
                have := (((oD.base hw5le).boxStore hout 0 (.slice e1 D.sec.length e3)).boxStore o1 1 (.slice e2 D.cache.length e4)).top
                exact this
              clear IK hout bxc oD kD
              go_wp2
              go_roundw
              case rel => exact ⟨i + n, D, _, _, by omega, by go_num, HDok.out.1.1, HDok.out.1.2.trans hlen.out, HQ.out.next hlt hn0 (by have := HFR.out; omega) hend.out HDok.out.2, IN.out⟩
              case measure => simp [intOf]; omega
    · have x0 := I.res.cell 0 (.slice none 0 0) rfl
      have x1 := I.res.cell 1 (.slice none 0 0) rfl
      have f0 := I.res.loose 0
      have f1 := I.res.loose 1
      have r2 := (I.res.set 0 (.slice a5 d'.sec.length c5)).set 1 (.slice a6 d'.cache.length c6)
      have HR : Hid (DiskR d' true w (.returned (.tuple #[.agg #[.slice a5 d'.sec.length c5, .slice a6 d'.cache.length c6], .bool true])) ((wr.setCell ⟨w.heap.size + 1, 0, none⟩ (.slice a5 d'.sec.length c5)).setCell ⟨w.heap.size + 1, 1, none⟩ (.slice a6 d'.cache.length c6))) := by
        refine ⟨_, rfl, ?_, (I.bel.setCell (p := ⟨w.heap.size + 1, 0, none⟩) (by simp) _).setCell (p := ⟨w.heap.size + 1, 1, none⟩) (by simp) _⟩
        have := (I.dsk.boxStore I.res 0 (.slice a5 d'.sec.length c5)).boxStore (I.res.set 0 (.slice a5 d'.sec.length c5)) 1 (.slice a6 d'.cache.length c6)
        simpa using this
      have q0 := r2.cell 0 (.slice a5 d'.sec.length c5) rfl
      have q1 := r2.cell 1 (.slice a6 d'.cache.length c6) rfl
      clear I r2
      go_wp2
      refine bodyPost_ret (v := .tuple #[.agg #[.slice a5 d'.sec.length c5, .slice a6 d'.cache.length c6], .bool true]) (by simp [results, Tryd.results87, go_sem, q0, q1]) rfl ?_
      exact ⟨d', true, hok', hlen.out, HQ.out.fin hi, HR.out⟩

end Go.Proofs.YtmlhpjkijpbinabDoor

/- Segments: what the model's SegWrite hands back of a right disk: a right disk of as many sectors. -/
namespace Go.Proofs.YtmlhpjkijpbinabDoor
open Go.RowKit

set_option maxRecDepth 100000 in
set_option maxHeartbeats 2000000 in
theorem specSegWrite_ok (d : Dk) (v : Value) (s A : Nat) (t : ByteArray) (B T : Nat) (w : World) (h : DOwn B T w v d) (hok : d.ok) (hs : s ≤ 10) (hse : 8 + 8 * s < d.sec.length) (hA : A ≤ 256) (htz : t.size ≤ 1000000) :
    Calls Tryd.prog 75 #[v, .int .i64 (s : Int), .int .i64 (A : Int), .string t] w fun e w' => ∃ (d' : Dk) (f : Bool), d'.ok ∧ d'.sec.length = d.sec.length ∧ DiskR d' f w e w' := by
  obtain ⟨aa, ab, ca, cb, rfl⟩ := h.form
  obtain ⟨hsm, hts, htu⟩ := Dk.ok_small hok
  obtain ⟨hx0, hx1, b0, hsz⟩ := two_boxes w #[.slice aa d.sec.length ca, .slice ab d.cache.length cb] #[.slice none 0 0, .slice none 0 0] 45 45
  have h' := h.later b0
  have c0 := hx0.cell 0 (.slice aa d.sec.length ca) rfl
  have c1 := hx0.cell 1 (.slice ab d.cache.length cb) rfl
  by_cases hfit : (256 : Int) - (A : Int) < (t.size : Int)
  · go_enter Tryd.func75, Tryd.ntmps75
    go_wp2_with (first | (go_at_call 50; refine (in_yes _ _ _ _ (by omega) (by omega)).mono ?_; rintro e w5 ⟨rfl, rfl⟩))
    generalize ((w.alloc (.cells #[.slice aa d.sec.length ca, .slice ab d.cache.length cb] 45)).alloc (.cells #[.slice none 0 0, .slice none 0 0] 45)) = W at hx0 hx1 b0 hsz h' c0 c1 ⊢
    refine (specCopy_any d _ B T _ h' hsm).mono ?_
    rintro e wX ⟨vX, rfl, oX, kX⟩
    obtain ⟨p1, p2, r1, r2, rfl⟩ := oX.form
    have xX := hx1.later kX
    have bX := b0.trans (kX.mono b0.size)
    have x0 := xX.cell 0 (.slice none 0 0) rfl
    have x1 := xX.cell 1 (.slice none 0 0) rfl
    have f0 := xX.loose 0
    have f1 := xX.loose 1
    have rX := (xX.set 0 (.slice p1 d.sec.length r1)).set 1 (.slice p2 d.cache.length r2)
    have HR : Hid (DiskR d false w (.returned (.tuple #[.agg #[.slice p1 d.sec.length r1, .slice p2 d.cache.length r2], .bool false])) ((wX.setCell ⟨w.heap.size + 1, 0, none⟩ (.slice p1 d.sec.length r1)).setCell ⟨w.heap.size + 1, 1, none⟩ (.slice p2 d.cache.length r2))) := by
      refine ⟨_, rfl, ?_, (bX.setCell (p := ⟨w.heap.size + 1, 0, none⟩) (by simp) _).setCell (p := ⟨w.heap.size + 1, 1, none⟩) (by simp) _⟩
      have := ((oX.base b0.size).boxStore xX 0 (.slice p1 d.sec.length r1)).boxStore (xX.set 0 (.slice p1 d.sec.length r1)) 1 (.slice p2 d.cache.length r2)
      simpa using this
    have q0 := rX.cell 0 (.slice p1 d.sec.length r1) rfl
    have q1 := rX.cell 1 (.slice p2 d.cache.length r2) rfl
    clear rX oX kX c0 c1 xX
    go_wp2
    refine bodyPost_ret (v := .tuple #[.agg #[.slice p1 d.sec.length r1, .slice p2 d.cache.length r2], .bool false]) (by simp [results, Tryd.results75, go_sem, q0, q1]) rfl ?_
    exact ⟨d, false, hok, rfl, HR.out⟩
  · have hfit2 : ¬ (256 : Int) - (A : Int) < (t.size : Int) := hfit
    have hsf : sgF (s : Int) = ((8 + 8 * s : Nat) : Int) := by rw [sgF_yes ⟨by omega, by omega⟩]; omega
    go_enter Tryd.func75, Tryd.ntmps75
    go_upto_region 3 with (first | (go_at_call 50; refine (in_yes _ _ _ _ (by omega) (by omega)).mono ?_; rintro e w5 ⟨rfl, rfl⟩))
    generalize ((w.alloc (.cells #[.slice aa d.sec.length ca, .slice ab d.cache.length cb] 45)).alloc (.cells #[.slice none 0 0, .slice none 0 0] 45)) = W at hx0 hx1 b0 hsz h' c0 c1 ⊢
    have bD : Below W.heap.size W W.drew := (Below.refl _ _).drew
    have m0 := (hx0.later bD).cell 0 (.slice aa d.sec.length ca) rfl
    have m1 := (hx0.later bD).cell 1 (.slice ab d.cache.length cb) rfl
    have HD := Lib.hid (h'.later bD)
    have HX : Hid (∀ x, Below W.drew.heap.size W.drew x → Box x (w.heap.size + 1) #[.slice none 0 0, .slice none 0 0] 45 ∧ Below w.heap.size w x) := by
      intro x hb
      have hb2 : Below W.heap.size W x := bD.trans hb
      exact ⟨hx1.later hb2, b0.trans (hb2.mono b0.size)⟩
    have hzW : w.heap.size ≤ W.drew.heap.size := b0.size
    clear hx0 hx1 h' c0 c1 bD
    go_region_law (first
      | (go_simp; go_at_call 61; refine (specSegFirst_any _ _).mono ?_; rintro e w5 ⟨rfl, rfl⟩; rw [hsf]; dsimp only)
      | (go_simp; go_at_call 87; refine (specWriteBytes_ok d _ (8 + 8 * s) A t B T _ HD.out hok hse (by omega) htz).mono ?_; rintro e w6 ⟨d2, f2, hok2, hl2, hm2, v2, rfl, o6, k6⟩; have HL2 := Lib.hid hl2; clear hl2 hm2; obtain ⟨u1, u2, p1, p2, rfl⟩ := o6.form; obtain ⟨xX, bX⟩ := HX.out _ k6; have x0 := xX.cell 0 (.slice none 0 0) rfl; have x1 := xX.cell 1 (.slice none 0 0) rfl; have f0 := xX.loose 0; have f1 := xX.loose 1; dsimp only))
    all_goals
      have rX := (xX.set 0 (.slice u1 d2.sec.length p1)).set 1 (.slice u2 d2.cache.length p2)
      have q0 := rX.cell 0 (.slice u1 d2.sec.length p1) rfl
      have q1 := rX.cell 1 (.slice u2 d2.cache.length p2) rfl
      have HR : Hid (DiskR d2 f2 w (.returned (.tuple #[.agg #[.slice u1 d2.sec.length p1, .slice u2 d2.cache.length p2], .bool f2])) ((w6.setCell ⟨w.heap.size + 1, 0, none⟩ (.slice u1 d2.sec.length p1)).setCell ⟨w.heap.size + 1, 1, none⟩ (.slice u2 d2.cache.length p2))) := by
        refine ⟨_, rfl, ?_, (bX.setCell (p := ⟨w.heap.size + 1, 0, none⟩) (by simp) _).setCell (p := ⟨w.heap.size + 1, 1, none⟩) (by simp) _⟩
        have := ((o6.base hzW).boxStore xX 0 (.slice u1 d2.sec.length p1)).boxStore (xX.set 0 (.slice u1 d2.sec.length p1)) 1 (.slice u2 d2.cache.length p2)
        simpa using this
      clear rX xX o6
      go_wp2
      refine bodyPost_ret (v := .tuple #[.agg #[.slice u1 d2.sec.length p1, .slice u2 d2.cache.length p2], .bool f2]) (by simp [results, Tryd.results75, go_sem, q0, q1]) rfl ?_
      exact ⟨d2, f2, hok2, HL2.out, HR.out⟩

end Go.Proofs.YtmlhpjkijpbinabDoor

/- Rows of sectors: how they lie in memory, and the texts of them. -/
namespace Go.Proofs.YtmlhpjkijpbinabDoor
open Go.RowKit



/-- The text of a sector. -/
def Sec.str (s : Sec) : ByteArray := ⟨s.1.toArray⟩
theorem Sec.str_size (s : Sec) : s.str.size = 32 := by show s.1.toArray.size = 32; rw [List.size_toArray, s.2]

/-- make([]T, 0, n). -/
theorem wpList_make_room {α : Type} {w : World} {ops : Array Oper} {rest : List Oper} {o : Oper} {a : Act} {Q : Exit → Act → World → Prop} (hg : o.guard = none) (x c : Operand) (E : Enc α) (hop : o.op = Op.makeSlice E.sty x c)
    (kl kc : IntKind) (C : Int) (n : Nat) (hl : a.eval x = .int kl 0) (hc : a.eval c = .int kc C) (hC : C = (n : Int)) (hn : (E.bytes + 1) * n ≤ 281474976710656)
    (h : ∀ w', RBuf E w.heap.size w w' (.slice (some ⟨w.heap.size, 0, none⟩) 0 n) [] → wpList Tryd.prog ops Q rest (a.put o.dst (.slice (some ⟨w.heap.size, 0, none⟩) 0 n)) w') : wpList Tryd.prog ops Q (o :: rest) a w := by
  obtain ⟨i0, hi, hz0, hz1, hz2⟩ := info_parts E.info
  have e0 : (E.bytes + 1) * n = E.bytes * n + n := Nat.succ_mul _ _
  refine wpList_make_own w hg x c E.sty hop w.heap.size E.ty i0 E.zero E.sz E.und hi hz0 hz1 kl kc C n hl hc hC (by rw [hz2]; omega) (by unfold maxLen; omega) (Nat.le_refl _) ?_
  intro w' hown hgrow
  exact h w' ⟨hown, (Below.refl _ _).grown hgrow (Nat.le_refl _) (fun k hk => by cases hk), hgrow.size⟩


end Go.Proofs.YtmlhpjkijpbinabDoor

/- What DiskNew hands back, the model's and the program's. -/
namespace Go.Proofs.YtmlhpjkijpbinabDoor
open Go.RowKit

def zero32 : ByteArray := ⟨(List.replicate 32 0).toArray⟩
def newD (n : Int) : Dk := if 1 ≤ n ∧ n ≤ 100 then ⟨List.replicate n.toNat zero32, []⟩ else ⟨[], []⟩

theorem zero_any (w : World) : Calls Tryd.prog 72 #[] w fun e w' => e = .returned (.string zero32) ∧ Below w.heap.size w w' := by
  go_enter Tryd.func72, Tryd.ntmps72
  go_wp2_with (go_at_call 66; refine (long_any 32 0 _ (by omega)).mono ?_; rintro e w1 ⟨rfl, k1⟩)
  go_ret
  exact ⟨rfl, k1⟩

theorem nilOwn {α : Type} {E : Enc α} {B T : Nat} {w : World} (hB : B ≤ w.heap.size) (hT : T ≤ w.heap.size) : LOwn E B T w (.slice none 0 0) [] := ⟨⟨World.ownsRow_nil _ _ _ _, Below.refl _ _, hB⟩, hT, fun k hk => by cases hk⟩
theorem apNil (v : Value) : v.ownBlock = none ∨ v.ownBlock ≠ (Value.slice none 0 0).ownBlock := by
  cases hv : v.ownBlock with
  | none => exact .inl rfl
  | some k => exact .inr (by simp [Value.ownBlock])


set_option maxRecDepth 100000 in
set_option maxHeartbeats 2000000 in
theorem specDiskNew_any (n : Int) (w : World) : Calls Tryd.prog 55 #[.int .i64 n] w fun e w' => DiskR (newD n) (decide (1 ≤ n ∧ n ≤ 100)) w e w' := by
  have b00 : Below w.heap.size w (w.alloc (.cells #[.slice none 0 0, .slice none 0 0] 45)) := (Below.refl _ _).alloc (Nat.le_refl _) _
  by_cases hin : 1 ≤ n ∧ n ≤ 100
  · obtain ⟨k, rfl⟩ := Int.eq_ofNat_of_zero_le (show 0 ≤ n by omega)
    have E2 := Lib.hid (show newD (k : Int) = ⟨List.replicate k zero32, []⟩ from by unfold newD; rw [if_pos hin, Int.toNat_natCast])
    have hk1 : 1 ≤ k := by omega
    have hk2 : k ≤ 100 := by omega
    have HD := Lib.hid (decide_eq_true hin)
    obtain ⟨hx0, hx1, b0, hsz⟩ := two_boxes w #[.slice none 0 0, .slice none 0 0] #[.slice none 0 0, .slice none 0 0] 45 45
    clear b00
    go_enter Tryd.func55, Tryd.ntmps55
    go_wp2_with (go_at_call 50; refine (in_yes _ _ _ _ (by omega) (by omega)).mono ?_; rintro e w5 ⟨rfl, rfl⟩)
    generalize ((w.alloc (.cells #[.slice none 0 0, .slice none 0 0] 45)).alloc (.cells #[.slice none 0 0, .slice none 0 0] 45)) = W at hx0 hx1 b0 hsz ⊢
    have X0 := Lib.hid hx0
    have X1 := Lib.hid hx1
    have HSZ := Lib.hid hsz
    have B0 := Lib.hid b0
    clear hx0 hx1 hsz b0
    go_loopw [5] (fun iv wr => ∃ i : Nat, i ≤ k ∧ iv = .int .i64 (i : Int) ∧ ∃ (a : Option Addr) (q : Nat), Box wr (w.heap.size + 1) #[.slice a i q, .slice none 0 0] 45 ∧ RBuf strE W.heap.size wr wr (.slice a i q) (List.replicate i zero32) ∧ Box wr w.heap.size #[.slice none 0 0, .slice none 0 0] 45 ∧ Below w.heap.size w wr) (fun iv _ => k - (intOf iv).toNat)
    case atStart => exact ⟨0, by omega, rfl, none, 0, X1.out, ⟨World.ownsRow_nil _ _ _ _, Below.refl _ _, Nat.le_refl _⟩, X0.out, B0.out⟩
    case round =>
      obtain ⟨i, hi, rfl, a, q, bx, rb, by0, bel⟩ := hrel
      have hW : w.heap.size + 1 < W.heap.size := by have := HSZ.out; omega
      by_cases hlt : i < k
      · have c0 := bx.cell 0 (.slice a i q) rfl
        have hlr : (List.replicate i zero32).length = i := List.length_replicate
        have HC : Hid (∀ (x : World) (o : Obj), Below wr.drew.heap.size wr.drew x → RBuf strE W.heap.size (x.alloc o) (x.alloc o) (.slice a i q) (List.replicate i zero32) ∧ x.cell? ⟨w.heap.size + 1, 0, none⟩ = some (.slice a i q) ∧ (x.alloc o).cell? ⟨w.heap.size + 1, 0, none⟩ = some (.slice a i q)) := by
          intro x o hx
          have hx2 : Below wr.heap.size wr x := ((Below.refl _ _).drew).trans hx
          exact ⟨((rb.later hx2).alloc o).here, (bx.later hx2).cell 0 _ rfl, ((bx.later hx2).later ((Below.refl _ _).alloc (Nat.le_refl _) _)).cell 0 _ rfl⟩
        have HC6 : Hid (∀ (x y : World) (o : Obj), Below wr.drew.heap.size wr.drew x → (x.alloc o).grownBy y (Value.slice a i q).ownBlock → Box y (w.heap.size + 1) #[.slice a i q, .slice none 0 0] 45 ∧ Box y w.heap.size #[.slice none 0 0, .slice none 0 0] 45 ∧ Below w.heap.size w y) := by
          intro x y o hx hg
          have hx2 : Below wr.heap.size wr x := ((Below.refl _ _).drew).trans hx
          have hxo : Below wr.heap.size wr (x.alloc o) := hx2.trans (((Below.refl x.heap.size x).alloc (Nat.le_refl _) o).mono hx2.size)
          have bo := bx.later hxo
          have bo0 := by0.later hxo
          have hb := bel.trans (hxo.mono bel.size)
          refine ⟨(hg.block _ bo.lt (fun e => by have := (rb.own.lt _ e.symm).1; omega)).trans bo, (hg.block _ bo0.lt (fun e => by have := (rb.own.lt _ e.symm).1; omega)).trans bo0, hb.grown hg hb.size (fun j hj => by have := (rb.own.lt j hj).1; omega)⟩
        clear bx rb by0 bel
        go_wp2
        go_region_law (first
          | (go_simp; go_at_call 72; refine (zero_any _).mono ?_; rintro e w5 ⟨rfl, k5⟩; have c5 := (HC.out _ (.cells #[] 0) k5).2.1; have d5 := (HC.out _ (.cells #[.string zero32] 9) k5).2.2; dsimp only)
          | (refine step_append_rows (by rfl) _ _ strE (by rfl) W.heap.size _ (List.replicate i zero32) (by rfl) (HC.out _ _ k5).1 w5.heap.size _ [zero32] (by rfl) (RBuf.lit1 strE w5 zero32) (by simp [strE]; omega) ?_; intro v6 w6 hr6 hg6 at6 lt6; obtain ⟨a6, q6, rfl⟩ := hr6.form; obtain ⟨bx6, by6, bel6⟩ := HC6.out _ _ _ k5 hg6; have z1 := bx6.cell 0 (.slice a i q) rfl; have f1 := bx6.loose 0))
        all_goals
          have e6 : (List.replicate i zero32 ++ [zero32]).length = i + 1 := by simp
          have e7 : List.replicate i zero32 ++ [zero32] = List.replicate (i + 1) zero32 := List.replicate_succ'.symm
          rw [e7, List.length_replicate] at hr6
          have g1 := bx6.set 0 (.slice a6 (i + 1) q6)
          have g2 := by6.other (g := w.heap.size + 1) (by omega) 0 (.slice a6 (i + 1) q6)
          have nO : (Value.slice a6 (i + 1) q6).ownBlock ≠ some (w.heap.size + 1) := fun e => by have := (hr6.own.lt _ e).1; omega
          have g3 := (hr6.lown.grown (stored_grown w6 (w.heap.size + 1) 0 (.slice a6 (i + 1) q6)) (.inr nO)).1
          have g4 := bel6.setCell (p := ⟨w.heap.size + 1, 0, none⟩) (by simp) (.slice a6 (i + 1) q6)
          have G := Lib.hid (show Box (w6.setCell ⟨w.heap.size + 1, 0, none⟩ (.slice a6 (i + 1) q6)) (w.heap.size + 1) #[.slice a6 (i + 1) q6, .slice none 0 0] 45 ∧ _ ∧ _ ∧ _ from ⟨by simpa using g1, g3, g2, g4⟩)
          clear g1 g2 g3 g4 bx6 by6 bel6 hr6 hg6 at6 lt6 nO HC HC6 e6 e7
          go_wp2
          go_roundw
          case rel => exact ⟨i + 1, by omega, by go_num, a6, q6, G.out⟩
          case measure => simp [intOf]; omega
      · have hie : i = k := by omega
        subst hie
        have m0 := bx.cell 0 (.slice a i q) rfl
        have m1 := bx.cell 1 (.slice none 0 0) rfl
        have r0 := by0.cell 0 (.slice none 0 0) rfl
        have r1 := by0.cell 1 (.slice none 0 0) rfl
        have f0 := by0.loose 0
        have f1 := by0.loose 1
        have RB := Lib.hid rb
        have BL := Lib.hid bel
        clear bx rb by0 bel
        go_wp2
        refine bodyPost_ret (v := .tuple #[.agg #[.slice a i q, .slice none 0 0], .bool true]) (by simp [results, Tryd.results55, go_sem, r0, r1]) rfl ?_
        rw [E2.out, HD.out]
        have q1 := (RB.out.lown.store w.heap.size 0 (.slice a i q) (by omega)).store w.heap.size 1 (.slice none 0 0) (by omega)
        have bE := (BL.out.setCell (p := ⟨w.heap.size, 0, none⟩) (Nat.le_refl _) (.slice a i q)).setCell (p := ⟨w.heap.size, 1, none⟩) (Nat.le_refl _) (.slice none 0 0)
        exact ⟨_, rfl, ⟨_, _, rfl, (q1.deeper (by omega)).wider (by simp) (Nat.le_refl _), nilOwn bE.size (Nat.le_refl _), apNil _⟩, bE⟩
  · have E2 := Lib.hid (show newD n = ⟨[], []⟩ from if_neg hin)
    have HD := Lib.hid (decide_eq_false hin)
    go_enter Tryd.func55, Tryd.ntmps55
    go_wp2_with (go_at_call 50; refine (in_no _ _ _ _ hin).mono ?_; rintro e w5 ⟨rfl, rfl⟩)
    refine bodyPost_ret (v := .tuple #[.agg #[.slice none 0 0, .slice none 0 0], .bool false]) (by simp [results, Tryd.results55, go_sem]) rfl ?_
    rw [E2.out, HD.out]
    exact ⟨_, rfl, ⟨_, _, rfl, nilOwn b00.size (Nat.le_refl _), nilOwn b00.size (Nat.le_refl _), apNil _⟩, b00⟩

end Go.Proofs.YtmlhpjkijpbinabDoor
