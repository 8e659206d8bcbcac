/- Texts of our own, joined. -/
import Derived.Test.YtmlhpjkijpbinabDoorJa
import Derived.Test.YtmlhpjkijpbinabDoorJb
import Derived.Deep.Cut
import Derived.Lib.Hide
import Derived.Test.YtmlhpjkijpbinabDoorJd
import Derived.Test.YtmlhpjkijpbinabDoorJf
import Derived.Laws.StructEq
/- What every drawn law stands on: numbers picked, places, stores into what is new, and the cursor beside what was there before. -/
namespace Go.Proofs.YtmlhpjkijpbinabDoor
open Go.RowKit

theorem ints_cell' (w : World) (zs : List Int) (t : TypeId) (j : Nat) (hj : j < zs.length) : (w.alloc (.cells (zs.map (Value.int .i64)).toArray t)).cell? ⟨w.heap.size, j, none⟩ = some (.int .i64 zs[j]) := by
  rw [Joins.cell_of_block (heap_alloc_new w _)]
  simp [hj]

/-- One of a list of numbers that was just laid. -/
theorem pickLit_any (zs : List Int) (n pc : Nat) (a : Option Addr) (len cap : Nat) (w : World) (hc : Cur w pc a len cap) (hl : zs.length = n) (h0 : 0 < n) (h1 : n ≤ 1048576) :
    Calls Tryd.prog 54 #[.pointer (some ⟨pc, 0, none⟩), .slice (some ⟨w.heap.size, 0, none⟩) n n] (w.alloc (.cells (zs.map (Value.int .i64)).toArray 3)) fun e w' => ∃ x : Int, x ∈ zs ∧ e = .returned (.int .i64 x) ∧ Cur w' pc a len cap ∧ w.grownBy w' (some pc) := by
  have hbel : Below w.heap.size w (w.alloc (.cells (zs.map (Value.int .i64)).toArray 3)) := (Below.refl _ _).alloc (Nat.le_refl _) _
  have hpc := hc.lt
  refine (pickInt_any w.heap.size n n pc a len cap _ (hc.below hbel hpc hc.codeLt) h0 (Nat.le_refl _) h1 (by omega) (fun j hj => ⟨_, ints_cell' w zs 3 j (by rw [hl]; exact hj)⟩)).mono ?_
  rintro e w2 ⟨j, x, hj, hx, rfl, hc2, hg2⟩
  rw [ints_cell' w zs 3 j (by rw [hl]; exact hj)] at hx
  simp only [Option.some.injEq, Value.int.injEq, true_and] at hx
  exact ⟨x, by rw [← hx]; exact List.getElem_mem _, rfl, hc2, (grownBy_below (World.grownBy.refl w (some pc)) hbel (Nat.le_refl _)).trans hg2⟩

/-- A store into what is new changes nothing that was there. -/
theorem grownBy_new {w X : World} {r : Option Nat} (h : w.grownBy X r) {b : Nat} (hb : w.heap.size ≤ b) (i : Nat) (v : Value) : w.grownBy (X.setCell ⟨b, i, none⟩ v) r :=
  have g := stored_grown X b i v
  ⟨g.os.trans h.os, g.tape.trans h.tape, g.output.trans h.output, Nat.le_trans h.size g.size, fun k hk hne => (g.block k (Nat.lt_of_lt_of_le hk h.size) (fun e => by have := Option.some.inj e; omega)).trans (h.block k hk hne)⟩
theorem grownBy_new3 {w X : World} {r : Option Nat} (h : w.grownBy X r) {b : Nat} (hb : w.heap.size ≤ b) (v0 v1 v2 : Value) : w.grownBy (set3 X b v0 v1 v2) r :=
  grownBy_new (grownBy_new (grownBy_new h hb 0 v0) hb 1 v1) hb 2 v2
theorem Cur.new {w X : World} {pc : Nat} {a : Option Addr} {len cap : Nat} (h : Cur X pc a len cap) (hw : Cur w pc a len cap) {b : Nat} (hb : w.heap.size ≤ b) (i : Nat) (v : Value) : Cur (X.setCell ⟨b, i, none⟩ v) pc a len cap :=
  h.below ((Below.refl w.heap.size X).setCell (p := ⟨b, i, none⟩) hb v) hw.lt hw.codeLt
theorem Cur.new3 {w X : World} {pc : Nat} {a : Option Addr} {len cap : Nat} (h : Cur X pc a len cap) (hw : Cur w pc a len cap) {b : Nat} (hb : w.heap.size ≤ b) (v0 v1 v2 : Value) : Cur (set3 X b v0 v1 v2) pc a len cap :=
  ((h.new hw hb 0 v0).new hw hb 1 v1).new hw hb 2 v2
theorem Cur.alloc {w : World} {pc : Nat} {a : Option Addr} {len cap : Nat} (h : Cur w pc a len cap) (o : Obj) : Cur (w.alloc o) pc a len cap := h.below ((Below.refl _ _).alloc (Nat.le_refl _) o) h.lt h.codeLt
theorem Box.cur {w X : World} {b pc : Nat} {cs : Array Value} {t : TypeId} (h : Box w b cs t) (hg : w.grownBy X (some pc)) (hne : b ≠ pc) : Box X b cs t := (hg.block b h.lt (fun e => hne (Option.some.inj e))).trans h

set_option maxRecDepth 100000 in
theorem place_any (n : Int) (pc : Nat) (a : Option Addr) (len cap : Nat) (w : World) (hc : Cur w pc a len cap) (h0 : 0 ≤ n) (hn : n ≤ 1000000) :
    Calls Tryd.prog 46 #[.pointer (some ⟨pc, 0, none⟩), .int .i64 n] w fun e w' => ∃ x : Int, e = .returned (.int .i64 x) ∧ Cur w' pc a len cap ∧ w.grownBy w' (some pc) := by
  go_enter Tryd.func46, Tryd.ntmps46
  go_wp2_with fail
  refine (once_any 15 pc a len cap _ hc (by omega)).mono ?_
  rintro e w1 ⟨he, hc1, hg1⟩
  rcases he with rfl | rfl
  · go_wp2_with fail
    refine (pickLit_any [-1, n, n + 1, 9223372036854775807, -9223372036854775808] 5 pc a len cap _ hc1 rfl (by omega) (by omega)).mono ?_
    rintro e w2 ⟨y, _, rfl, hc2, hg2⟩
    go_wp2
    go_ret
    exact ⟨y, rfl, hc2, hg1.trans hg2⟩
  · go_wp2_with fail
    refine (below_any n pc a len cap _ hc1 (by omega)).mono ?_
    rintro e w2 ⟨y, _, _, rfl, hc2, hg2⟩
    go_wp2
    go_ret
    exact ⟨_, rfl, hc2, hg1.trans hg2⟩

theorem below_of_new2 {w w1 w2 : World} {pc : Nat} (hb : Below w.heap.size w w1) (hp : w.heap.size ≤ pc) (hg : w1.grownBy w2 (some pc)) : Below w.heap.size w w2 :=
  hb.grown hg hb.size (fun k hk => by have := Option.some.inj hk; omega)

/-- The cursor of a draw, and what was there before. -/
structure Drw (w : World) (pc : Nat) (a : Option Addr) (len cap : Nat) (X : World) : Prop where
  cur : Cur X pc a len cap
  bel : Below w.heap.size w X
  le : w.heap.size ≤ pc

theorem Drw.step {w : World} {pc : Nat} {a : Option Addr} {len cap : Nat} {X Y : World} (h : Drw w pc a len cap X) (hc : Cur Y pc a len cap) (hg : X.grownBy Y (some pc)) : Drw w pc a len cap Y := ⟨hc, below_of_new2 h.bel h.le hg, h.le⟩
theorem Drw.later {w : World} {pc : Nat} {a : Option Addr} {len cap : Nat} {X Y : World} (h : Drw w pc a len cap X) (hb : Below X.heap.size X Y) : Drw w pc a len cap Y := ⟨h.cur.below hb h.cur.lt h.cur.codeLt, h.bel.trans (hb.mono h.bel.size), h.le⟩

end Go.Proofs.YtmlhpjkijpbinabDoor

/- What is drawn for the chapter on frames: what spec.l04Frame, l04Any, l02Spoilt, l01Place and the draws of the chapter hand back. -/
namespace Go.Proofs.YtmlhpjkijpbinabDoor
open Go.RowKit

/-- A drawn frame. -/
def FrR (Pr : Fr → Prop) (pc : Nat) (a : Option Addr) (len cap : Nat) (w : World) (e : Ending) (w' : World) : Prop :=
  ∃ f : Fr, Pr f ∧ e = .returned f.v ∧ Cur w' pc a len cap ∧ w.grownBy w' (some pc)
def Fr.drawn (f : Fr) : Prop := f.ok ∧ f.body.size ≤ 20

set_option maxRecDepth 100000 in
set_option maxHeartbeats 1000000 in
theorem frame_any (pc : Nat) (a : Option Addr) (len cap : Nat) (w : World) (hc : Cur w pc a len cap) :
    Calls Tryd.prog 35 #[.pointer (some ⟨pc, 0, none⟩)] w fun e w' => FrR Fr.drawn pc a len cap w e w' := by
  have hx := Box.new w #[.int .i64 0, .int .i64 0, .string ⟨#[]⟩] 30
  have hg0 : w.grownBy (w.alloc (.cells #[.int .i64 0, .int .i64 0, .string ⟨#[]⟩] 30)) (some pc) := World.grownBy_alloc _ _ _
  have hc0 := hc.alloc (.cells #[.int .i64 0, .int .i64 0, .string ⟨#[]⟩] 30)
  have hne : w.heap.size ≠ pc := by have := hc.lt; omega
  go_enter Tryd.func35, Tryd.ntmps35
  go_wp2_with fail
  generalize w.alloc (.cells #[.int .i64 0, .int .i64 0, .string ⟨#[]⟩] 30) = W at *
  refine (below_any 3 pc a len cap _ hc0 (by omega)).mono ?_
  rintro e w1 ⟨x1, h1, _, rfl, hc1, hg1⟩
  have h1' := h1 (by omega)
  go_wp2_with fail
  refine (below_any 200 pc a len cap _ hc1 (by omega)).mono ?_
  rintro e w2 ⟨x2, h2, _, rfl, hc2, hg2⟩
  have h2' := h2 (by omega)
  go_wp2_with fail
  refine (below_any 20 pc a len cap _ hc2 (by omega)).mono ?_
  rintro e w3 ⟨x3, h3, _, rfl, hc3, hg3⟩
  have h3' := h3 (by omega)
  clear h1 h2 h3
  go_wp2_with fail
  refine (dtext_any _ pc a len cap _ hc3 (by omega)).mono ?_
  rintro e w4 ⟨s, s1, s2, rfl, hc4, hg4⟩
  have hg := (hg1.trans hg2).trans (hg3.trans hg4)
  have y := hx.cur hg hne
  obtain ⟨c0, c1, c2, f0, f1, f2⟩ := y.three
  have HS := Lib.hid s2
  clear s2 hx hg1 hg2 hg3 hg4 hc0 hc1 hc2 hc3
  go_wp2
  have z := y.set3 (.int .i64 (1 + (x1 : Int))) (.int .i64 (1 + (x2 : Int))) (.string s)
  obtain ⟨q0, q1, q2, _⟩ := z.three
  unfold set3 at q0 q1 q2
  refine bodyPost_ret (v := Fr.v ⟨1 + (x1 : Int), 1 + (x2 : Int), s⟩) (by simp [results, Tryd.results35, go_sem, q0, q1, q2, Fr.v]) rfl ?_
  refine ⟨_, ⟨⟨by simp only; omega, by simp only; omega, ?_⟩, ?_⟩, rfl, hc4.new3 hc (Nat.le_refl _) _ _ _, grownBy_new3 (hg0.trans hg) (Nat.le_refl _) _ _ _⟩
  · have := HS.out; simp only; omega
  · have := HS.out; simp only; omega

/-- What is known while a frame is drawn: the frame's box, the answer's box, and the cursor. -/
structure AnyI (pc : Nat) (a : Option Addr) (len cap : Nat) (w : World) (b : Nat) (f : Fr) (X : World) : Prop where
  cur : Cur X pc a len cap
  grown : w.grownBy X (some pc)
  res : Box X w.heap.size #[.int .i64 0, .int .i64 0, .string ⟨#[]⟩] 30
  fr : Box X b #[.int .i64 f.gen, .int .i64 f.seq, .string f.body] 30
  lt : w.heap.size < b
  ne : b ≠ pc ∧ pc < w.heap.size

theorem AnyI.next {pc : Nat} {a : Option Addr} {len cap : Nat} {w : World} {b : Nat} {f : Fr} {X Y : World} (h : AnyI pc a len cap w b f X) (hg : X.grownBy Y (some pc)) (hc : Cur Y pc a len cap) : AnyI pc a len cap w b f Y :=
  ⟨hc, h.grown.trans hg, h.res.cur hg (by have := h.ne.2; omega), h.fr.cur hg h.ne.1, h.lt, h.ne⟩

set_option maxRecDepth 100000 in
set_option maxHeartbeats 1000000 in
theorem any_any (pc : Nat) (a : Option Addr) (len cap : Nat) (w : World) (hc : Cur w pc a len cap) :
    Calls Tryd.prog 41 #[.pointer (some ⟨pc, 0, none⟩)] w fun e w' => FrR (fun f => f.body.size ≤ 5000) pc a len cap w e w' := by
  have hx := Box.new w #[.int .i64 0, .int .i64 0, .string ⟨#[]⟩] 30
  have hg0 : w.grownBy (w.alloc (.cells #[.int .i64 0, .int .i64 0, .string ⟨#[]⟩] 30)) (some pc) := World.grownBy_alloc _ _ _
  have hc0 := hc.alloc (.cells #[.int .i64 0, .int .i64 0, .string ⟨#[]⟩] 30)
  have hpc := hc.lt
  have hz0 : w.heap.size < (w.alloc (.cells #[.int .i64 0, .int .i64 0, .string ⟨#[]⟩] 30)).heap.size := by simp
  go_enter Tryd.func41, Tryd.ntmps41
  go_wp2_with fail
  generalize w.alloc (.cells #[.int .i64 0, .int .i64 0, .string ⟨#[]⟩] 30) = W at *
  refine (frame_any pc a len cap _ hc0).mono ?_
  rintro e w1 ⟨f, ⟨hok, hb20⟩, rfl, hc1, hg1⟩
  have hz1 := hg1.size
  have I2 : AnyI pc a len cap w w1.heap.size f (w1.alloc (.cells #[.int .i64 f.gen, .int .i64 f.seq, .string f.body] 30)) :=
    ⟨hc1.alloc _, (hg0.trans hg1).trans (World.grownBy_alloc _ _ _), (hx.cur hg1 (by omega)).later ((Below.refl _ _).alloc (Nat.le_refl _) _), Box.new w1 _ _, by omega, by omega, hpc⟩
  unfold Fr.v
  go_upto_region 2 with fail
  generalize w1.alloc (.cells #[.int .i64 f.gen, .int .i64 f.seq, .string f.body] 30) = w2 at I2 ⊢
  clear hx hg0 hc0 hg1 hc1
  go_wp2_with fail
  refine (below_any 10 pc a len cap _ I2.cur (by omega)).mono ?_
  rintro e w3 ⟨x, _, _, rfl, hc3, hg3⟩
  have I3 := I2.next hg3 hc3
  clear I2 hg3 hc3
  have HC := Lib.hid hc
  clear hc
  rcases (show x = 0 ∨ x = 1 ∨ x = 2 ∨ (x ≠ 0 ∧ x ≠ 1 ∧ x ≠ 2) by omega) with rfl | rfl | rfl | ⟨n0, n1, n2⟩
  · go_wp2_with fail
    refine (pickLit_any [0, 1000000000, 1000000001] 3 pc a len cap _ I3.cur rfl (by omega) (by omega)).mono ?_
    rintro e w4 ⟨y, _, rfl, hc4, hg4⟩
    have I4 := I3.next hg4 hc4
    have y4 := I4.fr.set 0 (.int .i64 y)
    have r4 := I4.res.other (g := w1.heap.size) (by have := I4.lt; omega) 0 (.int .i64 y)
    have z4 := r4.set3 (.int .i64 y) (.int .i64 f.seq) (.string f.body)
    obtain ⟨c0, c1, c2, f0, f1, f2⟩ := I4.fr.three
    obtain ⟨d0, d1, d2, g0, g1, g2⟩ := I4.res.three
    obtain ⟨q0, q1, q2, _⟩ := z4.three
    unfold set3 at q0 q1 q2
    have hlt := I4.lt
    have hneb : w.heap.size ≠ w1.heap.size := by omega
    have hneb' : w1.heap.size ≠ w.heap.size := by omega
    have HF : Hid (Cur (set3 (w4.setCell ⟨w1.heap.size, 0, none⟩ (.int .i64 y)) w.heap.size (.int .i64 y) (.int .i64 f.seq) (.string f.body)) pc a len cap ∧ w.grownBy (set3 (w4.setCell ⟨w1.heap.size, 0, none⟩ (.int .i64 y)) w.heap.size (.int .i64 y) (.int .i64 f.seq) (.string f.body)) (some pc)) :=
      ⟨(I4.cur.new HC.out (by omega) 0 _).new3 HC.out (Nat.le_refl _) _ _ _, grownBy_new3 (grownBy_new I4.grown (by omega) 0 _) (Nat.le_refl _) _ _ _⟩
    clear I3 I4 hg4 hc4 y4 r4 z4
    go_wp2
    refine bodyPost_ret (v := Fr.v ⟨y, f.seq, f.body⟩) (by simp [results, Tryd.results41, go_sem, q0, q1, q2, Fr.v]) rfl ?_
    exact ⟨_, by simp only; omega, rfl, HF.out.1, HF.out.2⟩
  · go_wp2_with fail
    refine (pickLit_any [0, 1000000000, -1] 3 pc a len cap _ I3.cur rfl (by omega) (by omega)).mono ?_
    rintro e w4 ⟨y, _, rfl, hc4, hg4⟩
    have I4 := I3.next hg4 hc4
    have y4 := I4.fr.set 1 (.int .i64 y)
    have r4 := I4.res.other (g := w1.heap.size) (by have := I4.lt; omega) 1 (.int .i64 y)
    have z4 := r4.set3 (.int .i64 f.gen) (.int .i64 y) (.string f.body)
    obtain ⟨c0, c1, c2, f0, f1, f2⟩ := I4.fr.three
    obtain ⟨d0, d1, d2, g0, g1, g2⟩ := I4.res.three
    obtain ⟨q0, q1, q2, _⟩ := z4.three
    unfold set3 at q0 q1 q2
    have hlt := I4.lt
    have hneb : w.heap.size ≠ w1.heap.size := by omega
    have hneb' : w1.heap.size ≠ w.heap.size := by omega
    have HF : Hid (Cur (set3 (w4.setCell ⟨w1.heap.size, 1, none⟩ (.int .i64 y)) w.heap.size (.int .i64 f.gen) (.int .i64 y) (.string f.body)) pc a len cap ∧ w.grownBy (set3 (w4.setCell ⟨w1.heap.size, 1, none⟩ (.int .i64 y)) w.heap.size (.int .i64 f.gen) (.int .i64 y) (.string f.body)) (some pc)) :=
      ⟨(I4.cur.new HC.out (by omega) 1 _).new3 HC.out (Nat.le_refl _) _ _ _, grownBy_new3 (grownBy_new I4.grown (by omega) 1 _) (Nat.le_refl _) _ _ _⟩
    clear I3 I4 hg4 hc4 y4 r4 z4
    go_wp2
    refine bodyPost_ret (v := Fr.v ⟨f.gen, y, f.body⟩) (by simp [results, Tryd.results41, go_sem, q0, q1, q2, Fr.v]) rfl ?_
    exact ⟨_, by simp only; omega, rfl, HF.out.1, HF.out.2⟩
  · go_wp2_with fail
    refine (pickLit_any [0, 180, 181] 3 pc a len cap _ I3.cur rfl (by omega) (by omega)).mono ?_
    rintro e w3' ⟨y0, hy, rfl, hc3', hg3'⟩
    have I3' := I3.next hg3' hc3'
    obtain ⟨m, hm, hml⟩ : ∃ m : Nat, y0 = (m : Int) ∧ m ≤ 181 := by
      simp only [List.mem_cons, List.not_mem_nil, or_false] at hy
      rcases hy with rfl | rfl | rfl
      · exact ⟨0, rfl, by omega⟩
      · exact ⟨180, rfl, by omega⟩
      · exact ⟨181, rfl, by omega⟩
    subst hm
    clear hy
    go_wp2_with fail
    refine (long_any m 97 _ (by omega)).mono ?_
    rintro e w4 ⟨rfl, k4⟩
    obtain ⟨y, hy⟩ : ∃ y : ByteArray, (⟨(List.replicate m (97 : UInt8)).toArray⟩ : ByteArray) = y := ⟨_, rfl⟩
    have hysz : y.size ≤ 181 := by rw [← hy]; simp [ByteArray.size]; omega
    rw [hy]
    clear hy
    have I4 := I3'.next (grownBy_below (World.grownBy.refl _ _) k4 (Nat.le_refl _)) (I3'.cur.below k4 I3'.cur.lt I3'.cur.codeLt)
    have y4 := I4.fr.set 2 (.string y)
    have r4 := I4.res.other (g := w1.heap.size) (by have := I4.lt; omega) 2 (.string y)
    have z4 := r4.set3 (.int .i64 f.gen) (.int .i64 f.seq) (.string y)
    obtain ⟨c0, c1, c2, f0, f1, f2⟩ := I4.fr.three
    obtain ⟨d0, d1, d2, g0, g1, g2⟩ := I4.res.three
    obtain ⟨q0, q1, q2, _⟩ := z4.three
    unfold set3 at q0 q1 q2
    have hlt := I4.lt
    have hneb : w.heap.size ≠ w1.heap.size := by omega
    have hneb' : w1.heap.size ≠ w.heap.size := by omega
    have HF : Hid (Cur (set3 (w4.setCell ⟨w1.heap.size, 2, none⟩ (.string y)) w.heap.size (.int .i64 f.gen) (.int .i64 f.seq) (.string y)) pc a len cap ∧ w.grownBy (set3 (w4.setCell ⟨w1.heap.size, 2, none⟩ (.string y)) w.heap.size (.int .i64 f.gen) (.int .i64 f.seq) (.string y)) (some pc)) :=
      ⟨(I4.cur.new HC.out (by omega) 2 _).new3 HC.out (Nat.le_refl _) _ _ _, grownBy_new3 (grownBy_new I4.grown (by omega) 2 _) (Nat.le_refl _) _ _ _⟩
    clear I3 I3' I4 hg3' hc3' k4 y4 r4 z4
    go_wp2
    refine bodyPost_ret (v := Fr.v ⟨f.gen, f.seq, y⟩) (by simp [results, Tryd.results41, go_sem, q0, q1, q2, Fr.v]) rfl ?_
    exact ⟨_, by simp only; omega, rfl, HF.out.1, HF.out.2⟩
  · have hb0 : ((x : Int) == 0) = false := beq_eq_false_iff_ne.2 (by omega)
    have hb1 : ((x : Int) == 1) = false := beq_eq_false_iff_ne.2 (by omega)
    have hb2 : ((x : Int) == 2) = false := beq_eq_false_iff_ne.2 (by omega)
    have z4 := I3.res.set3 (.int .i64 f.gen) (.int .i64 f.seq) (.string f.body)
    obtain ⟨c0, c1, c2, f0, f1, f2⟩ := I3.fr.three
    obtain ⟨d0, d1, d2, g0, g1, g2⟩ := I3.res.three
    obtain ⟨q0, q1, q2, _⟩ := z4.three
    unfold set3 at q0 q1 q2
    have hlt := I3.lt
    have HF : Hid (Cur (set3 w3 w.heap.size (.int .i64 f.gen) (.int .i64 f.seq) (.string f.body)) pc a len cap ∧ w.grownBy (set3 w3 w.heap.size (.int .i64 f.gen) (.int .i64 f.seq) (.string f.body)) (some pc)) :=
      ⟨I3.cur.new3 HC.out (Nat.le_refl _) _ _ _, grownBy_new3 I3.grown (Nat.le_refl _) _ _ _⟩
    clear I3 z4 n0 n1 n2
    go_wp2
    refine bodyPost_ret (v := Fr.v ⟨f.gen, f.seq, f.body⟩) (by simp [results, Tryd.results41, go_sem, q0, q1, q2, Fr.v]) rfl ?_
    exact ⟨_, by simp only; omega, rfl, HF.out.1, HF.out.2⟩

set_option maxRecDepth 100000 in
theorem drawFrameText_any (a : Option Addr) (len cap : Nat) (w : World) (hcode : CodeIn w a len) (hs : len ≤ 1048576) :
    Calls Tryd.prog 13 #[.slice a len cap] w fun e w' => ∃ f : Fr, f.body.size ≤ 5000 ∧ e = .returned f.v ∧ Below w.heap.size w w' := by
  have hx := Box.new w #[.int .i64 0, .int .i64 0, .string ⟨#[]⟩] 30
  have b0 : Below w.heap.size w (w.alloc (.cells #[.int .i64 0, .int .i64 0, .string ⟨#[]⟩] 30)) := (Below.refl _ _).alloc (Nat.le_refl _) _
  have hc0 := hcode.later b0
  have hz0 : w.heap.size < (w.alloc (.cells #[.int .i64 0, .int .i64 0, .string ⟨#[]⟩] 30)).heap.size := by simp
  go_enter Tryd.func13, Tryd.ntmps13
  go_wp2_with fail
  generalize w.alloc (.cells #[.int .i64 0, .int .i64 0, .string ⟨#[]⟩] 30) = W at *
  refine (new_any a len cap _ hc0 hs).mono ?_
  rintro e w1 ⟨pc, hp, rfl, hc1, hb1⟩
  go_wp2_with fail
  refine (any_any pc a len cap _ hc1).mono ?_
  rintro e w2 ⟨f, hf, rfl, hc2, hg2⟩
  have x2 := (hx.later hb1).cur hg2 (by omega)
  have b2 : Below w.heap.size w w2 := (b0.trans (hb1.mono b0.size)).grown hg2 (Nat.le_trans b0.size hb1.size) (fun k hk => by have := Option.some.inj hk; omega)
  obtain ⟨d0, d1, d2, g0, g1, g2⟩ := x2.three
  have z2 := x2.set3 (.int .i64 f.gen) (.int .i64 f.seq) (.string f.body)
  obtain ⟨q0, q1, q2, _⟩ := z2.three
  unfold set3 at q0 q1 q2
  unfold Fr.v
  go_wp2
  refine bodyPost_ret (v := f.v) (by simp [results, Tryd.results13, go_sem, q0, q1, q2, Fr.v]) rfl ?_
  exact ⟨f, hf, rfl, below_set3 b2 (Nat.le_refl _) _ _ _⟩

end Go.Proofs.YtmlhpjkijpbinabDoor

/- What is drawn for the chapter on frames: texts of frames, spoilt or not, and lists of frames. -/
namespace Go.Proofs.YtmlhpjkijpbinabDoor
open Go.RowKit

/-- A drawn text made of another. -/
def SpR (s : ByteArray) (pc : Nat) (a : Option Addr) (len cap : Nat) (w : World) (e : Ending) (w' : World) : Prop :=
  ∃ t : ByteArray, t.size ≤ s.size + 1 ∧ e = .returned (.string t) ∧ Cur w' pc a len cap ∧ w.grownBy w' (some pc)

set_option maxRecDepth 100000 in
set_option maxHeartbeats 1000000 in
theorem spoilt_any (s : ByteArray) (pc : Nat) (a : Option Addr) (len cap : Nat) (w : World) (hc : Cur w pc a len cap) (hs : s.size ≤ 1000000) :
    Calls Tryd.prog 45 #[.pointer (some ⟨pc, 0, none⟩), .string s] w fun e w' => SpR s pc a len cap w e w' := by
  go_enter Tryd.func45, Tryd.ntmps45
  go_wp2_with fail
  refine (below_any 12 pc a len cap _ hc (by omega)).mono ?_
  rintro e w1 ⟨x, _, _, rfl, hc1, hg1⟩
  rcases (show x = 0 ∨ x = 1 ∨ (x = 2 ∨ x = 3) ∨ (x ≠ 0 ∧ x ≠ 1 ∧ x ≠ 2 ∧ x ≠ 3) by omega) with rfl | rfl | h23 | ⟨n0, n1, n2, n3⟩
  · go_wp2_with fail
    refine (dtext_any 1 pc a len cap _ hc1 (by omega)).mono ?_
    rintro e w2 ⟨t, t1, t2, rfl, hc2, hg2⟩
    have hadd := fun wx => run_string_add_sum (P := Tryd.prog) (w := wx) s t (by omega)
    go_wp2
    go_ret
    exact ⟨s ++ t, by rw [ByteArray.size_append]; omega, rfl, hc2, hg1.trans hg2⟩
  · go_wp2_with fail
    refine (below_any _ pc a len cap _ hc1 (by omega)).mono ?_
    rintro e w2 ⟨y, hy, _, rfl, hc2, hg2⟩
    have hy2 := hy (by omega)
    have hy3 : (y : Int) ≤ (s.size : Int) := by omega
    clear hy
    go_wp2
    go_ret
    exact ⟨s.extract 0 y, by rw [ByteArray.size_extract]; omega, rfl, hc2, hg1.trans hg2⟩
  · by_cases h0 : 0 < s.size
    · have hb0 : ((x : Int) == 0) = false := beq_eq_false_iff_ne.2 (by omega)
      have hb1 : ((x : Int) == 1) = false := beq_eq_false_iff_ne.2 (by omega)
      have hsz : (0 : Int) < (s.size : Int) := by omega
      obtain ⟨b2, hb2⟩ : ∃ b : Bool, ((x : Int) == 2) = b := ⟨_, rfl⟩
      have hb3 : b2 = false → ((x : Int) == 3) = true := by
        intro h
        rw [h] at hb2
        have := beq_eq_false_iff_ne.1 hb2
        rcases h23 with rfl | rfl
        · exact absurd rfl this
        · rfl
      cases b2 with
      | true =>
        clear hb3 h23
        go_wp2_with fail
        refine (below_any _ pc a len cap _ hc1 (by omega)).mono ?_
        rintro e w2 ⟨y, hy, _, rfl, hc2, hg2⟩
        have hy2 := hy (by omega)
        have hcd : Cur w2.drew pc a len cap := hc2.below ((Below.refl _ _).drew) hc2.lt hc2.codeLt
        have hgd : w2.grownBy w2.drew (some pc) := ⟨rfl, rfl, rfl, Nat.le_refl _, fun _ _ _ => rfl⟩
        have hw1 : IntKind.i64.wrap ((y : Int) + 1) = (y : Int) + 1 := IntWalk.i64_in _ ⟨by omega, by omega⟩
        have sl1 : ∀ wx, (Instr.slice 9 (.string s) none (some (.int .i64 (y : Int))) none).run Tryd.prog wx = .ok (.string (s.extract 0 y)) wx := fun wx => by
          have := run_slice_string_to_if (P := Tryd.prog) (w := wx) 9 s .i64 (y : Int) Tryd.underlying9
          rw [this]; simp; omega
        have sl2 : ∀ wx, (Instr.slice 9 (.string s) (some (.int .i64 ((y : Int) + 1))) none none).run Tryd.prog wx = .ok (.string (s.extract (y + 1) s.size)) wx := fun wx => by
          have := run_slice_string_from_if (P := Tryd.prog) (w := wx) 9 s .i64 ((y : Int) + 1) Tryd.underlying9
          rw [this]; simp; omega
        have z1 : (s.extract 0 y).size = y := by rw [ByteArray.size_extract]; omega
        have z2 : (s.extract (y + 1) s.size).size = s.size - (y + 1) := by rw [ByteArray.size_extract]; omega
        generalize s.extract 0 y = A1 at sl1 z1
        generalize s.extract (y + 1) s.size = A2 at sl2 z2
        have ad1 := fun (t : ByteArray) (ht : t.size ≤ 5000) (wx : World) => run_string_add_sum (P := Tryd.prog) (w := wx) A1 t (by omega)
        have ad2 := fun (t : ByteArray) (ht : t.size ≤ 5000) (wx : World) => run_string_add_sum (P := Tryd.prog) (w := wx) (A1 ++ t) A2 (by rw [ByteArray.size_append]; omega)
        clear hy
        go_wp2_with fail
        go_region_held3 (fun _ => True) (trivial) (first | (go_at_call 62; refine (dtext_any 1 pc a len cap _ hcd (by omega)).mono ?_; rintro e w3 ⟨t, t1, t2, rfl, hc3, hg3⟩))
        all_goals
          go_wp2
          go_ret
          exact ⟨_, by simp only [ByteArray.size_append]; omega, rfl, hc3, (hg1.trans hg2).trans (hgd.trans hg3)⟩
      | false =>
        have hb3' := hb3 rfl
        clear hb3 h23
        go_wp2_with fail
        refine (below_any _ pc a len cap _ hc1 (by omega)).mono ?_
        rintro e w2 ⟨y, hy, _, rfl, hc2, hg2⟩
        have hy2 := hy (by omega)
        have hcd : Cur w2.drew pc a len cap := hc2.below ((Below.refl _ _).drew) hc2.lt hc2.codeLt
        have hgd : w2.grownBy w2.drew (some pc) := ⟨rfl, rfl, rfl, Nat.le_refl _, fun _ _ _ => rfl⟩
        have hw1 : IntKind.i64.wrap ((y : Int) + 1) = (y : Int) + 1 := IntWalk.i64_in _ ⟨by omega, by omega⟩
        have sl1 : ∀ wx, (Instr.slice 9 (.string s) none (some (.int .i64 (y : Int))) none).run Tryd.prog wx = .ok (.string (s.extract 0 y)) wx := fun wx => by
          have := run_slice_string_to_if (P := Tryd.prog) (w := wx) 9 s .i64 (y : Int) Tryd.underlying9
          rw [this]; simp; omega
        have sl2 : ∀ wx, (Instr.slice 9 (.string s) (some (.int .i64 ((y : Int) + 1))) none none).run Tryd.prog wx = .ok (.string (s.extract (y + 1) s.size)) wx := fun wx => by
          have := run_slice_string_from_if (P := Tryd.prog) (w := wx) 9 s .i64 ((y : Int) + 1) Tryd.underlying9
          rw [this]; simp; omega
        have z1 : (s.extract 0 y).size = y := by rw [ByteArray.size_extract]; omega
        have z2 : (s.extract (y + 1) s.size).size = s.size - (y + 1) := by rw [ByteArray.size_extract]; omega
        generalize s.extract 0 y = A1 at sl1 z1
        generalize s.extract (y + 1) s.size = A2 at sl2 z2
        have ad1 := fun (t : ByteArray) (ht : t.size ≤ 5000) (wx : World) => run_string_add_sum (P := Tryd.prog) (w := wx) A1 t (by omega)
        have ad2 := fun (t : ByteArray) (ht : t.size ≤ 5000) (wx : World) => run_string_add_sum (P := Tryd.prog) (w := wx) (A1 ++ t) A2 (by rw [ByteArray.size_append]; omega)
        clear hy
        go_wp2_with fail
        go_region_held3 (fun _ => True) (trivial) (first | (go_at_call 62; refine (dtext_any 1 pc a len cap _ hcd (by omega)).mono ?_; rintro e w3 ⟨t, t1, t2, rfl, hc3, hg3⟩))
        all_goals
          go_wp2
          go_ret
          exact ⟨_, by simp only [ByteArray.size_append]; omega, rfl, hc3, (hg1.trans hg2).trans (hgd.trans hg3)⟩
    · have hb0 : ((x : Int) == 0) = false := beq_eq_false_iff_ne.2 (by omega)
      have hb1 : ((x : Int) == 1) = false := beq_eq_false_iff_ne.2 (by omega)
      have hsz : ¬ (0 : Int) < (s.size : Int) := by omega
      rcases h23 with rfl | rfl
      · go_wp2
        go_ret
        exact ⟨s, by omega, rfl, hc1, hg1⟩
      · go_wp2
        go_ret
        exact ⟨s, by omega, rfl, hc1, hg1⟩
  · have hb0 : ((x : Int) == 0) = false := beq_eq_false_iff_ne.2 (by omega)
    have hb1 : ((x : Int) == 1) = false := beq_eq_false_iff_ne.2 (by omega)
    have hb2 : ((x : Int) == 2) = false := beq_eq_false_iff_ne.2 (by omega)
    have hb3 : ((x : Int) == 3) = false := beq_eq_false_iff_ne.2 (by omega)
    clear n0 n1 n2 n3
    go_wp2
    go_ret
    exact ⟨s, by omega, rfl, hc1, hg1⟩

end Go.Proofs.YtmlhpjkijpbinabDoor

/- What is drawn for the chapter on frames: the draws themselves, and laws.sameFrames. -/
namespace Go.Proofs.YtmlhpjkijpbinabDoor
open Go.RowKit

set_option maxRecDepth 100000 in
set_option maxHeartbeats 1000000 in
theorem drawReadFrame_any (a : Option Addr) (len cap : Nat) (w : World) (hcode : CodeIn w a len) (hs : len ≤ 1048576) :
    Calls Tryd.prog 15 #[.slice a len cap] w fun e w' => ∃ (s : ByteArray) (x : Int), s.size ≤ 1000 ∧ e = .returned (.tuple #[.string s, .int .i64 x]) ∧ Below w.heap.size w w' := by
  go_enter Tryd.func15, Tryd.ntmps15
  go_wp2_with fail
  refine (new_any a len cap _ hcode hs).mono ?_
  rintro e w1 ⟨pc, hp, rfl, hc1, hb1⟩
  have D1 : Drw w pc a len cap w1 := ⟨hc1, hb1, hp⟩
  clear hc1 hb1
  go_wp2_with fail
  refine (below_any 6 pc a len cap _ D1.cur (by omega)).mono ?_
  rintro e w2 ⟨x, _, _, rfl, hc2, hg2⟩
  have D2 := D1.step hc2 hg2
  clear hc2 hg2 D1
  go_wp2_with fail
  refine (any_any pc a len cap _ D2.cur).mono ?_
  rintro e w3 ⟨f, hf, rfl, hc3, hg3⟩
  have D3 := D2.step hc3 hg3
  clear hc3 hg3 D2
  go_wp2_with fail
  refine (specFrameText_any f _ (by omega)).mono ?_
  rintro e w4 ⟨rfl, k4⟩
  obtain ⟨s, b, hft, hsz⟩ := ftT_form f
  rw [hft]
  have D4 := D3.later k4
  clear k4 D3 hft
  go_wp2_with fail
  refine (any_any pc a len cap _ D4.cur).mono ?_
  rintro e w5 ⟨f', hf', rfl, hc5, hg5⟩
  have D5 := D4.step hc5 hg5
  clear hc5 hg5 D4
  go_wp2_with fail
  refine (specFrameText_any f' _ (by omega)).mono ?_
  rintro e w6 ⟨rfl, k6⟩
  obtain ⟨t, b', hft', htz⟩ := ftT_form f'
  rw [hft']
  have D6 := D5.later k6
  clear k6 D5 hft'
  have hadd := fun wx => run_string_add_sum (P := Tryd.prog) (w := wx) s t (by omega)
  have hsum : (s ++ t).size ≤ 1000 := by rw [ByteArray.size_append]; omega
  rcases (show x = 0 ∨ x = 1 ∨ x = 2 ∨ (x ≠ 0 ∧ x ≠ 1 ∧ x ≠ 2) by omega) with rfl | rfl | rfl | ⟨n0, n1, n2⟩
  · go_wp2_with fail
    refine (spoilt_any s pc a len cap _ D6.cur (by omega)).mono ?_
    rintro e w7 ⟨u, hu, rfl, hc7, hg7⟩
    have D7 := D6.step hc7 hg7
    go_wp2
    go_ret2
    exact ⟨u, 0, by omega, rfl, D7.bel⟩
  · go_wp2
    go_ret2
    exact ⟨s ++ t, s.size, hsum, rfl, D6.bel⟩
  · go_wp2_with fail
    refine (place_any 30 pc a len cap _ D6.cur (by omega) (by omega)).mono ?_
    rintro e w7 ⟨y, rfl, hc7, hg7⟩
    have D7 := D6.step hc7 hg7
    go_wp2
    go_ret2
    exact ⟨s ++ t, y, hsum, rfl, D7.bel⟩
  · have hb0 : ((x : Int) == 0) = false := beq_eq_false_iff_ne.2 (by omega)
    have hb1 : ((x : Int) == 1) = false := beq_eq_false_iff_ne.2 (by omega)
    have hb2 : ((x : Int) == 2) = false := beq_eq_false_iff_ne.2 (by omega)
    clear n0 n1 n2
    go_wp2
    go_ret2
    exact ⟨s ++ t, 0, hsum, rfl, D6.bel⟩

set_option maxRecDepth 100000 in
set_option maxHeartbeats 2000000 in
theorem drawScanFrames_any (a : Option Addr) (len cap : Nat) (w : World) (hcode : CodeIn w a len) (hs : len ≤ 1048576) :
    Calls Tryd.prog 17 #[.slice a len cap] w fun e w' => ∃ (s : ByteArray), s.size ≤ 2000 ∧ e = .returned (.tuple #[.string s, .int .i64 2]) ∧ Below w.heap.size w w' := by
  go_enter Tryd.func17, Tryd.ntmps17
  go_wp2_with fail
  refine (new_any a len cap _ hcode hs).mono ?_
  rintro e w1 ⟨pc, hp, rfl, hc1, hb1⟩
  have D1 : Drw w pc a len cap w1 := ⟨hc1, hb1, hp⟩
  clear hc1 hb1
  go_wp2_with fail
  refine (below_any 4 pc a len cap _ D1.cur (by omega)).mono ?_
  rintro e w2 ⟨x, _, _, rfl, hc2, hg2⟩
  have D2 := D1.step hc2 hg2
  clear hc2 hg2 D1
  go_wp2
  go_loopw [6, 7] (fun sv iv wr => ∃ (s : ByteArray) (i : Nat), i ≤ 5 ∧ sv = .string s ∧ iv = .int .i64 (i : Int) ∧ s.size ≤ 196 * i ∧ Drw w pc a len cap wr) (fun _ iv _ => (5 - intOf iv).toNat)
  case atStart => exact ⟨⟨#[]⟩, 0, by omega, rfl, rfl, by decide, D2⟩
  case round =>
    obtain ⟨s, i, hi, rfl, rfl, hsz, D⟩ := hrel
    go_wp2_with fail
    refine (below_any 5 pc a len cap _ D.cur (by omega)).mono ?_
    rintro e w3 ⟨y, hy, _, rfl, hc3, hg3⟩
    have hy2 := hy (by omega)
    have D3 := D.step hc3 hg3
    clear hy hc3 hg3 D D2
    by_cases hlt : (i : Int) < (y : Int)
    · go_wp2_with fail
      refine (frame_any pc a len cap _ D3.cur).mono ?_
      rintro e w4 ⟨f, ⟨hok, hb20⟩, rfl, hc4, hg4⟩
      have D4 := D3.step hc4 hg4
      have b5 : Below w4.heap.size w4 (w4.alloc (.cells #[.int .i64 f.gen, .int .i64 f.seq, .string f.body] 30)) := (Below.refl _ _).alloc (Nat.le_refl _) _
      have D5 := D4.later b5
      have y5 := Box.new w4 #[.int .i64 f.gen, .int .i64 f.seq, .string f.body] 30
      have hne : w4.heap.size ≠ pc := by have := D4.cur.lt; omega
      have hz5 : w.heap.size ≤ w4.heap.size := D4.bel.size
      clear hc4 hg4 D3 b5
      have hv : f.v = .agg #[.int .i64 f.gen, .int .i64 f.seq, .string f.body] := rfl
      rw [hv]
      go_upto_region 8 with fail
      generalize w4.alloc (.cells #[.int .i64 f.gen, .int .i64 f.seq, .string f.body] 30) = w5 at D5 y5 ⊢
      go_wp2_with fail
      refine (once_any 6 pc a len cap _ D5.cur (by omega)).mono ?_
      rintro e w6 ⟨he, hc6, hg6⟩
      have D6 := D5.step hc6 hg6
      have y6 := y5.cur hg6 hne
      clear hc6 hg6 D5 y5
      rcases he with rfl | rfl
      · obtain ⟨c0, c1, c2, _, _, _⟩ := y6.three
        go_wp2_with fail
        rw [← hv]
        refine (specFrameText_any f _ (by omega)).mono ?_
        rintro e w7 ⟨rfl, k7⟩
        obtain ⟨t, b, hft, htz⟩ := ftT_form f
        rw [hft]
        have D7 := D6.later k7
        have hadd := fun wx => run_string_add_sum (P := Tryd.prog) (w := wx) s t (by omega)
        clear hft k7 c0 c1 c2
        go_wp2
        go_roundw
        case rel => exact ⟨s ++ t, i + 1, by omega, rfl, by go_num, by rw [ByteArray.size_append]; omega, D7⟩
        case measure => simp [intOf]; omega
      · obtain ⟨f2, hf2⟩ : ∃ f2 : Fr, (⟨2, f.seq, f.body⟩ : Fr) = f2 := ⟨_, rfl⟩
        have y7 := y6.set 0 (.int .i64 2)
        have hv2 : f2.v = .agg #[.int .i64 2, .int .i64 f.seq, .string f.body] := by rw [← hf2]; rfl
        have hs2 : f2.body.size ≤ 20 := by rw [← hf2]; exact hb20
        have D7 : Drw w pc a len cap (w6.setCell ⟨w4.heap.size, 0, none⟩ (.int .i64 2)) :=
          ⟨D6.cur.new D4.cur (Nat.le_refl _) 0 _, D6.bel.setCell (p := ⟨w4.heap.size, 0, none⟩) hz5 _, D6.le⟩
        obtain ⟨c0, c1, c2, f0, f1, g2⟩ := y6.three
        go_upto_region 10 with fail
        generalize w6.setCell ⟨w4.heap.size, 0, none⟩ (.int .i64 2) = w7 at y7 D7 ⊢
        clear c0 c1 c2 f0 f1 g2 hf2
        have y7' : Box w7 w4.heap.size #[.int .i64 2, .int .i64 f.seq, .string f.body] 30 := y7
        obtain ⟨c0, c1, c2, _, _, _⟩ := y7'.three
        clear y7 y7'
        go_wp2_with fail
        rw [← hv2]
        refine (specFrameText_any f2 _ (by omega)).mono ?_
        rintro e w8 ⟨rfl, k8⟩
        obtain ⟨t, b, hft, htz⟩ := ftT_form f2
        rw [hft]
        have D8 := D7.later k8
        have hadd := fun wx => run_string_add_sum (P := Tryd.prog) (w := wx) s t (by omega)
        clear hft k8 c0 c1 c2
        go_wp2
        go_roundw
        case rel => exact ⟨s ++ t, i + 1, by omega, rfl, by go_num, by rw [ByteArray.size_append]; omega, D8⟩
        case measure => simp [intOf]; omega
    · by_cases hx : x = 0 ∧ 0 < s.size
      · obtain ⟨rfl, h0⟩ := hx
        have hsz0 : (0 : Int) < (s.size : Int) := by omega
        go_wp2_with fail
        refine (below_any _ pc a len cap _ D3.cur (by omega)).mono ?_
        rintro e w4 ⟨z, hz, _, rfl, hc4, hg4⟩
        have hz2 := hz (by omega)
        have hz3 : (z : Int) ≤ (s.size : Int) := by omega
        have D4 := D3.step hc4 hg4
        have hzz : (s.extract 0 z).size = z := by rw [ByteArray.size_extract]; omega
        have hadd := fun wx => run_string_add_sum (P := Tryd.prog) (w := wx) (s.extract 0 z) ⟨#[0, 0]⟩ (by rw [hzz]; show z + 2 ≤ _; omega)
        clear hz
        go_wp2
        go_ret2
        exact ⟨_, by rw [ByteArray.size_append, hzz]; show z + 2 ≤ _; omega, rfl, D4.bel⟩
      · have hadd := fun wx => run_string_add_sum (P := Tryd.prog) (w := wx) s ⟨#[0, 0]⟩ (by show s.size + 2 ≤ _; omega)
        by_cases h0 : x = 0
        · subst h0
          have hsz0 : ¬ (0 : Int) < (s.size : Int) := by omega
          clear hx
          go_wp2
          go_ret2
          exact ⟨_, by rw [ByteArray.size_append]; show s.size + 2 ≤ _; omega, rfl, D3.bel⟩
        · have hb0 : ((x : Int) == 0) = false := beq_eq_false_iff_ne.2 (by omega)
          clear hx h0
          go_wp2
          go_ret2
          exact ⟨_, by rw [ByteArray.size_append]; show s.size + 2 ≤ _; omega, rfl, D3.bel⟩

end Go.Proofs.YtmlhpjkijpbinabDoor

/- Frames compared: alike is alike; and laws.sameFrames. -/
namespace Go.Proofs.YtmlhpjkijpbinabDoor
open Go.RowKit

theorem frame_fields : Tryd.prog.underlying 30 = some (.struct (Tryd.prog.fieldsOf 30)) := by kernel_rfl

theorem run_frame_equal (f : Fr) (w : World) : (Op.equalIn 10000 30 (.agg #[.int .i64 f.gen, .int .i64 f.seq, .string f.body]) (.agg #[.int .i64 f.gen, .int .i64 f.seq, .string f.body])).run Tryd.prog w = .ok true w := by
  rw [run_equalIn_agg _ 9999 _ _ _ frame_fields (by kernel_rfl)]
  simp [go_sem, Op.eqFields, Tryd.underlying30, Program.fieldsOf]

theorem run_frame_eql (f : Fr) (w : World) : (binOp .eql 30 (.agg #[.int .i64 f.gen, .int .i64 f.seq, .string f.body]) (.agg #[.int .i64 f.gen, .int .i64 f.seq, .string f.body])).run Tryd.prog w = .ok (.bool true) w := by
  rw [run_eql_struct, run_frame_equal]; rfl
theorem run_frame_neq (f : Fr) (w : World) : (binOp .neq 30 (.agg #[.int .i64 f.gen, .int .i64 f.seq, .string f.body]) (.agg #[.int .i64 f.gen, .int .i64 f.seq, .string f.body])).run Tryd.prog w = .ok (.bool false) w := by
  rw [run_neq_struct, run_frame_equal]; rfl

theorem fr_cells' {w w' : World} {g off : Nat} {l : List Fr} (hc : ∀ j x, l[j]? = some x → ∀ k u, (frE.f x)[k]? = some u → w.cell? ⟨g, off + j * frE.sz + k, none⟩ = some u)
    (hg : g < w.heap.size) (hb : Below w.heap.size w w') (i : Nat) (x : Fr) (hi : l[i]? = some x) :
    w'.cell? ⟨g, off + i * 3, none⟩ = some (.int .i64 x.gen) ∧ w'.cell? ⟨g, off + i * 3 + 1, none⟩ = some (.int .i64 x.seq) ∧ w'.cell? ⟨g, off + i * 3 + 2, none⟩ = some (.string x.body) := by
  have h0 := hc i x hi 0 (.int .i64 x.gen) rfl
  have h1 := hc i x hi 1 (.int .i64 x.seq) rfl
  have h2 := hc i x hi 2 (.string x.body) rfl
  exact ⟨(hb.cell (p := ⟨g, off + i * 3, none⟩) hg).trans h0, (hb.cell (p := ⟨g, off + i * 3 + 1, none⟩) hg).trans h1, (hb.cell (p := ⟨g, off + i * 3 + 2, none⟩) hg).trans h2⟩

set_option maxRecDepth 100000 in
set_option maxHeartbeats 1000000 in
theorem sameFrames_same (l : List Fr) (va vb : Value) (w : World) (ha : Rows' frE w va l) (hb : Rows' frE w vb l) (hl : l.length ≤ 1099511627776) :
    Calls Tryd.prog 11 #[va, vb] w fun e w' => e = .returned (.bool true) ∧ Below w.heap.size w w' := by
  rcases ha.ways with ⟨rfl, a, c, rfl⟩ | ⟨hne, ga, oa, ca, rfl, hca, hga, hcla⟩
  · rcases hb.ways with ⟨_, b, d, rfl⟩ | ⟨hne, _⟩
    · clear ha hb
      go_enter Tryd.func11, Tryd.ntmps11
      go_wp2
      go_loop [5] (fun iv => iv = .int .i64 0) (fun _ => 0)
      case atStart => rfl
      case round =>
        obtain rfl := hrel
        go_wp2
        go_ret
        exact ⟨rfl, Below.refl _ _⟩
    · exact absurd rfl hne
  · rcases hb.ways with ⟨e, _⟩ | ⟨_, gb, ob, cb, rfl, hcb, hgb, hclb⟩
    · exact absurd e hne
    · clear ha hb
      have HA := Lib.hid hcla
      have HB := Lib.hid hclb
      clear hcla hclb
      go_enter Tryd.func11, Tryd.ntmps11
      go_wp2
      go_loopw [5] (fun iv wr => ∃ i : Nat, i ≤ l.length ∧ iv = .int .i64 (i : Int) ∧ Below w.heap.size w wr) (fun iv _ => l.length - (intOf iv).toNat)
      case atStart => exact ⟨0, by omega, rfl, Below.refl _ _⟩
      case round =>
        obtain ⟨i, hi, rfl, hbel⟩ := hrel
        by_cases hlt : i < l.length
        · have hg : l[i]? = some l[i] := List.getElem?_eq_getElem hlt
          obtain ⟨a0, a1, a2⟩ := fr_cells' HA.out hga hbel i _ hg
          obtain ⟨b0, b1, b2⟩ := fr_cells' HB.out hgb hbel i _ hg
          generalize l[i] = f at *
          have hi0 : (0 : Int) ≤ (i : Int) := by omega
          have hi1 : (i : Int) < (l.length : Int) := by omega
          have hneq := run_frame_neq f
          clear hg
          go_wp2
          go_quiet (fail)
          go_wp2
          go_roundw
          case rel => exact ⟨i + 1, by omega, by go_num, hbel.trans ⟨rfl, rfl, rfl, Nat.le_refl _, fun _ _ => rfl⟩⟩
          case measure => simp [intOf]; omega
        · go_wp2
          go_ret
          exact ⟨rfl, hbel⟩

end Go.Proofs.YtmlhpjkijpbinabDoor
