/- What is drawn for the chapter on frames: what spec.l04Frame, l04Any, l02Spoilt, l01Place and the draws of the chapter hand back. -/
import Derived.Test.YtmmgnpjhlmiafabDoorDraw2
import Derived.Test.YtmmgnpjhlmiafabDoorFrOk
import Derived.Test.YtmmgnpjhlmiafabDoorBox
import Derived.Deep.Cut
import Derived.Lib.Hide
namespace Go.Proofs.YtmmgnpjhlmiafabDoor
open Go.RowKit

theorem ints_cell' (w : World) (zs : List Int) (t : TypeId) (j : Nat) (hj : j < zs.length) : (w.alloc (.cells (zs.map (Value.int .i64)).toArray t)).cell? ⟨w.heap.size, j, none⟩ = some (.int .i64 zs[j]) := by
  rw [Joins.cell_of_block (heap_alloc_new w _)]
  simp [hj]

/-- One of a list of numbers that was just laid. -/
theorem pickLit_any (zs : List Int) (n pc : Nat) (a : Option Addr) (len cap : Nat) (w : World) (hc : Cur w pc a len cap) (hl : zs.length = n) (h0 : 0 < n) (h1 : n ≤ 1048576) :
    Calls Tryd.prog 43 #[.pointer (some ⟨pc, 0, none⟩), .slice (some ⟨w.heap.size, 0, none⟩) n n] (w.alloc (.cells (zs.map (Value.int .i64)).toArray 3)) fun e w' => ∃ x : Int, x ∈ zs ∧ e = .returned (.int .i64 x) ∧ Cur w' pc a len cap ∧ w.grownBy w' (some pc) := by
  have hbel : Below w.heap.size w (w.alloc (.cells (zs.map (Value.int .i64)).toArray 3)) := (Below.refl _ _).alloc (Nat.le_refl _) _
  have hpc := hc.lt
  refine (pickInt_any w.heap.size n n pc a len cap _ (hc.below hbel hpc hc.codeLt) h0 (Nat.le_refl _) h1 (by omega) (fun j hj => ⟨_, ints_cell' w zs 3 j (by rw [hl]; exact hj)⟩)).mono ?_
  rintro e w2 ⟨j, x, hj, hx, rfl, hc2, hg2⟩
  rw [ints_cell' w zs 3 j (by rw [hl]; exact hj)] at hx
  simp only [Option.some.injEq, Value.int.injEq, true_and] at hx
  exact ⟨x, by rw [← hx]; exact List.getElem_mem _, rfl, hc2, (grownBy_below (World.grownBy.refl w (some pc)) hbel (Nat.le_refl _)).trans hg2⟩

/-- A store into what is new changes nothing that was there. -/
theorem grownBy_new {w X : World} {r : Option Nat} (h : w.grownBy X r) {b : Nat} (hb : w.heap.size ≤ b) (i : Nat) (v : Value) : w.grownBy (X.setCell ⟨b, i, none⟩ v) r :=
  have g := stored_grown X b i v
  ⟨g.os.trans h.os, g.tape.trans h.tape, g.output.trans h.output, Nat.le_trans h.size g.size, fun k hk hne => (g.block k (Nat.lt_of_lt_of_le hk h.size) (fun e => by have := Option.some.inj e; omega)).trans (h.block k hk hne)⟩
theorem grownBy_new3 {w X : World} {r : Option Nat} (h : w.grownBy X r) {b : Nat} (hb : w.heap.size ≤ b) (v0 v1 v2 : Value) : w.grownBy (set3 X b v0 v1 v2) r :=
  grownBy_new (grownBy_new (grownBy_new h hb 0 v0) hb 1 v1) hb 2 v2
theorem Cur.new {w X : World} {pc : Nat} {a : Option Addr} {len cap : Nat} (h : Cur X pc a len cap) (hw : Cur w pc a len cap) {b : Nat} (hb : w.heap.size ≤ b) (i : Nat) (v : Value) : Cur (X.setCell ⟨b, i, none⟩ v) pc a len cap :=
  h.below ((Below.refl w.heap.size X).setCell (p := ⟨b, i, none⟩) hb v) hw.lt hw.codeLt
theorem Cur.new3 {w X : World} {pc : Nat} {a : Option Addr} {len cap : Nat} (h : Cur X pc a len cap) (hw : Cur w pc a len cap) {b : Nat} (hb : w.heap.size ≤ b) (v0 v1 v2 : Value) : Cur (set3 X b v0 v1 v2) pc a len cap :=
  ((h.new hw hb 0 v0).new hw hb 1 v1).new hw hb 2 v2
theorem Cur.alloc {w : World} {pc : Nat} {a : Option Addr} {len cap : Nat} (h : Cur w pc a len cap) (o : Obj) : Cur (w.alloc o) pc a len cap := h.below ((Below.refl _ _).alloc (Nat.le_refl _) o) h.lt h.codeLt
theorem Box.cur {w X : World} {b pc : Nat} {cs : Array Value} {t : TypeId} (h : Box w b cs t) (hg : w.grownBy X (some pc)) (hne : b ≠ pc) : Box X b cs t := (hg.block b h.lt (fun e => hne (Option.some.inj e))).trans h

/-- A drawn frame. -/
def FrR (Pr : Fr → Prop) (pc : Nat) (a : Option Addr) (len cap : Nat) (w : World) (e : Ending) (w' : World) : Prop :=
  ∃ f : Fr, Pr f ∧ e = .returned f.v ∧ Cur w' pc a len cap ∧ w.grownBy w' (some pc)
def Fr.drawn (f : Fr) : Prop := f.ok ∧ f.body.size ≤ 20

set_option maxRecDepth 100000 in
set_option maxHeartbeats 1000000 in
theorem frame_any (pc : Nat) (a : Option Addr) (len cap : Nat) (w : World) (hc : Cur w pc a len cap) :
    Calls Tryd.prog 22 #[.pointer (some ⟨pc, 0, none⟩)] w fun e w' => FrR Fr.drawn pc a len cap w e w' := by
  have hx := Box.new w #[.int .i64 0, .int .i64 0, .string ⟨#[]⟩] 30
  have hg0 : w.grownBy (w.alloc (.cells #[.int .i64 0, .int .i64 0, .string ⟨#[]⟩] 30)) (some pc) := World.grownBy_alloc _ _ _
  have hc0 := hc.alloc (.cells #[.int .i64 0, .int .i64 0, .string ⟨#[]⟩] 30)
  have hne : w.heap.size ≠ pc := by have := hc.lt; omega
  go_enter Tryd.func22, Tryd.ntmps22
  go_wp2_with fail
  generalize w.alloc (.cells #[.int .i64 0, .int .i64 0, .string ⟨#[]⟩] 30) = W at *
  refine (below_any 3 pc a len cap _ hc0 (by omega)).mono ?_
  rintro e w1 ⟨x1, h1, _, rfl, hc1, hg1⟩
  have h1' := h1 (by omega)
  go_wp2_with fail
  refine (below_any 200 pc a len cap _ hc1 (by omega)).mono ?_
  rintro e w2 ⟨x2, h2, _, rfl, hc2, hg2⟩
  have h2' := h2 (by omega)
  go_wp2_with fail
  refine (below_any 20 pc a len cap _ hc2 (by omega)).mono ?_
  rintro e w3 ⟨x3, h3, _, rfl, hc3, hg3⟩
  have h3' := h3 (by omega)
  clear h1 h2 h3
  go_wp2_with fail
  refine (text_any _ pc a len cap _ hc3 (by omega)).mono ?_
  rintro e w4 ⟨s, s1, s2, rfl, hc4, hg4⟩
  have hg := (hg1.trans hg2).trans (hg3.trans hg4)
  have y := hx.cur hg hne
  obtain ⟨c0, c1, c2, f0, f1, f2⟩ := y.three
  have HS := Lib.hid s2
  clear s2 hx hg1 hg2 hg3 hg4 hc0 hc1 hc2 hc3
  go_wp2
  have z := y.set3 (.int .i64 (1 + (x1 : Int))) (.int .i64 (1 + (x2 : Int))) (.string s)
  obtain ⟨q0, q1, q2, _⟩ := z.three
  unfold set3 at q0 q1 q2
  refine bodyPost_ret (v := Fr.v ⟨1 + (x1 : Int), 1 + (x2 : Int), s⟩) (by simp [results, Tryd.results22, go_sem, q0, q1, q2, Fr.v]) rfl ?_
  refine ⟨_, ⟨⟨by simp only; omega, by simp only; omega, ?_⟩, ?_⟩, rfl, hc4.new3 hc (Nat.le_refl _) _ _ _, grownBy_new3 (hg0.trans hg) (Nat.le_refl _) _ _ _⟩
  · have := HS.out; simp only; omega
  · have := HS.out; simp only; omega

/-- What is known while a frame is drawn: the frame's box, the answer's box, and the cursor. -/
structure AnyI (pc : Nat) (a : Option Addr) (len cap : Nat) (w : World) (b : Nat) (f : Fr) (X : World) : Prop where
  cur : Cur X pc a len cap
  grown : w.grownBy X (some pc)
  res : Box X w.heap.size #[.int .i64 0, .int .i64 0, .string ⟨#[]⟩] 30
  fr : Box X b #[.int .i64 f.gen, .int .i64 f.seq, .string f.body] 30
  lt : w.heap.size < b
  ne : b ≠ pc ∧ pc < w.heap.size

theorem AnyI.next {pc : Nat} {a : Option Addr} {len cap : Nat} {w : World} {b : Nat} {f : Fr} {X Y : World} (h : AnyI pc a len cap w b f X) (hg : X.grownBy Y (some pc)) (hc : Cur Y pc a len cap) : AnyI pc a len cap w b f Y :=
  ⟨hc, h.grown.trans hg, h.res.cur hg (by have := h.ne.2; omega), h.fr.cur hg h.ne.1, h.lt, h.ne⟩

set_option maxRecDepth 100000 in
set_option maxHeartbeats 1000000 in
theorem any_any (pc : Nat) (a : Option Addr) (len cap : Nat) (w : World) (hc : Cur w pc a len cap) :
    Calls Tryd.prog 28 #[.pointer (some ⟨pc, 0, none⟩)] w fun e w' => FrR (fun f => f.body.size ≤ 5000) pc a len cap w e w' := by
  have hx := Box.new w #[.int .i64 0, .int .i64 0, .string ⟨#[]⟩] 30
  have hg0 : w.grownBy (w.alloc (.cells #[.int .i64 0, .int .i64 0, .string ⟨#[]⟩] 30)) (some pc) := World.grownBy_alloc _ _ _
  have hc0 := hc.alloc (.cells #[.int .i64 0, .int .i64 0, .string ⟨#[]⟩] 30)
  have hpc := hc.lt
  have hz0 : w.heap.size < (w.alloc (.cells #[.int .i64 0, .int .i64 0, .string ⟨#[]⟩] 30)).heap.size := by simp
  go_enter Tryd.func28, Tryd.ntmps28
  go_wp2_with fail
  generalize w.alloc (.cells #[.int .i64 0, .int .i64 0, .string ⟨#[]⟩] 30) = W at *
  refine (frame_any pc a len cap _ hc0).mono ?_
  rintro e w1 ⟨f, ⟨hok, hb20⟩, rfl, hc1, hg1⟩
  have hz1 := hg1.size
  have I2 : AnyI pc a len cap w w1.heap.size f (w1.alloc (.cells #[.int .i64 f.gen, .int .i64 f.seq, .string f.body] 30)) :=
    ⟨hc1.alloc _, (hg0.trans hg1).trans (World.grownBy_alloc _ _ _), (hx.cur hg1 (by omega)).later ((Below.refl _ _).alloc (Nat.le_refl _) _), Box.new w1 _ _, by omega, by omega, hpc⟩
  unfold Fr.v
  go_upto_region 2 with fail
  generalize w1.alloc (.cells #[.int .i64 f.gen, .int .i64 f.seq, .string f.body] 30) = w2 at I2 ⊢
  clear hx hg0 hc0 hg1 hc1
  go_wp2_with fail
  refine (below_any 10 pc a len cap _ I2.cur (by omega)).mono ?_
  rintro e w3 ⟨x, _, _, rfl, hc3, hg3⟩
  have I3 := I2.next hg3 hc3
  clear I2 hg3 hc3
  have HC := Lib.hid hc
  clear hc
  rcases (show x = 0 ∨ x = 1 ∨ x = 2 ∨ (x ≠ 0 ∧ x ≠ 1 ∧ x ≠ 2) by omega) with rfl | rfl | rfl | ⟨n0, n1, n2⟩
  · go_wp2_with fail
    refine (pickLit_any [0, 1000000000, 1000000001] 3 pc a len cap _ I3.cur rfl (by omega) (by omega)).mono ?_
    rintro e w4 ⟨y, _, rfl, hc4, hg4⟩
    have I4 := I3.next hg4 hc4
    have y4 := I4.fr.set 0 (.int .i64 y)
    have r4 := I4.res.other (g := w1.heap.size) (by have := I4.lt; omega) 0 (.int .i64 y)
    have z4 := r4.set3 (.int .i64 y) (.int .i64 f.seq) (.string f.body)
    obtain ⟨c0, c1, c2, f0, f1, f2⟩ := I4.fr.three
    obtain ⟨d0, d1, d2, g0, g1, g2⟩ := I4.res.three
    obtain ⟨q0, q1, q2, _⟩ := z4.three
    unfold set3 at q0 q1 q2
    have hlt := I4.lt
    have hneb : w.heap.size ≠ w1.heap.size := by omega
    have hneb' : w1.heap.size ≠ w.heap.size := by omega
    have HF : Hid (Cur (set3 (w4.setCell ⟨w1.heap.size, 0, none⟩ (.int .i64 y)) w.heap.size (.int .i64 y) (.int .i64 f.seq) (.string f.body)) pc a len cap ∧ w.grownBy (set3 (w4.setCell ⟨w1.heap.size, 0, none⟩ (.int .i64 y)) w.heap.size (.int .i64 y) (.int .i64 f.seq) (.string f.body)) (some pc)) :=
      ⟨(I4.cur.new HC.out (by omega) 0 _).new3 HC.out (Nat.le_refl _) _ _ _, grownBy_new3 (grownBy_new I4.grown (by omega) 0 _) (Nat.le_refl _) _ _ _⟩
    clear I3 I4 hg4 hc4 y4 r4 z4
    go_wp2
    refine bodyPost_ret (v := Fr.v ⟨y, f.seq, f.body⟩) (by simp [results, Tryd.results28, go_sem, q0, q1, q2, Fr.v]) rfl ?_
    exact ⟨_, by simp only; omega, rfl, HF.out.1, HF.out.2⟩
  · go_wp2_with fail
    refine (pickLit_any [0, 1000000000, -1] 3 pc a len cap _ I3.cur rfl (by omega) (by omega)).mono ?_
    rintro e w4 ⟨y, _, rfl, hc4, hg4⟩
    have I4 := I3.next hg4 hc4
    have y4 := I4.fr.set 1 (.int .i64 y)
    have r4 := I4.res.other (g := w1.heap.size) (by have := I4.lt; omega) 1 (.int .i64 y)
    have z4 := r4.set3 (.int .i64 f.gen) (.int .i64 y) (.string f.body)
    obtain ⟨c0, c1, c2, f0, f1, f2⟩ := I4.fr.three
    obtain ⟨d0, d1, d2, g0, g1, g2⟩ := I4.res.three
    obtain ⟨q0, q1, q2, _⟩ := z4.three
    unfold set3 at q0 q1 q2
    have hlt := I4.lt
    have hneb : w.heap.size ≠ w1.heap.size := by omega
    have hneb' : w1.heap.size ≠ w.heap.size := by omega
    have HF : Hid (Cur (set3 (w4.setCell ⟨w1.heap.size, 1, none⟩ (.int .i64 y)) w.heap.size (.int .i64 f.gen) (.int .i64 y) (.string f.body)) pc a len cap ∧ w.grownBy (set3 (w4.setCell ⟨w1.heap.size, 1, none⟩ (.int .i64 y)) w.heap.size (.int .i64 f.gen) (.int .i64 y) (.string f.body)) (some pc)) :=
      ⟨(I4.cur.new HC.out (by omega) 1 _).new3 HC.out (Nat.le_refl _) _ _ _, grownBy_new3 (grownBy_new I4.grown (by omega) 1 _) (Nat.le_refl _) _ _ _⟩
    clear I3 I4 hg4 hc4 y4 r4 z4
    go_wp2
    refine bodyPost_ret (v := Fr.v ⟨f.gen, y, f.body⟩) (by simp [results, Tryd.results28, go_sem, q0, q1, q2, Fr.v]) rfl ?_
    exact ⟨_, by simp only; omega, rfl, HF.out.1, HF.out.2⟩
  · go_wp2_with fail
    refine (pickLit_any [0, 180, 181] 3 pc a len cap _ I3.cur rfl (by omega) (by omega)).mono ?_
    rintro e w3' ⟨y0, hy, rfl, hc3', hg3'⟩
    have I3' := I3.next hg3' hc3'
    obtain ⟨m, hm, hml⟩ : ∃ m : Nat, y0 = (m : Int) ∧ m ≤ 181 := by
      simp only [List.mem_cons, List.not_mem_nil, or_false] at hy
      rcases hy with rfl | rfl | rfl
      · exact ⟨0, rfl, by omega⟩
      · exact ⟨180, rfl, by omega⟩
      · exact ⟨181, rfl, by omega⟩
    subst hm
    clear hy
    go_wp2_with fail
    refine (long_any m 97 _ (by omega)).mono ?_
    rintro e w4 ⟨rfl, k4⟩
    obtain ⟨y, hy⟩ : ∃ y : ByteArray, (⟨(List.replicate m (97 : UInt8)).toArray⟩ : ByteArray) = y := ⟨_, rfl⟩
    have hysz : y.size ≤ 181 := by rw [← hy]; simp [ByteArray.size]; omega
    rw [hy]
    clear hy
    have I4 := I3'.next (grownBy_below (World.grownBy.refl _ _) k4 (Nat.le_refl _)) (I3'.cur.below k4 I3'.cur.lt I3'.cur.codeLt)
    have y4 := I4.fr.set 2 (.string y)
    have r4 := I4.res.other (g := w1.heap.size) (by have := I4.lt; omega) 2 (.string y)
    have z4 := r4.set3 (.int .i64 f.gen) (.int .i64 f.seq) (.string y)
    obtain ⟨c0, c1, c2, f0, f1, f2⟩ := I4.fr.three
    obtain ⟨d0, d1, d2, g0, g1, g2⟩ := I4.res.three
    obtain ⟨q0, q1, q2, _⟩ := z4.three
    unfold set3 at q0 q1 q2
    have hlt := I4.lt
    have hneb : w.heap.size ≠ w1.heap.size := by omega
    have hneb' : w1.heap.size ≠ w.heap.size := by omega
    have HF : Hid (Cur (set3 (w4.setCell ⟨w1.heap.size, 2, none⟩ (.string y)) w.heap.size (.int .i64 f.gen) (.int .i64 f.seq) (.string y)) pc a len cap ∧ w.grownBy (set3 (w4.setCell ⟨w1.heap.size, 2, none⟩ (.string y)) w.heap.size (.int .i64 f.gen) (.int .i64 f.seq) (.string y)) (some pc)) :=
      ⟨(I4.cur.new HC.out (by omega) 2 _).new3 HC.out (Nat.le_refl _) _ _ _, grownBy_new3 (grownBy_new I4.grown (by omega) 2 _) (Nat.le_refl _) _ _ _⟩
    clear I3 I3' I4 hg3' hc3' k4 y4 r4 z4
    go_wp2
    refine bodyPost_ret (v := Fr.v ⟨f.gen, f.seq, y⟩) (by simp [results, Tryd.results28, go_sem, q0, q1, q2, Fr.v]) rfl ?_
    exact ⟨_, by simp only; omega, rfl, HF.out.1, HF.out.2⟩
  · have hb0 : ((x : Int) == 0) = false := beq_eq_false_iff_ne.2 (by omega)
    have hb1 : ((x : Int) == 1) = false := beq_eq_false_iff_ne.2 (by omega)
    have hb2 : ((x : Int) == 2) = false := beq_eq_false_iff_ne.2 (by omega)
    have z4 := I3.res.set3 (.int .i64 f.gen) (.int .i64 f.seq) (.string f.body)
    obtain ⟨c0, c1, c2, f0, f1, f2⟩ := I3.fr.three
    obtain ⟨d0, d1, d2, g0, g1, g2⟩ := I3.res.three
    obtain ⟨q0, q1, q2, _⟩ := z4.three
    unfold set3 at q0 q1 q2
    have hlt := I3.lt
    have HF : Hid (Cur (set3 w3 w.heap.size (.int .i64 f.gen) (.int .i64 f.seq) (.string f.body)) pc a len cap ∧ w.grownBy (set3 w3 w.heap.size (.int .i64 f.gen) (.int .i64 f.seq) (.string f.body)) (some pc)) :=
      ⟨I3.cur.new3 HC.out (Nat.le_refl _) _ _ _, grownBy_new3 I3.grown (Nat.le_refl _) _ _ _⟩
    clear I3 z4 n0 n1 n2
    go_wp2
    refine bodyPost_ret (v := Fr.v ⟨f.gen, f.seq, f.body⟩) (by simp [results, Tryd.results28, go_sem, q0, q1, q2, Fr.v]) rfl ?_
    exact ⟨_, by simp only; omega, rfl, HF.out.1, HF.out.2⟩

set_option maxRecDepth 100000 in
theorem drawFrameText_any (a : Option Addr) (len cap : Nat) (w : World) (hcode : CodeIn w a len) (hs : len ≤ 1048576) :
    Calls Tryd.prog 12 #[.slice a len cap] w fun e w' => ∃ f : Fr, f.body.size ≤ 5000 ∧ e = .returned f.v ∧ Below w.heap.size w w' := by
  have hx := Box.new w #[.int .i64 0, .int .i64 0, .string ⟨#[]⟩] 30
  have b0 : Below w.heap.size w (w.alloc (.cells #[.int .i64 0, .int .i64 0, .string ⟨#[]⟩] 30)) := (Below.refl _ _).alloc (Nat.le_refl _) _
  have hc0 := hcode.later b0
  have hz0 : w.heap.size < (w.alloc (.cells #[.int .i64 0, .int .i64 0, .string ⟨#[]⟩] 30)).heap.size := by simp
  go_enter Tryd.func12, Tryd.ntmps12
  go_wp2_with fail
  generalize w.alloc (.cells #[.int .i64 0, .int .i64 0, .string ⟨#[]⟩] 30) = W at *
  refine (new_any a len cap _ hc0 hs).mono ?_
  rintro e w1 ⟨pc, hp, rfl, hc1, hb1⟩
  go_wp2_with fail
  refine (any_any pc a len cap _ hc1).mono ?_
  rintro e w2 ⟨f, hf, rfl, hc2, hg2⟩
  have x2 := (hx.later hb1).cur hg2 (by omega)
  have b2 : Below w.heap.size w w2 := (b0.trans (hb1.mono b0.size)).grown hg2 (Nat.le_trans b0.size hb1.size) (fun k hk => by have := Option.some.inj hk; omega)
  obtain ⟨d0, d1, d2, g0, g1, g2⟩ := x2.three
  have z2 := x2.set3 (.int .i64 f.gen) (.int .i64 f.seq) (.string f.body)
  obtain ⟨q0, q1, q2, _⟩ := z2.three
  unfold set3 at q0 q1 q2
  unfold Fr.v
  go_wp2
  refine bodyPost_ret (v := f.v) (by simp [results, Tryd.results12, go_sem, q0, q1, q2, Fr.v]) rfl ?_
  exact ⟨f, hf, rfl, below_set3 b2 (Nat.le_refl _) _ _ _⟩

set_option maxRecDepth 100000 in
theorem place_any (n : Int) (pc : Nat) (a : Option Addr) (len cap : Nat) (w : World) (hc : Cur w pc a len cap) (h0 : 0 ≤ n) (hn : n ≤ 1000000) :
    Calls Tryd.prog 33 #[.pointer (some ⟨pc, 0, none⟩), .int .i64 n] w fun e w' => ∃ x : Int, e = .returned (.int .i64 x) ∧ Cur w' pc a len cap ∧ w.grownBy w' (some pc) := by
  go_enter Tryd.func33, Tryd.ntmps33
  go_wp2_with fail
  refine (once_any 15 pc a len cap _ hc (by omega)).mono ?_
  rintro e w1 ⟨he, hc1, hg1⟩
  rcases he with rfl | rfl
  · go_wp2_with fail
    refine (pickLit_any [-1, n, n + 1, 9223372036854775807, -9223372036854775808] 5 pc a len cap _ hc1 rfl (by omega) (by omega)).mono ?_
    rintro e w2 ⟨y, _, rfl, hc2, hg2⟩
    go_wp2
    go_ret
    exact ⟨y, rfl, hc2, hg1.trans hg2⟩
  · go_wp2_with fail
    refine (below_any n pc a len cap _ hc1 (by omega)).mono ?_
    rintro e w2 ⟨y, _, _, rfl, hc2, hg2⟩
    go_wp2
    go_ret
    exact ⟨_, rfl, hc2, hg1.trans hg2⟩

end Go.Proofs.YtmmgnpjhlmiafabDoor
