/- Texts of our own, joined. -/
import Derived.Test.YtklkhllkjnbhjaaGreatDoorJq
import Derived.Test.YtklkhllkjnbhjaaGreatDoorJcx
import Derived.Test.YtklkhllkjnbhjaaGreatDoorJb
import Derived.Lib.Hide
import Derived.Test.YtklkhllkjnbhjaaGreatDoorJr
import Derived.Test.YtklkhllkjnbhjaaGreatDoorJw
import Derived.Test.YtklkhllkjnbhjaaGreatDoorJa
import Derived.Test.YtklkhllkjnbhjaaGreatDoorJv
import Derived.Deep.Slices
import Derived.Deep.SlicePairs
import Derived.Lib.SmallJoins
import Derived.ProofKit
/- Without of either side: the items of which drop is not so, in order. -/
namespace Go.Proofs.YtklkhllkjnbhjaaGreatDoor
open Go.RowKit
set_option maxRecDepth 100000
set_option maxHeartbeats 8000000
theorem setCell_same {w : World} {g i : Nat} {v : Value} (h : w.cell? ⟨g, i, none⟩ = some v) : w.setCell ⟨g, i, none⟩ v = w := by
  have : w.heap.modify g (fun
      | .cells c elem frozen => .cells (if (none : Option Nat).isSome then c else c.setIfInBounds i v) elem frozen
      | o => o) = w.heap := by
    apply Array.ext_getElem?; intro k; rw [Array.getElem?_modify]; by_cases hk : g = k
    · subst hk
      rw [if_pos rfl]; unfold World.cell? at h; cases ho : w.heap[g]? with
      | none => rfl
      | some o =>
        rw [ho] at h; cases o <;> simp_all
        rename_i c _ _; apply Array.ext_getElem?; intro j; rw [Array.getElem?_setIfInBounds]; by_cases hj : i = j
        · subst hj; simp_all; exact (Array.getElem?_eq_some_iff.1 h).1
        · simp [hj]
    · rw [if_neg hk]
  show { w with heap := _ } = w
  exact congrArg (fun hp => { w with heap := hp }) this
theorem Box.set9n {w : World} {b : Nat} {u0 u1 u2 u3 u4 u5 u6 u7 u8 : Value} {t : TypeId} (h : Box w b #[u0, u1, u2, u3, u4, u5, u6, u7, u8] t) (v0 v1 v2 v3 v4 v5 v6 v7 v8 : Value) : Box (((((((((w.setCell ⟨b, 0, none⟩ v0).setCell ⟨b, 1, none⟩ v1).setCell ⟨b, 2, none⟩ v2).setCell ⟨b, 3, none⟩ v3).setCell ⟨b, 4, none⟩ v4).setCell ⟨b, 5, none⟩ v5).setCell ⟨b, 6, none⟩ v6).setCell ⟨b, 7, none⟩ v7).setCell ⟨b, 8, none⟩ v8) b #[v0, v1, v2, v3, v4, v5, v6, v7, v8] t := by
  have h0 : Box (w.setCell ⟨b, 0, none⟩ v0) b #[v0, u1, u2, u3, u4, u5, u6, u7, u8] t := h.set 0 v0; have h1 : Box ((w.setCell ⟨b, 0, none⟩ v0).setCell ⟨b, 1, none⟩ v1) b #[v0, v1, u2, u3, u4, u5, u6, u7, u8] t := h0.set 1 v1; have h2 : Box (((w.setCell ⟨b, 0, none⟩ v0).setCell ⟨b, 1, none⟩ v1).setCell ⟨b, 2, none⟩ v2) b #[v0, v1, v2, u3, u4, u5, u6, u7, u8] t := h1.set 2 v2; have h3 : Box ((((w.setCell ⟨b, 0, none⟩ v0).setCell ⟨b, 1, none⟩ v1).setCell ⟨b, 2, none⟩ v2).setCell ⟨b, 3, none⟩ v3) b #[v0, v1, v2, v3, u4, u5, u6, u7, u8] t := h2.set 3 v3; have h4 : Box (((((w.setCell ⟨b, 0, none⟩ v0).setCell ⟨b, 1, none⟩ v1).setCell ⟨b, 2, none⟩ v2).setCell ⟨b, 3, none⟩ v3).setCell ⟨b, 4, none⟩ v4) b #[v0, v1, v2, v3, v4, u5, u6, u7, u8] t := h3.set 4 v4; have h5 : Box ((((((w.setCell ⟨b, 0, none⟩ v0).setCell ⟨b, 1, none⟩ v1).setCell ⟨b, 2, none⟩ v2).setCell ⟨b, 3, none⟩ v3).setCell ⟨b, 4, none⟩ v4).setCell ⟨b, 5, none⟩ v5) b #[v0, v1, v2, v3, v4, v5, u6, u7, u8] t := h4.set 5 v5; have h6 : Box (((((((w.setCell ⟨b, 0, none⟩ v0).setCell ⟨b, 1, none⟩ v1).setCell ⟨b, 2, none⟩ v2).setCell ⟨b, 3, none⟩ v3).setCell ⟨b, 4, none⟩ v4).setCell ⟨b, 5, none⟩ v5).setCell ⟨b, 6, none⟩ v6) b #[v0, v1, v2, v3, v4, v5, v6, u7, u8] t := h5.set 6 v6; have h7 : Box ((((((((w.setCell ⟨b, 0, none⟩ v0).setCell ⟨b, 1, none⟩ v1).setCell ⟨b, 2, none⟩ v2).setCell ⟨b, 3, none⟩ v3).setCell ⟨b, 4, none⟩ v4).setCell ⟨b, 5, none⟩ v5).setCell ⟨b, 6, none⟩ v6).setCell ⟨b, 7, none⟩ v7) b #[v0, v1, v2, v3, v4, v5, v6, v7, u8] t := h6.set 7 v7; have h8 : Box (((((((((w.setCell ⟨b, 0, none⟩ v0).setCell ⟨b, 1, none⟩ v1).setCell ⟨b, 2, none⟩ v2).setCell ⟨b, 3, none⟩ v3).setCell ⟨b, 4, none⟩ v4).setCell ⟨b, 5, none⟩ v5).setCell ⟨b, 6, none⟩ v6).setCell ⟨b, 7, none⟩ v7).setCell ⟨b, 8, none⟩ v8) b #[v0, v1, v2, v3, v4, v5, v6, v7, v8] t := h7.set 8 v8; exact h8
theorem copyItem_any (sq : Int) (r : Rc) (w : World) (hu : r.user.size ≤ 281474976710656) (hn : r.name.size ≤ 281474976710656) (ht : r.text.size ≤ 281474976710656) :
    Calls Tryz.prog 67 #[itV sq r] w fun e w' => e = .returned (itV sq r) ∧ Below w.heap.size w w' := by
  unfold itV; have X1 := (Box.new w #[.int .i64 sq, .int .i64 r.kind, .int .i64 r.valid, .int .i64 r.uid, .int .i64 r.next, .int .i64 r.flags, .string r.user, .string r.name, .string r.text] 44).later (belNew _ (.cells #[.int .i64 0, .int .i64 0, .int .i64 0, .int .i64 0, .int .i64 0, .int .i64 0, .string ⟨#[]⟩, .string ⟨#[]⟩, .string ⟨#[]⟩] 44)); have X2 : Box ((w.alloc (.cells #[.int .i64 sq, .int .i64 r.kind, .int .i64 r.valid, .int .i64 r.uid, .int .i64 r.next, .int .i64 r.flags, .string r.user, .string r.name, .string r.text] 44)).alloc (.cells #[.int .i64 0, .int .i64 0, .int .i64 0, .int .i64 0, .int .i64 0, .int .i64 0, .string ⟨#[]⟩, .string ⟨#[]⟩, .string ⟨#[]⟩] 44)) (w.heap.size + 1) #[.int .i64 0, .int .i64 0, .int .i64 0, .int .i64 0, .int .i64 0, .int .i64 0, .string ⟨#[]⟩, .string ⟨#[]⟩, .string ⟨#[]⟩] 44 := by
    have := Box.new (w.alloc (.cells #[.int .i64 sq, .int .i64 r.kind, .int .i64 r.valid, .int .i64 r.uid, .int .i64 r.next, .int .i64 r.flags, .string r.user, .string r.name, .string r.text] 44)) #[.int .i64 0, .int .i64 0, .int .i64 0, .int .i64 0, .int .i64 0, .int .i64 0, .string ⟨#[]⟩, .string ⟨#[]⟩, .string ⟨#[]⟩] 44; rwa [show (w.alloc (.cells #[.int .i64 sq, .int .i64 r.kind, .int .i64 r.valid, .int .i64 r.uid, .int .i64 r.next, .int .i64 r.flags, .string r.user, .string r.name, .string r.text] 44)).heap.size = w.heap.size + 1 from by simp] at this
  have b1 : Below w.heap.size w ((w.alloc (.cells #[.int .i64 sq, .int .i64 r.kind, .int .i64 r.valid, .int .i64 r.uid, .int .i64 r.next, .int .i64 r.flags, .string r.user, .string r.name, .string r.text] 44)).alloc (.cells #[.int .i64 0, .int .i64 0, .int .i64 0, .int .i64 0, .int .i64 0, .int .i64 0, .string ⟨#[]⟩, .string ⟨#[]⟩, .string ⟨#[]⟩] 44)) := ((Below.refl _ _).alloc (Nat.le_refl _) _).alloc (by simp) _; go_enter Tryz.func67, Tryz.ntmps67
  go_upto_region 1 with fail
  generalize (w.alloc (.cells #[.int .i64 sq, .int .i64 r.kind, .int .i64 r.valid, .int .i64 r.uid, .int .i64 r.next, .int .i64 r.flags, .string r.user, .string r.name, .string r.text] 44)).alloc (.cells #[.int .i64 0, .int .i64 0, .int .i64 0, .int .i64 0, .int .i64 0, .int .i64 0, .string ⟨#[]⟩, .string ⟨#[]⟩, .string ⟨#[]⟩] 44) = w1 at X1 X2 b1 ⊢; have H1 : Hid (∀ x, Below w1.heap.size w1 x → Box x w.heap.size #[.int .i64 sq, .int .i64 r.kind, .int .i64 r.valid, .int .i64 r.uid, .int .i64 r.next, .int .i64 r.flags, .string r.user, .string r.name, .string r.text] 44 ∧ Box x (w.heap.size + 1) #[.int .i64 0, .int .i64 0, .int .i64 0, .int .i64 0, .int .i64 0, .int .i64 0, .string ⟨#[]⟩, .string ⟨#[]⟩, .string ⟨#[]⟩] 44 ∧ Below w.heap.size w x) := fun x hx => ⟨X1.later hx, X2.later hx, b1.trans (hx.mono b1.size)⟩; clear X1 X2 b1; have c6 := (H1.out _ (Below.refl _ _)).1.cell 6 (.string r.user) rfl; go_wp2_with fail
  clear c6; refine (clone_any _ _ hu).mono ?_; rintro e w2 ⟨rfl, k2⟩; have c6 := (H1.out _ k2).1.cell 6 (.string r.user) rfl; have f6 := (H1.out _ k2).1.loose 6; go_upto_region 2 with fail
  rw [setCell_same c6]; clear c6 f6; have c7 := (H1.out _ k2).1.cell 7 (.string r.name) rfl; go_wp2_with fail
  clear c7; refine (clone_any _ _ hn).mono ?_; rintro e w3 ⟨rfl, k3⟩; have j3 := k2.trans (k3.mono k2.size); have c7 := (H1.out _ j3).1.cell 7 (.string r.name) rfl; have f7 := (H1.out _ j3).1.loose 7; go_upto_region 3 with fail
  rw [setCell_same c7]; clear c7 f7 k2 k3; have c8 := (H1.out _ j3).1.cell 8 (.string r.text) rfl; go_wp2_with fail
  clear c8; refine (clone_any _ _ ht).mono ?_; rintro e w4 ⟨rfl, k4⟩; have j4 := j3.trans (k4.mono j3.size); have c8 := (H1.out _ j4).1.cell 8 (.string r.text) rfl; have f8 := (H1.out _ j4).1.loose 8; go_upto_region 4 with fail
  rw [setCell_same c8]; clear c8 f8 j3 k4; obtain ⟨X1, X2, bE⟩ := H1.out _ j4; obtain ⟨q0, q1, q2, q3, q4, q5, q6, q7, q8, _⟩ := X1.nine; obtain ⟨z0, z1, z2, z3, z4, z5, z6, z7, z8, f0, f1, f2, f3, f4, f5, f6, f7, f8⟩ := X2.nine; have X9 : Box (((((((((w4.setCell ⟨w.heap.size + 1, 0, none⟩ (.int .i64 sq)).setCell ⟨w.heap.size + 1, 1, none⟩ (.int .i64 r.kind)).setCell ⟨w.heap.size + 1, 2, none⟩ (.int .i64 r.valid)).setCell ⟨w.heap.size + 1, 3, none⟩ (.int .i64 r.uid)).setCell ⟨w.heap.size + 1, 4, none⟩ (.int .i64 r.next)).setCell ⟨w.heap.size + 1, 5, none⟩ (.int .i64 r.flags)).setCell ⟨w.heap.size + 1, 6, none⟩ (.string r.user)).setCell ⟨w.heap.size + 1, 7, none⟩ (.string r.name)).setCell ⟨w.heap.size + 1, 8, none⟩ (.string r.text)) (w.heap.size + 1) #[.int .i64 sq, .int .i64 r.kind, .int .i64 r.valid, .int .i64 r.uid, .int .i64 r.next, .int .i64 r.flags, .string r.user, .string r.name, .string r.text] 44 := X2.set9n _ _ _ _ _ _ _ _ _; have B9 := Lib.hid (below_set9 bE (show w.heap.size ≤ w.heap.size + 1 by omega) (.int .i64 sq) (.int .i64 r.kind) (.int .i64 r.valid) (.int .i64 r.uid) (.int .i64 r.next) (.int .i64 r.flags) (.string r.user) (.string r.name) (.string r.text)); obtain ⟨y0, y1, y2, y3, y4, y5, y6, y7, y8, _⟩ := X9.nine; clear X1 X2 X9 bE j4 H1; go_wp2; refine bodyPost_ret (v := .agg #[.int .i64 sq, .int .i64 r.kind, .int .i64 r.valid, .int .i64 r.uid, .int .i64 r.next, .int .i64 r.flags, .string r.user, .string r.name, .string r.text]) (by simp [results, Tryz.results67, go_sem, y0, y1, y2, y3, y4, y5, y6, y7, y8]) rfl ⟨rfl, B9.out⟩

/- ItemsOf of both. -/
def its : List Sg → List Itm
  | [] => []
  | s :: u => s.items ++ its u
theorem its_append : ∀ (u v : List Sg), its (u ++ v) = its u ++ its v
  | [], v => rfl
  | s :: u, v => by simp [its, its_append u v]
theorem its_take {u : List Sg} {i : Nat} {s : Sg} (h : u[i]? = some s) : its (u.take (i + 1)) = its (u.take i) ++ s.items := by
  rw [List.take_add_one, h, its_append]; simp [its]
theorem its_len : ∀ u : List Sg, (its u).length = gIts u
  | [] => rfl
  | s :: u => by simp [its, gIts, its_len u]
theorem gIts_take_le (u : List Sg) (i : Nat) : gIts (u.take i) ≤ gIts u := by
  have := gIts_append (u.take i) (u.drop i); rw [List.take_append_drop] at this; omega
theorem cloneI_any (l : List Itm) (v : Value) (w : World) (h : Rows' itE w v l) (hl : l.length ≤ 1073741824) :
    Calls Tryz.prog 66 #[v] w fun e w' => ∃ v', e = .returned v' ∧ RBuf itE w.heap.size w w' v' l := by
  have q : ∀ (w : World) (a : Option Addr) (n c n' c' : Nat), (binOp .eql 40 (.slice a n c) (.slice none n' c')).run Tryz.prog w = .ok (.bool a.isNone) w := fun w a n c n' c' => Lib.run_eql_slice_nil w _ _ a n c n' c' Tryz.underlying40; have hv : ∃ (a : Option Addr) (c : Nat), v = .slice a l.length c ∧ (a = none → l = []) := by
    rcases h with ⟨rfl, a, c, rfl⟩ | ⟨g, off, cap, rfl, _⟩
    · exact ⟨a, c, rfl, fun _ => rfl⟩
    · exact ⟨_, _, rfl, fun e => by cases e⟩
  obtain ⟨a, c, rfl, hn⟩ := hv; cases a with
  | none =>
    obtain rfl := hn rfl; clear h hn; go_enter Tryz.func66, Tryz.ntmps66
    go_wp2; go_ret; exact ⟨_, rfl, RBuf.nil itE w⟩
  | some p =>
    clear hn; have hb := (RBuf.fresh itE w).here; have hx := Lib.hid (h.later (belNew w (.cells #[] itE.ty))); clear h; go_enter Tryz.func66, Tryz.ntmps66
    go_wp2_with (at_builtin; refine wpList_append_rd rfl _ _ itE rfl w.heap.size _ [] rfl hb _ l rfl hx.out (by simp [itE]; omega) ?_; intro v1 w1 r1 g1 _; obtain ⟨a1, c1, rfl⟩ := r1.form)
    go_ret; rw [List.nil_append] at r1; exact ⟨_, rfl, ⟨r1.own, ((Below.refl w.heap.size w).alloc (Nat.le_refl _) _).grown g1 (by simp) (fun k hk => by have : w.heap.size = k := Option.some.inj hk; omega), r1.le⟩⟩
theorem copyItems_any (l : List Itm) (v : Value) (w : World) (h : Rows' itE w v l) (hl : l.length ≤ 1048576) (hz : ∀ x ∈ l, x.2.user.size ≤ 1048576 ∧ x.2.name.size ≤ 1048576 ∧ x.2.text.size ≤ 1048576) :
    Calls Tryz.prog 36 #[v] w fun e w' => ∃ v', e = .returned v' ∧ RBuf itE w.heap.size w w' v' l := by
  have HC := Lib.hid (cloneI_any l v w h (by omega)); have HZ := Lib.hid hz; obtain ⟨ad, cap, rfl, _⟩ := h.items; clear h hz; go_enter Tryz.func36, Tryz.ntmps36
  go_wp2_with fail
  refine HC.out.mono ?_; rintro e w1 ⟨v1, rfl, R1⟩; obtain ⟨a1, c1, rfl⟩ := R1.form; clear HC; go_wp2; go_loopw [9] (fun iv wr => ∃ i : Nat, i ≤ l.length ∧ iv = .int .i64 (i : Int) ∧ RBuf itE w.heap.size w wr (.slice a1 l.length c1) l) (fun iv _ => l.length - (intOf iv).toNat)
  case atStart => exact ⟨0, by omega, rfl, R1⟩
  case round =>
    clear R1; obtain ⟨i, hi, rfl, I⟩ := hrel; by_cases hlt : i < l.length
    · obtain ⟨x, hgx⟩ : ∃ x, l[i]? = some x := ⟨_, List.getElem?_eq_getElem hlt⟩
      obtain ⟨zu, zn, zt⟩ := HZ.out _ (List.mem_of_getElem? hgx); have HIT := Lib.hid I; rcases I.own.2 with ⟨h1, h2⟩ | ⟨g, cp, cur, hv, _⟩
      · omega
      · obtain ⟨rfl, rfl⟩ : a1 = some ⟨g, 0, none⟩ ∧ c1 = cp := by simpa using hv
        clear hv; have hi0 : (0 : Int) ≤ (i : Int) := (by omega); have hi1 : (i : Int) < (l.length : Int) := (by omega); have HF : Hid (∀ X, Below wr.heap.size wr X → RBuf itE w.heap.size w X (.slice (some ⟨g, 0, none⟩) l.length c1) l) := fun X hX => I.later hX; obtain ⟨sq, r⟩ := x; simp only at zu zn zt; have HCI := Lib.hid (copyItem_any sq r wr (by omega) (by omega) (by omega)); unfold itV at HCI; have p0 := I.cell rfl i _ hgx 0 _ rfl; have p1 := I.cell rfl i _ hgx 1 _ rfl; have p2 := I.cell rfl i _ hgx 2 _ rfl; have p3 := I.cell rfl i _ hgx 3 _ rfl; have p4 := I.cell rfl i _ hgx 4 _ rfl; have p5 := I.cell rfl i _ hgx 5 _ rfl; have p6 := I.cell rfl i _ hgx 6 _ rfl; have p7 := I.cell rfl i _ hgx 7 _ rfl; have p8 := I.cell rfl i _ hgx 8 _ rfl; change wr.cell? ⟨g, i * 9, none⟩ = some (.int .i64 sq) at p0; change wr.cell? ⟨g, i * 9 + 1, none⟩ = some (.int .i64 r.kind) at p1; change wr.cell? ⟨g, i * 9 + 2, none⟩ = some (.int .i64 r.valid) at p2; change wr.cell? ⟨g, i * 9 + 3, none⟩ = some (.int .i64 r.uid) at p3; change wr.cell? ⟨g, i * 9 + 4, none⟩ = some (.int .i64 r.next) at p4; change wr.cell? ⟨g, i * 9 + 5, none⟩ = some (.int .i64 r.flags) at p5; change wr.cell? ⟨g, i * 9 + 6, none⟩ = some (.string r.user) at p6; change wr.cell? ⟨g, i * 9 + 7, none⟩ = some (.string r.name) at p7; change wr.cell? ⟨g, i * 9 + 8, none⟩ = some (.string r.text) at p8; have HGX := Lib.hid hgx; clear hgx I HIT; go_wp2_with fail
        clear p0 p1 p2 p3 p4 p5 p6 p7 p8; refine HCI.out.mono ?_; rintro e w2 ⟨rfl, k2⟩; have I2 := HF.out _ k2; have p0 := I2.cell rfl i _ HGX.out 0 _ rfl; have p1 := I2.cell rfl i _ HGX.out 1 _ rfl; have p2 := I2.cell rfl i _ HGX.out 2 _ rfl; have p3 := I2.cell rfl i _ HGX.out 3 _ rfl; have p4 := I2.cell rfl i _ HGX.out 4 _ rfl; have p5 := I2.cell rfl i _ HGX.out 5 _ rfl; have p6 := I2.cell rfl i _ HGX.out 6 _ rfl; have p7 := I2.cell rfl i _ HGX.out 7 _ rfl; have p8 := I2.cell rfl i _ HGX.out 8 _ rfl; change w2.cell? ⟨g, i * 9, none⟩ = some (.int .i64 sq) at p0; change w2.cell? ⟨g, i * 9 + 1, none⟩ = some (.int .i64 r.kind) at p1; change w2.cell? ⟨g, i * 9 + 2, none⟩ = some (.int .i64 r.valid) at p2; change w2.cell? ⟨g, i * 9 + 3, none⟩ = some (.int .i64 r.uid) at p3; change w2.cell? ⟨g, i * 9 + 4, none⟩ = some (.int .i64 r.next) at p4; change w2.cell? ⟨g, i * 9 + 5, none⟩ = some (.int .i64 r.flags) at p5; change w2.cell? ⟨g, i * 9 + 6, none⟩ = some (.string r.user) at p6; change w2.cell? ⟨g, i * 9 + 7, none⟩ = some (.string r.name) at p7; change w2.cell? ⟨g, i * 9 + 8, none⟩ = some (.string r.text) at p8; have f0 := I2.loose (i * 9); have f1 := I2.loose (i * 9 + 1); have f2 := I2.loose (i * 9 + 2); have f3 := I2.loose (i * 9 + 3); have f4 := I2.loose (i * 9 + 4); have f5 := I2.loose (i * 9 + 5); have f6 := I2.loose (i * 9 + 6); have f7 := I2.loose (i * 9 + 7); have f8 := I2.loose (i * 9 + 8); have s0 := setCell_same p0; have s1 := setCell_same p1; have s2 := setCell_same p2; have s3 := setCell_same p3; have s4 := setCell_same p4; have s5 := setCell_same p5; have s6 := setCell_same p6; have s7 := setCell_same p7; have s8 := setCell_same p8; have HI2 := Lib.hid I2; clear I2 HF HCI k2; go_wp2; exact ⟨⟨i + 1, by omega, by simp, by first | exact HI2.out | (simp only [s0, s1, s2, s3, s4, s5, s6, s7, s8]; exact HI2.out)⟩, by first | omega | (simp [intOf]; omega)⟩
    · go_wp2
      go_ret; exact ⟨_, rfl, I⟩
theorem specItemsOf_any (L : Lg) (v : Value) (w : World) (h : LRd w v L) (hl : L.used.length + gIts L.used ≤ 1048576) :
    Calls Tryz.prog 14 #[v] w fun e w' => ∃ v', e = .returned v' ∧ RBuf itE w.heap.size w w' v' (its L.used) := by
  obtain ⟨va, vb, vu, rfl, _, hu⟩ := h; obtain ⟨ad, cap, rfl, hrow⟩ := hu.segs; have HR : Hid _ := hrow; clear hu hrow; have b0 := belNew w (.cells #[va, vb, .int .i64 L.segs, .slice ad L.used.length cap, .int .i64 L.ng, .int .i64 L.ns, .int .i64 L.st, .int .i64 L.nv] 30); have q0 := Box.new w #[va, vb, .int .i64 L.segs, .slice ad L.used.length cap, .int .i64 L.ng, .int .i64 L.ns, .int .i64 L.st, .int .i64 L.nv] 30; obtain ⟨W, hW⟩ : ∃ W, w.alloc (.cells #[va, vb, .int .i64 L.segs, .slice ad L.used.length cap, .int .i64 L.ng, .int .i64 L.ns, .int .i64 L.st, .int .i64 L.nv] 30) = W := ⟨_, rfl⟩; rw [hW] at q0 b0; have HW := Lib.hid hW; clear hW; have HGL := Lib.hid (fun i => gIts_take_le L.used i); obtain ⟨n, hn⟩ : ∃ n, L.used.length = n := ⟨_, rfl⟩; rw [hn] at hl q0 HW ⊢; have HN := Lib.hid hn; clear hn; have I0 := RBuf.fresh itE W; go_enter Tryz.func14, Tryz.ntmps14
  go_upto_region 1 with fail
  rw [HW.out]; have HQ := Lib.hid q0; have HB0 := Lib.hid b0; clear q0 b0 HW; go_wp2; go_loopw [3, 4] (fun v iv wr => ∃ k : Nat, k ≤ n ∧ iv = .int .i64 (k : Int) ∧ RBuf itE W.heap.size W wr v (its (L.used.take k))) (fun _ iv _ => n - (intOf iv).toNat)
  case atStart => exact ⟨0, by omega, rfl, I0⟩
  case round =>
    clear I0; obtain ⟨k, hk, rfl, I⟩ := hrel; obtain ⟨c0, c1, c2, c3, c4, c5, c6, c7, _⟩ := (HQ.out.later I.bel).eightL; by_cases hlt : k < n
    · obtain ⟨s, hgs⟩ : ∃ s, L.used[k]? = some s := ⟨_, List.getElem?_eq_getElem (by rw [HN.out]; exact hlt)⟩
      have bW := HB0.out.trans (I.bel.mono HB0.out.size); obtain ⟨ga, oa, am, nm, cm, rfl, a0, a1, a2, a4, rm⟩ := HR.out _ bW k s hgs; have HT := Lib.hid (its_take hgs); have hlen : (its (L.used.take k)).length + s.items.length ≤ 1048576 := by
        have h1 := HGL.out (k + 1); rw [← its_len, HT.out, List.length_append] at h1; omega
      obtain ⟨us, hus⟩ : ∃ us, its (L.used.take k) = us := ⟨_, rfl⟩; rw [hus] at I hlen HT; have hi0 : (0 : Int) ≤ (k : Int) := (by omega); have hi1 : (k : Int) < (n : Int) := (by omega); have HM := Lib.hid (rm.later bW); have HI := Lib.hid I; obtain ⟨a3, p3, rfl⟩ := I.form; clear hgs hus rm I; go_wp2_with (at_builtin; refine wpList_append_rd rfl _ _ itE rfl W.heap.size _ us rfl HI.out.here _ s.items rfl HM.out (by show _ * 97 ≤ _; omega) ?_; intro v6 w6 r6 g6 at6)
      exact ⟨⟨k + 1, by omega, by simp, by rw [HT.out]; exact ⟨r6.own, HI.out.bel.grown g6 HI.out.le (fun q hq => (HI.out.own.lt q hq).1), r6.le⟩⟩, by first | omega | (simp [intOf]; omega)⟩
    · have HE : Hid (its L.used = its (L.used.take k)) := by show _ = _; rw [List.take_of_length_le (by rw [HN.out]; omega)]
      have HI := Lib.hid I; clear I; go_wp2; go_ret; exact ⟨_, rfl, by rw [HE.out]; exact HI.out.down (HB0.out.trans (HI.out.bel.mono HB0.out.size)) HB0.out.size⟩
theorem implItemsOf_any (L : Lg) (v : Value) (w : World) (h : LRd w v L) (hl : L.used.length + gIts L.used ≤ 1048576) (hz : ∀ b ∈ L.used, ∀ x ∈ b.items, x.2.user.size ≤ 1048576 ∧ x.2.name.size ≤ 1048576 ∧ x.2.text.size ≤ 1048576) :
    Calls Tryz.prog 13 #[v] w fun e w' => ∃ v', e = .returned v' ∧ RBuf itE w.heap.size w w' v' (its L.used) := by
  obtain ⟨va, vb, vu, rfl, _, hu⟩ := h; obtain ⟨ad, cap, rfl, hrow⟩ := hu.segs; have HR : Hid _ := hrow; have HZ := Lib.hid hz; clear hu hrow hz; have b0 := belNew w (.cells #[va, vb, .int .i64 L.segs, .slice ad L.used.length cap, .int .i64 L.ng, .int .i64 L.ns, .int .i64 L.st, .int .i64 L.nv] 30); obtain ⟨W, hW⟩ : ∃ W, w.alloc (.cells #[va, vb, .int .i64 L.segs, .slice ad L.used.length cap, .int .i64 L.ng, .int .i64 L.ns, .int .i64 L.st, .int .i64 L.nv] 30) = W := ⟨_, rfl⟩; have q0 := Box.new w #[va, vb, .int .i64 L.segs, .slice ad L.used.length cap, .int .i64 L.ng, .int .i64 L.ns, .int .i64 L.st, .int .i64 L.nv] 30; rw [hW] at b0 q0; have q3 := (q0.later (belNew W (.cells #[] 44))).cell 3 (.slice ad L.used.length cap) rfl; clear q0; have HW := Lib.hid hW; clear hW; have HGL := Lib.hid (fun i => gIts_take_le L.used i); obtain ⟨n, hn⟩ : ∃ n, L.used.length = n := ⟨_, rfl⟩; rw [hn] at hl HW q3 ⊢; have HN := Lib.hid hn; clear hn; have I0 := RBuf.fresh itE W; go_enter Tryz.func13, Tryz.ntmps13
  go_upto_region 1 with fail
  rw [HW.out]; have HB0 := Lib.hid b0; clear b0 HW; go_wp2; clear q3; go_loopw [3, 10] (fun v iv wr => ∃ k : Nat, k ≤ n ∧ iv = .int .i64 (k : Int) ∧ RBuf itE W.heap.size W wr v (its (L.used.take k))) (fun _ iv _ => n - (intOf iv).toNat)
  case atStart => exact ⟨0, by omega, rfl, I0⟩
  case round =>
    clear I0; obtain ⟨k, hk, rfl, I⟩ := hrel; by_cases hlt : k < n
    · obtain ⟨s, hgs⟩ : ∃ s, L.used[k]? = some s := ⟨_, List.getElem?_eq_getElem (by rw [HN.out]; exact hlt)⟩
      have bW := HB0.out.trans (I.bel.mono HB0.out.size); obtain ⟨ga, oa, am, nm, cm, rfl, a0, a1, a2, a4, rm⟩ := HR.out _ bW k s hgs; have HT := Lib.hid (its_take hgs); have hlen : (its (L.used.take k)).length + s.items.length ≤ 1048576 := by
        have h1 := HGL.out (k + 1); rw [← its_len, HT.out, List.length_append] at h1; omega
      have hzx := HZ.out s (List.mem_of_getElem? hgs); obtain ⟨us, hus⟩ : ∃ us, its (L.used.take k) = us := ⟨_, rfl⟩; rw [hus] at I hlen HT; have hi0 : (0 : Int) ≤ (k : Int) := (by omega); have hi1 : (k : Int) < (n : Int) := (by omega); have I4 := I.alloc (.cells #[.int .i64 s.no, .int .i64 s.gen, .int .i64 s.ende, .slice am nm cm] 60); have HCP := Lib.hid (copyItems_any s.items (.slice am nm cm) _ (rm.later (bW.alloc bW.size (.cells #[.int .i64 s.no, .int .i64 s.gen, .int .i64 s.ende, .slice am nm cm] 60))) (by omega) hzx); obtain ⟨a3, p3, rfl⟩ := I.form; clear hgs hus rm hzx I; go_wp2_with fail
      refine HCP.out.mono ?_; rintro e w5 ⟨v5, rfl, R5⟩; have I5 := I4.later R5.bel; have HI := Lib.hid I5; have HM := Lib.hid R5.rows; obtain ⟨a5, c5, rfl⟩ := R5.form; clear I4 I5 R5 HCP a0 a1 a2 a4; go_wp2_with (at_builtin; refine wpList_append_rd rfl _ _ itE rfl W.heap.size _ us rfl HI.out.here _ s.items rfl HM.out (by show _ * 97 ≤ _; omega) ?_; intro v6 w6 r6 g6 at6)
      exact ⟨⟨k + 1, by omega, by simp, by rw [HT.out]; exact ⟨r6.own, HI.out.bel.grown g6 HI.out.le (fun q hq => (HI.out.own.lt q hq).1), r6.le⟩⟩, by first | omega | (simp [intOf]; omega)⟩
    · have HE : Hid (its L.used = its (L.used.take k)) := by show _ = _; rw [List.take_of_length_le (by rw [HN.out]; omega)]
      have HI := Lib.hid I; clear I; go_wp2; go_ret; exact ⟨_, rfl, by rw [HE.out]; exact HI.out.down (HB0.out.trans (HI.out.bel.mono HB0.out.size)) HB0.out.size⟩

/- What a disk is that comes in as an argument: its rows can be read. -/
open Go.RowKit Go.ChangeShapes Go.WideShapes Go.ChangeAt Go.Deep Go.Joins
section
variable {H : Type} {enc : TypeId × Value → H} {W : World}
end

/- Records and items that come in as arguments. -/
open Go.RowKit Go.ChangeShapes Go.WideShapes Go.ChangeAt Go.Deep Go.Joins
section
variable {H : Type} {enc : TypeId × Value → H} {P : Program} {w : World} {base : Nat} {spare : Nat → Bool} {held : Bool}
end
section
variable {H : Type} {enc : TypeId × Value → H} {W : World}
end

/- Lists of items that come in as an argument. -/
open Go.RowKit Go.ChangeShapes Go.WideShapes Go.ChangeAt Go.Deep Go.Joins
instance : Inhabited Itm := ⟨(0, Rc.nil)⟩
section
variable {H : Type} {enc : TypeId × Value → H} {W : World}
end

/- Logs that come in as arguments. -/
open Go.RowKit Go.ChangeShapes Go.WideShapes Go.ChangeAt Go.Deep Go.Joins
instance : Inhabited SgH := ⟨⟨0, 0, 0, none, 0, 0⟩⟩
section
variable {H : Type} {enc : TypeId × Value → H} {P : Program} {w : World} {base : Nat} {spare : Nat → Bool} {held : Bool}
end
section
variable {H : Type} {enc : TypeId × Value → H} {W : World}
end
end Go.Proofs.YtklkhllkjnbhjaaGreatDoor
