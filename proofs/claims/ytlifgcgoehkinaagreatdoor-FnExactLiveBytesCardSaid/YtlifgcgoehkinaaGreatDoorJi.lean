/- Texts of our own, joined. -/
import Derived.Test.YtlifgcgoehkinaaGreatDoorJe
import Derived.Test.YtlifgcgoehkinaaGreatDoorJh
import Derived.Test.YtlifgcgoehkinaaGreatDoorJd
import Derived.Lib.Hide
import Derived.Test.YtlifgcgoehkinaaGreatDoorJg
/- Without of either side: the items of which drop is not so, in order. -/
namespace Go.Proofs.YtlifgcgoehkinaaGreatDoor
open Go.RowKit

def woT (l : List Itm) (d : List Bool) : Nat → List Itm
  | 0 => []
  | i + 1 => woT l d i ++ (if d[i]? = some true then [] else (l[i]?).toList)
def wo (l : List Itm) (d : List Bool) : List Itm := woT l d l.length
def BoRow (w : World) (ad : Option Addr) (l : List Bool) : Prop := ∀ X, Below w.heap.size w X → ∀ (i : Nat) (x : Bool), l[i]? = some x → ∃ (g off : Nat), ad = some ⟨g, off, none⟩ ∧ X.cell? ⟨g, off + i, none⟩ = some (.bool x)
theorem Rows'.bools {w : World} {v : Value} {l : List Bool} (h : Rows' boE w v l) : ∃ (ad : Option Addr) (cap : Nat), v = .slice ad l.length cap ∧ BoRow w ad l := by
  rcases h.ways with ⟨rfl, a, c, rfl⟩ | ⟨hne, g, off, c, rfl, hc, hg, hcl⟩
  · exact ⟨a, c, rfl, fun X _ i x hi => by cases hi⟩
  · refine ⟨_, c, rfl, fun X hb i x hi => ⟨g, off, rfl, ?_⟩⟩
    have := hcl i x hi 0 _ rfl
    rw [show boE.sz = 1 from rfl, Nat.mul_one, Nat.add_zero] at this
    exact (hb.cell (p := ⟨g, off + i, none⟩) hg).trans this



theorem setCell_same {w : World} {g i : Nat} {v : Value} (h : w.cell? ⟨g, i, none⟩ = some v) : w.setCell ⟨g, i, none⟩ v = w := by
  have : w.heap.modify g (fun
      | .cells c elem frozen => .cells (if (none : Option Nat).isSome then c else c.setIfInBounds i v) elem frozen
      | o => o) = w.heap := by
    apply Array.ext_getElem?
    intro k
    rw [Array.getElem?_modify]
    by_cases hk : g = k
    · subst hk
      rw [if_pos rfl]
      unfold World.cell? at h
      cases ho : w.heap[g]? with
      | none => rfl
      | some o =>
        rw [ho] at h
        cases o <;> simp_all
        rename_i c _ _
        apply Array.ext_getElem?
        intro j
        rw [Array.getElem?_setIfInBounds]
        by_cases hj : i = j
        · subst hj; simp_all; exact (Array.getElem?_eq_some_iff.1 h).1
        · simp [hj]
    · rw [if_neg hk]
  show { w with heap := _ } = w
  exact congrArg (fun hp => { w with heap := hp }) this

theorem Box.set9n {w : World} {b : Nat} {u0 u1 u2 u3 u4 u5 u6 u7 u8 : Value} {t : TypeId} (h : Box w b #[u0, u1, u2, u3, u4, u5, u6, u7, u8] t) (v0 v1 v2 v3 v4 v5 v6 v7 v8 : Value) : Box (((((((((w.setCell ⟨b, 0, none⟩ v0).setCell ⟨b, 1, none⟩ v1).setCell ⟨b, 2, none⟩ v2).setCell ⟨b, 3, none⟩ v3).setCell ⟨b, 4, none⟩ v4).setCell ⟨b, 5, none⟩ v5).setCell ⟨b, 6, none⟩ v6).setCell ⟨b, 7, none⟩ v7).setCell ⟨b, 8, none⟩ v8) b #[v0, v1, v2, v3, v4, v5, v6, v7, v8] t := by
  have h0 : Box (w.setCell ⟨b, 0, none⟩ v0) b #[v0, u1, u2, u3, u4, u5, u6, u7, u8] t := h.set 0 v0
  have h1 : Box ((w.setCell ⟨b, 0, none⟩ v0).setCell ⟨b, 1, none⟩ v1) b #[v0, v1, u2, u3, u4, u5, u6, u7, u8] t := h0.set 1 v1
  have h2 : Box (((w.setCell ⟨b, 0, none⟩ v0).setCell ⟨b, 1, none⟩ v1).setCell ⟨b, 2, none⟩ v2) b #[v0, v1, v2, u3, u4, u5, u6, u7, u8] t := h1.set 2 v2
  have h3 : Box ((((w.setCell ⟨b, 0, none⟩ v0).setCell ⟨b, 1, none⟩ v1).setCell ⟨b, 2, none⟩ v2).setCell ⟨b, 3, none⟩ v3) b #[v0, v1, v2, v3, u4, u5, u6, u7, u8] t := h2.set 3 v3
  have h4 : Box (((((w.setCell ⟨b, 0, none⟩ v0).setCell ⟨b, 1, none⟩ v1).setCell ⟨b, 2, none⟩ v2).setCell ⟨b, 3, none⟩ v3).setCell ⟨b, 4, none⟩ v4) b #[v0, v1, v2, v3, v4, u5, u6, u7, u8] t := h3.set 4 v4
  have h5 : Box ((((((w.setCell ⟨b, 0, none⟩ v0).setCell ⟨b, 1, none⟩ v1).setCell ⟨b, 2, none⟩ v2).setCell ⟨b, 3, none⟩ v3).setCell ⟨b, 4, none⟩ v4).setCell ⟨b, 5, none⟩ v5) b #[v0, v1, v2, v3, v4, v5, u6, u7, u8] t := h4.set 5 v5
  have h6 : Box (((((((w.setCell ⟨b, 0, none⟩ v0).setCell ⟨b, 1, none⟩ v1).setCell ⟨b, 2, none⟩ v2).setCell ⟨b, 3, none⟩ v3).setCell ⟨b, 4, none⟩ v4).setCell ⟨b, 5, none⟩ v5).setCell ⟨b, 6, none⟩ v6) b #[v0, v1, v2, v3, v4, v5, v6, u7, u8] t := h5.set 6 v6
  have h7 : Box ((((((((w.setCell ⟨b, 0, none⟩ v0).setCell ⟨b, 1, none⟩ v1).setCell ⟨b, 2, none⟩ v2).setCell ⟨b, 3, none⟩ v3).setCell ⟨b, 4, none⟩ v4).setCell ⟨b, 5, none⟩ v5).setCell ⟨b, 6, none⟩ v6).setCell ⟨b, 7, none⟩ v7) b #[v0, v1, v2, v3, v4, v5, v6, v7, u8] t := h6.set 7 v7
  have h8 : Box (((((((((w.setCell ⟨b, 0, none⟩ v0).setCell ⟨b, 1, none⟩ v1).setCell ⟨b, 2, none⟩ v2).setCell ⟨b, 3, none⟩ v3).setCell ⟨b, 4, none⟩ v4).setCell ⟨b, 5, none⟩ v5).setCell ⟨b, 6, none⟩ v6).setCell ⟨b, 7, none⟩ v7).setCell ⟨b, 8, none⟩ v8) b #[v0, v1, v2, v3, v4, v5, v6, v7, v8] t := h7.set 8 v8
  exact h8

set_option maxRecDepth 100000 in
set_option maxHeartbeats 4000000 in
theorem copyItem_any (sq : Int) (r : Rc) (w : World) (hu : r.user.size ≤ 281474976710656) (hn : r.name.size ≤ 281474976710656) (ht : r.text.size ≤ 281474976710656) :
    Calls Tryz.prog 92 #[itV sq r] w fun e w' => e = .returned (itV sq r) ∧ Below w.heap.size w w' := by
  unfold itV
  have X1 := (Box.new w #[.int .i64 sq, .int .i64 r.kind, .int .i64 r.valid, .int .i64 r.uid, .int .i64 r.next, .int .i64 r.flags, .string r.user, .string r.name, .string r.text] 68).later (belNew _ (.cells #[.int .i64 0, .int .i64 0, .int .i64 0, .int .i64 0, .int .i64 0, .int .i64 0, .string ⟨#[]⟩, .string ⟨#[]⟩, .string ⟨#[]⟩] 68))
  have X2 : Box ((w.alloc (.cells #[.int .i64 sq, .int .i64 r.kind, .int .i64 r.valid, .int .i64 r.uid, .int .i64 r.next, .int .i64 r.flags, .string r.user, .string r.name, .string r.text] 68)).alloc (.cells #[.int .i64 0, .int .i64 0, .int .i64 0, .int .i64 0, .int .i64 0, .int .i64 0, .string ⟨#[]⟩, .string ⟨#[]⟩, .string ⟨#[]⟩] 68)) (w.heap.size + 1) #[.int .i64 0, .int .i64 0, .int .i64 0, .int .i64 0, .int .i64 0, .int .i64 0, .string ⟨#[]⟩, .string ⟨#[]⟩, .string ⟨#[]⟩] 68 := by
    have := Box.new (w.alloc (.cells #[.int .i64 sq, .int .i64 r.kind, .int .i64 r.valid, .int .i64 r.uid, .int .i64 r.next, .int .i64 r.flags, .string r.user, .string r.name, .string r.text] 68)) #[.int .i64 0, .int .i64 0, .int .i64 0, .int .i64 0, .int .i64 0, .int .i64 0, .string ⟨#[]⟩, .string ⟨#[]⟩, .string ⟨#[]⟩] 68
    rwa [show (w.alloc (.cells #[.int .i64 sq, .int .i64 r.kind, .int .i64 r.valid, .int .i64 r.uid, .int .i64 r.next, .int .i64 r.flags, .string r.user, .string r.name, .string r.text] 68)).heap.size = w.heap.size + 1 from by simp] at this
  have b1 : Below w.heap.size w ((w.alloc (.cells #[.int .i64 sq, .int .i64 r.kind, .int .i64 r.valid, .int .i64 r.uid, .int .i64 r.next, .int .i64 r.flags, .string r.user, .string r.name, .string r.text] 68)).alloc (.cells #[.int .i64 0, .int .i64 0, .int .i64 0, .int .i64 0, .int .i64 0, .int .i64 0, .string ⟨#[]⟩, .string ⟨#[]⟩, .string ⟨#[]⟩] 68)) := ((Below.refl _ _).alloc (Nat.le_refl _) _).alloc (by simp) _
  go_enter Tryz.func92, Tryz.ntmps92
  go_upto_region 1 with fail
  generalize (w.alloc (.cells #[.int .i64 sq, .int .i64 r.kind, .int .i64 r.valid, .int .i64 r.uid, .int .i64 r.next, .int .i64 r.flags, .string r.user, .string r.name, .string r.text] 68)).alloc (.cells #[.int .i64 0, .int .i64 0, .int .i64 0, .int .i64 0, .int .i64 0, .int .i64 0, .string ⟨#[]⟩, .string ⟨#[]⟩, .string ⟨#[]⟩] 68) = w1 at X1 X2 b1 ⊢
  have H1 : Hid (∀ x, Below w1.heap.size w1 x → Box x w.heap.size #[.int .i64 sq, .int .i64 r.kind, .int .i64 r.valid, .int .i64 r.uid, .int .i64 r.next, .int .i64 r.flags, .string r.user, .string r.name, .string r.text] 68 ∧ Box x (w.heap.size + 1) #[.int .i64 0, .int .i64 0, .int .i64 0, .int .i64 0, .int .i64 0, .int .i64 0, .string ⟨#[]⟩, .string ⟨#[]⟩, .string ⟨#[]⟩] 68 ∧ Below w.heap.size w x) := fun x hx => ⟨X1.later hx, X2.later hx, b1.trans (hx.mono b1.size)⟩
  clear X1 X2 b1
  have c6 := (H1.out _ (Below.refl _ _)).1.cell 6 (.string r.user) rfl
  go_wp2_with fail
  clear c6
  refine (clone_any _ _ hu).mono ?_
  rintro e w2 ⟨rfl, k2⟩
  have c6 := (H1.out _ k2).1.cell 6 (.string r.user) rfl
  have f6 := (H1.out _ k2).1.loose 6
  go_upto_region 2 with fail
  rw [setCell_same c6]
  clear c6 f6
  have c7 := (H1.out _ k2).1.cell 7 (.string r.name) rfl
  go_wp2_with fail
  clear c7
  refine (clone_any _ _ hn).mono ?_
  rintro e w3 ⟨rfl, k3⟩
  have j3 := k2.trans (k3.mono k2.size)
  have c7 := (H1.out _ j3).1.cell 7 (.string r.name) rfl
  have f7 := (H1.out _ j3).1.loose 7
  go_upto_region 3 with fail
  rw [setCell_same c7]
  clear c7 f7 k2 k3
  have c8 := (H1.out _ j3).1.cell 8 (.string r.text) rfl
  go_wp2_with fail
  clear c8
  refine (clone_any _ _ ht).mono ?_
  rintro e w4 ⟨rfl, k4⟩
  have j4 := j3.trans (k4.mono j3.size)
  have c8 := (H1.out _ j4).1.cell 8 (.string r.text) rfl
  have f8 := (H1.out _ j4).1.loose 8
  go_upto_region 4 with fail
  rw [setCell_same c8]
  clear c8 f8 j3 k4
  obtain ⟨X1, X2, bE⟩ := H1.out _ j4
  obtain ⟨q0, q1, q2, q3, q4, q5, q6, q7, q8, _⟩ := X1.nine
  obtain ⟨z0, z1, z2, z3, z4, z5, z6, z7, z8, f0, f1, f2, f3, f4, f5, f6, f7, f8⟩ := X2.nine
  have X9 : Box (((((((((w4.setCell ⟨w.heap.size + 1, 0, none⟩ (.int .i64 sq)).setCell ⟨w.heap.size + 1, 1, none⟩ (.int .i64 r.kind)).setCell ⟨w.heap.size + 1, 2, none⟩ (.int .i64 r.valid)).setCell ⟨w.heap.size + 1, 3, none⟩ (.int .i64 r.uid)).setCell ⟨w.heap.size + 1, 4, none⟩ (.int .i64 r.next)).setCell ⟨w.heap.size + 1, 5, none⟩ (.int .i64 r.flags)).setCell ⟨w.heap.size + 1, 6, none⟩ (.string r.user)).setCell ⟨w.heap.size + 1, 7, none⟩ (.string r.name)).setCell ⟨w.heap.size + 1, 8, none⟩ (.string r.text)) (w.heap.size + 1) #[.int .i64 sq, .int .i64 r.kind, .int .i64 r.valid, .int .i64 r.uid, .int .i64 r.next, .int .i64 r.flags, .string r.user, .string r.name, .string r.text] 68 := X2.set9n _ _ _ _ _ _ _ _ _
  have B9 := Lib.hid (below_set9 bE (show w.heap.size ≤ w.heap.size + 1 by omega) (.int .i64 sq) (.int .i64 r.kind) (.int .i64 r.valid) (.int .i64 r.uid) (.int .i64 r.next) (.int .i64 r.flags) (.string r.user) (.string r.name) (.string r.text))
  obtain ⟨y0, y1, y2, y3, y4, y5, y6, y7, y8, _⟩ := X9.nine
  clear X1 X2 X9 bE j4 H1
  go_wp2
  refine bodyPost_ret (v := .agg #[.int .i64 sq, .int .i64 r.kind, .int .i64 r.valid, .int .i64 r.uid, .int .i64 r.next, .int .i64 r.flags, .string r.user, .string r.name, .string r.text]) (by simp [results, Tryz.results92, go_sem, y0, y1, y2, y3, y4, y5, y6, y7, y8]) rfl ⟨rfl, B9.out⟩


end Go.Proofs.YtlifgcgoehkinaaGreatDoor

/- ItemsOf of both. -/
namespace Go.Proofs.YtlifgcgoehkinaaGreatDoor
open Go.RowKit

def its : List Sg → List Itm
  | [] => []
  | s :: u => s.items ++ its u
theorem its_append : ∀ (u v : List Sg), its (u ++ v) = its u ++ its v
  | [], v => rfl
  | s :: u, v => by simp [its, its_append u v]
theorem its_take {u : List Sg} {i : Nat} {s : Sg} (h : u[i]? = some s) : its (u.take (i + 1)) = its (u.take i) ++ s.items := by
  rw [List.take_add_one, h, its_append]; simp [its]
theorem its_len : ∀ u : List Sg, (its u).length = gIts u
  | [] => rfl
  | s :: u => by simp [its, gIts, its_len u]
theorem gIts_take_le (u : List Sg) (i : Nat) : gIts (u.take i) ≤ gIts u := by
  have := gIts_append (u.take i) (u.drop i)
  rw [List.take_append_drop] at this; omega

set_option maxRecDepth 100000 in
theorem cloneI_any (l : List Itm) (v : Value) (w : World) (h : Rows' itE w v l) (hl : l.length ≤ 1073741824) :
    Calls Tryz.prog 91 #[v] w fun e w' => ∃ v', e = .returned v' ∧ RBuf itE w.heap.size w w' v' l := by
  have q : ∀ (w : World) (a : Option Addr) (n c n' c' : Nat), (binOp .eql 56 (.slice a n c) (.slice none n' c')).run Tryz.prog w = .ok (.bool a.isNone) w := fun w a n c n' c' => Lib.run_eql_slice_nil w _ _ a n c n' c' Tryz.underlying56
  have hv : ∃ (a : Option Addr) (c : Nat), v = .slice a l.length c ∧ (a = none → l = []) := by
    rcases h with ⟨rfl, a, c, rfl⟩ | ⟨g, off, cap, rfl, _⟩
    · exact ⟨a, c, rfl, fun _ => rfl⟩
    · exact ⟨_, _, rfl, fun e => by cases e⟩
  obtain ⟨a, c, rfl, hn⟩ := hv
  cases a with
  | none =>
    obtain rfl := hn rfl
    clear h hn
    go_enter Tryz.func91, Tryz.ntmps91
    go_wp2
    go_ret
    exact ⟨_, rfl, RBuf.nil itE w⟩
  | some p =>
    clear hn
    have hb := (RBuf.fresh itE w).here
    have hx := Lib.hid (h.later (belNew w (.cells #[] itE.ty)))
    clear h
    go_enter Tryz.func91, Tryz.ntmps91
    go_wp2_with (at_builtin; refine wpList_append_rd rfl _ _ itE rfl w.heap.size _ [] rfl hb _ l rfl hx.out (by simp [itE]; omega) ?_; intro v1 w1 r1 g1 _; obtain ⟨a1, c1, rfl⟩ := r1.form)
    go_ret
    rw [List.nil_append] at r1
    exact ⟨_, rfl, ⟨r1.own, ((Below.refl w.heap.size w).alloc (Nat.le_refl _) _).grown g1 (by simp) (fun k hk => by have : w.heap.size = k := Option.some.inj hk; omega), r1.le⟩⟩

set_option maxRecDepth 100000 in
set_option maxHeartbeats 4000000 in
theorem copyItems_any (l : List Itm) (v : Value) (w : World) (h : Rows' itE w v l) (hl : l.length ≤ 1048576) (hz : ∀ x ∈ l, x.2.user.size ≤ 1048576 ∧ x.2.name.size ≤ 1048576 ∧ x.2.text.size ≤ 1048576) :
    Calls Tryz.prog 69 #[v] w fun e w' => ∃ v', e = .returned v' ∧ RBuf itE w.heap.size w w' v' l := by
  have HC := Lib.hid (cloneI_any l v w h (by omega))
  have HZ := Lib.hid hz
  obtain ⟨ad, cap, rfl, _⟩ := h.items
  clear h hz
  go_enter Tryz.func69, Tryz.ntmps69
  go_wp2_with fail
  refine HC.out.mono ?_
  rintro e w1 ⟨v1, rfl, R1⟩
  obtain ⟨a1, c1, rfl⟩ := R1.form
  clear HC
  go_wp2
  go_loopw [9] (fun iv wr => ∃ i : Nat, i ≤ l.length ∧ iv = .int .i64 (i : Int) ∧ RBuf itE w.heap.size w wr (.slice a1 l.length c1) l) (fun iv _ => l.length - (intOf iv).toNat)
  case atStart => exact ⟨0, by omega, rfl, R1⟩
  case round =>
    clear R1
    obtain ⟨i, hi, rfl, I⟩ := hrel
    by_cases hlt : i < l.length
    · obtain ⟨x, hgx⟩ : ∃ x, l[i]? = some x := ⟨_, List.getElem?_eq_getElem hlt⟩
      obtain ⟨zu, zn, zt⟩ := HZ.out _ (List.mem_of_getElem? hgx)
      have HIT := Lib.hid I
      rcases I.own.2 with ⟨h1, h2⟩ | ⟨g, cp, cur, hv, _⟩
      · omega
      · obtain ⟨rfl, rfl⟩ : a1 = some ⟨g, 0, none⟩ ∧ c1 = cp := by simpa using hv
        clear hv
        have hi0 : (0 : Int) ≤ (i : Int) := by omega
        have hi1 : (i : Int) < (l.length : Int) := by omega
        have HF : Hid (∀ X, Below wr.heap.size wr X → RBuf itE w.heap.size w X (.slice (some ⟨g, 0, none⟩) l.length c1) l) := fun X hX => I.later hX
        obtain ⟨sq, r⟩ := x
        simp only at zu zn zt
        have HCI := Lib.hid (copyItem_any sq r wr (by omega) (by omega) (by omega))
        unfold itV at HCI
        have p0 := I.cell rfl i _ hgx 0 _ rfl
        have p1 := I.cell rfl i _ hgx 1 _ rfl
        have p2 := I.cell rfl i _ hgx 2 _ rfl
        have p3 := I.cell rfl i _ hgx 3 _ rfl
        have p4 := I.cell rfl i _ hgx 4 _ rfl
        have p5 := I.cell rfl i _ hgx 5 _ rfl
        have p6 := I.cell rfl i _ hgx 6 _ rfl
        have p7 := I.cell rfl i _ hgx 7 _ rfl
        have p8 := I.cell rfl i _ hgx 8 _ rfl
        change wr.cell? ⟨g, i * 9, none⟩ = some (.int .i64 sq) at p0
        change wr.cell? ⟨g, i * 9 + 1, none⟩ = some (.int .i64 r.kind) at p1
        change wr.cell? ⟨g, i * 9 + 2, none⟩ = some (.int .i64 r.valid) at p2
        change wr.cell? ⟨g, i * 9 + 3, none⟩ = some (.int .i64 r.uid) at p3
        change wr.cell? ⟨g, i * 9 + 4, none⟩ = some (.int .i64 r.next) at p4
        change wr.cell? ⟨g, i * 9 + 5, none⟩ = some (.int .i64 r.flags) at p5
        change wr.cell? ⟨g, i * 9 + 6, none⟩ = some (.string r.user) at p6
        change wr.cell? ⟨g, i * 9 + 7, none⟩ = some (.string r.name) at p7
        change wr.cell? ⟨g, i * 9 + 8, none⟩ = some (.string r.text) at p8
        have HGX := Lib.hid hgx
        clear hgx I HIT
        go_wp2_with fail
        clear p0 p1 p2 p3 p4 p5 p6 p7 p8
        refine HCI.out.mono ?_
        rintro e w2 ⟨rfl, k2⟩
        have I2 := HF.out _ k2
        have p0 := I2.cell rfl i _ HGX.out 0 _ rfl
        have p1 := I2.cell rfl i _ HGX.out 1 _ rfl
        have p2 := I2.cell rfl i _ HGX.out 2 _ rfl
        have p3 := I2.cell rfl i _ HGX.out 3 _ rfl
        have p4 := I2.cell rfl i _ HGX.out 4 _ rfl
        have p5 := I2.cell rfl i _ HGX.out 5 _ rfl
        have p6 := I2.cell rfl i _ HGX.out 6 _ rfl
        have p7 := I2.cell rfl i _ HGX.out 7 _ rfl
        have p8 := I2.cell rfl i _ HGX.out 8 _ rfl
        change w2.cell? ⟨g, i * 9, none⟩ = some (.int .i64 sq) at p0
        change w2.cell? ⟨g, i * 9 + 1, none⟩ = some (.int .i64 r.kind) at p1
        change w2.cell? ⟨g, i * 9 + 2, none⟩ = some (.int .i64 r.valid) at p2
        change w2.cell? ⟨g, i * 9 + 3, none⟩ = some (.int .i64 r.uid) at p3
        change w2.cell? ⟨g, i * 9 + 4, none⟩ = some (.int .i64 r.next) at p4
        change w2.cell? ⟨g, i * 9 + 5, none⟩ = some (.int .i64 r.flags) at p5
        change w2.cell? ⟨g, i * 9 + 6, none⟩ = some (.string r.user) at p6
        change w2.cell? ⟨g, i * 9 + 7, none⟩ = some (.string r.name) at p7
        change w2.cell? ⟨g, i * 9 + 8, none⟩ = some (.string r.text) at p8
        have f0 := I2.loose (i * 9)
        have f1 := I2.loose (i * 9 + 1)
        have f2 := I2.loose (i * 9 + 2)
        have f3 := I2.loose (i * 9 + 3)
        have f4 := I2.loose (i * 9 + 4)
        have f5 := I2.loose (i * 9 + 5)
        have f6 := I2.loose (i * 9 + 6)
        have f7 := I2.loose (i * 9 + 7)
        have f8 := I2.loose (i * 9 + 8)
        have s0 := setCell_same p0
        have s1 := setCell_same p1
        have s2 := setCell_same p2
        have s3 := setCell_same p3
        have s4 := setCell_same p4
        have s5 := setCell_same p5
        have s6 := setCell_same p6
        have s7 := setCell_same p7
        have s8 := setCell_same p8
        have HI2 := Lib.hid I2
        clear I2 HF HCI k2
        go_wp2
        exact ⟨⟨i + 1, by omega, by simp, by first | exact HI2.out | (simp only [s0, s1, s2, s3, s4, s5, s6, s7, s8]; exact HI2.out)⟩, by first | omega | (simp [intOf]; omega)⟩
    · go_wp2
      go_ret
      exact ⟨_, rfl, I⟩


set_option maxRecDepth 100000 in
set_option maxHeartbeats 4000000 in
theorem implItemsOf_any (L : Lg) (v : Value) (w : World) (h : LRd w v L) (hl : L.used.length + gIts L.used ≤ 1048576) (hz : ∀ b ∈ L.used, ∀ x ∈ b.items, x.2.user.size ≤ 1048576 ∧ x.2.name.size ≤ 1048576 ∧ x.2.text.size ≤ 1048576) :
    Calls Tryz.prog 43 #[v] w fun e w' => ∃ v', e = .returned v' ∧ RBuf itE w.heap.size w w' v' (its L.used) := by
  obtain ⟨va, vb, vu, rfl, _, hu⟩ := h
  obtain ⟨ad, cap, rfl, hrow⟩ := hu.segs
  have HR : Hid _ := hrow
  have HZ := Lib.hid hz
  clear hu hrow hz
  have b0 := belNew w (.cells #[va, vb, .int .i64 L.segs, .slice ad L.used.length cap, .int .i64 L.ng, .int .i64 L.ns, .int .i64 L.st, .int .i64 L.nv] 39)
  obtain ⟨W, hW⟩ : ∃ W, w.alloc (.cells #[va, vb, .int .i64 L.segs, .slice ad L.used.length cap, .int .i64 L.ng, .int .i64 L.ns, .int .i64 L.st, .int .i64 L.nv] 39) = W := ⟨_, rfl⟩
  have q0 := Box.new w #[va, vb, .int .i64 L.segs, .slice ad L.used.length cap, .int .i64 L.ng, .int .i64 L.ns, .int .i64 L.st, .int .i64 L.nv] 39
  rw [hW] at b0 q0
  have q3 := (q0.later (belNew W (.cells #[] 68))).cell 3 (.slice ad L.used.length cap) rfl
  clear q0
  have HW := Lib.hid hW
  clear hW
  have HGL := Lib.hid (fun i => gIts_take_le L.used i)
  obtain ⟨n, hn⟩ : ∃ n, L.used.length = n := ⟨_, rfl⟩
  rw [hn] at hl HW q3 ⊢
  have HN := Lib.hid hn
  clear hn
  have I0 := RBuf.fresh itE W
  go_enter Tryz.func43, Tryz.ntmps43
  go_upto_region 1 with fail
  rw [HW.out]
  have HB0 := Lib.hid b0
  clear b0 HW
  go_wp2
  clear q3
  go_loopw [3, 10] (fun v iv wr => ∃ k : Nat, k ≤ n ∧ iv = .int .i64 (k : Int) ∧ RBuf itE W.heap.size W wr v (its (L.used.take k))) (fun _ iv _ => n - (intOf iv).toNat)
  case atStart => exact ⟨0, by omega, rfl, I0⟩
  case round =>
    clear I0
    obtain ⟨k, hk, rfl, I⟩ := hrel
    by_cases hlt : k < n
    · obtain ⟨s, hgs⟩ : ∃ s, L.used[k]? = some s := ⟨_, List.getElem?_eq_getElem (by rw [HN.out]; exact hlt)⟩
      have bW := HB0.out.trans (I.bel.mono HB0.out.size)
      obtain ⟨ga, oa, am, nm, cm, rfl, a0, a1, a2, a4, rm⟩ := HR.out _ bW k s hgs
      have HT := Lib.hid (its_take hgs)
      have hlen : (its (L.used.take k)).length + s.items.length ≤ 1048576 := by
        have h1 := HGL.out (k + 1)
        rw [← its_len, HT.out, List.length_append] at h1
        omega
      have hzx := HZ.out s (List.mem_of_getElem? hgs)
      obtain ⟨us, hus⟩ : ∃ us, its (L.used.take k) = us := ⟨_, rfl⟩
      rw [hus] at I hlen HT
      have hi0 : (0 : Int) ≤ (k : Int) := by omega
      have hi1 : (k : Int) < (n : Int) := by omega
      have I4 := I.alloc (.cells #[.int .i64 s.no, .int .i64 s.gen, .int .i64 s.ende, .slice am nm cm] 60)
      have HCP := Lib.hid (copyItems_any s.items (.slice am nm cm) _ (rm.later (bW.alloc bW.size (.cells #[.int .i64 s.no, .int .i64 s.gen, .int .i64 s.ende, .slice am nm cm] 60))) (by omega) hzx)
      obtain ⟨a3, p3, rfl⟩ := I.form
      clear hgs hus rm hzx I
      go_wp2_with fail
      refine HCP.out.mono ?_
      rintro e w5 ⟨v5, rfl, R5⟩
      have I5 := I4.later R5.bel
      have HI := Lib.hid I5
      have HM := Lib.hid R5.rows
      obtain ⟨a5, c5, rfl⟩ := R5.form
      clear I4 I5 R5 HCP a0 a1 a2 a4
      go_wp2_with (at_builtin; refine wpList_append_rd rfl _ _ itE rfl W.heap.size _ us rfl HI.out.here _ s.items rfl HM.out (by show _ * 97 ≤ _; omega) ?_; intro v6 w6 r6 g6 at6)
      exact ⟨⟨k + 1, by omega, by simp, by rw [HT.out]; exact ⟨r6.own, HI.out.bel.grown g6 HI.out.le (fun q hq => (HI.out.own.lt q hq).1), r6.le⟩⟩, by first | omega | (simp [intOf]; omega)⟩
    · have HE : Hid (its L.used = its (L.used.take k)) := by show _ = _; rw [List.take_of_length_le (by rw [HN.out]; omega)]
      have HI := Lib.hid I
      clear I
      go_wp2
      go_ret
      exact ⟨_, rfl, by rw [HE.out]; exact HI.out.down (HB0.out.trans (HI.out.bel.mono HB0.out.size)) HB0.out.size⟩

end Go.Proofs.YtlifgcgoehkinaaGreatDoor

/- How many items a store of a law has, and how long their texts are. -/
namespace Go.Proofs.YtlifgcgoehkinaaGreatDoor
open Go.RowKit

theorem So.lean_its (S : So) (hL : S.lean) : S.g.used.length + gIts S.g.used ≤ 1048576 := by have := hL.1.2.1; omega
theorem So.its_len (S : So) (hL : S.lean) : (its S.g.used).length ≤ 1048576 := by have := S.lean_its hL; rw [Go.Proofs.YtlifgcgoehkinaaGreatDoor.its_len]; omega
theorem its_mem : ∀ {u : List Sg} {x : Itm}, x ∈ its u → ∃ b ∈ u, x ∈ b.items
  | s :: u, x, h => by
    rcases List.mem_append.1 (show x ∈ s.items ++ its u from h) with h | h
    · exact ⟨s, by simp, h⟩
    · obtain ⟨b, hb, hx⟩ := its_mem h
      exact ⟨b, by simp [hb], hx⟩
end Go.Proofs.YtlifgcgoehkinaaGreatDoor

/- What records tell, gathered box by box, plainly. -/
namespace Go.Proofs.YtlifgcgoehkinaaGreatDoor

structure Tb where
  named : Itm
  next : Int
  adds : Int → Option Itm
  flags : Int → Option Itm
def Tb.nil : Tb := ⟨(0, Rc.nil), 0, fun _ => none, fun _ => none⟩

end Go.Proofs.YtlifgcgoehkinaaGreatDoor

/- What is gone is taken away, plainly. -/
namespace Go.Proofs.YtlifgcgoehkinaaGreatDoor
open Classical

end Go.Proofs.YtlifgcgoehkinaaGreatDoor

/- The boxes that are told are those that the records of each Valid tell, plainly. -/
namespace Go.Proofs.YtlifgcgoehkinaaGreatDoor
end Go.Proofs.YtlifgcgoehkinaaGreatDoor

/- What is needed, plainly: by the model's words, and by who tells each subject. -/
namespace Go.Proofs.YtlifgcgoehkinaaGreatDoor

def hasO (l : List Itm) (k v u : Int) : Bool := (bestR k v u l).isSome
def thereO (l : List Itm) (v : Int) : Bool := hasO l 1 v 0 && !hasO l 2 v 0
def bigB (a b : Itm) : Bool := aheadB (fun x => x.2.next) a b
def anyBig (l : List Itm) (x : Itm) : Bool := l.any (fun y => decide (y.2.kind = 1 ∧ y.2.valid = x.2.valid) && bigB y x)
def anyOther (l : List Itm) (x : Itm) : Bool := l.any (fun y => decide (y.2.kind ≠ 2 ∧ y.2.valid = x.2.valid))
def seqB (o : Option Itm) (x : Itm) : Bool := decide ((bestX o).1 = x.1)
def needO (l : List Itm) (x : Itm) : Bool :=
  if x.2.kind = 1 then !anyBig l x && thereO l x.2.valid
  else if x.2.kind = 2 then anyOther l x && seqB (bestR 2 x.2.valid 0 l) x
  else if x.2.kind = 5 then (thereO l x.2.valid && hasO l 3 x.2.valid x.2.uid) && seqB (bestR 5 x.2.valid x.2.uid l) x
  else ((thereO l x.2.valid && hasO l 3 x.2.valid x.2.uid) && !hasO l 5 x.2.valid x.2.uid) && seqB (bestR x.2.kind x.2.valid x.2.uid l) x
def firstB (l : List Itm) (k : Nat) (x : Itm) : Bool := !(l.take k).any (fun y => decide (y.1 = x.1))
def needB (l : List Itm) (k : Nat) (x : Itm) : Bool := firstB l k x && needO l x
def needP (l : List Itm) (ok : Bool) : Nat → List Bool
  | 0 => []
  | i + 1 => needP l ok i ++ ((l[i]?).toList.map (fun x => ok && needB l i x))
theorem needP_step {l : List Itm} {ok : Bool} {i : Nat} {x : Itm} (h : l[i]? = some x) : needP l ok (i + 1) = needP l ok i ++ [ok && needB l i x] := by
  show _ ++ _ = _
  rw [h]; rfl
theorem needP_len (l : List Itm) (ok : Bool) : ∀ i, i ≤ l.length → (needP l ok i).length = i
  | 0, _ => rfl
  | i + 1, h => by
    have h1 := needP_len l ok i (by omega)
    rw [needP_step (List.getElem?_eq_getElem (by omega)), List.length_append, h1]
    rfl

def sjOf (x : Itm) : Int × Int × Int := (x.2.kind, x.2.valid, x.2.uid)
def telA (l : List Itm) (o : Option Nat) (x : Itm) : Bool := match o with
  | none => true
  | some j => match l[j]? with
    | some y => bigB x y
    | none => true
def telP (l : List Itm) : Nat → (Int × Int × Int) → Option Nat
  | 0 => fun _ => none
  | i + 1 => match l[i]? with
    | none => telP l i
    | some x => if telA l (telP l i (sjOf x)) x = true then (fun s => if s = sjOf x then some i else telP l i s) else telP l i
theorem telP_put {l : List Itm} {i : Nat} {x : Itm} (h : l[i]? = some x) (ha : telA l (telP l i (sjOf x)) x = true) : telP l (i + 1) = fun s => if s = sjOf x then some i else telP l i s := by
  show (match l[i]? with | none => telP l i | some x => if telA l (telP l i (sjOf x)) x = true then (fun s => if s = sjOf x then some i else telP l i s) else telP l i) = _
  rw [h]
  exact if_pos ha
theorem telP_keep {l : List Itm} {i : Nat} {x : Itm} (h : l[i]? = some x) (ha : ¬ telA l (telP l i (sjOf x)) x = true) : telP l (i + 1) = telP l i := by
  show (match l[i]? with | none => telP l i | some x => if telA l (telP l i (sjOf x)) x = true then (fun s => if s = sjOf x then some i else telP l i s) else telP l i) = _
  rw [h]
  exact if_neg ha

def TelI (l : List Itm) (i : Nat) : Prop := ∀ s, (telP l i s = none ∧ ∀ (j : Nat) (y : Itm), j < i → l[j]? = some y → sjOf y ≠ s) ∨
  ∃ (j : Nat) (x : Itm), telP l i s = some j ∧ j < i ∧ l[j]? = some x ∧ sjOf x = s ∧ (∀ (q : Nat) (y : Itm), q < i → l[q]? = some y → sjOf y = s → bigB y x = false) ∧ ∀ (q : Nat) (y : Itm), q < j → l[q]? = some y → sjOf y = s → bigB x y = true
theorem bigB_self (a : Itm) : bigB a a = false := by
  unfold bigB aheadB
  simp only [decide_eq_false_iff_not]
  omega
theorem bigB_not {a b : Itm} (h1 : bigB a b = true) : bigB b a = false := by
  unfold bigB aheadB at *
  simp only [decide_eq_true_eq, decide_eq_false_iff_not] at *
  omega
theorem bigB_like {a b c : Itm} (h1 : bigB a b = true) (h2 : bigB c b = false) : bigB a c = true := by
  unfold bigB aheadB at *
  simp only [decide_eq_true_eq, decide_eq_false_iff_not] at *
  omega
theorem telI : ∀ (l : List Itm) (i : Nat), i ≤ l.length → TelI l i
  | l, 0, _ => fun s => .inl ⟨rfl, fun j y h => by omega⟩
  | l, i + 1, h => by
    have ih := telI l i (by omega)
    obtain ⟨x, hx⟩ : ∃ x, l[i]? = some x := ⟨_, List.getElem?_eq_getElem (by omega)⟩
    intro s
    by_cases ha : telA l (telP l i (sjOf x)) x = true
    · rw [telP_put hx ha]
      by_cases hs : s = sjOf x
      · refine .inr ⟨i, x, if_pos hs, by omega, hx, hs.symm, fun q y hq hy e => ?_, fun q y hq hy e => ?_⟩
        · rcases ih s with ⟨h1, h2⟩ | ⟨j, z, h1, h2, h3, h4, h5, h6⟩
          · by_cases hqi : q = i
            · subst hqi; rw [hx] at hy; cases hy; exact bigB_self _
            · exact absurd e (h2 q y (by omega) hy)
          · rw [← hs, h1] at ha
            have hz : bigB x z = true := by
              have : telA l (some j) x = bigB x z := by unfold telA; simp only [h3]
              rw [← this]; exact ha
            by_cases hqi : q = i
            · subst hqi; rw [hx] at hy; cases hy; exact bigB_self _
            · exact bigB_not (bigB_like hz (h5 q y (by omega) hy e))
        · rcases ih s with ⟨h1, h2⟩ | ⟨j, z, h1, h2, h3, h4, h5, h6⟩
          · exact absurd e (h2 q y (by omega) hy)
          · rw [← hs, h1] at ha
            have hz : bigB x z = true := by
              have : telA l (some j) x = bigB x z := by unfold telA; simp only [h3]
              rw [← this]; exact ha
            exact bigB_like hz (h5 q y (by omega) hy e)
      · rcases ih s with ⟨h1, h2⟩ | ⟨j, z, h1, h2, h3, h4, h5, h6⟩
        · refine .inl ⟨(if_neg hs).trans h1, fun q y hq hy => ?_⟩
          by_cases hqi : q = i
          · subst hqi; rw [hx] at hy; cases hy; exact fun e => hs e.symm
          · exact h2 q y (by omega) hy
        · refine .inr ⟨j, z, (if_neg hs).trans h1, by omega, h3, h4, fun q y hq hy e => ?_, h6⟩
          by_cases hqi : q = i
          · subst hqi; rw [hx] at hy; cases hy; exact absurd e.symm hs
          · exact h5 q y (by omega) hy e
    · rw [telP_keep hx ha]
      rcases ih s with ⟨h1, h2⟩ | ⟨j, z, h1, h2, h3, h4, h5, h6⟩
      · refine .inl ⟨h1, fun q y hq hy => ?_⟩
        by_cases hqi : q = i
        · subst hqi
          rw [hx] at hy
          cases hy
          intro e
          rw [e, h1] at ha
          exact ha rfl
        · exact h2 q y (by omega) hy
      · refine .inr ⟨j, z, h1, by omega, h3, h4, fun q y hq hy e => ?_, h6⟩
        by_cases hqi : q = i
        · subst hqi
          rw [hx] at hy
          cases hy
          rw [e, h1] at ha
          have : telA l (some j) x = bigB x z := by unfold telA; simp only [h3]
          rw [this] at ha
          exact Bool.eq_false_iff.2 ha
        · exact h5 q y (by omega) hy e

end Go.Proofs.YtlifgcgoehkinaaGreatDoor
