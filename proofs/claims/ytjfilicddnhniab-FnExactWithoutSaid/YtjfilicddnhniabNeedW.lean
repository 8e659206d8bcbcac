/- Without of either side: the items of which drop is not so, in order. -/
import Derived.Test.YtjfilicddnhniabItemsOkS
import Derived.Test.YtjfilicddnhniabEncBo
import Derived.Test.YtjfilicddnhniabClone
import Derived.Lib.Hide
namespace Go.Proofs.Ytjfilicddnhniab
open Go.RowKit

/-- What is left of the first i. -/
def woT (l : List Itm) (d : List Bool) : Nat → List Itm
  | 0 => []
  | i + 1 => woT l d i ++ (if d[i]? = some true then [] else (l[i]?).toList)
def wo (l : List Itm) (d : List Bool) : List Itm := woT l d l.length
theorem woT_go {l : List Itm} {d : List Bool} {i : Nat} (h : d[i]? = some true) : woT l d (i + 1) = woT l d i := by
  show _ ++ _ = _
  rw [if_pos h, List.append_nil]
theorem woT_stay {l : List Itm} {d : List Bool} {i : Nat} {x : Itm} (h : d[i]? ≠ some true) (hx : l[i]? = some x) : woT l d (i + 1) = woT l d i ++ [x] := by
  show _ ++ _ = _
  rw [if_neg h, hx]; rfl
theorem woT_len (l : List Itm) (d : List Bool) : ∀ i, (woT l d i).length ≤ i
  | 0 => Nat.le_refl _
  | i + 1 => by
    have h := woT_len l d i
    show (woT l d i ++ _).length ≤ _
    rw [List.length_append]
    by_cases hd : d[i]? = some true
    · rw [if_pos hd]; simp; omega
    · rw [if_neg hd]; cases l[i]? <;> simp <;> omega
theorem wo_len (l : List Itm) (d : List Bool) : (wo l d).length ≤ l.length := woT_len l d _
theorem woT_mem {l : List Itm} {d : List Bool} : ∀ {i : Nat} {x : Itm}, x ∈ woT l d i → x ∈ l
  | i + 1, x, h => by
    rcases List.mem_append.1 h with h | h
    · exact woT_mem h
    · by_cases hd : d[i]? = some true
      · rw [if_pos hd] at h; cases h
      · rw [if_neg hd] at h
        cases hx : l[i]? with
        | none => rw [hx] at h; cases h
        | some y => rw [hx] at h; simp at h; subst h; exact List.mem_of_getElem? hx

/-- Whether a list of bools is so at a place. -/
def soB (d : List Bool) (k : Int) : Bool := decide (0 ≤ k ∧ d[k.toNat]? = some true)
theorem soB_nat (d : List Bool) (i : Nat) : soB d (i : Int) = decide (d[i]? = some true) := by
  unfold soB
  congr 1
  apply propext
  constructor
  · exact fun h => h.2
  · exact fun h => ⟨by omega, h⟩

/-- As a loop reads it. -/
def BoRow (w : World) (ad : Option Addr) (l : List Bool) : Prop := ∀ X, Below w.heap.size w X → ∀ (i : Nat) (x : Bool), l[i]? = some x → ∃ (g off : Nat), ad = some ⟨g, off, none⟩ ∧ X.cell? ⟨g, off + i, none⟩ = some (.bool x)
theorem Rows'.bools {w : World} {v : Value} {l : List Bool} (h : Rows' boE w v l) : ∃ (ad : Option Addr) (cap : Nat), v = .slice ad l.length cap ∧ BoRow w ad l := by
  rcases h.ways with ⟨rfl, a, c, rfl⟩ | ⟨hne, g, off, c, rfl, hc, hg, hcl⟩
  · exact ⟨a, c, rfl, fun X _ i x hi => by cases hi⟩
  · refine ⟨_, c, rfl, fun X hb i x hi => ⟨g, off, rfl, ?_⟩⟩
    have := hcl i x hi 0 _ rfl
    rw [show boE.sz = 1 from rfl, Nat.mul_one, Nat.add_zero] at this
    exact (hb.cell (p := ⟨g, off + i, none⟩) hg).trans this

set_option maxRecDepth 100000 in
set_option maxHeartbeats 4000000 in
theorem specWithout_any (l : List Itm) (d : List Bool) (v vd : Value) (w : World) (h : Rows' itE w v l) (hd : Rows' boE w vd d) (hl : l.length ≤ 1048576) :
    Calls Try.prog 27 #[v, vd] w fun e w' => ∃ v', e = .returned v' ∧ RBuf itE w.heap.size w w' v' (wo l d) := by
  obtain ⟨ad, cap, rfl, hrow⟩ := h.items
  obtain ⟨ab, cab, rfl, hbo⟩ := hd.bools
  have HR := Lib.hid hrow
  have HB := Lib.hid hbo
  clear h hd hrow hbo
  obtain ⟨n, hn⟩ : ∃ n, l.length = n := ⟨_, rfl⟩
  obtain ⟨m, hm⟩ : ∃ m, d.length = m := ⟨_, rfl⟩
  rw [hn, hm]
  have HN := Lib.hid hn
  have HM := Lib.hid hm
  rw [hn] at hl
  clear hn hm
  have I0 := RBuf.fresh itE w
  go_enter Try.func27, Try.ntmps27
  go_wp2
  go_loopw [5, 6] (fun v iv wr => ∃ i : Nat, i ≤ n ∧ iv = .int .i64 (i : Int) ∧ RBuf itE w.heap.size w wr v (woT l d i)) (fun _ iv _ => n - (intOf iv).toNat)
  case atStart => exact ⟨0, by omega, rfl, I0⟩
  case round =>
    clear I0
    obtain ⟨i, hi, rfl, I⟩ := hrel
    by_cases hlt : i < n
    · obtain ⟨x, hgx⟩ : ∃ x, l[i]? = some x := ⟨_, List.getElem?_eq_getElem (by rw [HN.out]; exact hlt)⟩
      obtain ⟨gp, op, rfl, p0, p1, p2, p3, p4, p5, p6, p7, p8⟩ := HR.out _ I.bel i _ hgx
      have hlu := woT_len l d i
      have HG := Lib.hid (fun h => woT_go (l := l) (d := d) (i := i) h)
      have HS := Lib.hid (fun h => woT_stay (l := l) (d := d) (i := i) h hgx)
      obtain ⟨us, hus⟩ : ∃ us, woT l d i = us := ⟨_, rfl⟩
      rw [hus] at I hlu HG HS
      have hi0 : (0 : Int) ≤ (i : Int) := by omega
      have hi1 : (i : Int) < (n : Int) := by omega
      have L6 := RBuf.lit1 itE wr x
      have HR6 := Lib.hid (I.alloc (.cells #[.int .i64 x.1, .int .i64 x.2.kind, .int .i64 x.2.valid, .int .i64 x.2.uid, .int .i64 x.2.next, .int .i64 x.2.flags, .string x.2.user, .string x.2.name, .string x.2.text] 79))
      have HL6 := Lib.hid L6
      have HI := Lib.hid I
      clear hgx hus L6 I
      by_cases hge : (m : Int) ≤ (i : Int)
      · have HS' : Hid (woT l d (i + 1) = us ++ [x]) := HS.out (fun e => by have := (List.getElem?_eq_some_iff.1 e).1; have := HM.out; omega)
        clear HG HS
        go_wp2_with (at_builtin; refine wpList_append_rows rfl _ _ itE rfl w.heap.size _ _ rfl HR6.out.here wr.heap.size _ [x] rfl HL6.out (by show _ * 97 ≤ _; simp only [List.length_cons, List.length_nil]; omega) ?_; intro v6 w6 r6 g6 at6)
        exact ⟨⟨i + 1, by omega, by simp, by rw [HS'.out]; exact ⟨r6.own, HR6.out.bel.grown g6 HR6.out.le (fun k hk => (HR6.out.own.lt k hk).1), r6.le⟩⟩, by first | omega | (simp [intOf]; omega)⟩
      · obtain ⟨b, hgb⟩ : ∃ b, d[i]? = some b := ⟨_, List.getElem?_eq_getElem (by rw [HM.out]; omega)⟩
        obtain ⟨gb, ob, rfl, pb⟩ := HB.out _ HI.out.bel i _ hgb
        have hi2 : (i : Int) < (m : Int) := by omega
        cases b with
        | true =>
          have HG' := Lib.hid (HG.out hgb)
          clear HG HS hgb p0 p1 p2 p3 p4 p5 p6 p7 p8
          go_wp2
          exact ⟨⟨i + 1, by omega, by simp, by rw [HG'.out]; exact HI.out⟩, by first | omega | (simp [intOf]; omega)⟩
        | false =>
          have HS' := Lib.hid (HS.out (by rw [hgb]; exact fun e => by cases e))
          clear HG HS hgb
          go_wp2_with (at_builtin; refine wpList_append_rows rfl _ _ itE rfl w.heap.size _ _ rfl HR6.out.here wr.heap.size _ [x] rfl HL6.out (by show _ * 97 ≤ _; simp only [List.length_cons, List.length_nil]; omega) ?_; intro v6 w6 r6 g6 at6)
          exact ⟨⟨i + 1, by omega, by simp, by rw [HS'.out]; exact ⟨r6.own, HR6.out.bel.grown g6 HR6.out.le (fun k hk => (HR6.out.own.lt k hk).1), r6.le⟩⟩, by first | omega | (simp [intOf]; omega)⟩
    · go_wp2
      go_ret
      refine ⟨_, rfl, ?_⟩
      have hil : i = l.length := by rw [HN.out]; omega
      rw [hil] at I
      exact I

set_option maxRecDepth 100000 in
theorem soAt_any (d : List Bool) (vd : Value) (k : Int) (w : World) (hd : Rows' boE w vd d) (hk : -9223372036854775808 ≤ k ∧ k ≤ 9223372036854775807) :
    Calls Try.prog 48 #[vd, .int .i64 k] w fun e w' => e = .returned (.bool (soB d k)) ∧ w = w' := by
  obtain ⟨ab, cab, rfl, hbo⟩ := hd.bools
  clear hd
  by_cases h0 : 0 ≤ k
  · obtain ⟨i, rfl⟩ : ∃ i : Nat, k = (i : Int) := ⟨k.toNat, by omega⟩
    rw [soB_nat]
    by_cases h1 : i < d.length
    · have hgb : d[i]? = some d[i] := List.getElem?_eq_getElem h1
      generalize d[i] = b at hgb
      obtain ⟨gb, ob, rfl, pb⟩ := hbo _ (Below.refl _ _) i _ hgb
      have hr : decide (d[i]? = some true) = b := by rw [hgb]; cases b <;> rfl
      have h2 : (i : Int) < (d.length : Int) := by omega
      rw [hr]
      clear hbo hgb hr
      go_enter Try.func48, Try.ntmps48
      go_wp2
      go_ret
      exact ⟨rfl, rfl⟩
    · have h2 : ¬ (i : Int) < (d.length : Int) := by omega
      have hr : decide (d[i]? = some true) = false := by rw [List.getElem?_eq_none (by omega)]; rfl
      rw [hr]
      clear hbo hr
      go_enter Try.func48, Try.ntmps48
      go_wp2
      go_ret
      exact ⟨rfl, rfl⟩
  · have hr : soB d k = false := by unfold soB; exact decide_eq_false (fun h => h0 h.1)
    rw [hr]
    clear hbo hr
    go_enter Try.func48, Try.ntmps48
    go_wp2
    go_ret
    exact ⟨rfl, rfl⟩

theorem setCell_same {w : World} {g i : Nat} {v : Value} (h : w.cell? ⟨g, i, none⟩ = some v) : w.setCell ⟨g, i, none⟩ v = w := by
  have : w.heap.modify g (fun
      | .cells c elem frozen => .cells (if (none : Option Nat).isSome then c else c.setIfInBounds i v) elem frozen
      | o => o) = w.heap := by
    apply Array.ext_getElem?
    intro k
    rw [Array.getElem?_modify]
    by_cases hk : g = k
    · subst hk
      rw [if_pos rfl]
      unfold World.cell? at h
      cases ho : w.heap[g]? with
      | none => rfl
      | some o =>
        rw [ho] at h
        cases o <;> simp_all
        rename_i c _ _
        apply Array.ext_getElem?
        intro j
        rw [Array.getElem?_setIfInBounds]
        by_cases hj : i = j
        · subst hj; simp_all; exact (Array.getElem?_eq_some_iff.1 h).1
        · simp [hj]
    · rw [if_neg hk]
  show { w with heap := _ } = w
  exact congrArg (fun hp => { w with heap := hp }) this

theorem Box.set9n {w : World} {b : Nat} {u0 u1 u2 u3 u4 u5 u6 u7 u8 : Value} {t : TypeId} (h : Box w b #[u0, u1, u2, u3, u4, u5, u6, u7, u8] t) (v0 v1 v2 v3 v4 v5 v6 v7 v8 : Value) : Box (((((((((w.setCell ⟨b, 0, none⟩ v0).setCell ⟨b, 1, none⟩ v1).setCell ⟨b, 2, none⟩ v2).setCell ⟨b, 3, none⟩ v3).setCell ⟨b, 4, none⟩ v4).setCell ⟨b, 5, none⟩ v5).setCell ⟨b, 6, none⟩ v6).setCell ⟨b, 7, none⟩ v7).setCell ⟨b, 8, none⟩ v8) b #[v0, v1, v2, v3, v4, v5, v6, v7, v8] t := by
  have h0 : Box (w.setCell ⟨b, 0, none⟩ v0) b #[v0, u1, u2, u3, u4, u5, u6, u7, u8] t := h.set 0 v0
  have h1 : Box ((w.setCell ⟨b, 0, none⟩ v0).setCell ⟨b, 1, none⟩ v1) b #[v0, v1, u2, u3, u4, u5, u6, u7, u8] t := h0.set 1 v1
  have h2 : Box (((w.setCell ⟨b, 0, none⟩ v0).setCell ⟨b, 1, none⟩ v1).setCell ⟨b, 2, none⟩ v2) b #[v0, v1, v2, u3, u4, u5, u6, u7, u8] t := h1.set 2 v2
  have h3 : Box ((((w.setCell ⟨b, 0, none⟩ v0).setCell ⟨b, 1, none⟩ v1).setCell ⟨b, 2, none⟩ v2).setCell ⟨b, 3, none⟩ v3) b #[v0, v1, v2, v3, u4, u5, u6, u7, u8] t := h2.set 3 v3
  have h4 : Box (((((w.setCell ⟨b, 0, none⟩ v0).setCell ⟨b, 1, none⟩ v1).setCell ⟨b, 2, none⟩ v2).setCell ⟨b, 3, none⟩ v3).setCell ⟨b, 4, none⟩ v4) b #[v0, v1, v2, v3, v4, u5, u6, u7, u8] t := h3.set 4 v4
  have h5 : Box ((((((w.setCell ⟨b, 0, none⟩ v0).setCell ⟨b, 1, none⟩ v1).setCell ⟨b, 2, none⟩ v2).setCell ⟨b, 3, none⟩ v3).setCell ⟨b, 4, none⟩ v4).setCell ⟨b, 5, none⟩ v5) b #[v0, v1, v2, v3, v4, v5, u6, u7, u8] t := h4.set 5 v5
  have h6 : Box (((((((w.setCell ⟨b, 0, none⟩ v0).setCell ⟨b, 1, none⟩ v1).setCell ⟨b, 2, none⟩ v2).setCell ⟨b, 3, none⟩ v3).setCell ⟨b, 4, none⟩ v4).setCell ⟨b, 5, none⟩ v5).setCell ⟨b, 6, none⟩ v6) b #[v0, v1, v2, v3, v4, v5, v6, u7, u8] t := h5.set 6 v6
  have h7 : Box ((((((((w.setCell ⟨b, 0, none⟩ v0).setCell ⟨b, 1, none⟩ v1).setCell ⟨b, 2, none⟩ v2).setCell ⟨b, 3, none⟩ v3).setCell ⟨b, 4, none⟩ v4).setCell ⟨b, 5, none⟩ v5).setCell ⟨b, 6, none⟩ v6).setCell ⟨b, 7, none⟩ v7) b #[v0, v1, v2, v3, v4, v5, v6, v7, u8] t := h6.set 7 v7
  have h8 : Box (((((((((w.setCell ⟨b, 0, none⟩ v0).setCell ⟨b, 1, none⟩ v1).setCell ⟨b, 2, none⟩ v2).setCell ⟨b, 3, none⟩ v3).setCell ⟨b, 4, none⟩ v4).setCell ⟨b, 5, none⟩ v5).setCell ⟨b, 6, none⟩ v6).setCell ⟨b, 7, none⟩ v7).setCell ⟨b, 8, none⟩ v8) b #[v0, v1, v2, v3, v4, v5, v6, v7, v8] t := h7.set 8 v8
  exact h8

set_option maxRecDepth 100000 in
set_option maxHeartbeats 4000000 in
theorem copyItem_any (sq : Int) (r : Rc) (w : World) (hu : r.user.size ≤ 281474976710656) (hn : r.name.size ≤ 281474976710656) (ht : r.text.size ≤ 281474976710656) :
    Calls Try.prog 55 #[itV sq r] w fun e w' => e = .returned (itV sq r) ∧ Below w.heap.size w w' := by
  unfold itV
  have X1 := (Box.new w #[.int .i64 sq, .int .i64 r.kind, .int .i64 r.valid, .int .i64 r.uid, .int .i64 r.next, .int .i64 r.flags, .string r.user, .string r.name, .string r.text] 79).later (belNew _ (.cells #[.int .i64 0, .int .i64 0, .int .i64 0, .int .i64 0, .int .i64 0, .int .i64 0, .string ⟨#[]⟩, .string ⟨#[]⟩, .string ⟨#[]⟩] 79))
  have X2 : Box ((w.alloc (.cells #[.int .i64 sq, .int .i64 r.kind, .int .i64 r.valid, .int .i64 r.uid, .int .i64 r.next, .int .i64 r.flags, .string r.user, .string r.name, .string r.text] 79)).alloc (.cells #[.int .i64 0, .int .i64 0, .int .i64 0, .int .i64 0, .int .i64 0, .int .i64 0, .string ⟨#[]⟩, .string ⟨#[]⟩, .string ⟨#[]⟩] 79)) (w.heap.size + 1) #[.int .i64 0, .int .i64 0, .int .i64 0, .int .i64 0, .int .i64 0, .int .i64 0, .string ⟨#[]⟩, .string ⟨#[]⟩, .string ⟨#[]⟩] 79 := by
    have := Box.new (w.alloc (.cells #[.int .i64 sq, .int .i64 r.kind, .int .i64 r.valid, .int .i64 r.uid, .int .i64 r.next, .int .i64 r.flags, .string r.user, .string r.name, .string r.text] 79)) #[.int .i64 0, .int .i64 0, .int .i64 0, .int .i64 0, .int .i64 0, .int .i64 0, .string ⟨#[]⟩, .string ⟨#[]⟩, .string ⟨#[]⟩] 79
    rwa [show (w.alloc (.cells #[.int .i64 sq, .int .i64 r.kind, .int .i64 r.valid, .int .i64 r.uid, .int .i64 r.next, .int .i64 r.flags, .string r.user, .string r.name, .string r.text] 79)).heap.size = w.heap.size + 1 from by simp] at this
  have b1 : Below w.heap.size w ((w.alloc (.cells #[.int .i64 sq, .int .i64 r.kind, .int .i64 r.valid, .int .i64 r.uid, .int .i64 r.next, .int .i64 r.flags, .string r.user, .string r.name, .string r.text] 79)).alloc (.cells #[.int .i64 0, .int .i64 0, .int .i64 0, .int .i64 0, .int .i64 0, .int .i64 0, .string ⟨#[]⟩, .string ⟨#[]⟩, .string ⟨#[]⟩] 79)) := ((Below.refl _ _).alloc (Nat.le_refl _) _).alloc (by simp) _
  go_enter Try.func55, Try.ntmps55
  go_upto_region 1 with fail
  generalize (w.alloc (.cells #[.int .i64 sq, .int .i64 r.kind, .int .i64 r.valid, .int .i64 r.uid, .int .i64 r.next, .int .i64 r.flags, .string r.user, .string r.name, .string r.text] 79)).alloc (.cells #[.int .i64 0, .int .i64 0, .int .i64 0, .int .i64 0, .int .i64 0, .int .i64 0, .string ⟨#[]⟩, .string ⟨#[]⟩, .string ⟨#[]⟩] 79) = w1 at X1 X2 b1 ⊢
  have H1 : Hid (∀ x, Below w1.heap.size w1 x → Box x w.heap.size #[.int .i64 sq, .int .i64 r.kind, .int .i64 r.valid, .int .i64 r.uid, .int .i64 r.next, .int .i64 r.flags, .string r.user, .string r.name, .string r.text] 79 ∧ Box x (w.heap.size + 1) #[.int .i64 0, .int .i64 0, .int .i64 0, .int .i64 0, .int .i64 0, .int .i64 0, .string ⟨#[]⟩, .string ⟨#[]⟩, .string ⟨#[]⟩] 79 ∧ Below w.heap.size w x) := fun x hx => ⟨X1.later hx, X2.later hx, b1.trans (hx.mono b1.size)⟩
  clear X1 X2 b1
  have c6 := (H1.out _ (Below.refl _ _)).1.cell 6 (.string r.user) rfl
  go_wp2_with fail
  clear c6
  refine (clone_any _ _ hu).mono ?_
  rintro e w2 ⟨rfl, k2⟩
  have c6 := (H1.out _ k2).1.cell 6 (.string r.user) rfl
  have f6 := (H1.out _ k2).1.loose 6
  go_upto_region 2 with fail
  rw [setCell_same c6]
  clear c6 f6
  have c7 := (H1.out _ k2).1.cell 7 (.string r.name) rfl
  go_wp2_with fail
  clear c7
  refine (clone_any _ _ hn).mono ?_
  rintro e w3 ⟨rfl, k3⟩
  have j3 := k2.trans (k3.mono k2.size)
  have c7 := (H1.out _ j3).1.cell 7 (.string r.name) rfl
  have f7 := (H1.out _ j3).1.loose 7
  go_upto_region 3 with fail
  rw [setCell_same c7]
  clear c7 f7 k2 k3
  have c8 := (H1.out _ j3).1.cell 8 (.string r.text) rfl
  go_wp2_with fail
  clear c8
  refine (clone_any _ _ ht).mono ?_
  rintro e w4 ⟨rfl, k4⟩
  have j4 := j3.trans (k4.mono j3.size)
  have c8 := (H1.out _ j4).1.cell 8 (.string r.text) rfl
  have f8 := (H1.out _ j4).1.loose 8
  go_upto_region 4 with fail
  rw [setCell_same c8]
  clear c8 f8 j3 k4
  obtain ⟨X1, X2, bE⟩ := H1.out _ j4
  obtain ⟨q0, q1, q2, q3, q4, q5, q6, q7, q8, _⟩ := X1.nine
  obtain ⟨z0, z1, z2, z3, z4, z5, z6, z7, z8, f0, f1, f2, f3, f4, f5, f6, f7, f8⟩ := X2.nine
  have X9 : Box (((((((((w4.setCell ⟨w.heap.size + 1, 0, none⟩ (.int .i64 sq)).setCell ⟨w.heap.size + 1, 1, none⟩ (.int .i64 r.kind)).setCell ⟨w.heap.size + 1, 2, none⟩ (.int .i64 r.valid)).setCell ⟨w.heap.size + 1, 3, none⟩ (.int .i64 r.uid)).setCell ⟨w.heap.size + 1, 4, none⟩ (.int .i64 r.next)).setCell ⟨w.heap.size + 1, 5, none⟩ (.int .i64 r.flags)).setCell ⟨w.heap.size + 1, 6, none⟩ (.string r.user)).setCell ⟨w.heap.size + 1, 7, none⟩ (.string r.name)).setCell ⟨w.heap.size + 1, 8, none⟩ (.string r.text)) (w.heap.size + 1) #[.int .i64 sq, .int .i64 r.kind, .int .i64 r.valid, .int .i64 r.uid, .int .i64 r.next, .int .i64 r.flags, .string r.user, .string r.name, .string r.text] 79 := X2.set9n _ _ _ _ _ _ _ _ _
  have B9 := Lib.hid (below_set9 bE (show w.heap.size ≤ w.heap.size + 1 by omega) (.int .i64 sq) (.int .i64 r.kind) (.int .i64 r.valid) (.int .i64 r.uid) (.int .i64 r.next) (.int .i64 r.flags) (.string r.user) (.string r.name) (.string r.text))
  obtain ⟨y0, y1, y2, y3, y4, y5, y6, y7, y8, _⟩ := X9.nine
  clear X1 X2 X9 bE j4 H1
  go_wp2
  refine bodyPost_ret (v := .agg #[.int .i64 sq, .int .i64 r.kind, .int .i64 r.valid, .int .i64 r.uid, .int .i64 r.next, .int .i64 r.flags, .string r.user, .string r.name, .string r.text]) (by simp [results, Try.results55, go_sem, y0, y1, y2, y3, y4, y5, y6, y7, y8]) rfl ⟨rfl, B9.out⟩

set_option maxRecDepth 100000 in
set_option maxHeartbeats 4000000 in
theorem implWithout_any (l : List Itm) (d : List Bool) (v vd : Value) (w : World) (h : Rows' itE w v l) (hd : Rows' boE w vd d) (hl : l.length ≤ 1048576) (hz : ∀ x ∈ l, x.2.user.size ≤ 281474976710656 ∧ x.2.name.size ≤ 281474976710656 ∧ x.2.text.size ≤ 281474976710656) :
    Calls Try.prog 29 #[v, vd] w fun e w' => ∃ v', e = .returned v' ∧ RBuf itE w.heap.size w w' v' (wo l d) := by
  obtain ⟨ad, cap, rfl, hrow⟩ := h.items
  have HR := Lib.hid hrow
  have HB : Hid (∀ x, Below w.heap.size w x → Rows' boE x vd d) := fun x hx => hd.later hx
  have HZ := Lib.hid hz
  obtain ⟨ab, cab, rfl, _⟩ := hd.bools
  clear h hd hrow hz
  obtain ⟨n, hn⟩ : ∃ n, l.length = n := ⟨_, rfl⟩
  obtain ⟨m, hm⟩ : ∃ m, d.length = m := ⟨_, rfl⟩
  rw [hm] at HB
  rw [hn, hm]
  have HN := Lib.hid hn
  rw [hn] at hl
  clear hn hm
  have I0 := RBuf.fresh itE w
  go_enter Try.func29, Try.ntmps29
  go_wp2
  go_loopw [5, 11] (fun v iv wr => ∃ i : Nat, i ≤ n ∧ iv = .int .i64 (i : Int) ∧ RBuf itE w.heap.size w wr v (woT l d i)) (fun _ iv _ => n - (intOf iv).toNat)
  case atStart => exact ⟨0, by omega, rfl, I0⟩
  case round =>
    clear I0
    obtain ⟨i, hi, rfl, I⟩ := hrel
    by_cases hlt : i < n
    · obtain ⟨x, hgx⟩ : ∃ x, l[i]? = some x := ⟨_, List.getElem?_eq_getElem (by rw [HN.out]; exact hlt)⟩
      obtain ⟨gp, op, rfl, p0, p1, p2, p3, p4, p5, p6, p7, p8⟩ := HR.out _ I.bel i _ hgx
      have hlu := woT_len l d i
      have HG := Lib.hid (fun h => woT_go (l := l) (d := d) (i := i) h)
      have HS := Lib.hid (fun h => woT_stay (l := l) (d := d) (i := i) h hgx)
      obtain ⟨us, hus⟩ : ∃ us, woT l d i = us := ⟨_, rfl⟩
      rw [hus] at I hlu HG HS
      obtain ⟨zu, zn, zt⟩ := HZ.out _ (List.mem_of_getElem? hgx)
      have hi0 : (0 : Int) ≤ (i : Int) := by omega
      have hi1 : (i : Int) < (n : Int) := by omega
      obtain ⟨sq, r⟩ := x
      simp only at p0 p1 p2 p3 p4 p5 p6 p7 p8 zu zn zt
      have X4 := Box.new wr #[.int .i64 sq, .int .i64 r.kind, .int .i64 r.valid, .int .i64 r.uid, .int .i64 r.next, .int .i64 r.flags, .string r.user, .string r.name, .string r.text] 79
      have I4 := I.alloc (.cells #[.int .i64 sq, .int .i64 r.kind, .int .i64 r.valid, .int .i64 r.uid, .int .i64 r.next, .int .i64 r.flags, .string r.user, .string r.name, .string r.text] 79)
      clear hgx hus I
      go_upto_region 5 with fail
      clear p0 p1 p2 p3 p4 p5 p6 p7 p8
      generalize wr.alloc (.cells #[.int .i64 sq, .int .i64 r.kind, .int .i64 r.valid, .int .i64 r.uid, .int .i64 r.next, .int .i64 r.flags, .string r.user, .string r.name, .string r.text] 79) = w4 at X4 I4 ⊢
      generalize wr.heap.size = g4 at X4 ⊢
      have HSO := Lib.hid (soAt_any d _ (i : Int) w4 (HB.out _ I4.bel) (by omega))
      rw [soB_nat] at HSO
      by_cases hdt : d[i]? = some true
      · have HG' := Lib.hid (HG.out hdt)
        rw [decide_eq_true hdt] at HSO
        clear HG HS hdt X4
        go_wp2_with fail
        refine HSO.out.mono ?_
        rintro e w5 ⟨rfl, rfl⟩
        go_wp2
        exact ⟨⟨i + 1, by omega, by simp, by rw [HG'.out]; exact I4⟩, by first | omega | (simp [intOf]; omega)⟩
      · have HS' := Lib.hid (HS.out hdt)
        rw [decide_eq_false hdt] at HSO
        clear HG HS hdt
        go_wp2_with fail
        refine HSO.out.mono ?_
        rintro e w5 ⟨rfl, rfl⟩
        obtain ⟨q0, q1, q2, q3, q4, q5, q6, q7, q8, _⟩ := X4.nine
        have HCI := Lib.hid (copyItem_any sq r w4 zu zn zt)
        unfold itV at HCI
        clear X4
        go_wp2_with fail
        clear q0 q1 q2 q3 q4 q5 q6 q7 q8
        refine HCI.out.mono ?_
        rintro e w6 ⟨rfl, k6⟩
        have I6 := I4.later k6
        have HR6 := Lib.hid (I6.alloc (.cells #[.int .i64 sq, .int .i64 r.kind, .int .i64 r.valid, .int .i64 r.uid, .int .i64 r.next, .int .i64 r.flags, .string r.user, .string r.name, .string r.text] 79))
        have L6 := RBuf.lit1 itE w6 (sq, r)
        have HL6 := Lib.hid L6
        clear I4 I6 k6 L6 HCI HSO
        go_wp2_with (at_builtin; refine wpList_append_rows rfl _ _ itE rfl w.heap.size _ _ rfl HR6.out.here w6.heap.size _ [(sq, r)] rfl HL6.out (by show _ * 97 ≤ _; simp only [List.length_cons, List.length_nil]; omega) ?_; intro v6 w7 r6 g6 at6)
        exact ⟨⟨i + 1, by omega, by simp, by rw [HS'.out]; exact ⟨r6.own, HR6.out.bel.grown g6 HR6.out.le (fun k hk => (HR6.out.own.lt k hk).1), r6.le⟩⟩, by first | omega | (simp [intOf]; omega)⟩
    · go_wp2
      go_ret
      refine ⟨_, rfl, ?_⟩
      have hil : i = l.length := by rw [HN.out]; omega
      rw [hil] at I
      exact I

end Go.Proofs.Ytjfilicddnhniab
