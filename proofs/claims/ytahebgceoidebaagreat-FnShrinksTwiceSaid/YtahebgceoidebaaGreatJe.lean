/- Texts of our own, joined. -/
import Derived.Test.YtahebgceoidebaaGreatJd
import Derived.Test.YtahebgceoidebaaGreatJc
import Derived.Lib.Hide
import Derived.Test.YtahebgceoidebaaGreatJb
import Derived.Maps.AppendAt
/- Without of either side: the items of which drop is not so, in order. -/
namespace Go.Proofs.YtahebgceoidebaaGreat
open Go.RowKit

/-- What is left of the first i. -/
def woT (l : List Itm) (d : List Bool) : Nat → List Itm
  | 0 => []
  | i + 1 => woT l d i ++ (if d[i]? = some true then [] else (l[i]?).toList)
def wo (l : List Itm) (d : List Bool) : List Itm := woT l d l.length
theorem woT_go {l : List Itm} {d : List Bool} {i : Nat} (h : d[i]? = some true) : woT l d (i + 1) = woT l d i := by
  show _ ++ _ = _
  rw [if_pos h, List.append_nil]
theorem woT_stay {l : List Itm} {d : List Bool} {i : Nat} {x : Itm} (h : d[i]? ≠ some true) (hx : l[i]? = some x) : woT l d (i + 1) = woT l d i ++ [x] := by
  show _ ++ _ = _
  rw [if_neg h, hx]; rfl
theorem woT_len (l : List Itm) (d : List Bool) : ∀ i, (woT l d i).length ≤ i
  | 0 => Nat.le_refl _
  | i + 1 => by
    have h := woT_len l d i
    show (woT l d i ++ _).length ≤ _
    rw [List.length_append]
    by_cases hd : d[i]? = some true
    · rw [if_pos hd]; simp; omega
    · rw [if_neg hd]; cases l[i]? <;> simp <;> omega
theorem wo_len (l : List Itm) (d : List Bool) : (wo l d).length ≤ l.length := woT_len l d _
theorem woT_mem {l : List Itm} {d : List Bool} : ∀ {i : Nat} {x : Itm}, x ∈ woT l d i → x ∈ l
  | i + 1, x, h => by
    rcases List.mem_append.1 h with h | h
    · exact woT_mem h
    · by_cases hd : d[i]? = some true
      · rw [if_pos hd] at h; cases h
      · rw [if_neg hd] at h
        cases hx : l[i]? with
        | none => rw [hx] at h; cases h
        | some y => rw [hx] at h; simp at h; subst h; exact List.mem_of_getElem? hx

/-- Whether a list of bools is so at a place. -/
def soB (d : List Bool) (k : Int) : Bool := decide (0 ≤ k ∧ d[k.toNat]? = some true)
theorem soB_nat (d : List Bool) (i : Nat) : soB d (i : Int) = decide (d[i]? = some true) := by
  unfold soB
  congr 1
  apply propext
  constructor
  · exact fun h => h.2
  · exact fun h => ⟨by omega, h⟩

/-- As a loop reads it. -/
def BoRow (w : World) (ad : Option Addr) (l : List Bool) : Prop := ∀ X, Below w.heap.size w X → ∀ (i : Nat) (x : Bool), l[i]? = some x → ∃ (g off : Nat), ad = some ⟨g, off, none⟩ ∧ X.cell? ⟨g, off + i, none⟩ = some (.bool x)
theorem Rows'.bools {w : World} {v : Value} {l : List Bool} (h : Rows' boE w v l) : ∃ (ad : Option Addr) (cap : Nat), v = .slice ad l.length cap ∧ BoRow w ad l := by
  rcases h.ways with ⟨rfl, a, c, rfl⟩ | ⟨hne, g, off, c, rfl, hc, hg, hcl⟩
  · exact ⟨a, c, rfl, fun X _ i x hi => by cases hi⟩
  · refine ⟨_, c, rfl, fun X hb i x hi => ⟨g, off, rfl, ?_⟩⟩
    have := hcl i x hi 0 _ rfl
    rw [show boE.sz = 1 from rfl, Nat.mul_one, Nat.add_zero] at this
    exact (hb.cell (p := ⟨g, off + i, none⟩) hg).trans this

set_option maxRecDepth 100000 in
set_option maxHeartbeats 4000000 in
theorem specWithout_any (l : List Itm) (d : List Bool) (v vd : Value) (w : World) (h : Rows' itE w v l) (hd : Rows' boE w vd d) (hl : l.length ≤ 1048576) :
    Calls Tryz.prog 27 #[v, vd] w fun e w' => ∃ v', e = .returned v' ∧ RBuf itE w.heap.size w w' v' (wo l d) := by
  obtain ⟨ad, cap, rfl, hrow⟩ := h.items
  obtain ⟨ab, cab, rfl, hbo⟩ := hd.bools
  have HR := Lib.hid hrow
  have HB := Lib.hid hbo
  clear h hd hrow hbo
  obtain ⟨n, hn⟩ : ∃ n, l.length = n := ⟨_, rfl⟩
  obtain ⟨m, hm⟩ : ∃ m, d.length = m := ⟨_, rfl⟩
  rw [hn, hm]
  have HN := Lib.hid hn
  have HM := Lib.hid hm
  rw [hn] at hl
  clear hn hm
  have I0 := RBuf.fresh itE w
  go_enter Tryz.func27, Tryz.ntmps27
  go_wp2
  go_loopw [5, 6] (fun v iv wr => ∃ i : Nat, i ≤ n ∧ iv = .int .i64 (i : Int) ∧ RBuf itE w.heap.size w wr v (woT l d i)) (fun _ iv _ => n - (intOf iv).toNat)
  case atStart => exact ⟨0, by omega, rfl, I0⟩
  case round =>
    clear I0
    obtain ⟨i, hi, rfl, I⟩ := hrel
    by_cases hlt : i < n
    · obtain ⟨x, hgx⟩ : ∃ x, l[i]? = some x := ⟨_, List.getElem?_eq_getElem (by rw [HN.out]; exact hlt)⟩
      obtain ⟨gp, op, rfl, p0, p1, p2, p3, p4, p5, p6, p7, p8⟩ := HR.out _ I.bel i _ hgx
      have hlu := woT_len l d i
      have HG := Lib.hid (fun h => woT_go (l := l) (d := d) (i := i) h)
      have HS := Lib.hid (fun h => woT_stay (l := l) (d := d) (i := i) h hgx)
      obtain ⟨us, hus⟩ : ∃ us, woT l d i = us := ⟨_, rfl⟩
      rw [hus] at I hlu HG HS
      have hi0 : (0 : Int) ≤ (i : Int) := by omega
      have hi1 : (i : Int) < (n : Int) := by omega
      have L6 := RBuf.lit1 itE wr x
      have HR6 := Lib.hid (I.alloc (.cells #[.int .i64 x.1, .int .i64 x.2.kind, .int .i64 x.2.valid, .int .i64 x.2.uid, .int .i64 x.2.next, .int .i64 x.2.flags, .string x.2.user, .string x.2.name, .string x.2.text] 49))
      have HL6 := Lib.hid L6
      have HI := Lib.hid I
      clear hgx hus L6 I
      by_cases hge : (m : Int) ≤ (i : Int)
      · have HS' : Hid (woT l d (i + 1) = us ++ [x]) := HS.out (fun e => by have := (List.getElem?_eq_some_iff.1 e).1; have := HM.out; omega)
        clear HG HS
        go_wp2_with (at_builtin; refine wpList_append_rows rfl _ _ itE rfl w.heap.size _ _ rfl HR6.out.here wr.heap.size _ [x] rfl HL6.out (by show _ * 97 ≤ _; simp only [List.length_cons, List.length_nil]; omega) ?_; intro v6 w6 r6 g6 at6)
        exact ⟨⟨i + 1, by omega, by simp, by rw [HS'.out]; exact ⟨r6.own, HR6.out.bel.grown g6 HR6.out.le (fun k hk => (HR6.out.own.lt k hk).1), r6.le⟩⟩, by first | omega | (simp [intOf]; omega)⟩
      · obtain ⟨b, hgb⟩ : ∃ b, d[i]? = some b := ⟨_, List.getElem?_eq_getElem (by rw [HM.out]; omega)⟩
        obtain ⟨gb, ob, rfl, pb⟩ := HB.out _ HI.out.bel i _ hgb
        have hi2 : (i : Int) < (m : Int) := by omega
        cases b with
        | true =>
          have HG' := Lib.hid (HG.out hgb)
          clear HG HS hgb p0 p1 p2 p3 p4 p5 p6 p7 p8
          go_wp2
          exact ⟨⟨i + 1, by omega, by simp, by rw [HG'.out]; exact HI.out⟩, by first | omega | (simp [intOf]; omega)⟩
        | false =>
          have HS' := Lib.hid (HS.out (by rw [hgb]; exact fun e => by cases e))
          clear HG HS hgb
          go_wp2_with (at_builtin; refine wpList_append_rows rfl _ _ itE rfl w.heap.size _ _ rfl HR6.out.here wr.heap.size _ [x] rfl HL6.out (by show _ * 97 ≤ _; simp only [List.length_cons, List.length_nil]; omega) ?_; intro v6 w6 r6 g6 at6)
          exact ⟨⟨i + 1, by omega, by simp, by rw [HS'.out]; exact ⟨r6.own, HR6.out.bel.grown g6 HR6.out.le (fun k hk => (HR6.out.own.lt k hk).1), r6.le⟩⟩, by first | omega | (simp [intOf]; omega)⟩
    · go_wp2
      go_ret
      refine ⟨_, rfl, ?_⟩
      have hil : i = l.length := by rw [HN.out]; omega
      rw [hil] at I
      exact I

set_option maxRecDepth 100000 in
theorem soAt_any (d : List Bool) (vd : Value) (k : Int) (w : World) (hd : Rows' boE w vd d) (hk : -9223372036854775808 ≤ k ∧ k ≤ 9223372036854775807) :
    Calls Tryz.prog 32 #[vd, .int .i64 k] w fun e w' => e = .returned (.bool (soB d k)) ∧ w = w' := by
  obtain ⟨ab, cab, rfl, hbo⟩ := hd.bools
  clear hd
  by_cases h0 : 0 ≤ k
  · obtain ⟨i, rfl⟩ : ∃ i : Nat, k = (i : Int) := ⟨k.toNat, by omega⟩
    rw [soB_nat]
    by_cases h1 : i < d.length
    · have hgb : d[i]? = some d[i] := List.getElem?_eq_getElem h1
      generalize d[i] = b at hgb
      obtain ⟨gb, ob, rfl, pb⟩ := hbo _ (Below.refl _ _) i _ hgb
      have hr : decide (d[i]? = some true) = b := by rw [hgb]; cases b <;> rfl
      have h2 : (i : Int) < (d.length : Int) := by omega
      rw [hr]
      clear hbo hgb hr
      go_enter Tryz.func32, Tryz.ntmps32
      go_wp2
      go_ret
      exact ⟨rfl, rfl⟩
    · have h2 : ¬ (i : Int) < (d.length : Int) := by omega
      have hr : decide (d[i]? = some true) = false := by rw [List.getElem?_eq_none (by omega)]; rfl
      rw [hr]
      clear hbo hr
      go_enter Tryz.func32, Tryz.ntmps32
      go_wp2
      go_ret
      exact ⟨rfl, rfl⟩
  · have hr : soB d k = false := by unfold soB; exact decide_eq_false (fun h => h0 h.1)
    rw [hr]
    clear hbo hr
    go_enter Tryz.func32, Tryz.ntmps32
    go_wp2
    go_ret
    exact ⟨rfl, rfl⟩

theorem setCell_same {w : World} {g i : Nat} {v : Value} (h : w.cell? ⟨g, i, none⟩ = some v) : w.setCell ⟨g, i, none⟩ v = w := by
  have : w.heap.modify g (fun
      | .cells c elem frozen => .cells (if (none : Option Nat).isSome then c else c.setIfInBounds i v) elem frozen
      | o => o) = w.heap := by
    apply Array.ext_getElem?
    intro k
    rw [Array.getElem?_modify]
    by_cases hk : g = k
    · subst hk
      rw [if_pos rfl]
      unfold World.cell? at h
      cases ho : w.heap[g]? with
      | none => rfl
      | some o =>
        rw [ho] at h
        cases o <;> simp_all
        rename_i c _ _
        apply Array.ext_getElem?
        intro j
        rw [Array.getElem?_setIfInBounds]
        by_cases hj : i = j
        · subst hj; simp_all; exact (Array.getElem?_eq_some_iff.1 h).1
        · simp [hj]
    · rw [if_neg hk]
  show { w with heap := _ } = w
  exact congrArg (fun hp => { w with heap := hp }) this

theorem Box.set9n {w : World} {b : Nat} {u0 u1 u2 u3 u4 u5 u6 u7 u8 : Value} {t : TypeId} (h : Box w b #[u0, u1, u2, u3, u4, u5, u6, u7, u8] t) (v0 v1 v2 v3 v4 v5 v6 v7 v8 : Value) : Box (((((((((w.setCell ⟨b, 0, none⟩ v0).setCell ⟨b, 1, none⟩ v1).setCell ⟨b, 2, none⟩ v2).setCell ⟨b, 3, none⟩ v3).setCell ⟨b, 4, none⟩ v4).setCell ⟨b, 5, none⟩ v5).setCell ⟨b, 6, none⟩ v6).setCell ⟨b, 7, none⟩ v7).setCell ⟨b, 8, none⟩ v8) b #[v0, v1, v2, v3, v4, v5, v6, v7, v8] t := by
  have h0 : Box (w.setCell ⟨b, 0, none⟩ v0) b #[v0, u1, u2, u3, u4, u5, u6, u7, u8] t := h.set 0 v0
  have h1 : Box ((w.setCell ⟨b, 0, none⟩ v0).setCell ⟨b, 1, none⟩ v1) b #[v0, v1, u2, u3, u4, u5, u6, u7, u8] t := h0.set 1 v1
  have h2 : Box (((w.setCell ⟨b, 0, none⟩ v0).setCell ⟨b, 1, none⟩ v1).setCell ⟨b, 2, none⟩ v2) b #[v0, v1, v2, u3, u4, u5, u6, u7, u8] t := h1.set 2 v2
  have h3 : Box ((((w.setCell ⟨b, 0, none⟩ v0).setCell ⟨b, 1, none⟩ v1).setCell ⟨b, 2, none⟩ v2).setCell ⟨b, 3, none⟩ v3) b #[v0, v1, v2, v3, u4, u5, u6, u7, u8] t := h2.set 3 v3
  have h4 : Box (((((w.setCell ⟨b, 0, none⟩ v0).setCell ⟨b, 1, none⟩ v1).setCell ⟨b, 2, none⟩ v2).setCell ⟨b, 3, none⟩ v3).setCell ⟨b, 4, none⟩ v4) b #[v0, v1, v2, v3, v4, u5, u6, u7, u8] t := h3.set 4 v4
  have h5 : Box ((((((w.setCell ⟨b, 0, none⟩ v0).setCell ⟨b, 1, none⟩ v1).setCell ⟨b, 2, none⟩ v2).setCell ⟨b, 3, none⟩ v3).setCell ⟨b, 4, none⟩ v4).setCell ⟨b, 5, none⟩ v5) b #[v0, v1, v2, v3, v4, v5, u6, u7, u8] t := h4.set 5 v5
  have h6 : Box (((((((w.setCell ⟨b, 0, none⟩ v0).setCell ⟨b, 1, none⟩ v1).setCell ⟨b, 2, none⟩ v2).setCell ⟨b, 3, none⟩ v3).setCell ⟨b, 4, none⟩ v4).setCell ⟨b, 5, none⟩ v5).setCell ⟨b, 6, none⟩ v6) b #[v0, v1, v2, v3, v4, v5, v6, u7, u8] t := h5.set 6 v6
  have h7 : Box ((((((((w.setCell ⟨b, 0, none⟩ v0).setCell ⟨b, 1, none⟩ v1).setCell ⟨b, 2, none⟩ v2).setCell ⟨b, 3, none⟩ v3).setCell ⟨b, 4, none⟩ v4).setCell ⟨b, 5, none⟩ v5).setCell ⟨b, 6, none⟩ v6).setCell ⟨b, 7, none⟩ v7) b #[v0, v1, v2, v3, v4, v5, v6, v7, u8] t := h6.set 7 v7
  have h8 : Box (((((((((w.setCell ⟨b, 0, none⟩ v0).setCell ⟨b, 1, none⟩ v1).setCell ⟨b, 2, none⟩ v2).setCell ⟨b, 3, none⟩ v3).setCell ⟨b, 4, none⟩ v4).setCell ⟨b, 5, none⟩ v5).setCell ⟨b, 6, none⟩ v6).setCell ⟨b, 7, none⟩ v7).setCell ⟨b, 8, none⟩ v8) b #[v0, v1, v2, v3, v4, v5, v6, v7, v8] t := h7.set 8 v8
  exact h8

set_option maxRecDepth 100000 in
set_option maxHeartbeats 4000000 in
theorem copyItem_any (sq : Int) (r : Rc) (w : World) (hu : r.user.size ≤ 281474976710656) (hn : r.name.size ≤ 281474976710656) (ht : r.text.size ≤ 281474976710656) :
    Calls Tryz.prog 44 #[itV sq r] w fun e w' => e = .returned (itV sq r) ∧ Below w.heap.size w w' := by
  unfold itV
  have X1 := (Box.new w #[.int .i64 sq, .int .i64 r.kind, .int .i64 r.valid, .int .i64 r.uid, .int .i64 r.next, .int .i64 r.flags, .string r.user, .string r.name, .string r.text] 49).later (belNew _ (.cells #[.int .i64 0, .int .i64 0, .int .i64 0, .int .i64 0, .int .i64 0, .int .i64 0, .string ⟨#[]⟩, .string ⟨#[]⟩, .string ⟨#[]⟩] 49))
  have X2 : Box ((w.alloc (.cells #[.int .i64 sq, .int .i64 r.kind, .int .i64 r.valid, .int .i64 r.uid, .int .i64 r.next, .int .i64 r.flags, .string r.user, .string r.name, .string r.text] 49)).alloc (.cells #[.int .i64 0, .int .i64 0, .int .i64 0, .int .i64 0, .int .i64 0, .int .i64 0, .string ⟨#[]⟩, .string ⟨#[]⟩, .string ⟨#[]⟩] 49)) (w.heap.size + 1) #[.int .i64 0, .int .i64 0, .int .i64 0, .int .i64 0, .int .i64 0, .int .i64 0, .string ⟨#[]⟩, .string ⟨#[]⟩, .string ⟨#[]⟩] 49 := by
    have := Box.new (w.alloc (.cells #[.int .i64 sq, .int .i64 r.kind, .int .i64 r.valid, .int .i64 r.uid, .int .i64 r.next, .int .i64 r.flags, .string r.user, .string r.name, .string r.text] 49)) #[.int .i64 0, .int .i64 0, .int .i64 0, .int .i64 0, .int .i64 0, .int .i64 0, .string ⟨#[]⟩, .string ⟨#[]⟩, .string ⟨#[]⟩] 49
    rwa [show (w.alloc (.cells #[.int .i64 sq, .int .i64 r.kind, .int .i64 r.valid, .int .i64 r.uid, .int .i64 r.next, .int .i64 r.flags, .string r.user, .string r.name, .string r.text] 49)).heap.size = w.heap.size + 1 from by simp] at this
  have b1 : Below w.heap.size w ((w.alloc (.cells #[.int .i64 sq, .int .i64 r.kind, .int .i64 r.valid, .int .i64 r.uid, .int .i64 r.next, .int .i64 r.flags, .string r.user, .string r.name, .string r.text] 49)).alloc (.cells #[.int .i64 0, .int .i64 0, .int .i64 0, .int .i64 0, .int .i64 0, .int .i64 0, .string ⟨#[]⟩, .string ⟨#[]⟩, .string ⟨#[]⟩] 49)) := ((Below.refl _ _).alloc (Nat.le_refl _) _).alloc (by simp) _
  go_enter Tryz.func44, Tryz.ntmps44
  go_upto_region 1 with fail
  generalize (w.alloc (.cells #[.int .i64 sq, .int .i64 r.kind, .int .i64 r.valid, .int .i64 r.uid, .int .i64 r.next, .int .i64 r.flags, .string r.user, .string r.name, .string r.text] 49)).alloc (.cells #[.int .i64 0, .int .i64 0, .int .i64 0, .int .i64 0, .int .i64 0, .int .i64 0, .string ⟨#[]⟩, .string ⟨#[]⟩, .string ⟨#[]⟩] 49) = w1 at X1 X2 b1 ⊢
  have H1 : Hid (∀ x, Below w1.heap.size w1 x → Box x w.heap.size #[.int .i64 sq, .int .i64 r.kind, .int .i64 r.valid, .int .i64 r.uid, .int .i64 r.next, .int .i64 r.flags, .string r.user, .string r.name, .string r.text] 49 ∧ Box x (w.heap.size + 1) #[.int .i64 0, .int .i64 0, .int .i64 0, .int .i64 0, .int .i64 0, .int .i64 0, .string ⟨#[]⟩, .string ⟨#[]⟩, .string ⟨#[]⟩] 49 ∧ Below w.heap.size w x) := fun x hx => ⟨X1.later hx, X2.later hx, b1.trans (hx.mono b1.size)⟩
  clear X1 X2 b1
  have c6 := (H1.out _ (Below.refl _ _)).1.cell 6 (.string r.user) rfl
  go_wp2_with fail
  clear c6
  refine (clone_any _ _ hu).mono ?_
  rintro e w2 ⟨rfl, k2⟩
  have c6 := (H1.out _ k2).1.cell 6 (.string r.user) rfl
  have f6 := (H1.out _ k2).1.loose 6
  go_upto_region 2 with fail
  rw [setCell_same c6]
  clear c6 f6
  have c7 := (H1.out _ k2).1.cell 7 (.string r.name) rfl
  go_wp2_with fail
  clear c7
  refine (clone_any _ _ hn).mono ?_
  rintro e w3 ⟨rfl, k3⟩
  have j3 := k2.trans (k3.mono k2.size)
  have c7 := (H1.out _ j3).1.cell 7 (.string r.name) rfl
  have f7 := (H1.out _ j3).1.loose 7
  go_upto_region 3 with fail
  rw [setCell_same c7]
  clear c7 f7 k2 k3
  have c8 := (H1.out _ j3).1.cell 8 (.string r.text) rfl
  go_wp2_with fail
  clear c8
  refine (clone_any _ _ ht).mono ?_
  rintro e w4 ⟨rfl, k4⟩
  have j4 := j3.trans (k4.mono j3.size)
  have c8 := (H1.out _ j4).1.cell 8 (.string r.text) rfl
  have f8 := (H1.out _ j4).1.loose 8
  go_upto_region 4 with fail
  rw [setCell_same c8]
  clear c8 f8 j3 k4
  obtain ⟨X1, X2, bE⟩ := H1.out _ j4
  obtain ⟨q0, q1, q2, q3, q4, q5, q6, q7, q8, _⟩ := X1.nine
  obtain ⟨z0, z1, z2, z3, z4, z5, z6, z7, z8, f0, f1, f2, f3, f4, f5, f6, f7, f8⟩ := X2.nine
  have X9 : Box (((((((((w4.setCell ⟨w.heap.size + 1, 0, none⟩ (.int .i64 sq)).setCell ⟨w.heap.size + 1, 1, none⟩ (.int .i64 r.kind)).setCell ⟨w.heap.size + 1, 2, none⟩ (.int .i64 r.valid)).setCell ⟨w.heap.size + 1, 3, none⟩ (.int .i64 r.uid)).setCell ⟨w.heap.size + 1, 4, none⟩ (.int .i64 r.next)).setCell ⟨w.heap.size + 1, 5, none⟩ (.int .i64 r.flags)).setCell ⟨w.heap.size + 1, 6, none⟩ (.string r.user)).setCell ⟨w.heap.size + 1, 7, none⟩ (.string r.name)).setCell ⟨w.heap.size + 1, 8, none⟩ (.string r.text)) (w.heap.size + 1) #[.int .i64 sq, .int .i64 r.kind, .int .i64 r.valid, .int .i64 r.uid, .int .i64 r.next, .int .i64 r.flags, .string r.user, .string r.name, .string r.text] 49 := X2.set9n _ _ _ _ _ _ _ _ _
  have B9 := Lib.hid (below_set9 bE (show w.heap.size ≤ w.heap.size + 1 by omega) (.int .i64 sq) (.int .i64 r.kind) (.int .i64 r.valid) (.int .i64 r.uid) (.int .i64 r.next) (.int .i64 r.flags) (.string r.user) (.string r.name) (.string r.text))
  obtain ⟨y0, y1, y2, y3, y4, y5, y6, y7, y8, _⟩ := X9.nine
  clear X1 X2 X9 bE j4 H1
  go_wp2
  refine bodyPost_ret (v := .agg #[.int .i64 sq, .int .i64 r.kind, .int .i64 r.valid, .int .i64 r.uid, .int .i64 r.next, .int .i64 r.flags, .string r.user, .string r.name, .string r.text]) (by simp [results, Tryz.results44, go_sem, y0, y1, y2, y3, y4, y5, y6, y7, y8]) rfl ⟨rfl, B9.out⟩

set_option maxRecDepth 100000 in
set_option maxHeartbeats 4000000 in
theorem implWithout_any (l : List Itm) (d : List Bool) (v vd : Value) (w : World) (h : Rows' itE w v l) (hd : Rows' boE w vd d) (hl : l.length ≤ 1048576) (hz : ∀ x ∈ l, x.2.user.size ≤ 281474976710656 ∧ x.2.name.size ≤ 281474976710656 ∧ x.2.text.size ≤ 281474976710656) :
    Calls Tryz.prog 18 #[v, vd] w fun e w' => ∃ v', e = .returned v' ∧ RBuf itE w.heap.size w w' v' (wo l d) := by
  obtain ⟨ad, cap, rfl, hrow⟩ := h.items
  have HR := Lib.hid hrow
  have HB : Hid (∀ x, Below w.heap.size w x → Rows' boE x vd d) := fun x hx => hd.later hx
  have HZ := Lib.hid hz
  obtain ⟨ab, cab, rfl, _⟩ := hd.bools
  clear h hd hrow hz
  obtain ⟨n, hn⟩ : ∃ n, l.length = n := ⟨_, rfl⟩
  obtain ⟨m, hm⟩ : ∃ m, d.length = m := ⟨_, rfl⟩
  rw [hm] at HB
  rw [hn, hm]
  have HN := Lib.hid hn
  rw [hn] at hl
  clear hn hm
  have I0 := RBuf.fresh itE w
  go_enter Tryz.func18, Tryz.ntmps18
  go_wp2
  go_loopw [5, 11] (fun v iv wr => ∃ i : Nat, i ≤ n ∧ iv = .int .i64 (i : Int) ∧ RBuf itE w.heap.size w wr v (woT l d i)) (fun _ iv _ => n - (intOf iv).toNat)
  case atStart => exact ⟨0, by omega, rfl, I0⟩
  case round =>
    clear I0
    obtain ⟨i, hi, rfl, I⟩ := hrel
    by_cases hlt : i < n
    · obtain ⟨x, hgx⟩ : ∃ x, l[i]? = some x := ⟨_, List.getElem?_eq_getElem (by rw [HN.out]; exact hlt)⟩
      obtain ⟨gp, op, rfl, p0, p1, p2, p3, p4, p5, p6, p7, p8⟩ := HR.out _ I.bel i _ hgx
      have hlu := woT_len l d i
      have HG := Lib.hid (fun h => woT_go (l := l) (d := d) (i := i) h)
      have HS := Lib.hid (fun h => woT_stay (l := l) (d := d) (i := i) h hgx)
      obtain ⟨us, hus⟩ : ∃ us, woT l d i = us := ⟨_, rfl⟩
      rw [hus] at I hlu HG HS
      obtain ⟨zu, zn, zt⟩ := HZ.out _ (List.mem_of_getElem? hgx)
      have hi0 : (0 : Int) ≤ (i : Int) := by omega
      have hi1 : (i : Int) < (n : Int) := by omega
      obtain ⟨sq, r⟩ := x
      simp only at p0 p1 p2 p3 p4 p5 p6 p7 p8 zu zn zt
      have X4 := Box.new wr #[.int .i64 sq, .int .i64 r.kind, .int .i64 r.valid, .int .i64 r.uid, .int .i64 r.next, .int .i64 r.flags, .string r.user, .string r.name, .string r.text] 49
      have I4 := I.alloc (.cells #[.int .i64 sq, .int .i64 r.kind, .int .i64 r.valid, .int .i64 r.uid, .int .i64 r.next, .int .i64 r.flags, .string r.user, .string r.name, .string r.text] 49)
      clear hgx hus I
      go_upto_region 5 with fail
      clear p0 p1 p2 p3 p4 p5 p6 p7 p8
      generalize wr.alloc (.cells #[.int .i64 sq, .int .i64 r.kind, .int .i64 r.valid, .int .i64 r.uid, .int .i64 r.next, .int .i64 r.flags, .string r.user, .string r.name, .string r.text] 49) = w4 at X4 I4 ⊢
      generalize wr.heap.size = g4 at X4 ⊢
      have HSO := Lib.hid (soAt_any d _ (i : Int) w4 (HB.out _ I4.bel) (by omega))
      rw [soB_nat] at HSO
      by_cases hdt : d[i]? = some true
      · have HG' := Lib.hid (HG.out hdt)
        rw [decide_eq_true hdt] at HSO
        clear HG HS hdt X4
        go_wp2_with fail
        refine HSO.out.mono ?_
        rintro e w5 ⟨rfl, rfl⟩
        go_wp2
        exact ⟨⟨i + 1, by omega, by simp, by rw [HG'.out]; exact I4⟩, by first | omega | (simp [intOf]; omega)⟩
      · have HS' := Lib.hid (HS.out hdt)
        rw [decide_eq_false hdt] at HSO
        clear HG HS hdt
        go_wp2_with fail
        refine HSO.out.mono ?_
        rintro e w5 ⟨rfl, rfl⟩
        obtain ⟨q0, q1, q2, q3, q4, q5, q6, q7, q8, _⟩ := X4.nine
        have HCI := Lib.hid (copyItem_any sq r w4 zu zn zt)
        unfold itV at HCI
        clear X4
        go_wp2_with fail
        clear q0 q1 q2 q3 q4 q5 q6 q7 q8
        refine HCI.out.mono ?_
        rintro e w6 ⟨rfl, k6⟩
        have I6 := I4.later k6
        have HR6 := Lib.hid (I6.alloc (.cells #[.int .i64 sq, .int .i64 r.kind, .int .i64 r.valid, .int .i64 r.uid, .int .i64 r.next, .int .i64 r.flags, .string r.user, .string r.name, .string r.text] 49))
        have L6 := RBuf.lit1 itE w6 (sq, r)
        have HL6 := Lib.hid L6
        clear I4 I6 k6 L6 HCI HSO
        go_wp2_with (at_builtin; refine wpList_append_rows rfl _ _ itE rfl w.heap.size _ _ rfl HR6.out.here w6.heap.size _ [(sq, r)] rfl HL6.out (by show _ * 97 ≤ _; simp only [List.length_cons, List.length_nil]; omega) ?_; intro v6 w7 r6 g6 at6)
        exact ⟨⟨i + 1, by omega, by simp, by rw [HS'.out]; exact ⟨r6.own, HR6.out.bel.grown g6 HR6.out.le (fun k hk => (HR6.out.own.lt k hk).1), r6.le⟩⟩, by first | omega | (simp [intOf]; omega)⟩
    · go_wp2
      go_ret
      refine ⟨_, rfl, ?_⟩
      have hil : i = l.length := by rw [HN.out]; omega
      rw [hil] at I
      exact I

end Go.Proofs.YtahebgceoidebaaGreat

/- Records and items: the helpers of the exact laws. -/
namespace Go.Proofs.YtahebgceoidebaaGreat
open Go.RowKit







end Go.Proofs.YtahebgceoidebaaGreat

/- How records lie in memory; two lists of records that are alike. -/
namespace Go.Proofs.YtahebgceoidebaaGreat
open Go.RowKit

def rcE : Enc Rc where
  ty := 47
  sty := 51
  sz := 8
  bytes := 88
  zero := .agg #[.int .i64 0, .int .i64 0, .int .i64 0, .int .i64 0, .int .i64 0, .string ⟨#[]⟩, .string ⟨#[]⟩, .string ⟨#[]⟩]
  f := fun x => [.int .i64 x.kind, .int .i64 x.valid, .int .i64 x.uid, .int .i64 x.next, .int .i64 x.flags, .string x.user, .string x.name, .string x.text]
  len := fun _ => rfl
  pos := by decide
  one := fun _ u hu => by simp at hu; rcases hu with rfl | rfl | rfl | rfl | rfl | rfl | rfl | rfl <;> rfl
  und := Tryz.underlying51
  info := by kernel_rfl
  zc := rfl
  z0 := Rc.nil
  zf := rfl

/-- The eight cells of a record. -/
theorem rc_cells {w w' : World} {g off : Nat} {l : List Rc} (hc : ∀ j x, l[j]? = some x → ∀ k u, (rcE.f x)[k]? = some u → w.cell? ⟨g, off + j * rcE.sz + k, none⟩ = some u)
    (hg : g < w.heap.size) (hb : Below w.heap.size w w') (i : Nat) (x : Rc) (hi : l[i]? = some x) :
    w'.cell? ⟨g, off + i * 8, none⟩ = some (.int .i64 x.kind) ∧ w'.cell? ⟨g, off + i * 8 + 1, none⟩ = some (.int .i64 x.valid) ∧ w'.cell? ⟨g, off + i * 8 + 2, none⟩ = some (.int .i64 x.uid) ∧ w'.cell? ⟨g, off + i * 8 + 3, none⟩ = some (.int .i64 x.next) ∧
    w'.cell? ⟨g, off + i * 8 + 4, none⟩ = some (.int .i64 x.flags) ∧ w'.cell? ⟨g, off + i * 8 + 5, none⟩ = some (.string x.user) ∧ w'.cell? ⟨g, off + i * 8 + 6, none⟩ = some (.string x.name) ∧ w'.cell? ⟨g, off + i * 8 + 7, none⟩ = some (.string x.text) := by
  have h : ∀ k u, (rcE.f x)[k]? = some u → w'.cell? ⟨g, off + i * 8 + k, none⟩ = some u := fun k u hu => (hb.cell (p := ⟨g, off + i * 8 + k, none⟩) hg).trans (hc i x hi k u hu)
  exact ⟨h 0 _ rfl, h 1 _ rfl, h 2 _ rfl, h 3 _ rfl, h 4 _ rfl, h 5 _ rfl, h 6 _ rfl, h 7 _ rfl⟩

/-- As a loop reads them. -/
def RcRow (w : World) (ad : Option Addr) (l : List Rc) : Prop := ∀ X, Below w.heap.size w X → ∀ (i : Nat) (x : Rc), l[i]? = some x → ∃ (g off : Nat), ad = some ⟨g, off, none⟩ ∧ X.cell? ⟨g, off + i * 8, none⟩ = some (.int .i64 x.kind) ∧ X.cell? ⟨g, off + i * 8 + 1, none⟩ = some (.int .i64 x.valid) ∧ X.cell? ⟨g, off + i * 8 + 2, none⟩ = some (.int .i64 x.uid) ∧ X.cell? ⟨g, off + i * 8 + 3, none⟩ = some (.int .i64 x.next) ∧ X.cell? ⟨g, off + i * 8 + 4, none⟩ = some (.int .i64 x.flags) ∧ X.cell? ⟨g, off + i * 8 + 5, none⟩ = some (.string x.user) ∧ X.cell? ⟨g, off + i * 8 + 6, none⟩ = some (.string x.name) ∧ X.cell? ⟨g, off + i * 8 + 7, none⟩ = some (.string x.text)
theorem Rows'.recs {w : World} {v : Value} {l : List Rc} (h : Rows' rcE w v l) : ∃ (ad : Option Addr) (cap : Nat), v = .slice ad l.length cap ∧ RcRow w ad l := by
  rcases h.ways with ⟨rfl, a, c, rfl⟩ | ⟨hne, g, off, c, rfl, hc, hg, hcl⟩
  · exact ⟨a, c, rfl, fun X _ i x hi => by cases hi⟩
  · exact ⟨_, c, rfl, fun X hb i x hi => ⟨g, off, rfl, rc_cells (fun j x hj k u hu => hcl j x hj k u hu) hg hb i x hi⟩⟩


end Go.Proofs.YtahebgceoidebaaGreat

/- How mails lie in memory. -/
namespace Go.Proofs.YtahebgceoidebaaGreat
open Go.RowKit

def mlE : Enc Ml where
  ty := 69
  sty := 64
  sz := 3
  bytes := 32
  zero := .agg #[.int .i64 0, .int .i64 0, .string ⟨#[]⟩]
  f := fun x => [.int .i64 x.uid, .int .i64 x.flags, .string x.text]
  len := fun _ => rfl
  pos := by decide
  one := fun _ u hu => by simp at hu; rcases hu with rfl | rfl | rfl <;> rfl
  und := Tryz.underlying64
  info := by kernel_rfl
  zc := rfl
  z0 := ⟨0, 0, ⟨#[]⟩⟩
  zf := rfl

end Go.Proofs.YtahebgceoidebaaGreat

/- How boxes lie in memory: a row of boxes, each with a row of mails of its own. -/
namespace Go.Proofs.YtahebgceoidebaaGreat
open Go.RowKit

/-- A box as it lies in its row: its mails are a slice. -/
structure BxH where
  valid : Int
  user : ByteArray
  name : ByteArray
  next : Int
  a : Option Addr
  n : Nat
  c : Nat
def BxH.mv (h : BxH) : Value := .slice h.a h.n h.c

def hdE : Enc BxH where
  ty := 67
  sty := 31
  sz := 5
  bytes := 72
  zero := .agg #[.int .i64 0, .string ⟨#[]⟩, .string ⟨#[]⟩, .int .i64 0, .slice none 0 0]
  f := fun x => [.int .i64 x.valid, .string x.user, .string x.name, .int .i64 x.next, .slice x.a x.n x.c]
  len := fun _ => rfl
  pos := by decide
  one := fun _ u hu => by simp at hu; rcases hu with rfl | rfl | rfl | rfl | rfl <;> rfl
  und := Tryz.underlying31
  info := by kernel_rfl
  zc := rfl
  z0 := ⟨0, ⟨#[]⟩, ⟨#[]⟩, 0, none, 0, 0⟩
  zf := rfl

/-- Boxes in memory of their own (blocks from B on): the row, and the mails of each, all apart. -/
structure StO (B : Nat) (w : World) (v : Value) (bs : List Bx) (hs : List BxH) : Prop where
  row : RBuf hdE B w w v hs
  len : hs.length = bs.length
  at' : ∀ (j : Nat) (h : BxH) (b : Bx), hs[j]? = some h → bs[j]? = some b → (h.valid = b.valid ∧ h.user = b.user ∧ h.name = b.name ∧ h.next = b.next) ∧ RBuf mlE B w w h.mv b.mails
  far : ∀ (j : Nat) (h : BxH), hs[j]? = some h → ∀ k, h.mv.ownBlock = some k → v.ownBlock ≠ some k
  apart : ∀ (i j : Nat) (h h' : BxH), hs[i]? = some h → hs[j]? = some h' → i ≠ j → ∀ k, h.mv.ownBlock = some k → h'.mv.ownBlock ≠ some k

theorem RBuf.here' {α : Type} {E : Enc α} {B : Nat} {w0 w w' : World} {v : Value} {l : List α} (h : RBuf E B w0 w v l) (hb : Below w.heap.size w w') : RBuf E B w' w' v l := (h.later hb).here
theorem StO.later {B : Nat} {w w' : World} {v : Value} {bs : List Bx} {hs : List BxH} (h : StO B w v bs hs) (hb : Below w.heap.size w w') : StO B w' v bs hs :=
  ⟨h.row.here' hb, h.len, fun j x b h1 h2 => ⟨(h.at' j x b h1 h2).1, (h.at' j x b h1 h2).2.here' hb⟩, h.far, h.apart⟩
theorem StO.nil (w : World) : StO w.heap.size w (.slice none 0 0) [] [] :=
  ⟨RBuf.nil hdE w, rfl, fun j h b h1 => by simp at h1, fun j h h1 => by simp at h1, fun i j h h' h1 => by simp at h1⟩
/-- The mails of a box lie below the heap's end. -/
theorem StO.lt {B : Nat} {w : World} {v : Value} {bs : List Bx} {hs : List BxH} (h : StO B w v bs hs) {j : Nat} {x : BxH} (hj : hs[j]? = some x) {k : Nat} (hk : x.mv.ownBlock = some k) : k < w.heap.size := by
  have hl : j < hs.length := (List.getElem?_eq_some_iff.1 hj).1
  have hb : bs[j]? = some (bs[j]'(by rw [← h.len]; exact hl)) := List.getElem?_eq_getElem _
  exact ((h.at' j x _ hj hb).2.own.lt k hk).2

/-- One box more: it was appended, its mails lying in memory of their own. -/
theorem StO.push {B : Nat} {w w' : World} {v v' : Value} {bs : List Bx} {hs : List BxH} (h : StO B w v bs hs) (b : Bx) (x : BxH)
    (hx : x.valid = b.valid ∧ x.user = b.user ∧ x.name = b.name ∧ x.next = b.next) (hm : RBuf mlE B w w x.mv b.mails)
    (hv : ∀ k, x.mv.ownBlock = some k → v.ownBlock ≠ some k) (ho : ∀ (j : Nat) (y : BxH), hs[j]? = some y → ∀ k, y.mv.ownBlock = some k → x.mv.ownBlock ≠ some k)
    (hr : RBuf hdE B w' w' v' (hs ++ [x])) (hg : w.grownBy w' v.ownBlock) (ha : v'.ownBlock = v.ownBlock ∨ v'.ownBlock = some w.heap.size) : StO B w' v' (bs ++ [b]) (hs ++ [x]) := by
  have kept : ∀ (m : Value) (l : List Ml), RBuf mlE B w w m l → (∀ k, m.ownBlock = some k → v.ownBlock ≠ some k) → RBuf mlE B w' w' m l := fun m l hm hf => by
    refine hm.shift hg ?_
    cases hmb : m.ownBlock with
    | none => exact .inl rfl
    | some k => exact .inr (fun e => hf k hmb e.symm)
  have old : ∀ {j : Nat} {y : BxH}, (hs ++ [x])[j]? = some y → (hs[j]? = some y ∧ j < hs.length) ∨ (j = hs.length ∧ y = x) := fun {j y} hj => by
    by_cases c : j < hs.length
    · rw [List.getElem?_append_left c] at hj
      exact .inl ⟨hj, c⟩
    · rw [List.getElem?_append_right (by omega)] at hj
      have hj0 : j - hs.length = 0 := by
        have := (List.getElem?_eq_some_iff.1 hj).1
        simp at this; omega
      rw [hj0] at hj
      simp at hj
      exact .inr ⟨by omega, hj.symm⟩
  have hvlt : ∀ {k : Nat}, x.mv.ownBlock = some k → k < w.heap.size := fun {k} hk => (hm.own.lt k hk).2
  refine ⟨hr, by simp [h.len], fun j y c h1 h2 => ?_, fun j y h1 k hk => ?_, fun i j y z h1 h2 hij k hk => ?_⟩
  · rcases old h1 with ⟨h3, hl⟩ | ⟨rfl, rfl⟩
    · rw [List.getElem?_append_left (by rw [← h.len]; exact hl)] at h2
      exact ⟨(h.at' j y c h3 h2).1, kept _ _ (h.at' j y c h3 h2).2 (h.far j y h3)⟩
    · rw [List.getElem?_append_right (by rw [h.len]; omega), h.len] at h2
      simp at h2
      subst h2
      exact ⟨hx, kept _ _ hm hv⟩
  · rcases old h1 with ⟨h3, _⟩ | ⟨_, rfl⟩
    · rcases ha with e | e
      · rw [e]; exact h.far j y h3 k hk
      · rw [e]; intro e2; have := h.lt h3 hk; have := Option.some.inj e2; omega
    · rcases ha with e | e
      · rw [e]; exact hv k hk
      · rw [e]; intro e2; have := hvlt hk; have := Option.some.inj e2; omega
  · rcases old h1 with ⟨h3, hl3⟩ | ⟨ei, rfl⟩
    · rcases old h2 with ⟨h4, _⟩ | ⟨_, rfl⟩
      · exact h.apart i j y z h3 h4 hij k hk
      · exact ho i y h3 k hk
    · rcases old h2 with ⟨h4, _⟩ | ⟨ej, _⟩
      · intro e; exact ho j z h4 k e hk
      · omega

end Go.Proofs.YtahebgceoidebaaGreat

/- Boxes in memory of their own: what leaves them as they are. -/
namespace Go.Proofs.YtahebgceoidebaaGreat
open Go.RowKit

/-- What leaves the boxes' and the mails' blocks alone leaves them as they are. -/
theorem StO.shift {B : Nat} {w w' : World} {v : Value} {bs : List Bx} {hs : List BxH} {r : Option Nat} (h : StO B w v bs hs) (hg : w.grownBy w' r) (h1 : ∀ k, r = some k → v.ownBlock ≠ some k ∧ ∀ (j : Nat) (x : BxH), hs[j]? = some x → x.mv.ownBlock ≠ some k) : StO B w' v bs hs := by
  have sh : ∀ {α : Type} {E : Enc α} {m : Value} {l : List α}, RBuf E B w w m l → (∀ k, r = some k → m.ownBlock ≠ some k) → RBuf E B w' w' m l := fun {α E m l} hm hf => by
    refine hm.shift hg ?_
    cases hb : m.ownBlock with
    | none => exact .inl rfl
    | some k => exact .inr (fun e => hf k e.symm hb)
  exact ⟨sh h.row (fun k hk => (h1 k hk).1), h.len, fun j x b e1 e2 => ⟨(h.at' j x b e1 e2).1, sh (h.at' j x b e1 e2).2 (fun k hk => (h1 k hk).2 j x e1)⟩, h.far, h.apart⟩
/-- Where they lie: from B on, and below the heap's end. -/
theorem StO.where' {B : Nat} {w : World} {v : Value} {bs : List Bx} {hs : List BxH} (h : StO B w v bs hs) : (∀ k, v.ownBlock = some k → B ≤ k ∧ k < w.heap.size) ∧ ∀ (j : Nat) (x : BxH), hs[j]? = some x → ∀ k, x.mv.ownBlock = some k → B ≤ k ∧ k < w.heap.size := by
  refine ⟨fun k hk => h.row.own.lt k hk, fun j x hj k hk => ?_⟩
  have hl : j < hs.length := (List.getElem?_eq_some_iff.1 hj).1
  have hb : bs[j]? = some (bs[j]'(by rw [← h.len]; exact hl)) := List.getElem?_eq_getElem _
  exact (h.at' j x _ hj hb).2.own.lt k hk
/-- What is written from B' on, above them, leaves them. -/
theorem StO.under {B C : Nat} {w w' : World} {v : Value} {bs : List Bx} {hs : List BxH} (h : StO B w v bs hs) (hb : Below C w w') (h1 : ∀ k, v.ownBlock = some k → k < C) (h2 : ∀ (j : Nat) (x : BxH), hs[j]? = some x → ∀ k, x.mv.ownBlock = some k → k < C) : StO B w' v bs hs := by
  have sh : ∀ {α : Type} {E : Enc α} {m : Value} {l : List α}, RBuf E B w w m l → (∀ k, m.ownBlock = some k → k < C) → RBuf E B w' w' m l := fun {α E m l} hm hf => by
    refine ⟨⟨hm.own.1, ?_⟩, Below.refl _ _, Nat.le_trans hm.le hb.size⟩
    rcases hm.own.2 with e | ⟨g, cap, cur, rfl, hg, hh, hrest⟩
    · exact .inl e
    · exact .inr ⟨g, cap, cur, rfl, hg, (hb.block g (hf g rfl)).trans hh, hrest⟩
  exact ⟨sh h.row h1, h.len, fun j x b e1 e2 => ⟨(h.at' j x b e1 e2).1, sh (h.at' j x b e1 e2).2 (h2 j x e1)⟩, h.far, h.apart⟩
theorem StO.lower {B B0 : Nat} {w : World} {v : Value} {bs : List Bx} {hs : List BxH} (h : StO B w v bs hs) (hB : B0 ≤ B) : StO B0 w v bs hs :=
  ⟨h.row.lower hB, h.len, fun j x b h1 h2 => ⟨(h.at' j x b h1 h2).1, (h.at' j x b h1 h2).2.lower hB⟩, h.far, h.apart⟩

end Go.Proofs.YtahebgceoidebaaGreat

/- What a list of numbers is that a call builds in memory of its own, and the laws by which it grows, is read and is written. -/
namespace Go.Proofs.YtahebgceoidebaaGreat
open Go.RowKit

theorem Tryz.info_int : (Tryz.prog.info? 3).map (fun i => (i.zero, i.size, i.bytes)) = some (some (.int .i64 0), 1, 8) := by kernel_rfl

def intV (l : List Int) : List Value := l.map fun c => .int .i64 c
theorem intV_length (l : List Int) : (intV l).length = l.length := by simp [intV]

/-- The slice v holds the numbers l in memory that the call made itself (blocks from B on); below B all is as it was in w0. -/
structure IBuf (B : Nat) (w0 w : World) (v : Value) (l : List Int) : Prop where
  own : w.ownsRow B 3 1 v l.length (intV l)
  bel : Below B w0 w
  le : B ≤ w.heap.size

theorem IBuf.alloc {B : Nat} {w0 w : World} {v : Value} {l : List Int} (h : IBuf B w0 w v l) (o : Obj) : IBuf B w0 (w.alloc o) v l :=
  ⟨h.own.alloc o, h.bel.alloc h.le o, by have := h.le; simp; omega⟩
theorem IBuf.drew {B : Nat} {w0 w : World} {v : Value} {l : List Int} (h : IBuf B w0 w v l) : IBuf B w0 w.drew v l :=
  ⟨h.own.drew, h.bel.drew, h.le⟩
theorem IBuf.fresh (w : World) : IBuf w.heap.size w (w.alloc (.cells #[] 3)) (.slice (some ⟨w.heap.size, 0, none⟩) 0 0) [] :=
  ⟨World.ownsRow_made w #[] 0 (Nat.le_refl _) (by decide) rfl, (Below.refl _ _).alloc (Nat.le_refl _) _, by simp⟩

/-- What is laid behind the heap's end, and nothing else, leaves the numbers where they are. -/
theorem IBuf.later {B : Nat} {w0 w w' : World} {v : Value} {l : List Int} (h : IBuf B w0 w v l) (hb : Below w.heap.size w w') : IBuf B w0 w' v l := by
  have hg : w.grownBy w' none := ⟨hb.os, hb.tape, hb.output, hb.size, fun k hk _ => hb.block k hk⟩
  refine ⟨h.own.kept hg ?_, h.bel.trans (hb.mono h.le), Nat.le_trans h.le hb.size⟩
  cases hv : v.ownBlock with
  | none => exact .inl rfl
  | some k => exact .inr (by simp)

theorem wpList_append_int {w0 w : World} {ops : Array Oper} {rest : List Oper} {o : Oper} {a : Act} {Q : Exit → Act → World → Prop} (hgd : o.guard = none) (s x : Operand)
    (ho : o.op = .call { callee := .builtin .append, args := #[s, x], argTypes := #[26, 26] })
    (B : Nat) (v : Value) (l : List Int) (hs : a.eval s = v) (hb : IBuf B w0 w v l)
    (ad : Addr) (t : Int) (hx : a.eval x = .slice (some ad) 1 1)
    (hnews : ∀ j u, [Value.int .i64 t][j]? = some u → w.cell? (ad.add j) = some u)
    (hlen : l.length + 1 ≤ 8796093022208)
    (h : ∀ v' w', IBuf B w0 w' v' (l ++ [t]) → wpList Tryz.prog ops Q rest (a.put o.dst v') w') : wpList Tryz.prog ops Q (o :: rest) a w := by
  obtain ⟨i0, hi, hz0, hz1, hz2⟩ := info_parts Tryz.info_int
  refine wpList_append_own _ hgd s x 26 ho B 3 i0 (.int .i64 0) 1 8 Tryz.underlying26 hi hz0 hz1 hz2 rfl (by decide) v l.length (intV l) hs hb.own ad 1 1 [.int .i64 t] hx (by simp) hnews ?_ (by unfold maxLen; omega) (by omega) hb.le ?_
  · intro u hu
    simp at hu
    subst hu
    rfl
  · intro v' w' hown hgrow _
    refine h v' w' ⟨?_, hb.bel.grown hgrow hb.le (fun k hk => (hb.own.lt k hk).1), Nat.le_trans hb.le hgrow.size⟩
    have e1 : (l ++ [t]).length = l.length + 1 := by simp
    have e2 : intV (l ++ [t]) = intV l ++ [.int .i64 t] := by simp [intV]
    rw [e1, e2]
    exact hown

theorem IBuf.form {B : Nat} {w0 w : World} {v : Value} {l : List Int} (h : IBuf B w0 w v l) : ∃ (a : Option Addr) (cap : Nat), v = .slice a l.length cap := by
  rcases h.own.2 with ⟨rfl, h0⟩ | ⟨g, cap, cur, rfl, _⟩
  · exact ⟨none, 0, by rw [h0]⟩
  · exact ⟨_, _, rfl⟩

/-- Numbers that can be read: each in its cell of a row; nothing where there is none. -/
def Ints (w : World) (v : Value) (l : List Int) : Prop :=
  (l = [] ∧ ∃ (a : Option Addr) (cap : Nat), v = .slice a 0 cap) ∨
  ∃ g cap : Nat, v = .slice (some ⟨g, 0, none⟩) l.length cap ∧ l.length ≤ cap ∧ g < w.heap.size ∧ ∀ j b, l[j]? = some b → w.cell? ⟨g, j, none⟩ = some (.int .i64 b)

theorem IBuf.ints {B : Nat} {w0 w : World} {v : Value} {l : List Int} (h : IBuf B w0 w v l) : Ints w v l := by
  rcases h.own.2 with ⟨rfl, h0⟩ | ⟨g, cap, cur, rfl, hg, hh, hnc, hcp, hcs, htake⟩
  · exact .inl ⟨List.length_eq_zero_iff.1 h0, _, _, rfl⟩
  · refine .inr ⟨g, cap, rfl, hnc, (h.own.lt g rfl).2, fun j b hj => ?_⟩
    have hlt : j < l.length := (List.getElem?_eq_some_iff.1 hj).1
    rw [h.own.cellAt j (by omega)]
    simp [intV, hj]

theorem Ints.later {w w' : World} {v : Value} {l : List Int} (h : Ints w v l) (hb : Below w.heap.size w w') : Ints w' v l := by
  rcases h with h | ⟨g, cap, hv, hc, hg, hcl⟩
  · exact .inl h
  · exact .inr ⟨g, cap, hv, hc, Nat.lt_of_lt_of_le hg hb.size, fun j b hj => (hb.cell (p := ⟨g, j, none⟩) hg).trans (hcl j b hj)⟩

/-- A store into the row. -/
theorem IBuf.stored {B : Nat} {w0 w : World} {g cap : Nat} {l : List Int} (h : IBuf B w0 w (.slice (some ⟨g, 0, none⟩) l.length cap) l) (j : Nat) (t : Int) :
    IBuf B w0 (w.setCell ⟨g, j, none⟩ (.int .i64 t)) (.slice (some ⟨g, 0, none⟩) l.length cap) (l.set j t) := by
  have hst := h.own.stored j (.int .i64 t)
  have e : intV (l.set j t) = (intV l).set j (.int .i64 t) := by simp [intV, List.map_set]
  refine ⟨?_, h.bel.setCell (h.own.lt g rfl).1 _, by have := h.le; simpa using this⟩
  have hl : (l.set j t).length = l.length := by simp
  rw [hl, e]
  exact hst.1

theorem IBuf.under {w0 w1 w : World} {v : Value} {l : List Int} (hb : Below w0.heap.size w0 w1) (h : IBuf w1.heap.size w1 w v l) : IBuf w0.heap.size w0 w v l := by
  refine ⟨⟨h.own.1, ?_⟩, hb.trans (h.bel.mono hb.size), Nat.le_trans hb.size h.le⟩
  rcases h.own.2 with h1 | ⟨g, cap, cur, h1, h2, h3⟩
  · exact .inl h1
  · exact .inr ⟨g, cap, cur, h1, Nat.le_trans hb.size h2, h3⟩

end Go.Proofs.YtahebgceoidebaaGreat

/- What records tell: the model's numbers in their order. -/
namespace Go.Proofs.YtahebgceoidebaaGreat
open Go.RowKit

theorem filt_yes {p : Int → Bool} {l : List Int} {i : Nat} {b : Int} (h : l[i]? = some b) (hp : p b = true) : (l.take (i + 1)).filter p = (l.take i).filter p ++ [b] := by
  rw [List.take_add_one, h, List.filter_append]
  simp [hp]
theorem filt_no {p : Int → Bool} {l : List Int} {i : Nat} {b : Int} (h : l[i]? = some b) (hp : p b = false) : (l.take (i + 1)).filter p = (l.take i).filter p := by
  rw [List.take_add_one, h, List.filter_append]
  simp [hp]
theorem filt_len (p : Int → Bool) (l : List Int) (i : Nat) : ((l.take i).filter p).length ≤ l.length :=
  Nat.le_trans (List.length_filter_le _ _) (List.length_take_le' _ _)
theorem one_intS (w : World) (t : Int) : ∀ j u, [Value.int .i64 t][j]? = some u → (w.alloc (.cells #[.int .i64 t] 3)).cell? ((⟨w.heap.size, 0, none⟩ : Addr).add j) = some u := by
  intro j u hj
  have : j = 0 := by have := (List.getElem?_eq_some_iff.1 hj).1; simp at this; exact this
  subst this
  simp at hj
  subst hj
  simp [Addr.add]

set_option maxRecDepth 100000 in
set_option maxHeartbeats 2000000 in
theorem specSorted_any (l : List Int) (v : Value) (x : Int) (w : World) (h : Ints w v l) (hl : l.length ≤ 1000000) :
    Calls Tryz.prog 34 #[v, .int .i64 x] w fun e w' => ∃ v', e = .returned v' ∧ IBuf w.heap.size w w' v' (insI l x) := by
  obtain ⟨ad, cap, rfl, hrow⟩ : ∃ (ad : Option Addr) (cap : Nat), v = .slice ad l.length cap ∧ ∀ X, Below w.heap.size w X → ∀ i b, l[i]? = some b → ∃ g, ad = some ⟨g, 0, none⟩ ∧ X.cell? ⟨g, i, none⟩ = some (.int .i64 b) := by
    rcases h with ⟨rfl, a, c, rfl⟩ | ⟨g, c, rfl, hc, hg, hcl⟩
    · exact ⟨a, c, rfl, fun X _ i x hi => by cases hi⟩
    · exact ⟨_, c, rfl, fun X hb i b hi => ⟨g, rfl, (hb.cell (p := ⟨g, i, none⟩) hg).trans (hcl i b hi)⟩⟩
  have HR := Lib.hid hrow
  clear h hrow
  have hst := IBuf.fresh w
  go_enter Tryz.func34, Tryz.ntmps34
  go_wp2
  go_loopw [5, 6] (fun ov iv wr => ∃ i : Nat, i ≤ l.length ∧ iv = .int .i64 (i : Int) ∧ IBuf w.heap.size w wr ov ((l.take i).filter (fun y => decide (y < x)))) (fun _ iv _ => l.length - (intOf iv).toNat)
  case atStart => exact ⟨0, by omega, rfl, hst⟩
  case round =>
    clear hst
    obtain ⟨i, hi, rfl, hb⟩ := hrel
    have hfl := filt_len (fun y => decide (y < x)) l i
    obtain ⟨oa, oc, rfl⟩ := hb.form
    by_cases hlt : i < l.length
    · have hgx : l[i]? = some l[i] := List.getElem?_eq_getElem hlt
      obtain ⟨g, rfl, c0⟩ := HR.out _ hb.bel i _ hgx
      generalize l[i] = b at *
      have hi0 : (0 : Int) ≤ (i : Int) := by omega
      have hi1 : (i : Int) < (l.length : Int) := by omega
      by_cases hbx : b < x
      · have HE := Lib.hid (filt_yes (p := fun y => decide (y < x)) hgx (decide_eq_true hbx))
        clear hgx
        generalize (l.take i).filter (fun y => decide (y < x)) = L at *
        have HB := Lib.hid hb
        clear hb
        go_wp2_with (at_builtin; refine wpList_append_int rfl _ _ rfl _ _ L rfl (HB.out.alloc _) ⟨wr.heap.size, 0, none⟩ b rfl ?c1 ?c2 ?_)
        case c1 => exact one_intS _ _
        case c2 => omega
        intro v' w4 hb4
        have HB4 := Lib.hid hb4
        clear hb4 c0
        go_wp2
        exact ⟨⟨i + 1, by omega, by simp, by rw [HE.out]; exact HB4.out⟩, by first | omega | (simp [intOf]; omega)⟩
      · have HE := Lib.hid (filt_no (p := fun y => decide (y < x)) hgx (decide_eq_false hbx))
        clear hgx
        generalize (l.take i).filter (fun y => decide (y < x)) = L at *
        have HB := Lib.hid hb
        clear hb
        go_wp2
        exact ⟨⟨i + 1, by omega, by simp, by rw [HE.out]; exact HB.out⟩, by first | omega | (simp [intOf]; omega)⟩
    · have hie : i = l.length := by omega
      subst hie
      rw [List.take_length] at hb hfl ⊢
      have HF : Hid (l.filter (fun y => decide (y < x)) ++ (x :: l.filter (fun y => decide (x < y))) = insI l x) := rfl
      generalize l.filter (fun y => decide (y < x)) = L at *
      have HB := Lib.hid hb
      clear hb
      go_wp2_with (at_builtin; refine wpList_append_int rfl _ _ rfl _ _ L rfl (HB.out.alloc _) ⟨wr.heap.size, 0, none⟩ x rfl ?c1 ?c2 ?_)
      case c1 => exact one_intS _ _
      case c2 => omega
      intro v' w4 hb4
      have HB4 := Lib.hid hb4
      clear HB hb4
      go_wp2
      go_loopw [5, 7] (fun ov iv wr => ∃ i : Nat, i ≤ l.length ∧ iv = .int .i64 (i : Int) ∧ IBuf w.heap.size w wr ov (L ++ [x] ++ (l.take i).filter (fun y => decide (x < y)))) (fun _ iv _ => l.length - (intOf iv).toNat)
      case atStart => exact ⟨0, by omega, rfl, by simpa using HB4.out⟩
      case round =>
        clear HB4
        obtain ⟨i, hi, rfl, hb⟩ := hrel
        have hfl2 := filt_len (fun y => decide (x < y)) l i
        by_cases hlt : i < l.length
        · have hgx : l[i]? = some l[i] := List.getElem?_eq_getElem hlt
          obtain ⟨g, rfl, c0⟩ := HR.out _ hb.bel i _ hgx
          generalize l[i] = b at *
          have hi0 : (0 : Int) ≤ (i : Int) := by omega
          have hi1 : (i : Int) < (l.length : Int) := by omega
          by_cases hbx : x < b
          · have HE := Lib.hid (filt_yes (p := fun y => decide (x < y)) hgx (decide_eq_true hbx))
            clear hgx
            generalize (l.take i).filter (fun y => decide (x < y)) = M at *
            have hml : (L ++ [x] ++ M).length ≤ 2000001 := by simp; omega
            have HB := Lib.hid hb
            clear hb
            generalize hK : L ++ [x] ++ M = K at *
            go_wp2_with (at_builtin; refine wpList_append_int rfl _ _ rfl _ _ K rfl (HB.out.alloc _) ⟨wr.heap.size, 0, none⟩ b rfl ?c1 ?c2 ?_)
            case c1 => exact one_intS _ _
            case c2 => omega
            intro v' w5 hb5
            have HB5 := Lib.hid hb5
            clear hb5 c0
            go_wp2
            exact ⟨⟨i + 1, by omega, by simp, by rw [HE.out, ← List.append_assoc, hK]; exact HB5.out⟩, by first | omega | (simp [intOf]; omega)⟩
          · have HE := Lib.hid (filt_no (p := fun y => decide (x < y)) hgx (decide_eq_false hbx))
            clear hgx
            generalize (l.take i).filter (fun y => decide (x < y)) = M at *
            have HB := Lib.hid hb
            clear hb
            go_wp2
            exact ⟨⟨i + 1, by omega, by simp, by rw [HE.out]; exact HB.out⟩, by first | omega | (simp [intOf]; omega)⟩
        · have hie : i = l.length := by omega
          subst hie
          rw [List.take_length] at hb
          have HB := Lib.hid hb
          clear hb
          go_wp2
          go_ret
          have e : L ++ [x] ++ l.filter (fun y => decide (x < y)) = insI l x := by rw [← HF.out]; simp
          have hb' := HB.out
          rw [e] at hb'
          exact ⟨_, rfl, hb'⟩

end Go.Proofs.YtahebgceoidebaaGreat
