/- Texts of our own, joined. -/
import Derived.Test.YtieenkloiicnkaaGreatDoorJi
import Derived.Test.YtieenkloiicnkaaGreatDoorJe
import Derived.Test.YtieenkloiicnkaaGreatDoorJf
import Derived.Deep.RegionLaw
import Derived.WalkKit
import Derived.Test.YtieenkloiicnkaaGreatDoorJh
import Derived.Laws.BitsAllLaws
import Derived.Test.YtieenkloiicnkaaGreatDoorJa
/- What the program's landed and FlushDisk hand back. -/
namespace Go.Proofs.YtieenkloiicnkaaGreatDoor
open Go.RowKit

/-- copy(dst, t) into a block of whatever cells. -/
theorem run_copy_into {P : Program} (w : World) (dT sT ty elem : TypeId) (g o dLen dCap : Nat) (s : ByteArray) (cur : Array Value) (t : TypeId)
    (hu : P.underlying dT = some (.slice elem)) (hs : (P.info? elem).map (·.size) = some 1) (hg : w.heap[g]? = some (.cells cur t (0, 0))) (hfit : o + dLen ≤ cur.size) :
    ∃ w', (Builtin.copy_ #[dT, sT] ty #[.slice (some ⟨g, o, none⟩) dLen dCap, .string s]).run P w = .ok (.int .i64 ((Nat.min s.size dLen : Nat) : Int)) w' ∧ w'.heap[g]? = some (.cells (splice cur.toList o (bytesV (s.data.toList.take dLen))).toArray t (0, 0)) ∧ w.grownBy w' (some g) := by
  have hsz : s.data.toList.length = s.size := by rw [Array.length_toList]; rfl
  have hml : Nat.min s.size dLen ≤ dLen := Nat.min_le_right _ _
  have htl : (s.data.toList.take (Nat.min s.size dLen)) = s.data.toList.take dLen := by
    rcases Nat.le_total s.size dLen with h | h
    · rw [show Nat.min s.size dLen = s.size from Nat.min_eq_left h, List.take_of_length_le (by omega), List.take_of_length_le (by omega)]
    · rw [show Nat.min s.size dLen = dLen from Nat.min_eq_right h]
  have hlen : (bytesV (s.data.toList.take (Nat.min s.size dLen))).length = Nat.min s.size dLen := by
    rw [bytesV_length, List.length_take, hsz]; exact Nat.min_eq_left (Nat.min_le_left _ _)
  have hst := run_storeCells_at P g o t (bytesV (s.data.toList.take (Nat.min s.size dLen))) 0 cur w hg (by rw [hlen]; omega) (bytesV_one _)
  refine ⟨_, ?_, ?_, grownBy_setRow w g (cur.toList.take (o + 0) ++ bytesV (s.data.toList.take (Nat.min s.size dLen)) ++ cur.toList.drop (o + 0 + (bytesV (s.data.toList.take (Nat.min s.size dLen))).length)).toArray⟩
  · cases hq : P.info? elem with
    | none => simp [hq] at hs
    | some i =>
      have hmap : List.take (Nat.min s.size dLen) (List.map (fun b : UInt8 => Value.int IntKind.u8 (b.toNat : Int)) s.data.toList) = bytesV (s.data.toList.take (Nat.min s.size dLen)) := by rw [bytesV, List.map_take]
      simp [Builtin.copy_, run_underlying hu, Builtin.lenOf, Builtin.firstCells, sizeOf, typeInfo, hq]
      rw [hmap, hst]
      simp [Result.andThen, goInt]
  · have := setRow_heap w g _ (cur.toList.take (o + 0) ++ bytesV (s.data.toList.take (Nat.min s.size dLen)) ++ cur.toList.drop (o + 0 + (bytesV (s.data.toList.take (Nat.min s.size dLen))).length)).toArray t _ hg
    rw [this]
    congr 3
    rw [htl, splice]
    simp

/-- A sector with its first bytes new. -/
def overS (s : Sec) (t : ByteArray) (n : Nat) : Sec := ⟨splice s.1 0 (t.data.toList.take (min n 32)), by rw [length_splice]; exact s.2; rw [s.2, List.length_take]; omega⟩

theorem splice_row (l : List Sec) (i : Nat) (s : Sec) (hi : l[i]? = some s) (t : ByteArray) (n : Nat) (hn : n ≤ 32) : splice (secE.row l) (i * 32) (bytesV (t.data.toList.take n)) = secE.row (l.set i (overS s t n)) := by
  induction l generalizing i with
  | nil => simp at hi
  | cons x l ih =>
    have e : secE.row (x :: l) = bytesV x.1 ++ secE.row l := rfl
    have hx : (bytesV x.1).length = 32 := by rw [bytesV_length, x.2]
    have hc : (bytesV (t.data.toList.take n)).length ≤ 32 := by rw [bytesV_length, List.length_take]; omega
    rw [e]
    cases i with
    | zero =>
      have : x = s := by simpa using hi
      subst this
      have e2 : secE.row ((x :: l).set 0 (overS x t n)) = bytesV (overS x t n).1 ++ secE.row l := rfl
      rw [e2]
      unfold overS splice
      simp only [Nat.zero_mul, List.take_zero, List.nil_append, Nat.zero_add]
      rw [List.drop_append_of_le_length (by omega), ← List.append_assoc]
      congr 1
      rw [Nat.min_eq_left hn]
      simp [bytesV]
    | succ i =>
      have hi' : l[i]? = some s := by simpa using hi
      have e2 : secE.row ((x :: l).set (i + 1) (overS s t n)) = bytesV x.1 ++ secE.row (l.set i (overS s t n)) := rfl
      rw [e2, ← ih i hi']
      unfold splice
      have h1 : (i + 1) * 32 = (bytesV x.1).length + i * 32 := by rw [hx]; omega
      rw [h1, List.take_length_add_append, Nat.add_assoc, List.drop_length_add_append]
      simp

theorem splice_take {α : Type} (L : List α) (o m : Nat) (cs : List α) (h : o + cs.length ≤ m) (hm : m ≤ L.length) : (splice L o cs).take m = splice (L.take m) o cs := by
  unfold splice
  rw [List.take_append, List.take_append, List.take_take, List.length_take, List.drop_take]
  have h1 : min o L.length = o := by omega
  have h2 : min m o = o := by omega
  rw [h1, h2, List.take_take, Nat.min_eq_left (show o ≤ m by omega)]
  congr 1
  rw [List.take_of_length_le (show cs.length ≤ m - o by omega)]
  congr 1
  congr 1
  omega

theorem RBuf.copied {B g cap : Nat} {w w' : World} {l : List Sec} (h : RBuf secE B w w (.slice (some ⟨g, 0, none⟩) l.length cap) l) (i : Nat) (s : Sec) (hi : l[i]? = some s) (t : ByteArray) (n : Nat) (hn : n ≤ 32)
    (hw : ∀ cur ty, w.heap[g]? = some (.cells cur ty (0, 0)) → w'.heap[g]? = some (.cells (splice cur.toList (i * 32) (bytesV (t.data.toList.take n))).toArray ty (0, 0))) (hg : w.grownBy w' (some g)) :
    RBuf secE B w' w' (.slice (some ⟨g, 0, none⟩) l.length cap) (l.set i (overS s t n)) := by
  have hlt : i < l.length := (List.getElem?_eq_some_iff.1 hi).1
  have hc : (bytesV (t.data.toList.take n)).length ≤ 32 := by rw [bytesV_length, List.length_take]; omega
  have hl : (l.set i (overS s t n)).length = l.length := by simp
  have hmul : (i + 1) * 32 ≤ l.length * 32 := Nat.mul_le_mul_right _ hlt
  rcases h.own.2 with ⟨e, _⟩ | ⟨g', cap', cur, e, hB, hh, hnc, hcp, hcs, htake⟩
  · cases e
  · simp only [Value.slice.injEq, Option.some.injEq, Addr.mk.injEq, true_and, and_true] at e
    obtain ⟨rfl, rfl⟩ := e
    have hsz : secE.sz = 32 := rfl
    rw [hsz] at hcs
    have hcl : l.length * 32 ≤ cap * 32 := Nat.mul_le_mul_right _ hnc
    have hcl2 : cur.toList.length = cap * 32 := by rw [Array.length_toList]; exact hcs
    refine ⟨⟨?_, .inr ⟨g, cap, _, by rw [hl], hB, hw _ _ hh, by rw [hl]; exact hnc, hcp, ?_, ?_⟩⟩, Below.refl _ _, Nat.le_trans h.le hg.size⟩
    · rw [secE.row_length]
    · rw [List.size_toArray, length_splice _ _ _ (by rw [hcl2]; omega), hcl2]; rfl
    · rw [hl, hsz, List.toList_toArray, splice_take _ _ _ _ (by omega) (by rw [hcl2]; exact hcl)]
      rw [hsz] at htake
      rw [htake]
      exact splice_row l i s hi t n hn


theorem step_copy_into {w : World} {ops : Array Oper} {o : Oper} {a : Act} {K : Act → World → Prop} {Q : Exit → Act → World → Prop} {X : Prop} (hgd : o.guard = none) (d s : Operand) (dT sT : TypeId)
    (ho : o.op = .call { callee := .builtin .copy, args := #[d, s], argTypes := #[dT, sT] }) (elem : TypeId) (hu : Tryz.prog.underlying dT = some (.slice elem)) (hsz : (Tryz.prog.info? elem).map (·.size) = some 1)
    (g off dLen dCap : Nat) (hd : a.eval d = .slice (some ⟨g, off, none⟩) dLen dCap) (t : ByteArray) (hs : a.eval s = .string t) (cur : Array Value) (ty : TypeId) (hg : w.heap[g]? = some (.cells cur ty (0, 0))) (hfit : off + dLen ≤ cur.size)
    (h : ∀ w', w'.heap[g]? = some (.cells (splice cur.toList off (bytesV (t.data.toList.take dLen))).toArray ty (0, 0)) → w.grownBy w' (some g) → K (a.put o.dst (.int .i64 ((Nat.min t.size dLen : Nat) : Int))) w') :
    if Region.wanted o (yielded ops a.tmps) = true then Oper.wp Tryz.prog o a w K Q else X := by
  have hw : Region.wanted o (yielded ops a.tmps) = true := by simp [Region.wanted, hgd]
  rw [if_pos hw]
  obtain ⟨w', hrun, hb, hgr⟩ := run_copy_into (P := Tryz.prog) w dT sT o.type elem g off dLen dCap t cur ty hu hsz hg hfit
  unfold Oper.wp
  simp [execOp, ho, resolve, invoke, builtin, hd, hs, hrun, Result.andThen]
  exact h w' hb hgr

/-- The first i writes of ws in the sectors l, of the last one of all its first n bytes. -/
def putS (l : List Sec) (k : Nat) (t : ByteArray) (m : Nat) : List Sec := match l[k]? with
  | some s => l.set k (overS s t m)
  | none => l
theorem putS_length (l : List Sec) (k : Nat) (t : ByteArray) (m : Nat) : (putS l k t m).length = l.length := by unfold putS; split <;> simp
theorem putS_at {l : List Sec} {k : Nat} (h : k < l.length) (t : ByteArray) (m : Nat) : putS l k t m = l.set k (overS l[k] t m) := by unfold putS; rw [List.getElem?_eq_getElem h]
def landI (l : List Sec) (ws : List Wr) (n : Nat) : Nat → List Sec
  | 0 => l
  | i + 1 => match ws[i]? with
    | some x => putS (landI l ws n i) x.at_.toNat x.text (if i + 1 = ws.length then n else 32)
    | none => landI l ws n i
theorem landI_length (l : List Sec) (ws : List Wr) (n i : Nat) : (landI l ws n i).length = l.length := by
  induction i with
  | zero => rfl
  | succ i ih => unfold landI; split <;> simp [putS_length, ih]
theorem landI_succ {l : List Sec} {ws : List Wr} {n i : Nat} (h : i < ws.length) : landI l ws n (i + 1) = putS (landI l ws n i) ws[i].at_.toNat ws[i].text (if i + 1 = ws.length then n else 32) := by
  rw [landI, List.getElem?_eq_getElem h]

/-- The disk behind: d itself where it is not right. -/
def landD (d : Dk) (ws : List Wr) (n : Nat) : Dk := if d.ok then ⟨(landI (d.sec.map secOf) ws n ws.length).map Sec.str, []⟩ else d

set_option maxRecDepth 100000 in
set_option maxHeartbeats 4000000 in
theorem landed_any (d : Dk) (v : Value) (B T : Nat) (w : World) (h : DOwn B T w v d) (hs : d.small) (ht : ∀ s ∈ d.sec, s.size ≤ 1099511627776) (hu : ∀ x ∈ d.cache, x.text.size ≤ 1099511627776)
    (vw : Value) (ws : List Wr) (hw : Rows' wrE w vw ws) (hwl : ws.length ≤ 1048576) (n : Nat) (hn : n ≤ 32) (hin : d.ok → ∀ x ∈ ws, 0 ≤ x.at_ ∧ x.at_ < d.sec.length) :
    Calls Tryz.prog 131 #[v, vw, .int .i64 (n : Int)] w fun e w' => DiskR1 (landD d ws n) w e w' := by
  obtain ⟨aa, ab, ca, cb, rfl⟩ := h.form
  obtain ⟨aw, cw, rfl⟩ : ∃ (a : Option Addr) (c : Nat), vw = .slice a ws.length c := by
    rcases hw with ⟨e, a, c, rfl⟩ | ⟨g, o, c, rfl, _⟩
    · exact ⟨a, c, by rw [e]; rfl⟩
    · exact ⟨_, c, rfl⟩
  obtain ⟨hx0, hx1, b0, hsz⟩ := two_boxes w #[.slice aa d.sec.length ca, .slice ab d.cache.length cb] #[.slice none 0 0, .slice none 0 0] 33 33
  have h' := h.later b0
  have hw' := hw.later b0
  go_enter Tryz.func131, Tryz.ntmps131
  go_wp2_with fail
  generalize ((w.alloc (.cells #[.slice aa d.sec.length ca, .slice ab d.cache.length cb] 33)).alloc (.cells #[.slice none 0 0, .slice none 0 0] 33)) = W at hx0 hx1 b0 hsz h' hw' ⊢
  have HSZ := Lib.hid hsz
  refine (implDiskOk_any d _ _ h'.rd hs).mono ?_
  rintro e w2 ⟨rfl, k2⟩
  have b2 := b0.trans (k2.mono b0.size)
  have X0 := Lib.hid (hx0.later k2)
  have X1 := Lib.hid (hx1.later k2)
  have H2 := Lib.hid (h'.later k2)
  have HW2 := Lib.hid (hw'.later k2)
  have hWl : Hid (w.heap.size + 1 < W.heap.size) := show _ < _ by omega
  have s2 : W.heap.size ≤ w2.heap.size := k2.size
  clear h hw hx0 hx1 hsz hw'
  by_cases hok : d.ok
  · have E2 := Lib.hid (show landD d ws n = ⟨(landI (d.sec.map secOf) ws n ws.length).map Sec.str, []⟩ from if_pos hok)
    have HIN := Lib.hid (hin hok)
    have hD1 : d.sec.length ≤ 100 := hok.2.1
    have hD0 : 1 ≤ d.sec.length := hok.1
    rw [decide_eq_true hok]
    have c0 := X0.out.cell 0 (.slice aa d.sec.length ca) rfl
    clear hin ht hu h'
    go_wp2_with (at_make; refine wpList_make_room rfl _ _ secE rfl .i64 .i64 _ d.sec.length rfl rfl rfl (by show 33 * d.sec.length ≤ _; omega) ?_; intro w3 hr3; have c3 := (X0.out.later hr3.bel).cell 0 (.slice aa d.sec.length ca) rfl)
    have HR3 := Lib.hid hr3
    clear hr3 c3 c0
    go_loopw [7, 25] (fun tv iv wr => ∃ i : Nat, i ≤ d.sec.length ∧ iv = .int .i64 (i : Int) ∧ RBuf secE w2.heap.size w2 wr tv ((d.sec.map secOf).take i)) (fun _ iv _ => d.sec.length - (intOf iv).toNat)
    case atStart => exact ⟨0, by omega, rfl, HR3.out⟩
    case round =>
      obtain ⟨i, hi, rfl, hr⟩ := hrel
      obtain ⟨pt, ct, rfl⟩ := hr.form
      have hlen : ((d.sec.map secOf).take i).length = i := by simp; omega
      rw [hlen] at hr ⊢
      by_cases hlt : i < d.sec.length
      · obtain ⟨_, _, hv, l1, _, _⟩ := H2.out.later hr.bel
        simp only [Value.agg.injEq, Array.mk.injEq, List.cons.injEq, and_true] at hv
        obtain ⟨rfl, _⟩ := hv
        obtain ⟨ga, rfl⟩ : ∃ g1 : Nat, aa = some ⟨g1, 0, none⟩ := by
          rcases l1.1.own.2 with ⟨_, e⟩ | ⟨g, cap, cur, e, _⟩
          · omega
          · simp only [Value.slice.injEq] at e; exact ⟨g, e.1⟩
        have hat := List.getElem?_eq_getElem hlt
        have cS : wr.cell? ⟨ga, i, none⟩ = some (.string d.sec[i]) := by
          have := l1.1.cell rfl i _ hat 0 _ rfl
          rw [show strE.sz = 1 from rfl, Nat.mul_one, Nat.add_zero] at this
          exact this
        have htk : Hid ((d.sec.map secOf).take (i + 1) = (d.sec.map secOf).take i ++ [secOf d.sec[i]]) := by
          show (d.sec.map secOf).take (i + 1) = (d.sec.map secOf).take i ++ [secOf d.sec[i]]
          rw [List.take_succ_eq_append_getElem (by simpa using hlt)]; simp
        clear hat l1
        generalize d.sec[i] = t at *
        have hi0 : (0 : Int) ≤ (i : Int) := by omega
        have hi1 : (i : Int) < (d.sec.length : Int) := by omega
        have HR := Lib.hid hr
        have hcp : ((d.sec.map secOf).take i).length + [secOf t].length ≤ 101 := by simp; omega
        clear hr hlen
        go_wp2_with (first
          | (go_at_call 128; refine (sectorOf_any t _).mono ?_; rintro e w4 ⟨rfl, k4⟩; have r4 := HR.out.later k4; have R4 := Lib.hid r4; have R5 := Lib.hid ((r4.alloc (.cells (bytesV (secOf t).1).toArray 170)).here); clear r4)
          | ((with_reducible refine wpList_build_sec rfl _ rfl (secOf t) ?_ ?_); exact rfl)
          | (at_builtin; refine wpList_append_rows rfl _ _ secE rfl w2.heap.size _ _ rfl R5.out w4.heap.size _ [secOf t] rfl (RBuf.lit1 secE w4 (secOf t)) (by show _ * 33 ≤ _; omega) ?_; intro v6 w6 r6 g6 at6; obtain ⟨a6, q6, rfl⟩ := r6.form))
        have e6 : ((d.sec.map secOf).take i ++ [secOf t]).length = i + 1 := by simp; omega
        rw [e6] at r6
        have b6 : Below w2.heap.size w2 w6 := (R4.out.alloc (.cells (bytesV (secOf t).1).toArray 170)).bel.grown g6 (R4.out.alloc (.cells (bytesV (secOf t).1).toArray 170)).le (fun k hk => (R4.out.own.lt k hk).1)
        have f6 : RBuf secE w2.heap.size w2 w6 (.slice a6 (i + 1) q6) ((d.sec.map secOf).take (i + 1)) := by
          rw [htk.out]
          exact ⟨r6.own, b6, r6.le⟩
        refine ⟨⟨_, _, _, ⟨i + 1, by omega, ?_, f6⟩, rfl, rfl, rfl⟩, ?_⟩
        · go_num
        · simp [intOf]; omega
      · have hie : i = d.sec.length := by omega
        subst hie
        rw [List.take_of_length_le (by simp)] at hr
        have HR := Lib.hid hr
        have s5 : Hid (w2.heap.size ≤ wr.heap.size) := hr.le
        have B5 := Lib.hid hr.bel
        obtain ⟨g7, rfl⟩ : ∃ g1 : Nat, pt = some ⟨g1, 0, none⟩ := by
          rcases hr.own.2 with ⟨_, e⟩ | ⟨g, cap, cur, e, _⟩
          · rw [List.length_map] at e; omega
          · simp only [Value.slice.injEq] at e; exact ⟨g, e.1⟩
        have hg7 : w2.heap.size ≤ g7 ∧ g7 < wr.heap.size := hr.own.lt g7 rfl
        clear hr hlen hlt HR3
        go_wp2
        obtain ⟨wa, hwa⟩ : ∃ wa, wa = wr := ⟨_, rfl⟩
        subst hwa
        go_loopw [37] (fun iv wr => ∃ i : Nat, i ≤ ws.length ∧ iv = .int .i64 (i : Int) ∧ RBuf secE w2.heap.size wr wr (.slice (some ⟨g7, 0, none⟩) d.sec.length ct) (landI (d.sec.map secOf) ws n i) ∧ Below w2.heap.size w2 wr) (fun iv _ => ws.length - (intOf iv).toNat)
        case atStart => exact ⟨0, by omega, rfl, HR.out.here, B5.out⟩
        case round =>
          obtain ⟨i, hi, rfl, hbr, hbel⟩ := hrel
          have hll : (landI (d.sec.map secOf) ws n i).length = d.sec.length := by rw [landI_length]; simp
          by_cases hlt : i < ws.length
          · obtain ⟨g, off, rfl, hcl⟩ := (HW2.out.later hbel).at i hlt
            have d0 : wr.cell? ⟨g, off + i * 2, none⟩ = some (.int .i64 ws[i].at_) := hcl wr (Below.refl _ _) 0 _ rfl
            have d1 : wr.cell? ⟨g, off + i * 2 + 1, none⟩ = some (.string ws[i].text) := hcl wr (Below.refl _ _) 1 _ rfl
            obtain ⟨hx1, hx2⟩ := HIN.out _ (List.getElem_mem hlt)
            have hsu := Lib.hid (landI_succ (l := d.sec.map secOf) (n := n) hlt)
            clear hcl
            generalize ws[i] = x at *
            obtain ⟨na, t⟩ := x
            simp only at d0 d1 hx1 hx2 hsu
            obtain ⟨k, rfl⟩ := Int.eq_ofNat_of_zero_le hx1
            rw [Int.toNat_natCast] at hsu
            have hk : k < (landI (d.sec.map secOf) ws n i).length := by omega
            have hat := List.getElem?_eq_getElem hk
            rw [← hll] at hbr
            obtain ⟨cur, hh, hcs⟩ : ∃ cur, wr.heap[g7]? = some (.cells cur secE.ty (0, 0)) ∧ (k + 1) * 32 ≤ cur.size := by
              rcases hbr.own.2 with ⟨e, _⟩ | ⟨g', cap', cur, e, hB, hh, hnc, hcp, hcs, htake⟩
              · cases e
              · simp only [Value.slice.injEq, Option.some.injEq, Addr.mk.injEq, true_and, and_true] at e
                obtain ⟨rfl, rfl⟩ := e
                refine ⟨cur, hh, ?_⟩
                rw [hcs, show secE.sz = 32 from rfl]
                exact Nat.mul_le_mul_right _ (by omega)
            obtain ⟨m, hm⟩ : ∃ m, (if i + 1 = ws.length then n else 32) = m := ⟨_, rfl⟩
            have hm32 : m ≤ 32 := by rw [← hm]; split <;> omega
            rw [hm] at hsu
            have FIN : Hid (∀ w6 : World, (((wr.alloc (.cells #[.int .i64 (k : Int), .string t] 111)).drew)).grownBy w6 (some g7) → w6.heap[g7]? = some (.cells (splice cur.toList (k * 32) (bytesV (t.data.toList.take m))).toArray secE.ty (0, 0)) →
                RBuf secE w2.heap.size w6 w6 (.slice (some ⟨g7, 0, none⟩) d.sec.length ct) (landI (d.sec.map secOf) ws n (i + 1)) ∧ Below w2.heap.size w2 w6) := by
              intro w6 hg6 hh6
              have bA := belAlloc wr (.cells #[.int .i64 (k : Int), .string t] 111)
              have hx : ((wr.alloc (.cells #[.int .i64 (k : Int), .string t] 111)).drew).heap[g7]? = some (.cells cur secE.ty (0, 0)) := (bA.block g7 (Array.getElem?_eq_some_iff.1 hh).1).trans hh
              have := (((hbr.alloc (.cells #[.int .i64 (k : Int), .string t] 111)).here).drew').copied k _ hat t m hm32 (fun c ty hc => by rw [hx] at hc; simp only [Option.some.injEq, Obj.cells.injEq] at hc; obtain ⟨rfl, rfl, _⟩ := hc; exact hh6) hg6
              rw [hll] at this
              refine ⟨?_, ?_⟩
              · rw [hsu.out, putS_at hk]; exact this
              · have b1 : Below w2.heap.size w2 ((wr.alloc (.cells #[.int .i64 (k : Int), .string t] 111)).drew) := (hbel.trans (bA.mono hbel.size)).drew
                exact b1.grown hg6 b1.size (fun j hj => by have : g7 = j := Option.some.inj hj; omega)
            have HX : Hid ((((wr.alloc (.cells #[.int .i64 (k : Int), .string t] 111)).drew)).heap[g7]? = some (.cells cur secE.ty (0, 0))) := ((belAlloc wr (.cells #[.int .i64 (k : Int), .string t] 111)).block g7 (Array.getElem?_eq_some_iff.1 hh).1).trans hh
            have hfit : Hid (k * 32 + m ≤ cur.size) := show _ ≤ _ by omega
            have hi0 : (0 : Int) ≤ (i : Int) := by omega
            have hi1 : (i : Int) < (ws.length : Int) := by omega
            have hk0 : (0 : Int) ≤ (k : Int) := by omega
            have hm0 : (0 : Int) ≤ (m : Int) := by omega
            have hm1 : (m : Int) ≤ 32 := by omega
            have HKK := Lib.hid hk
            have HLL := Lib.hid hll
            clear hat hbr hh hcs hsu hk hll hg7
            by_cases hlast : i + 1 = ws.length
            · rw [if_pos hlast] at hm
              subst hm
              have hq : ((i : Int) == (ws.length : Int) - 1) = true := by simp; omega
              go_wp2
              go_region_law (first | (refine step_copy_into (by rfl) _ _ 157 9 (by rfl) 5 Tryz.underlying157 (by kernel_rfl) g7 (k * 32) n 32 (by rfl) t (by rfl) cur secE.ty HX.out hfit.out ?_; intro w6 hh6 hg6))
              all_goals
                obtain ⟨fR, fB⟩ := FIN.out w6 hg6 hh6
                have FR := Lib.hid fR
                have FB := Lib.hid fB
                clear fR fB hh6 hg6 FIN HX hq
                go_wp2
                go_roundw
                case rel => exact ⟨i + 1, by omega, by go_num, FR.out, FB.out⟩
                case measure => simp [intOf]; omega
            · rw [if_neg hlast] at hm
              subst hm
              have hq : ((i : Int) == (ws.length : Int) - 1) = false := by simp; omega
              go_wp2
              go_region_law (first | (refine step_copy_into (by rfl) _ _ 157 9 (by rfl) 5 Tryz.underlying157 (by kernel_rfl) g7 (k * 32) 32 32 (by rfl) t (by rfl) cur secE.ty HX.out hfit.out ?_; intro w6 hh6 hg6))
              all_goals
                obtain ⟨fR, fB⟩ := FIN.out w6 hg6 hh6
                have FR := Lib.hid fR
                have FB := Lib.hid fB
                clear fR fB hh6 hg6 FIN HX hq
                go_wp2
                go_roundw
                case rel => exact ⟨i + 1, by omega, by go_num, FR.out, FB.out⟩
                case measure => simp [intOf]; omega
          · have hie : i = ws.length := by omega
            subst hie
            have HB := Lib.hid hbr
            have X7 := Lib.hid (X1.out.later hbel)
            have b7 := b2.trans (hbel.mono b2.size)
            rw [← hll] at hbr
            have hl7 : (landI (d.sec.map secOf) ws n ws.length).length ≤ 1048576 := by omega
            go_wp2_with fail
            rw [← hll]
            refine (sectorTexts_any _ _ _ _ hbr hl7).mono ?_
            rintro e w8 ⟨v8, rfl, r8⟩
            obtain ⟨a8, q8, rfl⟩ := r8.form
            rw [List.length_map] at r8 ⊢
            have x8 := X7.out.later r8.bel
            have r0 := x8.cell 0 (.slice none 0 0) rfl
            have r1 := x8.cell 1 (.slice none 0 0) rfl
            have f0 := x8.loose 0
            have f1 := x8.loose 1
            have b8 := Lib.hid (b7.trans (r8.bel.mono b7.size))
            have R8 := Lib.hid r8
            have SZ : Hid (w.heap.size + 1 < wr.heap.size ∧ w.heap.size ≤ wr.heap.size) := ⟨Nat.lt_of_lt_of_le hWl.out (Nat.le_trans s2 hbel.size), b7.size⟩
            clear x8 r8 hbr hll
            go_wp2
            refine bodyPost_ret (v := .agg #[.slice a8 (landI (d.sec.map secOf) ws n ws.length).length q8, .slice none 0 0]) (by simp [results, Tryz.results131, go_sem, r0, r1]) rfl ?_
            rw [E2.out]
            have q1 := (R8.out.lown.store (w.heap.size + 1) 0 (.slice a8 (landI (d.sec.map secOf) ws n ws.length).length q8) SZ.out.1).store (w.heap.size + 1) 1 (.slice none 0 0) SZ.out.1
            refine ⟨_, rfl, ⟨_, _, rfl, (q1.deeper SZ.out.2).wider (by simp) (Nat.le_refl _), ⟨⟨World.ownsRow_nil _ _ _ _, Below.refl _ _, ?_⟩, Nat.le_refl _, fun k hk => by cases hk⟩, ?_⟩, ?_⟩
            · have := b8.out.size; simpa using this
            · cases hv : (Value.slice a8 (landI (d.sec.map secOf) ws n ws.length).length q8).ownBlock with
              | none => exact .inl rfl
              | some k => exact .inr (by simp [Value.ownBlock])
            · exact (b8.out.setCell (p := ⟨w.heap.size + 1, 0, none⟩) (by simp) _).setCell (p := ⟨w.heap.size + 1, 1, none⟩) (by simp) _
  · have E2 := Lib.hid (show landD d ws n = d from if_neg hok)
    rw [decide_eq_false hok]
    have m0 := X0.out.cell 0 (.slice aa d.sec.length ca) rfl
    have m1 := X0.out.cell 1 (.slice ab d.cache.length cb) rfl
    have H7 := H2.out
    clear hin h'
    go_wp2_with fail
    clear m0 m1
    refine (copyDisk_any d _ B T _ H7 hs ht hu).mono ?_
    rintro e w8 ⟨v8, rfl, o8, k8⟩
    obtain ⟨a8, a9, q8, q9, rfl⟩ := o8.form
    have x8 := X1.out.later k8
    have r0 := x8.cell 0 (.slice none 0 0) rfl
    have r1 := x8.cell 1 (.slice none 0 0) rfl
    have f0 := x8.loose 0
    have f1 := x8.loose 1
    have b8 := Lib.hid (b2.trans (k8.mono b2.size))
    have O8 := Lib.hid o8
    have S2 := Lib.hid s2
    clear x8 o8 H7 k8 s2
    go_wp2
    refine bodyPost_ret (v := .agg #[.slice a8 d.sec.length q8, .slice a9 d.cache.length q9]) (by simp [results, Tryz.results131, go_sem, r0, r1]) rfl ?_
    have hl7 : w.heap.size + 1 < w2.heap.size := Nat.lt_of_lt_of_le hWl.out S2.out
    rw [E2.out]
    exact ⟨_, rfl, ((O8.out.store (w.heap.size + 1) 0 (.slice a8 d.sec.length q8) hl7).store (w.heap.size + 1) 1 (.slice a9 d.cache.length q9) hl7).widen (by omega) (by simp) (Nat.le_refl _), (b8.out.setCell (p := ⟨w.heap.size + 1, 0, none⟩) (by simp) _).setCell (p := ⟨w.heap.size + 1, 1, none⟩) (by simp) _⟩

end Go.Proofs.YtieenkloiicnkaaGreatDoor

/- What the program's FlushDisk hands back. -/
namespace Go.Proofs.YtieenkloiicnkaaGreatDoor
open Go.RowKit

theorem overS_whole (s : Sec) {t : ByteArray} (h : t.size = 32) : (overS s t 32).str = t := by
  have hl : t.data.toList.length = 32 := by rw [Array.length_toList]; exact h
  have e : (overS s t 32).1 = t.data.toList := by
    unfold overS splice
    simp only [Nat.min_self]
    rw [List.take_of_length_le (l := t.data.toList) (by omega), hl]
    simp [List.drop_of_length_le, s.2]
  show (⟨(overS s t 32).1.toArray⟩ : ByteArray) = t
  rw [e]

theorem secOf_str {t : ByteArray} (h : t.size = 32) : (secOf t).str = t := secL_of h

theorem map_secOf {l : List ByteArray} (h : ∀ s ∈ l, s.size = 32) : (l.map secOf).map Sec.str = l := by
  rw [List.map_map]
  conv => rhs; rw [← List.map_id l]
  exact List.map_congr_left fun s hs => secOf_str (h s hs)

theorem landI_flush {d : Dk} (hok : d.ok) (i : Nat) (hi : i ≤ d.cache.length) : (landI (d.sec.map secOf) d.cache 32 i).map Sec.str = flush d.sec (d.cache.take i) := by
  induction i with
  | zero =>
    show (d.sec.map secOf).map Sec.str = d.sec
    exact map_secOf hok.2.2.2.1
  | succ i ih =>
    have hlt : i < d.cache.length := by omega
    obtain ⟨h1, h2, h3⟩ := hok.2.2.2.2 _ (List.getElem_mem hlt)
    rw [landI_succ hlt, flush_take hlt, ← ih (by omega)]
    have hk : d.cache[i].at_.toNat < (landI (d.sec.map secOf) d.cache 32 i).length := by rw [landI_length, List.length_map]; omega
    rw [putS_at hk, List.map_set]
    congr 1
    rw [ite_self]
    exact overS_whole _ h3

theorem landD_flush (d : Dk) : landD d d.cache 32 = flD d := by
  unfold landD flD
  by_cases h : d.ok
  · rw [if_pos h, if_pos h, landI_flush h _ (Nat.le_refl _), List.take_length]
  · rw [if_neg h, if_neg h]

theorem flD_small {d : Dk} (h : d.small) (hc : d.count ≤ 4000000) : (flD d).small ∧ (flD d).count ≤ 4000010 := by
  unfold flD
  unfold Dk.count at hc
  split
  · refine ⟨⟨?_, by show (0 : Nat) ≤ _; omega⟩, ?_⟩
    · show (flush d.sec d.cache).length ≤ _; rw [flush_length]; exact h.1
    · show (flush d.sec d.cache).length + 2 * 0 ≤ _; rw [flush_length]; omega
  · exact ⟨h, by unfold Dk.count; omega⟩

set_option maxHeartbeats 1000000 in
theorem implFlushDisk_any (d : Dk) (v : Value) (B T : Nat) (w : World) (h : DOwn B T w v d) (hs : d.small) (hc : d.cache.length ≤ 1048576) (ht : ∀ s ∈ d.sec, s.size ≤ 1099511627776) (hu : ∀ x ∈ d.cache, x.text.size ≤ 1099511627776) :
    Calls Tryz.prog 91 #[v] w fun e w' => DiskR1 (flD d) w e w' := by
  obtain ⟨aa, ab, ca, cb, rfl⟩ := h.form
  obtain ⟨hx0, hx1, b0, hsz⟩ := two_boxes w #[.slice aa d.sec.length ca, .slice ab d.cache.length cb] #[.slice none 0 0, .slice none 0 0] 33 33
  have h' := h.later b0
  go_enter Tryz.func91, Tryz.ntmps91
  go_wp2_with fail
  generalize ((w.alloc (.cells #[.slice aa d.sec.length ca, .slice ab d.cache.length cb] 33)).alloc (.cells #[.slice none 0 0, .slice none 0 0] 33)) = W at hx0 hx1 b0 hsz h' ⊢
  have hrw : Rows' wrE W (.slice ab d.cache.length cb) d.cache := by
    obtain ⟨_, _, hv, _, l2, _⟩ := h'
    simp only [Value.agg.injEq, Array.mk.injEq, List.cons.injEq, and_true] at hv
    obtain ⟨_, rfl⟩ := hv
    exact l2.rows
  have hl := landed_any d _ B T W h' hs ht hu _ d.cache hrw hc 32 (by omega) (fun hok x hx => ⟨(hok.2.2.2.2 x hx).1, (hok.2.2.2.2 x hx).2.1⟩)
  rw [landD_flush] at hl
  refine hl.mono ?_
  rintro e w8 ⟨v8, rfl, o8, k8⟩
  obtain ⟨a8, a9, q8, q9, rfl⟩ := o8.form
  have x8 := hx1.later k8
  have r0 := x8.cell 0 (.slice none 0 0) rfl
  have r1 := x8.cell 1 (.slice none 0 0) rfl
  have f0 := x8.loose 0
  have f1 := x8.loose 1
  have b8 := Lib.hid (b0.trans (k8.mono b0.size))
  have O8 := Lib.hid o8
  have HW : Hid (w.heap.size + 1 < W.heap.size) := show _ < _ by omega
  clear x8 hx0 hx1 o8 k8 hsz h h' hrw hl
  go_wp2
  refine bodyPost_ret (v := .agg #[.slice a8 (flD d).sec.length q8, .slice a9 (flD d).cache.length q9]) (by simp [results, Tryz.results91, go_sem, r0, r1]) rfl ?_
  exact ⟨_, rfl, ((O8.out.store (w.heap.size + 1) 0 (.slice a8 (flD d).sec.length q8) HW.out).store (w.heap.size + 1) 1 (.slice a9 (flD d).cache.length q9) HW.out).widen (by have := HW.out; omega) (by simp) (Nat.le_refl _), (b8.out.setCell (p := ⟨w.heap.size + 1, 0, none⟩) (by simp) _).setCell (p := ⟨w.heap.size + 1, 1, none⟩) (by simp) _⟩

end Go.Proofs.YtieenkloiicnkaaGreatDoor

/- What is flushed is right. -/
namespace Go.Proofs.YtieenkloiicnkaaGreatDoor
open Go.RowKit

theorem flush_32 (c : List Wr) : ∀ sec : List ByteArray, (∀ s ∈ sec, s.size = 32) → (∀ x ∈ c, x.text.size = 32) → ∀ s ∈ flush sec c, s.size = 32 := by
  induction c with
  | nil => intro sec h _; exact h
  | cons x c ih =>
    intro sec h hc
    have e : flush sec (x :: c) = flush (sec.set x.at_.toNat x.text) c := rfl
    rw [e]
    refine ih _ (fun s hs => ?_) (fun y hy => hc y (by simp [hy]))
    rcases List.mem_or_eq_of_mem_set hs with h1 | h1
    · exact h s h1
    · rw [h1]; exact hc x (by simp)
theorem flD_ok {d : Dk} (h : d.ok) : (flD d).ok ∧ (flD d).sec.length = d.sec.length ∧ (flD d).cache = [] := by
  unfold flD
  rw [if_pos h]
  obtain ⟨h1, h2, h3, h4, h5⟩ := h
  have hl := flush_length d.sec d.cache
  exact ⟨⟨by show 1 ≤ (flush d.sec d.cache).length; omega, by show (flush d.sec d.cache).length ≤ 100; omega, by simp, flush_32 _ _ h4 (fun x hx => (h5 x hx).2.2), by simp⟩, hl, rfl⟩

end Go.Proofs.YtieenkloiicnkaaGreatDoor

/- Plain facts on the bytes of a number, with no program in them: the groups of seven bits of a number, the lowest first. -/
namespace Go.Proofs.YtieenkloiicnkaaGreatDoor

/-- A byte that more follows: the lowest seven bits of m, and 128. -/
def hiByte (m : Nat) : UInt8 := UInt8.ofNat (m % 128 + 128)
/-- The last byte. -/
def loByte (m : Nat) : UInt8 := UInt8.ofNat m

theorem hiByte_toNat (m : Nat) : (hiByte m).toNat = m % 128 + 128 := by
  rw [hiByte, UInt8.toNat_ofNat']
  omega

theorem loByte_toNat {m : Nat} (h : m < 256) : (loByte m).toNat = m := by
  rw [loByte, UInt8.toNat_ofNat']
  omega

def vtF : Nat → Nat → List UInt8
  | 0, n => [loByte n]
  | f + 1, n => if 127 < n then hiByte n :: vtF f (n / 128) else [loByte n]

def vt (n : Nat) : List UInt8 := vtF n n

theorem vtF_more : ∀ (f g n : Nat), n ≤ f → n ≤ g → vtF f n = vtF g n := by
  intro f
  induction f with
  | zero =>
    intro g n hf hg
    obtain rfl : n = 0 := by omega
    cases g <;> simp [vtF]
  | succ f ih =>
    intro g n hf hg
    cases g with
    | zero => obtain rfl : n = 0 := by omega
              simp [vtF]
    | succ g =>
      simp only [vtF]
      split
      · rw [ih g (n / 128) (by omega) (by omega)]
      · rfl

theorem vt_big {n : Nat} (h : 127 < n) : vt n = hiByte n :: vt (n / 128) := by
  unfold vt
  cases n with
  | zero => omega
  | succ n =>
    rw [vtF, if_pos h, vtF_more n ((n + 1) / 128) ((n + 1) / 128) (by omega) (Nat.le_refl _)]

theorem vt_small {n : Nat} (h : n ≤ 127) : vt n = [loByte n] := by
  unfold vt
  cases n with
  | zero => rfl
  | succ n => rw [vtF, if_neg (by omega)]

theorem vtF_len : ∀ (f n : Nat), (vtF f n).length ≤ f + 1 := by
  intro f
  induction f with
  | zero => intro n; simp [vtF]
  | succ f ih =>
    intro n
    simp only [vtF]
    split
    · simp; exact ih _
    · simp

theorem vt_len (n : Nat) : (vt n).length ≤ n + 1 := vtF_len n n

/-- What has been written and what is still to be written are together what is asked for. -/
theorem vt_step {acc : List UInt8} {m n : Nat} (h : acc ++ vt m = vt n) (hm : 127 < m) : (acc ++ [hiByte m]) ++ vt (m / 128) = vt n := by
  rw [vt_big hm] at h
  simpa using h

theorem vt_end {acc : List UInt8} {m n : Nat} (h : acc ++ vt m = vt n) (hm : m ≤ 127) : acc ++ [loByte m] = vt n := by
  rw [vt_small hm] at h
  exact h

theorem vt_acc {acc : List UInt8} {m n : Nat} (h : acc ++ vt m = vt n) : acc.length ≤ n + 1 := by
  have h1 := congrArg List.length h
  have h2 := vt_len n
  simp at h1
  omega

end Go.Proofs.YtieenkloiicnkaaGreatDoor

/- Plain facts on reading a number in groups of seven bits, with no program in them. -/
namespace Go.Proofs.YtieenkloiicnkaaGreatDoor

/-- The groups from the first byte of a list on, the i-th of them next: the number, and how many bytes there were. -/
def rg : Nat → List UInt8 → Nat → Nat → Option (Nat × Nat)
  | 0, _, _, _ => none
  | _ + 1, [], _, _ => none
  | f + 1, c :: cs, i, n => if c.toNat < 128 then some (n + c.toNat % 128 * 128 ^ i, i + 1) else rg f cs (i + 1) (n + c.toNat % 128 * 128 ^ i)

theorem rg_lo {l : List UInt8} {k i n : Nat} (hi : i < 5) (hlt : k + i < l.length) (hc : l[k + i].toNat < 128) :
    rg (5 - i) (l.drop (k + i)) i n = some (n + l[k + i].toNat % 128 * 128 ^ i, i + 1) := by
  rw [List.drop_eq_getElem_cons hlt, show 5 - i = (4 - i) + 1 by omega, rg, if_pos hc]

theorem rg_hi {l : List UInt8} {k i n : Nat} (hi : i < 5) (hlt : k + i < l.length) (hc : ¬ l[k + i].toNat < 128) :
    rg (5 - i) (l.drop (k + i)) i n = rg (5 - (i + 1)) (l.drop (k + (i + 1))) (i + 1) (n + l[k + i].toNat % 128 * 128 ^ i) := by
  rw [List.drop_eq_getElem_cons hlt, show 5 - i = (4 - i) + 1 by omega, rg, if_neg hc, show 5 - (i + 1) = 4 - i by omega, show k + (i + 1) = k + i + 1 by omega]

theorem rg_out {l : List UInt8} {k i n : Nat} (h : ¬ (i < 5 ∧ k + i < l.length)) : rg (5 - i) (l.drop (k + i)) i n = none := by
  by_cases hi : i < 5
  · have : l.drop (k + i) = [] := by apply List.drop_eq_nil_of_le; omega
    rw [this, show 5 - i = (4 - i) + 1 by omega, rg]
  · rw [show 5 - i = 0 by omega, rg]

theorem rg_bound : ∀ (f : Nat) (l : List UInt8) (i n m c : Nat), rg f l i n = some (m, c) → n < 128 ^ i → m < 128 ^ (i + f) ∧ i < c ∧ c ≤ i + f ∧ c ≤ i + l.length := by
  intro f
  induction f with
  | zero => intro l i n m c h; simp [rg] at h
  | succ f ih =>
    intro l i n m c h hn
    cases l with
    | nil => simp [rg] at h
    | cons b bs =>
      have hb : b.toNat % 128 * 128 ^ i ≤ 127 * 128 ^ i := Nat.mul_le_mul_right _ (by omega)
      have hp : 128 ^ (i + 1) = 128 * 128 ^ i := by rw [Nat.pow_succ, Nat.mul_comm]
      rw [rg] at h
      split at h
      · simp at h
        obtain ⟨rfl, rfl⟩ := h
        have hq : 128 ^ (i + 1) ≤ 128 ^ (i + (f + 1)) := Nat.pow_le_pow_right (by omega) (by omega)
        simp
        omega
      · obtain ⟨h1, h2, h3, h4⟩ := ih bs (i + 1) _ m c h (by omega)
        rw [show i + 1 + f = i + (f + 1) by omega] at h1
        simp
        omega

/-- The number whose bytes stand in l from k on, and the place behind it. -/
def rv (l : List UInt8) (k : Nat) : Option (Nat × Nat) :=
  match rg 5 (l.drop k) 0 0 with
  | some (n, c) => if n ≤ 1000000000 ∧ vt n = (l.drop k).take c then some (n, k + c) else none
  | none => none

theorem rv_none {l : List UInt8} {k : Nat} (h : rg 5 (l.drop k) 0 0 = none) : rv l k = none := by rw [rv, h]
theorem rv_yes {l : List UInt8} {k n c : Nat} (h : rg 5 (l.drop k) 0 0 = some (n, c)) (h1 : n ≤ 1000000000) (h2 : vt n = (l.drop k).take c) : rv l k = some (n, k + c) := by rw [rv, h]; simp [h1, h2]
theorem rv_no {l : List UInt8} {k n c : Nat} (h : rg 5 (l.drop k) 0 0 = some (n, c)) (h1 : ¬ (n ≤ 1000000000 ∧ vt n = (l.drop k).take c)) : rv l k = none := by rw [rv, h]; simp only [if_neg h1]

theorem rv_le {l : List UInt8} {k n b : Nat} (hk : k ≤ l.length) (h : rv l k = some (n, b)) : n ≤ 1000000000 ∧ k < b ∧ b ≤ l.length := by
  unfold rv at h
  split at h
  · rename_i m c hR
    split at h
    · rename_i h2
      simp at h
      obtain ⟨rfl, rfl⟩ := h
      obtain ⟨_, b2, _, b4⟩ := rg_bound 5 _ 0 0 _ _ hR (by decide)
      simp at b4
      omega
    · simp at h
  · simp at h

end Go.Proofs.YtieenkloiicnkaaGreatDoor

/- Plain facts, with no program in them: frames, their texts, and what is read of a text. -/
namespace Go.Proofs.YtieenkloiicnkaaGreatDoor

theorem vt_short : ∀ (k n : Nat), n < 128 ^ (k + 1) → (vt n).length ≤ k + 1 := by
  intro k
  induction k with
  | zero =>
    intro n h
    rw [vt_small (by simpa using Nat.le_of_lt_succ h)]
    simp
  | succ k ih =>
    intro n h
    by_cases hn : n ≤ 127
    · rw [vt_small hn]; simp
    · rw [vt_big (by omega)]
      have := ih (n / 128) (by rw [Nat.pow_succ] at h; omega)
      simpa using this

theorem vt_five {n : Nat} (h : n ≤ 1000000000) : (vt n).length ≤ 5 := vt_short 4 n (by omega)
theorem vt_two {n : Nat} (h : n ≤ 180) : (vt n).length ≤ 2 := vt_short 1 n (by omega)

/-- The bytes of a number. -/
def vtB (n : Nat) : ByteArray := ⟨(vt n).toArray⟩
theorem vtB_size (n : Nat) : (vtB n).size = (vt n).length := by simp [vtB, ByteArray.size]
theorem vtB_list (n : Nat) : (vtB n).data.toList = vt n := by simp [vtB]

structure Fr where
  gen : Int
  seq : Int
  body : ByteArray

def Fr.ok (f : Fr) : Prop := (1 ≤ f.gen ∧ f.gen ≤ 1000000000) ∧ (1 ≤ f.seq ∧ f.seq ≤ 1000000000) ∧ 1 ≤ f.body.size ∧ f.body.size ≤ 180
instance decFrOk (f : Fr) : Decidable f.ok := by unfold Fr.ok; infer_instance

/-- What is sealed of a frame. -/
def Fr.raw (f : Fr) : ByteArray := vtB f.gen.toNat ++ vtB f.seq.toNat ++ (vtB f.body.size ++ f.body)
/-- Its text, of whatever sum. -/
def Fr.text (f : Fr) (four : ByteArray → ByteArray) : ByteArray := f.raw ++ four f.raw

theorem Fr.raw_size {f : Fr} (h : f.ok) : f.raw.size ≤ 192 := by
  obtain ⟨h1, h2, h3, h4⟩ := h
  have a := vt_five (n := f.gen.toNat) (by omega)
  have b := vt_five (n := f.seq.toNat) (by omega)
  have c := vt_two h4
  simp only [Fr.raw, ByteArray.size_append, vtB_size]
  omega

/-- What a number is read from is its bytes. -/
theorem rv_bytes {s : ByteArray} {k n b : Nat} (h : rv s.data.toList k = some (n, b)) (hk : k ≤ s.size) : n ≤ 1000000000 ∧ k < b ∧ b ≤ s.size ∧ s.extract k b = vtB n := by
  have h0 : k ≤ s.data.toList.length := by rw [ba_len]; exact hk
  obtain ⟨h1, h2, h3⟩ := rv_le h0 h
  rw [ba_len] at h3
  refine ⟨h1, h2, h3, ?_⟩
  apply ba_ext
  rw [extract_data, vtB_list]
  unfold rv at h
  split at h
  · split at h
    · rename_i m c hR h4
      simp at h
      obtain ⟨rfl, rfl⟩ := h
      rw [h4.2]
      congr 1
      omega
    · simp at h
  · simp at h

/-- What lies ahead of a frame's sum, and the place behind it. -/
def ru (s : ByteArray) (k : Nat) : Option (Fr × Nat) :=
  match rv s.data.toList k with
  | none => none
  | some (g, a) =>
    match rv s.data.toList a with
    | none => none
    | some (q, b) =>
      match rv s.data.toList b with
      | none => none
      | some (n, c) => if n ≤ 20000 ∧ n + c ≤ s.size then some (⟨g, q, s.extract c (c + n)⟩, c + n) else none

theorem ru_no1 {s : ByteArray} {k : Nat} (h : rv s.data.toList k = none) : ru s k = none := by rw [ru, h]
theorem ru_no2 {s : ByteArray} {k g a : Nat} (h : rv s.data.toList k = some (g, a)) (h2 : rv s.data.toList a = none) : ru s k = none := by rw [ru, h]; simp only [h2]
theorem ru_no3 {s : ByteArray} {k g a q b : Nat} (h : rv s.data.toList k = some (g, a)) (h2 : rv s.data.toList a = some (q, b)) (h3 : rv s.data.toList b = none) : ru s k = none := by rw [ru, h]; simp only [h2, h3]
theorem ru_no4 {s : ByteArray} {k g a q b n c : Nat} (h : rv s.data.toList k = some (g, a)) (h2 : rv s.data.toList a = some (q, b)) (h3 : rv s.data.toList b = some (n, c)) (h4 : ¬ (n ≤ 20000 ∧ n + c ≤ s.size)) : ru s k = none := by rw [ru, h]; simp only [h2, h3, if_neg h4]
theorem ru_yes {s : ByteArray} {k g a q b n c : Nat} (h : rv s.data.toList k = some (g, a)) (h2 : rv s.data.toList a = some (q, b)) (h3 : rv s.data.toList b = some (n, c)) (h4 : n ≤ 20000 ∧ n + c ≤ s.size) : ru s k = some (⟨g, q, s.extract c (c + n)⟩, c + n) := by rw [ru, h]; simp only [h2, h3, if_pos h4]

theorem ru_ways {s : ByteArray} {k e : Nat} {f : Fr} (h : ru s k = some (f, e)) : ∃ g a q b n c : Nat, rv s.data.toList k = some (g, a) ∧ rv s.data.toList a = some (q, b) ∧ rv s.data.toList b = some (n, c) ∧ n ≤ 20000 ∧ n + c ≤ s.size ∧ f = ⟨g, q, s.extract c (c + n)⟩ ∧ e = c + n := by
  unfold ru at h
  split at h
  · simp at h
  · rename_i g a h1
    split at h
    · simp at h
    · rename_i q b h2
      split at h
      · simp at h
      · rename_i n c h3
        split at h
        · rename_i h4
          simp at h
          exact ⟨g, a, q, b, n, c, h1, h2, h3, h4.1, h4.2, h.1.symm, h.2.symm⟩
        · simp at h

theorem ru_raw {s : ByteArray} {k e : Nat} {f : Fr} (h : ru s k = some (f, e)) (hk : k ≤ s.size) : f.raw = s.extract k e ∧ k + 3 ≤ e ∧ e ≤ s.size ∧ (0 ≤ f.gen ∧ f.gen ≤ 1000000000) ∧ (0 ≤ f.seq ∧ f.seq ≤ 1000000000) ∧ f.body.size ≤ 20000 := by
  obtain ⟨g, a, q, b, n, c, h1, h2, h3, h4, h5, rfl, rfl⟩ := ru_ways h
  obtain ⟨g1, g2, g3, g4⟩ := rv_bytes h1 hk
  obtain ⟨q1, q2, q3, q4⟩ := rv_bytes h2 g3
  obtain ⟨n1, n2, n3, n4⟩ := rv_bytes h3 q3
  have hsz : (s.extract c (c + n)).size = n := by rw [ByteArray.size_extract]; omega
  refine ⟨?_, by omega, by omega, by simp only; omega, by simp only; omega, by rw [hsz]; exact h4⟩
  simp only [Fr.raw, hsz, Int.toNat_natCast]
  rw [← g4, ← q4, ← n4, extract_join s (by omega) (by omega), extract_join s (by omega) (by omega), extract_join s (by omega) (by omega)]

/-- The frame whose text stands in s from k on, and the place behind it. -/
def rf (four : ByteArray → ByteArray) (s : ByteArray) (k : Nat) : Option (Fr × Nat) :=
  match ru s k with
  | some (f, e) => if f.ok ∧ e + 4 ≤ s.size ∧ f.text four = s.extract k (e + 4) then some (f, e + 4) else none
  | none => none

variable {four : ByteArray → ByteArray}

theorem rf_none {s : ByteArray} {k : Nat} (h : ru s k = none) : rf four s k = none := by rw [rf, h]
theorem rf_no {s : ByteArray} {k e : Nat} {f : Fr} (h : ru s k = some (f, e)) (h2 : ¬ (f.ok ∧ e + 4 ≤ s.size ∧ f.text four = s.extract k (e + 4))) : rf four s k = none := by rw [rf, h]; simp only [if_neg h2]
theorem rf_yes {s : ByteArray} {k e : Nat} {f : Fr} (h : ru s k = some (f, e)) (h2 : f.ok ∧ e + 4 ≤ s.size ∧ f.text four = s.extract k (e + 4)) : rf four s k = some (f, e + 4) := by rw [rf, h]; simp only [if_pos h2]

theorem rf_some {s : ByteArray} {k e : Nat} {f : Fr} (h : rf four s k = some (f, e)) (hk : k ≤ s.size) : f.ok ∧ k < e ∧ e ≤ s.size ∧ f.text four = s.extract k e := by
  unfold rf at h
  split at h
  · rename_i f' e' hu
    split at h
    · rename_i h2
      simp at h
      obtain ⟨rfl, rfl⟩ := h
      have := (ru_raw hu hk).2.1
      exact ⟨h2.1, by omega, h2.2.1, h2.2.2⟩
    · simp at h
  · simp at h

/-- Frames of a Gen, one behind the other, each with the place behind it. -/
def sqF (four : ByteArray → ByteArray) : Nat → ByteArray → Int → Nat → List (Fr × Nat)
  | 0, _, _, _ => []
  | n + 1, s, g, k =>
    match rf four s k with
    | some (f, e) => if f.gen = g then (f, e) :: sqF four n s g e else []
    | none => []
def sq (four : ByteArray → ByteArray) (s : ByteArray) (g : Int) (k : Nat) : List (Fr × Nat) := sqF four (s.size + 1 - k) s g k

theorem sqF_more : ∀ (n m : Nat) (s : ByteArray) (g : Int) (k : Nat), k ≤ s.size → s.size < n + k → s.size < m + k → sqF four n s g k = sqF four m s g k := by
  intro n
  induction n with
  | zero => intro m s g k h0 h1; omega
  | succ n ih =>
    intro m s g k h0 h1 h2
    cases m with
    | zero => omega
    | succ m =>
      rw [sqF, sqF]
      split
      · rename_i f e hr
        obtain ⟨_, h3, h4, _⟩ := rf_some hr h0
        rw [ih m s g e h4 (by omega) (by omega)]
      · rfl

theorem sq_yes {s : ByteArray} {g : Int} {k e : Nat} {f : Fr} (hk : k ≤ s.size) (h : rf four s k = some (f, e)) (hg : f.gen = g) : sq four s g k = (f, e) :: sq four s g e := by
  obtain ⟨_, h3, h4, _⟩ := rf_some h hk
  rw [sq, show s.size + 1 - k = (s.size - k) + 1 by omega, sqF, h]
  simp only [if_pos hg]
  rw [sq, sqF_more (s.size - k) (s.size + 1 - e) s g e h4 (by omega) (by omega)]
theorem sq_no {s : ByteArray} {g : Int} {k e : Nat} {f : Fr} (h : rf four s k = some (f, e)) (hg : ¬ f.gen = g) : sq four s g k = [] := by
  rw [sq]
  cases s.size + 1 - k with
  | zero => rfl
  | succ n => rw [sqF, h]; simp only [if_neg hg]
theorem sq_none {s : ByteArray} {g : Int} {k : Nat} (h : rf four s k = none) : sq four s g k = [] := by
  rw [sq]
  cases s.size + 1 - k with
  | zero => rfl
  | succ n => rw [sqF, h]

/-- The place behind the last one. -/
def behind : Nat → List (Fr × Nat) → Nat
  | k, [] => k
  | _, x :: l => behind x.2 l

theorem behind_append : ∀ (l m : List (Fr × Nat)) (k : Nat), behind k (l ++ m) = behind (behind k l) m := by
  intro l
  induction l with
  | nil => intro m k; rfl
  | cons x l ih => intro m k; exact ih m x.2
theorem behind_snoc (l : List (Fr × Nat)) (x : Fr × Nat) (k : Nat) : behind k (l ++ [x]) = x.2 := by rw [behind_append]; rfl

/-- Every one of them is right, and short; and there are no more than bytes. -/
theorem sqF_all : ∀ (n : Nat) (s : ByteArray) (g : Int) (k : Nat), k ≤ s.size → (∀ x ∈ sqF four n s g k, x.1.ok ∧ x.2 ≤ s.size) ∧ (sqF four n s g k).length + k ≤ s.size ∧ behind k (sqF four n s g k) ≤ s.size := by
  intro n
  induction n with
  | zero => intro s g k hk; exact ⟨by simp [sqF], by simpa [sqF] using hk, by simpa [sqF, behind] using hk⟩
  | succ n ih =>
    intro s g k hk
    rw [sqF]
    split
    · rename_i f e hr
      obtain ⟨h1, h3, h4, _⟩ := rf_some hr hk
      split
      · obtain ⟨i1, i2, i3⟩ := ih s g e h4
        refine ⟨?_, by simp; omega, i3⟩
        intro x hx
        rcases List.mem_cons.1 hx with rfl | hx
        · exact ⟨h1, h4⟩
        · exact i1 x hx
      · exact ⟨by simp, by simpa using hk, hk⟩
    · exact ⟨by simp, by simpa using hk, hk⟩

theorem sq_all {s : ByteArray} {g : Int} {k : Nat} (hk : k ≤ s.size) : (∀ x ∈ sq four s g k, x.1.ok ∧ x.2 ≤ s.size) ∧ (sq four s g k).length + k ≤ s.size ∧ behind k (sq four s g k) ≤ s.size := sqF_all _ s g k hk

end Go.Proofs.YtieenkloiicnkaaGreatDoor

/- Plain facts on the values of figures, with no program in them. -/
namespace Go.Proofs.YtieenkloiicnkaaGreatDoor

/-- The value of a figure of a base (16: a to f too). -/
def digV (sixteen : Bool) (c : UInt8) : Option Nat :=
  if 48 ≤ c.toNat ∧ c.toNat ≤ 57 then some (c.toNat - 48) else if sixteen = true ∧ 97 ≤ c.toNat ∧ c.toNat ≤ 102 then some (c.toNat - 87) else none

/-- The values of the figures of a text, as far as they are figures. -/
def valsOf (x : Bool) : List UInt8 → List UInt8
  | [] => []
  | c :: cs => match digV x c with
    | some v => UInt8.ofNat v :: valsOf x cs
    | none => []

theorem digV_lt {x : Bool} {c : UInt8} {v : Nat} (h : digV x c = some v) : v < 16 := by
  unfold digV at h
  split at h
  · simp at h; omega
  · split at h
    · simp at h; omega
    · simp at h

theorem valsOf_le (x : Bool) (l : List UInt8) : (valsOf x l).length ≤ l.length := by
  induction l with
  | nil => simp [valsOf]
  | cons c cs ih =>
    unfold valsOf
    split
    · simp; exact ih
    · simp

theorem valsOf_none {x : Bool} : ∀ {l : List UInt8} {k : Nat}, k ≤ (valsOf x l).length → (h : k < l.length) → digV x l[k] = none → (valsOf x l).length = k := by
  intro l
  induction l with
  | nil => intro k _ h; simp at h
  | cons c cs ih =>
    intro k hk h hd
    cases hv : digV x c with
    | none =>
      simp only [valsOf, hv, List.length_nil] at hk ⊢
      omega
    | some v =>
      simp only [valsOf, hv, List.length_cons] at hk ⊢
      cases k with
      | zero => simp [hv] at hd
      | succ k =>
        have := ih (k := k) (by omega) (by simpa using h) (by simpa using hd)
        omega

theorem valsOf_some {x : Bool} : ∀ {l : List UInt8} {k v : Nat}, k ≤ (valsOf x l).length → (h : k < l.length) → digV x l[k] = some v → (valsOf x l)[k]? = some (UInt8.ofNat v) := by
  intro l
  induction l with
  | nil => intro k _ _ h; simp at h
  | cons c cs ih =>
    intro k w hk h hd
    cases hv : digV x c with
    | none =>
      simp only [valsOf, hv, List.length_nil] at hk
      obtain rfl : k = 0 := by omega
      simp [hv] at hd
    | some v =>
      simp only [valsOf, hv, List.length_cons] at hk ⊢
      cases k with
      | zero => simp [hv] at hd; simp [hd]
      | succ k =>
        have := ih (k := k) (v := w) (by omega) (by simpa using h) (by simpa using hd)
        simpa using this

theorem valsOf_lt16 {x : Bool} : ∀ {l : List UInt8} {c : UInt8}, c ∈ valsOf x l → c.toNat < 16 := by
  intro l
  induction l with
  | nil => intro c h; simp [valsOf] at h
  | cons a cs ih =>
    intro c h
    unfold valsOf at h
    split at h
    · rename_i v hv
      rcases List.mem_cons.1 h with rfl | h
      · have := digV_lt hv
        rw [UInt8.toNat_ofNat']; omega
      · exact ih h
    · simp at h

theorem take_next {l : List UInt8} {k : Nat} {v : UInt8} (h : l[k]? = some v) : l.take (k + 1) = l.take k ++ [v] := by
  rw [List.take_add_one, h]; rfl

/-- Two values to a byte. -/
def pairsOf : List UInt8 → List UInt8
  | a :: b :: r => UInt8.ofNat (16 * a.toNat + b.toNat) :: pairsOf r
  | _ => []

theorem pairsOf_append : ∀ (j : Nat) (l : List UInt8) (a b : UInt8), l.length = 2 * j → pairsOf (l ++ [a, b]) = pairsOf l ++ [UInt8.ofNat (16 * a.toNat + b.toNat)] := by
  intro j
  induction j with
  | zero => intro l a b h; obtain rfl := List.length_eq_zero_iff.1 h; rfl
  | succ j ih =>
    intro l a b h
    match l, h with
    | x :: y :: r, h =>
      have := ih r a b (by simp at h; omega)
      simp only [List.cons_append, pairsOf, this]

theorem pairsOf_length : ∀ (j : Nat) (l : List UInt8), l.length = 2 * j → (pairsOf l).length = j := by
  intro j
  induction j with
  | zero => intro l h; obtain rfl := List.length_eq_zero_iff.1 h; rfl
  | succ j ih =>
    intro l h
    match l, h with
    | x :: y :: r, h =>
      have := ih r (by simp at h; omega)
      simp only [pairsOf, List.length_cons, this]

theorem pairs_next {l : List UInt8} {j : Nat} {a b : UInt8} (h1 : l[2 * j]? = some a) (h2 : l[2 * j + 1]? = some b) :
    pairsOf (l.take (2 * (j + 1))) = pairsOf (l.take (2 * j)) ++ [UInt8.ofNat (16 * a.toNat + b.toNat)] := by
  have hl : 2 * j + 1 < l.length := (List.getElem?_eq_some_iff.1 h2).1
  rw [show 2 * (j + 1) = 2 * j + 1 + 1 by omega, take_next h2, take_next h1, List.append_assoc]
  exact pairsOf_append j _ _ _ (by simp; omega)

theorem pair_toNat {a b : Nat} (ha : a < 16) (hb : b < 16) : (UInt8.ofNat (16 * a + b)).toNat = 16 * a + b := by
  rw [UInt8.toNat_ofNat']; omega

theorem shl_or (a b : Nat) (ha : a < 16) (hb : b < 16) : bits .or .u8 ((a : Int) * 16) (b : Int) = ((16 * a + b : Nat) : Int) := by
  have e : (a : Int) * 16 = ((16 * a : Nat) : Int) := by omega
  rw [e, u8_or_nat (16 * a) b (by omega) (by omega)]
  have := Nat.shiftLeft_add_eq_or_of_lt (i := 4) (b := b) (by omega) a
  rw [Nat.shiftLeft_eq, show a * 2 ^ 4 = 16 * a by omega] at this
  rw [this]

/-- The value of a figure as a number, -1 of what is none. -/
def valN (c : Nat) : Int := if 48 ≤ c ∧ c ≤ 57 then (c : Int) - 48 else if 97 ≤ c ∧ c ≤ 102 then (c : Int) - 87 else -1

theorem valN_some {c : UInt8} {v : Nat} (h : digV true c = some v) : valN c.toNat = (v : Int) := by
  unfold digV at h
  unfold valN
  split at h
  · rename_i h1
    simp at h
    rw [if_pos h1]; omega
  · rename_i h1
    split at h
    · rename_i h2
      simp at h
      rw [if_neg h1, if_pos h2.2]; omega
    · simp at h

theorem valN_none {c : UInt8} (h : digV true c = none) : valN c.toNat = -1 := by
  unfold digV at h
  unfold valN
  split at h
  · simp at h
  · rename_i h1
    split at h
    · simp at h
    · rename_i h2
      rw [if_neg h1, if_neg (fun h3 => h2 ⟨rfl, h3⟩)]

/-- Whether a text is the figures of some bytes. -/
abbrev isHex (l : List UInt8) : Prop := l.length ≤ 40000 ∧ l.length % 2 = 0 ∧ (valsOf true l).length = l.length

theorem digV_dec {x : Bool} {c : UInt8} (h1 : 48 ≤ c.toNat) (h2 : c.toNat ≤ 57) : digV x c = some (c.toNat - 48) := by rw [digV, if_pos ⟨h1, h2⟩]
theorem digV_hex {c : UInt8} (h1 : 97 ≤ c.toNat) (h2 : c.toNat ≤ 102) : digV true c = some (c.toNat - 87) := by
  rw [digV, if_neg (by omega), if_pos ⟨rfl, h1, h2⟩]
theorem digV_bad {x : Bool} {c : UInt8} (h1 : ¬ (48 ≤ c.toNat ∧ c.toNat ≤ 57)) (h2 : ¬ (x = true ∧ 97 ≤ c.toNat ∧ c.toNat ≤ 102)) : digV x c = none := by
  rw [digV, if_neg h1, if_neg h2]

end Go.Proofs.YtieenkloiicnkaaGreatDoor

/- Plain facts, with no program in them: what is written is read back. -/
namespace Go.Proofs.YtieenkloiicnkaaGreatDoor

theorem rg_vt : ∀ (f n i m : Nat) (rest : List UInt8), n < 128 ^ (f + 1) → rg (f + 1) (vt n ++ rest) i m = some (m + n * 128 ^ i, i + (vt n).length) := by
  intro f
  induction f with
  | zero =>
    intro n i m rest h
    have hn : n ≤ 127 := by simpa using Nat.le_of_lt_succ h
    rw [vt_small hn]
    simp only [List.cons_append, List.nil_append, rg, loByte_toNat (show n < 256 by omega)]
    rw [if_pos (by omega), Nat.mod_eq_of_lt (by omega)]
    rfl
  | succ f ih =>
    intro n i m rest h
    by_cases hn : n ≤ 127
    · rw [vt_small hn]
      simp only [List.cons_append, List.nil_append, rg, loByte_toNat (show n < 256 by omega)]
      rw [if_pos (by omega), Nat.mod_eq_of_lt (by omega)]
      rfl
    · rw [vt_big (by omega), List.cons_append, rg, hiByte_toNat, if_neg (by omega), ih (n / 128) _ _ _ (by rw [Nat.pow_succ] at h; omega)]
      have e1 : (n % 128 + 128) % 128 = n % 128 := by omega
      have e2 : n / 128 * 128 ^ (i + 1) = n / 128 * 128 * 128 ^ i := by rw [Nat.pow_succ, Nat.mul_comm (128 ^ i) 128, Nat.mul_assoc]
      have e3 : n * 128 ^ i = n % 128 * 128 ^ i + n / 128 * 128 * 128 ^ i := by
        rw [← Nat.add_mul]; congr 1; omega
      rw [e1, e2, e3]
      simp only [Option.some.injEq, Prod.mk.injEq, List.length_cons]
      omega

/-- A number's bytes behind others, and ahead of others, are read. -/
theorem rv_back (pre rest : List UInt8) (n : Nat) (h : n ≤ 1000000000) : rv (pre ++ (vt n ++ rest)) pre.length = some (n, pre.length + (vt n).length) := by
  have hd : (pre ++ (vt n ++ rest)).drop pre.length = vt n ++ rest := by simp
  have hr : rg 5 ((pre ++ (vt n ++ rest)).drop pre.length) 0 0 = some (n, (vt n).length) := by
    rw [hd, rg_vt 4 n 0 0 rest (by omega)]
    simp
  refine rv_yes hr h ?_
  rw [hd]
  simp

theorem val_digs : ∀ (n m : Nat), m ≤ n → val (digs m) = m := by
  intro n
  induction n with
  | zero => intro m h; obtain rfl : m = 0 := by omega
            rfl
  | succ n ih =>
    intro m h
    by_cases h0 : m = 0
    · subst h0; rfl
    · rw [digs_step h0, val_snoc, ih (m / 10) (by omega), figD_toNat (by omega)]
      omega

theorem allDig_digs : ∀ (n m : Nat), m ≤ n → allDig (digs m) := by
  intro n
  induction n with
  | zero => intro m h c hc; obtain rfl : m = 0 := by omega
            simp [digs_zero] at hc
  | succ n ih =>
    intro m h
    by_cases h0 : m = 0
    · subst h0; intro c hc; simp [digs_zero] at hc
    · rw [digs_step h0]
      intro c hc
      rcases List.mem_append.1 hc with h1 | h1
      · exact ih (m / 10) (by omega) c h1
      · simp at h1
        subst h1
        rw [figD_toNat (by omega)]
        omega

theorem digs_short : ∀ (k m : Nat), m < 10 ^ k → (digs m).length ≤ k := by
  intro k
  induction k with
  | zero => intro m h; obtain rfl : m = 0 := by simpa using h
            simp [digs_zero]
  | succ k ih =>
    intro m h
    by_cases h0 : m = 0
    · subst h0; simp [digs_zero]
    · rw [digs_step h0]
      have := ih (m / 10) (by rw [Nat.pow_succ] at h; omega)
      simp
      exact this

/-- The figures of a number tell it. -/
theorem dec_back (n : Nat) (h : n ≤ 1000000000) : (dec n).length ≤ 10 ∧ allDig (dec n) ∧ val (dec n) = n := by
  by_cases h0 : n = 0
  · subst h0
    refine ⟨by decide, ?_, by decide⟩
    intro c hc
    have : dec 0 = [48] := rfl
    rw [this] at hc
    simp at hc
    subst hc
    decide
  · rw [dec, if_neg h0]
    exact ⟨digs_short 10 n (by omega), allDig_digs n n (Nat.le_refl _), val_digs n n (Nat.le_refl _)⟩

theorem digV_fig : ∀ x, x < 16 → digV true (fig x) = some x := by decide +kernel

theorem valsOf_hex : ∀ l : List UInt8, valsOf true (hexOf l) = l.flatMap fun c => [UInt8.ofNat (c.toNat / 16), UInt8.ofNat (c.toNat % 16)] := by
  intro l
  induction l with
  | nil => rfl
  | cons c l ih =>
    have hc : c.toNat < 256 := UInt8.toNat_lt _
    have e : hexOf (c :: l) = fig (c.toNat / 16) :: fig (c.toNat % 16) :: hexOf l := rfl
    rw [e, valsOf, digV_fig _ (by omega)]
    simp only
    rw [valsOf, digV_fig _ (by omega)]
    simp only [List.flatMap_cons, List.cons_append, List.nil_append, ih]

theorem pairs_hex : ∀ l : List UInt8, pairsOf (l.flatMap fun c => [UInt8.ofNat (c.toNat / 16), UInt8.ofNat (c.toNat % 16)]) = l := by
  intro l
  induction l with
  | nil => rfl
  | cons c l ih =>
    have hc : c.toNat < 256 := UInt8.toNat_lt _
    simp only [List.flatMap_cons, List.cons_append, List.nil_append, pairsOf, ih]
    congr 1
    apply UInt8.toNat_inj.1
    rw [UInt8.toNat_ofNat', UInt8.toNat_ofNat', UInt8.toNat_ofNat']
    omega

/-- Figures written are read back. -/
theorem hex_back (l : List UInt8) (h : l.length ≤ 20000) : isHex (hexOf l) ∧ pairsOf (valsOf true (hexOf l)) = l := by
  have h1 := hexOf_length l
  have h2 : (valsOf true (hexOf l)).length = (hexOf l).length := by
    rw [valsOf_hex, h1]
    clear h h1
    induction l with
    | nil => rfl
    | cons c l ih => simp only [List.flatMap_cons, List.length_append, List.length_cons, List.length_nil]; omega
  exact ⟨⟨by omega, by omega, h2⟩, by rw [valsOf_hex, pairs_hex]⟩

end Go.Proofs.YtieenkloiicnkaaGreatDoor
