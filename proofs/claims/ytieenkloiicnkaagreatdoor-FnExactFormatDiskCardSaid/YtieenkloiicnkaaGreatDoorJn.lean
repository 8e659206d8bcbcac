/- Texts of our own, joined. -/
import Derived.Test.YtieenkloiicnkaaGreatDoorJm
import Derived.Test.YtieenkloiicnkaaGreatDoorJg
import Derived.Test.YtieenkloiicnkaaGreatDoorJf
import Derived.Deep.RegionLaw
/- What the program's landed and FlushDisk hand back. -/
namespace Go.Proofs.YtieenkloiicnkaaGreatDoor
open Go.RowKit

theorem run_copy_into {P : Program} (w : World) (dT sT ty elem : TypeId) (g o dLen dCap : Nat) (s : ByteArray) (cur : Array Value) (t : TypeId)
    (hu : P.underlying dT = some (.slice elem)) (hs : (P.info? elem).map (·.size) = some 1) (hg : w.heap[g]? = some (.cells cur t (0, 0))) (hfit : o + dLen ≤ cur.size) :
    ∃ w', (Builtin.copy_ #[dT, sT] ty #[.slice (some ⟨g, o, none⟩) dLen dCap, .string s]).run P w = .ok (.int .i64 ((Nat.min s.size dLen : Nat) : Int)) w' ∧ w'.heap[g]? = some (.cells (splice cur.toList o (bytesV (s.data.toList.take dLen))).toArray t (0, 0)) ∧ w.grownBy w' (some g) := by
  have hsz : s.data.toList.length = s.size := by rw [Array.length_toList]; rfl
  have hml : Nat.min s.size dLen ≤ dLen := Nat.min_le_right _ _
  have htl : (s.data.toList.take (Nat.min s.size dLen)) = s.data.toList.take dLen := by
    rcases Nat.le_total s.size dLen with h | h
    · rw [show Nat.min s.size dLen = s.size from Nat.min_eq_left h, List.take_of_length_le (by omega), List.take_of_length_le (by omega)]
    · rw [show Nat.min s.size dLen = dLen from Nat.min_eq_right h]
  have hlen : (bytesV (s.data.toList.take (Nat.min s.size dLen))).length = Nat.min s.size dLen := by
    rw [bytesV_length, List.length_take, hsz]; exact Nat.min_eq_left (Nat.min_le_left _ _)
  have hst := run_storeCells_at P g o t (bytesV (s.data.toList.take (Nat.min s.size dLen))) 0 cur w hg (by rw [hlen]; omega) (bytesV_one _)
  refine ⟨_, ?_, ?_, grownBy_setRow w g (cur.toList.take (o + 0) ++ bytesV (s.data.toList.take (Nat.min s.size dLen)) ++ cur.toList.drop (o + 0 + (bytesV (s.data.toList.take (Nat.min s.size dLen))).length)).toArray⟩
  · cases hq : P.info? elem with
    | none => simp [hq] at hs
    | some i =>
      have hmap : List.take (Nat.min s.size dLen) (List.map (fun b : UInt8 => Value.int IntKind.u8 (b.toNat : Int)) s.data.toList) = bytesV (s.data.toList.take (Nat.min s.size dLen)) := by rw [bytesV, List.map_take]
      simp [Builtin.copy_, run_underlying hu, Builtin.lenOf, Builtin.firstCells, sizeOf, typeInfo, hq]
      rw [hmap, hst]
      simp [Result.andThen, goInt]
  · have := setRow_heap w g _ (cur.toList.take (o + 0) ++ bytesV (s.data.toList.take (Nat.min s.size dLen)) ++ cur.toList.drop (o + 0 + (bytesV (s.data.toList.take (Nat.min s.size dLen))).length)).toArray t _ hg
    rw [this]
    congr 3
    rw [htl, splice]
    simp

def overS (s : Sec) (t : ByteArray) (n : Nat) : Sec := ⟨splice s.1 0 (t.data.toList.take (min n 32)), by rw [length_splice]; exact s.2; rw [s.2, List.length_take]; omega⟩

theorem splice_row (l : List Sec) (i : Nat) (s : Sec) (hi : l[i]? = some s) (t : ByteArray) (n : Nat) (hn : n ≤ 32) : splice (secE.row l) (i * 32) (bytesV (t.data.toList.take n)) = secE.row (l.set i (overS s t n)) := by
  induction l generalizing i with
  | nil => simp at hi
  | cons x l ih =>
    have e : secE.row (x :: l) = bytesV x.1 ++ secE.row l := rfl
    have hx : (bytesV x.1).length = 32 := by rw [bytesV_length, x.2]
    have hc : (bytesV (t.data.toList.take n)).length ≤ 32 := by rw [bytesV_length, List.length_take]; omega
    rw [e]
    cases i with
    | zero =>
      have : x = s := by simpa using hi
      subst this
      have e2 : secE.row ((x :: l).set 0 (overS x t n)) = bytesV (overS x t n).1 ++ secE.row l := rfl
      rw [e2]
      unfold overS splice
      simp only [Nat.zero_mul, List.take_zero, List.nil_append, Nat.zero_add]
      rw [List.drop_append_of_le_length (by omega), ← List.append_assoc]
      congr 1
      rw [Nat.min_eq_left hn]
      simp [bytesV]
    | succ i =>
      have hi' : l[i]? = some s := by simpa using hi
      have e2 : secE.row ((x :: l).set (i + 1) (overS s t n)) = bytesV x.1 ++ secE.row (l.set i (overS s t n)) := rfl
      rw [e2, ← ih i hi']
      unfold splice
      have h1 : (i + 1) * 32 = (bytesV x.1).length + i * 32 := by rw [hx]; omega
      rw [h1, List.take_length_add_append, Nat.add_assoc, List.drop_length_add_append]
      simp

theorem splice_take {α : Type} (L : List α) (o m : Nat) (cs : List α) (h : o + cs.length ≤ m) (hm : m ≤ L.length) : (splice L o cs).take m = splice (L.take m) o cs := by
  unfold splice
  rw [List.take_append, List.take_append, List.take_take, List.length_take, List.drop_take]
  have h1 : min o L.length = o := by omega
  have h2 : min m o = o := by omega
  rw [h1, h2, List.take_take, Nat.min_eq_left (show o ≤ m by omega)]
  congr 1
  rw [List.take_of_length_le (show cs.length ≤ m - o by omega)]
  congr 1
  congr 1
  omega

theorem RBuf.copied {B g cap : Nat} {w w' : World} {l : List Sec} (h : RBuf secE B w w (.slice (some ⟨g, 0, none⟩) l.length cap) l) (i : Nat) (s : Sec) (hi : l[i]? = some s) (t : ByteArray) (n : Nat) (hn : n ≤ 32)
    (hw : ∀ cur ty, w.heap[g]? = some (.cells cur ty (0, 0)) → w'.heap[g]? = some (.cells (splice cur.toList (i * 32) (bytesV (t.data.toList.take n))).toArray ty (0, 0))) (hg : w.grownBy w' (some g)) :
    RBuf secE B w' w' (.slice (some ⟨g, 0, none⟩) l.length cap) (l.set i (overS s t n)) := by
  have hlt : i < l.length := (List.getElem?_eq_some_iff.1 hi).1
  have hc : (bytesV (t.data.toList.take n)).length ≤ 32 := by rw [bytesV_length, List.length_take]; omega
  have hl : (l.set i (overS s t n)).length = l.length := by simp
  have hmul : (i + 1) * 32 ≤ l.length * 32 := Nat.mul_le_mul_right _ hlt
  rcases h.own.2 with ⟨e, _⟩ | ⟨g', cap', cur, e, hB, hh, hnc, hcp, hcs, htake⟩
  · cases e
  · simp only [Value.slice.injEq, Option.some.injEq, Addr.mk.injEq, true_and, and_true] at e
    obtain ⟨rfl, rfl⟩ := e
    have hsz : secE.sz = 32 := rfl
    rw [hsz] at hcs
    have hcl : l.length * 32 ≤ cap * 32 := Nat.mul_le_mul_right _ hnc
    have hcl2 : cur.toList.length = cap * 32 := by rw [Array.length_toList]; exact hcs
    refine ⟨⟨?_, .inr ⟨g, cap, _, by rw [hl], hB, hw _ _ hh, by rw [hl]; exact hnc, hcp, ?_, ?_⟩⟩, Below.refl _ _, Nat.le_trans h.le hg.size⟩
    · rw [secE.row_length]
    · rw [List.size_toArray, length_splice _ _ _ (by rw [hcl2]; omega), hcl2]; rfl
    · rw [hl, hsz, List.toList_toArray, splice_take _ _ _ _ (by omega) (by rw [hcl2]; exact hcl)]
      rw [hsz] at htake
      rw [htake]
      exact splice_row l i s hi t n hn


theorem step_copy_into {w : World} {ops : Array Oper} {o : Oper} {a : Act} {K : Act → World → Prop} {Q : Exit → Act → World → Prop} {X : Prop} (hgd : o.guard = none) (d s : Operand) (dT sT : TypeId)
    (ho : o.op = .call { callee := .builtin .copy, args := #[d, s], argTypes := #[dT, sT] }) (elem : TypeId) (hu : Tryz.prog.underlying dT = some (.slice elem)) (hsz : (Tryz.prog.info? elem).map (·.size) = some 1)
    (g off dLen dCap : Nat) (hd : a.eval d = .slice (some ⟨g, off, none⟩) dLen dCap) (t : ByteArray) (hs : a.eval s = .string t) (cur : Array Value) (ty : TypeId) (hg : w.heap[g]? = some (.cells cur ty (0, 0))) (hfit : off + dLen ≤ cur.size)
    (h : ∀ w', w'.heap[g]? = some (.cells (splice cur.toList off (bytesV (t.data.toList.take dLen))).toArray ty (0, 0)) → w.grownBy w' (some g) → K (a.put o.dst (.int .i64 ((Nat.min t.size dLen : Nat) : Int))) w') :
    if Region.wanted o (yielded ops a.tmps) = true then Oper.wp Tryz.prog o a w K Q else X := by
  have hw : Region.wanted o (yielded ops a.tmps) = true := by simp [Region.wanted, hgd]
  rw [if_pos hw]
  obtain ⟨w', hrun, hb, hgr⟩ := run_copy_into (P := Tryz.prog) w dT sT o.type elem g off dLen dCap t cur ty hu hsz hg hfit
  unfold Oper.wp
  simp [execOp, ho, resolve, invoke, builtin, hd, hs, hrun, Result.andThen]
  exact h w' hb hgr

def putS (l : List Sec) (k : Nat) (t : ByteArray) (m : Nat) : List Sec := match l[k]? with
  | some s => l.set k (overS s t m)
  | none => l
theorem putS_length (l : List Sec) (k : Nat) (t : ByteArray) (m : Nat) : (putS l k t m).length = l.length := by unfold putS; split <;> simp
theorem putS_at {l : List Sec} {k : Nat} (h : k < l.length) (t : ByteArray) (m : Nat) : putS l k t m = l.set k (overS l[k] t m) := by unfold putS; rw [List.getElem?_eq_getElem h]
def landI (l : List Sec) (ws : List Wr) (n : Nat) : Nat → List Sec
  | 0 => l
  | i + 1 => match ws[i]? with
    | some x => putS (landI l ws n i) x.at_.toNat x.text (if i + 1 = ws.length then n else 32)
    | none => landI l ws n i
theorem landI_length (l : List Sec) (ws : List Wr) (n i : Nat) : (landI l ws n i).length = l.length := by
  induction i with
  | zero => rfl
  | succ i ih => unfold landI; split <;> simp [putS_length, ih]
theorem landI_succ {l : List Sec} {ws : List Wr} {n i : Nat} (h : i < ws.length) : landI l ws n (i + 1) = putS (landI l ws n i) ws[i].at_.toNat ws[i].text (if i + 1 = ws.length then n else 32) := by
  rw [landI, List.getElem?_eq_getElem h]

def landD (d : Dk) (ws : List Wr) (n : Nat) : Dk := if d.ok then ⟨(landI (d.sec.map secOf) ws n ws.length).map Sec.str, []⟩ else d

set_option maxRecDepth 100000 in
set_option maxHeartbeats 4000000 in
theorem landed_any (d : Dk) (v : Value) (B T : Nat) (w : World) (h : DOwn B T w v d) (hs : d.small) (ht : ∀ s ∈ d.sec, s.size ≤ 1099511627776) (hu : ∀ x ∈ d.cache, x.text.size ≤ 1099511627776)
    (vw : Value) (ws : List Wr) (hw : Rows' wrE w vw ws) (hwl : ws.length ≤ 1048576) (n : Nat) (hn : n ≤ 32) (hin : d.ok → ∀ x ∈ ws, 0 ≤ x.at_ ∧ x.at_ < d.sec.length) :
    Calls Tryz.prog 131 #[v, vw, .int .i64 (n : Int)] w fun e w' => DiskR1 (landD d ws n) w e w' := by
  obtain ⟨aa, ab, ca, cb, rfl⟩ := h.form
  obtain ⟨aw, cw, rfl⟩ : ∃ (a : Option Addr) (c : Nat), vw = .slice a ws.length c := by
    rcases hw with ⟨e, a, c, rfl⟩ | ⟨g, o, c, rfl, _⟩
    · exact ⟨a, c, by rw [e]; rfl⟩
    · exact ⟨_, c, rfl⟩
  obtain ⟨hx0, hx1, b0, hsz⟩ := two_boxes w #[.slice aa d.sec.length ca, .slice ab d.cache.length cb] #[.slice none 0 0, .slice none 0 0] 33 33
  have h' := h.later b0
  have hw' := hw.later b0
  go_enter Tryz.func131, Tryz.ntmps131
  go_wp2_with fail
  generalize ((w.alloc (.cells #[.slice aa d.sec.length ca, .slice ab d.cache.length cb] 33)).alloc (.cells #[.slice none 0 0, .slice none 0 0] 33)) = W at hx0 hx1 b0 hsz h' hw' ⊢
  have HSZ := Lib.hid hsz
  refine (implDiskOk_any d _ _ h'.rd hs).mono ?_
  rintro e w2 ⟨rfl, k2⟩
  have b2 := b0.trans (k2.mono b0.size)
  have X0 := Lib.hid (hx0.later k2)
  have X1 := Lib.hid (hx1.later k2)
  have H2 := Lib.hid (h'.later k2)
  have HW2 := Lib.hid (hw'.later k2)
  have hWl : Hid (w.heap.size + 1 < W.heap.size) := show _ < _ by omega
  have s2 : W.heap.size ≤ w2.heap.size := k2.size
  clear h hw hx0 hx1 hsz hw'
  by_cases hok : d.ok
  · have E2 := Lib.hid (show landD d ws n = ⟨(landI (d.sec.map secOf) ws n ws.length).map Sec.str, []⟩ from if_pos hok)
    have HIN := Lib.hid (hin hok)
    have hD1 : d.sec.length ≤ 100 := hok.2.1
    have hD0 : 1 ≤ d.sec.length := hok.1
    rw [decide_eq_true hok]
    have c0 := X0.out.cell 0 (.slice aa d.sec.length ca) rfl
    clear hin ht hu h'
    go_wp2_with (at_make; refine wpList_make_room rfl _ _ secE rfl .i64 .i64 _ d.sec.length rfl rfl rfl (by show 33 * d.sec.length ≤ _; omega) ?_; intro w3 hr3; have c3 := (X0.out.later hr3.bel).cell 0 (.slice aa d.sec.length ca) rfl)
    have HR3 := Lib.hid hr3
    clear hr3 c3 c0
    go_loopw [7, 25] (fun tv iv wr => ∃ i : Nat, i ≤ d.sec.length ∧ iv = .int .i64 (i : Int) ∧ RBuf secE w2.heap.size w2 wr tv ((d.sec.map secOf).take i)) (fun _ iv _ => d.sec.length - (intOf iv).toNat)
    case atStart => exact ⟨0, by omega, rfl, HR3.out⟩
    case round =>
      obtain ⟨i, hi, rfl, hr⟩ := hrel
      obtain ⟨pt, ct, rfl⟩ := hr.form
      have hlen : ((d.sec.map secOf).take i).length = i := by simp; omega
      rw [hlen] at hr ⊢
      by_cases hlt : i < d.sec.length
      · obtain ⟨_, _, hv, l1, _, _⟩ := H2.out.later hr.bel
        simp only [Value.agg.injEq, Array.mk.injEq, List.cons.injEq, and_true] at hv
        obtain ⟨rfl, _⟩ := hv
        obtain ⟨ga, rfl⟩ : ∃ g1 : Nat, aa = some ⟨g1, 0, none⟩ := by
          rcases l1.1.own.2 with ⟨_, e⟩ | ⟨g, cap, cur, e, _⟩
          · omega
          · simp only [Value.slice.injEq] at e; exact ⟨g, e.1⟩
        have hat := List.getElem?_eq_getElem hlt
        have cS : wr.cell? ⟨ga, i, none⟩ = some (.string d.sec[i]) := by
          have := l1.1.cell rfl i _ hat 0 _ rfl
          rw [show strE.sz = 1 from rfl, Nat.mul_one, Nat.add_zero] at this
          exact this
        have htk : Hid ((d.sec.map secOf).take (i + 1) = (d.sec.map secOf).take i ++ [secOf d.sec[i]]) := by
          show (d.sec.map secOf).take (i + 1) = (d.sec.map secOf).take i ++ [secOf d.sec[i]]
          rw [List.take_succ_eq_append_getElem (by simpa using hlt)]; simp
        clear hat l1
        generalize d.sec[i] = t at *
        have hi0 : (0 : Int) ≤ (i : Int) := by omega
        have hi1 : (i : Int) < (d.sec.length : Int) := by omega
        have HR := Lib.hid hr
        have hcp : ((d.sec.map secOf).take i).length + [secOf t].length ≤ 101 := by simp; omega
        clear hr hlen
        go_wp2_with (first
          | (go_at_call 128; refine (sectorOf_any t _).mono ?_; rintro e w4 ⟨rfl, k4⟩; have r4 := HR.out.later k4; have R4 := Lib.hid r4; have R5 := Lib.hid ((r4.alloc (.cells (bytesV (secOf t).1).toArray 170)).here); clear r4)
          | ((with_reducible refine wpList_build_sec rfl _ rfl (secOf t) ?_ ?_); exact rfl)
          | (at_builtin; refine wpList_append_rows rfl _ _ secE rfl w2.heap.size _ _ rfl R5.out w4.heap.size _ [secOf t] rfl (RBuf.lit1 secE w4 (secOf t)) (by show _ * 33 ≤ _; omega) ?_; intro v6 w6 r6 g6 at6; obtain ⟨a6, q6, rfl⟩ := r6.form))
        have e6 : ((d.sec.map secOf).take i ++ [secOf t]).length = i + 1 := by simp; omega
        rw [e6] at r6
        have b6 : Below w2.heap.size w2 w6 := (R4.out.alloc (.cells (bytesV (secOf t).1).toArray 170)).bel.grown g6 (R4.out.alloc (.cells (bytesV (secOf t).1).toArray 170)).le (fun k hk => (R4.out.own.lt k hk).1)
        have f6 : RBuf secE w2.heap.size w2 w6 (.slice a6 (i + 1) q6) ((d.sec.map secOf).take (i + 1)) := by
          rw [htk.out]
          exact ⟨r6.own, b6, r6.le⟩
        refine ⟨⟨_, _, _, ⟨i + 1, by omega, ?_, f6⟩, rfl, rfl, rfl⟩, ?_⟩
        · go_num
        · simp [intOf]; omega
      · have hie : i = d.sec.length := by omega
        subst hie
        rw [List.take_of_length_le (by simp)] at hr
        have HR := Lib.hid hr
        have s5 : Hid (w2.heap.size ≤ wr.heap.size) := hr.le
        have B5 := Lib.hid hr.bel
        obtain ⟨g7, rfl⟩ : ∃ g1 : Nat, pt = some ⟨g1, 0, none⟩ := by
          rcases hr.own.2 with ⟨_, e⟩ | ⟨g, cap, cur, e, _⟩
          · rw [List.length_map] at e; omega
          · simp only [Value.slice.injEq] at e; exact ⟨g, e.1⟩
        have hg7 : w2.heap.size ≤ g7 ∧ g7 < wr.heap.size := hr.own.lt g7 rfl
        clear hr hlen hlt HR3
        go_wp2
        obtain ⟨wa, hwa⟩ : ∃ wa, wa = wr := ⟨_, rfl⟩
        subst hwa
        go_loopw [37] (fun iv wr => ∃ i : Nat, i ≤ ws.length ∧ iv = .int .i64 (i : Int) ∧ RBuf secE w2.heap.size wr wr (.slice (some ⟨g7, 0, none⟩) d.sec.length ct) (landI (d.sec.map secOf) ws n i) ∧ Below w2.heap.size w2 wr) (fun iv _ => ws.length - (intOf iv).toNat)
        case atStart => exact ⟨0, by omega, rfl, HR.out.here, B5.out⟩
        case round =>
          obtain ⟨i, hi, rfl, hbr, hbel⟩ := hrel
          have hll : (landI (d.sec.map secOf) ws n i).length = d.sec.length := by rw [landI_length]; simp
          by_cases hlt : i < ws.length
          · obtain ⟨g, off, rfl, hcl⟩ := (HW2.out.later hbel).at i hlt
            have d0 : wr.cell? ⟨g, off + i * 2, none⟩ = some (.int .i64 ws[i].at_) := hcl wr (Below.refl _ _) 0 _ rfl
            have d1 : wr.cell? ⟨g, off + i * 2 + 1, none⟩ = some (.string ws[i].text) := hcl wr (Below.refl _ _) 1 _ rfl
            obtain ⟨hx1, hx2⟩ := HIN.out _ (List.getElem_mem hlt)
            have hsu := Lib.hid (landI_succ (l := d.sec.map secOf) (n := n) hlt)
            clear hcl
            generalize ws[i] = x at *
            obtain ⟨na, t⟩ := x
            simp only at d0 d1 hx1 hx2 hsu
            obtain ⟨k, rfl⟩ := Int.eq_ofNat_of_zero_le hx1
            rw [Int.toNat_natCast] at hsu
            have hk : k < (landI (d.sec.map secOf) ws n i).length := by omega
            have hat := List.getElem?_eq_getElem hk
            rw [← hll] at hbr
            obtain ⟨cur, hh, hcs⟩ : ∃ cur, wr.heap[g7]? = some (.cells cur secE.ty (0, 0)) ∧ (k + 1) * 32 ≤ cur.size := by
              rcases hbr.own.2 with ⟨e, _⟩ | ⟨g', cap', cur, e, hB, hh, hnc, hcp, hcs, htake⟩
              · cases e
              · simp only [Value.slice.injEq, Option.some.injEq, Addr.mk.injEq, true_and, and_true] at e
                obtain ⟨rfl, rfl⟩ := e
                refine ⟨cur, hh, ?_⟩
                rw [hcs, show secE.sz = 32 from rfl]
                exact Nat.mul_le_mul_right _ (by omega)
            obtain ⟨m, hm⟩ : ∃ m, (if i + 1 = ws.length then n else 32) = m := ⟨_, rfl⟩
            have hm32 : m ≤ 32 := by rw [← hm]; split <;> omega
            rw [hm] at hsu
            have FIN : Hid (∀ w6 : World, (((wr.alloc (.cells #[.int .i64 (k : Int), .string t] 111)).drew)).grownBy w6 (some g7) → w6.heap[g7]? = some (.cells (splice cur.toList (k * 32) (bytesV (t.data.toList.take m))).toArray secE.ty (0, 0)) →
                RBuf secE w2.heap.size w6 w6 (.slice (some ⟨g7, 0, none⟩) d.sec.length ct) (landI (d.sec.map secOf) ws n (i + 1)) ∧ Below w2.heap.size w2 w6) := by
              intro w6 hg6 hh6
              have bA := belAlloc wr (.cells #[.int .i64 (k : Int), .string t] 111)
              have hx : ((wr.alloc (.cells #[.int .i64 (k : Int), .string t] 111)).drew).heap[g7]? = some (.cells cur secE.ty (0, 0)) := (bA.block g7 (Array.getElem?_eq_some_iff.1 hh).1).trans hh
              have := (((hbr.alloc (.cells #[.int .i64 (k : Int), .string t] 111)).here).drew').copied k _ hat t m hm32 (fun c ty hc => by rw [hx] at hc; simp only [Option.some.injEq, Obj.cells.injEq] at hc; obtain ⟨rfl, rfl, _⟩ := hc; exact hh6) hg6
              rw [hll] at this
              refine ⟨?_, ?_⟩
              · rw [hsu.out, putS_at hk]; exact this
              · have b1 : Below w2.heap.size w2 ((wr.alloc (.cells #[.int .i64 (k : Int), .string t] 111)).drew) := (hbel.trans (bA.mono hbel.size)).drew
                exact b1.grown hg6 b1.size (fun j hj => by have : g7 = j := Option.some.inj hj; omega)
            have HX : Hid ((((wr.alloc (.cells #[.int .i64 (k : Int), .string t] 111)).drew)).heap[g7]? = some (.cells cur secE.ty (0, 0))) := ((belAlloc wr (.cells #[.int .i64 (k : Int), .string t] 111)).block g7 (Array.getElem?_eq_some_iff.1 hh).1).trans hh
            have hfit : Hid (k * 32 + m ≤ cur.size) := show _ ≤ _ by omega
            have hi0 : (0 : Int) ≤ (i : Int) := by omega
            have hi1 : (i : Int) < (ws.length : Int) := by omega
            have hk0 : (0 : Int) ≤ (k : Int) := by omega
            have hm0 : (0 : Int) ≤ (m : Int) := by omega
            have hm1 : (m : Int) ≤ 32 := by omega
            have HKK := Lib.hid hk
            have HLL := Lib.hid hll
            clear hat hbr hh hcs hsu hk hll hg7
            by_cases hlast : i + 1 = ws.length
            · rw [if_pos hlast] at hm
              subst hm
              have hq : ((i : Int) == (ws.length : Int) - 1) = true := by simp; omega
              go_wp2
              go_region_law (first | (refine step_copy_into (by rfl) _ _ 157 9 (by rfl) 5 Tryz.underlying157 (by kernel_rfl) g7 (k * 32) n 32 (by rfl) t (by rfl) cur secE.ty HX.out hfit.out ?_; intro w6 hh6 hg6))
              all_goals
                obtain ⟨fR, fB⟩ := FIN.out w6 hg6 hh6
                have FR := Lib.hid fR
                have FB := Lib.hid fB
                clear fR fB hh6 hg6 FIN HX hq
                go_wp2
                go_roundw
                case rel => exact ⟨i + 1, by omega, by go_num, FR.out, FB.out⟩
                case measure => simp [intOf]; omega
            · rw [if_neg hlast] at hm
              subst hm
              have hq : ((i : Int) == (ws.length : Int) - 1) = false := by simp; omega
              go_wp2
              go_region_law (first | (refine step_copy_into (by rfl) _ _ 157 9 (by rfl) 5 Tryz.underlying157 (by kernel_rfl) g7 (k * 32) 32 32 (by rfl) t (by rfl) cur secE.ty HX.out hfit.out ?_; intro w6 hh6 hg6))
              all_goals
                obtain ⟨fR, fB⟩ := FIN.out w6 hg6 hh6
                have FR := Lib.hid fR
                have FB := Lib.hid fB
                clear fR fB hh6 hg6 FIN HX hq
                go_wp2
                go_roundw
                case rel => exact ⟨i + 1, by omega, by go_num, FR.out, FB.out⟩
                case measure => simp [intOf]; omega
          · have hie : i = ws.length := by omega
            subst hie
            have HB := Lib.hid hbr
            have X7 := Lib.hid (X1.out.later hbel)
            have b7 := b2.trans (hbel.mono b2.size)
            rw [← hll] at hbr
            have hl7 : (landI (d.sec.map secOf) ws n ws.length).length ≤ 1048576 := by omega
            go_wp2_with fail
            rw [← hll]
            refine (sectorTexts_any _ _ _ _ hbr hl7).mono ?_
            rintro e w8 ⟨v8, rfl, r8⟩
            obtain ⟨a8, q8, rfl⟩ := r8.form
            rw [List.length_map] at r8 ⊢
            have x8 := X7.out.later r8.bel
            have r0 := x8.cell 0 (.slice none 0 0) rfl
            have r1 := x8.cell 1 (.slice none 0 0) rfl
            have f0 := x8.loose 0
            have f1 := x8.loose 1
            have b8 := Lib.hid (b7.trans (r8.bel.mono b7.size))
            have R8 := Lib.hid r8
            have SZ : Hid (w.heap.size + 1 < wr.heap.size ∧ w.heap.size ≤ wr.heap.size) := ⟨Nat.lt_of_lt_of_le hWl.out (Nat.le_trans s2 hbel.size), b7.size⟩
            clear x8 r8 hbr hll
            go_wp2
            refine bodyPost_ret (v := .agg #[.slice a8 (landI (d.sec.map secOf) ws n ws.length).length q8, .slice none 0 0]) (by simp [results, Tryz.results131, go_sem, r0, r1]) rfl ?_
            rw [E2.out]
            have q1 := (R8.out.lown.store (w.heap.size + 1) 0 (.slice a8 (landI (d.sec.map secOf) ws n ws.length).length q8) SZ.out.1).store (w.heap.size + 1) 1 (.slice none 0 0) SZ.out.1
            refine ⟨_, rfl, ⟨_, _, rfl, (q1.deeper SZ.out.2).wider (by simp) (Nat.le_refl _), ⟨⟨World.ownsRow_nil _ _ _ _, Below.refl _ _, ?_⟩, Nat.le_refl _, fun k hk => by cases hk⟩, ?_⟩, ?_⟩
            · have := b8.out.size; simpa using this
            · cases hv : (Value.slice a8 (landI (d.sec.map secOf) ws n ws.length).length q8).ownBlock with
              | none => exact .inl rfl
              | some k => exact .inr (by simp [Value.ownBlock])
            · exact (b8.out.setCell (p := ⟨w.heap.size + 1, 0, none⟩) (by simp) _).setCell (p := ⟨w.heap.size + 1, 1, none⟩) (by simp) _
  · have E2 := Lib.hid (show landD d ws n = d from if_neg hok)
    rw [decide_eq_false hok]
    have m0 := X0.out.cell 0 (.slice aa d.sec.length ca) rfl
    have m1 := X0.out.cell 1 (.slice ab d.cache.length cb) rfl
    have H7 := H2.out
    clear hin h'
    go_wp2_with fail
    clear m0 m1
    refine (copyDisk_any d _ B T _ H7 hs ht hu).mono ?_
    rintro e w8 ⟨v8, rfl, o8, k8⟩
    obtain ⟨a8, a9, q8, q9, rfl⟩ := o8.form
    have x8 := X1.out.later k8
    have r0 := x8.cell 0 (.slice none 0 0) rfl
    have r1 := x8.cell 1 (.slice none 0 0) rfl
    have f0 := x8.loose 0
    have f1 := x8.loose 1
    have b8 := Lib.hid (b2.trans (k8.mono b2.size))
    have O8 := Lib.hid o8
    have S2 := Lib.hid s2
    clear x8 o8 H7 k8 s2
    go_wp2
    refine bodyPost_ret (v := .agg #[.slice a8 d.sec.length q8, .slice a9 d.cache.length q9]) (by simp [results, Tryz.results131, go_sem, r0, r1]) rfl ?_
    have hl7 : w.heap.size + 1 < w2.heap.size := Nat.lt_of_lt_of_le hWl.out S2.out
    rw [E2.out]
    exact ⟨_, rfl, ((O8.out.store (w.heap.size + 1) 0 (.slice a8 d.sec.length q8) hl7).store (w.heap.size + 1) 1 (.slice a9 d.cache.length q9) hl7).widen (by omega) (by simp) (Nat.le_refl _), (b8.out.setCell (p := ⟨w.heap.size + 1, 0, none⟩) (by simp) _).setCell (p := ⟨w.heap.size + 1, 1, none⟩) (by simp) _⟩

end Go.Proofs.YtieenkloiicnkaaGreatDoor
