/- Texts of our own, joined. -/
import Derived.Test.YtgcnebepklelpaaGreatDoorJa
import Derived.Test.YtgcnebepklelpaaGreatDoorJb
import Derived.Laws.CopyOwn
import Derived.Laws.Rows
import Derived.Laws.Tables
import Derived.Deep.MidRow
import Derived.Deep.RegionHeld3
import Derived.Laws.StructEq
import Derived.Lib.Hide
import Derived.Test.YtgcnebepklelpaaGreatDoorJe
import Derived.Deep.QuietTactic
import Derived.BigQuiet
import Derived.Test.YtgcnebepklelpaaGreatDoorJf
import Derived.Lib.SliceRun
import Derived.Deep.DeepCutAuto
/- Sectors as arrays of bytes: sectorOf, text, sectorOk. -/
namespace Go.Proofs.YtgcnebepklelpaaGreatDoor
open Go.RowKit

theorem bytesV_one (l : List UInt8) : ∀ v ∈ bytesV l, v.oneCell' = true := by
  intro v hv
  simp only [bytesV, List.mem_map] at hv
  obtain ⟨b, _, rfl⟩ := hv
  rfl

theorem grownBy_setRow (w : World) (g : Nat) (cs : Array Value) : w.grownBy (w.setRow g cs) (some g) :=
  ⟨rfl, rfl, rfl, by simp [World.setRow], fun k _ hk => setRow_other w g k cs (fun e => hk (by simp [e]))⟩

theorem run_copy_text {P : Program} (w : World) (dT sT ty elem : TypeId) (g o dLen dCap : Nat) (s : ByteArray) (l : List UInt8) (t : TypeId)
    (hu : P.underlying dT = some (.slice elem)) (hs : (P.info? elem).map (·.size) = some 1) (hg : Box w g (bytesV l).toArray t) (hfit : o + dLen ≤ l.length) :
    ∃ w', (Builtin.copy_ #[dT, sT] ty #[.slice (some ⟨g, o, none⟩) dLen dCap, .string s]).run P w = .ok (.int .i64 ((Nat.min s.size dLen : Nat) : Int)) w' ∧ Box w' g (bytesV (splice l o (s.data.toList.take dLen))).toArray t ∧ w.grownBy w' (some g) := by
  have hsz : s.data.toList.length = s.size := by rw [Array.length_toList]; rfl
  have hml : Nat.min s.size dLen ≤ dLen := Nat.min_le_right _ _
  have htl : (s.data.toList.take (Nat.min s.size dLen)) = s.data.toList.take dLen := by
    rcases Nat.le_total s.size dLen with h | h
    · rw [show Nat.min s.size dLen = s.size from Nat.min_eq_left h, List.take_of_length_le (by omega), List.take_of_length_le (by omega)]
    · rw [show Nat.min s.size dLen = dLen from Nat.min_eq_right h]
  have hlen : (bytesV (s.data.toList.take (Nat.min s.size dLen))).length = Nat.min s.size dLen := by
    rw [bytesV_length, List.length_take, hsz]; exact Nat.min_eq_left (Nat.min_le_left _ _)
  have hst := run_storeCells_at P g o t (bytesV (s.data.toList.take (Nat.min s.size dLen))) 0 (bytesV l).toArray w hg (by rw [hlen]; simp [bytesV_length]; omega) (bytesV_one _)
  refine ⟨_, ?_, ?_, grownBy_setRow w g ((bytesV l).toArray.toList.take (o + 0) ++ bytesV (s.data.toList.take (Nat.min s.size dLen)) ++ (bytesV l).toArray.toList.drop (o + 0 + (bytesV (s.data.toList.take (Nat.min s.size dLen))).length)).toArray⟩
  · cases hq : P.info? elem with
    | none => simp [hq] at hs
    | some i =>
      have hmap : List.take (Nat.min s.size dLen) (List.map (fun b : UInt8 => Value.int IntKind.u8 (b.toNat : Int)) s.data.toList) = bytesV (s.data.toList.take (Nat.min s.size dLen)) := by rw [bytesV, List.map_take]
      simp [Builtin.copy_, run_underlying hu, Builtin.lenOf, Builtin.firstCells, sizeOf, typeInfo, hq]
      rw [hmap, hst]
      simp [Result.andThen, goInt]
  · have := setRow_heap w g _ ((bytesV l).toArray.toList.take (o + 0) ++ bytesV (s.data.toList.take (Nat.min s.size dLen)) ++ (bytesV l).toArray.toList.drop (o + 0 + (bytesV (s.data.toList.take (Nat.min s.size dLen))).length)).toArray t _ hg
    unfold Box
    rw [this]
    congr 3
    rw [htl]
    simp [bytesV, splice]

set_option maxRecDepth 100000 in
theorem upon_copy_text {w : World} {a : Act} {K : Act → World → Prop} {Q : Exit → Act → World → Prop} {o : Oper} (dT sT ty elem : TypeId) (g off dLen dCap : Nat) (t : ByteArray) (l : List UInt8) (T : TypeId)
    (hu : Tryz.prog.underlying dT = some (.slice elem)) (hsz : (Tryz.prog.info? elem).map (·.size) = some 1) (hg : Box w g (bytesV l).toArray T) (hfit : off + dLen ≤ l.length)
    (h : ∀ w', Box w' g (bytesV (splice l off (t.data.toList.take dLen))).toArray T → w.grownBy w' (some g) → Oper.upon Tryz.prog o a K Q (.ok (.value (.int .i64 ((Nat.min t.size dLen : Nat) : Int))) w')) :
    Oper.upon Tryz.prog o a K Q ((Sem.run Tryz.prog (Builtin.copy_ #[dT, sT] ty #[.slice (some ⟨g, off, none⟩) dLen dCap, .string t]) w).andThen fun v w' => .ok (.value v) w') := by
  obtain ⟨w', hrun, hb, hgr⟩ := run_copy_text (P := Tryz.prog) w dT sT ty elem g off dLen dCap t l T hu hsz hg hfit
  rw [hrun]
  exact h w' hb hgr

theorem two_boxes (w : World) (c0 c1 : Array Value) (t0 t1 : TypeId) : Box ((w.alloc (.cells c0 t0)).alloc (.cells c1 t1)) w.heap.size c0 t0 ∧ Box ((w.alloc (.cells c0 t0)).alloc (.cells c1 t1)) (w.heap.size + 1) c1 t1 ∧
    Below w.heap.size w ((w.alloc (.cells c0 t0)).alloc (.cells c1 t1)) ∧ ((w.alloc (.cells c0 t0)).alloc (.cells c1 t1)).heap.size = w.heap.size + 2 := by
  have e1 : (w.alloc (.cells c0 t0)).heap.size = w.heap.size + 1 := by simp
  have q0 := Box.new w c0 t0
  have q1 := Box.new (w.alloc (.cells c0 t0)) c1 t1
  rw [e1] at q1
  exact ⟨q0.later ((Below.refl _ _).alloc (Nat.le_refl _) _), q1, ((Below.refl _ _).alloc (Nat.le_refl _) _).alloc (by simp) _, by simp⟩

abbrev Sec := { l : List UInt8 // l.length = 32 }
def Sec.v (s : Sec) : Value := .agg (bytesV s.1).toArray

theorem Sec.size (s : Sec) : (bytesV s.1).toArray.size = 32 := by simp [bytesV_length, s.2]
theorem Sec.one (s : Sec) : (bytesV s.1).toArray.all (·.oneCell') = true := all_oneCell_toArray (bytesV_one _)

theorem Tryz.secInfo : (Tryz.prog.info? 110).map (·.size) = some 32 := by kernel_rfl

theorem wpList_load_sec {w : World} {ops : Array Oper} {rest : List Oper} {o : Oper} {a : Act} {Q : Exit → Act → World → Prop} (hgd : o.guard = none) (x : Operand) (ho : o.op = .load 110 x) (g : Nat) (hx : a.eval x = .pointer (some ⟨g, 0, none⟩))
    (s : Sec) (t : TypeId) (hg : Box w g (bytesV s.1).toArray t) (h : wpList Tryz.prog ops Q rest (a.put o.dst s.v) w) : wpList Tryz.prog ops Q (o :: rest) a w :=
  wpList_load_row hgd _ x ho g hx t _ (0, 0) _ hg Tryz.underlying110 rfl (by rw [s.size]; exact Tryz.secInfo) h

theorem wpList_store_sec {w : World} {ops : Array Oper} {rest : List Oper} {o : Oper} {a : Act} {Q : Exit → Act → World → Prop} (hgd : o.guard = none) (x y : Operand) (ho : o.op = .store 110 x y) (g : Nat) (s : Sec) (hx : a.eval x = .pointer (some ⟨g, 0, none⟩)) (hy : a.eval y = s.v)
    (t : TypeId) (old : Array Value) (hg : Box w g old t) (hold : old.size = 32) (h : ∀ w', Box w' g (bytesV s.1).toArray t → w.grownBy w' (some g) → wpList Tryz.prog ops Q rest (a.put o.dst undef) w') : wpList Tryz.prog ops Q (o :: rest) a w :=
  wpList_store_row hgd _ x y ho g _ hx hy t old hg (by rw [s.size]; exact Tryz.secInfo) (by rw [s.size]; exact hold) s.one (h _ (setRow_heap _ _ _ _ _ _ hg) (grownBy_setRow _ _ _))

theorem result_sec {fn : Func} {p : Tmp} (h : fn.results = #[.cell p 110]) (tmps : Array Value) (w : World) (g : Nat) (t : TypeId) (s : Sec)
    (hp : tmps.getD p undef = .pointer (some ⟨g, 0, none⟩)) (hg : Box w g (bytesV s.1).toArray t) : (results fn tmps).run Tryz.prog w = .ok s.v w :=
  results_cell_row h tmps w g t _ (0, 0) _ hp hg Tryz.underlying110 rfl (by rw [s.size]; exact Tryz.secInfo)

theorem wpList_load_mid_sec {w : World} {ops : Array Oper} {rest : List Oper} {o : Oper} {a : Act} {Q : Exit → Act → World → Prop} (hgd : o.guard = none) (x : Operand) (ho : o.op = .load 110 x) (g off : Nat) (hx : a.eval x = .pointer (some ⟨g, off, none⟩))
    (s : Sec) (hg : w.rangeAt g off (bytesV s.1)) (h : wpList Tryz.prog ops Q rest (a.put o.dst s.v) w) : wpList Tryz.prog ops Q (o :: rest) a w :=
  wpList_load_mid hgd _ x ho g off hx _ _ hg Tryz.underlying110 rfl (by rw [bytesV_length, s.2]; exact Tryz.secInfo) h

def secL (t : ByteArray) : List UInt8 := splice (List.replicate 32 0) 0 (t.data.toList.take 32)
theorem secL_length (t : ByteArray) : (secL t).length = 32 := by
  rw [secL, length_splice]
  · exact List.length_replicate
  · rw [List.length_replicate, List.length_take]; omega

def z32 : Array Value := (bytesV (List.replicate 32 0)).toArray
theorem z32_eq : (#[.int .u8 0, .int .u8 0, .int .u8 0, .int .u8 0, .int .u8 0, .int .u8 0, .int .u8 0, .int .u8 0, .int .u8 0, .int .u8 0, .int .u8 0, .int .u8 0, .int .u8 0, .int .u8 0, .int .u8 0, .int .u8 0, .int .u8 0, .int .u8 0, .int .u8 0, .int .u8 0, .int .u8 0, .int .u8 0, .int .u8 0, .int .u8 0, .int .u8 0, .int .u8 0, .int .u8 0, .int .u8 0, .int .u8 0, .int .u8 0, .int .u8 0, .int .u8 0] : Array Value) = z32 := rfl

def secOf (t : ByteArray) : Sec := ⟨secL t, secL_length t⟩

set_option maxRecDepth 100000 in
set_option maxHeartbeats 1000000 in
theorem sectorOf_any (t : ByteArray) (w : World) :
    Calls Tryz.prog 98 #[.string t] w fun e w' => e = .returned (secOf t).v ∧ Below w.heap.size w w' := by
  obtain ⟨x0, x1, b0, s0⟩ := two_boxes w z32 z32 110 110
  go_enter Tryz.func98, Tryz.ntmps98
  go_wp2_with fail
  rw [z32_eq]
  generalize (w.alloc (.cells z32 110)).alloc (.cells z32 110) = W at *
  refine upon_copy_text 134 9 3 5 (w.heap.size + 1) 0 32 32 t (List.replicate 32 0) 110 Tryz.underlying134 (by kernel_rfl) x1 (by simp) ?_
  intro w2 x2 g2
  have y0 : Box w2 w.heap.size z32 110 := (g2.block _ x0.lt (by simp)).trans x0
  have b2 := b0.grown g2 b0.size (fun k hk => by have := Option.some.inj hk; omega)
  have x2' : Box w2 (w.heap.size + 1) (bytesV (secOf t).1).toArray 110 := x2
  clear x2
  have hz : z32.size = 32 := rfl
  go_wp2_with (first | ((with_reducible refine wpList_load_sec rfl _ rfl (w.heap.size + 1) ?_ (secOf t) _ x2' ?_); exact rfl) | ((with_reducible refine wpList_store_sec rfl _ _ rfl w.heap.size (secOf t) ?_ ?_ _ _ y0 hz ?_); exact rfl; exact rfl; intro w3 x3 g3))
  refine bodyPost_ret (v := (secOf t).v) ?_ rfl ⟨rfl, ?_⟩
  · exact result_sec rfl _ _ _ _ _ rfl x3
  · exact b2.grown g3 b2.size (fun k hk => by have := Option.some.inj hk; omega)

set_option maxRecDepth 100000 in
theorem text_any (s : Sec) (w : World) :
    Calls Tryz.prog 68 #[s.v] w fun e w' => e = .returned (.string ⟨s.1.toArray⟩) ∧ Below w.heap.size w w' := by
  have hx := Box.new w (bytesV s.1).toArray 110
  have hc : ∀ j (hj : j < s.1.length), (w.alloc (.cells (bytesV s.1).toArray 110)).cell? ((⟨w.heap.size, 0, none⟩ : Addr).add j) = some (.int .u8 ((s.1[j]).toNat : Int)) := by
    intro j hj
    rw [Addr.add_lit, Nat.zero_add, hx.cell j (.int .u8 ((s.1[j]).toNat : Int)) (by simp [bytesV, hj])]
  have hrun := run_convert_bytes_back (P := Tryz.prog) (w.alloc (.cells (bytesV s.1).toArray 110)) 134 9 5 ⟨w.heap.size, 0, none⟩ 32 s.1 Tryz.underlying134 Tryz.underlying5 Tryz.underlying9 hc
  rw [s.2] at hrun
  unfold Sec.v
  go_enter Tryz.func68, Tryz.ntmps68
  go_wp2
  go_ret
  exact ⟨rfl, (Below.refl _ _).alloc (Nat.le_refl _) _⟩

theorem secL_of {t : ByteArray} (h : t.size = 32) : (⟨(secL t).toArray⟩ : ByteArray) = t := by
  have hl : t.data.toList.length = 32 := by rw [Array.length_toList]; exact h
  have : secL t = t.data.toList := by
    unfold secL splice
    rw [List.take_of_length_le (l := t.data.toList) (by omega), hl]
    simp
  rw [this]
theorem secL_ne {t : ByteArray} (h : ¬ t.size = 32) : (⟨(secL t).toArray⟩ : ByteArray) ≠ t := by
  intro e
  apply h
  rw [← e]
  show (secL t).toArray.size = 32
  rw [List.size_toArray, secL_length]

theorem texts_beq (a b : ByteArray) : (a.toList == b.toList) = decide (a = b) := by
  by_cases h : a = b
  · subst h; simp
  · rw [decide_eq_false h]
    refine beq_eq_false_iff_ne.2 fun e => h ?_
    rw [Go.ByteArray.toList_eq, Go.ByteArray.toList_eq] at e
    obtain ⟨⟨x⟩⟩ := a
    obtain ⟨⟨y⟩⟩ := b
    simp at e
    rw [e]

set_option maxRecDepth 100000 in
theorem sectorOk_any (t : ByteArray) (w : World) :
    Calls Tryz.prog 125 #[.string t] w fun e w' => e = .returned (.bool (decide (t.size = 32))) ∧ Below w.heap.size w w' := by
  obtain ⟨u, hu⟩ : ∃ u : ByteArray, (⟨(secOf t).1.toArray⟩ : ByteArray) = u := ⟨_, rfl⟩
  by_cases h : t.size = 32
  · have e1 : u = t := by rw [← hu]; exact secL_of h
    rw [decide_eq_true h]
    have HU := Lib.hid hu
    clear hu h
    subst e1
    go_enter Tryz.func125, Tryz.ntmps125
    go_wp2_with (first | (go_at_call 98; refine (sectorOf_any _ _).mono ?_; rintro e w1 ⟨rfl, b1⟩) | (go_at_call 68; refine (text_any _ _).mono ?_; rintro e w2 ⟨rfl, b2⟩; rw [HU.out]))
    go_ret
    exact ⟨rfl, b1.trans (b2.mono b1.size)⟩
  · have e1 : (u.toList == t.toList) = false := by rw [texts_beq, decide_eq_false]; rw [← hu]; exact secL_ne h
    rw [decide_eq_false h]
    have HU := Lib.hid hu
    clear hu h
    go_enter Tryz.func125, Tryz.ntmps125
    go_wp2_with (first | (go_at_call 98; refine (sectorOf_any _ _).mono ?_; rintro e w1 ⟨rfl, b1⟩) | (go_at_call 68; refine (text_any _ _).mono ?_; rintro e w2 ⟨rfl, b2⟩; rw [HU.out]))
    go_ret
    exact ⟨rfl, b1.trans (b2.mono b1.size)⟩

set_option maxRecDepth 100000 in
set_option maxHeartbeats 1000000 in
theorem okAmong_any (x : Wr) (n : Int) (w : World) :
    Calls Tryz.prog 126 #[.agg #[.int .i64 x.at_, .string x.text], .int .i64 n] w fun e w' => e = .returned (.bool (decide (0 ≤ x.at_ ∧ x.at_ < n ∧ x.text.size = 32))) ∧ Below w.heap.size w w' := by
  obtain ⟨a, t⟩ := x
  simp only
  obtain ⟨u, hu⟩ : ∃ u : ByteArray, (⟨(secOf t).1.toArray⟩ : ByteArray) = u := ⟨_, rfl⟩
  have HE : Hid (u = t ↔ t.size = 32) := ⟨fun e => by by_cases h : t.size = 32; exact h; exact absurd (hu.trans e) (secL_ne h), fun h => by rw [← hu]; exact secL_of h⟩
  have HU := Lib.hid hu
  clear hu
  have hx := Box.new w #[.int .i64 a, .string t] 104
  have b0 : Below w.heap.size w (w.alloc (.cells #[.int .i64 a, .string t] 104)) := (Below.refl _ _).alloc (Nat.le_refl _) _
  have c0 := hx.cell 0 _ rfl
  have c1 := hx.cell 1 _ rfl
  go_enter Tryz.func126, Tryz.ntmps126
  go_wp2
  generalize (w.alloc (.cells #[.int .i64 a, .string t] 104)) = W at *
  have hlt : w.heap.size < W.heap.size := hx.lt
  have HK0 : Hid (W.drew.cell? ⟨w.heap.size, 0, none⟩ = some (.int .i64 a) ∧ W.drew.cell? ⟨w.heap.size, 1, none⟩ = some (.string t) ∧ Below W.heap.size W W.drew) := ⟨c0, c1, (Below.refl _ _).drew⟩
  have HK1 : Hid (∀ (x y : World), (x.cell? ⟨w.heap.size, 0, none⟩ = some (.int .i64 a) ∧ x.cell? ⟨w.heap.size, 1, none⟩ = some (.string t) ∧ Below W.heap.size W x) → Below x.heap.size x y → (y.cell? ⟨w.heap.size, 0, none⟩ = some (.int .i64 a) ∧ y.cell? ⟨w.heap.size, 1, none⟩ = some (.string t) ∧ Below W.heap.size W y)) :=
    fun x y h hb => ⟨(hb.cell (p := ⟨w.heap.size, 0, none⟩) (World.block_lt_of_cell? _ _ h.1)).trans h.1, (hb.cell (p := ⟨w.heap.size, 1, none⟩) (World.block_lt_of_cell? _ _ h.2.1)).trans h.2.1, h.2.2.trans (hb.mono h.2.2.size)⟩
  have HK2 : Hid (∀ (x : World) (g : Nat) (y z : Value), W.heap.size ≤ g → (x.cell? ⟨w.heap.size, 0, none⟩ = some (.int .i64 a) ∧ x.cell? ⟨w.heap.size, 1, none⟩ = some (.string t) ∧ Below W.heap.size W x) → (((x.setCell ⟨g, 0, none⟩ y).setCell ⟨g, 1, none⟩ z).cell? ⟨w.heap.size, 0, none⟩ = some (.int .i64 a) ∧ ((x.setCell ⟨g, 0, none⟩ y).setCell ⟨g, 1, none⟩ z).cell? ⟨w.heap.size, 1, none⟩ = some (.string t) ∧ Below W.heap.size W ((x.setCell ⟨g, 0, none⟩ y).setCell ⟨g, 1, none⟩ z))) := by
    intro x g y z hg h
    refine ⟨?_, ?_, (h.2.2.setCell (p := ⟨g, 0, none⟩) hg y).setCell (p := ⟨g, 1, none⟩) hg z⟩
    · rw [World.cell?_setCell_other _ _ _ _ (by simp <;> omega), World.cell?_setCell_other _ _ _ _ (by simp <;> omega)]; exact h.1
    · rw [World.cell?_setCell_other _ _ _ _ (by simp <;> omega), World.cell?_setCell_other _ _ _ _ (by simp <;> omega)]; exact h.2.1
  clear hx
  go_region_held3 (fun x => x.cell? ⟨w.heap.size, 0, none⟩ = some (.int .i64 a) ∧ x.cell? ⟨w.heap.size, 1, none⟩ = some (.string t) ∧ Below W.heap.size W x)
    (first | exact HK0.out | exact HK1.out _ _ (by assumption) ((Below.refl _ _).alloc (Nat.le_refl _) _) | exact HK1.out _ _ (by assumption) k1 | exact HK1.out _ _ (by assumption) k2 | exact HK1.out _ _ hS2.out ((Below.refl _ _).alloc (Nat.le_refl _) _) | exact HK1.out _ _ hS1.out ((Below.refl _ _).alloc (Nat.le_refl _) _) | exact HK2.out _ _ _ _ (Nat.le_refl _) (by assumption) | exact HK2.out _ _ _ _ s1 (by assumption) | exact HK2.out _ _ _ _ s2 (by assumption))
    (first
      | (go_at_call 98; refine (sectorOf_any _ _).mono ?_; rintro e w1 ⟨rfl, k1⟩; have hS1 := Lib.hid (HK1.out _ _ (by assumption) k1); have s1 : W.heap.size ≤ w1.heap.size := hS1.out.2.2.size; try (have q1 : Box w1 W.heap.size #[.int .i64 0, .string ⟨#[]⟩] 104 := (show Box (W.alloc (.cells #[.int .i64 0, .string ⟨#[]⟩] 104)).drew W.heap.size #[.int .i64 0, .string ⟨#[]⟩] 104 from Box.new W _ _).later k1; have z0 := q1.cell 0 _ rfl; have z1 := q1.cell 1 _ rfl; have f0 := q1.loose 0; have f1 := q1.loose 1))
      | (go_at_call 68; refine (text_any _ _).mono ?_; rintro e w2 ⟨rfl, k2⟩; have hS2 := Lib.hid (HK1.out _ _ (by assumption) k2); have s2 : W.heap.size ≤ w2.heap.size := hS2.out.2.2.size; rw [HU.out]; (first | (have q2 : Box w2 w1.heap.size #[.int .i64 0, .string ⟨#[]⟩] 104 := (Box.new _ _ _).later k2; have z0 := q2.cell 0 _ rfl; have z1 := q2.cell 1 _ rfl; have f0 := q2.loose 0; have f1 := q2.loose 1) | (have q2 : Box w2 W.heap.size #[.int .i64 0, .string ⟨#[]⟩] 104 := q1.later k2; have z0 := q2.cell 0 _ rfl; have z1 := q2.cell 1 _ rfl; have f0 := q2.loose 0; have f1 := q2.loose 1) | skip)))
  all_goals
    rename_i hHeld
    obtain ⟨y0, y1, bX⟩ := hHeld
    have bF := Lib.hid (b0.trans (bX.mono b0.size))
    clear bX HK0 HK1 HK2 c0 c1
    by_cases h32 : t.size = 32
    · have e1 : (t.toList == u.toList) = true := by rw [texts_beq, decide_eq_true]; exact (HE.out.2 h32).symm
      by_cases ha : 0 ≤ a
      · have g1 : decide (a < n) = decide (0 ≤ a ∧ a < n ∧ t.size = 32) := by simp [ha, h32]
        have G1 := Lib.hid g1
        clear g1
        go_wp2
        go_ret
        exact ⟨congrArg (fun b => Ending.returned (.bool b)) G1.out, bF.out⟩
      · go_wp2
        go_ret
        exact ⟨by simp; omega, bF.out⟩
    · have e1 : (t.toList == u.toList) = false := by rw [texts_beq, decide_eq_false]; exact fun e => h32 (HE.out.1 e.symm)
      have G1 := Lib.hid (show decide (0 ≤ a ∧ a < n ∧ t.size = 32) = false from decide_eq_false (fun h => h32 h.2.2))
      go_wp2
      go_ret
      exact ⟨congrArg (fun b => Ending.returned (.bool b)) G1.out.symm, bF.out⟩
end Go.Proofs.YtgcnebepklelpaaGreatDoor

/- Disks: what the program's DiskOk hands back. -/
namespace Go.Proofs.YtgcnebepklelpaaGreatDoor
open Go.RowKit

set_option maxRecDepth 100000 in
set_option maxHeartbeats 2000000 in
theorem implDiskOk_any (d : Dk) (v : Value) (w : World) (h : DRd w v d) (hs : d.small) :
    Calls Tryz.prog 117 #[v] w fun e w' => e = .returned (.bool (decide d.ok)) ∧ Below w.heap.size w w' := by
  obtain ⟨va, vb, rfl, ha, hb⟩ := h
  obtain ⟨s1, s2⟩ := hs
  have b0 : Below w.heap.size w (w.alloc (.cells #[va, vb] 25)) := (Below.refl _ _).alloc (Nat.le_refl _) _
  have hx := Box.new w #[va, vb] 25
  obtain ⟨aa, ca, rfl⟩ : ∃ (a : Option Addr) (c : Nat), va = .slice a d.sec.length c := by
    rcases ha with ⟨e, a, c, rfl⟩ | ⟨g, c, rfl, _⟩
    · exact ⟨a, c, by rw [e]; rfl⟩
    · exact ⟨_, c, rfl⟩
  obtain ⟨ab, cb, rfl⟩ : ∃ (a : Option Addr) (c : Nat), vb = .slice a d.cache.length c := by
    rcases hb with ⟨e, a, c, rfl⟩ | ⟨g, o, c, rfl, _⟩
    · exact ⟨a, c, by rw [e]; rfl⟩
    · exact ⟨_, c, rfl⟩
  have c0 := hx.cell 0 (.slice aa d.sec.length ca) rfl
  have c1 := hx.cell 1 (.slice ab d.cache.length cb) rfl
  by_cases hin : 1 ≤ d.sec.length ∧ d.sec.length ≤ 100
  · by_cases hc : d.cache.length ≤ 60
    · have HA := Lib.hid (ha.later b0)
      have HB := Lib.hid (hb.later b0)
      clear ha hb
      go_enter Tryz.func117, Tryz.ntmps117
      go_wp2
      generalize w.alloc (.cells #[.slice aa d.sec.length ca, .slice ab d.cache.length cb] 25) = W at *
      go_loopw [26] (fun iv wr => ∃ i : Nat, i ≤ d.sec.length ∧ iv = .int .i64 (i : Int) ∧ (∀ s ∈ d.sec.take i, s.size = 32) ∧ Below W.heap.size W wr) (fun iv _ => d.sec.length - (intOf iv).toNat)
      case atStart => exact ⟨0, by omega, rfl, by simp, Below.refl _ _⟩
      case round =>
        obtain ⟨i, hi, rfl, hall, hbr⟩ := hrel
        have br : Below w.heap.size w wr := b0.trans (hbr.mono b0.size)
        by_cases hlt : i < d.sec.length
        · have HL := Lib.hid hall
          have HM := Lib.hid (List.getElem_mem hlt)
          have htk := Lib.hid (List.take_succ_eq_append_getElem hlt)
          obtain ⟨g, rfl, hcs⟩ := (HA.out.later hbr).at i hlt
          have hi0 : (0 : Int) ≤ (i : Int) := by omega
          have hi1 : (i : Int) < (d.sec.length : Int) := by omega
          clear hall
          generalize d.sec[i] = t at *
          by_cases h32 : t.size = 32
          · go_wp2_with (go_at_call 125; refine (sectorOk_any _ _).mono ?_; rintro e w1 ⟨rfl, k1⟩; rw [decide_eq_true h32])
            go_roundw
            case rel => exact ⟨i + 1, by omega, by go_num, by
              rw [htk.out]
              intro x hx
              rcases List.mem_append.1 hx with h | h
              · exact HL.out x h
              · simp at h; rw [h]; exact h32, hbr.trans (k1.mono hbr.size)⟩
            case measure => simp [intOf]; omega
          · have HNO := Lib.hid (show decide d.ok = false from decide_eq_false (fun h => h32 (h.2.2.2.1 t HM.out)))
            go_wp2_with (go_at_call 125; refine (sectorOk_any _ _).mono ?_; rintro e w1 ⟨rfl, k1⟩; rw [decide_eq_false h32])
            go_ret
            exact ⟨by rw [HNO.out]; rfl, br.trans (k1.mono br.size)⟩
        · have hall' : ∀ s ∈ d.sec, s.size = 32 := by rw [List.take_of_length_le (by omega)] at hall; exact hall
          have HALL := Lib.hid hall'
          have e1 := (hbr.cell (p := ⟨w.heap.size, 1, none⟩) hx.lt).trans c1
          clear hall hall'
          have HB2 := Lib.hid (HB.out.later hbr)
          go_wp2
          obtain ⟨wa, hwa⟩ : ∃ wa, wa = wr := ⟨_, rfl⟩
          subst hwa
          go_loopw [37] (fun iv wx => ∃ j : Nat, j ≤ d.cache.length ∧ iv = .int .i64 (j : Int) ∧ (∀ x ∈ d.cache.take j, 0 ≤ x.at_ ∧ x.at_ < d.sec.length ∧ x.text.size = 32) ∧ Below wa.heap.size wa wx) (fun iv _ => d.cache.length - (intOf iv).toNat)
          case atStart => exact ⟨0, by omega, rfl, by simp, Below.refl _ _⟩
          case round =>
            obtain ⟨j, hj, rfl, hall, hbx⟩ := hrel
            have bx : Below w.heap.size w wr := br.trans (hbx.mono br.size)
            by_cases hlt2 : j < d.cache.length
            · have HL := Lib.hid hall
              have HM := Lib.hid (List.getElem_mem hlt2)
              have htk := Lib.hid (List.take_succ_eq_append_getElem hlt2)
              obtain ⟨g, off, rfl, hcl⟩ := HB2.out.at j hlt2
              have d0 : wr.cell? ⟨g, off + j * 2, none⟩ = some (.int .i64 d.cache[j].at_) := hcl wr hbx 0 _ rfl
              have d1 : wr.cell? ⟨g, off + j * 2 + 1, none⟩ = some (.string d.cache[j].text) := hcl wr hbx 1 _ rfl
              clear hall hcl e1 c0 c1
              generalize d.cache[j] = x at *
              obtain ⟨n, t⟩ := x
              simp only at d0 d1
              have hj0 : (0 : Int) ≤ (j : Int) := by omega
              have hj1 : (j : Int) < (d.cache.length : Int) := by omega
              have bA : Below wr.heap.size wr (wr.alloc (.cells #[.int .i64 n, .string t] 104)) := (Below.refl _ _).alloc (Nat.le_refl _) _
              by_cases hat : 0 ≤ n ∧ n < (d.sec.length : Int) ∧ t.size = 32
              · go_wp2_with (go_at_call 126; refine (okAmong_any ⟨n, t⟩ _ _).mono ?_; rintro e w1 ⟨rfl, k1⟩; rw [decide_eq_true hat])
                have k2 := bA.trans (k1.mono bA.size)
                go_roundw
                case rel => exact ⟨j + 1, by omega, by go_num, by
                  rw [htk.out]
                  intro x hx
                  rcases List.mem_append.1 hx with h | h
                  · exact HL.out x h
                  · simp at h; rw [h]; exact hat, hbx.trans (k2.mono hbx.size)⟩
                case measure => simp [intOf]; omega
              · have HNO := Lib.hid (show decide d.ok = false from decide_eq_false (fun h => hat (h.2.2.2.2 _ HM.out)))
                go_wp2_with (go_at_call 126; refine (okAmong_any ⟨n, t⟩ _ _).mono ?_; rintro e w1 ⟨rfl, k1⟩; rw [decide_eq_false hat])
                have k2 := bA.trans (k1.mono bA.size)
                go_ret
                exact ⟨by rw [HNO.out]; rfl, bx.trans (k2.mono bx.size)⟩
            · have hyes : decide d.ok = true := decide_eq_true ⟨hin.1, hin.2, hc, HALL.out, by rw [List.take_of_length_le (by omega)] at hall; exact hall⟩
              have HY := Lib.hid hyes
              clear hall hyes
              go_wp2
              go_ret
              exact ⟨by rw [HY.out]; rfl, bx⟩
    · have hno : decide d.ok = false := decide_eq_false (fun h => hc h.2.2.1)
      rw [hno]
      go_enter Tryz.func117, Tryz.ntmps117
      go_wp2
      go_ret
      exact ⟨rfl, b0⟩
  · have hno : decide d.ok = false := decide_eq_false (fun h => hin ⟨h.1, h.2.1⟩)
    rw [hno]
    go_enter Tryz.func117, Tryz.ntmps117
    go_wp2
    all_goals
      go_ret
      exact ⟨rfl, b0⟩

end Go.Proofs.YtgcnebepklelpaaGreatDoor

/- Copies: slices.Clone, and what copyDisk hands back: a disk of its own. -/
namespace Go.Proofs.YtgcnebepklelpaaGreatDoor
open Go.RowKit

theorem setCell_self {w : World} {g i : Nat} {v : Value} (h : w.cell? ⟨g, i, none⟩ = some v) : w.setCell ⟨g, i, none⟩ v = w := by
  have : w.heap.modify g (fun
      | .cells c elem frozen => .cells (if (none : Option Nat).isSome then c else c.setIfInBounds i v) elem frozen
      | o => o) = w.heap := by
    apply Array.ext_getElem?
    intro k
    rw [Array.getElem?_modify]
    by_cases hk : g = k
    · subst hk
      rw [if_pos rfl]
      unfold World.cell? at h
      cases ho : w.heap[g]? with
      | none => rfl
      | some o =>
        rw [ho] at h
        cases o <;> simp_all
        rename_i c _ _
        apply Array.ext_getElem?
        intro j
        rw [Array.getElem?_setIfInBounds]
        by_cases hj : i = j
        · subst hj; simp_all; exact (Array.getElem?_eq_some_iff.1 h).1
        · simp [hj]
    · rw [if_neg hk]
  show { w with heap := _ } = w
  exact congrArg (fun hp => { w with heap := hp }) this

theorem cloneS_any (l : List _) (v : Value) (B : Nat) (w : World) (h : RBuf strE B w w v l) (hl : l.length ≤ 1073741824) :
    Calls Tryz.prog 113 #[v] w fun e w' => ∃ v', e = .returned v' ∧ RBuf strE w.heap.size w w' v' l := by
  have q : ∀ (w : World) (a : Option Addr) (n c n' c' : Nat), (binOp .eql 22 (.slice a n c) (.slice none n' c')).run Tryz.prog w = .ok (.bool a.isNone) w := fun w a n c n' c' => Lib.run_eql_slice_nil w _ _ a n c n' c' Tryz.underlying22
  rcases h.own.2 with ⟨rfl, h0⟩ | ⟨g, cap, cur, rfl, hr⟩
  · obtain rfl := List.length_eq_zero_iff.1 h0
    go_enter Tryz.func113, Tryz.ntmps113
    go_wp2
    go_ret
    exact ⟨_, rfl, RBuf.nil strE w⟩
  · clear hr
    have hb := (RBuf.fresh strE w).here
    have hx := (h.alloc (.cells #[] strE.ty)).here
    go_enter Tryz.func113, Tryz.ntmps113
    go_wp2_with (at_builtin; refine wpList_append_rows rfl _ _ strE rfl w.heap.size _ [] rfl hb B _ l rfl hx (by simp [strE]; omega) ?_; intro v1 w1 r1 g1 _; obtain ⟨a1, c1, rfl⟩ := r1.form)
    go_ret
    rw [List.nil_append] at r1
    exact ⟨_, rfl, ⟨r1.own, ((Below.refl w.heap.size w).alloc (Nat.le_refl _) _).grown g1 (by simp) (fun k hk => by have : w.heap.size = k := Option.some.inj hk; omega), r1.le⟩⟩

theorem cloneW_any (l : List _) (v : Value) (B : Nat) (w : World) (h : RBuf wrE B w w v l) (hl : l.length ≤ 1073741824) :
    Calls Tryz.prog 114 #[v] w fun e w' => ∃ v', e = .returned v' ∧ RBuf wrE w.heap.size w w' v' l := by
  have q : ∀ (w : World) (a : Option Addr) (n c n' c' : Nat), (binOp .eql 23 (.slice a n c) (.slice none n' c')).run Tryz.prog w = .ok (.bool a.isNone) w := fun w a n c n' c' => Lib.run_eql_slice_nil w _ _ a n c n' c' Tryz.underlying23
  rcases h.own.2 with ⟨rfl, h0⟩ | ⟨g, cap, cur, rfl, hr⟩
  · obtain rfl := List.length_eq_zero_iff.1 h0
    go_enter Tryz.func114, Tryz.ntmps114
    go_wp2
    go_ret
    exact ⟨_, rfl, RBuf.nil wrE w⟩
  · clear hr
    have hb := (RBuf.fresh wrE w).here
    have hx := (h.alloc (.cells #[] wrE.ty)).here
    go_enter Tryz.func114, Tryz.ntmps114
    go_wp2_with (at_builtin; refine wpList_append_rows rfl _ _ wrE rfl w.heap.size _ [] rfl hb B _ l rfl hx (by simp [wrE]; omega) ?_; intro v1 w1 r1 g1 _; obtain ⟨a1, c1, rfl⟩ := r1.form)
    go_ret
    rw [List.nil_append] at r1
    exact ⟨_, rfl, ⟨r1.own, ((Below.refl w.heap.size w).alloc (Nat.le_refl _) _).grown g1 (by simp) (fun k hk => by have : w.heap.size = k := Option.some.inj hk; omega), r1.le⟩⟩


section
variable {α β : Type} {E1 : Enc α} {E2 : Enc β}

theorem apart_up {B1 B2 : Nat} {w0 w1 x y : World} {v u : Value} {l : List α} {m : List β} (h1 : RBuf E1 B1 w0 x v l) (h2 : RBuf E2 B2 w1 y u m) (h : x.heap.size ≤ B2) : v.ownBlock = none ∨ v.ownBlock ≠ u.ownBlock := by
  cases hv : v.ownBlock with
  | none => exact .inl rfl
  | some k =>
    refine .inr fun e => ?_
    have a := (h1.own.lt k hv).2
    have b := (h2.own.lt k e.symm).1
    omega
theorem RBuf.under {B g : Nat} {w0 x : World} {v : Value} {l : List α} (h : RBuf E1 B w0 x v l) (hg : g < B) : v.ownBlock ≠ some g := fun e => by have := (h.own.lt g e).1; omega
theorem RBuf.above {B g : Nat} {w0 x : World} {v : Value} {l : List α} (h : RBuf E1 B w0 x v l) (hg : x.heap.size ≤ g) : v.ownBlock ≠ some g := fun e => by have := (h.own.lt g e).2; omega
theorem RBuf.at0 {B B0 : Nat} {w0 x : World} {v : Value} {l : List α} (h : RBuf E1 B w0 x v l) (hB : B0 ≤ B) : RBuf E1 B0 x x v l := h.here.lower hB
end

theorem keep2 {b : Nat} {va vb : Value} {W x y : World} (h : x.cell? ⟨b, 0, none⟩ = some va ∧ x.cell? ⟨b, 1, none⟩ = some vb ∧ Below W.heap.size W x) (hb : Below x.heap.size x y) : y.cell? ⟨b, 0, none⟩ = some va ∧ y.cell? ⟨b, 1, none⟩ = some vb ∧ Below W.heap.size W y :=
  ⟨(hb.cell (p := ⟨b, 0, none⟩) (World.block_lt_of_cell? _ _ h.1)).trans h.1, (hb.cell (p := ⟨b, 1, none⟩) (World.block_lt_of_cell? _ _ h.2.1)).trans h.2.1, h.2.2.trans (hb.mono h.2.2.size)⟩
theorem keep2s {b g : Nat} {va vb y z : Value} {W x : World} (hb : b < W.heap.size) (hg : W.heap.size ≤ g) (h : x.cell? ⟨b, 0, none⟩ = some va ∧ x.cell? ⟨b, 1, none⟩ = some vb ∧ Below W.heap.size W x) :
    ((x.setCell ⟨g, 0, none⟩ y).setCell ⟨g, 1, none⟩ z).cell? ⟨b, 0, none⟩ = some va ∧ ((x.setCell ⟨g, 0, none⟩ y).setCell ⟨g, 1, none⟩ z).cell? ⟨b, 1, none⟩ = some vb ∧ Below W.heap.size W ((x.setCell ⟨g, 0, none⟩ y).setCell ⟨g, 1, none⟩ z) := by
  refine ⟨?_, ?_, (h.2.2.setCell (p := ⟨g, 0, none⟩) hg y).setCell (p := ⟨g, 1, none⟩) hg z⟩
  · rw [World.cell?_setCell_other _ _ _ _ (by simp <;> omega), World.cell?_setCell_other _ _ _ _ (by simp <;> omega)]; exact h.1
  · rw [World.cell?_setCell_other _ _ _ _ (by simp <;> omega), World.cell?_setCell_other _ _ _ _ (by simp <;> omega)]; exact h.2.1
theorem belAlloc (x : World) (o : Obj) : Below x.heap.size x (x.alloc o) := (Below.refl _ _).alloc (Nat.le_refl _) _

structure CpyE (d : Dk) (W x : World) (g : Nat) (vS vW : Value) : Prop where
  box : Box x g #[vS, vW] 25
  sec : LOwn strE W.heap.size x.heap.size x vS d.sec
  cache : LOwn wrE W.heap.size x.heap.size x vW d.cache
  ap : vS.ownBlock = none ∨ vS.ownBlock ≠ vW.ownBlock
  n1 : vS.ownBlock ≠ some g
  n2 : vW.ownBlock ≠ some g
  le : W.heap.size ≤ g
  bel : Below W.heap.size W x

theorem cpyA {d : Dk} {W x : World} {vS vW : Value} (h1 : RBuf strE W.heap.size x x vS d.sec) (h2 : RBuf wrE W.heap.size x x vW d.cache) (h3 : vS.ownBlock = none ∨ vS.ownBlock ≠ vW.ownBlock) (hb : Below W.heap.size W x) :
    CpyE d W (x.alloc (.cells #[vS, vW] 25)) x.heap.size vS vW :=
  ⟨Box.new x _ _, (h1.alloc _).lown, (h2.alloc _).lown, h3, h1.above (Nat.le_refl _), h2.above (Nat.le_refl _), hb.size, hb.alloc hb.size _⟩

theorem cpyB {d : Dk} {W x : World} {vS vW : Value} {g : Nat} {z0 z1 : Value} (hx : Box x g #[z0, z1] 25) (h1 : RBuf strE W.heap.size x x vS d.sec) (h2 : RBuf wrE W.heap.size x x vW d.cache) (h3 : vS.ownBlock = none ∨ vS.ownBlock ≠ vW.ownBlock) (hb : Below W.heap.size W x)
    (n1 : vS.ownBlock ≠ some g) (n2 : vW.ownBlock ≠ some g) (hg : W.heap.size ≤ g) : CpyE d W ((x.setCell ⟨g, 0, none⟩ vS).setCell ⟨g, 1, none⟩ vW) g vS vW := by
  have hs : ((x.setCell ⟨g, 0, none⟩ vS).setCell ⟨g, 1, none⟩ vW).heap.size = x.heap.size := by simp
  refine ⟨?_, ?_, ?_, h3, n1, n2, hg, (hb.setCell (p := ⟨g, 0, none⟩) hg _).setCell (p := ⟨g, 1, none⟩) hg _⟩
  · have := (hx.set 0 vS).set 1 vW
    simpa using this
  · rw [hs]; exact (h1.lown.grown (stored_grown _ _ _ _) (.inr n1)).grown (stored_grown _ _ _ _) (.inr n1)
  · rw [hs]; exact (h2.lown.grown (stored_grown _ _ _ _) (.inr n2)).grown (stored_grown _ _ _ _) (.inr n2)

theorem CpyE.later {d : Dk} {W x y : World} {g : Nat} {vS vW : Value} (h : CpyE d W x g vS vW) (hb : Below x.heap.size x y) : CpyE d W y g vS vW :=
  ⟨h.box.later hb, (h.sec.later hb).wider hb.size (Nat.le_refl _), (h.cache.later hb).wider hb.size (Nat.le_refl _), h.ap, h.n1, h.n2, h.le, h.bel.trans (hb.mono h.bel.size)⟩

set_option maxRecDepth 100000 in
set_option maxHeartbeats 4000000 in
theorem copyDisk_any (d : Dk) (v : Value) (B T : Nat) (w : World) (h : DOwn B T w v d) (hs : d.small) (ht : ∀ s ∈ d.sec, s.size ≤ 1099511627776) (hu : ∀ x ∈ d.cache, x.text.size ≤ 1099511627776) :
    Calls Tryz.prog 96 #[v] w fun e w' => ∃ v', e = .returned v' ∧ DOwn w.heap.size w'.heap.size w' v' d ∧ Below w.heap.size w w' := by
  obtain ⟨va, vb, rfl, h1, h2, h3⟩ := h
  obtain ⟨aa, ca, rfl⟩ := h1.1.form
  obtain ⟨ab, cb, rfl⟩ := h2.1.form
  obtain ⟨s1, s2⟩ := hs
  obtain ⟨hx0, hx1, b0, hsz⟩ := two_boxes w #[.slice aa d.sec.length ca, .slice ab d.cache.length cb] #[.slice none 0 0, .slice none 0 0] 25 25
  go_enter Tryz.func96, Tryz.ntmps96
  go_upto_region 1 with fail
  generalize ((w.alloc (.cells #[.slice aa d.sec.length ca, .slice ab d.cache.length cb] 25)).alloc (.cells #[.slice none 0 0, .slice none 0 0] 25)) = W at hx0 hx1 b0 hsz ⊢
  have c0 := hx0.cell 0 (.slice aa d.sec.length ca) rfl
  have c1 := hx0.cell 1 (.slice ab d.cache.length cb) rfl
  go_cut [3] (fun p wx => ∃ (g : Nat) (pS pW : Option Addr) (qS qW : Nat), p = .pointer (some ⟨g, 0, none⟩) ∧ CpyE d W wx g (.slice pS d.sec.length qS) (.slice pW d.cache.length qW))
  case first =>
    have HS : Hid (∀ x : World, (x.cell? ⟨w.heap.size, 0, none⟩ = some (.slice aa d.sec.length ca) ∧ x.cell? ⟨w.heap.size, 1, none⟩ = some (.slice ab d.cache.length cb) ∧ Below W.heap.size W x) → RBuf strE B x x (.slice aa d.sec.length ca) d.sec ∧ RBuf wrE B x x (.slice ab d.cache.length cb) d.cache) :=
      fun x hx => ⟨(h1.later (b0.trans (hx.2.2.mono b0.size))).1, (h2.later (b0.trans (hx.2.2.mono b0.size))).1⟩
    have HK0 : Hid (W.drew.cell? ⟨w.heap.size, 0, none⟩ = some (.slice aa d.sec.length ca) ∧ W.drew.cell? ⟨w.heap.size, 1, none⟩ = some (.slice ab d.cache.length cb) ∧ Below W.heap.size W W.drew) := ⟨c0, c1, (Below.refl _ _).drew⟩
    have hlt : w.heap.size < W.heap.size := hx0.lt
    have HB0 : Hid (Box (W.alloc (.cells #[.slice none 0 0, .slice none 0 0] 25)).drew W.heap.size #[.slice none 0 0, .slice none 0 0] 25) := Box.new W _ _
    clear hx0 hx1 ht hu h1 h2 h3 c0 c1 hsz
    go_region_held3 (fun x => x.cell? ⟨w.heap.size, 0, none⟩ = some (.slice aa d.sec.length ca) ∧ x.cell? ⟨w.heap.size, 1, none⟩ = some (.slice ab d.cache.length cb) ∧ Below W.heap.size W x)
      (first | exact HK0.out | exact keep2 (by assumption) (belAlloc _ _) | exact keep2 (by assumption) kS | exact keep2 (by assumption) kW | exact keep2 hSS.out (belAlloc _ _) | exact keep2 hSW.out (belAlloc _ _) | exact keep2s hlt (Nat.le_refl _) (by assumption) | exact keep2s hlt tS (by assumption) | exact keep2s hlt tW (by assumption))
      (first
        | (go_at_call 113; refine (cloneS_any d.sec _ B _ (HS.out _ (by assumption)).1 s1).mono ?_; rintro e wS ⟨vS, rfl, rS⟩; have kS := rS.bel; have hSS := Lib.hid (keep2 (by assumption) kS); have tS : W.heap.size ≤ wS.heap.size := hSS.out.2.2.size; obtain ⟨pS, qS, rfl⟩ := rS.form; (first | (have bx : Box wS W.heap.size #[.slice none 0 0, .slice none 0 0] 25 := HB0.out.later kS; have z0 := bx.cell 0 _ rfl; have z1 := bx.cell 1 _ rfl; have f0 := bx.loose 0; have f1 := bx.loose 1) | (have bx : Box wS wW.heap.size #[.slice none 0 0, .slice none 0 0] 25 := (Box.new wW _ _).later kS; have z0 := bx.cell 0 _ rfl; have z1 := bx.cell 1 _ rfl; have f0 := bx.loose 0; have f1 := bx.loose 1) | (have bx2 := bx.later kS; have z0 := bx2.cell 0 _ rfl; have z1 := bx2.cell 1 _ rfl; have f0 := bx2.loose 0; have f1 := bx2.loose 1) | skip))
        | (go_at_call 114; refine (cloneW_any d.cache _ B _ (HS.out _ (by assumption)).2 s2).mono ?_; rintro e wW ⟨vW, rfl, rW⟩; have kW := rW.bel; have hSW := Lib.hid (keep2 (by assumption) kW); have tW : W.heap.size ≤ wW.heap.size := hSW.out.2.2.size; obtain ⟨pW, qW, rfl⟩ := rW.form; (first | (have bx : Box wW W.heap.size #[.slice none 0 0, .slice none 0 0] 25 := HB0.out.later kW; have z0 := bx.cell 0 _ rfl; have z1 := bx.cell 1 _ rfl; have f0 := bx.loose 0; have f1 := bx.loose 1) | (have bx : Box wW wS.heap.size #[.slice none 0 0, .slice none 0 0] 25 := (Box.new wS _ _).later kW; have z0 := bx.cell 0 _ rfl; have z1 := bx.cell 1 _ rfl; have f0 := bx.loose 0; have f1 := bx.loose 1) | (have bx2 := bx.later kW; have z0 := bx2.cell 0 _ rfl; have z1 := bx2.cell 1 _ rfl; have f0 := bx2.loose 0; have f1 := bx2.loose 1) | skip)))
    all_goals
      go_wp2_with fail
      go_meet
      first
        | exact ⟨_, _, _, _, _, rfl, cpyA ((rS.later kW).at0 (Nat.le_refl _)) (rW.at0 tS) (apart_up rS rW (Nat.le_refl _)) hSW.out.2.2⟩
        | exact ⟨_, _, _, _, _, rfl, cpyB bx (((rS.alloc _).later kW).at0 (Nat.le_refl _)) (rW.at0 (by simp; omega)) (apart_up rS rW (by simp)) hSW.out.2.2 (rS.above (Nat.le_refl _)) (rW.under (by simp)) tS⟩
        | exact ⟨_, _, _, _, _, rfl, cpyB bx2 ((rS.later kW).at0 (by show W.heap.size ≤ (W.alloc _).heap.size; simp)) (rW.at0 tS) (apart_up rS rW (Nat.le_refl _)) hSW.out.2.2 (rS.under (by show W.heap.size < (W.alloc _).heap.size; simp)) (rW.under (Nat.lt_of_lt_of_le (by show W.heap.size < (W.alloc _).heap.size; simp) kS.size)) (Nat.le_refl _)⟩
  case rest =>
    obtain ⟨g, pS, pW, qS, qW, rfl, hE⟩ := hcut
    have hX1 := Lib.hid hx1
    have HE := Lib.hid hE
    have m0 := hE.box.cell 0 _ rfl
    have m1 := hE.box.cell 1 _ rfl
    clear hx0 hx1 h1 h2 h3 c0 c1 hE
    simp only [List.getElem_toArray, List.getElem_cons_zero, List.getElem_cons_succ] at m0 m1
    go_wp2
    go_loopw [16] (fun iv wr => ∃ i : Nat, i ≤ d.sec.length ∧ iv = .int .i64 (i : Int) ∧ Below wc.heap.size wc wr) (fun iv _ => d.sec.length - (intOf iv).toNat)
    case atStart => exact ⟨0, by omega, rfl, Below.refl _ _⟩
    case round =>
      obtain ⟨i, hi, rfl, hbr⟩ := hrel
      have E1 := HE.out.later hbr
      by_cases hlt : i < d.sec.length
      · have hi0 : (0 : Int) ≤ (i : Int) := by omega
        have hi1 : (i : Int) < (d.sec.length : Int) := by omega
        obtain ⟨g1, rfl⟩ : ∃ g1 : Nat, pS = some ⟨g1, 0, none⟩ := by
          rcases E1.sec.1.own.2 with ⟨_, e⟩ | ⟨g, cap, cur, e, _⟩
          · omega
          · simp only [Value.slice.injEq] at e; exact ⟨g, e.1⟩
        have hat := List.getElem?_eq_getElem hlt
        have cS : wr.cell? ⟨g1, i, none⟩ = some (.string d.sec[i]) := by
          have := E1.sec.1.cell rfl i _ hat 0 _ rfl
          rw [show strE.sz = 1 from rfl, Nat.mul_one, Nat.add_zero] at this
          exact this
        have fS := E1.sec.1.loose i
        have k0 := E1.box.cell 0 (.slice (some ⟨g1, 0, none⟩) d.sec.length qS) rfl
        have htz := ht _ (List.getElem_mem hlt)
        clear hat E1 ht hu
        generalize d.sec[i] = t at *
        have HK0 : Hid (wr.drew.cell? ⟨g, 0, none⟩ = some (.slice (some ⟨g1, 0, none⟩) d.sec.length qS) ∧ wr.drew.cell? ⟨g1, i, none⟩ = some (.string t) ∧ wr.drew.frozen? ⟨g1, i, none⟩ = false ∧ Below wr.heap.size wr wr.drew) := ⟨k0, cS, fS, (Below.refl _ _).drew⟩
        have HK1 : Hid (∀ x y : World, (x.cell? ⟨g, 0, none⟩ = some (.slice (some ⟨g1, 0, none⟩) d.sec.length qS) ∧ x.cell? ⟨g1, i, none⟩ = some (.string t) ∧ x.frozen? ⟨g1, i, none⟩ = false ∧ Below wr.heap.size wr x) → Below x.heap.size x y → (y.cell? ⟨g, 0, none⟩ = some (.slice (some ⟨g1, 0, none⟩) d.sec.length qS) ∧ y.cell? ⟨g1, i, none⟩ = some (.string t) ∧ y.frozen? ⟨g1, i, none⟩ = false ∧ Below wr.heap.size wr y)) :=
          fun x y h hb => ⟨(hb.cell (p := ⟨g, 0, none⟩) (World.block_lt_of_cell? _ _ h.1)).trans h.1, (hb.cell (p := ⟨g1, i, none⟩) (World.block_lt_of_cell? _ _ h.2.1)).trans h.2.1, (hb.frozen (p := ⟨g1, i, none⟩) (World.block_lt_of_cell? _ _ h.2.1)).trans h.2.2.1, h.2.2.2.trans (hb.mono h.2.2.2.size)⟩
        have HK2 : Hid (∀ x : World, (x.cell? ⟨g, 0, none⟩ = some (.slice (some ⟨g1, 0, none⟩) d.sec.length qS) ∧ x.cell? ⟨g1, i, none⟩ = some (.string t) ∧ x.frozen? ⟨g1, i, none⟩ = false ∧ Below wr.heap.size wr x) → ((x.setCell ⟨g1, i, none⟩ (.string t)).cell? ⟨g, 0, none⟩ = some (.slice (some ⟨g1, 0, none⟩) d.sec.length qS) ∧ (x.setCell ⟨g1, i, none⟩ (.string t)).cell? ⟨g1, i, none⟩ = some (.string t) ∧ (x.setCell ⟨g1, i, none⟩ (.string t)).frozen? ⟨g1, i, none⟩ = false ∧ Below wr.heap.size wr (x.setCell ⟨g1, i, none⟩ (.string t)))) :=
          fun x h => by rw [setCell_self h.2.1]; exact h
        go_wp2
        go_region_held3 (fun x => x.cell? ⟨g, 0, none⟩ = some (.slice (some ⟨g1, 0, none⟩) d.sec.length qS) ∧ x.cell? ⟨g1, i, none⟩ = some (.string t) ∧ x.frozen? ⟨g1, i, none⟩ = false ∧ Below wr.heap.size wr x)
          (first | exact HK0.out | exact HK1.out _ _ (by assumption) k1 | exact HK2.out _ (by assumption))
          (first | (go_at_call 115; refine (clone_any _ _ (by omega)).mono ?_; rintro e w1 ⟨rfl, k1⟩))
        all_goals
          rename_i hHeld
          have BH := Lib.hid hHeld.2.2.2
          clear hHeld HK0 HK1 HK2
          go_wp2
          go_roundw
          case rel => exact ⟨i + 1, by omega, by go_num, hbr.trans (BH.out.mono hbr.size)⟩
          case measure => simp [intOf]; omega
      · have HE1 := Lib.hid E1
        have k1 := E1.box.cell 1 (.slice pW d.cache.length qW) rfl
        clear E1 HE m0 m1 ht
        go_wp2
        obtain ⟨wa, hwa⟩ : ∃ wa, wa = wr := ⟨_, rfl⟩
        subst hwa
        go_loopw [33] (fun iv wr => ∃ j : Nat, j ≤ d.cache.length ∧ iv = .int .i64 (j : Int) ∧ Below wa.heap.size wa wr) (fun iv _ => d.cache.length - (intOf iv).toNat)
        case atStart => exact ⟨0, by omega, rfl, Below.refl _ _⟩
        case round =>
          obtain ⟨j, hj, rfl, hbr2⟩ := hrel
          have E1 := HE1.out.later hbr2
          by_cases hlt : j < d.cache.length
          · have hi0 : (0 : Int) ≤ (j : Int) := by omega
            have hi1 : (j : Int) < (d.cache.length : Int) := by omega
            obtain ⟨g2, rfl⟩ : ∃ g2 : Nat, pW = some ⟨g2, 0, none⟩ := by
              rcases E1.cache.1.own.2 with ⟨_, e⟩ | ⟨g, cap, cur, e, _⟩
              · omega
              · simp only [Value.slice.injEq] at e; exact ⟨g, e.1⟩
            have hat := List.getElem?_eq_getElem hlt
            have cS : wr.cell? ⟨g2, j * 2 + 1, none⟩ = some (.string d.cache[j].text) := E1.cache.1.cell rfl j _ hat 1 _ rfl
            have fS := E1.cache.1.loose (j * 2 + 1)
            have k0 := E1.box.cell 1 (.slice (some ⟨g2, 0, none⟩) d.cache.length qW) rfl
            have htz := hu _ (List.getElem_mem hlt)
            clear hat E1 hu k1
            generalize d.cache[j].text = t at *
            have HK0 : Hid (wr.drew.cell? ⟨g, 1, none⟩ = some (.slice (some ⟨g2, 0, none⟩) d.cache.length qW) ∧ wr.drew.cell? ⟨g2, j * 2 + 1, none⟩ = some (.string t) ∧ wr.drew.frozen? ⟨g2, j * 2 + 1, none⟩ = false ∧ Below wr.heap.size wr wr.drew) := ⟨k0, cS, fS, (Below.refl _ _).drew⟩
            have HK1 : Hid (∀ x y : World, (x.cell? ⟨g, 1, none⟩ = some (.slice (some ⟨g2, 0, none⟩) d.cache.length qW) ∧ x.cell? ⟨g2, j * 2 + 1, none⟩ = some (.string t) ∧ x.frozen? ⟨g2, j * 2 + 1, none⟩ = false ∧ Below wr.heap.size wr x) → Below x.heap.size x y → (y.cell? ⟨g, 1, none⟩ = some (.slice (some ⟨g2, 0, none⟩) d.cache.length qW) ∧ y.cell? ⟨g2, j * 2 + 1, none⟩ = some (.string t) ∧ y.frozen? ⟨g2, j * 2 + 1, none⟩ = false ∧ Below wr.heap.size wr y)) :=
              fun x y h hb => ⟨(hb.cell (p := ⟨g, 1, none⟩) (World.block_lt_of_cell? _ _ h.1)).trans h.1, (hb.cell (p := ⟨g2, j * 2 + 1, none⟩) (World.block_lt_of_cell? _ _ h.2.1)).trans h.2.1, (hb.frozen (p := ⟨g2, j * 2 + 1, none⟩) (World.block_lt_of_cell? _ _ h.2.1)).trans h.2.2.1, h.2.2.2.trans (hb.mono h.2.2.2.size)⟩
            have HK2 : Hid (∀ x : World, (x.cell? ⟨g, 1, none⟩ = some (.slice (some ⟨g2, 0, none⟩) d.cache.length qW) ∧ x.cell? ⟨g2, j * 2 + 1, none⟩ = some (.string t) ∧ x.frozen? ⟨g2, j * 2 + 1, none⟩ = false ∧ Below wr.heap.size wr x) → ((x.setCell ⟨g2, j * 2 + 1, none⟩ (.string t)).cell? ⟨g, 1, none⟩ = some (.slice (some ⟨g2, 0, none⟩) d.cache.length qW) ∧ (x.setCell ⟨g2, j * 2 + 1, none⟩ (.string t)).cell? ⟨g2, j * 2 + 1, none⟩ = some (.string t) ∧ (x.setCell ⟨g2, j * 2 + 1, none⟩ (.string t)).frozen? ⟨g2, j * 2 + 1, none⟩ = false ∧ Below wr.heap.size wr (x.setCell ⟨g2, j * 2 + 1, none⟩ (.string t)))) :=
              fun x h => by rw [setCell_self h.2.1]; exact h
            go_wp2
            go_region_held3 (fun x => x.cell? ⟨g, 1, none⟩ = some (.slice (some ⟨g2, 0, none⟩) d.cache.length qW) ∧ x.cell? ⟨g2, j * 2 + 1, none⟩ = some (.string t) ∧ x.frozen? ⟨g2, j * 2 + 1, none⟩ = false ∧ Below wr.heap.size wr x)
              (first | exact HK0.out | exact HK1.out _ _ (by assumption) k1 | exact HK2.out _ (by assumption))
              (first | (go_at_call 115; refine (clone_any _ _ (by omega)).mono ?_; rintro e w1 ⟨rfl, k1⟩))
            all_goals
              rename_i hHeld
              have BH := Lib.hid hHeld.2.2.2
              clear hHeld HK0 HK1 HK2
              go_wp2
              go_roundw
              case rel => exact ⟨j + 1, by omega, by go_num, hbr2.trans (BH.out.mono hbr2.size)⟩
              case measure => simp [intOf]; omega
          · have bW : Below W.heap.size W wr := E1.bel
            have x5 := hX1.out.later bW
            have m0 := E1.box.cell 0 (.slice pS d.sec.length qS) rfl
            have m1 := E1.box.cell 1 (.slice pW d.cache.length qW) rfl
            have r0 := x5.cell 0 (.slice none 0 0) rfl
            have r1 := x5.cell 1 (.slice none 0 0) rfl
            have f0 := x5.loose 0
            have f1 := x5.loose 1
            have EE := Lib.hid E1
            have bF := Lib.hid (b0.trans (bW.mono b0.size))
            have HSZ := Lib.hid hsz
            clear E1 bW k1 hsz x5 hu
            go_wp2
            have hWl : w.heap.size + 1 < W.heap.size := by have := HSZ.out; omega
            have q1 := (EE.out.sec.store (w.heap.size + 1) 0 (.slice pS d.sec.length qS) hWl).store (w.heap.size + 1) 1 (.slice pW d.cache.length qW) hWl
            have q2 := (EE.out.cache.store (w.heap.size + 1) 0 (.slice pS d.sec.length qS) hWl).store (w.heap.size + 1) 1 (.slice pW d.cache.length qW) hWl
            refine bodyPost_ret (v := .agg #[.slice pS d.sec.length qS, .slice pW d.cache.length qW]) (by simp [results, Tryz.results96, go_sem, r0, r1]) rfl ?_
            exact ⟨_, rfl, ⟨_, _, rfl, (q1.deeper (by omega)).wider (by simp) (Nat.le_refl _), (q2.deeper (by omega)).wider (by simp) (Nat.le_refl _), EE.out.ap⟩, (bF.out.setCell (p := ⟨w.heap.size + 1, 0, none⟩) (by simp) _).setCell (p := ⟨w.heap.size + 1, 1, none⟩) (by simp) _⟩

end Go.Proofs.YtgcnebepklelpaaGreatDoor
