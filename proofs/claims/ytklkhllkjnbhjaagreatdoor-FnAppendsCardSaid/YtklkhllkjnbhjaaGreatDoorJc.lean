/- Texts of our own, joined. -/
import Derived.Test.YtklkhllkjnbhjaaGreatDoorJa
import Derived.Laws.CopyOwn
import Derived.Laws.Rows
import Derived.Laws.Tables
import Derived.Deep.MidRow
import Derived.Deep.RegionHeld3
import Derived.Laws.StructEq
import Derived.Lib.Hide
import Derived.Test.YtklkhllkjnbhjaaGreatDoorJb
import Derived.Deep.QuietTactic
import Derived.BigQuiet
import Derived.Laws.OwnMore
/- Sectors as arrays of bytes: sectorOf, text, sectorOk. -/
namespace Go.Proofs.YtklkhllkjnbhjaaGreatDoor
open Go.RowKit
set_option maxRecDepth 100000
set_option maxHeartbeats 8000000
theorem bytesV_one (l : List UInt8) : ∀ v ∈ bytesV l, v.oneCell' = true := by
  intro v hv; simp only [bytesV, List.mem_map] at hv; obtain ⟨b, _, rfl⟩ := hv; rfl
theorem grownBy_setRow (w : World) (g : Nat) (cs : Array Value) : w.grownBy (w.setRow g cs) (some g) :=
  ⟨rfl, rfl, rfl, by simp [World.setRow], fun k _ hk => setRow_other w g k cs (fun e => hk (by simp [e]))⟩
theorem run_copy_text {P : Program} (w : World) (dT sT ty elem : TypeId) (g o dLen dCap : Nat) (s : ByteArray) (l : List UInt8) (t : TypeId)
    (hu : P.underlying dT = some (.slice elem)) (hs : (P.info? elem).map (·.size) = some 1) (hg : Box w g (bytesV l).toArray t) (hfit : o + dLen ≤ l.length) :
    ∃ w', (Builtin.copy_ #[dT, sT] ty #[.slice (some ⟨g, o, none⟩) dLen dCap, .string s]).run P w = .ok (.int .i64 ((Nat.min s.size dLen : Nat) : Int)) w' ∧ Box w' g (bytesV (splice l o (s.data.toList.take dLen))).toArray t ∧ w.grownBy w' (some g) := by
  have hsz : s.data.toList.length = s.size := by rw [Array.length_toList]; rfl
  have hml : Nat.min s.size dLen ≤ dLen := Nat.min_le_right _ _; have htl : (s.data.toList.take (Nat.min s.size dLen)) = s.data.toList.take dLen := by
    rcases Nat.le_total s.size dLen with h | h
    · rw [show Nat.min s.size dLen = s.size from Nat.min_eq_left h, List.take_of_length_le (by omega), List.take_of_length_le (by omega)]
    · rw [show Nat.min s.size dLen = dLen from Nat.min_eq_right h]
  have hlen : (bytesV (s.data.toList.take (Nat.min s.size dLen))).length = Nat.min s.size dLen := by
    rw [bytesV_length, List.length_take, hsz]; exact Nat.min_eq_left (Nat.min_le_left _ _)
  have hst := run_storeCells_at P g o t (bytesV (s.data.toList.take (Nat.min s.size dLen))) 0 (bytesV l).toArray w hg (by rw [hlen]; simp [bytesV_length]; omega) (bytesV_one _); refine ⟨_, ?_, ?_, grownBy_setRow w g ((bytesV l).toArray.toList.take (o + 0) ++ bytesV (s.data.toList.take (Nat.min s.size dLen)) ++ (bytesV l).toArray.toList.drop (o + 0 + (bytesV (s.data.toList.take (Nat.min s.size dLen))).length)).toArray⟩
  · cases hq : P.info? elem with
    | none => simp [hq] at hs
    | some i =>
      have hmap : List.take (Nat.min s.size dLen) (List.map (fun b : UInt8 => Value.int IntKind.u8 (b.toNat : Int)) s.data.toList) = bytesV (s.data.toList.take (Nat.min s.size dLen)) := (by rw [bytesV, List.map_take]); simp [Builtin.copy_, run_underlying hu, Builtin.lenOf, Builtin.firstCells, sizeOf, typeInfo, hq]; rw [hmap, hst]; simp [Result.andThen, goInt]
  · have := setRow_heap w g _ ((bytesV l).toArray.toList.take (o + 0) ++ bytesV (s.data.toList.take (Nat.min s.size dLen)) ++ (bytesV l).toArray.toList.drop (o + 0 + (bytesV (s.data.toList.take (Nat.min s.size dLen))).length)).toArray t _ hg
    unfold Box; rw [this]; congr 3; rw [htl]; simp [bytesV, splice]
theorem upon_copy_text {w : World} {a : Act} {K : Act → World → Prop} {Q : Exit → Act → World → Prop} {o : Oper} (dT sT ty elem : TypeId) (g off dLen dCap : Nat) (t : ByteArray) (l : List UInt8) (T : TypeId)
    (hu : Tryz.prog.underlying dT = some (.slice elem)) (hsz : (Tryz.prog.info? elem).map (·.size) = some 1) (hg : Box w g (bytesV l).toArray T) (hfit : off + dLen ≤ l.length)
    (h : ∀ w', Box w' g (bytesV (splice l off (t.data.toList.take dLen))).toArray T → w.grownBy w' (some g) → Oper.upon Tryz.prog o a K Q (.ok (.value (.int .i64 ((Nat.min t.size dLen : Nat) : Int))) w')) :
    Oper.upon Tryz.prog o a K Q ((Sem.run Tryz.prog (Builtin.copy_ #[dT, sT] ty #[.slice (some ⟨g, off, none⟩) dLen dCap, .string t]) w).andThen fun v w' => .ok (.value v) w') := by
  obtain ⟨w', hrun, hb, hgr⟩ := run_copy_text (P := Tryz.prog) w dT sT ty elem g off dLen dCap t l T hu hsz hg hfit; rw [hrun]; exact h w' hb hgr
theorem two_boxes (w : World) (c0 c1 : Array Value) (t0 t1 : TypeId) : Box ((w.alloc (.cells c0 t0)).alloc (.cells c1 t1)) w.heap.size c0 t0 ∧ Box ((w.alloc (.cells c0 t0)).alloc (.cells c1 t1)) (w.heap.size + 1) c1 t1 ∧
    Below w.heap.size w ((w.alloc (.cells c0 t0)).alloc (.cells c1 t1)) ∧ ((w.alloc (.cells c0 t0)).alloc (.cells c1 t1)).heap.size = w.heap.size + 2 := by
  have e1 : (w.alloc (.cells c0 t0)).heap.size = w.heap.size + 1 := by simp
  have q0 := Box.new w c0 t0; have q1 := Box.new (w.alloc (.cells c0 t0)) c1 t1; rw [e1] at q1; exact ⟨q0.later ((Below.refl _ _).alloc (Nat.le_refl _) _), q1, ((Below.refl _ _).alloc (Nat.le_refl _) _).alloc (by simp) _, by simp⟩
abbrev Sec := { l : List UInt8 // l.length = 32 }
def Sec.v (s : Sec) : Value := .agg (bytesV s.1).toArray
theorem Sec.size (s : Sec) : (bytesV s.1).toArray.size = 32 := by simp [bytesV_length, s.2]
theorem Sec.one (s : Sec) : (bytesV s.1).toArray.all (·.oneCell') = true := all_oneCell_toArray (bytesV_one _)
theorem Tryz.secInfo : (Tryz.prog.info? 127).map (·.size) = some 32 := by kernel_rfl
theorem wpList_load_sec {w : World} {ops : Array Oper} {rest : List Oper} {o : Oper} {a : Act} {Q : Exit → Act → World → Prop} (hgd : o.guard = none) (x : Operand) (ho : o.op = .load 127 x) (g : Nat) (hx : a.eval x = .pointer (some ⟨g, 0, none⟩))
    (s : Sec) (t : TypeId) (hg : Box w g (bytesV s.1).toArray t) (h : wpList Tryz.prog ops Q rest (a.put o.dst s.v) w) : wpList Tryz.prog ops Q (o :: rest) a w :=
  wpList_load_row hgd _ x ho g hx t _ (0, 0) _ hg Tryz.underlying127 rfl (by rw [s.size]; exact Tryz.secInfo) h
theorem wpList_store_sec {w : World} {ops : Array Oper} {rest : List Oper} {o : Oper} {a : Act} {Q : Exit → Act → World → Prop} (hgd : o.guard = none) (x y : Operand) (ho : o.op = .store 127 x y) (g : Nat) (s : Sec) (hx : a.eval x = .pointer (some ⟨g, 0, none⟩)) (hy : a.eval y = s.v)
    (t : TypeId) (old : Array Value) (hg : Box w g old t) (hold : old.size = 32) (h : ∀ w', Box w' g (bytesV s.1).toArray t → w.grownBy w' (some g) → wpList Tryz.prog ops Q rest (a.put o.dst undef) w') : wpList Tryz.prog ops Q (o :: rest) a w :=
  wpList_store_row hgd _ x y ho g _ hx hy t old hg (by rw [s.size]; exact Tryz.secInfo) (by rw [s.size]; exact hold) s.one (h _ (setRow_heap _ _ _ _ _ _ hg) (grownBy_setRow _ _ _))
theorem result_sec {fn : Func} {p : Tmp} (h : fn.results = #[.cell p 127]) (tmps : Array Value) (w : World) (g : Nat) (t : TypeId) (s : Sec)
    (hp : tmps.getD p undef = .pointer (some ⟨g, 0, none⟩)) (hg : Box w g (bytesV s.1).toArray t) : (results fn tmps).run Tryz.prog w = .ok s.v w :=
  results_cell_row h tmps w g t _ (0, 0) _ hp hg Tryz.underlying127 rfl (by rw [s.size]; exact Tryz.secInfo)
theorem wpList_load_mid_sec {w : World} {ops : Array Oper} {rest : List Oper} {o : Oper} {a : Act} {Q : Exit → Act → World → Prop} (hgd : o.guard = none) (x : Operand) (ho : o.op = .load 127 x) (g off : Nat) (hx : a.eval x = .pointer (some ⟨g, off, none⟩))
    (s : Sec) (hg : w.rangeAt g off (bytesV s.1)) (h : wpList Tryz.prog ops Q rest (a.put o.dst s.v) w) : wpList Tryz.prog ops Q (o :: rest) a w :=
  wpList_load_mid hgd _ x ho g off hx _ _ hg Tryz.underlying127 rfl (by rw [bytesV_length, s.2]; exact Tryz.secInfo) h
def secL (t : ByteArray) : List UInt8 := splice (List.replicate 32 0) 0 (t.data.toList.take 32)
theorem secL_length (t : ByteArray) : (secL t).length = 32 := by
  rw [secL, length_splice]
  · exact List.length_replicate
  · rw [List.length_replicate, List.length_take]; omega
def z32 : Array Value := (bytesV (List.replicate 32 0)).toArray
theorem z32_eq : (#[.int .u8 0, .int .u8 0, .int .u8 0, .int .u8 0, .int .u8 0, .int .u8 0, .int .u8 0, .int .u8 0, .int .u8 0, .int .u8 0, .int .u8 0, .int .u8 0, .int .u8 0, .int .u8 0, .int .u8 0, .int .u8 0, .int .u8 0, .int .u8 0, .int .u8 0, .int .u8 0, .int .u8 0, .int .u8 0, .int .u8 0, .int .u8 0, .int .u8 0, .int .u8 0, .int .u8 0, .int .u8 0, .int .u8 0, .int .u8 0, .int .u8 0, .int .u8 0] : Array Value) = z32 := rfl
def secOf (t : ByteArray) : Sec := ⟨secL t, secL_length t⟩
theorem sectorOf_any (t : ByteArray) (w : World) :
    Calls Tryz.prog 87 #[.string t] w fun e w' => e = .returned (secOf t).v ∧ Below w.heap.size w w' := by
  obtain ⟨x0, x1, b0, s0⟩ := two_boxes w z32 z32 127 127; go_enter Tryz.func87, Tryz.ntmps87
  go_wp2_with fail
  rw [z32_eq]; generalize (w.alloc (.cells z32 127)).alloc (.cells z32 127) = W at *; refine upon_copy_text 22 9 3 5 (w.heap.size + 1) 0 32 32 t (List.replicate 32 0) 127 Tryz.underlying22 (by kernel_rfl) x1 (by simp) ?_; intro w2 x2 g2; have y0 : Box w2 w.heap.size z32 127 := (g2.block _ x0.lt (by simp)).trans x0; have b2 := b0.grown g2 b0.size (fun k hk => by have := Option.some.inj hk; omega); have x2' : Box w2 (w.heap.size + 1) (bytesV (secOf t).1).toArray 127 := x2; clear x2; have hz : z32.size = 32 := rfl; go_wp2_with (first | ((with_reducible refine wpList_load_sec rfl _ rfl (w.heap.size + 1) ?_ (secOf t) _ x2' ?_); exact rfl) | ((with_reducible refine wpList_store_sec rfl _ _ rfl w.heap.size (secOf t) ?_ ?_ _ _ y0 hz ?_); exact rfl; exact rfl; intro w3 x3 g3))
  refine bodyPost_ret (v := (secOf t).v) ?_ rfl ⟨rfl, ?_⟩
  · exact result_sec rfl _ _ _ _ _ rfl x3
  · exact b2.grown g3 b2.size (fun k hk => by have := Option.some.inj hk; omega)
theorem text_any (s : Sec) (w : World) :
    Calls Tryz.prog 88 #[s.v] w fun e w' => e = .returned (.string ⟨s.1.toArray⟩) ∧ Below w.heap.size w w' := by
  have hx := Box.new w (bytesV s.1).toArray 127; have hc : ∀ j (hj : j < s.1.length), (w.alloc (.cells (bytesV s.1).toArray 127)).cell? ((⟨w.heap.size, 0, none⟩ : Addr).add j) = some (.int .u8 ((s.1[j]).toNat : Int)) := by
    intro j hj; rw [Addr.add_lit, Nat.zero_add, hx.cell j (.int .u8 ((s.1[j]).toNat : Int)) (by simp [bytesV, hj])]
  have hrun := run_convert_bytes_back (P := Tryz.prog) (w.alloc (.cells (bytesV s.1).toArray 127)) 22 9 5 ⟨w.heap.size, 0, none⟩ 32 s.1 Tryz.underlying22 Tryz.underlying5 Tryz.underlying9 hc; rw [s.2] at hrun; unfold Sec.v; go_enter Tryz.func88, Tryz.ntmps88
  go_wp2; go_ret; exact ⟨rfl, (Below.refl _ _).alloc (Nat.le_refl _) _⟩
theorem secL_of {t : ByteArray} (h : t.size = 32) : (⟨(secL t).toArray⟩ : ByteArray) = t := by
  have hl : t.data.toList.length = 32 := by rw [Array.length_toList]; exact h
  have : secL t = t.data.toList := by
    unfold secL splice; rw [List.take_of_length_le (l := t.data.toList) (by omega), hl]; simp
  rw [this]
theorem secL_ne {t : ByteArray} (h : ¬ t.size = 32) : (⟨(secL t).toArray⟩ : ByteArray) ≠ t := by
  intro e; apply h; rw [← e]; show (secL t).toArray.size = 32
  rw [List.size_toArray, secL_length]
theorem texts_beq (a b : ByteArray) : (a.toList == b.toList) = decide (a = b) := by
  by_cases h : a = b
  · subst h; simp
  · rw [decide_eq_false h]
    refine beq_eq_false_iff_ne.2 fun e => h ?_; rw [Go.ByteArray.toList_eq, Go.ByteArray.toList_eq] at e; obtain ⟨⟨x⟩⟩ := a; obtain ⟨⟨y⟩⟩ := b; simp at e; rw [e]
theorem sectorOk_any (t : ByteArray) (w : World) :
    Calls Tryz.prog 59 #[.string t] w fun e w' => e = .returned (.bool (decide (t.size = 32))) ∧ Below w.heap.size w w' := by
  obtain ⟨u, hu⟩ : ∃ u : ByteArray, (⟨(secOf t).1.toArray⟩ : ByteArray) = u := ⟨_, rfl⟩; by_cases h : t.size = 32
  · have e1 : u = t := by rw [← hu]; exact secL_of h
    rw [decide_eq_true h]; have HU := Lib.hid hu; clear hu h; subst e1; go_enter Tryz.func59, Tryz.ntmps59
    go_wp2_with (first | (go_at_call 87; refine (sectorOf_any _ _).mono ?_; rintro e w1 ⟨rfl, b1⟩) | (go_at_call 88; refine (text_any _ _).mono ?_; rintro e w2 ⟨rfl, b2⟩; rw [HU.out]))
    go_ret; exact ⟨rfl, b1.trans (b2.mono b1.size)⟩
  · have e1 : (u.toList == t.toList) = false := by rw [texts_beq, decide_eq_false]; rw [← hu]; exact secL_ne h
    rw [decide_eq_false h]; have HU := Lib.hid hu; clear hu h; go_enter Tryz.func59, Tryz.ntmps59
    go_wp2_with (first | (go_at_call 87; refine (sectorOf_any _ _).mono ?_; rintro e w1 ⟨rfl, b1⟩) | (go_at_call 88; refine (text_any _ _).mono ?_; rintro e w2 ⟨rfl, b2⟩; rw [HU.out]))
    go_ret; exact ⟨rfl, b1.trans (b2.mono b1.size)⟩
theorem okAmong_any (x : Wr) (n : Int) (w : World) :
    Calls Tryz.prog 60 #[.agg #[.int .i64 x.at_, .string x.text], .int .i64 n] w fun e w' => e = .returned (.bool (decide (0 ≤ x.at_ ∧ x.at_ < n ∧ x.text.size = 32))) ∧ Below w.heap.size w w' := by
  obtain ⟨a, t⟩ := x; simp only; obtain ⟨u, hu⟩ : ∃ u : ByteArray, (⟨(secOf t).1.toArray⟩ : ByteArray) = u := ⟨_, rfl⟩; have HE : Hid (u = t ↔ t.size = 32) := ⟨fun e => by by_cases h : t.size = 32; exact h; exact absurd (hu.trans e) (secL_ne h), fun h => by rw [← hu]; exact secL_of h⟩; have HU := Lib.hid hu; clear hu; have hx := Box.new w #[.int .i64 a, .string t] 63; have b0 : Below w.heap.size w (w.alloc (.cells #[.int .i64 a, .string t] 63)) := (Below.refl _ _).alloc (Nat.le_refl _) _; have c0 := hx.cell 0 _ rfl; have c1 := hx.cell 1 _ rfl; go_enter Tryz.func60, Tryz.ntmps60
  go_wp2; generalize (w.alloc (.cells #[.int .i64 a, .string t] 63)) = W at *; have hlt : w.heap.size < W.heap.size := hx.lt; have HK0 : Hid (W.drew.cell? ⟨w.heap.size, 0, none⟩ = some (.int .i64 a) ∧ W.drew.cell? ⟨w.heap.size, 1, none⟩ = some (.string t) ∧ Below W.heap.size W W.drew) := ⟨c0, c1, (Below.refl _ _).drew⟩; have HK1 : Hid (∀ (x y : World), (x.cell? ⟨w.heap.size, 0, none⟩ = some (.int .i64 a) ∧ x.cell? ⟨w.heap.size, 1, none⟩ = some (.string t) ∧ Below W.heap.size W x) → Below x.heap.size x y → (y.cell? ⟨w.heap.size, 0, none⟩ = some (.int .i64 a) ∧ y.cell? ⟨w.heap.size, 1, none⟩ = some (.string t) ∧ Below W.heap.size W y)) :=
    fun x y h hb => ⟨(hb.cell (p := ⟨w.heap.size, 0, none⟩) (World.block_lt_of_cell? _ _ h.1)).trans h.1, (hb.cell (p := ⟨w.heap.size, 1, none⟩) (World.block_lt_of_cell? _ _ h.2.1)).trans h.2.1, h.2.2.trans (hb.mono h.2.2.size)⟩
  have HK2 : Hid (∀ (x : World) (g : Nat) (y z : Value), W.heap.size ≤ g → (x.cell? ⟨w.heap.size, 0, none⟩ = some (.int .i64 a) ∧ x.cell? ⟨w.heap.size, 1, none⟩ = some (.string t) ∧ Below W.heap.size W x) → (((x.setCell ⟨g, 0, none⟩ y).setCell ⟨g, 1, none⟩ z).cell? ⟨w.heap.size, 0, none⟩ = some (.int .i64 a) ∧ ((x.setCell ⟨g, 0, none⟩ y).setCell ⟨g, 1, none⟩ z).cell? ⟨w.heap.size, 1, none⟩ = some (.string t) ∧ Below W.heap.size W ((x.setCell ⟨g, 0, none⟩ y).setCell ⟨g, 1, none⟩ z))) := by
    intro x g y z hg h; refine ⟨?_, ?_, (h.2.2.setCell (p := ⟨g, 0, none⟩) hg y).setCell (p := ⟨g, 1, none⟩) hg z⟩
    · rw [World.cell?_setCell_other _ _ _ _ (by simp <;> omega), World.cell?_setCell_other _ _ _ _ (by simp <;> omega)]; exact h.1
    · rw [World.cell?_setCell_other _ _ _ _ (by simp <;> omega), World.cell?_setCell_other _ _ _ _ (by simp <;> omega)]; exact h.2.1
  clear hx; go_region_held3 (fun x => x.cell? ⟨w.heap.size, 0, none⟩ = some (.int .i64 a) ∧ x.cell? ⟨w.heap.size, 1, none⟩ = some (.string t) ∧ Below W.heap.size W x)
    (first | exact HK0.out | exact HK1.out _ _ (by assumption) ((Below.refl _ _).alloc (Nat.le_refl _) _) | exact HK1.out _ _ (by assumption) k1 | exact HK1.out _ _ (by assumption) k2 | exact HK1.out _ _ hS2.out ((Below.refl _ _).alloc (Nat.le_refl _) _) | exact HK1.out _ _ hS1.out ((Below.refl _ _).alloc (Nat.le_refl _) _) | exact HK2.out _ _ _ _ (Nat.le_refl _) (by assumption) | exact HK2.out _ _ _ _ s1 (by assumption) | exact HK2.out _ _ _ _ s2 (by assumption))
    (first
      | (go_at_call 87; refine (sectorOf_any _ _).mono ?_; rintro e w1 ⟨rfl, k1⟩; have hS1 := Lib.hid (HK1.out _ _ (by assumption) k1); have s1 : W.heap.size ≤ w1.heap.size := hS1.out.2.2.size; try (have q1 : Box w1 W.heap.size #[.int .i64 0, .string ⟨#[]⟩] 63 := (show Box (W.alloc (.cells #[.int .i64 0, .string ⟨#[]⟩] 63)).drew W.heap.size #[.int .i64 0, .string ⟨#[]⟩] 63 from Box.new W _ _).later k1; have z0 := q1.cell 0 _ rfl; have z1 := q1.cell 1 _ rfl; have f0 := q1.loose 0; have f1 := q1.loose 1))
      | (go_at_call 88; refine (text_any _ _).mono ?_; rintro e w2 ⟨rfl, k2⟩; have hS2 := Lib.hid (HK1.out _ _ (by assumption) k2); have s2 : W.heap.size ≤ w2.heap.size := hS2.out.2.2.size; rw [HU.out]; (first | (have q2 : Box w2 w1.heap.size #[.int .i64 0, .string ⟨#[]⟩] 63 := (Box.new _ _ _).later k2; have z0 := q2.cell 0 _ rfl; have z1 := q2.cell 1 _ rfl; have f0 := q2.loose 0; have f1 := q2.loose 1) | (have q2 : Box w2 W.heap.size #[.int .i64 0, .string ⟨#[]⟩] 63 := q1.later k2; have z0 := q2.cell 0 _ rfl; have z1 := q2.cell 1 _ rfl; have f0 := q2.loose 0; have f1 := q2.loose 1) | skip)))
  all_goals
    rename_i hHeld
    obtain ⟨y0, y1, bX⟩ := hHeld
    have bF := Lib.hid (b0.trans (bX.mono b0.size))
    clear bX HK0 HK1 HK2 c0 c1
    by_cases h32 : t.size = 32
    · have e1 : (t.toList == u.toList) = true := by rw [texts_beq, decide_eq_true]; exact (HE.out.2 h32).symm
      by_cases ha : 0 ≤ a
      · have g1 : decide (a < n) = decide (0 ≤ a ∧ a < n ∧ t.size = 32) := by simp [ha, h32]
        have G1 := Lib.hid g1
        clear g1
        go_wp2
        go_ret
        exact ⟨congrArg (fun b => Ending.returned (.bool b)) G1.out, bF.out⟩
      · go_wp2
        go_ret; exact ⟨by simp; omega, bF.out⟩
    · have e1 : (t.toList == u.toList) = false := by rw [texts_beq, decide_eq_false]; exact fun e => h32 (HE.out.1 e.symm)
      have G1 := Lib.hid (show decide (0 ≤ a ∧ a < n ∧ t.size = 32) = false from decide_eq_false (fun h => h32 h.2.2)); go_wp2; go_ret; exact ⟨congrArg (fun b => Ending.returned (.bool b)) G1.out.symm, bF.out⟩

/- What SectorText hands back, the model's and the program's. -/
def rdO (d : Dk) (a : Int) : Option ByteArray := if 0 ≤ a ∧ a < d.sec.length then some ((lastAt d.cache a).getD (d.sec.getD a.toNat ⟨#[]⟩)) else none
theorem rdT_some {d : Dk} {a : Int} {t : ByteArray} (h : rdO d a = some t) : rdT d a = .tuple #[.string t, .bool true] := by
  unfold rdO at h; unfold rdT
  split at h
  · rename_i hc; rw [if_pos hc, Option.some.inj h]
  · cases h
theorem rdT_none {d : Dk} {a : Int} (h : rdO d a = none) : rdT d a = .tuple #[.string ⟨#[]⟩, .bool false] := by
  unfold rdO at h; unfold rdT
  split at h
  · cases h
  · rename_i hc; rw [if_neg hc]
theorem rdO_in {d : Dk} {a : Int} {t : ByteArray} (h : rdO d a = some t) : 0 ≤ a ∧ a < d.sec.length := by
  unfold rdO at h
  split at h
  · assumption
  · cases h
theorem lastAt_mem {c : List Wr} {a : Int} {t : ByteArray} (h : lastAt c a = some t) : ∃ x ∈ c, x.text = t := by
  induction c with
  | nil => cases h
  | cons x c ih =>
    unfold lastAt at h
    split at h
    · rename_i t' ht
      cases h
      obtain ⟨y, hy, e⟩ := ih ht; exact ⟨y, List.mem_cons_of_mem _ hy, e⟩
    · split at h
      · cases h; exact ⟨x, by simp, rfl⟩
      · cases h
theorem rdO_size {d : Dk} {a : Int} {t : ByteArray} (h : rdO d a = some t) (ht : ∀ s ∈ d.sec, s.size ≤ 1099511627776) (hu : ∀ x ∈ d.cache, x.text.size ≤ 1099511627776) : t.size ≤ 1099511627776 := by
  have hin := rdO_in h; unfold rdO at h; rw [if_pos hin] at h; cases hl : lastAt d.cache a with
  | some u =>
    rw [hl] at h; obtain ⟨x, hx, e⟩ := lastAt_mem hl; cases h
    rw [← e]; exact hu x hx
  | none =>
    rw [hl] at h; have hk : a.toNat < d.sec.length := by omega
    simp [List.getD_eq_getElem?_getD, List.getElem?_eq_getElem hk] at h; rw [← h]; exact ht _ (List.getElem_mem hk)
def stL (d : Dk) (a : Int) : Nat → Option (List UInt8)
  | 0 => some []
  | i + 1 => match stL d a i with
    | none => none
    | some l => match rdO d (a + (i : Int)) with
      | some t => some (l ++ t.data.toList)
      | none => none
theorem stL_none {d : Dk} {a : Int} {i : Nat} (h : stL d a i = none) : ∀ j, i ≤ j → stL d a j = none := by
  intro j hj
  induction j with
  | zero => have : i = 0 := by omega
            subst this; exact h
  | succ j ih =>
    by_cases e : i = j + 1
    · subst e; exact h
    · unfold stL; rw [ih (by omega)]
theorem stL_go {d : Dk} {a : Int} {i : Nat} {l : List UInt8} {t : ByteArray} (h : stL d a i = some l) (ht : rdO d (a + (i : Int)) = some t) : stL d a (i + 1) = some (l ++ t.data.toList) := by unfold stL; rw [h, ht]
theorem stL_stop {d : Dk} {a : Int} {i n : Nat} {l : List UInt8} (h : stL d a i = some l) (ht : rdO d (a + (i : Int)) = none) (hn : i < n) : stL d a n = none :=
  stL_none (i := i + 1) (by unfold stL; rw [h, ht]) n hn
def stT (d : Dk) (a n : Int) : Value := if 0 ≤ n ∧ n ≤ 100 then (match stL d a n.toNat with
  | some l => .tuple #[.string ⟨l.toArray⟩, .bool true]
  | none => .tuple #[.string ⟨#[]⟩, .bool false]) else .tuple #[.string ⟨#[]⟩, .bool false]
theorem stT_no {d : Dk} {a n : Int} (h : ¬ (0 ≤ n ∧ n ≤ 100)) : stT d a n = .tuple #[.string ⟨#[]⟩, .bool false] := by rw [stT, if_neg h]
theorem stT_none {d : Dk} {a : Int} {n : Nat} (h : stL d a n = none) : stT d a (n : Int) = .tuple #[.string ⟨#[]⟩, .bool false] := by
  unfold stT
  split
  · rw [Int.toNat_natCast, h]
  · rfl
theorem stT_some {d : Dk} {a : Int} {n : Nat} {l : List UInt8} (hn : n ≤ 100) (h : stL d a n = some l) : stT d a (n : Int) = .tuple #[.string ⟨l.toArray⟩, .bool true] := by
  unfold stT; rw [if_pos ⟨by omega, by omega⟩, Int.toNat_natCast, h]
theorem byteCells_bytesV (l : List UInt8) : Lib.byteCells l = bytesV l := rfl
theorem builder_later {T e : TypeId} {B b : Nat} {bs : List Value} {w w' : World} (h : Lib.IsBuilder T e B b bs w) (hb : Below w.heap.size w w') : Lib.IsBuilder T e B b bs w' := by
  have hg : w.grownBy w' none := ⟨hb.os, hb.tape, hb.output, hb.size, fun k hk _ => hb.block k hk⟩; have one : ∀ p, Lib.BuilderAt T e B b p bs w → Lib.BuilderAt T e B b p bs w' := by
    rintro p ⟨hB, v, hk, ho, hn⟩; refine ⟨hB, v, (hb.block b (Array.getElem?_eq_some_iff.1 hk).1).trans hk, ho.kept hg ?_, hn⟩; cases hv : v.ownBlock with
    | none => exact .inl rfl
    | some k => exact .inr (by simp)
  rcases h with h | h
  · exact .inl (one _ h)
  · exact .inr (one _ h)
theorem implSectorText_any (d : Dk) (v : Value) (a n : Int) (w : World) (h : DRd w v d) (hs : d.small) (ht : ∀ s ∈ d.sec, s.size ≤ 1099511627776) (hu : ∀ x ∈ d.cache, x.text.size ≤ 1099511627776)
    (ha : -9223372036854775808 ≤ a ∧ a ≤ 9223372036854775807) :
    Calls Tryz.prog 140 #[v, .int .i64 a, .int .i64 n] w fun e w' => e = .returned (stT d a n) ∧ Below w.heap.size w w' := by
  obtain ⟨aa, ab, ca, cb, rfl, _, _⟩ := h.form; have hx := Box.new w #[.slice aa d.sec.length ca, .slice ab d.cache.length cb] 27; have b0 : Below w.heap.size w (w.alloc (.cells #[.slice aa d.sec.length ca, .slice ab d.cache.length cb] 27)) := (Below.refl _ _).alloc (Nat.le_refl _) _; by_cases hin : 0 ≤ n ∧ n ≤ 100
  · obtain ⟨N, rfl⟩ := Int.eq_ofNat_of_zero_le hin.1
    have hN : N ≤ 100 := by omega
    obtain ⟨hx0, hx1, bT, hsz⟩ := two_boxes w #[.slice aa d.sec.length ca, .slice ab d.cache.length cb] #[.pointer none, .slice none 0 0] 27 197; clear hx b0; go_enter Tryz.func140, Tryz.ntmps140
    go_wp2; generalize ((w.alloc (.cells #[.slice aa d.sec.length ca, .slice ab d.cache.length cb] 27)).alloc (.cells #[.pointer none, .slice none 0 0] 197)) = W at hx0 hx1 bT hsz ⊢; have B0 : Hid (Lib.IsBuilder 197 5 (w.heap.size + 1) (w.heap.size + 1) (Lib.byteCells []) W ∧ Box W w.heap.size #[.slice aa d.sec.length ca, .slice ab d.cache.length cb] 27 ∧ Below w.heap.size w W ∧ w.heap.size + 1 ≤ W.heap.size) :=
      ⟨.inl ⟨Nat.le_refl _, .slice none 0 0, hx1, World.ownsRow_nil _ _ _ _, by simp [Value.ownBlock]⟩, hx0, bT, by omega⟩
    have HD := Lib.hid h; clear hx0 hx1 bT hsz h; go_loopw [19] (fun iv wr => ∃ i : Nat, i ≤ N ∧ iv = .int .i64 (i : Int) ∧ (i = 0 ∨ (0 ≤ a ∧ a < d.sec.length)) ∧ ∃ l : List UInt8, stL d a i = some l ∧ l.length ≤ i * 1099511627776 ∧ Lib.IsBuilder 197 5 (w.heap.size + 1) (w.heap.size + 1) (Lib.byteCells l) wr ∧ Box wr w.heap.size #[.slice aa d.sec.length ca, .slice ab d.cache.length cb] 27 ∧ Below w.heap.size w wr ∧ w.heap.size + 1 ≤ wr.heap.size) (fun iv _ => N - (intOf iv).toNat)
    case atStart => exact ⟨0, by omega, rfl, .inl rfl, [], rfl, by simp, B0.out⟩
    case round =>
      obtain ⟨i, hi, rfl, hor, l, hst, hll, hbd, hbx, hbl, hsz⟩ := hrel; by_cases hlt : i < N
      · have c0 := hbx.cell 0 (.slice aa d.sec.length ca) rfl
        have c1 := hbx.cell 1 (.slice ab d.cache.length cb) rfl; have hs1 := hs.1; have hwr : IntKind.i64.wrap (a + (i : Int)) = a + (i : Int) := IntWalk.i64_in _ ⟨by rcases hor with e | e <;> omega, by rcases hor with e | e <;> omega⟩; have hD := HD.out.later hbl; cases hrd : rdO d (a + (i : Int)) with
        | none =>
          have HZ := Lib.hid (stT_none (stL_stop hst hrd hlt)); have HR := Lib.hid (rdT_none hrd); have HB := Lib.hid hbl; clear hst hrd hbd hor; go_wp2_with (go_at_call 151; refine (implReadSector_any d _ (a + (i : Int)) _ hD hs ht hu).mono ?_; rintro e w1 ⟨rfl, k1⟩; rw [HR.out])
          go_ret2
          exact ⟨by rw [HZ.out]; rfl, HB.out.trans (k1.mono HB.out.size)⟩
        | some t =>
          have htz := rdO_size hrd ht hu; have hin2 := rdO_in hrd; have HS := Lib.hid (stL_go hst hrd); have HR := Lib.hid (rdT_some hrd); have HO : Hid (0 ≤ a ∧ a < d.sec.length ∨ i = 0) := by rcases hor with e | e; exact .inr e; exact .inl e
          have HB := Lib.hid hbl; have HBX := Lib.hid hbx; have HBD := Lib.hid hbd; clear hst hrd hbd hor hbx; have hlc : (Lib.byteCells l).length = l.length := (by rw [byteCells_bytesV, bytesV_length]); have hlen : l.length + t.size ≤ 140737488355328 := by
            have : i * 1099511627776 ≤ 99 * 1099511627776 := Nat.mul_le_mul_right _ (by omega); omega
          have HLN := Lib.hid hlen; have HLC := Lib.hid hlc; have HLL := Lib.hid hll; clear hlen hlc hll; go_wp2_with (first
            | (go_at_call 151; refine (implReadSector_any d _ (a + (i : Int)) _ hD hs ht hu).mono ?_; rintro e w1 ⟨rfl, k1⟩; rw [HR.out])
            | (go_at_call 152; refine (bldWrite (w.heap.size + 1) (w.heap.size + 1) (Lib.byteCells l) t _ (builder_later HBD.out k1) (by rw [HLC.out]; exact HLN.out) (Nat.le_trans hsz k1.size)).mono ?_; rintro e w2 ⟨rfl, bd2, k2⟩))
          have bF : Below w.heap.size w w2 := (HB.out.trans (k1.mono HB.out.size)).trans (k2.mono (by omega)); have bx2 := (HBX.out.later k1).under k2 (by omega); have es : Lib.byteCells l ++ Lib.strCells t = Lib.byteCells (l ++ t.data.toList) := (by simp [Lib.byteCells, Lib.strCells]); rw [es] at bd2; have hsz2 : w.heap.size + 1 ≤ w2.heap.size := Nat.le_trans (Nat.le_trans hsz k1.size) k2.size; have hl2 : (l ++ t.data.toList).length ≤ (i + 1) * 1099511627776 := by
            have : t.data.toList.length = t.size := (by rw [Array.length_toList]; rfl); have := HLL.out; rw [List.length_append, Nat.succ_mul]; omega
          have hor2 : i + 1 = 0 ∨ (0 ≤ a ∧ a < d.sec.length) := by
            rcases HO.out with e | e
            · exact .inr e
            · subst e; exact .inr (by simpa using hin2)
          have FIN := Lib.hid (show ∃ l : List UInt8, stL d a (i + 1) = some l ∧ l.length ≤ (i + 1) * 1099511627776 ∧ Lib.IsBuilder 197 5 (w.heap.size + 1) (w.heap.size + 1) (Lib.byteCells l) w2 ∧ _ ∧ _ ∧ _ from ⟨_, HS.out, hl2, .inr bd2, bx2, bF, hsz2⟩); clear bd2 bx2 bF es hl2; go_roundw
          case rel => exact ⟨i + 1, by omega, by go_num, hor2, FIN.out⟩
          case measure => simp [intOf]; omega
      · have hie : i = N := by omega
        subst hie; have HZ := Lib.hid (stT_some hN hst); have HB := Lib.hid hbl; have HBD := Lib.hid hbd; clear hst hbd hor; go_wp2_with (go_at_call 153; refine (bldString (w.heap.size + 1) (w.heap.size + 1) l _ HBD.out hsz).mono ?_; rintro e w1 ⟨rfl, k1⟩)
        go_ret2
        exact ⟨by rw [HZ.out]; rfl, HB.out.trans (k1.mono (by omega))⟩
  · have HZ := Lib.hid (stT_no (d := d) (a := a) hin)
    clear h; go_enter Tryz.func140, Tryz.ntmps140
    go_wp2
    all_goals
      go_ret2
      exact ⟨by rw [HZ.out]; rfl, b0⟩
theorem bytes_append (l : List UInt8) (t : ByteArray) : (⟨l.toArray⟩ : ByteArray) ++ t = ⟨(l ++ t.data.toList).toArray⟩ := by
  obtain ⟨⟨r⟩⟩ := t; apply ByteArray.ext; simp
theorem specSectorText_any (d : Dk) (v : Value) (a n : Int) (w : World) (h : DRd w v d) (hs : d.small) (ht : ∀ s ∈ d.sec, s.size ≤ 1099511627776) (hu : ∀ x ∈ d.cache, x.text.size ≤ 1099511627776) :
    Calls Tryz.prog 133 #[v, .int .i64 a, .int .i64 n] w fun e w' => e = .returned (stT d a n) ∧ Below w.heap.size w w' := by
  obtain ⟨aa, ab, ca, cb, rfl, _, _⟩ := h.form; have hx := Box.new w #[.slice aa d.sec.length ca, .slice ab d.cache.length cb] 27; have b0 : Below w.heap.size w (w.alloc (.cells #[.slice aa d.sec.length ca, .slice ab d.cache.length cb] 27)) := (Below.refl _ _).alloc (Nat.le_refl _) _; by_cases hin : 0 ≤ n ∧ n ≤ 100
  · obtain ⟨N, rfl⟩ := Int.eq_ofNat_of_zero_le hin.1
    have hN : N ≤ 100 := by omega
    go_enter Tryz.func133, Tryz.ntmps133
    go_wp2_with (go_at_call 52; refine (in_yes _ _ _ _ (by omega) (by omega)).mono ?_; rintro e w5 ⟨rfl, rfl⟩)
    generalize w.alloc (.cells #[.slice aa d.sec.length ca, .slice ab d.cache.length cb] 27) = W at hx b0 ⊢; have HD := Lib.hid h; have HX := Lib.hid hx; have B0 := Lib.hid b0; clear hx b0 h; go_loopw [8, 9] (fun sv iv wr => ∃ i : Nat, i ≤ N ∧ iv = .int .i64 (i : Int) ∧ (i = 0 ∨ (0 ≤ a ∧ a < d.sec.length)) ∧ ∃ l : List UInt8, stL d a i = some l ∧ l.length ≤ i * 1099511627776 ∧ sv = .string ⟨l.toArray⟩ ∧ Below W.heap.size W wr) (fun _ iv _ => N - (intOf iv).toNat)
    case atStart => exact ⟨0, by omega, rfl, .inl rfl, [], rfl, by simp, rfl, Below.refl _ _⟩
    case round =>
      obtain ⟨i, hi, rfl, hor, l, hst, hll, rfl, hbr⟩ := hrel; have hbl : Below w.heap.size w wr := B0.out.trans (hbr.mono B0.out.size); by_cases hlt : i < N
      · have hbx := HX.out.later hbr
        have c0 := hbx.cell 0 (.slice aa d.sec.length ca) rfl; have c1 := hbx.cell 1 (.slice ab d.cache.length cb) rfl; have hs1 := hs.1; by_cases hg : 0 ≤ a ∧ a ≤ d.sec.length
        · have hg0 : (0 : Int) ≤ a := hg.1
          have hg1 : a ≤ (d.sec.length : Int) := hg.2; have hD := HD.out.later hbl; cases hrd : rdO d (a + (i : Int)) with
          | none =>
            have HZ := Lib.hid (stT_none (stL_stop hst hrd hlt)); have HR := Lib.hid (rdT_none hrd); have HB := Lib.hid hbl; clear hst hrd hor; go_wp2_with (go_at_call 132; refine (specReadSector_any d _ (a + (i : Int)) _ hD hs).mono ?_; rintro e w1 ⟨rfl, k1⟩; rw [HR.out])
            go_ret2
            exact ⟨by rw [HZ.out]; rfl, HB.out.trans (k1.mono HB.out.size)⟩
          | some t =>
            have htz := rdO_size hrd ht hu; have hin2 := rdO_in hrd; have HS := Lib.hid (stL_go hst hrd); have HR := Lib.hid (rdT_some hrd); have HO : Hid (0 ≤ a ∧ a < d.sec.length ∨ i = 0) := by rcases hor with e | e; exact .inr e; exact .inl e
            clear hst hrd hor; go_wp2_with (go_at_call 132; refine (specReadSector_any d _ (a + (i : Int)) _ hD hs).mono ?_; rintro e w1 ⟨rfl, k1⟩; rw [HR.out])
            have hl2 : (l ++ t.data.toList).length ≤ (i + 1) * 1099511627776 := by
              have : t.data.toList.length = t.size := (by rw [Array.length_toList]; rfl); rw [List.length_append, Nat.succ_mul]; omega
            have hor2 : i + 1 = 0 ∨ (0 ≤ a ∧ a < d.sec.length) := by
              rcases HO.out with e | e
              · exact .inr e
              · subst e; exact .inr (by simpa using hin2)
            go_roundw
            case rel => exact ⟨i + 1, by omega, by go_num, hor2, _, HS.out, hl2, congrArg Value.string (bytes_append l t), hbr.trans (k1.mono hbr.size)⟩
            case measure => simp [intOf]; omega
        · have hrd : rdO d (a + (i : Int)) = none := by
            rcases hor with e | e
            · subst e; unfold rdO; rw [if_neg]; simp; omega
            · omega
          have HZ := Lib.hid (stT_none (stL_stop hst hrd hlt)); have HB := Lib.hid hbl; clear hst hrd hor; go_wp2
          all_goals
            go_ret2
            exact ⟨by rw [HZ.out]; rfl, HB.out⟩
      · have hie : i = N := by omega
        subst hie; have HZ := Lib.hid (stT_some hN hst); have HB := Lib.hid hbl; clear hst hor; go_wp2; go_ret2
        exact ⟨by rw [HZ.out]; rfl, HB.out⟩
  · have HZ := Lib.hid (stT_no (d := d) (a := a) hin)
    clear h; go_enter Tryz.func133, Tryz.ntmps133
    go_wp2_with (go_at_call 52; refine (in_no _ _ _ _ hin).mono ?_; rintro e w5 ⟨rfl, rfl⟩)
    go_ret2
    exact ⟨by rw [HZ.out]; rfl, b0⟩

/- Disks: what the program's DiskOk hands back. -/
theorem implDiskOk_any (d : Dk) (v : Value) (w : World) (h : DRd w v d) (hs : d.small) :
    Calls Tryz.prog 31 #[v] w fun e w' => e = .returned (.bool (decide d.ok)) ∧ Below w.heap.size w w' := by
  obtain ⟨va, vb, rfl, ha, hb⟩ := h; obtain ⟨s1, s2⟩ := hs; have b0 : Below w.heap.size w (w.alloc (.cells #[va, vb] 27)) := (Below.refl _ _).alloc (Nat.le_refl _) _; have hx := Box.new w #[va, vb] 27; obtain ⟨aa, ca, rfl⟩ : ∃ (a : Option Addr) (c : Nat), va = .slice a d.sec.length c := by
    rcases ha with ⟨e, a, c, rfl⟩ | ⟨g, c, rfl, _⟩
    · exact ⟨a, c, by rw [e]; rfl⟩
    · exact ⟨_, c, rfl⟩
  obtain ⟨ab, cb, rfl⟩ : ∃ (a : Option Addr) (c : Nat), vb = .slice a d.cache.length c := by
    rcases hb with ⟨e, a, c, rfl⟩ | ⟨g, o, c, rfl, _⟩
    · exact ⟨a, c, by rw [e]; rfl⟩
    · exact ⟨_, c, rfl⟩
  have c0 := hx.cell 0 (.slice aa d.sec.length ca) rfl; have c1 := hx.cell 1 (.slice ab d.cache.length cb) rfl; by_cases hin : 1 ≤ d.sec.length ∧ d.sec.length ≤ 100
  · by_cases hc : d.cache.length ≤ 60
    · have HA := Lib.hid (ha.later b0)
      have HB := Lib.hid (hb.later b0); clear ha hb; go_enter Tryz.func31, Tryz.ntmps31
      go_wp2; generalize w.alloc (.cells #[.slice aa d.sec.length ca, .slice ab d.cache.length cb] 27) = W at *; go_loopw [26] (fun iv wr => ∃ i : Nat, i ≤ d.sec.length ∧ iv = .int .i64 (i : Int) ∧ (∀ s ∈ d.sec.take i, s.size = 32) ∧ Below W.heap.size W wr) (fun iv _ => d.sec.length - (intOf iv).toNat)
      case atStart => exact ⟨0, by omega, rfl, by simp, Below.refl _ _⟩
      case round =>
        obtain ⟨i, hi, rfl, hall, hbr⟩ := hrel; have br : Below w.heap.size w wr := b0.trans (hbr.mono b0.size); by_cases hlt : i < d.sec.length
        · have HL := Lib.hid hall
          have HM := Lib.hid (List.getElem_mem hlt); have htk := Lib.hid (List.take_succ_eq_append_getElem hlt); obtain ⟨g, rfl, hcs⟩ := (HA.out.later hbr).at i hlt; have hi0 : (0 : Int) ≤ (i : Int) := (by omega); have hi1 : (i : Int) < (d.sec.length : Int) := (by omega); clear hall; generalize d.sec[i] = t at *; by_cases h32 : t.size = 32
          · go_wp2_with (go_at_call 59; refine (sectorOk_any _ _).mono ?_; rintro e w1 ⟨rfl, k1⟩; rw [decide_eq_true h32])
            go_roundw
            case rel => exact ⟨i + 1, by omega, by go_num, by
              rw [htk.out]; intro x hx; rcases List.mem_append.1 hx with h | h
              · exact HL.out x h
              · simp at h; rw [h]; exact h32, hbr.trans (k1.mono hbr.size)⟩
            case measure => simp [intOf]; omega
          · have HNO := Lib.hid (show decide d.ok = false from decide_eq_false (fun h => h32 (h.2.2.2.1 t HM.out)))
            go_wp2_with (go_at_call 59; refine (sectorOk_any _ _).mono ?_; rintro e w1 ⟨rfl, k1⟩; rw [decide_eq_false h32])
            go_ret; exact ⟨by rw [HNO.out]; rfl, br.trans (k1.mono br.size)⟩
        · have hall' : ∀ s ∈ d.sec, s.size = 32 := by rw [List.take_of_length_le (by omega)] at hall; exact hall
          have HALL := Lib.hid hall'; have e1 := (hbr.cell (p := ⟨w.heap.size, 1, none⟩) hx.lt).trans c1; clear hall hall'; have HB2 := Lib.hid (HB.out.later hbr); go_wp2; obtain ⟨wa, hwa⟩ : ∃ wa, wa = wr := ⟨_, rfl⟩; subst hwa; go_loopw [37] (fun iv wx => ∃ j : Nat, j ≤ d.cache.length ∧ iv = .int .i64 (j : Int) ∧ (∀ x ∈ d.cache.take j, 0 ≤ x.at_ ∧ x.at_ < d.sec.length ∧ x.text.size = 32) ∧ Below wa.heap.size wa wx) (fun iv _ => d.cache.length - (intOf iv).toNat)
          case atStart => exact ⟨0, by omega, rfl, by simp, Below.refl _ _⟩
          case round =>
            obtain ⟨j, hj, rfl, hall, hbx⟩ := hrel; have bx : Below w.heap.size w wr := br.trans (hbx.mono br.size); by_cases hlt2 : j < d.cache.length
            · have HL := Lib.hid hall
              have HM := Lib.hid (List.getElem_mem hlt2); have htk := Lib.hid (List.take_succ_eq_append_getElem hlt2); obtain ⟨g, off, rfl, hcl⟩ := HB2.out.at j hlt2; have d0 : wr.cell? ⟨g, off + j * 2, none⟩ = some (.int .i64 d.cache[j].at_) := hcl wr hbx 0 _ rfl; have d1 : wr.cell? ⟨g, off + j * 2 + 1, none⟩ = some (.string d.cache[j].text) := hcl wr hbx 1 _ rfl; clear hall hcl e1 c0 c1; generalize d.cache[j] = x at *; obtain ⟨n, t⟩ := x; simp only at d0 d1; have hj0 : (0 : Int) ≤ (j : Int) := (by omega); have hj1 : (j : Int) < (d.cache.length : Int) := (by omega); have bA : Below wr.heap.size wr (wr.alloc (.cells #[.int .i64 n, .string t] 63)) := (Below.refl _ _).alloc (Nat.le_refl _) _; by_cases hat : 0 ≤ n ∧ n < (d.sec.length : Int) ∧ t.size = 32
              · go_wp2_with (go_at_call 60; refine (okAmong_any ⟨n, t⟩ _ _).mono ?_; rintro e w1 ⟨rfl, k1⟩; rw [decide_eq_true hat])
                have k2 := bA.trans (k1.mono bA.size); go_roundw
                case rel => exact ⟨j + 1, by omega, by go_num, by
                  rw [htk.out]; intro x hx; rcases List.mem_append.1 hx with h | h
                  · exact HL.out x h
                  · simp at h; rw [h]; exact hat, hbx.trans (k2.mono hbx.size)⟩
                case measure => simp [intOf]; omega
              · have HNO := Lib.hid (show decide d.ok = false from decide_eq_false (fun h => hat (h.2.2.2.2 _ HM.out)))
                go_wp2_with (go_at_call 60; refine (okAmong_any ⟨n, t⟩ _ _).mono ?_; rintro e w1 ⟨rfl, k1⟩; rw [decide_eq_false hat])
                have k2 := bA.trans (k1.mono bA.size); go_ret; exact ⟨by rw [HNO.out]; rfl, bx.trans (k2.mono bx.size)⟩
            · have hyes : decide d.ok = true := decide_eq_true ⟨hin.1, hin.2, hc, HALL.out, by rw [List.take_of_length_le (by omega)] at hall; exact hall⟩
              have HY := Lib.hid hyes; clear hall hyes; go_wp2; go_ret; exact ⟨by rw [HY.out]; rfl, bx⟩
    · have hno : decide d.ok = false := decide_eq_false (fun h => hc h.2.2.1)
      rw [hno]; go_enter Tryz.func31, Tryz.ntmps31
      go_wp2; go_ret; exact ⟨rfl, b0⟩
  · have hno : decide d.ok = false := decide_eq_false (fun h => hin ⟨h.1, h.2.1⟩)
    rw [hno]; go_enter Tryz.func31, Tryz.ntmps31
    go_wp2
    all_goals
      go_ret
      exact ⟨rfl, b0⟩

/- Appends of one list of the call's own to another, at an operation, in a list of operations and in a region that draws its order. -/
variable {α : Type} {E : Enc α}
theorem RBuf.shift {B : Nat} {w w' : World} {v : Value} {l : List α} {r : Option Nat} (h : RBuf E B w w v l) (hg : w.grownBy w' r) (hne : v.ownBlock = none ∨ v.ownBlock ≠ r) : RBuf E B w' w' v l :=
  ⟨h.own.kept hg hne, Below.refl _ _, Nat.le_trans h.le hg.size⟩
theorem RBuf.lower {B B0 : Nat} {w : World} {v : Value} {l : List α} (h : RBuf E B w w v l) (hB : B0 ≤ B) : RBuf E B0 w w v l := h.down (Below.refl _ _) hB
theorem run_append_rows {w : World} (ty : TypeId) (B : Nat) (v : Value) (l : List α) (hb : RBuf E B w w v l) (Bx : Nat) (vx : Value) (m : List α) (hx : RBuf E Bx w w vx m)
    (hlen : (l.length + m.length) * (E.bytes + 1) ≤ 140737488355328) :
    ∃ v' w', (Builtin.append_ #[E.sty, E.sty] ty #[v, vx]).run Tryz.prog w = .ok v' w' ∧ RBuf E B w' w' v' (l ++ m) ∧ w.grownBy w' v.ownBlock ∧ (v'.ownBlock = v.ownBlock ∨ v'.ownBlock = some w.heap.size) := by
  obtain ⟨i0, hi, hz0, hz1, hz2⟩ := info_parts E.info; have e0 : (l.length + m.length) * (E.bytes + 1) = (l.length + m.length) * E.bytes + (l.length + m.length) := Nat.mul_succ _ _; rcases hx.own.2 with ⟨rfl, h0⟩ | ⟨g, cap, cur, rfl, hg, hh, hnc, hcp, hcs, htake⟩
  · obtain rfl := List.length_eq_zero_iff.1 h0
    refine ⟨v, w, run_append_owned_none (P := Tryz.prog) w B E.sty ty E.ty i0 E.sz E.und hi v l.length (E.row l) hb.own, by simpa using hb, World.grownBy.refl _ _, .inl rfl⟩
  · obtain ⟨v', w', h1, h2, h3, _, h5⟩ := run_append_own_at (P := Tryz.prog) w B E.sty ty E.ty i0 E.zero E.sz E.bytes E.und hi hz0 hz1 hz2 E.zc E.pos v l.length (E.row l) hb.own ⟨g, 0, none⟩ m.length cap (E.row m) (E.row_length m)
      (fun j u hu => by
        have hjl : j < m.length * E.sz := by have := (List.getElem?_eq_some_iff.1 hu).1; rwa [E.row_length] at this
        rw [Addr.add_lit, Nat.zero_add, hx.own.cellAt j hjl]; exact hu) (E.row_one' m) (by unfold maxLen; omega) (by omega) hb.le
    refine ⟨v', w', h1, ⟨?_, Below.refl _ _, Nat.le_trans hb.le h3.size⟩, h3, h5⟩; rw [List.length_append, E.row_append]; exact h2
theorem wp_append_rows {w : World} {o : Oper} {a : Act} {K : Act → World → Prop} {Q : Exit → Act → World → Prop} (s x : Operand) (E : Enc α)
    (ho : o.op = .call { callee := .builtin .append, args := #[s, x], argTypes := #[E.sty, E.sty] })
    (B : Nat) (v : Value) (l : List α) (hs : a.eval s = v) (hb : RBuf E B w w v l) (Bx : Nat) (vx : Value) (m : List α) (hxv : a.eval x = vx) (hx : RBuf E Bx w w vx m)
    (hlen : (l.length + m.length) * (E.bytes + 1) ≤ 140737488355328)
    (h : ∀ v' w', RBuf E B w' w' v' (l ++ m) → w.grownBy w' v.ownBlock → (v'.ownBlock = v.ownBlock ∨ v'.ownBlock = some w.heap.size) → K (a.put o.dst v') w') : o.wp Tryz.prog a w K Q := by
  obtain ⟨v', w', hr, h2, h3, h4⟩ := run_append_rows o.type B v l hb Bx vx m hx hlen; unfold Oper.wp execOp; simp only [ho, resolve, invoke, builtin, Sem.run_bind, Sem.run_pure, Result.andThen_ok, List.map_toArray, List.map_cons, List.map_nil, hs, hxv, hr]; exact h v' w' h2 h3 h4
theorem wpList_append_rows {w : World} {ops : Array Oper} {rest : List Oper} {o : Oper} {a : Act} {Q : Exit → Act → World → Prop} (hgd : o.guard = none) (s x : Operand) (E : Enc α)
    (ho : o.op = .call { callee := .builtin .append, args := #[s, x], argTypes := #[E.sty, E.sty] })
    (B : Nat) (v : Value) (l : List α) (hs : a.eval s = v) (hb : RBuf E B w w v l) (Bx : Nat) (vx : Value) (m : List α) (hxv : a.eval x = vx) (hx : RBuf E Bx w w vx m)
    (hlen : (l.length + m.length) * (E.bytes + 1) ≤ 140737488355328)
    (h : ∀ v' w', RBuf E B w' w' v' (l ++ m) → w.grownBy w' v.ownBlock → (v'.ownBlock = v.ownBlock ∨ v'.ownBlock = some w.heap.size) → wpList Tryz.prog ops Q rest (a.put o.dst v') w') : wpList Tryz.prog ops Q (o :: rest) a w :=
  wpList_plain hgd fun _ hK => wp_append_rows s x E ho B v l hs hb Bx vx m hxv hx hlen fun v' w' h2 h3 h4 => hK _ _ (h v' w' h2 h3 h4)
theorem step_append_rows {w : World} {ops : Array Oper} {o : Oper} {a : Act} {K : Act → World → Prop} {Q : Exit → Act → World → Prop} {X : Prop} (hgd : o.guard = none) (s x : Operand) (E : Enc α)
    (ho : o.op = .call { callee := .builtin .append, args := #[s, x], argTypes := #[E.sty, E.sty] })
    (B : Nat) (v : Value) (l : List α) (hs : a.eval s = v) (hb : RBuf E B w w v l) (Bx : Nat) (vx : Value) (m : List α) (hxv : a.eval x = vx) (hx : RBuf E Bx w w vx m)
    (hlen : (l.length + m.length) * (E.bytes + 1) ≤ 140737488355328)
    (h : ∀ v' w', RBuf E B w' w' v' (l ++ m) → w.grownBy w' v.ownBlock → (v'.ownBlock = v.ownBlock ∨ v'.ownBlock = some w.heap.size) → (∀ k, v.ownBlock = some k → B ≤ k ∧ k < w.heap.size) → K (a.put o.dst v') w') :
    if Region.wanted o (yielded ops a.tmps) = true then Oper.wp Tryz.prog o a w K Q else X := by
  have hw : Region.wanted o (yielded ops a.tmps) = true := by simp [Region.wanted, hgd]
  rw [if_pos hw]; exact wp_append_rows s x E ho B v l hs hb Bx vx m hxv hx hlen fun v' w' h2 h3 h4 => h v' w' h2 h3 h4 (fun k hk => hb.own.lt k hk)
theorem RBuf.lit1 (E : Enc α) (w : World) (x : α) : RBuf E w.heap.size (w.alloc (.cells (E.f x).toArray E.ty)) (w.alloc (.cells (E.f x).toArray E.ty)) (.slice (some ⟨w.heap.size, 0, none⟩) 1 1) [x] := by
  refine ⟨?_, Below.refl _ _, by simp⟩; have := World.ownsRow_lit (base := w.heap.size) (e := E.ty) (size := E.sz) w (E.f x).toArray 1 (Nat.le_refl _) (by decide) (by simp [E.len]); simpa [E.row_one] using this
end Go.Proofs.YtklkhllkjnbhjaaGreatDoor
