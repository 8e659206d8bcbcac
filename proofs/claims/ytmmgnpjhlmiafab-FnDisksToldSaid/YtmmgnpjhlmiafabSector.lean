/- Sectors as arrays of bytes: sectorOf, text, sectorOk. -/
import Derived.Test.YtmmgnpjhlmiafabKit2
import Derived.Test.YtmmgnpjhlmiafabKitO
import Derived.Laws.CopyOwn
import Derived.Laws.Rows
import Derived.Laws.Tables
import Derived.Deep.MidRow
import Derived.Deep.RegionHeld3
import Derived.Laws.StructEq
import Derived.Lib.Hide
namespace Go.Proofs.Ytmmgnpjhlmiafab
open Go.RowKit

theorem bytesV_one (l : List UInt8) : ∀ v ∈ bytesV l, v.oneCell' = true := by
  intro v hv
  simp only [bytesV, List.mem_map] at hv
  obtain ⟨b, _, rfl⟩ := hv
  rfl

theorem grownBy_setRow (w : World) (g : Nat) (cs : Array Value) : w.grownBy (w.setRow g cs) (some g) :=
  ⟨rfl, rfl, rfl, by simp [World.setRow], fun k _ hk => setRow_other w g k cs (fun e => hk (by simp [e]))⟩

/-- copy(dst, t), t a text of whatever length, dst in a row of bytes that is known whole. -/
theorem run_copy_text {P : Program} (w : World) (dT sT ty elem : TypeId) (g o dLen dCap : Nat) (s : ByteArray) (l : List UInt8) (t : TypeId)
    (hu : P.underlying dT = some (.slice elem)) (hs : (P.info? elem).map (·.size) = some 1) (hg : Box w g (bytesV l).toArray t) (hfit : o + dLen ≤ l.length) :
    ∃ w', (Builtin.copy_ #[dT, sT] ty #[.slice (some ⟨g, o, none⟩) dLen dCap, .string s]).run P w = .ok (.int .i64 ((Nat.min s.size dLen : Nat) : Int)) w' ∧ Box w' g (bytesV (splice l o (s.data.toList.take dLen))).toArray t ∧ w.grownBy w' (some g) := by
  have hsz : s.data.toList.length = s.size := by rw [Array.length_toList]; rfl
  have hml : Nat.min s.size dLen ≤ dLen := Nat.min_le_right _ _
  have htl : (s.data.toList.take (Nat.min s.size dLen)) = s.data.toList.take dLen := by
    rcases Nat.le_total s.size dLen with h | h
    · rw [show Nat.min s.size dLen = s.size from Nat.min_eq_left h, List.take_of_length_le (by omega), List.take_of_length_le (by omega)]
    · rw [show Nat.min s.size dLen = dLen from Nat.min_eq_right h]
  have hlen : (bytesV (s.data.toList.take (Nat.min s.size dLen))).length = Nat.min s.size dLen := by
    rw [bytesV_length, List.length_take, hsz]; exact Nat.min_eq_left (Nat.min_le_left _ _)
  have hst := run_storeCells_at P g o t (bytesV (s.data.toList.take (Nat.min s.size dLen))) 0 (bytesV l).toArray w hg (by rw [hlen]; simp [bytesV_length]; omega) (bytesV_one _)
  refine ⟨_, ?_, ?_, grownBy_setRow w g ((bytesV l).toArray.toList.take (o + 0) ++ bytesV (s.data.toList.take (Nat.min s.size dLen)) ++ (bytesV l).toArray.toList.drop (o + 0 + (bytesV (s.data.toList.take (Nat.min s.size dLen))).length)).toArray⟩
  · cases hq : P.info? elem with
    | none => simp [hq] at hs
    | some i =>
      have hmap : List.take (Nat.min s.size dLen) (List.map (fun b : UInt8 => Value.int IntKind.u8 (b.toNat : Int)) s.data.toList) = bytesV (s.data.toList.take (Nat.min s.size dLen)) := by rw [bytesV, List.map_take]
      simp [Builtin.copy_, run_underlying hu, Builtin.lenOf, Builtin.firstCells, sizeOf, typeInfo, hq]
      rw [hmap, hst]
      simp [Result.andThen, goInt]
  · have := setRow_heap w g _ ((bytesV l).toArray.toList.take (o + 0) ++ bytesV (s.data.toList.take (Nat.min s.size dLen)) ++ (bytesV l).toArray.toList.drop (o + 0 + (bytesV (s.data.toList.take (Nat.min s.size dLen))).length)).toArray t _ hg
    unfold Box
    rw [this]
    congr 3
    rw [htl]
    simp [bytesV, splice]

theorem upon_copy_text {w : World} {a : Act} {K : Act → World → Prop} {Q : Exit → Act → World → Prop} {o : Oper} (dT sT ty elem : TypeId) (g off dLen dCap : Nat) (t : ByteArray) (l : List UInt8) (T : TypeId)
    (hu : Try.prog.underlying dT = some (.slice elem)) (hsz : (Try.prog.info? elem).map (·.size) = some 1) (hg : Box w g (bytesV l).toArray T) (hfit : off + dLen ≤ l.length)
    (h : ∀ w', Box w' g (bytesV (splice l off (t.data.toList.take dLen))).toArray T → w.grownBy w' (some g) → Oper.upon Try.prog o a K Q (.ok (.value (.int .i64 ((Nat.min t.size dLen : Nat) : Int))) w')) :
    Oper.upon Try.prog o a K Q ((Sem.run Try.prog (Builtin.copy_ #[dT, sT] ty #[.slice (some ⟨g, off, none⟩) dLen dCap, .string t]) w).andThen fun v w' => .ok (.value v) w') := by
  obtain ⟨w', hrun, hb, hgr⟩ := run_copy_text (P := Try.prog) w dT sT ty elem g off dLen dCap t l T hu hsz hg hfit
  rw [hrun]
  exact h w' hb hgr

theorem two_boxes (w : World) (c0 c1 : Array Value) (t0 t1 : TypeId) : Box ((w.alloc (.cells c0 t0)).alloc (.cells c1 t1)) w.heap.size c0 t0 ∧ Box ((w.alloc (.cells c0 t0)).alloc (.cells c1 t1)) (w.heap.size + 1) c1 t1 ∧
    Below w.heap.size w ((w.alloc (.cells c0 t0)).alloc (.cells c1 t1)) ∧ ((w.alloc (.cells c0 t0)).alloc (.cells c1 t1)).heap.size = w.heap.size + 2 := by
  have e1 : (w.alloc (.cells c0 t0)).heap.size = w.heap.size + 1 := by simp
  have q0 := Box.new w c0 t0
  have q1 := Box.new (w.alloc (.cells c0 t0)) c1 t1
  rw [e1] at q1
  exact ⟨q0.later ((Below.refl _ _).alloc (Nat.le_refl _) _), q1, ((Below.refl _ _).alloc (Nat.le_refl _) _).alloc (by simp) _, by simp⟩

/-- A sector: 32 bytes. -/
abbrev Sec := { l : List UInt8 // l.length = 32 }
def Sec.v (s : Sec) : Value := .agg (bytesV s.1).toArray

theorem Sec.size (s : Sec) : (bytesV s.1).toArray.size = 32 := by simp [bytesV_length, s.2]
theorem Sec.one (s : Sec) : (bytesV s.1).toArray.all (·.oneCell') = true := all_oneCell_toArray (bytesV_one _)

theorem Try.secInfo : (Try.prog.info? 75).map (·.size) = some 32 := by kernel_rfl

theorem wpList_load_sec {w : World} {ops : Array Oper} {rest : List Oper} {o : Oper} {a : Act} {Q : Exit → Act → World → Prop} (hgd : o.guard = none) (x : Operand) (ho : o.op = .load 75 x) (g : Nat) (hx : a.eval x = .pointer (some ⟨g, 0, none⟩))
    (s : Sec) (t : TypeId) (hg : Box w g (bytesV s.1).toArray t) (h : wpList Try.prog ops Q rest (a.put o.dst s.v) w) : wpList Try.prog ops Q (o :: rest) a w :=
  wpList_load_row hgd _ x ho g hx t _ (0, 0) _ hg Try.underlying75 rfl (by rw [s.size]; exact Try.secInfo) h

theorem wpList_store_sec {w : World} {ops : Array Oper} {rest : List Oper} {o : Oper} {a : Act} {Q : Exit → Act → World → Prop} (hgd : o.guard = none) (x y : Operand) (ho : o.op = .store 75 x y) (g : Nat) (s : Sec) (hx : a.eval x = .pointer (some ⟨g, 0, none⟩)) (hy : a.eval y = s.v)
    (t : TypeId) (old : Array Value) (hg : Box w g old t) (hold : old.size = 32) (h : ∀ w', Box w' g (bytesV s.1).toArray t → w.grownBy w' (some g) → wpList Try.prog ops Q rest (a.put o.dst undef) w') : wpList Try.prog ops Q (o :: rest) a w :=
  wpList_store_row hgd _ x y ho g _ hx hy t old hg (by rw [s.size]; exact Try.secInfo) (by rw [s.size]; exact hold) s.one (h _ (setRow_heap _ _ _ _ _ _ hg) (grownBy_setRow _ _ _))

theorem result_sec {fn : Func} {p : Tmp} (h : fn.results = #[.cell p 75]) (tmps : Array Value) (w : World) (g : Nat) (t : TypeId) (s : Sec)
    (hp : tmps.getD p undef = .pointer (some ⟨g, 0, none⟩)) (hg : Box w g (bytesV s.1).toArray t) : (results fn tmps).run Try.prog w = .ok s.v w :=
  results_cell_row h tmps w g t _ (0, 0) _ hp hg Try.underlying75 rfl (by rw [s.size]; exact Try.secInfo)

theorem wpList_load_mid_sec {w : World} {ops : Array Oper} {rest : List Oper} {o : Oper} {a : Act} {Q : Exit → Act → World → Prop} (hgd : o.guard = none) (x : Operand) (ho : o.op = .load 75 x) (g off : Nat) (hx : a.eval x = .pointer (some ⟨g, off, none⟩))
    (s : Sec) (hg : w.rangeAt g off (bytesV s.1)) (h : wpList Try.prog ops Q rest (a.put o.dst s.v) w) : wpList Try.prog ops Q (o :: rest) a w :=
  wpList_load_mid hgd _ x ho g off hx _ _ hg Try.underlying75 rfl (by rw [bytesV_length, s.2]; exact Try.secInfo) h

/-- A text cut or filled up to a sector. -/
def secL (t : ByteArray) : List UInt8 := splice (List.replicate 32 0) 0 (t.data.toList.take 32)
theorem secL_length (t : ByteArray) : (secL t).length = 32 := by
  rw [secL, length_splice]
  · exact List.length_replicate
  · rw [List.length_replicate, List.length_take]; omega

/-- A sector of bytes 0. -/
def z32 : Array Value := (bytesV (List.replicate 32 0)).toArray
theorem z32_eq : (#[.int .u8 0, .int .u8 0, .int .u8 0, .int .u8 0, .int .u8 0, .int .u8 0, .int .u8 0, .int .u8 0, .int .u8 0, .int .u8 0, .int .u8 0, .int .u8 0, .int .u8 0, .int .u8 0, .int .u8 0, .int .u8 0, .int .u8 0, .int .u8 0, .int .u8 0, .int .u8 0, .int .u8 0, .int .u8 0, .int .u8 0, .int .u8 0, .int .u8 0, .int .u8 0, .int .u8 0, .int .u8 0, .int .u8 0, .int .u8 0, .int .u8 0, .int .u8 0] : Array Value) = z32 := rfl

def secOf (t : ByteArray) : Sec := ⟨secL t, secL_length t⟩

set_option maxRecDepth 100000 in
set_option maxHeartbeats 1000000 in
theorem sectorOf_any (t : ByteArray) (w : World) :
    Calls Try.prog 42 #[.string t] w fun e w' => e = .returned (secOf t).v ∧ Below w.heap.size w w' := by
  obtain ⟨x0, x1, b0, s0⟩ := two_boxes w z32 z32 75 75
  go_enter Try.func42, Try.ntmps42
  go_wp2_with fail
  rw [z32_eq]
  generalize (w.alloc (.cells z32 75)).alloc (.cells z32 75) = W at *
  refine upon_copy_text 22 9 3 5 (w.heap.size + 1) 0 32 32 t (List.replicate 32 0) 75 Try.underlying22 (by kernel_rfl) x1 (by simp) ?_
  intro w2 x2 g2
  have y0 : Box w2 w.heap.size z32 75 := (g2.block _ x0.lt (by simp)).trans x0
  have b2 := b0.grown g2 b0.size (fun k hk => by have := Option.some.inj hk; omega)
  have x2' : Box w2 (w.heap.size + 1) (bytesV (secOf t).1).toArray 75 := x2
  clear x2
  have hz : z32.size = 32 := rfl
  go_wp2_with (first | ((with_reducible refine wpList_load_sec rfl _ rfl (w.heap.size + 1) ?_ (secOf t) _ x2' ?_); exact rfl) | ((with_reducible refine wpList_store_sec rfl _ _ rfl w.heap.size (secOf t) ?_ ?_ _ _ y0 hz ?_); exact rfl; exact rfl; intro w3 x3 g3))
  refine bodyPost_ret (v := (secOf t).v) ?_ rfl ⟨rfl, ?_⟩
  · exact result_sec rfl _ _ _ _ _ rfl x3
  · exact b2.grown g3 b2.size (fun k hk => by have := Option.some.inj hk; omega)

set_option maxRecDepth 100000 in
theorem text_any (s : Sec) (w : World) :
    Calls Try.prog 41 #[s.v] w fun e w' => e = .returned (.string ⟨s.1.toArray⟩) ∧ Below w.heap.size w w' := by
  have hx := Box.new w (bytesV s.1).toArray 75
  have hc : ∀ j (hj : j < s.1.length), (w.alloc (.cells (bytesV s.1).toArray 75)).cell? ((⟨w.heap.size, 0, none⟩ : Addr).add j) = some (.int .u8 ((s.1[j]).toNat : Int)) := by
    intro j hj
    rw [Addr.add_lit, Nat.zero_add, hx.cell j (.int .u8 ((s.1[j]).toNat : Int)) (by simp [bytesV, hj])]
  have hrun := run_convert_bytes_back (P := Try.prog) (w.alloc (.cells (bytesV s.1).toArray 75)) 22 9 5 ⟨w.heap.size, 0, none⟩ 32 s.1 Try.underlying22 Try.underlying5 Try.underlying9 hc
  rw [s.2] at hrun
  unfold Sec.v
  go_enter Try.func41, Try.ntmps41
  go_wp2
  go_ret
  exact ⟨rfl, (Below.refl _ _).alloc (Nat.le_refl _) _⟩

theorem secL_of {t : ByteArray} (h : t.size = 32) : (⟨(secL t).toArray⟩ : ByteArray) = t := by
  have hl : t.data.toList.length = 32 := by rw [Array.length_toList]; exact h
  have : secL t = t.data.toList := by
    unfold secL splice
    rw [List.take_of_length_le (l := t.data.toList) (by omega), hl]
    simp
  rw [this]
theorem secL_ne {t : ByteArray} (h : ¬ t.size = 32) : (⟨(secL t).toArray⟩ : ByteArray) ≠ t := by
  intro e
  apply h
  rw [← e]
  show (secL t).toArray.size = 32
  rw [List.size_toArray, secL_length]

theorem texts_beq (a b : ByteArray) : (a.toList == b.toList) = decide (a = b) := by
  by_cases h : a = b
  · subst h; simp
  · rw [decide_eq_false h]
    refine beq_eq_false_iff_ne.2 fun e => h ?_
    rw [Go.ByteArray.toList_eq, Go.ByteArray.toList_eq] at e
    obtain ⟨⟨x⟩⟩ := a
    obtain ⟨⟨y⟩⟩ := b
    simp at e
    rw [e]

set_option maxRecDepth 100000 in
theorem sectorOk_any (t : ByteArray) (w : World) :
    Calls Try.prog 28 #[.string t] w fun e w' => e = .returned (.bool (decide (t.size = 32))) ∧ Below w.heap.size w w' := by
  obtain ⟨u, hu⟩ : ∃ u : ByteArray, (⟨(secOf t).1.toArray⟩ : ByteArray) = u := ⟨_, rfl⟩
  by_cases h : t.size = 32
  · have e1 : u = t := by rw [← hu]; exact secL_of h
    rw [decide_eq_true h]
    have HU := Lib.hid hu
    clear hu h
    subst e1
    go_enter Try.func28, Try.ntmps28
    go_wp2_with (first | (go_at_call 42; refine (sectorOf_any _ _).mono ?_; rintro e w1 ⟨rfl, b1⟩) | (go_at_call 41; refine (text_any _ _).mono ?_; rintro e w2 ⟨rfl, b2⟩; rw [HU.out]))
    go_ret
    exact ⟨rfl, b1.trans (b2.mono b1.size)⟩
  · have e1 : (u.toList == t.toList) = false := by rw [texts_beq, decide_eq_false]; rw [← hu]; exact secL_ne h
    rw [decide_eq_false h]
    have HU := Lib.hid hu
    clear hu h
    go_enter Try.func28, Try.ntmps28
    go_wp2_with (first | (go_at_call 42; refine (sectorOf_any _ _).mono ?_; rintro e w1 ⟨rfl, b1⟩) | (go_at_call 41; refine (text_any _ _).mono ?_; rintro e w2 ⟨rfl, b2⟩; rw [HU.out]))
    go_ret
    exact ⟨rfl, b1.trans (b2.mono b1.size)⟩

set_option maxRecDepth 100000 in
set_option maxHeartbeats 1000000 in
theorem okAmong_any (x : Wr) (n : Int) (w : World) :
    Calls Try.prog 29 #[.agg #[.int .i64 x.at_, .string x.text], .int .i64 n] w fun e w' => e = .returned (.bool (decide (0 ≤ x.at_ ∧ x.at_ < n ∧ x.text.size = 32))) ∧ Below w.heap.size w w' := by
  obtain ⟨a, t⟩ := x
  simp only
  obtain ⟨u, hu⟩ : ∃ u : ByteArray, (⟨(secOf t).1.toArray⟩ : ByteArray) = u := ⟨_, rfl⟩
  have HE : Hid (u = t ↔ t.size = 32) := ⟨fun e => by by_cases h : t.size = 32; exact h; exact absurd (hu.trans e) (secL_ne h), fun h => by rw [← hu]; exact secL_of h⟩
  have HU := Lib.hid hu
  clear hu
  have hx := Box.new w #[.int .i64 a, .string t] 49
  have b0 : Below w.heap.size w (w.alloc (.cells #[.int .i64 a, .string t] 49)) := (Below.refl _ _).alloc (Nat.le_refl _) _
  have c0 := hx.cell 0 _ rfl
  have c1 := hx.cell 1 _ rfl
  go_enter Try.func29, Try.ntmps29
  go_wp2
  generalize (w.alloc (.cells #[.int .i64 a, .string t] 49)) = W at *
  have hlt : w.heap.size < W.heap.size := hx.lt
  have HK0 : Hid (W.drew.cell? ⟨w.heap.size, 0, none⟩ = some (.int .i64 a) ∧ W.drew.cell? ⟨w.heap.size, 1, none⟩ = some (.string t) ∧ Below W.heap.size W W.drew) := ⟨c0, c1, (Below.refl _ _).drew⟩
  have HK1 : Hid (∀ (x y : World), (x.cell? ⟨w.heap.size, 0, none⟩ = some (.int .i64 a) ∧ x.cell? ⟨w.heap.size, 1, none⟩ = some (.string t) ∧ Below W.heap.size W x) → Below x.heap.size x y → (y.cell? ⟨w.heap.size, 0, none⟩ = some (.int .i64 a) ∧ y.cell? ⟨w.heap.size, 1, none⟩ = some (.string t) ∧ Below W.heap.size W y)) :=
    fun x y h hb => ⟨(hb.cell (p := ⟨w.heap.size, 0, none⟩) (World.block_lt_of_cell? _ _ h.1)).trans h.1, (hb.cell (p := ⟨w.heap.size, 1, none⟩) (World.block_lt_of_cell? _ _ h.2.1)).trans h.2.1, h.2.2.trans (hb.mono h.2.2.size)⟩
  have HK2 : Hid (∀ (x : World) (g : Nat) (y z : Value), W.heap.size ≤ g → (x.cell? ⟨w.heap.size, 0, none⟩ = some (.int .i64 a) ∧ x.cell? ⟨w.heap.size, 1, none⟩ = some (.string t) ∧ Below W.heap.size W x) → (((x.setCell ⟨g, 0, none⟩ y).setCell ⟨g, 1, none⟩ z).cell? ⟨w.heap.size, 0, none⟩ = some (.int .i64 a) ∧ ((x.setCell ⟨g, 0, none⟩ y).setCell ⟨g, 1, none⟩ z).cell? ⟨w.heap.size, 1, none⟩ = some (.string t) ∧ Below W.heap.size W ((x.setCell ⟨g, 0, none⟩ y).setCell ⟨g, 1, none⟩ z))) := by
    intro x g y z hg h
    refine ⟨?_, ?_, (h.2.2.setCell (p := ⟨g, 0, none⟩) hg y).setCell (p := ⟨g, 1, none⟩) hg z⟩
    · rw [World.cell?_setCell_other _ _ _ _ (by simp <;> omega), World.cell?_setCell_other _ _ _ _ (by simp <;> omega)]; exact h.1
    · rw [World.cell?_setCell_other _ _ _ _ (by simp <;> omega), World.cell?_setCell_other _ _ _ _ (by simp <;> omega)]; exact h.2.1
  clear hx
  go_region_held3 (fun x => x.cell? ⟨w.heap.size, 0, none⟩ = some (.int .i64 a) ∧ x.cell? ⟨w.heap.size, 1, none⟩ = some (.string t) ∧ Below W.heap.size W x)
    (first | exact HK0.out | exact HK1.out _ _ (by assumption) ((Below.refl _ _).alloc (Nat.le_refl _) _) | exact HK1.out _ _ (by assumption) k1 | exact HK1.out _ _ (by assumption) k2 | exact HK1.out _ _ hS2.out ((Below.refl _ _).alloc (Nat.le_refl _) _) | exact HK1.out _ _ hS1.out ((Below.refl _ _).alloc (Nat.le_refl _) _) | exact HK2.out _ _ _ _ (Nat.le_refl _) (by assumption) | exact HK2.out _ _ _ _ s1 (by assumption) | exact HK2.out _ _ _ _ s2 (by assumption))
    (first
      | (go_at_call 42; refine (sectorOf_any _ _).mono ?_; rintro e w1 ⟨rfl, k1⟩; have hS1 := Lib.hid (HK1.out _ _ (by assumption) k1); have s1 : W.heap.size ≤ w1.heap.size := hS1.out.2.2.size; try (have q1 : Box w1 W.heap.size #[.int .i64 0, .string ⟨#[]⟩] 49 := (show Box (W.alloc (.cells #[.int .i64 0, .string ⟨#[]⟩] 49)).drew W.heap.size #[.int .i64 0, .string ⟨#[]⟩] 49 from Box.new W _ _).later k1; have z0 := q1.cell 0 _ rfl; have z1 := q1.cell 1 _ rfl; have f0 := q1.loose 0; have f1 := q1.loose 1))
      | (go_at_call 41; refine (text_any _ _).mono ?_; rintro e w2 ⟨rfl, k2⟩; have hS2 := Lib.hid (HK1.out _ _ (by assumption) k2); have s2 : W.heap.size ≤ w2.heap.size := hS2.out.2.2.size; rw [HU.out]; (first | (have q2 : Box w2 w1.heap.size #[.int .i64 0, .string ⟨#[]⟩] 49 := (Box.new _ _ _).later k2; have z0 := q2.cell 0 _ rfl; have z1 := q2.cell 1 _ rfl; have f0 := q2.loose 0; have f1 := q2.loose 1) | (have q2 : Box w2 W.heap.size #[.int .i64 0, .string ⟨#[]⟩] 49 := q1.later k2; have z0 := q2.cell 0 _ rfl; have z1 := q2.cell 1 _ rfl; have f0 := q2.loose 0; have f1 := q2.loose 1) | skip)))
  all_goals
    rename_i hHeld
    obtain ⟨y0, y1, bX⟩ := hHeld
    have bF := Lib.hid (b0.trans (bX.mono b0.size))
    clear bX HK0 HK1 HK2 c0 c1
    by_cases h32 : t.size = 32
    · have e1 : (t.toList == u.toList) = true := by rw [texts_beq, decide_eq_true]; exact (HE.out.2 h32).symm
      by_cases ha : 0 ≤ a
      · have g1 : decide (a < n) = decide (0 ≤ a ∧ a < n ∧ t.size = 32) := by simp [ha, h32]
        have G1 := Lib.hid g1
        clear g1
        go_wp2
        go_ret
        exact ⟨congrArg (fun b => Ending.returned (.bool b)) G1.out, bF.out⟩
      · go_wp2
        go_ret
        exact ⟨by simp; omega, bF.out⟩
    · have e1 : (t.toList == u.toList) = false := by rw [texts_beq, decide_eq_false]; exact fun e => h32 (HE.out.1 e.symm)
      have G1 := Lib.hid (show decide (0 ≤ a ∧ a < n ∧ t.size = 32) = false from decide_eq_false (fun h => h32 h.2.2))
      go_wp2
      go_ret
      exact ⟨congrArg (fun b => Ending.returned (.bool b)) G1.out.symm, bF.out⟩
end Go.Proofs.Ytmmgnpjhlmiafab
