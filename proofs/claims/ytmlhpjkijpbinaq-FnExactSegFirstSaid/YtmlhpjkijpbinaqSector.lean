/- Sectors as arrays of bytes: sectorOf, text, sectorOk. -/
import Derived.Test.YtmlhpjkijpbinaqKit2
import Derived.Test.YtmlhpjkijpbinaqKitO
import Derived.Laws.CopyOwn
import Derived.Laws.Rows
import Derived.Laws.Tables
import Derived.Deep.MidRow
import Derived.Deep.RegionHeld3
import Derived.Laws.StructEq
import Derived.Lib.Hide
namespace Go.Proofs.Ytmlhpjkijpbinaq
open Go.RowKit

theorem bytesV_one (l : List UInt8) : ∀ v ∈ bytesV l, v.oneCell' = true := by
  intro v hv
  simp only [bytesV, List.mem_map] at hv
  obtain ⟨b, _, rfl⟩ := hv
  rfl

theorem grownBy_setRow (w : World) (g : Nat) (cs : Array Value) : w.grownBy (w.setRow g cs) (some g) :=
  ⟨rfl, rfl, rfl, by simp [World.setRow], fun k _ hk => setRow_other w g k cs (fun e => hk (by simp [e]))⟩

/-- copy(dst, t), t a text of whatever length, dst in a row of bytes that is known whole. -/
theorem run_copy_text {P : Program} (w : World) (dT sT ty elem : TypeId) (g o dLen dCap : Nat) (s : ByteArray) (l : List UInt8) (t : TypeId)
    (hu : P.underlying dT = some (.slice elem)) (hs : (P.info? elem).map (·.size) = some 1) (hg : Box w g (bytesV l).toArray t) (hfit : o + dLen ≤ l.length) :
    ∃ w', (Builtin.copy_ #[dT, sT] ty #[.slice (some ⟨g, o, none⟩) dLen dCap, .string s]).run P w = .ok (.int .i64 ((Nat.min s.size dLen : Nat) : Int)) w' ∧ Box w' g (bytesV (splice l o (s.data.toList.take dLen))).toArray t ∧ w.grownBy w' (some g) := by
  have hsz : s.data.toList.length = s.size := by rw [Array.length_toList]; rfl
  have hml : Nat.min s.size dLen ≤ dLen := Nat.min_le_right _ _
  have htl : (s.data.toList.take (Nat.min s.size dLen)) = s.data.toList.take dLen := by
    rcases Nat.le_total s.size dLen with h | h
    · rw [show Nat.min s.size dLen = s.size from Nat.min_eq_left h, List.take_of_length_le (by omega), List.take_of_length_le (by omega)]
    · rw [show Nat.min s.size dLen = dLen from Nat.min_eq_right h]
  have hlen : (bytesV (s.data.toList.take (Nat.min s.size dLen))).length = Nat.min s.size dLen := by
    rw [bytesV_length, List.length_take, hsz]; exact Nat.min_eq_left (Nat.min_le_left _ _)
  have hst := run_storeCells_at P g o t (bytesV (s.data.toList.take (Nat.min s.size dLen))) 0 (bytesV l).toArray w hg (by rw [hlen]; simp [bytesV_length]; omega) (bytesV_one _)
  refine ⟨_, ?_, ?_, grownBy_setRow w g ((bytesV l).toArray.toList.take (o + 0) ++ bytesV (s.data.toList.take (Nat.min s.size dLen)) ++ (bytesV l).toArray.toList.drop (o + 0 + (bytesV (s.data.toList.take (Nat.min s.size dLen))).length)).toArray⟩
  · cases hq : P.info? elem with
    | none => simp [hq] at hs
    | some i =>
      have hmap : List.take (Nat.min s.size dLen) (List.map (fun b : UInt8 => Value.int IntKind.u8 (b.toNat : Int)) s.data.toList) = bytesV (s.data.toList.take (Nat.min s.size dLen)) := by rw [bytesV, List.map_take]
      simp [Builtin.copy_, run_underlying hu, Builtin.lenOf, Builtin.firstCells, sizeOf, typeInfo, hq]
      rw [hmap, hst]
      simp [Result.andThen, goInt]
  · have := setRow_heap w g _ ((bytesV l).toArray.toList.take (o + 0) ++ bytesV (s.data.toList.take (Nat.min s.size dLen)) ++ (bytesV l).toArray.toList.drop (o + 0 + (bytesV (s.data.toList.take (Nat.min s.size dLen))).length)).toArray t _ hg
    unfold Box
    rw [this]
    congr 3
    rw [htl]
    simp [bytesV, splice]

set_option maxRecDepth 100000 in
theorem upon_copy_text {w : World} {a : Act} {K : Act → World → Prop} {Q : Exit → Act → World → Prop} {o : Oper} (dT sT ty elem : TypeId) (g off dLen dCap : Nat) (t : ByteArray) (l : List UInt8) (T : TypeId)
    (hu : Try.prog.underlying dT = some (.slice elem)) (hsz : (Try.prog.info? elem).map (·.size) = some 1) (hg : Box w g (bytesV l).toArray T) (hfit : off + dLen ≤ l.length)
    (h : ∀ w', Box w' g (bytesV (splice l off (t.data.toList.take dLen))).toArray T → w.grownBy w' (some g) → Oper.upon Try.prog o a K Q (.ok (.value (.int .i64 ((Nat.min t.size dLen : Nat) : Int))) w')) :
    Oper.upon Try.prog o a K Q ((Sem.run Try.prog (Builtin.copy_ #[dT, sT] ty #[.slice (some ⟨g, off, none⟩) dLen dCap, .string t]) w).andThen fun v w' => .ok (.value v) w') := by
  obtain ⟨w', hrun, hb, hgr⟩ := run_copy_text (P := Try.prog) w dT sT ty elem g off dLen dCap t l T hu hsz hg hfit
  rw [hrun]
  exact h w' hb hgr

theorem two_boxes (w : World) (c0 c1 : Array Value) (t0 t1 : TypeId) : Box ((w.alloc (.cells c0 t0)).alloc (.cells c1 t1)) w.heap.size c0 t0 ∧ Box ((w.alloc (.cells c0 t0)).alloc (.cells c1 t1)) (w.heap.size + 1) c1 t1 ∧
    Below w.heap.size w ((w.alloc (.cells c0 t0)).alloc (.cells c1 t1)) ∧ ((w.alloc (.cells c0 t0)).alloc (.cells c1 t1)).heap.size = w.heap.size + 2 := by
  have e1 : (w.alloc (.cells c0 t0)).heap.size = w.heap.size + 1 := by simp
  have q0 := Box.new w c0 t0
  have q1 := Box.new (w.alloc (.cells c0 t0)) c1 t1
  rw [e1] at q1
  exact ⟨q0.later ((Below.refl _ _).alloc (Nat.le_refl _) _), q1, ((Below.refl _ _).alloc (Nat.le_refl _) _).alloc (by simp) _, by simp⟩

/-- A sector: 32 bytes. -/
abbrev Sec := { l : List UInt8 // l.length = 32 }
def Sec.v (s : Sec) : Value := .agg (bytesV s.1).toArray

theorem Sec.size (s : Sec) : (bytesV s.1).toArray.size = 32 := by simp [bytesV_length, s.2]
theorem Sec.one (s : Sec) : (bytesV s.1).toArray.all (·.oneCell') = true := all_oneCell_toArray (bytesV_one _)


/-- A text cut or filled up to a sector. -/
def secL (t : ByteArray) : List UInt8 := splice (List.replicate 32 0) 0 (t.data.toList.take 32)
theorem secL_length (t : ByteArray) : (secL t).length = 32 := by
  rw [secL, length_splice]
  · exact List.length_replicate
  · rw [List.length_replicate, List.length_take]; omega

/-- A sector of bytes 0. -/
def z32 : Array Value := (bytesV (List.replicate 32 0)).toArray
theorem z32_eq : (#[.int .u8 0, .int .u8 0, .int .u8 0, .int .u8 0, .int .u8 0, .int .u8 0, .int .u8 0, .int .u8 0, .int .u8 0, .int .u8 0, .int .u8 0, .int .u8 0, .int .u8 0, .int .u8 0, .int .u8 0, .int .u8 0, .int .u8 0, .int .u8 0, .int .u8 0, .int .u8 0, .int .u8 0, .int .u8 0, .int .u8 0, .int .u8 0, .int .u8 0, .int .u8 0, .int .u8 0, .int .u8 0, .int .u8 0, .int .u8 0, .int .u8 0, .int .u8 0] : Array Value) = z32 := rfl

def secOf (t : ByteArray) : Sec := ⟨secL t, secL_length t⟩



theorem secL_of {t : ByteArray} (h : t.size = 32) : (⟨(secL t).toArray⟩ : ByteArray) = t := by
  have hl : t.data.toList.length = 32 := by rw [Array.length_toList]; exact h
  have : secL t = t.data.toList := by
    unfold secL splice
    rw [List.take_of_length_le (l := t.data.toList) (by omega), hl]
    simp
  rw [this]
theorem secL_ne {t : ByteArray} (h : ¬ t.size = 32) : (⟨(secL t).toArray⟩ : ByteArray) ≠ t := by
  intro e
  apply h
  rw [← e]
  show (secL t).toArray.size = 32
  rw [List.size_toArray, secL_length]

theorem texts_beq (a b : ByteArray) : (a.toList == b.toList) = decide (a = b) := by
  by_cases h : a = b
  · subst h; simp
  · rw [decide_eq_false h]
    refine beq_eq_false_iff_ne.2 fun e => h ?_
    rw [Go.ByteArray.toList_eq, Go.ByteArray.toList_eq] at e
    obtain ⟨⟨x⟩⟩ := a
    obtain ⟨⟨y⟩⟩ := b
    simp at e
    rw [e]