/- Lines: lineOf of the program: the bytes of the first line over a channel that is closed. -/
import Derived.Deep.Cut
import Derived.Conc.SmallLaws
import Derived.Test.YtichbcpidkkblaaChan
import Derived.Test.YtichbcpidkkblaaLinQ
import Derived.Test.YtichbcpidkkblaaPlainBa
namespace Go.Proofs.Ytichbcpidkkblaa
open Go.RowKit Go.Conc

theorem crAt_of (s : ByteArray) (i : Nat) : CrAt s i ↔ s.data.toList[i]? = some 13 ∧ s.data.toList[i + 1]? = some 10 := by
  have h := crAt_list (l := s.data.toList) (i := i)
  exact h

theorem crAt_extract {s : ByteArray} {i : Nat} : CrAt (s.extract i s.size) 0 ↔ CrAt s i := by
  rw [crAt_of, crAt_of, extract_data]
  simp only [List.getElem?_take, List.getElem?_drop, Nat.add_zero, Nat.zero_add]
  constructor
  · rintro ⟨h1, h2⟩
    rw [Option.ite_none_right_eq_some] at h1 h2
    exact ⟨h1.2, h2.2⟩
  · rintro ⟨h1, h2⟩
    have l1 := (List.getElem?_eq_some_iff.1 h2).1
    rw [ba_len] at l1
    rw [if_pos (by omega), if_pos (by omega)]
    exact ⟨h1, h2⟩

theorem take2 {s : ByteArray} (h : 2 ≤ s.size) : ((s.extract 0 2).toList == [13, 10]) = true ↔ CrAt s 0 := by
  rw [crAt_of, Go.Lib.toList_data, extract_data, beq_iff_eq]
  have hl : s.data.toList.length = s.size := ba_len s
  match hm : s.data.toList, hl with
  | [], hl => simp at hl; omega
  | [_], hl => simp at hl; omega
  | x :: y :: r, _ => simp

set_option maxHeartbeats 1000000 in
set_option maxRecDepth 100000 in
theorem hasCrlf (s : ByteArray) (w : World) :
    Calls Try.prog 39 #[.string s, .string { data := #[13, 10] }] w fun e w' => ∃ t : Bool, e = .returned (.bool t) ∧ (t = true ↔ CrAt s 0) ∧ w' = w := by
  go_enter Try.func39, Try.ntmps39
  go_wp2
  · rename_i h
    go_ret
    exact ⟨_, rfl, take2 (by omega), rfl⟩
  · rename_i h
    go_ret
    exact .inl ⟨rfl, fun ⟨h1, _⟩ => by omega, rfl⟩

theorem mkLine (w : World) (n : Nat) (h : n ≤ 1000) : (Instr.makeChan 61 (.int .i64 (n : Int))).run Try.prog w = .ok (.chan (some w.heap.size)) (w.alloc (.chan n #[] false 0 0 false)) := by
  have hb : (Try.prog.info? 5).map (·.bytes) = some 1 := by kernel_rfl
  obtain ⟨i, hi, hb⟩ := Option.map_eq_some_iff.1 hb
  exact run_makeChan (P := Try.prog) (w := w) Try.underlying61 hi .i64 n (by omega) (by rw [hb]; omega)

/-- A channel that holds these bytes. -/
def ChHas (w : World) (c cap : Nat) (l : List UInt8) (closed : Bool) (s r : Nat) : Prop := w.heap[c]? = some (.chan cap (l.map fun b => Value.int .u8 (b.toNat : Int)).toArray closed s r false)

theorem ChHas.shut {w w0 : World} {c cap s r : Nat} {l : List UInt8} {cl : Bool} (_h : ChHas w c cap l cl s r) (hz : w.heap.size = c + 1) (hb : Below c w0 w) :
    ChHas { w with heap := w.heap.setIfInBounds c (.chan cap (l.map fun b => Value.int .u8 (b.toNat : Int)).toArray true s r false) } c cap l true s r ∧ ({ w with heap := w.heap.setIfInBounds c (.chan cap (l.map fun b => Value.int .u8 (b.toNat : Int)).toArray true s r false) } : World).heap.size = c + 1 ∧ Below c w0 { w with heap := w.heap.setIfInBounds c (.chan cap (l.map fun b => Value.int .u8 (b.toNat : Int)).toArray true s r false) } := by
  refine ⟨?_, by simp [hz], hb.trans ⟨rfl, rfl, rfl, by simp, fun k hk => Array.getElem?_setIfInBounds_ne (by omega)⟩⟩
  show (w.heap.setIfInBounds c _)[c]? = _
  rw [Array.getElem?_setIfInBounds_self, if_pos (by omega)]

theorem ChHas.sent {w w0 : World} {c cap i : Nat} {l : List UInt8} (_h : ChHas w c cap (l.take i) false i 0) (hi : i < l.length) (hz : w.heap.size = c + 1) (hb : Below c w0 w) :
    ChHas (w.setChan c cap (((l.take i).map fun b => Value.int .u8 (b.toNat : Int)).toArray.push (.int .u8 (l[i].toNat : Int))) false (i + 1) 0 false) c cap (l.take (i + 1)) false (i + 1) 0 ∧ (w.setChan c cap (((l.take i).map fun b => Value.int .u8 (b.toNat : Int)).toArray.push (.int .u8 (l[i].toNat : Int))) false (i + 1) 0 false).heap.size = c + 1 ∧ Below c w0 (w.setChan c cap (((l.take i).map fun b => Value.int .u8 (b.toNat : Int)).toArray.push (.int .u8 (l[i].toNat : Int))) false (i + 1) 0 false) := by
  refine ⟨?_, by rw [size_setChan]; exact hz, below_setChan hb (Nat.le_refl _) _ _ _ _ _ _⟩
  unfold ChHas
  rw [heap_setChan _ _ _ _ _ _ _ _ (by omega), List.take_succ_eq_append_getElem hi, List.map_append, List.push_toArray]
  rfl

set_option maxHeartbeats 1000000 in
set_option maxRecDepth 100000 in
theorem lineOf_any (s : ByteArray) (w : World) (hs : s.size ≤ 82) :
    Calls Try.prog 25 #[.string s] w fun e w' => ∃ m, m ≤ s.size ∧ (m < s.size → CrAt s m) ∧ (∀ j, j < m → ¬ CrAt s j) ∧ e = .returned (.chan (some w.heap.size)) ∧ ChHas w' w.heap.size s.size (s.data.toList.take m) true m 0 ∧ w'.heap.size = w.heap.size + 1 ∧ Below w.heap.size w w' := by
  have hmk := fun wx => mkLine wx s.size (by omega)
  refine calls_of_wp_closing Try.func25 rfl ?_
  simp only [Try.ntmps25, List.size_toArray, List.length_cons, List.length_nil, Nat.reduceAdd, Nat.reduceSub, Array.replicate_succ, Array.replicate_zero, List.push_toArray, List.append_toArray, List.nil_append, List.cons_append]
  obtain ⟨n, hn⟩ : ∃ n, s.size = n := ⟨_, rfl⟩
  have HN := Lib.hid hn
  rw [hn] at hmk hs ⊢
  obtain ⟨g, hg⟩ : ∃ g, w.heap.size = g := ⟨_, rfl⟩
  have HG := Lib.hid hg
  have HCL : Hid (∀ (wx : World) (l : List UInt8) (m : Nat), ChHas wx g n l false m 0 →
      (invoke (Target.builtin Builtin.close #[61] 0 #[false]) #[.chan (some g)]).run Try.prog wx = .ok (.value (.tuple #[])) { wx with heap := wx.heap.setIfInBounds g (.chan n (l.map fun b => Value.int .u8 (b.toNat : Int)).toArray true m 0 false) }) := by
    intro wx l m h
    have := run_close_open (P := Try.prog) (w := wx) #[61] 0 h
    simp [go_sem, this]
  go_wp2
  clear hmk
  have hch0 : ChHas (w.alloc (.chan n #[] false 0 0 false)) w.heap.size n (s.data.toList.take 0) false 0 0 := by
    show (w.alloc (.chan n #[] false 0 0 false)).heap[w.heap.size]? = _
    rw [heap_alloc_new]
    rfl
  have hb0 : Below w.heap.size w (w.alloc (.chan n #[] false 0 0 false)) := (Below.refl _ _).alloc (Nat.le_refl _) _
  have hz0 : (w.alloc (.chan n #[] false 0 0 false)).heap.size = w.heap.size + 1 := by simp
  rw [hg] at hch0 hb0 hz0
  go_loopw [11] (fun iv wr => ∃ i : Nat, i ≤ n ∧ iv = .int .i64 (i : Int) ∧ (∀ j, j < i → ¬ CrAt s j) ∧ ChHas wr g n (s.data.toList.take i) false i 0 ∧ wr.heap.size = g + 1 ∧ Below g w wr) (fun iv _ => n - (intOf iv).toNat)
  case atStart => exact ⟨0, by omega, rfl, fun j hj => by omega, hch0, hz0, hb0⟩
  case round =>
    obtain ⟨i, hi, rfl, hN, hC, hz, hB⟩ := hrel
    have HC := Lib.hid hC
    have HB := Lib.hid hB
    have HZ := Lib.hid hz
    have HNO := Lib.hid hN
    clear hC hB hz hN hch0 hb0 hz0
    by_cases hlt : i < n
    · have hi0 : (0 : Int) ≤ (i : Int) := by omega
      have hi1 : (i : Int) < (n : Int) := by omega
      have hi2 : (i : Int) ≤ (n : Int) := by omega
      go_upto_region 7 with (go_at_call 39; refine (hasCrlf _ _).mono ?_; rintro e w1 ⟨t, rfl, ht, rfl⟩)
      · rename_i hc
        have hcr : CrAt s i := crAt_extract.1 (by rw [hn]; exact ht.1 hc)
        obtain ⟨p1, p2, p3⟩ := HC.out.shut HZ.out HB.out
        refine ⟨_, _, _, _, _, _, _, rfl, rfl, HCL.out _ _ i HC.out, _, results_tmp rfl _ _ _, i, by omega, fun _ => hcr, HNO.out, ?_⟩
        rw [hg]
        exact ⟨rfl, p1, p2, p3⟩
      · rename_i hc
        have hcr : ¬ CrAt s i := fun h => by
          have h2 := crAt_extract.2 h
          rw [hn] at h2
          rw [hc] at ht
          exact absurd (ht.2 h2) (by decide)
        have hil : i < s.data.toList.length := by rw [ba_len, hn]; exact hlt
        have x1 : ∀ wx, (Instr.index 9 (.string s) (.int .i64 (i : Int))).run Try.prog wx = .ok (.int .u8 (s.data.toList[i].toNat : Int)) wx := fun wx => index_atW s i (by omega) wx
        have hcap : ((s.data.toList.take i).map fun b => Value.int .u8 (b.toNat : Int)).toArray.size < n := by
          rw [List.size_toArray, List.length_map, List.length_take]; omega
        obtain ⟨p1, p2, p3⟩ := HC.out.sent hil HZ.out HB.out
        refine wp_region_at ?_
        show OpsAt _ _ _ [0, 1, 2, 3, 4] _ _
        refine OpsAt.value (v := .chan (some g)) (w' := w1) rfl rfl (by simp [go_sem]) ?_
        refine OpsAt.value (v := .string s) (w' := w1) rfl rfl (by simp [go_sem]) ?_
        refine OpsAt.value (v := .int .i64 (i : Int)) (w' := w1) rfl rfl (by simp [go_sem]) ?_
        refine OpsAt.value (v := .int .u8 (s.data.toList[i].toNat : Int)) (w' := w1) rfl rfl (by simp [go_sem, x1]) ?_
        refine OpsAt.send (c := g) (v := .int .u8 (s.data.toList[i].toNat : Int)) (w' := w1) rfl rfl (by simp [go_sem, scase]; rfl) HC.out hcap ?_
        generalize w1.setChan g n _ false (i + 1) 0 false = w2 at *
        refine OpsAt.nil ?_
        walk_nrm
        have P1 := Lib.hid p1
        have P2 := Lib.hid p2
        have P3 := Lib.hid p3
        have HNN : Hid (∀ j, j < i + 1 → ¬ CrAt s j) := fun j hj => by
          by_cases c : j = i
          · subst c; exact hcr
          · exact HNO.out j (by omega)
        have hw1 : IntKind.i64.wrap ((i : Int) + 1) = (i : Int) + 1 := IntWalk.i64_in _ ⟨by omega, by omega⟩
        clear p1 p2 p3 hcap x1 hcr ht
        go_wp2
        go_roundw
        case rel => exact ⟨i + 1, by omega, by go_num, HNN.out, P1.out, P2.out, P3.out⟩
        case measure => simp [intOf]; omega
    · have e : i = n := by omega
      subst e
      go_wp2
      obtain ⟨p1, p2, p3⟩ := HC.out.shut HZ.out HB.out
      refine ⟨_, _, _, _, _, _, _, rfl, rfl, HCL.out _ _ _ HC.out, _, results_tmp rfl _ _ _, _, Nat.le_refl _, fun h => by omega, HNO.out, ?_⟩
      rw [hg]
      exact ⟨rfl, p1, p2, p3⟩

end Go.Proofs.Ytichbcpidkkblaa
