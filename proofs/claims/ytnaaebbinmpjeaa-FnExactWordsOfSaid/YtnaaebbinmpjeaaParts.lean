/- The parts of a line: what spec.PartsOf, impl.allPrinted, impl.cutAtBlanks and impl.PartsOf hand back. -/
import Derived.Test.YtnaaebbinmpjeaaPlainParts
import Derived.Test.YtnaaebbinmpjeaaKit2
import Derived.Test.YtnaaebbinmpjeaaKitS
import Derived.Test.YtnaaebbinmpjeaaClone
import Derived.WalkSpells
import Derived.WalkSmall
namespace Go.Proofs.Ytnaaebbinmpjeaa
open Go.RowKit

/-- What PartsOf hands back: the parts and true of a line, else nothing and false. -/
def PoT (s : ByteArray) (l : List ByteArray) (f : Bool) : Prop := (isLine s ∧ l = partsOf s ∧ f = true) ∨ (¬ isLine s ∧ l = [] ∧ f = false)

theorem slice_ab (s : ByteArray) (a b : Nat) (h1 : a ≤ b) (h2 : b ≤ s.size) (wx : World) :
    (Instr.slice 9 (.string s) (some (.int .i64 (a : Int))) (some (.int .i64 (b : Int))) none).run Try.prog wx = .ok (.string (s.extract a b)) wx := by
  have := run_slice_string (P := Try.prog) (w := wx) 9 s .i64 .i64 (a : Int) (b : Int) Try.underlying9 (by omega) (by omega) (by omega)
  rw [this]
  congr 3

set_option maxRecDepth 100000 in
set_option maxHeartbeats 1000000 in
theorem cutAtBlanks_any (s : ByteArray) (w : World) (hs : s.size ≤ 600) :
    Calls Try.prog 34 #[.string s] w fun e w' => ∃ v, e = .returned v ∧ SBuf w.heap.size w w' v (partsOf s) := by
  have hlen : s.data.toList.length = s.size := by simp
  have hst := SBuf.fresh w
  go_enter Try.func34, Try.ntmps34
  go_wp2
  go_loopw [3, 4, 10] (fun v fv iv wr => ∃ i f : Nat, i ≤ s.size + 1 ∧ iv = .int .i64 (i : Int) ∧ fv = .int .i64 (f : Int) ∧ f = (cutSt s.data.toList i).2 ∧ SBuf w.heap.size w wr v (cutTexts s i)) (fun _ _ iv _ => s.size + 1 - (intOf iv).toNat)
  case atStart => exact ⟨0, 0, by omega, rfl, rfl, rfl, hst⟩
  case round =>
    obtain ⟨i, f, hi, rfl, rfl, hf0, hb⟩ := hrel
    have hf : Hid (f = (cutSt s.data.toList i).2) := hf0
    have hfi : f ≤ i := by rw [hf0]; exact (cutSt_le _ _).1
    have hcl := cutTexts_len s i
    clear hf0
    by_cases hlt : i < s.size + 1
    · by_cases h1 : i < s.size ∧ ∀ h : i < s.size, s[i].toNat ≠ 32
      · obtain ⟨h2, h3⟩ := h1
        have h4 := h3 h2
        have hstep : Hid (cutSt s.data.toList (i + 1) = cutSt s.data.toList i) := cutSt_go (by omega) h4
        have h5 : ((s[i].toNat : Int) != 32) = true := by rw [bne_iff_ne]; omega
        clear h3 h4
        go_wp2
        go_roundw
        case rel => exact ⟨i + 1, f, by omega, by go_num, rfl, by rw [hstep.out]; exact hf.out, by rw [cutTexts, hstep.out]; exact hb⟩
        case measure => simp [intOf]; omega
      · have h3 : ∀ h : i < s.data.toList.length, s.data.toList[i].toNat = 32 := by
          intro h
          by_cases h4 : s.data.toList[i].toNat = 32
          · exact h4
          · exact absurd ⟨by omega, fun h' => h4⟩ h1
        have H3 : Hid (∀ h : i < s.data.toList.length, s.data.toList[i].toNat = 32) := h3
        clear h1 h3
        by_cases hfi2 : f < i
        · have hstep : Hid (cutSt s.data.toList (i + 1) = _) := cutSt_part H3.out (by rw [← hf.out]; exact hfi2)
          have hsl := slice_ab s f i (by omega) (by omega)
          have hsz : (s.extract f i).size ≤ 281474976710656 := by simp; omega
          have hnew : Hid (cutTexts s (i + 1) = cutTexts s i ++ [s.extract f i]) := by
            show cutTexts s (i + 1) = cutTexts s i ++ [s.extract f i]
            rw [cutTexts, hstep.out, ← hf.out]; simp [cutTexts]
          by_cases h6 : i < s.size
          · have h7 : ((s[i].toNat : Int) != 32) = false := by
              have h8 : s[i].toNat = 32 := H3.out (by omega)
              simp [h8]
            go_wp2_with (first | (go_at_call 22; refine (clone_any _ _ hsz).mono ?_; rintro e w1 ⟨rfl, hb1⟩) | (at_builtin; refine wpList_append_str rfl _ _ rfl _ _ _ rfl ((hb.later hb1).alloc _) ⟨w1.heap.size, 0, none⟩ (s.extract f i) rfl (cell_one_new _ _ _) ?c1 ?_))
            case c1 => omega
            intro v' w2 hb'
            go_wp2
            go_roundw
            case rel => exact ⟨i + 1, i + 1, by omega, by go_num, by go_num, by rw [hstep.out], by rw [hnew.out]; exact hb'⟩
            case measure => simp [intOf]; omega
          · go_wp2_with (first | (go_at_call 22; refine (clone_any _ _ hsz).mono ?_; rintro e w1 ⟨rfl, hb1⟩) | (at_builtin; refine wpList_append_str rfl _ _ rfl _ _ _ rfl ((hb.later hb1).alloc _) ⟨w1.heap.size, 0, none⟩ (s.extract f i) rfl (cell_one_new _ _ _) ?d1 ?_))
            case d1 => omega
            intro v' w2 hb'
            go_wp2
            go_roundw
            case rel => exact ⟨i + 1, i + 1, by omega, by go_num, by go_num, by rw [hstep.out], by rw [hnew.out]; exact hb'⟩
            case measure => simp [intOf]; omega
        · have hstep : Hid (cutSt s.data.toList (i + 1) = _) := cutSt_none H3.out (by rw [← hf.out]; exact hfi2)
          have hnew : Hid (cutTexts s (i + 1) = cutTexts s i) := by
            show cutTexts s (i + 1) = cutTexts s i
            rw [cutTexts, hstep.out]; simp [cutTexts]
          by_cases h6 : i < s.size
          · have h7 : ((s[i].toNat : Int) != 32) = false := by
              have h8 : s[i].toNat = 32 := H3.out (by omega)
              simp [h8]
            go_wp2
            go_roundw
            case rel => exact ⟨i + 1, i + 1, by omega, by go_num, by go_num, by rw [hstep.out], by rw [hnew.out]; exact hb⟩
            case measure => simp [intOf]; omega
          · go_wp2
            go_roundw
            case rel => exact ⟨i + 1, i + 1, by omega, by go_num, by go_num, by rw [hstep.out], by rw [hnew.out]; exact hb⟩
            case measure => simp [intOf]; omega
    · have hfin : Hid (i = s.size + 1) := by show i = s.size + 1; omega
      go_wp2
      go_ret
      exact ⟨_, rfl, by rw [partsOf, ← hfin.out]; exact hb⟩

set_option maxRecDepth 100000 in
set_option maxHeartbeats 1000000 in
theorem allPrinted_any (s : ByteArray) (w : World) (hs : s.size ≤ 600) :
    Calls Try.prog 33 #[.string s] w fun e w' => ∃ f, e = .returned (.bool f) ∧ (f = true ↔ printed s.data.toList) ∧ Below w.heap.size w w' := by
  have hlen : s.data.toList.length = s.size := by simp
  have hconv : ∀ wx, (convert 9 32 (.string s)).run Try.prog wx = .ok (.slice (some ⟨wx.heap.size, 0, none⟩) s.size (grownCap wx s.size 0 5)) (Lib.bytesWorld wx 5 s) :=
    fun wx => Lib.run_convert_string_bytes (P := Try.prog) wx 9 32 5 s Try.underlying9 Try.underlying32 Try.underlying5
  obtain ⟨o, ho1, ho2⟩ := bytes_block w s
  have hbw : Below w.heap.size w (Lib.bytesWorld w 5 s) := ⟨rfl, rfl, rfl, by rw [Lib.bytesWorld_size]; omega, fun k hk => Lib.bytesWorld_at_old w 5 s k hk⟩
  have hcells := ho2 _ ho1
  have HC : Hid (∀ j (hj : j < s.size), (Lib.bytesWorld w 5 s).cell? ⟨w.heap.size, j, none⟩ = some (.int .u8 (s[j].toNat : Int))) := hcells
  clear ho1 ho2 hcells
  go_enter Try.func33, Try.ntmps33
  go_wp2
  generalize Lib.bytesWorld w 5 s = w1 at *
  go_loop [8] (fun iv => ∃ k : Nat, k ≤ s.size ∧ iv = .int .i64 (k : Int) ∧ printed (s.data.toList.take k)) (fun iv => s.size - (intOf iv).toNat)
  case atStart => exact ⟨0, by omega, rfl, by intro c hc; simp at hc⟩
  case round =>
    obtain ⟨k, hk, rfl, hp0⟩ := hrel
    have hp : Hid (printed (s.data.toList.take k)) := hp0
    clear hp0 hconv
    by_cases hlt : k < s.size
    · have hcell := HC.out k hlt
      have hl : k < s.data.toList.length := by omega
      by_cases hc : 32 ≤ s[k].toNat ∧ s[k].toNat ≤ 126
      · have hp1 : Hid (printed (s.data.toList.take (k + 1))) := by
          show printed (s.data.toList.take (k + 1))
          rw [List.take_succ_eq_append_getElem hl]
          intro c hcm
          rcases List.mem_append.1 hcm with h1 | h1
          · exact hp.out c h1
          · simp at h1; subst h1; exact hc
        obtain ⟨hc1, hc2⟩ := hc
        go_wp2
        go_round
        case rel => exact ⟨k + 1, by omega, by go_num, hp1.out⟩
        case measure => simp [intOf]; omega
      · have hno : Hid (¬ printed s.data.toList) := fun h => hc (h s.data.toList[k] (List.getElem_mem hl))
        rcases (show s[k].toNat < 32 ∨ 127 ≤ s[k].toNat by omega) with h5 | h5
        all_goals
          clear hc
          go_wp2
          go_ret
          exact .inl ⟨rfl, hno.out, hbw⟩
    · have hyes : Hid (printed s.data.toList) := by
        have := hp.out
        rw [List.take_of_length_le (by omega)] at this
        exact this
      go_wp2
      go_ret
      exact .inr ⟨rfl, hyes.out, hbw⟩

/-- How a call of PartsOf ends. -/
def PoR (s : ByteArray) (w : World) (e : Ending) (w' : World) : Prop := ∃ v l f, e = .returned (.tuple #[v, .bool f]) ∧ PoT s l f ∧ SBuf w.heap.size w w' v l

theorem PoR_no {s : ByteArray} {w w' : World} {v : Value} (h : ¬ isLine s) (hb : SBuf w.heap.size w w' v []) : PoR s w (.returned (.tuple #[v, .bool false])) w' :=
  ⟨v, [], false, rfl, .inr ⟨h, rfl, rfl⟩, hb⟩
theorem PoR_yes {s : ByteArray} {w w' : World} {v : Value} (h : isLine s) (hb : SBuf w.heap.size w w' v (partsOf s)) : PoR s w (.returned (.tuple #[v, .bool true])) w' :=
  ⟨v, _, true, rfl, .inl ⟨h, rfl, rfl⟩, hb⟩

/-- An empty list behind whatever else was laid. -/
theorem SBuf.freshLater {w0 w : World} (hb : Below w0.heap.size w0 w) : SBuf w0.heap.size w0 (w.alloc (.cells #[] 9)) (.slice (some ⟨w.heap.size, 0, none⟩) 0 0) [] :=
  ⟨World.ownsRow_made w #[] 0 hb.size (by decide) rfl, hb.alloc hb.size _, by have := hb.size; simp; omega⟩

set_option maxRecDepth 100000 in
set_option maxHeartbeats 1000000 in
theorem implPartsOf_any (s : ByteArray) (w : World) (hs : s.size ≤ 1099511627776) :
    Calls Try.prog 25 #[.string s] w fun e w' => PoR s w e w' := by
  by_cases h : s.size ≤ 600
  · by_cases hp : printed s.data.toList
    · by_cases hn : (partsOf s).length ≤ 10
      · have hy : Hid (isLine s) := ⟨h, hp, hn⟩
        have HP : Hid (printed s.data.toList) := hp
        obtain ⟨L, hL0⟩ : ∃ L, partsOf s = L := ⟨_, rfl⟩
        have hL : Hid (partsOf s = L) := hL0
        rw [hL0] at hn
        clear hp hL0
        go_enter Try.func25, Try.ntmps25
        go_wp2_with (first | (go_at_call 33; refine (allPrinted_any _ _ h).mono ?_; rintro e w1 ⟨f, rfl, hf, hb1⟩; rw [hf.2 HP.out]; clear hf) | (go_at_call 34; refine (cutAtBlanks_any _ _ h).mono ?_; rintro e w2 ⟨v, rfl, hb2⟩; rw [hL.out] at hb2; obtain ⟨ao, cap, rfl⟩ := hb2.form))
        go_ret2
        exact PoR_yes hy.out (by rw [hL.out]; exact SBuf.under hb1 hb2)
      · have hno : Hid (¬ isLine s) := fun hh => hn hh.2.2
        have HP : Hid (printed s.data.toList) := hp
        obtain ⟨L, hL0⟩ : ∃ L, partsOf s = L := ⟨_, rfl⟩
        have hL : Hid (partsOf s = L) := hL0
        rw [hL0] at hn
        clear hp hL0
        go_enter Try.func25, Try.ntmps25
        go_wp2_with (first | (go_at_call 33; refine (allPrinted_any _ _ h).mono ?_; rintro e w1 ⟨f, rfl, hf, hb1⟩; rw [hf.2 HP.out]; clear hf) | (go_at_call 34; refine (cutAtBlanks_any _ _ h).mono ?_; rintro e w2 ⟨v, rfl, hb2⟩; rw [hL.out] at hb2; obtain ⟨ao, cap, rfl⟩ := hb2.form))
        go_ret2
        exact PoR_no hno.out (SBuf.freshLater (hb1.trans (hb2.bel.mono hb1.size)))
    · have hno : Hid (¬ isLine s) := fun hh => hp hh.2.1
      have HP : Hid (¬ printed s.data.toList) := hp
      clear hp
      go_enter Try.func25, Try.ntmps25
      go_wp2_with (go_at_call 33; refine (allPrinted_any _ _ h).mono ?_; rintro e w1 ⟨f, rfl, hf, hb1⟩; rw [show f = false from by cases f with | false => rfl | true => exact absurd (hf.1 rfl) HP.out]; clear hf)
      go_ret2
      exact PoR_no hno.out (SBuf.freshLater hb1)
  · have hno : Hid (¬ isLine s) := fun hh => h hh.1
    have hfr := SBuf.fresh w
    go_enter Try.func25, Try.ntmps25
    go_wp2
    go_ret2
    exact PoR_no hno.out hfr

theorem printed_next {l : List UInt8} {k : Nat} (h : k < l.length) (hp : printed (l.take k)) (hc : 32 ≤ l[k].toNat ∧ l[k].toNat ≤ 126) : printed (l.take (k + 1)) := by
  rw [List.take_succ_eq_append_getElem h]
  intro c hcm
  rcases List.mem_append.1 hcm with h1 | h1
  · exact hp c h1
  · simp at h1; subst h1; exact hc

theorem printed_past {l : List UInt8} {k : Nat} (h : ¬ k < l.length) (hp : printed (l.take k)) : printed (l.take (k + 1)) := by
  rw [List.take_of_length_le (by omega)] at hp ⊢
  exact hp

set_option maxRecDepth 100000 in
set_option maxHeartbeats 2000000 in
theorem specPartsOf_any (s : ByteArray) (w : World) (hs : s.size ≤ 1099511627776) :
    Calls Try.prog 24 #[.string s] w fun e w' => PoR s w e w' := by
  have hfr := SBuf.fresh w
  by_cases h : s.size ≤ 600
  · have hlen : s.data.toList.length = s.size := by simp
    go_enter Try.func24, Try.ntmps24
    go_wp2
    go_loopw [4, 5, 6] (fun v fv iv wr => ∃ i f : Nat, i ≤ s.size + 1 ∧ iv = .int .i64 (i : Int) ∧ fv = .int .i64 (f : Int) ∧ f = (cutSt s.data.toList i).2 ∧ SBuf w.heap.size w wr v (cutTexts s i) ∧ printed (s.data.toList.take i)) (fun _ _ iv _ => s.size + 1 - (intOf iv).toNat)
    case atStart => exact ⟨0, 0, by omega, rfl, rfl, rfl, hfr, by intro c hc; simp at hc⟩
    case round =>
      obtain ⟨i, f, hi, rfl, rfl, hf0, hb, hp0⟩ := hrel
      have hf : Hid (f = (cutSt s.data.toList i).2) := hf0
      have hp : Hid (printed (s.data.toList.take i)) := hp0
      have hfi : f ≤ i := by rw [hf0]; exact (cutSt_le _ _).1
      have hcl := cutTexts_len s i
      clear hf0 hp0 hfr
      by_cases hlt : i < s.size + 1
      · by_cases hin : i < s.size
        · have hl : i < s.data.toList.length := by omega
          have hc256 : s[i].toNat < 256 := UInt8.toNat_lt _
          by_cases hc : 32 ≤ s[i].toNat ∧ s[i].toNat ≤ 126
          · have hp1 : Hid (printed (s.data.toList.take (i + 1))) := printed_next hl hp.out hc
            obtain ⟨hc1, hc2⟩ := hc
            by_cases h32 : s[i].toNat = 32
            · have H3 : Hid (∀ h : i < s.data.toList.length, s.data.toList[i].toNat = 32) := fun _ => h32
              have h7 : ((s[i].toNat : Int) != 32) = false := by simp [h32]
              clear h32
              by_cases hfi2 : f < i
              · have hstep : Hid (cutSt s.data.toList (i + 1) = _) := cutSt_part H3.out (by rw [← hf.out]; exact hfi2)
                have hsl := slice_ab s f i (by omega) (by omega)
                have hnew : Hid (cutTexts s (i + 1) = cutTexts s i ++ [s.extract f i]) := by
                  show cutTexts s (i + 1) = cutTexts s i ++ [s.extract f i]
                  rw [cutTexts, hstep.out, ← hf.out]; simp [cutTexts]
                go_wp2_with (at_builtin; refine wpList_append_str rfl _ _ rfl _ _ _ rfl (hb.alloc _) ⟨wr.heap.size, 0, none⟩ (s.extract f i) rfl (cell_one_new _ _ _) ?c1 ?_)
                case c1 => omega
                intro v' w2 hb'
                go_wp2
                go_roundw
                case rel => exact ⟨i + 1, i + 1, by omega, by go_num, by go_num, by rw [hstep.out], by rw [hnew.out]; exact hb', hp1.out⟩
                case measure => simp [intOf]; omega
              · have hstep : Hid (cutSt s.data.toList (i + 1) = _) := cutSt_none H3.out (by rw [← hf.out]; exact hfi2)
                have hnew : Hid (cutTexts s (i + 1) = cutTexts s i) := by
                  show cutTexts s (i + 1) = cutTexts s i
                  rw [cutTexts, hstep.out]; simp [cutTexts]
                go_wp2
                go_roundw
                case rel => exact ⟨i + 1, i + 1, by omega, by go_num, by go_num, by rw [hstep.out], by rw [hnew.out]; exact hb, hp1.out⟩
                case measure => simp [intOf]; omega
            · have hstep : Hid (cutSt s.data.toList (i + 1) = cutSt s.data.toList i) := cutSt_go hl h32
              have h7 : ((s[i].toNat : Int) != 32) = true := by rw [bne_iff_ne]; omega
              clear h32
              go_wp2
              go_roundw
              case rel => exact ⟨i + 1, f, by omega, by go_num, rfl, by rw [hstep.out]; exact hf.out, by rw [cutTexts, hstep.out]; exact hb, hp1.out⟩
              case measure => simp [intOf]; omega
          · have hno : Hid (¬ isLine s) := fun hh => hc (hh.2.1 s.data.toList[i] (List.getElem_mem hl))
            rcases (show s[i].toNat < 32 ∨ 127 ≤ s[i].toNat by omega) with h5 | h5
            all_goals
              clear hc
              go_wp2
              go_ret2
              exact PoR_no hno.out (SBuf.freshLater hb.bel)
        · have H3 : Hid (∀ h : i < s.data.toList.length, s.data.toList[i].toNat = 32) := fun h => absurd h (by omega)
          have hp1 : Hid (printed (s.data.toList.take (i + 1))) := printed_past (by omega) hp.out
          by_cases hfi2 : f < i
          · have hstep : Hid (cutSt s.data.toList (i + 1) = _) := cutSt_part H3.out (by rw [← hf.out]; exact hfi2)
            have hsl := slice_ab s f i (by omega) (by omega)
            have hnew : Hid (cutTexts s (i + 1) = cutTexts s i ++ [s.extract f i]) := by
              show cutTexts s (i + 1) = cutTexts s i ++ [s.extract f i]
              rw [cutTexts, hstep.out, ← hf.out]; simp [cutTexts]
            go_wp2_with (at_builtin; refine wpList_append_str rfl _ _ rfl _ _ _ rfl (hb.alloc _) ⟨wr.heap.size, 0, none⟩ (s.extract f i) rfl (cell_one_new _ _ _) ?d1 ?_)
            case d1 => omega
            intro v' w2 hb'
            go_wp2
            go_roundw
            case rel => exact ⟨i + 1, i + 1, by omega, by go_num, by go_num, by rw [hstep.out], by rw [hnew.out]; exact hb', hp1.out⟩
            case measure => simp [intOf]; omega
          · have hstep : Hid (cutSt s.data.toList (i + 1) = _) := cutSt_none H3.out (by rw [← hf.out]; exact hfi2)
            have hnew : Hid (cutTexts s (i + 1) = cutTexts s i) := by
              show cutTexts s (i + 1) = cutTexts s i
              rw [cutTexts, hstep.out]; simp [cutTexts]
            go_wp2
            go_roundw
            case rel => exact ⟨i + 1, i + 1, by omega, by go_num, by go_num, by rw [hstep.out], by rw [hnew.out]; exact hb, hp1.out⟩
            case measure => simp [intOf]; omega
      · have hfin : Hid (i = s.size + 1) := by show i = s.size + 1; omega
        have hpr : Hid (printed s.data.toList) := by
          have := hp.out
          rw [List.take_of_length_le (by omega)] at this
          exact this
        have hpo : Hid (partsOf s = cutTexts s i) := by show partsOf s = cutTexts s i; rw [partsOf, ← hfin.out]
        obtain ⟨L, hL0⟩ : ∃ L, cutTexts s i = L := ⟨_, rfl⟩
        rw [hL0] at hb hcl
        have hL : Hid (partsOf s = L) := hpo.out.trans hL0
        clear hL0
        obtain ⟨ao, cap, rfl⟩ := hb.form
        by_cases hn : L.length ≤ 10
        · have hy : Hid (isLine s) := ⟨h, hpr.out, by rw [hL.out]; exact hn⟩
          go_wp2
          go_ret2
          exact PoR_yes hy.out (by rw [hL.out]; exact hb)
        · have hno : Hid (¬ isLine s) := fun hh => hn (by have := hh.2.2; rw [hL.out] at this; exact this)
          go_wp2
          go_ret2
          exact PoR_no hno.out (SBuf.freshLater hb.bel)
  · have hno : Hid (¬ isLine s) := fun hh => h hh.1
    go_enter Try.func24, Try.ntmps24
    go_wp2
    go_ret2
    exact PoR_no hno.out hfr

end Go.Proofs.Ytnaaebbinmpjeaa
