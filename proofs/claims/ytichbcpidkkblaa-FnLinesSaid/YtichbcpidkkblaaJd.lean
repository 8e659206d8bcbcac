/- Texts of our own, joined. -/
import Derived.Test.YtichbcpidkkblaaJb
import Derived.Test.YtichbcpidkkblaaJc
import Derived.Deep.CutBlock
import Derived.Laws.OwnMore
import Derived.ArgAppend
import Derived.Laws.Bits128
import Derived.Lib.SmallJoins
import Derived.WalkSpells
import Derived.WalkSmall
import Derived.Deep.RegionHeld3
import Derived.Deep.QuietTactic
import Derived.BigQuiet
import Derived.OpenShut
/- Lines: TakeLine of the program: the first line's bytes come over a channel into a builder. -/
namespace Go.Proofs.Ytichbcpidkkblaa
open Go.RowKit Go.Conc

theorem last1 {s : ByteArray} (h : 0 < s.size) : ((s.extract (s.size - 1) s.size).toList == [13]) = true ↔ s.data.toList[s.size - 1]? = some 13 := by
  rw [Go.Lib.toList_data, extract_data, beq_iff_eq]
  have hl : s.data.toList.length = s.size := ba_len s
  have hx : s.size - 1 < s.data.toList.length := by omega
  rw [List.drop_eq_getElem_cons hx, List.getElem?_eq_getElem hx, show s.size - 1 + 1 = s.data.toList.length by omega, List.drop_length, show s.size - (s.size - 1) = 1 by omega]
  simp

set_option maxHeartbeats 1000000 in
set_option maxRecDepth 100000 in
theorem trimCr (s : ByteArray) (w : World) (hs : s.size ≤ 1000) :
    Calls Try.prog 42 #[.string s, .string { data := #[13] }] w fun e w' => (∃ t : ByteArray, e = .returned (.string t) ∧ (0 < s.size ∧ s.data.toList[s.size - 1]? = some 13 → t.size = s.size - 1) ∧ (¬ (0 < s.size ∧ s.data.toList[s.size - 1]? = some 13) → t.size = s.size)) ∧ w' = w := by
  by_cases h0 : 0 < s.size
  · have g0 : (1 : Int) ≤ (s.size : Int) := by omega
    have gw : IntKind.i64.wrap ((s.size : Int) - 1) = ((s.size - 1 : Nat) : Int) := by
      rw [show ((s.size : Int) - 1) = ((s.size - 1 : Nat) : Int) by omega]; exact IntWalk.i64_in _ ⟨by omega, by omega⟩
    have g1 : (0 : Int) ≤ ((s.size - 1 : Nat) : Int) := by omega
    have g2 : ((s.size - 1 : Nat) : Int) ≤ (s.size : Int) := by omega
    have hL := Lib.hid (last1 h0)
    go_enter Try.func42, Try.ntmps42
    go_wp2
    · rename_i hb
      have hc := hL.out.1 hb
      go_ret
      exact ⟨⟨_, rfl, fun _ => by rw [ByteArray.size_extract]; omega, fun h => absurd ⟨h0, hc⟩ h⟩, rfl⟩
    · rename_i hb
      have hc : ¬ (s.data.toList[s.size - 1]? = some 13) := fun h => by
        have := hL.out.2 h
        rw [hb] at this
        exact absurd this (by decide)
      go_ret
      exact ⟨⟨_, rfl, fun h => absurd h.2 hc, fun _ => rfl⟩, rfl⟩
  · have e0 : s.size = 0 := by omega
    have g0 : ¬ (1 : Int) ≤ (s.size : Int) := by omega
    go_enter Try.func42, Try.ntmps42
    go_wp2
    go_ret
    have es : s = ByteArray.empty := ByteArray.size_eq_zero_iff.1 e0
    exact ⟨by rw [es]; rfl, rfl⟩

set_option maxHeartbeats 1000000 in
set_option maxRecDepth 100000 in
theorem mayEnd_any (s : ByteArray) (w : World) (hs : s.size ≤ 1000) :
    Calls Try.prog 30 #[.string s] w fun e w' => (∃ t : Bool, e = .returned (.bool t) ∧ (t = true ↔ s.size ≤ 80 ∨ (s.size = 81 ∧ s.data.toList[80]? = some 13))) ∧ w' = w := by
  go_enter Try.func30, Try.ntmps30
  go_wp2_with (go_at_call 42; refine (trimCr _ _ hs).mono ?_; rintro e w1 ⟨⟨t, rfl, h1, h2⟩, rfl⟩; have H1 := Lib.hid h1; have H2 := Lib.hid h2; clear h1 h2)
  go_ret
  refine ⟨⟨_, rfl, ?_⟩, rfl⟩
  by_cases h : 0 < s.size ∧ s.data.toList[s.size - 1]? = some 13
  · have := H1.out h
    simp only [decide_eq_true_eq]
    constructor
    · intro hx
      by_cases h8 : s.size ≤ 80
      · exact .inl h8
      · have e8 : s.size = 81 := by omega
        exact .inr ⟨e8, by have := h.2; rwa [e8] at this⟩
    · rintro (hx | ⟨hx, _⟩) <;> omega
  · have := H2.out h
    simp only [decide_eq_true_eq]
    constructor
    · intro hx; exact .inl (by omega)
    · rintro (hx | ⟨hx, hy⟩)
      · omega
      · exact absurd ⟨by omega, by rw [hx]; exact hy⟩ h

theorem setChan_grown (w : World) (c cap : Nat) (buf : Array Value) (cl : Bool) (s r : Nat) (tm : Bool) : w.grownBy (w.setChan c cap buf cl s r tm) (some c) :=
  ⟨rfl, rfl, rfl, by simp [World.setChan], fun k _ hne => by simp only [World.setChan]; rw [Array.getElem?_setIfInBounds_ne (fun e => hne (by rw [e]))]⟩

theorem Bld.setChan {B b : Nat} {bs : List Value} {w : World} (h : Bld B b bs w) {c : Nat} (hc : c < B) (hb : b ≠ c) (cap : Nat) (buf : Array Value) (cl : Bool) (s r : Nat) (tm : Bool) : Bld B b bs (w.setChan c cap buf cl s r tm) := by
  obtain ⟨h1, p, v, h2, h3, h4⟩ := h
  have hg := setChan_grown w c cap buf cl s r tm
  exact ⟨h1, p, v, h2, (hg.block b h3.lt (fun e => hb (Option.some.inj e))).trans h3, h4.kept hg (.inr (fun e => by have := (h4.lt c e).1; omega))⟩

theorem ChHas.got {w w0 : World} {c cap m j C : Nat} {l : List UInt8} (_h : ChHas w c cap (l.drop j) true m j) (hj : j < l.length) (hz : c < w.heap.size) (hb : Below C w0 w) (hC : C ≤ c) :
    0 < ((l.drop j).map fun b => Value.int .u8 (b.toNat : Int)).toArray.size ∧ ((l.drop j).map fun b => Value.int .u8 (b.toNat : Int)).toArray.getD 0 undef = .int .u8 (l[j].toNat : Int) ∧
    ChHas (w.setChan c cap (((l.drop j).map fun b => Value.int .u8 (b.toNat : Int)).toArray.extract 1 ((l.drop j).map fun b => Value.int .u8 (b.toNat : Int)).toArray.size) true m (j + 1) false) c cap (l.drop (j + 1)) true m (j + 1) ∧
    Below C w0 (w.setChan c cap (((l.drop j).map fun b => Value.int .u8 (b.toNat : Int)).toArray.extract 1 ((l.drop j).map fun b => Value.int .u8 (b.toNat : Int)).toArray.size) true m (j + 1) false) := by
  refine ⟨by simp; omega, ?_, ?_, below_setChan hb hC _ _ _ _ _ _⟩
  · rw [List.drop_eq_getElem_cons hj]; rfl
  · unfold ChHas
    rw [heap_setChan _ _ _ _ _ _ _ _ hz, List.drop_eq_getElem_cons hj]
    simp only [List.map_cons, List.size_toArray, List.length_cons, List.extract_toArray, List.extract_eq_take_drop, List.drop_succ_cons, List.drop_zero, Nat.add_sub_cancel, Option.some.injEq, Obj.chan.injEq, Array.mk.injEq, and_true, true_and]
    exact List.take_length

/-- How much is left in a channel. -/
def chLeft (w : World) (c : Nat) : Nat := match w.heap[c]? with | some (.chan _ buf _ _ _ _) => buf.size | _ => 0
theorem ChHas.left {w : World} {c cap s r : Nat} {l : List UInt8} {cl : Bool} (h : ChHas w c cap l cl s r) : chLeft w c = l.length := by
  unfold chLeft; rw [show w.heap[c]? = _ from h]; simp

set_option maxRecDepth 100000 in
set_option maxHeartbeats 4000000 in
theorem implTakeLine_any (s : ByteArray) (w : World) (hs : s.size ≤ 1099511627776) :
    Calls Try.prog 9 #[.string s] w fun e w' => (∃ a b c, e = .returned (.tuple #[.string a, .string b, .int .i64 c]) ∧ TkR s a b c) ∧ Below w.heap.size w w' := by
  go_enter Try.func9, Try.ntmps9
  go_upto_region 3 with fail
  have hmin : (min (s.size : Int) 82).toNat = min s.size 82 := by omega
  rw [hmin]
  obtain ⟨t, ht⟩ : ∃ t, s.extract 0 (min s.size 82) = t := ⟨_, rfl⟩
  have htz : t.size = min s.size 82 := by rw [← ht, ByteArray.size_extract]; omega
  have htl : t.data.toList = s.data.toList.take (min s.size 82) := by rw [← ht, extract_data]; simp
  rw [ht]
  clear ht hmin
  have hnew := Bld.new w
  have hcell : (w.alloc (.cells #[.pointer none, .slice none 0 0] 41)).cell? ⟨w.heap.size, 1, none⟩ = some (.slice none 0 0) := (Box.new w _ _).cell 1 _ rfl
  have hk0 : Below w.heap.size w (w.alloc (.cells #[.pointer none, .slice none 0 0] 41)) := (Below.refl _ _).alloc (Nat.le_refl _) _
  have hz0 : (w.alloc (.cells #[.pointer none, .slice none 0 0] 41)).heap.size = w.heap.size + 1 := by simp
  generalize w.alloc (.cells #[.pointer none, .slice none 0 0] 41) = w0 at *
  obtain ⟨g, hg⟩ : ∃ g, w.heap.size = g := ⟨_, rfl⟩
  have HG := Lib.hid hg
  rw [hg] at hnew hcell hz0 hk0 ⊢
  clear hg
  obtain ⟨mm, hmm⟩ : ∃ mm, min (s.size : Int) 82 = mm := ⟨_, rfl⟩
  rw [hmm]
  clear hmm
  have HTZ := Lib.hid htz
  have HTL := Lib.hid htl
  have ht82 : t.size ≤ 82 := by omega
  clear htz htl
  have hlo := lineOf_any t w0 ht82
  rw [hz0] at hlo
  have HLO := Lib.hid hlo
  have HN0 := Lib.hid hnew
  have HC0 := Lib.hid hcell
  have HK0 := Lib.hid hk0
  clear hlo hnew hcell hk0
  go_upto_block 0 with (go_at_call 25; refine HLO.out.mono ?_; rintro e w1 ⟨m, hm, hcm, hnm, rfl, hch, hz1, hk1⟩; have HM := Lib.hid hm; have HCM := Lib.hid hcm; have HNM := Lib.hid hnm; have HCH := Lib.hid hch; have HZ1 := Lib.hid hz1; have HK1 := Lib.hid hk1; clear hm hcm hnm hch hz1 hk1)
  have hk1 : Below g w w1 := HK0.out.trans (HK1.out.mono (by omega))
  have hB1 : Bld (g + 2) g [] w1 := ((HN0.out.later (by rw [hz0]; exact HK1.out)).from (by omega) (by rw [World.cell?, HK1.out.block g (by omega)]; exact HC0.out))
  obtain ⟨l, hl⟩ : ∃ l, t.data.toList.take m = l := ⟨_, rfl⟩
  have hlm : l.length = m := by rw [← hl, List.length_take, ba_len]; have := HM.out; omega
  have hch1 : ChHas w1 (g + 1) t.size l true m 0 := by rw [← hl]; exact HCH.out
  have HLE := Lib.hid hl
  have HLM := Lib.hid hlm
  have hz1 : g + 2 ≤ w1.heap.size := by have := HZ1.out; omega
  clear HLO HN0 HC0 HK0 HK1 HZ1 HCH hl hlm hz0
  apply wp_block
  go_loopw [15] (fun _ wr => ∃ j : Nat, j ≤ m ∧ Bld (g + 2) g (Lib.byteCells (l.take j)) wr ∧ ChHas wr (g + 1) t.size (l.drop j) true m j ∧ g + 2 ≤ wr.heap.size ∧ Below g w wr) (fun _ wr => chLeft wr (g + 1))
  case atStart => exact ⟨0, by omega, by simpa [Lib.byteCells] using hB1, by simpa using hch1, hz1, hk1⟩
  case round =>
    obtain ⟨j, hj, hA, hC, hZ, hK⟩ := hrel
    have HA := Lib.hid hA
    have HC := Lib.hid hC
    have HZ := Lib.hid hZ
    have HK := Lib.hid hK
    clear hA hC hZ hK hB1 hch1 hz1 hk1
    by_cases hlt : j < m
    · have hjl : j < l.length := by rw [HLM.out]; exact hlt
      obtain ⟨p1, p2, p3, p4⟩ := HC.out.got hjl (by have := HZ.out; omega) HK.out (by omega)
      have p5 := HA.out.setChan (c := g + 1) (by omega) (by omega) t.size (((l.drop j).map fun b => Value.int .u8 (b.toNat : Int)).toArray.extract 1 ((l.drop j).map fun b => Value.int .u8 (b.toNat : Int)).toArray.size) true m (j + 1) false
      have p6 := size_setChan wr (g + 1) t.size (((l.drop j).map fun b => Value.int .u8 (b.toNat : Int)).toArray.extract 1 ((l.drop j).map fun b => Value.int .u8 (b.toNat : Int)).toArray.size) true m (j + 1) false
      go_upto_region 4 with fail
      refine wp_region_at ?_
      show OpsAt _ _ _ [0, 1] _ _
      refine OpsAt.recv (c := g + 1) (z := .int .u8 0) (w' := wr) rfl rfl (by simp [go_sem, rcase]; rfl) HC.out p1 ?_
      rw [p2]
      generalize wr.setChan (g + 1) t.size _ true m (j + 1) false = w2 at *
      simp only [got, if_true]
      refine OpsAt.value (v := .bool true) (w' := w2) rfl rfl (by simp [go_sem]) ?_
      refine OpsAt.nil ?_
      walk_nrm
      have HW := Lib.hid (bldByte2 (g + 2) g (Lib.byteCells (l.take j)) (l[j].toNat : Int) w2 p5 (by have h1 := HM.out; have h2 := HLM.out; rw [byteC_len, List.length_take]; omega) (by rw [p6]; exact HZ.out))
      have HNX : Hid (Lib.byteCells (l.take j) ++ [Value.int .u8 (l[j].toNat : Int)] = Lib.byteCells (l.take (j + 1))) := by
        rw [List.take_succ_eq_append_getElem hjl]; simp only [Lib.byteCells, List.map_append, List.map_cons, List.map_nil, Hid]
      have HP := Lib.hid (show ChHas w2 (g + 1) t.size (l.drop (j + 1)) true m (j + 1) ∧ Below g w w2 ∧ g + 2 ≤ w2.heap.size from ⟨p3, p4, by rw [p6]; exact HZ.out⟩)
      have HLF := Lib.hid HC.out.left
      have HJL := Lib.hid hjl
      clear p1 p2 p3 p4 p5 p6 ht82
      generalize (l[j].toNat : Int) = y at *
      clear hjl
      go_wp2_with (go_at_call 26; refine HW.out.mono ?_; rintro e w3 ⟨rfl, hb3, hk3⟩; have HB3 := Lib.hid hb3; have HK3 := Lib.hid hk3; clear hb3 hk3)
      have c3 : ChHas w3 (g + 1) t.size (l.drop (j + 1)) true m (j + 1) := (HK3.out.block (g + 1) (by omega) (by omega)).trans HP.out.1
      go_roundw
      case rel => exact ⟨j + 1, by omega, by rw [← HNX.out]; exact HB3.out, c3, Nat.le_trans HP.out.2.2 HK3.out.size, HP.out.2.1.trans (HK3.out.below (by omega) (by omega))⟩
      case measure =>
        have q1 := HLF.out
        have q2 := c3.left
        have q3 := HJL.out
        rw [q1, q2, List.length_drop, List.length_drop]; omega
    · have e : j = m := by omega
      subst e
      have hd : l.drop j = [] := by rw [List.drop_eq_nil_iff, HLM.out]; omega
      have htk : l.take j = l := by rw [List.take_of_length_le]; rw [HLM.out]; exact Nat.le_refl _
      have hc0 := HC.out
      rw [hd] at hc0
      have hbf := HA.out
      rw [htk] at hbf
      have HBF := Lib.hid hbf.toF
      clear hd htk hbf hj hlt
      go_upto_region 4 with fail
      refine wp_region_at ?_
      show OpsAt _ _ _ [0, 1] _ _
      refine OpsAt.recvShut (c := g + 1) (z := .int .u8 0) (w' := wr) rfl rfl (by simp [go_sem, rcase]; rfl) hc0 ?_
      simp only [got, if_true]
      refine OpsAt.value (v := .bool false) (w' := wr) rfl rfl (by simp [go_sem]) ?_
      refine OpsAt.nil ?_
      walk_nrm
      have HG1 : Hid (g ≤ wr.heap.size) := by show g ≤ _; have := HZ.out; omega
      have HLT : Hid (∀ i, i + 1 < t.size → (CrAt t i ↔ CrAt s i)) := fun i hi => by
        rw [crAt_of, crAt_of, HTL.out, List.getElem?_take, List.getElem?_take, if_pos (by rw [← HTZ.out]; omega), if_pos (by rw [← HTZ.out]; omega)]
      have HLN0 := fun wx h => bldLen2 g l wx h
      rw [HLM.out] at HLN0
      have HLN := Lib.hid HLN0
      clear HLN0
      clear hc0
      by_cases hlt : j < t.size
      · have hcr := (HLT.out j (HCM.out hlt).1).1 (HCM.out hlt)
        have hj80 : j ≤ 80 := by have h1 : j + 1 < t.size := (HCM.out hlt).1; omega
        have hj2 : j + 2 ≤ s.size := by have h1 : j + 1 < s.size := hcr.1; omega
        have el : (⟨l.toArray⟩ : ByteArray) = s.extract 0 j := by
          apply ba_ext
          rw [extract_data, ← HLE.out, HTL.out]
          simp only [List.drop_zero, Nat.sub_zero, List.take_take]
          rw [Nat.min_eq_left (by rw [← HTZ.out]; omega)]
        have HT : Hid (TkR s (s.extract 0 j) (s.extract (j + 2) s.size) 0) :=
          .inl ⟨j, hj80, hcr, fun i hi h => HNM.out i hi ((HLT.out i (by omega)).2 h), rfl, rfl, rfl⟩
        have HS := fun wx h1 h2 => Lib.hid (bldString2 g l wx h1 h2)
        rw [el] at HS
        have HS' := Lib.hid HS
        have gw : IntKind.i64.wrap ((j : Int) + 2) = ((j + 2 : Nat) : Int) := by rw [show ((j : Int) + 2) = ((j + 2 : Nat) : Int) by omega]; exact IntWalk.i64_in _ ⟨by omega, by omega⟩
        have g1 : (0 : Int) ≤ ((j + 2 : Nat) : Int) := by omega
        have g2 : ((j + 2 : Nat) : Int) ≤ (s.size : Int) := by omega
        have g3 : (j : Int) < (t.size : Int) := by omega
        have hcl : (s.extract (j + 2) s.size).size ≤ 281474976710656 := by rw [ByteArray.size_extract]; omega
        clear HS el hcr hj80 hj2 hlt ht82
        go_upto_region 8 with (go_at_call 27; refine (HLN.out _ HBF.out).mono ?_; rintro e w2 ⟨rfl, rfl⟩)
        go_wp2_with (first
          | (go_at_call 28; refine (HS'.out _ HBF.out HG1.out).out.mono ?_; rintro e w3 ⟨rfl, hb3, hk3⟩; have HB3 := Lib.hid hb3; have HK3 := Lib.hid (HK.out.trans hk3); clear hb3 hk3)
          | (go_at_call 27; refine (HLN.out _ HB3.out).mono ?_; rintro e w4 ⟨rfl, rfl⟩)
          | (go_at_call 29; refine (clone_any _ _ hcl).mono ?_; rintro e w5 ⟨rfl, hk5⟩; have HK5 := Lib.hid (HK3.out.trans (hk5.mono (by have h9 := HK3.out.size; rw [HG.out] at h9; exact h9))); clear hk5))
        go_ret3
        exact ⟨⟨_, _, _, rfl, HT.out⟩, by rw [HG.out]; exact HK5.out⟩
      · have hjt : j = t.size := by have := HM.out; omega
        have g3 : ¬ ((j : Int) < (t.size : Int)) := by omega
        have HNO : Hid (∀ i, i ≤ 80 → ¬ CrAt s i) := fun i hi h => by
          have h1 : i + 1 < s.size := h.1
          have h2 : i + 1 < t.size := by rw [HTZ.out]; omega
          exact HNM.out i (by omega) ((HLT.out i h2).2 h)
        have HME := Lib.hid (mayEnd_any t wr (by omega))
        have HOV : Hid ((t.size ≤ 80 ∨ (t.size = 81 ∧ t.data.toList[80]? = some 13)) → TkR s emp s 1) := by
          intro h
          refine .inr ⟨HNO.out, rfl, .inr ⟨?_, rfl, rfl⟩⟩
          rintro ⟨h1, h2⟩
          rcases h with h | ⟨h, hb⟩
          · have := HTZ.out; omega
          · have e81 : s.size = 81 := by have := HTZ.out; omega
            refine h2 ⟨e81, fun h80 => ?_⟩
            rw [HTL.out, List.getElem?_take, if_pos (by omega)] at hb
            obtain ⟨q1, q2⟩ := List.getElem?_eq_some_iff.1 hb
            show s.data.toList[80].toNat = 13
            rw [q2]; rfl
        have HOW : Hid (¬ (t.size ≤ 80 ∨ (t.size = 81 ∧ t.data.toList[80]? = some 13)) → TkR s emp (s.extract 80 s.size) 2 ∧ 80 ≤ s.size) := by
          intro h
          have h80 : 80 < s.size := by
            rcases Nat.lt_or_ge 80 s.size with h8 | h8
            · exact h8
            · exact absurd (.inl (by rw [HTZ.out]; omega)) h
          refine ⟨.inr ⟨HNO.out, rfl, .inl ⟨⟨h80, ?_⟩, rfl, rfl⟩⟩, by omega⟩
          rintro ⟨e81, hb⟩
          refine h (.inr ⟨by rw [HTZ.out]; omega, ?_⟩)
          rw [HTL.out, List.getElem?_take, if_pos (by omega)]
          have q := hb h80
          have q2 : s.data.toList[80]? = some s[80] := by
            rw [List.getElem?_eq_getElem (by rw [ba_len]; exact h80)]; rfl
          rw [q2]
          exact congrArg some (UInt8.toNat_inj.1 q)
        have hcl : s.size ≤ 281474976710656 := by omega
        have HCL : Hid ((s.extract 80 s.size).size ≤ 281474976710656) := by show _ ≤ _; rw [ByteArray.size_extract]; omega
        clear hlt ht82 hjt
        by_cases hx : t.size ≤ 80 ∨ (t.size = 81 ∧ t.data.toList[80]? = some 13)
        · have HT := Lib.hid (HOV.out hx)
          have HE : Hid (Calls Try.prog 30 #[.string t] wr fun e w' => e = .returned (.bool true) ∧ w' = wr) := HME.out.mono fun e w' ⟨⟨f, he, hf⟩, hw⟩ => ⟨by rw [he, hf.2 hx], hw⟩
          clear HME HOW hx
          go_upto_region 9 with (go_at_call 27; refine (HLN.out _ HBF.out).mono ?_; rintro e w2 ⟨rfl, rfl⟩)
          go_wp2_with (first
            | (go_at_call 30; refine HE.out.mono ?_; rintro e w3 ⟨rfl, rfl⟩)
            | (go_at_call 29; refine (clone_any _ _ hcl).mono ?_; rintro e w5 ⟨rfl, hk5⟩; have HK5 := Lib.hid (HK.out.trans (hk5.mono HG1.out)); clear hk5))
          go_ret3
          exact ⟨⟨_, _, _, rfl, HT.out⟩, by rw [HG.out]; exact HK5.out⟩
        · have HT := Lib.hid (HOW.out hx).1
          have h80 : (80 : Int) ≤ (s.size : Int) := by have := (HOW.out hx).2; omega
          have HE : Hid (Calls Try.prog 30 #[.string t] wr fun e w' => e = .returned (.bool false) ∧ w' = wr) := HME.out.mono fun e w' ⟨⟨f, he, hf⟩, hw⟩ => ⟨by
            have : f = false := by
              cases f with
              | false => rfl
              | true => exact absurd (hf.1 rfl) hx
            rw [he, this], hw⟩
          clear HME HOW HOV hx
          go_upto_region 9 with (go_at_call 27; refine (HLN.out _ HBF.out).mono ?_; rintro e w2 ⟨rfl, rfl⟩)
          go_wp2_with (first
            | (go_at_call 30; refine HE.out.mono ?_; rintro e w3 ⟨rfl, rfl⟩)
            | (go_at_call 29; refine (clone_any _ _ HCL.out).mono ?_; rintro e w5 ⟨rfl, hk5⟩; have HK5 := Lib.hid (HK.out.trans (hk5.mono HG1.out)); clear hk5))
          go_ret3
          exact ⟨⟨_, _, _, rfl, HT.out⟩, by rw [HG.out]; exact HK5.out⟩

end Go.Proofs.Ytichbcpidkkblaa

/- Appends of one list of the call's own to another, at an operation, in a list of operations and in a region that draws its order. -/
namespace Go.Proofs.Ytichbcpidkkblaa
open Go.RowKit

variable {α : Type} {E : Enc α}

theorem RBuf.shift {B : Nat} {w w' : World} {v : Value} {l : List α} {r : Option Nat} (h : RBuf E B w w v l) (hg : w.grownBy w' r) (hne : v.ownBlock = none ∨ v.ownBlock ≠ r) : RBuf E B w' w' v l :=
  ⟨h.own.kept hg hne, Below.refl _ _, Nat.le_trans h.le hg.size⟩

theorem RBuf.lower {B B0 : Nat} {w : World} {v : Value} {l : List α} (h : RBuf E B w w v l) (hB : B0 ≤ B) : RBuf E B0 w w v l := h.down (Below.refl _ _) hB

/-- What is appended: a list of whoever's own. -/
theorem run_append_rows {w : World} (ty : TypeId) (B : Nat) (v : Value) (l : List α) (hb : RBuf E B w w v l) (Bx : Nat) (vx : Value) (m : List α) (hx : RBuf E Bx w w vx m)
    (hlen : (l.length + m.length) * (E.bytes + 1) ≤ 140737488355328) :
    ∃ v' w', (Builtin.append_ #[E.sty, E.sty] ty #[v, vx]).run Try.prog w = .ok v' w' ∧ RBuf E B w' w' v' (l ++ m) ∧ w.grownBy w' v.ownBlock ∧ (v'.ownBlock = v.ownBlock ∨ v'.ownBlock = some w.heap.size) := by
  obtain ⟨i0, hi, hz0, hz1, hz2⟩ := info_parts E.info
  have e0 : (l.length + m.length) * (E.bytes + 1) = (l.length + m.length) * E.bytes + (l.length + m.length) := Nat.mul_succ _ _
  rcases hx.own.2 with ⟨rfl, h0⟩ | ⟨g, cap, cur, rfl, hg, hh, hnc, hcp, hcs, htake⟩
  · obtain rfl := List.length_eq_zero_iff.1 h0
    refine ⟨v, w, run_append_owned_none (P := Try.prog) w B E.sty ty E.ty i0 E.sz E.und hi v l.length (E.row l) hb.own, by simpa using hb, World.grownBy.refl _ _, .inl rfl⟩
  · obtain ⟨v', w', h1, h2, h3, _, h5⟩ := run_append_own_at (P := Try.prog) w B E.sty ty E.ty i0 E.zero E.sz E.bytes E.und hi hz0 hz1 hz2 E.zc E.pos v l.length (E.row l) hb.own ⟨g, 0, none⟩ m.length cap (E.row m) (E.row_length m)
      (fun j u hu => by
        have hjl : j < m.length * E.sz := by have := (List.getElem?_eq_some_iff.1 hu).1; rwa [E.row_length] at this
        rw [Addr.add_lit, Nat.zero_add, hx.own.cellAt j hjl]; exact hu) (E.row_one' m) (by unfold maxLen; omega) (by omega) hb.le
    refine ⟨v', w', h1, ⟨?_, Below.refl _ _, Nat.le_trans hb.le h3.size⟩, h3, h5⟩
    rw [List.length_append, E.row_append]
    exact h2

theorem wp_append_rows {w : World} {o : Oper} {a : Act} {K : Act → World → Prop} {Q : Exit → Act → World → Prop} (s x : Operand) (E : Enc α)
    (ho : o.op = .call { callee := .builtin .append, args := #[s, x], argTypes := #[E.sty, E.sty] })
    (B : Nat) (v : Value) (l : List α) (hs : a.eval s = v) (hb : RBuf E B w w v l) (Bx : Nat) (vx : Value) (m : List α) (hxv : a.eval x = vx) (hx : RBuf E Bx w w vx m)
    (hlen : (l.length + m.length) * (E.bytes + 1) ≤ 140737488355328)
    (h : ∀ v' w', RBuf E B w' w' v' (l ++ m) → w.grownBy w' v.ownBlock → (v'.ownBlock = v.ownBlock ∨ v'.ownBlock = some w.heap.size) → K (a.put o.dst v') w') : o.wp Try.prog a w K Q := by
  obtain ⟨v', w', hr, h2, h3, h4⟩ := run_append_rows o.type B v l hb Bx vx m hx hlen
  unfold Oper.wp execOp
  simp only [ho, resolve, invoke, builtin, Sem.run_bind, Sem.run_pure, Result.andThen_ok, List.map_toArray, List.map_cons, List.map_nil, hs, hxv, hr]
  exact h v' w' h2 h3 h4

theorem wpList_append_rows {w : World} {ops : Array Oper} {rest : List Oper} {o : Oper} {a : Act} {Q : Exit → Act → World → Prop} (hgd : o.guard = none) (s x : Operand) (E : Enc α)
    (ho : o.op = .call { callee := .builtin .append, args := #[s, x], argTypes := #[E.sty, E.sty] })
    (B : Nat) (v : Value) (l : List α) (hs : a.eval s = v) (hb : RBuf E B w w v l) (Bx : Nat) (vx : Value) (m : List α) (hxv : a.eval x = vx) (hx : RBuf E Bx w w vx m)
    (hlen : (l.length + m.length) * (E.bytes + 1) ≤ 140737488355328)
    (h : ∀ v' w', RBuf E B w' w' v' (l ++ m) → w.grownBy w' v.ownBlock → (v'.ownBlock = v.ownBlock ∨ v'.ownBlock = some w.heap.size) → wpList Try.prog ops Q rest (a.put o.dst v') w') : wpList Try.prog ops Q (o :: rest) a w :=
  wpList_plain hgd fun _ hK => wp_append_rows s x E ho B v l hs hb Bx vx m hxv hx hlen fun v' w' h2 h3 h4 => hK _ _ (h v' w' h2 h3 h4)

theorem step_append_rows {w : World} {ops : Array Oper} {o : Oper} {a : Act} {K : Act → World → Prop} {Q : Exit → Act → World → Prop} {X : Prop} (hgd : o.guard = none) (s x : Operand) (E : Enc α)
    (ho : o.op = .call { callee := .builtin .append, args := #[s, x], argTypes := #[E.sty, E.sty] })
    (B : Nat) (v : Value) (l : List α) (hs : a.eval s = v) (hb : RBuf E B w w v l) (Bx : Nat) (vx : Value) (m : List α) (hxv : a.eval x = vx) (hx : RBuf E Bx w w vx m)
    (hlen : (l.length + m.length) * (E.bytes + 1) ≤ 140737488355328)
    (h : ∀ v' w', RBuf E B w' w' v' (l ++ m) → w.grownBy w' v.ownBlock → (v'.ownBlock = v.ownBlock ∨ v'.ownBlock = some w.heap.size) → (∀ k, v.ownBlock = some k → B ≤ k ∧ k < w.heap.size) → K (a.put o.dst v') w') :
    if Region.wanted o (yielded ops a.tmps) = true then Oper.wp Try.prog o a w K Q else X := by
  have hw : Region.wanted o (yielded ops a.tmps) = true := by simp [Region.wanted, hgd]
  rw [if_pos hw]
  exact wp_append_rows s x E ho B v l hs hb Bx vx m hxv hx hlen fun v' w' h2 h3 h4 => h v' w' h2 h3 h4 (fun k hk => hb.own.lt k hk)

/-- One element in a new row, as an append asks for it. -/
theorem RBuf.lit1 (E : Enc α) (w : World) (x : α) : RBuf E w.heap.size (w.alloc (.cells (E.f x).toArray E.ty)) (w.alloc (.cells (E.f x).toArray E.ty)) (.slice (some ⟨w.heap.size, 0, none⟩) 1 1) [x] := by
  refine ⟨?_, Below.refl _ _, by simp⟩
  have := World.ownsRow_lit (base := w.heap.size) (e := E.ty) (size := E.sz) w (E.f x).toArray 1 (Nat.le_refl _) (by decide) (by simp [E.len])
  simpa [E.row_one] using this

end Go.Proofs.Ytichbcpidkkblaa

/- A list that can be read, appended to one of the call's own. -/
namespace Go.Proofs.Ytichbcpidkkblaa
open Go.RowKit

variable {α : Type} {E : Enc α}

theorem run_append_zero {P : Program} {w : World} (base : Nat) (t ty e : TypeId) (i : TypeInfo) (size : Nat) (ht : P.underlying t = some (.slice e)) (hi : P.info? e = some i)
    (v : Value) (n : Nat) (xs : List Value) (hown : w.ownsRow base e size v n xs) (a : Option Addr) (c : Nat) :
    (Builtin.append_ #[t, t] ty #[v, .slice a 0 c]).run P w = .ok v w := by
  rcases hown.2 with ⟨rfl, rfl⟩ | ⟨g, cap, cur, rfl, _, _, hnc, _⟩
  · cases a <;> simp [Builtin.append_, run_underlying ht, sizeOf, typeInfo, hi, Builtin.lenOf, Builtin.firstCells, loadCells, loadCellsFrom]
  · cases a <;> simp [Builtin.append_, run_underlying ht, sizeOf, typeInfo, hi, Builtin.lenOf, Builtin.firstCells, hnc, storeCells, loadCells, loadCellsFrom]

theorem run_append_rd {w : World} (ty : TypeId) (B : Nat) (v : Value) (l : List α) (hb : RBuf E B w w v l) (vx : Value) (m : List α) (hx : Rows' E w vx m)
    (hlen : (l.length + m.length) * (E.bytes + 1) ≤ 140737488355328) :
    ∃ v' w', (Builtin.append_ #[E.sty, E.sty] ty #[v, vx]).run Try.prog w = .ok v' w' ∧ RBuf E B w' w' v' (l ++ m) ∧ w.grownBy w' v.ownBlock ∧ (v'.ownBlock = v.ownBlock ∨ v'.ownBlock = some w.heap.size) := by
  obtain ⟨i0, hi, hz0, hz1, hz2⟩ := info_parts E.info
  have e0 : (l.length + m.length) * (E.bytes + 1) = (l.length + m.length) * E.bytes + (l.length + m.length) := Nat.mul_succ _ _
  rcases hx with ⟨rfl, a, c, rfl⟩ | ⟨g, off, cap, rfl, hc, hg, hcl⟩
  · exact ⟨v, w, run_append_zero (P := Try.prog) B E.sty ty E.ty i0 E.sz E.und hi v l.length (E.row l) hb.own a c, by simpa using hb, World.grownBy.refl _ _, .inl rfl⟩
  · obtain ⟨v', w', h1, h2, h3, _, h5⟩ := run_append_own_at (P := Try.prog) w B E.sty ty E.ty i0 E.zero E.sz E.bytes E.und hi hz0 hz1 hz2 E.zc E.pos v l.length (E.row l) hb.own ⟨g, off, none⟩ m.length cap (E.row m) (E.row_length m)
      (fun j u hu => by
        have hjl : j < m.length * E.sz := by have := (List.getElem?_eq_some_iff.1 hu).1; rwa [E.row_length] at this
        have hp := E.pos
        have hq : j / E.sz < m.length := Nat.div_lt_of_lt_mul (by rw [Nat.mul_comm]; exact hjl)
        have hr : j % E.sz < E.sz := Nat.mod_lt _ hp
        have hj : j / E.sz * E.sz + j % E.sz = j := Nat.div_add_mod' j E.sz
        have hgq : m[j / E.sz]? = some m[j / E.sz] := List.getElem?_eq_getElem hq
        have h6 := E.row_at m (j / E.sz) _ hgq (j % E.sz) hr
        rw [hj, hu] at h6
        have h7 := hcl (j / E.sz) _ hgq (j % E.sz) u h6.symm
        rw [Nat.add_assoc, hj] at h7
        rw [Addr.add_lit]
        exact h7) (E.row_one' m) (by unfold maxLen; omega) (by omega) hb.le
    refine ⟨v', w', h1, ⟨?_, Below.refl _ _, Nat.le_trans hb.le h3.size⟩, h3, h5⟩
    rw [List.length_append, E.row_append]
    exact h2

theorem wp_append_rd {w : World} {o : Oper} {a : Act} {K : Act → World → Prop} {Q : Exit → Act → World → Prop} (s x : Operand) (E : Enc α)
    (ho : o.op = .call { callee := .builtin .append, args := #[s, x], argTypes := #[E.sty, E.sty] })
    (B : Nat) (v : Value) (l : List α) (hs : a.eval s = v) (hb : RBuf E B w w v l) (vx : Value) (m : List α) (hxv : a.eval x = vx) (hx : Rows' E w vx m)
    (hlen : (l.length + m.length) * (E.bytes + 1) ≤ 140737488355328)
    (h : ∀ v' w', RBuf E B w' w' v' (l ++ m) → w.grownBy w' v.ownBlock → (v'.ownBlock = v.ownBlock ∨ v'.ownBlock = some w.heap.size) → K (a.put o.dst v') w') : o.wp Try.prog a w K Q := by
  obtain ⟨v', w', hr, h2, h3, h4⟩ := run_append_rd o.type B v l hb vx m hx hlen
  unfold Oper.wp execOp
  simp only [ho, resolve, invoke, builtin, Sem.run_bind, Sem.run_pure, Result.andThen_ok, List.map_toArray, List.map_cons, List.map_nil, hs, hxv, hr]
  exact h v' w' h2 h3 h4

theorem wpList_append_rd {w : World} {ops : Array Oper} {rest : List Oper} {o : Oper} {a : Act} {Q : Exit → Act → World → Prop} (hgd : o.guard = none) (s x : Operand) (E : Enc α)
    (ho : o.op = .call { callee := .builtin .append, args := #[s, x], argTypes := #[E.sty, E.sty] })
    (B : Nat) (v : Value) (l : List α) (hs : a.eval s = v) (hb : RBuf E B w w v l) (vx : Value) (m : List α) (hxv : a.eval x = vx) (hx : Rows' E w vx m)
    (hlen : (l.length + m.length) * (E.bytes + 1) ≤ 140737488355328)
    (h : ∀ v' w', RBuf E B w' w' v' (l ++ m) → w.grownBy w' v.ownBlock → (v'.ownBlock = v.ownBlock ∨ v'.ownBlock = some w.heap.size) → wpList Try.prog ops Q rest (a.put o.dst v') w') : wpList Try.prog ops Q (o :: rest) a w :=
  wpList_plain hgd fun _ hK => wp_append_rd s x E ho B v l hs hb vx m hxv hx hlen fun v' w' h2 h3 h4 => hK _ _ (h v' w' h2 h3 h4)

end Go.Proofs.Ytichbcpidkkblaa

/- Lists that can be read, and lists put anew element by element. -/
namespace Go.Proofs.Ytichbcpidkkblaa
open Go.RowKit

theorem Rows'.ways {α : Type} {E : Enc α} {w : World} {v : Value} {l : List α} (h : Rows' E w v l) : (l = [] ∧ ∃ (a : Option Addr) (cap : Nat), v = .slice a 0 cap) ∨
    (l ≠ [] ∧ ∃ g off cap : Nat, v = .slice (some ⟨g, off, none⟩) l.length cap ∧ l.length ≤ cap ∧ g < w.heap.size ∧ ∀ j x, l[j]? = some x → ∀ k u, (E.f x)[k]? = some u → w.cell? ⟨g, off + j * E.sz + k, none⟩ = some u) := by
  by_cases hl : l = []
  · subst hl
    rcases h with h | ⟨g, off, cap, hv, _⟩
    · exact .inl h
    · exact .inl ⟨rfl, _, _, hv⟩
  · rcases h with ⟨h, _⟩ | h
    · exact absurd h hl
    · exact .inr ⟨hl, h⟩

theorem grownBy_of_below {w w' : World} (hb : Below w.heap.size w w') (r : Option Nat) : w.grownBy w' r := ⟨hb.os, hb.tape, hb.output, hb.size, fun k hk _ => hb.block k hk⟩

theorem grownBy_store (w : World) (g i : Nat) (v : Value) : w.grownBy (w.setCell ⟨g, i, none⟩ v) (some g) :=
  have b := (Below.refl 0 w).setCell (p := ⟨g, i, none⟩) (Nat.zero_le _) v
  ⟨b.os, b.tape, b.output, b.size, fun k _ hne => Below.heap_setCell w _ _ _ (fun e => hne (by rw [e]))⟩

/-- The first i elements of l put anew. -/
def putTo {α : Type} (m : Nat → α) (l : List α) (i : Nat) : List α := (List.range i).map m ++ l.drop i
theorem putTo_length {α : Type} {m : Nat → α} {i : Nat} {l : List α} (h : i ≤ l.length) : (putTo m l i).length = l.length := by simp [putTo]; omega
theorem putTo_set {α : Type} {m : Nat → α} {i : Nat} {l : List α} (h : i < l.length) : (putTo m l i).set i (m i) = putTo m l (i + 1) := by
  unfold putTo
  rw [List.set_append_right _ _ (by simp)]
  simp only [List.length_map, List.length_range, Nat.sub_self]
  rw [List.drop_eq_getElem_cons h, List.set_cons_zero, List.range_succ, List.map_append, List.append_assoc]
  rfl
theorem putTo_zero {α : Type} (m : Nat → α) (l : List α) : putTo m l 0 = l := by simp [putTo]
theorem putTo_all {α : Type} (m : Nat → α) (l : List α) : putTo m l l.length = (List.range l.length).map m := by simp [putTo]
theorem putTo_at {α : Type} {m : Nat → α} {i : Nat} {l : List α} (h : i < l.length) : (putTo m l i)[i]? = some l[i] := by
  unfold putTo
  rw [List.getElem?_append_right (by simp)]
  simp [h]

end Go.Proofs.Ytichbcpidkkblaa

/- A list that can be read, appended to one that can be read and has no room behind it: something new, or nothing. -/
namespace Go.Proofs.Ytichbcpidkkblaa
open Go.RowKit

variable {α : Type} {E : Enc α}

theorem cells_of_rows {w : World} {g off cap n : Nat} {m : List α} (h : Rows' E w (.slice (some ⟨g, off, none⟩) n cap) m) (hne : m ≠ []) :
    ∀ j u, (E.row m)[j]? = some u → w.cell? ((⟨g, off, none⟩ : Addr).add j) = some u := by
  rcases h.ways with ⟨e, _⟩ | ⟨_, g', off', c', e, _, _, hcl⟩
  · exact absurd e hne
  · simp only [Value.slice.injEq, Option.some.injEq, Addr.mk.injEq] at e
    obtain ⟨⟨rfl, rfl, _⟩, _, _⟩ := e
    intro j u hu
    have hjl : j < m.length * E.sz := by have := (List.getElem?_eq_some_iff.1 hu).1; rwa [E.row_length] at this
    have hp := E.pos
    have hq : j / E.sz < m.length := Nat.div_lt_of_lt_mul (by rw [Nat.mul_comm]; exact hjl)
    have hr : j % E.sz < E.sz := Nat.mod_lt _ hp
    have hj : j / E.sz * E.sz + j % E.sz = j := Nat.div_add_mod' j E.sz
    have hgq : m[j / E.sz]? = some m[j / E.sz] := List.getElem?_eq_getElem hq
    have h6 := E.row_at m (j / E.sz) _ hgq (j % E.sz) hr
    rw [hj, hu] at h6
    have h7 := hcl (j / E.sz) _ hgq (j % E.sz) u h6.symm
    rw [Nat.add_assoc, hj] at h7
    rw [Addr.add_lit]
    exact h7

theorem run_append_full {w : World} (ty : TypeId) (g off n : Nat) (l : List α) (hn : l.length = n) (hne : l ≠ []) (hl : Rows' E w (.slice (some ⟨g, off, none⟩) n n) l) (vx : Value) (m : List α) (hx : Rows' E w vx m)
    (hlen : (n + m.length) * (E.bytes + 1) ≤ 140737488355328) :
    ∃ v' w', (Builtin.append_ #[E.sty, E.sty] ty #[.slice (some ⟨g, off, none⟩) n n, vx]).run Try.prog w = .ok v' w' ∧ Rows' E w' v' (l ++ m) ∧ Below w.heap.size w w' := by
  obtain ⟨i0, hi, hz0, hz1, hz2⟩ := info_parts E.info
  have e0 : (n + m.length) * (E.bytes + 1) = (n + m.length) * E.bytes + (n + m.length) := Nat.mul_succ _ _
  rcases hx.ways with ⟨rfl, a, c, rfl⟩ | ⟨hmne, g2, off2, c, rfl, hc, hg2, hcl⟩
  · refine ⟨_, w, ?_, by rw [List.append_nil]; exact hl, Below.refl _ _⟩
    have ht := E.und
    cases a <;> simp [Builtin.append_, run_underlying ht, sizeOf, typeInfo, hi, Builtin.lenOf, Builtin.firstCells, storeCells, loadCells, loadCellsFrom]
  · have hm0 : 0 < m.length := List.length_pos_iff.2 hmne
    obtain ⟨v', w', h1, h2, h3⟩ := run_append_arg_grows (P := Try.prog) w E.sty ty E.ty i0 E.zero E.sz E.bytes E.und hi hz0 hz1 hz2 E.zc E.pos ⟨g, off, none⟩ n n (E.row l) (by rw [E.row_length, hn]) (cells_of_rows hl hne)
      ⟨g2, off2, none⟩ m.length c (E.row m) (E.row_length m) (cells_of_rows hx hmne) (by omega) (by unfold maxLen; omega) (by omega)
    have hb : Below w.heap.size w w' := ⟨h3.os, h3.tape, h3.output, h3.size, fun k hk => h3.block k hk (by simp)⟩
    refine ⟨v', w', h1, ?_, hb⟩
    have hr : RBuf E w.heap.size w w' v' (l ++ m) := ⟨by rw [List.length_append, hn, E.row_append]; exact h2, hb, h3.size⟩
    exact hr.rows

theorem step_append_full {w : World} {ops : Array Oper} {o : Oper} {a : Act} {K : Act → World → Prop} {Q : Exit → Act → World → Prop} {X : Prop} (hgd : o.guard = none) (s x : Operand) (E : Enc α)
    (ho : o.op = .call { callee := .builtin .append, args := #[s, x], argTypes := #[E.sty, E.sty] })
    (g off n : Nat) (l : List α) (hn : l.length = n) (hne : l ≠ []) (hs : a.eval s = .slice (some ⟨g, off, none⟩) n n) (hl : Rows' E w (.slice (some ⟨g, off, none⟩) n n) l) (vx : Value) (m : List α) (hxv : a.eval x = vx) (hx : Rows' E w vx m)
    (hlen : (n + m.length) * (E.bytes + 1) ≤ 140737488355328)
    (h : ∀ v' w', Rows' E w' v' (l ++ m) → Below w.heap.size w w' → K (a.put o.dst v') w') :
    if Region.wanted o (yielded ops a.tmps) = true then Oper.wp Try.prog o a w K Q else X := by
  have hw : Region.wanted o (yielded ops a.tmps) = true := by simp [Region.wanted, hgd]
  rw [if_pos hw]
  obtain ⟨v', w', hr, h2, h3⟩ := run_append_full o.type g off n l hn hne hl vx m hx hlen
  unfold Oper.wp execOp
  simp only [ho, resolve, invoke, builtin, Sem.run_bind, Sem.run_pure, Result.andThen_ok, List.map_toArray, List.map_cons, List.map_nil, hs, hxv, hr]
  exact h v' w' h2 h3

end Go.Proofs.Ytichbcpidkkblaa

/- The cursor of a draw: what spec.l01Byte, l01Below, l01Once, l01Text, l01Long and l01New hand back: numbers in their ranges, whatever the bytes are. -/
namespace Go.Proofs.Ytichbcpidkkblaa
open Go.RowKit

theorem i64_and255 (n : Int) : bits .and .i64 n 255 = n % 256 := by
  have h1 : (BitVec.ofInt 64 n &&& BitVec.ofInt 64 255).toNat = (BitVec.ofInt 64 n).toNat % 256 := by
    rw [BitVec.toNat_and]
    have e : (BitVec.ofInt 64 255).toNat = 2 ^ 8 - 1 := by decide
    rw [e, Nat.and_two_pow_sub_one_eq_mod]
  show IntKind.i64.wrap ((BitVec.ofInt 64 n &&& BitVec.ofInt 64 255).toNat : Int) = _
  rw [h1, BitVec.toNat_ofInt, IntWalk.i64_in _ ⟨by omega, by omega⟩]
  omega

/-- The bytes of a code can be read, and lie outside the block pc. -/
def Code (w : World) (pc : Nat) (a : Option Addr) (len : Nat) : Prop :=
  ∀ j, j < len → ∃ b off : Nat, a = some ⟨b, off, none⟩ ∧ b ≠ pc ∧ ∃ x : Nat, x < 256 ∧ w.cell? ⟨b, off + j, none⟩ = some (.int .u8 (x : Int))

/-- A cursor in the block pc over a code of len bytes. -/
structure Cur (w : World) (pc : Nat) (a : Option Addr) (len cap : Nat) : Prop where
  blk : ∃ i h : Int, w.heap[pc]? = some (.cells #[.slice a len cap, .int .i64 i, .int .i64 h] 59 (0, 0)) ∧ 0 ≤ i ∧ i ≤ len ∧ (-9223372036854775808 ≤ h ∧ h ≤ 9223372036854775807)
  code : Code w pc a len
  small : len ≤ 1048576

theorem lt_of_heap {w : World} {g : Nat} {o : Obj} (hg : w.heap[g]? = some o) : g < w.heap.size := by
  by_cases hh : g < w.heap.size
  · exact hh
  · rw [Array.getElem?_eq_none (by omega)] at hg; cases hg

theorem Code.grown {w w' : World} {pc : Nat} {a : Option Addr} {len : Nat} (h : Code w pc a len) (hg : w.grownBy w' (some pc)) : Code w' pc a len := by
  intro j hj
  obtain ⟨b, off, ha, hb, x, hx, hc⟩ := h j hj
  exact ⟨b, off, ha, hb, x, hx, hg.cell hc (fun e => hb (Option.some.inj e))⟩

/-- What a draw of one byte leaves. -/
def ByteR (pc : Nat) (a : Option Addr) (len cap : Nat) (w : World) (e : Ending) (w' : World) : Prop :=
  ∃ x : Nat, x < 256 ∧ e = .returned (.int .i64 (x : Int)) ∧ Cur w' pc a len cap ∧ w.grownBy w' (some pc)

theorem grownBy_setCell (w : World) (pc i : Nat) (v : Value) : w.grownBy (w.setCell ⟨pc, i, none⟩ v) (some pc) :=
  have b := (Below.refl 0 w).setCell (p := ⟨pc, i, none⟩) (Nat.zero_le _) v
  ⟨b.os, b.tape, b.output, b.size, fun k _ hne => Below.heap_setCell w _ _ _ (fun e => hne (by rw [e]))⟩

theorem grownBy_drewN (w : World) (n : Nat) (r : Option Nat) : w.grownBy (w.drewN n) r := ⟨rfl, rfl, rfl, Nat.le_refl _, fun _ _ _ => rfl⟩

theorem wrap64_range (n : Int) : -9223372036854775808 ≤ wrap64 n ∧ wrap64 n ≤ 9223372036854775807 := by
  unfold wrap64; omega

set_option maxRecDepth 100000 in
set_option maxHeartbeats 2000000 in
theorem byte_any (pc : Nat) (a : Option Addr) (len cap : Nat) (w : World) (hc : Cur w pc a len cap) :
    Calls Try.prog 23 #[.pointer (some ⟨pc, 0, none⟩)] w fun e w' => ByteR pc a len cap w e w' := by
  obtain ⟨i, h, hblk, hi0, hi1, hh1, hh2⟩ := hc.blk
  have hcode := hc.code
  have hsm := hc.small
  have c0 : w.cell? ⟨pc, 0, none⟩ = some (.slice a len cap) := by rw [Joins.cell_of_block hblk]; rfl
  have c1 : w.cell? ⟨pc, 1, none⟩ = some (.int .i64 i) := by rw [Joins.cell_of_block hblk]; rfl
  have c2 : w.cell? ⟨pc, 2, none⟩ = some (.int .i64 h) := by rw [Joins.cell_of_block hblk]; rfl
  have f1 : w.frozen? ⟨pc, 1, none⟩ = false := Joins.unfrozen_of_block hblk 1
  have f2 : w.frozen? ⟨pc, 2, none⟩ = false := Joins.unfrozen_of_block hblk 2
  go_enter Try.func23, Try.ntmps23
  go_wp2
  have hHb := wrap64_range (wrap64 (h * 6364136223846793005) + 1442695040888963407)
  generalize wrap64 (wrap64 (h * 6364136223846793005) + 1442695040888963407) = H at hHb ⊢
  have hg1 := grownBy_setCell w pc 2 (.int .i64 H)
  have hblk1 : (w.setCell ⟨pc, 2, none⟩ (.int .i64 H)).heap[pc]? = some (.cells #[.slice a len cap, .int .i64 i, .int .i64 H] 59 (0, 0)) := Joins.block_setCell hblk _
  have hcode1 := hcode.grown hg1
  clear c0 c1 c2 f1 f2
  generalize w.setCell ⟨pc, 2, none⟩ (.int .i64 H) = w1 at *
  have c0 : w1.cell? ⟨pc, 0, none⟩ = some (.slice a len cap) := by rw [Joins.cell_of_block hblk1]; rfl
  have c1 : w1.cell? ⟨pc, 1, none⟩ = some (.int .i64 i) := by rw [Joins.cell_of_block hblk1]; rfl
  have c2 : w1.cell? ⟨pc, 2, none⟩ = some (.int .i64 H) := by rw [Joins.cell_of_block hblk1]; rfl
  have f1 : w1.frozen? ⟨pc, 1, none⟩ = false := Joins.unfrozen_of_block hblk1 1
  have HB : Hid (w1.heap[pc]? = some (.cells #[.slice a len cap, .int .i64 i, .int .i64 H] 59 (0, 0))) := hblk1
  have HC : Hid (Code w1 pc a len) := hcode1
  clear hblk1 hblk hcode1 hcode hc
  go_quiet (fail)
  go_wp2
  rw [i64_and255]
  have hx0 : 0 ≤ bits .xor .i64 (H / 8589934592) (H / 35184372088832) % 256 ∧ bits .xor .i64 (H / 8589934592) (H / 35184372088832) % 256 < 256 := by omega
  generalize bits .xor .i64 (H / 8589934592) (H / 35184372088832) % 256 = x at hx0 ⊢
  obtain ⟨hx1, hx2⟩ := hx0
  by_cases hlt : i < (len : Int)
  · have hij : i.toNat < len := by omega
    obtain ⟨b, off, rfl, hbne, y, hy, hcy⟩ := HC.out i.toNat hij
    obtain ⟨k, rfl⟩ := Int.eq_ofNat_of_zero_le hi0
    rw [Int.toNat_natCast] at hcy
    go_quiet (fail)
    go_wp2
    go_quiet (fail)
    go_wp2
    rw [i64_and255]
    go_ret
    have hg2 := fun n => (grownBy_drewN w1 n (some pc)).trans (grownBy_setCell _ pc 1 (.int .i64 ((k : Int) + 1)))
    exact ⟨((x + (y : Int)) % 256).toNat, by omega, by rw [Int.toNat_of_nonneg (by omega)]; rfl,
      ⟨⟨(k : Int) + 1, H, Joins.block_setCell HB.out _, by omega, by omega, hHb⟩, HC.out.grown (hg2 _), hsm⟩, hg1.trans (hg2 _)⟩
  · go_quiet (fail)
    go_wp2
    go_ret
    have hg2 := fun n => grownBy_drewN w1 n (some pc)
    exact ⟨x.toNat, by omega, by rw [Int.toNat_of_nonneg (by omega)]; rfl, ⟨⟨i, H, HB.out, by omega, by omega, hHb⟩, HC.out.grown (hg2 _), hsm⟩, hg1.trans (hg2 _)⟩

theorem ByteR.after {pc : Nat} {a : Option Addr} {len cap : Nat} {w0 w w' : World} {e : Ending} (h0 : w0.grownBy w (some pc)) (h : ByteR pc a len cap w e w') :
    ∃ x : Nat, x < 256 ∧ e = .returned (.int .i64 (x : Int)) ∧ Cur w' pc a len cap ∧ w0.grownBy w' (some pc) := by
  obtain ⟨x, hx, he, hc, hg⟩ := h
  exact ⟨x, hx, he, hc, h0.trans hg⟩

/-- What a draw of a number below n leaves. -/
def BelowR (n : Int) (pc : Nat) (a : Option Addr) (len cap : Nat) (w : World) (e : Ending) (w' : World) : Prop :=
  ∃ x : Nat, (0 < n → (x : Int) < n) ∧ (n ≤ 0 → x = 0) ∧ e = .returned (.int .i64 (x : Int)) ∧ Cur w' pc a len cap ∧ w.grownBy w' (some pc)

set_option maxRecDepth 100000 in
set_option maxHeartbeats 1000000 in
theorem below_any (n : Int) (pc : Nat) (a : Option Addr) (len cap : Nat) (w : World) (hc : Cur w pc a len cap) (hn : n ≤ 9223372036854775807) :
    Calls Try.prog 24 #[.pointer (some ⟨pc, 0, none⟩), .int .i64 n] w fun e w' => BelowR n pc a len cap w e w' := by
  by_cases h0 : n ≤ 0
  · go_enter Try.func24, Try.ntmps24
    go_wp2
    go_ret
    exact ⟨0, by omega, by omega, rfl, hc, World.grownBy.refl _ _⟩
  · by_cases h1 : n ≤ 256
    · go_enter Try.func24, Try.ntmps24
      go_wp2_with (go_at_call 23; refine (byte_any pc a len cap _ hc).mono ?_; rintro e w1 ⟨x, hx, rfl, hc1, hg1⟩)
      go_ret
      have hm1 := Int.emod_nonneg (x : Int) (show n ≠ 0 by omega)
      have hm2 := Int.emod_lt_of_pos (x : Int) (show 0 < n by omega)
      exact ⟨((x : Int) % n).toNat, by omega, by omega, by rw [Int.toNat_of_nonneg hm1]; rfl, hc1, hg1⟩
    · go_enter Try.func24, Try.ntmps24
      go_wp2_with fail
      refine (byte_any pc a len cap _ hc).mono ?_
      rintro e w1 ⟨x, hx, rfl, hc1, hg1⟩
      go_wp2_with fail
      refine (byte_any pc a len cap _ hc1).mono ?_
      rintro e w2 ⟨y, hy, rfl, hc2, hg2⟩
      go_wp2_with fail
      refine (byte_any pc a len cap _ hc2).mono ?_
      rintro e w3 ⟨z, hz, rfl, hc3, hg3⟩
      go_wp2_with fail
      refine (byte_any pc a len cap _ hc3).mono ?_
      rintro e w4 ⟨u, hu, rfl, hc4, hg4⟩
      go_wp2
      go_ret
      have hg : w.grownBy w4 (some pc) := ((hg1.trans hg2).trans hg3).trans hg4
      generalize hX : (x : Int) * 16777216 + (y : Int) * 65536 + (z : Int) * 256 + (u : Int) = X
      have hX0 : 0 ≤ X := by omega
      have hm1 := Int.emod_nonneg X (show n ≠ 0 by omega)
      have hm2 := Int.emod_lt_of_pos X (show 0 < n by omega)
      exact ⟨(X % n).toNat, by omega, by omega, by rw [Int.toNat_of_nonneg hm1, ← hX]; rfl, hc4, hg⟩

theorem once_any (n : Int) (pc : Nat) (a : Option Addr) (len cap : Nat) (w : World) (hc : Cur w pc a len cap) (hn : n ≤ 9223372036854775807) :
    Calls Try.prog 34 #[.pointer (some ⟨pc, 0, none⟩), .int .i64 n] w fun e w' => (e = .returned (.bool true) ∨ e = .returned (.bool false)) ∧ Cur w' pc a len cap ∧ w.grownBy w' (some pc) := by
  go_enter Try.func34, Try.ntmps34
  go_wp2_with (go_at_call 24; refine (below_any n pc a len cap _ hc hn).mono ?_; rintro e w1 ⟨x, hx, hx2, rfl, hc1, hg1⟩)
  go_ret
  refine ⟨?_, hc1, hg1⟩
  by_cases h0 : x = 0
  · left; rw [h0]; rfl
  · right
    have : ((x : Int) == 0) = false := beq_eq_false_iff_ne.2 (by omega)
    show Ending.returned (.bool ((x : Int) == 0)) = _
    rw [this]

end Go.Proofs.Ytichbcpidkkblaa

/- What spec.l01Long hands back. -/
namespace Go.Proofs.Ytichbcpidkkblaa
open Go.RowKit

theorem Buf.stored {B : Nat} {w0 w : World} {g cap : Nat} {l : List UInt8} (h : Buf B w0 w (.slice (some ⟨g, 0, none⟩) l.length cap) l) (j : Nat) (t : UInt8) :
    Buf B w0 (w.setCell ⟨g, j, none⟩ (.int .u8 (t.toNat : Int))) (.slice (some ⟨g, 0, none⟩) l.length cap) (l.set j t) := by
  have hst := h.own.stored j (.int .u8 (t.toNat : Int))
  have e : bytesV (l.set j t) = (bytesV l).set j (.int .u8 (t.toNat : Int)) := by simp [bytesV, List.map_set]
  refine ⟨?_, h.bel.setCell (h.own.lt g rfl).1 _, by have := h.le; simpa using this⟩
  have hl : (l.set j t).length = l.length := by simp
  rw [hl, e]
  exact hst.1

/-- make([]byte, n). -/
theorem wpList_make_zeros {w : World} {ops : Array Oper} {rest : List Oper} {o : Oper} {a : Act} {Q : Exit → Act → World → Prop} (hg : o.guard = none) (l c : Operand) (hop : o.op = Op.makeSlice 22 l c)
    (kl kc : IntKind) (L C : Int) (n : Nat) (hl : a.eval l = .int kl L) (hc : a.eval c = .int kc C) (hL : L = (n : Int)) (hC : C = (n : Int)) (hn : n ≤ 281474976710656)
    (h : ∀ w' g, Buf w.heap.size w w' (.slice (some ⟨g, 0, none⟩) n n) (List.replicate n 0) → wpList Try.prog ops Q rest (a.put o.dst (.slice (some ⟨g, 0, none⟩) n n)) w') : wpList Try.prog ops Q (o :: rest) a w := by
  obtain ⟨i0, hi, hz0, hz1, hz2⟩ := info_parts Try.info_u8
  refine wpList_make_full w hg l c 22 hop w.heap.size 5 i0 (.int .u8 0) 1 Try.underlying22 hi hz0 hz1 kl kc L C n hl hc hL hC (by rw [hz2]; omega) (by unfold maxLen; omega) (Nat.le_refl _) ?_
  intro w' hown hgrow
  refine h w' w.heap.size ⟨?_, (Below.refl _ _).grown hgrow (Nat.le_refl _) (fun k hk => by cases hk), hgrow.size⟩
  have e : (madeCells (Value.int .u8 0).cells (n * 1)).toList = bytesV (List.replicate n 0) := by
    rw [Nat.mul_one]
    show (madeCells #[Value.int .u8 0] n).toList = _
    rw [toList_madeCells_one]
    simp [bytesV]
  rw [e] at hown
  simpa using hown

def longTo (n k : Nat) (x : UInt8) : List UInt8 := List.replicate k x ++ List.replicate (n - k) 0
theorem longTo_length {n k : Nat} {x : UInt8} (h : k ≤ n) : (longTo n k x).length = n := by simp [longTo]; omega
theorem longTo_set {n k : Nat} {x : UInt8} (h : k < n) : (longTo n k x).set k x = longTo n (k + 1) x := by
  unfold longTo
  rw [List.set_append_right _ _ (by simp)]
  simp only [List.length_replicate, Nat.sub_self]
  rw [show n - k = (n - (k + 1)) + 1 by omega, List.replicate_succ, List.set_cons_zero, List.replicate_succ', List.append_assoc]
  rfl
theorem longTo_all (n : Nat) (x : UInt8) : longTo n n x = List.replicate n x := by simp [longTo]

set_option maxRecDepth 100000 in
set_option maxHeartbeats 1000000 in
theorem long_any (n : Nat) (x : UInt8) (w : World) (hn : n ≤ 1048576) :
    Calls Try.prog 32 #[.int .i64 (n : Int), .int .u8 (x.toNat : Int)] w fun e w' => e = .returned (.string ⟨(List.replicate n x).toArray⟩) ∧ Below w.heap.size w w' := by
  go_enter Try.func32, Try.ntmps32
  go_wp2_with (at_make; refine wpList_make_zeros rfl _ _ rfl .i64 .i64 _ _ n rfl rfl rfl rfl (by omega) ?_; intro w1 g hb1)
  go_loopw [6] (fun iv wr => ∃ k : Nat, k ≤ n ∧ iv = .int .i64 (k : Int) ∧ Buf w.heap.size w wr (.slice (some ⟨g, 0, none⟩) n n) (longTo n k x)) (fun iv _ => n - (intOf iv).toNat)
  case atStart => exact ⟨0, by omega, rfl, by simpa [longTo] using hb1⟩
  case round =>
    obtain ⟨k, hk, rfl, hb⟩ := hrel
    by_cases hlt : k < n
    · have hml := longTo_length (x := x) hk
      have hms : Hid ((longTo n k x).set k x = longTo n (k + 1) x) := longTo_set hlt
      have hbm : Buf w.heap.size w wr (.slice (some ⟨g, 0, none⟩) (longTo n k x).length n) (longTo n k x) := by rw [hml]; exact hb
      have hc1 : wr.cell? ⟨g, k, none⟩ = some (.int .u8 (((longTo n k x)[k]'(by omega)).toNat : Int)) := by
        rw [hbm.own.cellAt k (by omega)]
        simp only [bytesV, List.getElem?_map]
        rw [List.getElem?_eq_getElem (by omega)]
        rfl
      have hf1 : wr.frozen? ⟨g, k, none⟩ = false := hbm.own.frozenAt k
      have hst := hbm.stored k x
      rw [hms.out, hml] at hst
      generalize (longTo n k x)[k]'(by omega) = t at hc1
      clear hml hbm
      go_wp2
      go_roundw
      case rel => exact ⟨k + 1, by omega, by go_num, hst⟩
      case measure => simp [intOf]; omega
    · have hfin : Hid (k = n) := by show k = n; omega
      have hcv := hb.toString
      go_wp2
      go_ret
      exact ⟨by rw [hfin.out, longTo_all]; rfl, hb.bel⟩

end Go.Proofs.Ytichbcpidkkblaa

/- A cursor made, and what is drawn with it: what spec.l01New, l01Text, l01Long and l01PickInt hand back. -/
namespace Go.Proofs.Ytichbcpidkkblaa
open Go.RowKit

theorem i64_and30 (n : Int) : bits .and .i64 n 1073741823 = n % 1073741824 := by
  have h1 : (BitVec.ofInt 64 n &&& BitVec.ofInt 64 1073741823).toNat = (BitVec.ofInt 64 n).toNat % 2 ^ 30 := by
    rw [BitVec.toNat_and]
    have e : (BitVec.ofInt 64 1073741823).toNat = 2 ^ 30 - 1 := by decide
    rw [e, Nat.and_two_pow_sub_one_eq_mod]
  show IntKind.i64.wrap ((BitVec.ofInt 64 n &&& BitVec.ofInt 64 1073741823).toNat : Int) = _
  rw [h1, BitVec.toNat_ofInt, IntWalk.i64_in _ ⟨by omega, by omega⟩]
  omega

/-- The bytes of a slice that can be read. -/
def CodeIn (w : World) (a : Option Addr) (len : Nat) : Prop :=
  ∀ j, j < len → ∃ b off : Nat, a = some ⟨b, off, none⟩ ∧ b < w.heap.size ∧ ∃ x : Nat, x < 256 ∧ w.cell? ⟨b, off + j, none⟩ = some (.int .u8 (x : Int))

theorem CodeIn.later {w w' : World} {a : Option Addr} {len : Nat} (h : CodeIn w a len) (hb : Below w.heap.size w w') : CodeIn w' a len := by
  intro j hj
  obtain ⟨b, off, ha, hlt, x, hx, hc⟩ := h j hj
  exact ⟨b, off, ha, Nat.lt_of_lt_of_le hlt hb.size, x, hx, (hb.cell (p := ⟨b, off + j, none⟩) hlt).trans hc⟩

theorem codeIn_of_row {W : World} {x : Addr} {len cap : Nat} {zs : List Int} (hl : len ≤ cap) (hz : zs.length = cap) (hcell : ∀ i, i < zs.length → W.cell? (x.add i) = some (.int .u8 (zs.getD i 0)))
    (hwz : ∀ n ∈ zs, (Lit.int .u8 n).wf = true) : CodeIn W (some x) len := by
  intro j hj
  obtain ⟨b, off, spot⟩ := x
  have hc0 := hcell 0 (by omega)
  have hspot : spot = none := by simpa [Addr.add] using World.cell?_spot hc0
  subst hspot
  have hc := hcell j (by omega)
  have hm : zs.getD j 0 ∈ zs := by
    rw [List.getD_eq_getElem?_getD, List.getElem?_eq_getElem (show j < zs.length by omega)]
    exact List.getElem_mem _
  have hb := bounds_u8 (hwz _ hm)
  have hc2 : W.cell? ⟨b, off + j, none⟩ = some (.int .u8 (zs.getD j 0)) := by rw [Addr.add_lit] at hc; exact hc
  refine ⟨b, off, rfl, World.block_lt_of_cell? W _ hc2, (zs.getD j 0).toNat, by omega, ?_⟩
  rw [hc2, Int.toNat_of_nonneg hb.1]

/-- A new cursor. -/
def NewR (a : Option Addr) (len cap : Nat) (w : World) (e : Ending) (w' : World) : Prop :=
  ∃ pc : Nat, w.heap.size ≤ pc ∧ e = .returned (.pointer (some ⟨pc, 0, none⟩)) ∧ Cur w' pc a len cap ∧ Below w.heap.size w w'

theorem newR_mk {a : Option Addr} {len cap : Nat} {w : World} (hcode : CodeIn w a len) (hs : len ≤ 1048576) (h : Int) (h1 : -9223372036854775808 ≤ h ∧ h ≤ 9223372036854775807) :
    NewR a len cap w (.returned (.pointer (some ⟨w.heap.size, 0, none⟩))) (w.alloc (.cells #[.slice a len cap, .int .i64 0, .int .i64 h] 59)) := by
  have hb : Below w.heap.size w (w.alloc (.cells #[.slice a len cap, .int .i64 0, .int .i64 h] 59)) := (Below.refl _ _).alloc (Nat.le_refl _) _
  refine ⟨w.heap.size, Nat.le_refl _, rfl, ⟨⟨0, h, heap_alloc_new w _, by omega, by omega, h1⟩, ?_, hs⟩, hb⟩
  intro j hj
  obtain ⟨b, off, ha, hlt, x, hx, hc⟩ := hcode j hj
  exact ⟨b, off, ha, by omega, x, hx, (hb.cell (p := ⟨b, off + j, none⟩) hlt).trans hc⟩

set_option maxRecDepth 100000 in
set_option maxHeartbeats 1000000 in
theorem new_any (a : Option Addr) (len cap : Nat) (w : World) (hcode : CodeIn w a len) (hs : len ≤ 1048576) :
    Calls Try.prog 22 #[.slice a len cap] w fun e w' => NewR a len cap w e w' := by
  go_enter Try.func22, Try.ntmps22
  go_wp2
  go_loop [3, 4] (fun hv iv => ∃ (k : Nat) (h : Int), k ≤ len ∧ iv = .int .i64 (k : Int) ∧ hv = .int .i64 h ∧ 0 ≤ h ∧ h ≤ 1073741824) (fun _ iv => len - (intOf iv).toNat)
  case atStart => exact ⟨0, _, by omega, rfl, rfl, by omega, by omega⟩
  case round =>
    obtain ⟨k, h, hk, rfl, rfl, hh0, hh1⟩ := hrel
    by_cases hlt : k < len ∧ k < 4000
    · obtain ⟨h1, h2⟩ := hlt
      obtain ⟨b, off, rfl, hb, x, hx, hc⟩ := hcode k h1
      go_wp2
      rw [i64_and30]
      go_round
      case rel => exact ⟨k + 1, _, by omega, by go_num, rfl, by omega, by omega⟩
      case measure => simp [intOf]; omega
    · by_cases h1 : k < len
      · have h2 : ¬ k < 4000 := fun h => hlt ⟨h1, h⟩
        clear hlt
        go_wp2
        go_ret
        exact newR_mk hcode hs h ⟨by omega, by omega⟩
      · clear hlt
        go_wp2
        go_ret
        exact newR_mk hcode hs h ⟨by omega, by omega⟩

theorem grownBy_below {w w1 w2 : World} {r : Option Nat} {B : Nat} (h : w.grownBy w1 r) (hb : Below B w1 w2) (hB : w.heap.size ≤ B) : w.grownBy w2 r :=
  ⟨hb.os.trans h.os, hb.tape.trans h.tape, hb.output.trans h.output, Nat.le_trans h.size hb.size, fun k hk hne => (hb.block k (Nat.lt_of_lt_of_le hk hB)).trans (h.block k hk hne)⟩

theorem Cur.below {w w' : World} {pc : Nat} {a : Option Addr} {len cap B : Nat} (h : Cur w pc a len cap) (hb : Below B w w') (hp : pc < B) (hcb : ∀ b off, a = some ⟨b, off, none⟩ → 0 < len → b < B) : Cur w' pc a len cap := by
  obtain ⟨i, hh, hblk, h1, h2, h3⟩ := h.blk
  refine ⟨⟨i, hh, (hb.block pc hp).trans hblk, h1, h2, h3⟩, ?_, h.small⟩
  intro j hj
  obtain ⟨b, off, ha, hne, x, hx, hc⟩ := h.code j hj
  exact ⟨b, off, ha, hne, x, hx, (hb.cell (p := ⟨b, off + j, none⟩) (hcb b off ha (by omega))).trans hc⟩

theorem Cur.codeLt {w : World} {pc : Nat} {a : Option Addr} {len cap : Nat} (h : Cur w pc a len cap) : ∀ b off, a = some ⟨b, off, none⟩ → 0 < len → b < w.heap.size := by
  intro b off ha h0
  obtain ⟨b', off', ha', _, x, _, hc⟩ := h.code 0 h0
  rw [ha] at ha'
  have e := Option.some.inj ha'
  injection e with e1 e2
  subst e1
  exact World.block_lt_of_cell? w _ hc

theorem Cur.lt {w : World} {pc : Nat} {a : Option Addr} {len cap : Nat} (h : Cur w pc a len cap) : pc < w.heap.size := by
  obtain ⟨i, hh, hblk, _⟩ := h.blk
  exact lt_of_heap hblk

/-- What is built anew stays where it is while the cursor goes on. -/
theorem Buf.cursor {B : Nat} {w w' : World} {v : Value} {l : List UInt8} {pc : Nat} (h : Buf B w w v l) (hg : w.grownBy w' (some pc)) (hp : pc < B) : Buf B w' w' v l := by
  refine ⟨h.own.kept hg ?_, Below.refl _ _, Nat.le_trans h.le hg.size⟩
  cases hv : v.ownBlock with
  | none => exact .inl rfl
  | some k => exact .inr (by intro e; have := (h.own.lt k hv).1; have := Option.some.inj e; omega)

theorem Buf.here {B : Nat} {w0 w : World} {v : Value} {l : List UInt8} (h : Buf B w0 w v l) : Buf B w w v l := ⟨h.own, Below.refl _ _, h.le⟩

/-- A drawn text. -/
def TextR (n : Int) (pc : Nat) (a : Option Addr) (len cap : Nat) (w : World) (e : Ending) (w' : World) : Prop :=
  ∃ s : ByteArray, s.size ≤ 5000 ∧ ((s.size : Int) = n ∨ (n ≤ 0 ∧ s.size = 0)) ∧ e = .returned (.string s) ∧ Cur w' pc a len cap ∧ w.grownBy w' (some pc)


/-- One of a list of numbers. -/
def PickR (g n pc : Nat) (a : Option Addr) (len cap : Nat) (w : World) (e : Ending) (w' : World) : Prop :=
  ∃ (j : Nat) (x : Int), j < n ∧ w.cell? ⟨g, j, none⟩ = some (.int .i64 x) ∧ e = .returned (.int .i64 x) ∧ Cur w' pc a len cap ∧ w.grownBy w' (some pc)


end Go.Proofs.Ytichbcpidkkblaa
