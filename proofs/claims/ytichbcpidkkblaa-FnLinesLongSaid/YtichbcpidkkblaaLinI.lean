/- Lines: TakeLine of the program: the first line's bytes come over a channel into a builder. -/
import Derived.Test.YtichbcpidkkblaaLinC
import Derived.Test.YtichbcpidkkblaaLowI
import Derived.Test.YtichbcpidkkblaaClone
import Derived.Deep.CutBlock
namespace Go.Proofs.Ytichbcpidkkblaa
open Go.RowKit Go.Conc

theorem last1 {s : ByteArray} (h : 0 < s.size) : ((s.extract (s.size - 1) s.size).toList == [13]) = true ↔ s.data.toList[s.size - 1]? = some 13 := by
  rw [Go.Lib.toList_data, extract_data, beq_iff_eq]
  have hl : s.data.toList.length = s.size := ba_len s
  have hx : s.size - 1 < s.data.toList.length := by omega
  rw [List.drop_eq_getElem_cons hx, List.getElem?_eq_getElem hx, show s.size - 1 + 1 = s.data.toList.length by omega, List.drop_length, show s.size - (s.size - 1) = 1 by omega]
  simp

set_option maxHeartbeats 1000000 in
set_option maxRecDepth 100000 in
theorem trimCr (s : ByteArray) (w : World) (hs : s.size ≤ 1000) :
    Calls Try.prog 42 #[.string s, .string { data := #[13] }] w fun e w' => (∃ t : ByteArray, e = .returned (.string t) ∧ (0 < s.size ∧ s.data.toList[s.size - 1]? = some 13 → t.size = s.size - 1) ∧ (¬ (0 < s.size ∧ s.data.toList[s.size - 1]? = some 13) → t.size = s.size)) ∧ w' = w := by
  by_cases h0 : 0 < s.size
  · have g0 : (1 : Int) ≤ (s.size : Int) := by omega
    have gw : IntKind.i64.wrap ((s.size : Int) - 1) = ((s.size - 1 : Nat) : Int) := by
      rw [show ((s.size : Int) - 1) = ((s.size - 1 : Nat) : Int) by omega]; exact IntWalk.i64_in _ ⟨by omega, by omega⟩
    have g1 : (0 : Int) ≤ ((s.size - 1 : Nat) : Int) := by omega
    have g2 : ((s.size - 1 : Nat) : Int) ≤ (s.size : Int) := by omega
    have hL := Lib.hid (last1 h0)
    go_enter Try.func42, Try.ntmps42
    go_wp2
    · rename_i hb
      have hc := hL.out.1 hb
      go_ret
      exact ⟨⟨_, rfl, fun _ => by rw [ByteArray.size_extract]; omega, fun h => absurd ⟨h0, hc⟩ h⟩, rfl⟩
    · rename_i hb
      have hc : ¬ (s.data.toList[s.size - 1]? = some 13) := fun h => by
        have := hL.out.2 h
        rw [hb] at this
        exact absurd this (by decide)
      go_ret
      exact ⟨⟨_, rfl, fun h => absurd h.2 hc, fun _ => rfl⟩, rfl⟩
  · have e0 : s.size = 0 := by omega
    have g0 : ¬ (1 : Int) ≤ (s.size : Int) := by omega
    go_enter Try.func42, Try.ntmps42
    go_wp2
    go_ret
    have es : s = ByteArray.empty := ByteArray.size_eq_zero_iff.1 e0
    exact ⟨by rw [es]; rfl, rfl⟩

set_option maxHeartbeats 1000000 in
set_option maxRecDepth 100000 in
theorem mayEnd_any (s : ByteArray) (w : World) (hs : s.size ≤ 1000) :
    Calls Try.prog 30 #[.string s] w fun e w' => (∃ t : Bool, e = .returned (.bool t) ∧ (t = true ↔ s.size ≤ 80 ∨ (s.size = 81 ∧ s.data.toList[80]? = some 13))) ∧ w' = w := by
  go_enter Try.func30, Try.ntmps30
  go_wp2_with (go_at_call 42; refine (trimCr _ _ hs).mono ?_; rintro e w1 ⟨⟨t, rfl, h1, h2⟩, rfl⟩; have H1 := Lib.hid h1; have H2 := Lib.hid h2; clear h1 h2)
  go_ret
  refine ⟨⟨_, rfl, ?_⟩, rfl⟩
  by_cases h : 0 < s.size ∧ s.data.toList[s.size - 1]? = some 13
  · have := H1.out h
    simp only [decide_eq_true_eq]
    constructor
    · intro hx
      by_cases h8 : s.size ≤ 80
      · exact .inl h8
      · have e8 : s.size = 81 := by omega
        exact .inr ⟨e8, by have := h.2; rwa [e8] at this⟩
    · rintro (hx | ⟨hx, _⟩) <;> omega
  · have := H2.out h
    simp only [decide_eq_true_eq]
    constructor
    · intro hx; exact .inl (by omega)
    · rintro (hx | ⟨hx, hy⟩)
      · omega
      · exact absurd ⟨by omega, by rw [hx]; exact hy⟩ h

theorem setChan_grown (w : World) (c cap : Nat) (buf : Array Value) (cl : Bool) (s r : Nat) (tm : Bool) : w.grownBy (w.setChan c cap buf cl s r tm) (some c) :=
  ⟨rfl, rfl, rfl, by simp [World.setChan], fun k _ hne => by simp only [World.setChan]; rw [Array.getElem?_setIfInBounds_ne (fun e => hne (by rw [e]))]⟩

theorem Bld.setChan {B b : Nat} {bs : List Value} {w : World} (h : Bld B b bs w) {c : Nat} (hc : c < B) (hb : b ≠ c) (cap : Nat) (buf : Array Value) (cl : Bool) (s r : Nat) (tm : Bool) : Bld B b bs (w.setChan c cap buf cl s r tm) := by
  obtain ⟨h1, p, v, h2, h3, h4⟩ := h
  have hg := setChan_grown w c cap buf cl s r tm
  exact ⟨h1, p, v, h2, (hg.block b h3.lt (fun e => hb (Option.some.inj e))).trans h3, h4.kept hg (.inr (fun e => by have := (h4.lt c e).1; omega))⟩

theorem ChHas.got {w w0 : World} {c cap m j C : Nat} {l : List UInt8} (_h : ChHas w c cap (l.drop j) true m j) (hj : j < l.length) (hz : c < w.heap.size) (hb : Below C w0 w) (hC : C ≤ c) :
    0 < ((l.drop j).map fun b => Value.int .u8 (b.toNat : Int)).toArray.size ∧ ((l.drop j).map fun b => Value.int .u8 (b.toNat : Int)).toArray.getD 0 undef = .int .u8 (l[j].toNat : Int) ∧
    ChHas (w.setChan c cap (((l.drop j).map fun b => Value.int .u8 (b.toNat : Int)).toArray.extract 1 ((l.drop j).map fun b => Value.int .u8 (b.toNat : Int)).toArray.size) true m (j + 1) false) c cap (l.drop (j + 1)) true m (j + 1) ∧
    Below C w0 (w.setChan c cap (((l.drop j).map fun b => Value.int .u8 (b.toNat : Int)).toArray.extract 1 ((l.drop j).map fun b => Value.int .u8 (b.toNat : Int)).toArray.size) true m (j + 1) false) := by
  refine ⟨by simp; omega, ?_, ?_, below_setChan hb hC _ _ _ _ _ _⟩
  · rw [List.drop_eq_getElem_cons hj]; rfl
  · unfold ChHas
    rw [heap_setChan _ _ _ _ _ _ _ _ hz, List.drop_eq_getElem_cons hj]
    simp only [List.map_cons, List.size_toArray, List.length_cons, List.extract_toArray, List.extract_eq_take_drop, List.drop_succ_cons, List.drop_zero, Nat.add_sub_cancel, Option.some.injEq, Obj.chan.injEq, Array.mk.injEq, and_true, true_and]
    exact List.take_length

/-- How much is left in a channel. -/
def chLeft (w : World) (c : Nat) : Nat := match w.heap[c]? with | some (.chan _ buf _ _ _ _) => buf.size | _ => 0
theorem ChHas.left {w : World} {c cap s r : Nat} {l : List UInt8} {cl : Bool} (h : ChHas w c cap l cl s r) : chLeft w c = l.length := by
  unfold chLeft; rw [show w.heap[c]? = _ from h]; simp

set_option maxRecDepth 100000 in
set_option maxHeartbeats 4000000 in
theorem implTakeLine_any (s : ByteArray) (w : World) (hs : s.size ≤ 1099511627776) :
    Calls Try.prog 9 #[.string s] w fun e w' => (∃ a b c, e = .returned (.tuple #[.string a, .string b, .int .i64 c]) ∧ TkR s a b c) ∧ Below w.heap.size w w' := by
  go_enter Try.func9, Try.ntmps9
  go_upto_region 3 with fail
  have hmin : (min (s.size : Int) 82).toNat = min s.size 82 := by omega
  rw [hmin]
  obtain ⟨t, ht⟩ : ∃ t, s.extract 0 (min s.size 82) = t := ⟨_, rfl⟩
  have htz : t.size = min s.size 82 := by rw [← ht, ByteArray.size_extract]; omega
  have htl : t.data.toList = s.data.toList.take (min s.size 82) := by rw [← ht, extract_data]; simp
  rw [ht]
  clear ht hmin
  have hnew := Bld.new w
  have hcell : (w.alloc (.cells #[.pointer none, .slice none 0 0] 41)).cell? ⟨w.heap.size, 1, none⟩ = some (.slice none 0 0) := (Box.new w _ _).cell 1 _ rfl
  have hk0 : Below w.heap.size w (w.alloc (.cells #[.pointer none, .slice none 0 0] 41)) := (Below.refl _ _).alloc (Nat.le_refl _) _
  have hz0 : (w.alloc (.cells #[.pointer none, .slice none 0 0] 41)).heap.size = w.heap.size + 1 := by simp
  generalize w.alloc (.cells #[.pointer none, .slice none 0 0] 41) = w0 at *
  obtain ⟨g, hg⟩ : ∃ g, w.heap.size = g := ⟨_, rfl⟩
  have HG := Lib.hid hg
  rw [hg] at hnew hcell hz0 hk0 ⊢
  clear hg
  obtain ⟨mm, hmm⟩ : ∃ mm, min (s.size : Int) 82 = mm := ⟨_, rfl⟩
  rw [hmm]
  clear hmm
  have HTZ := Lib.hid htz
  have HTL := Lib.hid htl
  have ht82 : t.size ≤ 82 := by omega
  clear htz htl
  have hlo := lineOf_any t w0 ht82
  rw [hz0] at hlo
  have HLO := Lib.hid hlo
  have HN0 := Lib.hid hnew
  have HC0 := Lib.hid hcell
  have HK0 := Lib.hid hk0
  clear hlo hnew hcell hk0
  go_upto_block 0 with (go_at_call 25; refine HLO.out.mono ?_; rintro e w1 ⟨m, hm, hcm, hnm, rfl, hch, hz1, hk1⟩; have HM := Lib.hid hm; have HCM := Lib.hid hcm; have HNM := Lib.hid hnm; have HCH := Lib.hid hch; have HZ1 := Lib.hid hz1; have HK1 := Lib.hid hk1; clear hm hcm hnm hch hz1 hk1)
  have hk1 : Below g w w1 := HK0.out.trans (HK1.out.mono (by omega))
  have hB1 : Bld (g + 2) g [] w1 := ((HN0.out.later (by rw [hz0]; exact HK1.out)).from (by omega) (by rw [World.cell?, HK1.out.block g (by omega)]; exact HC0.out))
  obtain ⟨l, hl⟩ : ∃ l, t.data.toList.take m = l := ⟨_, rfl⟩
  have hlm : l.length = m := by rw [← hl, List.length_take, ba_len]; have := HM.out; omega
  have hch1 : ChHas w1 (g + 1) t.size l true m 0 := by rw [← hl]; exact HCH.out
  have HLE := Lib.hid hl
  have HLM := Lib.hid hlm
  have hz1 : g + 2 ≤ w1.heap.size := by have := HZ1.out; omega
  clear HLO HN0 HC0 HK0 HK1 HZ1 HCH hl hlm hz0
  apply wp_block
  go_loopw [15] (fun _ wr => ∃ j : Nat, j ≤ m ∧ Bld (g + 2) g (Lib.byteCells (l.take j)) wr ∧ ChHas wr (g + 1) t.size (l.drop j) true m j ∧ g + 2 ≤ wr.heap.size ∧ Below g w wr) (fun _ wr => chLeft wr (g + 1))
  case atStart => exact ⟨0, by omega, by simpa [Lib.byteCells] using hB1, by simpa using hch1, hz1, hk1⟩
  case round =>
    obtain ⟨j, hj, hA, hC, hZ, hK⟩ := hrel
    have HA := Lib.hid hA
    have HC := Lib.hid hC
    have HZ := Lib.hid hZ
    have HK := Lib.hid hK
    clear hA hC hZ hK hB1 hch1 hz1 hk1
    by_cases hlt : j < m
    · have hjl : j < l.length := by rw [HLM.out]; exact hlt
      obtain ⟨p1, p2, p3, p4⟩ := HC.out.got hjl (by have := HZ.out; omega) HK.out (by omega)
      have p5 := HA.out.setChan (c := g + 1) (by omega) (by omega) t.size (((l.drop j).map fun b => Value.int .u8 (b.toNat : Int)).toArray.extract 1 ((l.drop j).map fun b => Value.int .u8 (b.toNat : Int)).toArray.size) true m (j + 1) false
      have p6 := size_setChan wr (g + 1) t.size (((l.drop j).map fun b => Value.int .u8 (b.toNat : Int)).toArray.extract 1 ((l.drop j).map fun b => Value.int .u8 (b.toNat : Int)).toArray.size) true m (j + 1) false
      go_upto_region 4 with fail
      refine wp_region_at ?_
      show OpsAt _ _ _ [0, 1] _ _
      refine OpsAt.recv (c := g + 1) (z := .int .u8 0) (w' := wr) rfl rfl (by simp [go_sem, rcase]; rfl) HC.out p1 ?_
      rw [p2]
      generalize wr.setChan (g + 1) t.size _ true m (j + 1) false = w2 at *
      simp only [got, if_true]
      refine OpsAt.value (v := .bool true) (w' := w2) rfl rfl (by simp [go_sem]) ?_
      refine OpsAt.nil ?_
      walk_nrm
      have HW := Lib.hid (bldByte2 (g + 2) g (Lib.byteCells (l.take j)) (l[j].toNat : Int) w2 p5 (by have h1 := HM.out; have h2 := HLM.out; rw [byteC_len, List.length_take]; omega) (by rw [p6]; exact HZ.out))
      have HNX : Hid (Lib.byteCells (l.take j) ++ [Value.int .u8 (l[j].toNat : Int)] = Lib.byteCells (l.take (j + 1))) := by
        rw [List.take_succ_eq_append_getElem hjl]; simp only [Lib.byteCells, List.map_append, List.map_cons, List.map_nil, Hid]
      have HP := Lib.hid (show ChHas w2 (g + 1) t.size (l.drop (j + 1)) true m (j + 1) ∧ Below g w w2 ∧ g + 2 ≤ w2.heap.size from ⟨p3, p4, by rw [p6]; exact HZ.out⟩)
      have HLF := Lib.hid HC.out.left
      have HJL := Lib.hid hjl
      clear p1 p2 p3 p4 p5 p6 ht82
      generalize (l[j].toNat : Int) = y at *
      clear hjl
      go_wp2_with (go_at_call 26; refine HW.out.mono ?_; rintro e w3 ⟨rfl, hb3, hk3⟩; have HB3 := Lib.hid hb3; have HK3 := Lib.hid hk3; clear hb3 hk3)
      have c3 : ChHas w3 (g + 1) t.size (l.drop (j + 1)) true m (j + 1) := (HK3.out.block (g + 1) (by omega) (by omega)).trans HP.out.1
      go_roundw
      case rel => exact ⟨j + 1, by omega, by rw [← HNX.out]; exact HB3.out, c3, Nat.le_trans HP.out.2.2 HK3.out.size, HP.out.2.1.trans (HK3.out.below (by omega) (by omega))⟩
      case measure =>
        have q1 := HLF.out
        have q2 := c3.left
        have q3 := HJL.out
        rw [q1, q2, List.length_drop, List.length_drop]; omega
    · have e : j = m := by omega
      subst e
      have hd : l.drop j = [] := by rw [List.drop_eq_nil_iff, HLM.out]; omega
      have htk : l.take j = l := by rw [List.take_of_length_le]; rw [HLM.out]; exact Nat.le_refl _
      have hc0 := HC.out
      rw [hd] at hc0
      have hbf := HA.out
      rw [htk] at hbf
      have HBF := Lib.hid hbf.toF
      clear hd htk hbf hj hlt
      go_upto_region 4 with fail
      refine wp_region_at ?_
      show OpsAt _ _ _ [0, 1] _ _
      refine OpsAt.recvShut (c := g + 1) (z := .int .u8 0) (w' := wr) rfl rfl (by simp [go_sem, rcase]; rfl) hc0 ?_
      simp only [got, if_true]
      refine OpsAt.value (v := .bool false) (w' := wr) rfl rfl (by simp [go_sem]) ?_
      refine OpsAt.nil ?_
      walk_nrm
      have HG1 : Hid (g ≤ wr.heap.size) := by show g ≤ _; have := HZ.out; omega
      have HLT : Hid (∀ i, i + 1 < t.size → (CrAt t i ↔ CrAt s i)) := fun i hi => by
        rw [crAt_of, crAt_of, HTL.out, List.getElem?_take, List.getElem?_take, if_pos (by rw [← HTZ.out]; omega), if_pos (by rw [← HTZ.out]; omega)]
      have HLN0 := fun wx h => bldLen2 g l wx h
      rw [HLM.out] at HLN0
      have HLN := Lib.hid HLN0
      clear HLN0
      clear hc0
      by_cases hlt : j < t.size
      · have hcr := (HLT.out j (HCM.out hlt).1).1 (HCM.out hlt)
        have hj80 : j ≤ 80 := by have h1 : j + 1 < t.size := (HCM.out hlt).1; omega
        have hj2 : j + 2 ≤ s.size := by have h1 : j + 1 < s.size := hcr.1; omega
        have el : (⟨l.toArray⟩ : ByteArray) = s.extract 0 j := by
          apply ba_ext
          rw [extract_data, ← HLE.out, HTL.out]
          simp only [List.drop_zero, Nat.sub_zero, List.take_take]
          rw [Nat.min_eq_left (by rw [← HTZ.out]; omega)]
        have HT : Hid (TkR s (s.extract 0 j) (s.extract (j + 2) s.size) 0) :=
          .inl ⟨j, hj80, hcr, fun i hi h => HNM.out i hi ((HLT.out i (by omega)).2 h), rfl, rfl, rfl⟩
        have HS := fun wx h1 h2 => Lib.hid (bldString2 g l wx h1 h2)
        rw [el] at HS
        have HS' := Lib.hid HS
        have gw : IntKind.i64.wrap ((j : Int) + 2) = ((j + 2 : Nat) : Int) := by rw [show ((j : Int) + 2) = ((j + 2 : Nat) : Int) by omega]; exact IntWalk.i64_in _ ⟨by omega, by omega⟩
        have g1 : (0 : Int) ≤ ((j + 2 : Nat) : Int) := by omega
        have g2 : ((j + 2 : Nat) : Int) ≤ (s.size : Int) := by omega
        have g3 : (j : Int) < (t.size : Int) := by omega
        have hcl : (s.extract (j + 2) s.size).size ≤ 281474976710656 := by rw [ByteArray.size_extract]; omega
        clear HS el hcr hj80 hj2 hlt ht82
        go_upto_region 8 with (go_at_call 27; refine (HLN.out _ HBF.out).mono ?_; rintro e w2 ⟨rfl, rfl⟩)
        go_wp2_with (first
          | (go_at_call 28; refine (HS'.out _ HBF.out HG1.out).out.mono ?_; rintro e w3 ⟨rfl, hb3, hk3⟩; have HB3 := Lib.hid hb3; have HK3 := Lib.hid (HK.out.trans hk3); clear hb3 hk3)
          | (go_at_call 27; refine (HLN.out _ HB3.out).mono ?_; rintro e w4 ⟨rfl, rfl⟩)
          | (go_at_call 29; refine (clone_any _ _ hcl).mono ?_; rintro e w5 ⟨rfl, hk5⟩; have HK5 := Lib.hid (HK3.out.trans (hk5.mono (by have h9 := HK3.out.size; rw [HG.out] at h9; exact h9))); clear hk5))
        go_ret3
        exact ⟨⟨_, _, _, rfl, HT.out⟩, by rw [HG.out]; exact HK5.out⟩
      · have hjt : j = t.size := by have := HM.out; omega
        have g3 : ¬ ((j : Int) < (t.size : Int)) := by omega
        have HNO : Hid (∀ i, i ≤ 80 → ¬ CrAt s i) := fun i hi h => by
          have h1 : i + 1 < s.size := h.1
          have h2 : i + 1 < t.size := by rw [HTZ.out]; omega
          exact HNM.out i (by omega) ((HLT.out i h2).2 h)
        have HME := Lib.hid (mayEnd_any t wr (by omega))
        have HOV : Hid ((t.size ≤ 80 ∨ (t.size = 81 ∧ t.data.toList[80]? = some 13)) → TkR s emp s 1) := by
          intro h
          refine .inr ⟨HNO.out, rfl, .inr ⟨?_, rfl, rfl⟩⟩
          rintro ⟨h1, h2⟩
          rcases h with h | ⟨h, hb⟩
          · have := HTZ.out; omega
          · have e81 : s.size = 81 := by have := HTZ.out; omega
            refine h2 ⟨e81, fun h80 => ?_⟩
            rw [HTL.out, List.getElem?_take, if_pos (by omega)] at hb
            obtain ⟨q1, q2⟩ := List.getElem?_eq_some_iff.1 hb
            show s.data.toList[80].toNat = 13
            rw [q2]; rfl
        have HOW : Hid (¬ (t.size ≤ 80 ∨ (t.size = 81 ∧ t.data.toList[80]? = some 13)) → TkR s emp (s.extract 80 s.size) 2 ∧ 80 ≤ s.size) := by
          intro h
          have h80 : 80 < s.size := by
            rcases Nat.lt_or_ge 80 s.size with h8 | h8
            · exact h8
            · exact absurd (.inl (by rw [HTZ.out]; omega)) h
          refine ⟨.inr ⟨HNO.out, rfl, .inl ⟨⟨h80, ?_⟩, rfl, rfl⟩⟩, by omega⟩
          rintro ⟨e81, hb⟩
          refine h (.inr ⟨by rw [HTZ.out]; omega, ?_⟩)
          rw [HTL.out, List.getElem?_take, if_pos (by omega)]
          have q := hb h80
          have q2 : s.data.toList[80]? = some s[80] := by
            rw [List.getElem?_eq_getElem (by rw [ba_len]; exact h80)]; rfl
          rw [q2]
          exact congrArg some (UInt8.toNat_inj.1 q)
        have hcl : s.size ≤ 281474976710656 := by omega
        have HCL : Hid ((s.extract 80 s.size).size ≤ 281474976710656) := by show _ ≤ _; rw [ByteArray.size_extract]; omega
        clear hlt ht82 hjt
        by_cases hx : t.size ≤ 80 ∨ (t.size = 81 ∧ t.data.toList[80]? = some 13)
        · have HT := Lib.hid (HOV.out hx)
          have HE : Hid (Calls Try.prog 30 #[.string t] wr fun e w' => e = .returned (.bool true) ∧ w' = wr) := HME.out.mono fun e w' ⟨⟨f, he, hf⟩, hw⟩ => ⟨by rw [he, hf.2 hx], hw⟩
          clear HME HOW hx
          go_upto_region 9 with (go_at_call 27; refine (HLN.out _ HBF.out).mono ?_; rintro e w2 ⟨rfl, rfl⟩)
          go_wp2_with (first
            | (go_at_call 30; refine HE.out.mono ?_; rintro e w3 ⟨rfl, rfl⟩)
            | (go_at_call 29; refine (clone_any _ _ hcl).mono ?_; rintro e w5 ⟨rfl, hk5⟩; have HK5 := Lib.hid (HK.out.trans (hk5.mono HG1.out)); clear hk5))
          go_ret3
          exact ⟨⟨_, _, _, rfl, HT.out⟩, by rw [HG.out]; exact HK5.out⟩
        · have HT := Lib.hid (HOW.out hx).1
          have h80 : (80 : Int) ≤ (s.size : Int) := by have := (HOW.out hx).2; omega
          have HE : Hid (Calls Try.prog 30 #[.string t] wr fun e w' => e = .returned (.bool false) ∧ w' = wr) := HME.out.mono fun e w' ⟨⟨f, he, hf⟩, hw⟩ => ⟨by
            have : f = false := by
              cases f with
              | false => rfl
              | true => exact absurd (hf.1 rfl) hx
            rw [he, this], hw⟩
          clear HME HOW HOV hx
          go_upto_region 9 with (go_at_call 27; refine (HLN.out _ HBF.out).mono ?_; rintro e w2 ⟨rfl, rfl⟩)
          go_wp2_with (first
            | (go_at_call 30; refine HE.out.mono ?_; rintro e w3 ⟨rfl, rfl⟩)
            | (go_at_call 29; refine (clone_any _ _ HCL.out).mono ?_; rintro e w5 ⟨rfl, hk5⟩; have HK5 := Lib.hid (HK.out.trans (hk5.mono HG1.out)); clear hk5))
          go_ret3
          exact ⟨⟨_, _, _, rfl, HT.out⟩, by rw [HG.out]; exact HK5.out⟩

end Go.Proofs.Ytichbcpidkkblaa
