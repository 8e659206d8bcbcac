/- For every code: the drawn frames come back from their texts, one behind the other; of their text cut at a drawn place just the whole ones do; nothing that was there is changed; where the table of sixteen words holds what the program's text lays there (the card ties that to the text). -/
import Derived.Test.YtmmgnpjhlmiafabDoorSameFr
import Derived.Test.YtmmgnpjhlmiafabDoorScanI
import Derived.Test.YtmmgnpjhlmiafabDoorPlainFrames
import Derived.Test.YtmmgnpjhlmiafabDoorDrawFr4
import Derived.Test.YtmmgnpjhlmiafabDoorDrawPlaces
import Derived.Test.YtmmgnpjhlmiafabDoorEncs
import Derived.Test.YtmmgnpjhlmiafabDoorSumLaid
import Derived.Test.YtmmgnpjhlmiafabDoorTie
import Derived.Test.YtmmgnpjhlmiafabDoorCards
import Derived.ProofKit
import Derived.LaidMore
import Derived.OpenShut
import Derived.OpenVars
import Derived.Stop.Joined
import Derived.SevenTiedAt
namespace Go.Proofs.YtmmgnpjhlmiafabDoor
open Go.ChangeShapes Go.WideShapes Go.ChangeAt Go.RowKit
open Go.ChangeMaps (open_string shut_string)
set_option linter.unusedVariables false

theorem big_any (a : Option Addr) (len cap : Nat) (w : World) :
    Calls Tryd.prog 5 #[.slice a len cap] w fun e w' => e = .returned (.bool (decide ((1048576 : Int) < (len : Int)))) ∧ w = w' := by
  go_enter Tryd.func5, Tryd.ntmps5
  go_wp2
  go_ret
  exact ⟨rfl, rfl⟩

theorem four4 : ∀ x, (fourOf x).size = 4 := fun _ => rfl

theorem txs_size (l : List Fr) (h : ∀ f ∈ l, f.three) : (txs fourOf l).size ≤ 196 * l.length := by
  induction l with
  | nil => exact Nat.le_refl 0
  | cons f l ih =>
    have h1 := ih (fun x hx => h x (by simp [hx]))
    have h2 : (f.text fourOf).size ≤ 196 := Fr.tx_le (h f (by simp)).1
    rw [txs, ByteArray.size_append, List.length_cons]
    omega

theorem scan_cut (l : List Fr) (h : ∀ f ∈ l, f.three) (c : Nat) (hc : c ≤ (txs fourOf l).size) : scan ((txs fourOf l).extract 0 c) 3 = whole fourOf c 0 l := by
  have := sq_cut (four := fourOf) four4 3 c l ⟨#[]⟩ (fun f hf => ⟨(h f hf).1, (h f hf).2.1⟩) (Nat.zero_le _) (by rw [ba_nil, ByteArray.empty_append]; exact hc)
  rw [ba_nil, ByteArray.empty_append] at this
  exact this

theorem scan_all (l : List Fr) (h : ∀ f ∈ l, f.three) : scanL (txs fourOf l) 3 = l ∧ scanE (txs fourOf l) 3 = (txs fourOf l).size := by
  have h1 := scan_cut l h (txs fourOf l).size (Nat.le_refl _)
  rw [extract_all] at h1
  obtain ⟨_, h2, h3⟩ := whole_all (four := fourOf) l 0
  rw [Nat.zero_add] at h2 h3
  exact ⟨by rw [scanL, h1]; exact h2, by rw [scanE, h1]; exact h3⟩

/-- What is told of a text of frames that is cut. -/
theorem scan_part (l : List Fr) (h : ∀ f ∈ l, f.three) (c : Nat) (hc : c ≤ (txs fourOf l).size) : ∃ j : Nat, j ≤ l.length ∧ scanL ((txs fourOf l).extract 0 c) 3 = l.take j ∧ (l.take j).length = j ∧
    (ends fourOf 0 l)[j]? = some (scanE ((txs fourOf l).extract 0 c) 3) ∧ scanE ((txs fourOf l).extract 0 c) 3 ≤ c ∧ (j = l.length ∨ ∃ e, (ends fourOf 0 l)[j + 1]? = some e ∧ c < e) := by
  have h1 := scan_cut l h c hc
  obtain ⟨t1, t2, t3, t4, t5⟩ := whole_told (four := fourOf) c l 0 (Nat.zero_le _)
  refine ⟨(whole fourOf c 0 l).length, t1, by rw [scanL, h1]; exact t2, by rw [List.length_take]; omega, by rw [scanE, h1]; exact t3, by rw [scanE, h1]; exact t4, t5⟩

theorem take_rows {α : Type} {E : Enc α} {w : World} {g cap : Nat} {l : List α} (h : Rows' E w (.slice (some ⟨g, 0, none⟩) l.length cap) l) (j : Nat) (hj : j ≤ l.length) (hc : l.length ≤ cap) (hg : g < w.heap.size) : Rows' E w (.slice (some ⟨g, 0, none⟩) j cap) (l.take j) := by
  by_cases h0 : l = []
  · subst h0
    have : j = 0 := by simpa using hj
    subst this
    exact .inl ⟨rfl, _, _, rfl⟩
  · rcases h with ⟨e, _⟩ | ⟨g', off, cap', hv, _, _, hcl⟩
    · exact absurd e h0
    · simp only [Value.slice.injEq, Option.some.injEq, Addr.mk.injEq, and_true, true_and] at hv
      obtain ⟨⟨rfl, rfl⟩, rfl⟩ := hv
      have hlen : (l.take j).length = j := by rw [List.length_take]; omega
      refine .inr ⟨g, 0, cap, by rw [hlen], by rw [hlen]; omega, hg, fun i x hi k u hk => ?_⟩
      have hi' : l[i]? = some x := by
        rw [List.getElem?_take] at hi
        split at hi
        · exact hi
        · cases hi
      exact hcl i x hi' k u hk

set_option maxRecDepth 100000 in
set_option maxHeartbeats 4000000 in
theorem walk_FnFrames (a : Option Addr) (len cap : Nat) (w : World) (hcode : CodeIn w a len) (htab : SumTab w) :
    Calls Tryd.prog 3 #[.slice a len cap] w fun e w' => e = .returned (.bool true) ∧ Below w.heap.size w w' := by
  by_cases hbig : len ≤ 1048576
  · have hb0 : decide ((1048576 : Int) < (len : Int)) = false := decide_eq_false (by omega)
    have HT : Hid (∀ w', Below w.heap.size w w' → SumTab w') := fun w' hb => htab.later hb
    have HCO : Hid (∀ w', Below w.heap.size w w' → CodeIn w' a len) := fun w' hb => hcode.later hb
    clear htab
    go_enter Tryd.func3, Tryd.ntmps3
    go_wp2_with fail
    refine (big_any a len cap _).mono ?_
    rintro e w0 ⟨rfl, rfl⟩
    rw [hb0]
    go_wp2_with fail
    refine (drawFrames_any a len cap _ hcode hbig).mono ?_
    rintro e w2 ⟨l, v, hall, hl6, rfl, hbl, ⟨g, cp, rfl, hcp⟩⟩
    have b2 := hbl.bel
    have HA := Lib.hid hall
    have HBL := Lib.hid hbl
    have hst : RBuf intE w2.heap.size w2 (w2.alloc (.cells #[.int .i64 0] 3)) (.slice (some ⟨w2.heap.size, 0, none⟩) 1 1) [(0 : Int)] :=
      (RBuf.lit1 intE w2 0).down ((Below.refl _ _).alloc (Nat.le_refl _) _) (Nat.le_refl _)
    clear hall hbl
    go_wp2
    go_loopw [4, 5, 6] (fun sv ev iv wr => ∃ i : Nat, i ≤ l.length ∧ sv = .string (txs fourOf (l.take i)) ∧ iv = .int .i64 (i : Int) ∧ RBuf intE w2.heap.size w2 wr ev ((ends fourOf 0 (l.take i)).map fun n : Nat => (n : Int))) (fun _ _ iv _ => (l.length - intOf iv).toNat)
    case atStart => exact ⟨0, by omega, rfl, rfl, hst⟩
    case round =>
      clear hst
      obtain ⟨i, hi, rfl, rfl, hbe⟩ := hrel
      have kr := hbe.bel
      have br := b2.trans (kr.mono b2.size)
      have hall' : ∀ f ∈ l.take i, f.three := fun f hf => HA.out f (List.mem_of_mem_take hf)
      have hts := txs_size _ hall'
      have hlt' : (l.take i).length ≤ 6 := by rw [List.length_take]; omega
      by_cases hlt : i < l.length
      · have hgi : l[i]? = some l[i] := List.getElem?_eq_getElem hlt
        have hok := (HA.out _ (List.getElem_mem hlt)).1
        have hb20 := (HA.out _ (List.getElem_mem hlt)).2.2
        have htk : l.take (i + 1) = l.take i ++ [l[i]] := List.take_succ_eq_append_getElem hlt
        have HCL : Hid (∀ X, Below w2.heap.size w2 X → X.cell? ⟨g, i * 3, none⟩ = some (.int .i64 l[i].gen) ∧ X.cell? ⟨g, i * 3 + 1, none⟩ = some (.int .i64 l[i].seq) ∧ X.cell? ⟨g, i * 3 + 2, none⟩ = some (.string l[i].body)) := by
          intro X hX
          have := HBL.out.later hX
          exact ⟨this.cell rfl i _ hgi 0 _ rfl, this.cell rfl i _ hgi 1 _ rfl, this.cell rfl i _ hgi 2 _ rfl⟩
        generalize l[i] = f at *
        have HTK : Hid (txs fourOf (l.take (i + 1)) = txs fourOf (l.take i) ++ f.tx ∧ (ends fourOf 0 (l.take (i + 1))).map (fun n : Nat => (n : Int)) = (ends fourOf 0 (l.take i)).map (fun n : Nat => (n : Int)) ++ [((txs fourOf (l.take i) ++ f.tx).size : Int)]) := by
          rw [htk, txs_snoc, ends_snoc, List.map_append]
          refine ⟨rfl, ?_⟩
          simp only [List.map_cons, List.map_nil, Nat.zero_add, ByteArray.size_append]
          rfl
        have hel : ((ends fourOf 0 (l.take i)).map (fun n : Nat => (n : Int))).length ≤ 7 := by rw [List.length_map, ends_length]; omega
        have htx := Fr.tx_le hok
        have hfz : fsz f = f.tx.size := by rw [fsz, if_pos hok]
        have HFT := Lib.hid (ftT_yes hok)
        have HFZ := Lib.hid hfz
        clear htk hgi hfz hok
        generalize txs fourOf (l.take i) = s at *
        generalize (ends fourOf 0 (l.take i)).map (fun n : Nat => (n : Int)) = E at *
        have hadd := fun wx => run_string_add_sum (P := Tryd.prog) (w := wx) s f.tx (by omega)
        have hi0 : (0 : Int) ≤ (i : Int) := by omega
        have hi1 : (i : Int) < (l.length : Int) := by omega
        have hv : f.v = .agg #[.int .i64 f.gen, .int .i64 f.seq, .string f.body] := rfl
        obtain ⟨c0, c1, c2⟩ := HCL.out _ kr
        go_wp2_with fail
        rw [← hv]
        refine (implFrameText_any f _ (by omega) (HT.out _ br)).mono ?_
        rintro e w3 ⟨rfl, k3⟩
        rw [HFT.out]
        have kr3 := kr.trans (k3.mono kr.size)
        have br3 := b2.trans (kr3.mono b2.size)
        clear c0 c1 c2
        obtain ⟨c0, c1, c2⟩ := HCL.out _ kr3
        go_wp2_with fail
        rw [← hv]
        refine (implFrameSize_any f _ (by omega) (HT.out _ br3)).mono ?_
        rintro e w4 ⟨rfl, k4⟩
        rw [HFZ.out]
        have hbe4 := (hbe.later k3).later k4
        have hb5 := Lib.hid (hbe4.alloc (.cells #[.int .i64 ((s ++ f.tx).size : Int)] 3))
        have hnew : Hid (∀ j u, (intE.row [((s ++ f.tx).size : Int)])[j]? = some u → (w4.alloc (.cells #[.int .i64 ((s ++ f.tx).size : Int)] 3)).cell? ((⟨w4.heap.size, 0, none⟩ : Addr).add j) = some u) := row_new intE w4 _
        have hl0 : Hid ((E.length + [((s ++ f.tx).size : Int)].length) * (intE.bytes + 1) ≤ 140737488355328) := by show _ ≤ _; simp only [intE, List.length_cons, List.length_nil]; omega
        have hsz2 : (s ++ f.tx).size ≤ 10000 := by rw [ByteArray.size_append]; omega
        clear c0 c1 c2 k3 k4 kr3 br3 hbe kr br hbe4
        generalize s ++ f.tx = t at *
        go_wp2_with (at_builtin; refine wpList_append_row rfl _ _ intE rfl w2.heap.size _ E rfl hb5.out ⟨w4.heap.size, 0, none⟩ [(t.size : Int)] 1 rfl ?c1 ?c2 ?_)
        case c1 => exact hnew.out
        case c2 => exact hl0.out
        intro v6 w6 hb6 _ _
        clear hb5 hnew hl0
        go_wp2
        go_roundw
        case rel => exact ⟨i + 1, by omega, by rw [HTK.out.1], by go_num, by rw [HTK.out.2]; exact hb6⟩
        case measure => simp [intOf]; omega
      · have hil : i = l.length := by omega
        have htl : l.take i = l := by rw [hil]; exact List.take_length
        rw [htl] at hbe hts ⊢
        clear hall' hlt' htl hil
        obtain ⟨hsc1, hsc2⟩ := scan_all l HA.out
        have HSC := Lib.hid (And.intro hsc1 hsc2)
        have HPT := Lib.hid (scan_part l HA.out)
        have hne := ends_length (four := fourOf) 0 l
        generalize txs fourOf l = S at *
        generalize ends fourOf 0 l = E at *
        clear hsc1 hsc2
        have hS : S.size ≤ 1048576 := by omega
        have hel : (E.map (fun n : Nat => (n : Int))).length = l.length + 1 := by rw [List.length_map]; exact hne
        obtain ⟨ge, ce, rfl, hce⟩ := hbe.inRow (by intro h; rw [h] at hel; simp at hel)
        have HE : Hid (∀ X, Below wr.heap.size wr X → ∀ (i e : Nat), E[i]? = some e → X.cell? ⟨ge, i, none⟩ = some (.int .i64 (e : Int))) := by
          intro X hX i e hi
          have h1 : (E.map (fun n : Nat => (n : Int)))[i]? = some (e : Int) := by rw [List.getElem?_map, hi]; rfl
          have h2 := (hbe.later hX).cell rfl i _ h1 0 _ rfl
          rw [show intE.sz = 1 from rfl, Nat.mul_one, Nat.add_zero] at h2
          exact h2
        rw [hel] at hce ⊢
        clear hbe hel
        go_wp2_with fail
        refine (implScanFrames_any S 3 _ hS (HT.out _ br)).mono ?_
        rintro e w3 ⟨v3, rfl, q3⟩
        rw [HSC.out.2]
        rw [HSC.out.1] at q3
        have kr3 := kr.trans (q3.bel.mono kr.size)
        have hrl3 := (HBL.out.later kr3).rows
        go_wp2_with fail
        refine (sameFrames_same l _ _ _ q3.rows hrl3 (by omega)).mono ?_
        rintro e w4 ⟨rfl, k4⟩
        have kr4 := kr3.trans (k4.mono kr3.size)
        have br4 := b2.trans (kr4.mono b2.size)
        go_wp2_with fail
        refine (drawPlaces_any a len cap _ (HCO.out _ br4) hbig).mono ?_
        rintro e w5 ⟨zs, vz, hzl, hzr, rfl, hib⟩
        have kr5 := kr4.trans (hib.bel.mono kr4.size)
        have hib5 := Lib.hid hib.bel
        have br5 := b2.trans (kr5.mono b2.size)
        obtain ⟨gp, cpz, z0, hv5, hcpz, hc0⟩ : ∃ (gp cp z0 : Nat), vz = .slice (some ⟨gp, 0, none⟩) 12 cp ∧ 12 ≤ cp ∧ w5.cell? ⟨gp, 0, none⟩ = some (.int .i64 (z0 : Int)) := by
          rcases hib.ints with ⟨h, _⟩ | ⟨g, cp, hv, hcp, hg, hcl⟩
          · rw [h] at hzl; cases hzl
          · have e0 := List.getElem?_eq_getElem (show 0 < zs.length by omega)
            have k0 := hzr _ (List.mem_of_getElem? e0)
            rw [hzl] at hv hcp
            refine ⟨g, cp, zs[0].toNat, hv, hcp, ?_⟩
            rw [Int.toNat_of_nonneg k0.1]; exact hcl 0 _ e0
        subst hv5
        obtain ⟨c, hc⟩ : ∃ c : Nat, (z0 : Int) % ((S.size : Int) + 1) = (c : Int) := Int.eq_ofNat_of_zero_le (Int.emod_nonneg _ (by omega))
        have hcS : c ≤ S.size := by have := Int.emod_lt_of_pos (z0 : Int) (show (0 : Int) < (S.size : Int) + 1 by omega); omega
        have hcS' : (c : Int) ≤ (S.size : Int) := by omega
        have hc0' : (0 : Int) ≤ (c : Int) := by omega
        have hS1 : ¬ ((S.size : Int) + 1 = 0) := by omega
        obtain ⟨j, hj1, hj2, hj3, hj4, hj5, hj6⟩ := HPT.out c hcS
        have HJ2 := Lib.hid hj2
        have hw1 : (z0 : Int) % ((S.size : Int) + 1) = (c : Int) := hc
        clear hc hj2 hib hzl hzr
        go_upto_region 18 with fail
        rw [hw1]
        have hsc : (S.extract 0 c).size ≤ 1048576 := by rw [ByteArray.size_extract]; omega
        have hglt : g < w2.heap.size := HBL.out.own.lt g rfl |>.2
        clear hc0 hw1
        go_wp2_with fail
        refine (implScanFrames_any (S.extract 0 c) 3 _ hsc (HT.out _ br5)).mono ?_
        rintro e w6 ⟨v6, rfl, q6⟩
        rw [HJ2.out] at q6
        generalize scanE (S.extract 0 c) 3 = n6 at *
        obtain ⟨p6, c6, rfl⟩ := q6.form
        rw [hj3] at q6 ⊢
        have kr6 := kr5.trans (q6.bel.mono kr5.size)
        have br6 := b2.trans (kr6.mono b2.size)
        have q6r := q6.rows
        have kw6 : Below wr.heap.size wr w6 := by
          have a1 := q3.bel
          have a2 := a1.trans (k4.mono a1.size)
          have a3 := a2.trans (hib5.out.mono a2.size)
          exact a3.trans (q6.bel.mono a3.size)
        have hcj := HE.out _ kw6 j n6 hj4
        have hrl6 := take_rows (HBL.out.later kr6).rows j hj1 hcp (Nat.lt_of_lt_of_le hglt kr6.size)
        have hn6 : (n6 : Int) ≤ (c : Int) := by omega
        have hj0 : (0 : Int) ≤ (j : Int) := by omega
        have hjl : (j : Int) < (l.length : Int) + 1 := by omega
        have hjc : (j : Int) ≤ (cp : Int) := by omega
        have HKW := Lib.hid kw6
        clear q6 q3 k4 kr3 kr4 kr5 kw6 hrl3
        rcases hj6 with hje | ⟨e', he', hce'⟩
        · subst hje
          go_wp2_with fail
          refine (sameFrames_same _ _ _ _ q6r hrl6 (by rw [hj3]; omega)).mono ?_
          rintro e w7 ⟨rfl, k7⟩
          go_wp2
          go_ret
          exact ⟨by simp, br6.trans (k7.mono br6.size)⟩
        · have hjlt : j + 1 < E.length := (List.getElem?_eq_some_iff.1 he').1
          have hne2 : ((j : Int) == (l.length : Int)) = false := beq_eq_false_iff_ne.2 (by omega)
          have hj10 : (0 : Int) ≤ (j : Int) + 1 := by omega
          have hj11 : (j : Int) + 1 < (l.length : Int) + 1 := by omega
          have hgt : (c : Int) < (e' : Int) := by omega
          go_wp2_with fail
          refine (sameFrames_same _ _ _ _ q6r hrl6 (by rw [hj3]; omega)).mono ?_
          rintro e w7 ⟨rfl, k7⟩
          have hcj1 := HE.out w7 (HKW.out.trans (k7.mono HKW.out.size)) (j + 1) e' he'
          go_wp2
          go_ret
          exact ⟨by simp, br6.trans (k7.mono br6.size)⟩
  · have hb0 : decide ((1048576 : Int) < (len : Int)) = true := decide_eq_true (by omega)
    go_enter Tryd.func3, Tryd.ntmps3
    go_wp2_with fail
    refine (big_any a len cap _).mono ?_
    rintro e w0 ⟨rfl, rfl⟩
    rw [hb0]
    go_wp2
    go_ret
    exact ⟨rfl, Below.refl _ _⟩

theorem FnFrames_of_laid {W : World} (h : laidMetH Tryd.prog Rows.fnFramesRow.laid W) : SumTab W := sumTab_of_laid h

theorem FnFrames_own : ownKnob Tryd.prog.godebug = none := by kernel_rfl
theorem FnFrames_door (os : Os) (args : Array Value) : laidMetH Tryd.prog Rows.fnFramesRow.laid ((World.doorLaid Tryd.prog 400 os).forCall (fun _ _ => 0) ⟨#[], args, []⟩).memory :=
  laidMetH_of_parts3 (fuel := 8) (laidMet_of_run' 8 (by kernel_rfl) (by kernel_rfl)) (by kernel_rfl) (by kernel_rfl)

set_option maxRecDepth 100000 in
theorem FnFrames_lifted (os : Os) (started : os.Started) (H : Type) (enc : TypeId × Value → H) :
    ReturnsInHanded {} Tryd.checked os 3 .any (fun w args => (Rows.fnFramesSpec.pre enc Tryd.prog Tryd.f3 [] false w args ∧ laidMetH Tryd.prog Rows.fnFramesRow.laid w) ∧ sizedMet enc Tryd.prog Tryd.f3 (OpenSpec.ofChange Rows.fnFramesSpec) false w args)
      (Rows.fnFramesSpec.post enc Tryd.prog Tryd.f3 false true false false) := by
  refine returnsInHanded_of_change_and (C := Tryd.checked) (X := fun w _ => laidMetH Tryd.prog Rows.fnFramesRow.laid w) (fun _ _ _ hh h => h.of_heap hh) FnFrames_own started (by kernel_rfl) Tryd.func3
    (ChangeSpec.witness_shaped (enc := enc) (C := Tryd.checked) (os := os) (X := fun w _ => laidMetH Tryd.prog Rows.fnFramesRow.laid w) false (World.doorLaid Tryd.prog 400 os) #[.slice none 0 0] 8 rfl (World.shaped_of_RefB (by kernel_rfl) (by kernel_rfl)) (by kernel_rfl) (by kernel_rfl) (by kernel_rfl) (FnFrames_door os _)) ?_
  intro W base args ds gs before hval0 hW _ _ hL _
  have hval : ∀ (j : Nat) t v, Tryd.f3.params[j]? = some t → args[j]? = some v → Value.okWide Tryd.prog W .any base t v := hval0
  have hW' := hW
  obtain ⟨p, q, hA0, hV, rfl, hfz, hnd⟩ := hW
  have hA : DataW.TrodAll enc Tryd.prog W 0 (fun _ => true) true Tryd.f3.params.toList args.toList ds p := hA0
  rw [Tryd.params3] at hA hval
  obtain ⟨v0, vs0, d0, ds0, p0, q0, hargs, rfl, rfl, h0, r0⟩ := trodAll_cons hA
  obtain ⟨rfl, rfl, rfl⟩ := trodAll_nil r0
  obtain rfl : args = #[v0] := by cases args; simp_all
  obtain ⟨e0, rfl⟩ : ∃ d, gs = [d] := by obtain ⟨_, _, _, _, d, _, e, _⟩ := trodVars_one hV; exact ⟨d, e⟩
  obtain ⟨a0, len0, cap0, rfl⟩ := okWide_slice Tryd.underlying22 (hval 0 22 v0 rfl rfl)
  have k0 := h0
  have lt0 : ∀ x ∈ p0, x.block < W.heap.size := by obtain ⟨m, hm⟩ := k0; exact DataW.trod_lt m _ _ _ hm
  have w0 : CodeIn W a0 len0 := by
    obtain ⟨fuel, hf⟩ := h0
    rcases open_ints Tryd.underlying22 Tryd.underlying5 (by kernel_rfl) hf with ⟨hcs, _⟩ | ⟨x, l, c, zs, hcs, _, hl, hm, hz, _, hcell, hwz⟩
    · simp [Value.cells] at hcs
      obtain ⟨rfl, rfl, rfl⟩ := hcs
      intro i hi; omega
    · simp [Value.cells] at hcs
      obtain ⟨rfl, rfl, rfl⟩ := hcs
      exact codeIn_of_row hl (by simpa using hz) hcell hwz
  clear hA0 hval0
  try simp only [List.append_nil] at hW'
  refine (walk_FnFrames a0 len0 cap0 w0 (w := W) (FnFrames_of_laid hL)).mono fun e W' ⟨he, bel⟩ => ?_
  subst he
  exact ⟨_, rfl, _, _, _, [], _, _, hW', trodAll_mk1 (shut_bool Tryd.underlying4 _), (trodAll_cons_mk (Below.trod (show laidOutB Tryd.prog = true by kernel_rfl) (by kernel_rfl) (of_decide_eq_true (by kernel_rfl)) k0 bel lt0) trodAll_mk0), Below.trodVars (show laidOutB Tryd.prog = true by kernel_rfl) bel (by kernel_rfl) hV, bel.frame _, fun h => by cases h⟩

theorem fnFrames_row : Rows.FnFramesSaid :=
  OpenClaim.holds_of_wide 3 Tryd.f3 rfl rfl rfl rfl rfl rfl rfl ⟨rfl, rfl, rfl, rfl, rfl⟩ rfl rfl rfl rfl rfl (by kernel_rfl) Tryd.func3 (by kernel_rfl)
    (of_decide_eq_true (by kernel_rfl)) (by unfold Func.isWrapper; first | (rw [if_pos (by decide +kernel)]; kernel_rfl) | (rw [if_neg (by decide +kernel)]; exact ⟨rfl, rfl⟩))
    (fun os started H enc _ => FnFrames_lifted os started H enc)

/-- The given statement. -/
theorem fnFrames_cardsaid : Rows.FnFramesCardSaid :=
  Claim7.holds_tied_plain_at .later [] [.data] true (true, "62b666b0cbedfae30448db5f11eff390a6151c0f169e4e2be5d876aa385d90bb") false
    fnFrames_row (fun _ h => by cases h) (by kernel_rfl) (fun _ h => by cases h) fnFrames_row_tie rfl ⟨rfl, rfl⟩ (by kernel_rfl) rfl
    (fun f fn hf hfn => by
      obtain rfl : f = 3 := Option.some.inj ((show Tryd.prog.funcNamed "loop.example/g00287/laws.FnFrames" = some 3 by kernel_rfl).symm.trans hf) |>.symm
      obtain rfl : fn = Tryd.f3 := (Option.some.inj (Tryd.func3.symm.trans hfn)).symm
      exact ⟨by kernel_rfl, fun j t ht => by
        rw [Tryd.params3] at ht
        have hm : t ∈ [22] := by simpa using Array.mem_of_getElem? ht
        have hall : ([22].all fun u => !Tryd.prog.wantsStandIn u) = true := by kernel_rfl
        exact (show Tryd.prog.wantsStandIn t = false by simpa using List.all_eq_true.1 hall t hm)⟩)
    (by kernel_rfl)
#print axioms fnFrames_cardsaid

end Go.Proofs.YtmmgnpjhlmiafabDoor
