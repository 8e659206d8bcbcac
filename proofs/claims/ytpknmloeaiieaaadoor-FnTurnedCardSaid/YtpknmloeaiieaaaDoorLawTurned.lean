/- For every code: the drawn text, sealed, is unsealed as it was; with one byte turned it is not; SumMore goes on where SumOf stopped; nothing that was there is changed; where the table of sixteen words holds what the program's text lays there (the card ties that to the text). -/
import Derived.Test.YtpknmloeaiieaaaDoorTurn
import Derived.Test.YtpknmloeaiieaaaDoorDrawPlaces
import Derived.Test.YtpknmloeaiieaaaDoorSumLaid
import Derived.Test.YtpknmloeaiieaaaDoorTie
import Derived.Test.YtpknmloeaiieaaaDoorCards
import Derived.ProofKit
import Derived.LaidMore
import Derived.OpenShut
import Derived.OpenVars
import Derived.Stop.Joined
import Derived.SevenTiedAt
namespace Go.Proofs.YtpknmloeaiieaaaDoor
open Go.ChangeShapes Go.WideShapes Go.ChangeAt Go.RowKit
open Go.ChangeMaps (open_string shut_string)
set_option linter.unusedVariables false

theorem big_any (a : Option Addr) (len cap : Nat) (w : World) :
    Calls Tryd.prog 5 #[.slice a len cap] w fun e w' => e = .returned (.bool (decide ((1048576 : Int) < (len : Int)))) ∧ w = w' := by
  go_enter Tryd.func5, Tryd.ntmps5
  go_wp2
  go_ret
  exact ⟨rfl, rfl⟩

set_option maxRecDepth 100000 in
theorem drawSumOf_any (a : Option Addr) (len cap : Nat) (w : World) (hcode : CodeIn w a len) (hs : len ≤ 1048576) :
    Calls Tryd.prog 16 #[.slice a len cap] w fun e w' => ∃ s : ByteArray, s.size ≤ 40 ∧ e = .returned (.string s) ∧ Below w.heap.size w w' := by
  go_enter Tryd.func16, Tryd.ntmps16
  go_wp2_with fail
  refine (new_any a len cap _ hcode hs).mono ?_
  rintro e w1 ⟨pc, hp, rfl, hc1, hb1⟩
  go_wp2_with fail
  refine (below_any 40 pc a len cap _ hc1 (by omega)).mono ?_
  rintro e w2 ⟨x, hx, _, rfl, hc2, hg2⟩
  have hx2 : x < 40 := by have := hx (by omega); omega
  have hb2 := below_of_new' hb1 hp hg2
  clear hx
  go_wp2_with fail
  refine (text_any (x : Int) pc a len cap _ hc2 (by omega)).mono ?_
  rintro e w3 ⟨s, hsz, hsz2, rfl, hc3, hg3⟩
  go_wp2
  go_ret
  exact ⟨s, by omega, rfl, below_of_new' hb2 hp hg3⟩

set_option maxRecDepth 100000 in
set_option maxHeartbeats 4000000 in
theorem walk_FnTurned (a : Option Addr) (len cap : Nat) (w : World) (hcode : CodeIn w a len) (htab : SumTab w) :
    Calls Tryd.prog 4 #[.slice a len cap] w fun e w' => e = .returned (.bool true) ∧ Below w.heap.size w w' := by
  by_cases hbig : len ≤ 1048576
  · have hb0 : decide ((1048576 : Int) < (len : Int)) = false := decide_eq_false (by omega)
    have HT : Hid (∀ w', Below w.heap.size w w' → SumTab w') := fun w' hb => htab.later hb
    clear htab
    go_enter Tryd.func4, Tryd.ntmps4
    go_wp2_with fail
    refine (big_any a len cap _).mono ?_
    rintro e w0 ⟨rfl, rfl⟩
    rw [hb0]
    go_wp2_with fail
    refine (drawSumOf_any a len cap _ hcode hbig).mono ?_
    rintro e w1 ⟨s, hsz, rfl, b1⟩
    go_wp2_with fail
    refine (drawPlaces_any a len cap _ (hcode.later b1) hbig).mono ?_
    rintro e w2 ⟨l, v, hl, hlz, rfl, hib⟩
    have b2 : Below w.heap.size w w2 := b1.trans (hib.bel.mono b1.size)
    obtain ⟨gp, cp, z0, z1, hv, hcp, hgp, hz0, hz1, hc0, hc1⟩ : ∃ (gp cp : Nat) (z0 z1 : Nat), v = .slice (some ⟨gp, 0, none⟩) 12 cp ∧ 12 ≤ cp ∧ gp < w2.heap.size ∧ z0 < 10000 ∧ z1 < 10000 ∧ w2.cell? ⟨gp, 0, none⟩ = some (.int .i64 (z0 : Int)) ∧ w2.cell? ⟨gp, 1, none⟩ = some (.int .i64 (z1 : Int)) := by
      rcases hib.ints with ⟨h, _⟩ | ⟨g, cp, hv, hcp, hg, hcl⟩
      · rw [h] at hl; cases hl
      · have e0 := List.getElem?_eq_getElem (show 0 < l.length by omega)
        have e1 := List.getElem?_eq_getElem (show 1 < l.length by omega)
        have k0 := hlz _ (List.mem_of_getElem? e0)
        have k1 := hlz _ (List.mem_of_getElem? e1)
        rw [hl] at hv hcp
        refine ⟨g, cp, l[0].toNat, l[1].toNat, hv, hcp, hg, by omega, by omega, ?_, ?_⟩
        · rw [Int.toNat_of_nonneg k0.1]; exact hcl 0 _ e0
        · rw [Int.toNat_of_nonneg k1.1]; exact hcl 1 _ e1
    subst hv
    have HC0 : Hid (∀ w', Below w2.heap.size w2 w' → w'.cell? ⟨gp, 0, none⟩ = some (.int .i64 (z0 : Int)) ∧ w'.cell? ⟨gp, 1, none⟩ = some (.int .i64 (z1 : Int))) :=
      fun w' hb => ⟨(hb.cell (p := ⟨gp, 0, none⟩) hgp).trans hc0, (hb.cell (p := ⟨gp, 1, none⟩) hgp).trans hc1⟩
    clear hib hc0 hc1 b1 hlz hl
    go_wp2_with fail
    refine (implSealed_any s _ (by omega) (HT.out _ b2)).mono ?_
    rintro e w3 ⟨rfl, d3⟩
    rw [seT_yes (by omega)]
    have b3 : Below w.heap.size w w3 := b2.trans (d3.mono b2.size)
    have hts : (s ++ fourOf s).size = s.size + 4 := by rw [ByteArray.size_append, fourOf_size]
    have hback := Lib.hid (unT_back s (by omega))
    have hseal := Lib.hid (seal_eq s)
    generalize s ++ fourOf s = t at hts hback hseal ⊢
    go_wp2_with fail
    refine (implUnsealed_any t _ (by omega) (HT.out _ b3)).mono ?_
    rintro e w4 ⟨rfl, d4⟩
    rw [hback.out]
    have d4' : Below w2.heap.size w2 w4 := d3.trans (d4.mono d3.size)
    have b4 : Below w.heap.size w w4 := b2.trans (d4'.mono b2.size)
    clear d3 d4 b3
    have hconv : ∀ wx, (convert 9 22 (.string t)).run Tryd.prog wx = .ok (.slice (some ⟨wx.heap.size, 0, none⟩) t.size (grownCap wx t.size 0 5)) (Lib.bytesWorld wx 5 t) :=
      fun wx => Lib.run_convert_string_bytes (P := Tryd.prog) wx 9 22 5 t Tryd.underlying9 Tryd.underlying22 Tryd.underlying5
    have d5 := below_bytes w4 t
    have d5' : Below w2.heap.size w2 (Lib.bytesWorld w4 5 t) := d4'.trans (d5.mono d4'.size)
    have b5 : Below w.heap.size w (Lib.bytesWorld w4 5 t) := b2.trans (d5'.mono b2.size)
    obtain ⟨c0, c1⟩ := HC0.out _ d5'
    have hcn : (t.size : Int) ≠ 0 := by omega
    go_wp2
    have hbel5 := Lib.hid b5
    have hg5 : w.heap.size ≤ w4.heap.size := b4.size
    obtain ⟨hat, hlo⟩ : BytesAt (Lib.bytesWorld w4 5 t) w4.heap.size (sealL s.data.toList) ∧ ∀ j, j < (sealL s.data.toList).length → (Lib.bytesWorld w4 5 t).frozen? ⟨w4.heap.size, j, none⟩ = false := by
      rw [hseal.out]
      exact ⟨bytesAt_new _ _, fun j hj => bytes_loose _ _ j (by simpa [ByteArray.size] using hj)⟩
    have hlen : (sealL s.data.toList).length = s.size + 4 := by rw [sealL_length]; simp
    have hun := Lib.hid (unT_turned s.data.toList (by simpa using (by omega : s.size ≤ 20000)))
    generalize sealL s.data.toList = L at hat hlo hlen hun
    clear hseal hback hconv d5 d5' b5 d4'
    generalize Lib.bytesWorld w4 5 t = w5 at *
    generalize grownCap w4 (s.size + 4) 0 5 = C at *
    generalize hg : w4.heap.size = g5 at *
    obtain ⟨I, hI⟩ : ∃ I : Nat, (z0 : Int) % ((s.size : Int) + 4) = (I : Int) := Int.eq_ofNat_of_zero_le (Int.emod_nonneg _ (by omega))
    have hIlt : I < L.length := by have := Int.emod_lt_of_pos (z0 : Int) (show (0 : Int) < (s.size : Int) + 4 by omega); omega
    rw [hI]
    obtain ⟨x, hx0⟩ : ∃ x : Nat, L[I].toNat = x := ⟨_, rfl⟩
    have hx : x < 256 := by rw [← hx0]; exact u8_lt _
    have hcx : w5.cell? ⟨g5, I, none⟩ = some (.int .u8 (x : Int)) := by rw [← hx0]; exact hat I _ (List.getElem?_eq_getElem hIlt)
    have hfx := hlo I hIlt
    obtain ⟨c, hcv, hcne⟩ := xor_other x (1 + z1 % 255) hx (by omega) (by omega)
    have HAT := Lib.hid (hat.set I hIlt c)
    have HUN := Lib.hid (hun.out I hIlt c (hcne _ hx0))
    have hi0 : (0 : Int) ≤ (I : Int) := by omega
    have hi1 : (I : Int) < (s.size : Int) + 4 := by omega
    have hw1 : IntKind.i64.wrap ((z1 : Int).tmod 255) = (z1 : Int) % 255 := by rw [Int.tmod_eq_emod_of_nonneg (by omega)]; exact IntWalk.i64_in _ ⟨by omega, by omega⟩
    have hw2 : IntKind.i64.wrap (1 + (z1 : Int) % 255) = 1 + (z1 : Int) % 255 := IntWalk.i64_in _ ⟨by omega, by omega⟩
    have hw3 : IntKind.u8.wrap (1 + (z1 : Int) % 255) = 1 + (z1 : Int) % 255 := by rw [IntKind.wrap_u8']; omega
    have hw4 : bits .xor .u8 (x : Int) (1 + (z1 : Int) % 255) = (c.toNat : Int) := by
      rw [hcv]; exact u8_xor_nat x (1 + z1 % 255) hx (by omega)
    clear hat hlo hun hcne hx0 hcv hI hcn
    go_region
    have b6 : Below w.heap.size w (w5.setCell ⟨g5, I, none⟩ (.int .u8 (c.toNat : Int))).drew := (hbel5.out.setCell (p := ⟨g5, I, none⟩) hg5 _).drew
    have hat6 : BytesAt (w5.setCell ⟨g5, I, none⟩ (.int .u8 (c.toNat : Int))).drew g5 (L.set I c) := HAT.out
    clear c0 c1 hbel5 HAT hcx hfx hw1 hw2 hw3 hw4 HC0 b2 b4
    generalize (w5.setCell ⟨g5, I, none⟩ (.int .u8 (c.toNat : Int))).drew = w6 at b6 hat6 ⊢
    have hcv := hat6.toString C
    rw [List.length_set, hlen] at hcv
    have hsz7 : (ByteArray.mk (L.set I c).toArray).size ≤ 1099511627776 := by simp [ByteArray.size]; omega
    clear hat6
    generalize (ByteArray.mk (L.set I c).toArray) = T at hcv HUN hsz7
    go_wp2_with fail
    refine (implUnsealed_any T _ hsz7 (HT.out _ b6)).mono ?_
    rintro e w7 ⟨rfl, d7⟩
    rw [HUN.out]
    have b7 : Below w.heap.size w w7 := b6.trans (d7.mono b6.size)
    clear d7 b6 hcv
    go_wp2_with fail
    refine (implSumOf_any s _ (by omega) (HT.out _ b7)).mono ?_
    rintro e w8 ⟨rfl, d8⟩
    have b8 : Below w.heap.size w w8 := b7.trans (d8.mono b7.size)
    clear d8 b7
    have hl8 := sumL_lt (s := 4294967295) (by decide) s.data.toList
    have hadd := fun wx => run_string_add_sum (P := Tryd.prog) (w := wx) s ⟨#[120]⟩ (by show s.size + 1 ≤ _; omega)
    have hE : sumL 4294967295 (s ++ ⟨#[120]⟩).data.toList = sumL (sumL 4294967295 s.data.toList) [120] := by
      rw [← sumL_append]; simp
    have HE := Lib.hid hE
    have hxs : (s ++ ⟨#[120]⟩ : ByteArray).size ≤ 1099511627776 := by rw [ByteArray.size_append]; show s.size + 1 ≤ _; omega
    clear hE
    generalize (s ++ ⟨#[120]⟩ : ByteArray) = sx at *
    generalize sumL 4294967295 s.data.toList = m at *
    go_wp2_with fail
    refine (implSumMore_any m _ _ hl8 (by decide) (HT.out _ b8)).mono ?_
    rintro e w9 ⟨rfl, d9⟩
    have b9 : Below w.heap.size w w9 := b8.trans (d9.mono b8.size)
    clear d9 b8
    go_wp2_with fail
    refine (implSumOf_any _ _ hxs (HT.out _ b9)).mono ?_
    rintro e wA ⟨rfl, dA⟩
    rw [HE.out]
    have bA : Below w.heap.size w wA := b9.trans (dA.mono b9.size)
    clear dA b9
    go_wp2
    go_ret
    exact ⟨by simp, bA⟩
  · have hb0 : decide ((1048576 : Int) < (len : Int)) = true := decide_eq_true (by omega)
    go_enter Tryd.func4, Tryd.ntmps4
    go_wp2_with fail
    refine (big_any a len cap _).mono ?_
    rintro e w0 ⟨rfl, rfl⟩
    rw [hb0]
    go_wp2
    go_ret
    exact ⟨rfl, Below.refl _ _⟩

theorem FnTurned_of_laid {W : World} (h : laidMetH Tryd.prog Rows.fnTurnedRow.laid W) : SumTab W := sumTab_of_laid h

theorem FnTurned_own : ownKnob Tryd.prog.godebug = none := by kernel_rfl
theorem FnTurned_door (os : Os) (args : Array Value) : laidMetH Tryd.prog Rows.fnTurnedRow.laid ((World.doorLaid Tryd.prog 400 os).forCall (fun _ _ => 0) ⟨#[], args, []⟩).memory :=
  laidMetH_of_parts3 (fuel := 8) (laidMet_of_run' 8 (by kernel_rfl) (by kernel_rfl)) (by kernel_rfl) (by kernel_rfl)

set_option maxRecDepth 100000 in
theorem FnTurned_lifted (os : Os) (started : os.Started) (H : Type) (enc : TypeId × Value → H) :
    ReturnsInHanded {} Tryd.checked os 4 .any (fun w args => (Rows.fnTurnedSpec.pre enc Tryd.prog Tryd.f4 [] false w args ∧ laidMetH Tryd.prog Rows.fnTurnedRow.laid w) ∧ sizedMet enc Tryd.prog Tryd.f4 (OpenSpec.ofChange Rows.fnTurnedSpec) false w args)
      (Rows.fnTurnedSpec.post enc Tryd.prog Tryd.f4 false true false false) := by
  refine returnsInHanded_of_change_and (C := Tryd.checked) (X := fun w _ => laidMetH Tryd.prog Rows.fnTurnedRow.laid w) (fun _ _ _ hh h => h.of_heap hh) FnTurned_own started (by kernel_rfl) Tryd.func4
    (ChangeSpec.witness_shaped (enc := enc) (C := Tryd.checked) (os := os) (X := fun w _ => laidMetH Tryd.prog Rows.fnTurnedRow.laid w) false (World.doorLaid Tryd.prog 400 os) #[.slice none 0 0] 8 rfl (World.shaped_of_RefB (by kernel_rfl) (by kernel_rfl)) (by kernel_rfl) (by kernel_rfl) (by kernel_rfl) (FnTurned_door os _)) ?_
  intro W base args ds gs before hval0 hW _ _ hL _
  have hval : ∀ (j : Nat) t v, Tryd.f4.params[j]? = some t → args[j]? = some v → Value.okWide Tryd.prog W .any base t v := hval0
  have hW' := hW
  obtain ⟨p, q, hA0, hV, rfl, hfz, hnd⟩ := hW
  have hA : DataW.TrodAll enc Tryd.prog W 0 (fun _ => true) true Tryd.f4.params.toList args.toList ds p := hA0
  rw [Tryd.params4] at hA hval
  obtain ⟨v0, vs0, d0, ds0, p0, q0, hargs, rfl, rfl, h0, r0⟩ := trodAll_cons hA
  obtain ⟨rfl, rfl, rfl⟩ := trodAll_nil r0
  obtain rfl : args = #[v0] := by cases args; simp_all
  obtain ⟨e0, rfl⟩ : ∃ d, gs = [d] := by obtain ⟨_, _, _, _, d, _, e, _⟩ := trodVars_one hV; exact ⟨d, e⟩
  obtain ⟨a0, len0, cap0, rfl⟩ := okWide_slice Tryd.underlying22 (hval 0 22 v0 rfl rfl)
  have k0 := h0
  have lt0 : ∀ x ∈ p0, x.block < W.heap.size := by obtain ⟨m, hm⟩ := k0; exact DataW.trod_lt m _ _ _ hm
  have w0 : CodeIn W a0 len0 := by
    obtain ⟨fuel, hf⟩ := h0
    rcases open_ints Tryd.underlying22 Tryd.underlying5 (by kernel_rfl) hf with ⟨hcs, _⟩ | ⟨x, l, c, zs, hcs, _, hl, hm, hz, _, hcell, hwz⟩
    · simp [Value.cells] at hcs
      obtain ⟨rfl, rfl, rfl⟩ := hcs
      intro i hi; omega
    · simp [Value.cells] at hcs
      obtain ⟨rfl, rfl, rfl⟩ := hcs
      exact codeIn_of_row hl (by simpa using hz) hcell hwz
  clear hA0 hval0
  try simp only [List.append_nil] at hW'
  refine (walk_FnTurned a0 len0 cap0 w0 (w := W) (FnTurned_of_laid hL)).mono fun e W' ⟨he, bel⟩ => ?_
  subst he
  exact ⟨_, rfl, _, _, _, [], _, _, hW', trodAll_mk1 (shut_bool Tryd.underlying4 _), (trodAll_cons_mk (Below.trod (show laidOutB Tryd.prog = true by kernel_rfl) (by kernel_rfl) (of_decide_eq_true (by kernel_rfl)) k0 bel lt0) trodAll_mk0), Below.trodVars (show laidOutB Tryd.prog = true by kernel_rfl) bel (by kernel_rfl) hV, bel.frame _, fun h => by cases h⟩

theorem fnTurned_row : Rows.FnTurnedSaid :=
  OpenClaim.holds_of_wide 4 Tryd.f4 rfl rfl rfl rfl rfl rfl rfl ⟨rfl, rfl, rfl, rfl, rfl⟩ rfl rfl rfl rfl rfl (by kernel_rfl) Tryd.func4 (by kernel_rfl)
    (of_decide_eq_true (by kernel_rfl)) (by unfold Func.isWrapper; first | (rw [if_pos (by decide +kernel)]; kernel_rfl) | (rw [if_neg (by decide +kernel)]; exact ⟨rfl, rfl⟩))
    (fun os started H enc _ => FnTurned_lifted os started H enc)

/-- The given statement. -/
theorem fnTurned_cardsaid : Rows.FnTurnedCardSaid :=
  Claim7.holds_tied_plain_at .later [] [.data] true (true, "b82b1160e1c60cf276d5571ea3eb9997c252105e433a8328463da30e9ef38809") false
    fnTurned_row (fun _ h => by cases h) (by kernel_rfl) (fun _ h => by cases h) fnTurned_row_tie rfl ⟨rfl, rfl⟩ (by kernel_rfl) rfl
    (fun f fn hf hfn => by
      obtain rfl : f = 4 := Option.some.inj ((show Tryd.prog.funcNamed "loop.example/g00287/laws.FnTurned" = some 4 by kernel_rfl).symm.trans hf) |>.symm
      obtain rfl : fn = Tryd.f4 := (Option.some.inj (Tryd.func4.symm.trans hfn)).symm
      exact ⟨by kernel_rfl, fun j t ht => by
        rw [Tryd.params4] at ht
        have hm : t ∈ [22] := by simpa using Array.mem_of_getElem? ht
        have hall : ([22].all fun u => !Tryd.prog.wantsStandIn u) = true := by kernel_rfl
        exact (show Tryd.prog.wantsStandIn t = false by simpa using List.all_eq_true.1 hall t hm)⟩)
    (by kernel_rfl)
#print axioms fnTurned_cardsaid

end Go.Proofs.YtpknmloeaiieaaaDoor
