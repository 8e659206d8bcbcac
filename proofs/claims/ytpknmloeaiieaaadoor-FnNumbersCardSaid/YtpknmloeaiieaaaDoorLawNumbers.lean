/- For every code: the drawn number comes back from VarText and from Decimal, the drawn text from ShortText and from Hex; nothing that was there is changed; where the tables of the standard library hold what the program's text lays there (the card ties that to the text). -/
import Derived.Test.YtpknmloeaiieaaaDoorPlainBack
import Derived.Test.YtpknmloeaiieaaaDoorDrawWords
import Derived.Test.YtpknmloeaiieaaaDoorShort
import Derived.Test.YtpknmloeaiieaaaDoorHexImpl
import Derived.Test.YtpknmloeaiieaaaDoorUnhexImpl
import Derived.Test.YtpknmloeaiieaaaDoorReadDecimal
import Derived.Test.YtpknmloeaiieaaaDoorDecimalImpl
import Derived.Test.YtpknmloeaiieaaaDoorTie
import Derived.Test.YtpknmloeaiieaaaDoorCards
import Derived.ProofKit
import Derived.LaidMore
import Derived.OpenShut
import Derived.Stop.Joined
import Derived.SevenTiedAt
namespace Go.Proofs.YtpknmloeaiieaaaDoor
open Go.ChangeShapes Go.WideShapes Go.ChangeAt Go.RowKit
open Go.ChangeMaps (open_string shut_string)
set_option linter.unusedVariables false

theorem big_any (a : Option Addr) (len cap : Nat) (w : World) :
    Calls Tryd.prog 5 #[.slice a len cap] w fun e w' => e = .returned (.bool (decide ((1048576 : Int) < (len : Int)))) ∧ w = w' := by
  go_enter Tryd.func5, Tryd.ntmps5
  go_wp2
  go_ret
  exact ⟨rfl, rfl⟩

theorem string_snoc (acc : List UInt8) (b : UInt8) (h : acc.length + 1 ≤ 9223372036854775807) (wx : World) :
    (Op.stringOp .add ⟨acc.toArray⟩ ⟨[b].toArray⟩).run Tryd.prog wx = .ok (.string ⟨(acc ++ [b]).toArray⟩) wx := by
  rw [run_string_add_sum (P := Tryd.prog) (w := wx) ⟨acc.toArray⟩ ⟨[b].toArray⟩ (by simp [ByteArray.size]; omega), ByteArray.mk_append_mk]

theorem vt_short (n : Nat) (h : n ≤ 1000000000) : (vt n).length ≤ 5 := by
  have h1 := rg_vt 4 n 0 0 [] (by omega)
  have h2 := (rg_bound 5 _ 0 0 _ _ h1 (by decide)).2.2.1
  omega

/-- The text of a number between two letters is read. -/
theorem rvT_back (n : Nat) (h : n ≤ 1000000000) : rvT ⟨(120 :: (vt n ++ [121])).toArray⟩ 1 = .tuple #[.int .i64 (n : Int), .int .i64 ((1 + (vt n).length : Nat) : Int), .bool true] := by
  have hr := rv_back [120] [121] n h
  have e : (120 :: vt n) ++ [121] = [120] ++ (vt n ++ [121]) := by simp
  have := rvT_some (s := ⟨((120 :: vt n) ++ [121]).toArray⟩) (k := 1) (n := n) (b := 1 + (vt n).length) (by simp [ByteArray.size]) (by rw [e]; simpa using hr)
  exact this

theorem isDec_dec (n : Nat) (h : n ≤ 1000000000) : isDec (dec n) := by
  obtain ⟨h1, h2, h3⟩ := dec_back n h
  exact ⟨h1, h2, by rw [h3]; exact h, by rw [h3]⟩

theorem RdT_dec {n : Nat} (h : n ≤ 1000000000) {v : Value} (hv : RdT ⟨(dec n).toArray⟩ v) : v = .tuple #[.int .i64 (n : Int), .bool true] := by
  rcases hv with ⟨_, hv⟩ | ⟨hn, _⟩
  · have h3 := (dec_back n h).2.2
    simp only at hv
    rw [hv]
    show Value.tuple #[.int .i64 ((val (dec n) : Nat) : Int), .bool true] = _
    rw [h3]
  · exact absurd (isDec_dec n h) hn

theorem decI_nat (n : Nat) : decI (n : Int) = dec n := by
  rw [decI, if_neg (by omega), Int.toNat_natCast]

/-- A text behind its length is read. -/
theorem rsT_back (s : ByteArray) (h : s.size ≤ 20000) : rsT (⟨(vt s.size).toArray⟩ ++ s) 0 = .tuple #[.string s, .int .i64 (((⟨(vt s.size).toArray⟩ ++ s : ByteArray).size : Nat) : Int), .bool true] := by
  obtain ⟨⟨l⟩⟩ := s
  have hs : (ByteArray.mk ⟨l⟩).size = l.length := by simp [ByteArray.size]
  rw [hs] at h ⊢
  have e : (ByteArray.mk (vt l.length).toArray ++ ByteArray.mk l.toArray) = ByteArray.mk (vt l.length ++ l).toArray := ByteArray.mk_append_mk _ _
  have e' : (ByteArray.mk (vt l.length).toArray ++ ByteArray.mk ⟨l⟩) = ByteArray.mk (vt l.length ++ l).toArray := e
  rw [e']
  have hr := rv_back [] l l.length (by omega)
  simp only [List.nil_append, List.length_nil, Nat.zero_add] at hr
  have hsz : (ByteArray.mk (vt l.length ++ l).toArray).size = (vt l.length).length + l.length := by simp [ByteArray.size]
  have := rsT_yes (s := ⟨(vt l.length ++ l).toArray⟩) (k := 0) (n := l.length) (b := (vt l.length).length) (by omega) hr ⟨h, by rw [hsz]; omega⟩
  rw [show ((0 : Nat) : Int) = 0 from rfl] at this
  rw [this, hsz, ByteArray.extract_mk]
  have ex : (List.drop (vt l.length).length (vt l.length ++ l)).take ((vt l.length).length + l.length - (vt l.length).length) = l := by simp
  rw [ex]
  simp

/-- The text of a text's figures is that text. -/
theorem uhT_back (s : ByteArray) (h : s.size ≤ 20000) : uhT ⟨(hexOf s.data.toList).toArray⟩ = .tuple #[.string s, .bool true] := by
  obtain ⟨h1, h2⟩ := hex_back s.data.toList (by simpa using h)
  rw [uhT_yes (s := ⟨(hexOf s.data.toList).toArray⟩) h1]
  show Value.tuple #[.string ⟨(pairsOf (valsOf true (hexOf s.data.toList))).toArray⟩, .bool true] = _
  rw [h2]

set_option maxRecDepth 100000 in
set_option maxHeartbeats 4000000 in
theorem walk_FnNumbers (a : Option Addr) (len cap : Nat) (w : World) (hcode : CodeIn w a len) (htab : Lib.TabIs Tryd.prog w "internal/strconv.uint64pow10" .u64 Lib.pow10Tab) :
    Calls Tryd.prog 3 #[.slice a len cap] w fun e w' => e = .returned (.bool true) ∧ Below w.heap.size w w' := by
  have hT : Hid (Lib.TabBelow Tryd.prog w.heap.size w "internal/strconv.uint64pow10" .u64 Lib.pow10Tab) := Lib.tabBelow_of_tabIs htab
  clear htab
  by_cases hbig : len ≤ 1048576
  · have hb0 : decide ((1048576 : Int) < (len : Int)) = false := decide_eq_false (by omega)
    go_enter Tryd.func3, Tryd.ntmps3
    go_wp2_with fail
    refine (big_any a len cap _).mono ?_
    rintro e w0 ⟨rfl, rfl⟩
    rw [hb0]
    go_wp2_with fail
    refine (drawVarText_any a len cap _ hcode hbig).mono ?_
    rintro e w1 ⟨⟨x, hx, rfl⟩, hb1⟩
    have hM : ∃ M : Nat, M ≤ 1000000000 ∧ ((0 ≤ x ∧ x ≤ 1000000000 ∧ x = (M : Int)) ∨ (x < 0 ∧ True ∧ (12345 : Int) = (M : Int)) ∨ (1000000000 < x ∧ True ∧ (12345 : Int) = (M : Int))) := by
      by_cases h : 0 ≤ x ∧ x ≤ 1000000000
      · exact ⟨x.toNat, by omega, .inl ⟨h.1, h.2, by omega⟩⟩
      · by_cases h2 : x < 0
        · exact ⟨12345, by omega, .inr (.inl ⟨h2, trivial, by omega⟩)⟩
        · exact ⟨12345, by omega, .inr (.inr ⟨by omega, trivial, by omega⟩)⟩
    obtain ⟨M, hM, hcase⟩ := hM
    have hvl := vt_short M hM
    have hp1 := string_push 120 (vt M) (by omega)
    have hp2 := string_snoc (120 :: vt M) 121 (by simp; omega)
    have hrv : Hid (rvT ⟨(120 :: (vt M ++ [121])).toArray⟩ 1 = _) := rvT_back M hM
    rcases hcase with ⟨h0, h1, hM2⟩ | ⟨h0, h1, hM2⟩ | ⟨h0, h1, hM2⟩
    all_goals
      have HM := Lib.hid hM2
      clear hM2
      go_wp2_with fail
      rw [HM.out]
      refine (implVarText_any _ _).mono ?_
      rintro e w2 ⟨rfl, hb2⟩
      rw [varT_yes (by omega), Int.toNat_natCast]
      have b2 : Below w.heap.size w w2 := hb1.trans (hb2.mono hb1.size)
      clear hb2 hb1
      go_wp2_with fail
      refine (implReadVar_any _ _ _ (by simp [ByteArray.size]; omega)).mono ?_
      rintro e w3 ⟨rfl, hb3⟩
      rw [hrv.out]
      have b3 : Below w.heap.size w w3 := b2.trans (hb3.mono b2.size)
      clear hb3 b2 hp1 hp2
      go_wp2_with fail
      refine (implDecimal_any _ _ (by omega) (by omega) (hT.out _ b3)).mono ?_
      rintro e w4 ⟨rfl, hb4⟩
      rw [decI_nat]
      have b4 : Below w.heap.size w w4 := b3.trans (hb4.mono b3.size)
      clear hb4 b3
      go_wp2_with fail
      refine (implReadDecimal_any _ _ (by have := (dec_back M hM).1; simp [ByteArray.size]; omega)).mono ?_
      rintro e w5 ⟨v, rfl, hv, hb5⟩
      rw [RdT_dec hM hv]
      have b5 : Below w.heap.size w w5 := b4.trans (hb5.mono b4.size)
      clear hb5 b4 hv
      go_wp2_with fail
      refine (drawHex_any a len cap _ (hcode.later b5) hbig).mono ?_
      rintro e w6 ⟨s, hsz, rfl, hb6⟩
      have b6 : Below w.heap.size w w6 := b5.trans (hb6.mono b5.size)
      clear hb6 b5
      obtain ⟨t, htz, hcase⟩ : ∃ t : ByteArray, t.size ≤ 300 ∧ ((s.size ≤ 300 ∧ s = t) ∨ (300 < s.size ∧ (⟨#[97, 98, 99]⟩ : ByteArray) = t)) := by
        by_cases h : s.size ≤ 300
        · exact ⟨s, h, .inl ⟨h, rfl⟩⟩
        · exact ⟨⟨#[97, 98, 99]⟩, by decide, .inr ⟨by omega, rfl⟩⟩
      rcases hcase with ⟨h3, hst⟩ | ⟨h3, hst⟩
      all_goals
        have HT := Lib.hid hst
        clear hst
        go_wp2_with fail
        rw [HT.out]
        refine (implShortText_any _ _ (by omega)).mono ?_
        rintro e w7 ⟨rfl, hb7⟩
        rw [shT_yes (by omega)]
        have b7 : Below w.heap.size w w7 := b6.trans (hb7.mono b6.size)
        clear hb7 b6
        go_wp2_with fail
        refine (implReadShort_any _ _ _ ?_).mono ?_
        · have := vt_size t.size
          rw [ByteArray.size_append]
          omega
        rintro e w8 ⟨rfl, hb8⟩
        rw [rsT_back t (by omega)]
        have b8 : Below w.heap.size w w8 := b7.trans (hb8.mono b7.size)
        clear hb8 b7
        go_wp2_with fail
        refine (implHex_any _ _ (by omega)).mono ?_
        rintro e w9 ⟨rfl, hb9⟩
        rw [hexT_yes (by omega)]
        have b9 : Below w.heap.size w w9 := b8.trans (hb9.mono b8.size)
        clear hb9 b8
        go_wp2_with fail
        refine (implUnhex_any _ _ ?_).mono ?_
        · have h4 := hexOf_length t.data.toList
          have h5 : t.data.toList.length = t.size := Array.length_toList
          have h6 : (ByteArray.mk (hexOf t.data.toList).toArray).size = (hexOf t.data.toList).length := List.size_toArray
          omega
        rintro e wA ⟨rfl, hbA⟩
        rw [uhT_back t (by omega)]
        have bA : Below w.heap.size w wA := b9.trans (hbA.mono b9.size)
        clear hbA b9
        go_wp2
        go_ret
        exact ⟨rfl, bA⟩
  · have hb0 : decide ((1048576 : Int) < (len : Int)) = true := decide_eq_true (by omega)
    go_enter Tryd.func3, Tryd.ntmps3
    go_wp2_with fail
    refine (big_any a len cap _).mono ?_
    rintro e w0 ⟨rfl, rfl⟩
    rw [hb0]
    go_wp2
    go_ret
    exact ⟨rfl, Below.refl _ _⟩

theorem powTab : (Rows.laid_internal_strconv_uint64pow10 : DataW Unit) = Lib.tabData .u64 Lib.pow10Tab := by rfl

theorem FnNumbers_of_laid {W : World} (h : laidMetH Tryd.prog Rows.fnNumbersRow.laid W) : Lib.TabIs Tryd.prog W "internal/strconv.uint64pow10" .u64 Lib.pow10Tab := by
  rw [MakeChecks.laidMetH_plain _ _ _ (by kernel_rfl)] at h
  obtain ⟨ps, ⟨g0, t0, cs0, f0, p0, q0, hg0, ht0, hv0, hd0, ⟨g1, t1, cs1, f1, p1, q1, hg1, ht1, hv1, hd1, ⟨g2, t2, cs2, f2, p2, q2, hg2, ht2, hv2, hd2, _, _⟩, _⟩, _⟩, _, _⟩ := h
  have hg : Tryd.prog.globalNamed "internal/strconv.uint64pow10" = some 1 := by kernel_rfl
  have ht : (Tryd.prog.globals[1]?).map (·.type) = some 69 := by kernel_rfl
  obtain rfl := Option.some.inj (hg.symm.trans hg2)
  obtain rfl := Option.some.inj (ht.symm.trans ht2)
  unfold Lib.TabIs
  rw [powTab] at hd2
  rw [hv2, ← Lib.cells_of_tab (P := Tryd.prog) Tryd.underlying69 Tryd.underlying62 (by kernel_rfl) (by kernel_rfl) hd2]

theorem FnNumbers_own : ownKnob Tryd.prog.godebug = none := by kernel_rfl
theorem FnNumbers_door (os : Os) (args : Array Value) : laidMetH Tryd.prog Rows.fnNumbersRow.laid ((World.doorLaid Tryd.prog 400 os).forCall (fun _ _ => 0) ⟨#[], args, []⟩).memory :=
  laidMetH_of_parts3 (fuel := 8) (laidMet_of_run' 8 (by kernel_rfl) (by kernel_rfl)) (by kernel_rfl) (by kernel_rfl)

set_option maxRecDepth 100000 in
theorem FnNumbers_lifted (os : Os) (started : os.Started) (H : Type) (enc : TypeId × Value → H) :
    ReturnsInHanded {} Tryd.checked os 3 .any (fun w args => (Rows.fnNumbersSpec.pre enc Tryd.prog Tryd.f3 [] false w args ∧ laidMetH Tryd.prog Rows.fnNumbersRow.laid w) ∧ sizedMet enc Tryd.prog Tryd.f3 (OpenSpec.ofChange Rows.fnNumbersSpec) false w args)
      (Rows.fnNumbersSpec.post enc Tryd.prog Tryd.f3 false true false false) := by
  refine returnsInHanded_of_change_and (C := Tryd.checked) (X := fun w _ => laidMetH Tryd.prog Rows.fnNumbersRow.laid w) (fun _ _ _ hh h => h.of_heap hh) FnNumbers_own started (by kernel_rfl) Tryd.func3
    (ChangeSpec.witness_shaped (enc := enc) (C := Tryd.checked) (os := os) (X := fun w _ => laidMetH Tryd.prog Rows.fnNumbersRow.laid w) false (World.doorLaid Tryd.prog 400 os) #[.slice none 0 0] 8 rfl (World.shaped_of_RefB (by kernel_rfl) (by kernel_rfl)) (by kernel_rfl) (by kernel_rfl) (by kernel_rfl) (FnNumbers_door os _)) ?_
  intro W base args ds gs before hval0 hW _ _ hL _
  have hval : ∀ (j : Nat) t v, Tryd.f3.params[j]? = some t → args[j]? = some v → Value.okWide Tryd.prog W .any base t v := hval0
  have hW' := hW
  obtain ⟨p, q, hA0, hV, rfl, hfz, hnd⟩ := hW
  have hA : DataW.TrodAll enc Tryd.prog W 0 (fun _ => true) true Tryd.f3.params.toList args.toList ds p := hA0
  rw [Tryd.params3] at hA hval
  obtain ⟨v0, vs0, d0, ds0, p0, q0, hargs, rfl, rfl, h0, r0⟩ := trodAll_cons hA
  obtain ⟨rfl, rfl, rfl⟩ := trodAll_nil r0
  obtain rfl : args = #[v0] := by cases args; simp_all
  obtain ⟨rfl, rfl⟩ := trodVars_none hV
  obtain ⟨a0, len0, cap0, rfl⟩ := okWide_slice Tryd.underlying22 (hval 0 22 v0 rfl rfl)
  have k0 := h0
  have lt0 : ∀ x ∈ p0, x.block < W.heap.size := by obtain ⟨m, hm⟩ := k0; exact DataW.trod_lt m _ _ _ hm
  have w0 : CodeIn W a0 len0 := by
    obtain ⟨fuel, hf⟩ := h0
    rcases open_ints Tryd.underlying22 Tryd.underlying5 (by kernel_rfl) hf with ⟨hcs, _⟩ | ⟨x, l, c, zs, hcs, _, hl, hm, hz, _, hcell, hwz⟩
    · simp [Value.cells] at hcs
      obtain ⟨rfl, rfl, rfl⟩ := hcs
      intro i hi; omega
    · simp [Value.cells] at hcs
      obtain ⟨rfl, rfl, rfl⟩ := hcs
      exact codeIn_of_row hl (by simpa using hz) hcell hwz
  clear hA0 hval0
  simp only [List.append_nil] at hW'
  refine (walk_FnNumbers a0 len0 cap0 w0 (w := W) (FnNumbers_of_laid hL)).mono fun e W' ⟨he, bel⟩ => ?_
  subst he
  exact ⟨_, rfl, _, _, _, [], _, [], hW', trodAll_mk1 (shut_bool Tryd.underlying4 _), (trodAll_cons_mk (Below.trod (show laidOutB Tryd.prog = true by kernel_rfl) (by kernel_rfl) (of_decide_eq_true (by kernel_rfl)) k0 bel lt0) trodAll_mk0), rfl, bel.frame _, fun h => by cases h⟩

theorem fnNumbers_row : Rows.FnNumbersSaid :=
  OpenClaim.holds_of_wide 3 Tryd.f3 rfl rfl rfl rfl rfl rfl rfl ⟨rfl, rfl, rfl, rfl, rfl⟩ rfl rfl rfl rfl rfl (by kernel_rfl) Tryd.func3 (by kernel_rfl)
    (of_decide_eq_true (by kernel_rfl)) (by unfold Func.isWrapper; first | (rw [if_pos (by decide +kernel)]; kernel_rfl) | (rw [if_neg (by decide +kernel)]; exact ⟨rfl, rfl⟩))
    (fun os started H enc _ => FnNumbers_lifted os started H enc)

/-- The given statement. -/
theorem fnNumbers_cardsaid : Rows.FnNumbersCardSaid :=
  Claim7.holds_tied_plain_at .later [] [.data, .data, .data] true (true, "b82b1160e1c60cf276d5571ea3eb9997c252105e433a8328463da30e9ef38809") false
    fnNumbers_row (fun _ h => by cases h) (by kernel_rfl) (fun _ h => by cases h) fnNumbers_row_tie rfl ⟨rfl, rfl⟩ (by kernel_rfl) rfl
    (fun f fn hf hfn => by
      obtain rfl : f = 3 := Option.some.inj ((show Tryd.prog.funcNamed "loop.example/g00287/laws.FnNumbers" = some 3 by kernel_rfl).symm.trans hf) |>.symm
      obtain rfl : fn = Tryd.f3 := (Option.some.inj (Tryd.func3.symm.trans hfn)).symm
      exact ⟨by kernel_rfl, fun j t ht => by
        rw [Tryd.params3] at ht
        have hm : t ∈ [22] := by simpa using Array.mem_of_getElem? ht
        have hall : ([22].all fun u => !Tryd.prog.wantsStandIn u) = true := by kernel_rfl
        exact (show Tryd.prog.wantsStandIn t = false by simpa using List.all_eq_true.1 hall t hm)⟩)
    (by kernel_rfl)
#print axioms fnNumbers_cardsaid

end Go.Proofs.YtpknmloeaiieaaaDoor
