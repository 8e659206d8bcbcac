/- Texts of our own, joined. -/
import Derived.Test.YtmbmbnjbeofmaaaJd
import Derived.WalkSpells
import Derived.WalkSmall
import Derived.Test.YtmbmbnjbeofmaaaJa
import Derived.Test.YtmbmbnjbeofmaaaJc
import Derived.Lib.Hide
/- What records tell: the model's BoxOf. -/
namespace Go.Proofs.Ytmbmbnjbeofmaaa
open Go.RowKit

/-- A store elsewhere leaves a list of the call's own. -/
theorem RBuf.aside {α : Type} {E : Enc α} {B : Nat} {w : World} {v : Value} {l : List α} (h : RBuf E B w w v l) (g i : Nat) (u : Value) (hg : g < B) : RBuf E B (w.setCell ⟨g, i, none⟩ u) (w.setCell ⟨g, i, none⟩ u) v l := by
  refine h.shift (stored_grown w g i u) ?_
  cases hb : v.ownBlock with
  | none => exact .inl rfl
  | some k => exact .inr (fun e => by have := (h.own.lt k hb).1; have := Option.some.inj e; omega)
/-- Five cells stored. -/
def set5 (w : World) (b : Nat) (v0 v1 v2 v3 v4 : Value) : World := ((((w.setCell ⟨b, 0, none⟩ v0).setCell ⟨b, 1, none⟩ v1).setCell ⟨b, 2, none⟩ v2).setCell ⟨b, 3, none⟩ v3).setCell ⟨b, 4, none⟩ v4

set_option maxRecDepth 100000 in
set_option maxHeartbeats 4000000 in
theorem specBox_any (b : Bx) (a1 : Option Addr) (c1 : Nat) (w : World) (h : Rows' mlE w (.slice a1 b.mails.length c1) b.mails) (hl : b.mails.length ≤ 1048576) :
    Calls Try.prog 27 #[.agg #[.int .i64 b.valid, .string b.user, .string b.name, .int .i64 b.next, .slice a1 b.mails.length c1]] w fun e w' => ∃ v, e = .returned (.agg #[.int .i64 b.valid, .string b.user, .string b.name, .int .i64 b.next, v]) ∧ RBuf mlE w.heap.size w' w' v b.mails ∧ Below w.heap.size w w' := by
  have b1 : Below w.heap.size w ((w.alloc (.cells #[.int .i64 b.valid, .string b.user, .string b.name, .int .i64 b.next, .slice a1 b.mails.length c1] 42)).alloc (.cells #[.int .i64 0, .string ⟨#[]⟩, .string ⟨#[]⟩, .int .i64 0, .slice none 0 0] 42)) := ((Below.refl _ _).alloc (Nat.le_refl _) _).alloc (by simp) _
  have X1 := (Box.new w #[.int .i64 b.valid, .string b.user, .string b.name, .int .i64 b.next, .slice a1 b.mails.length c1] 42).later (belNew _ (.cells #[.int .i64 0, .string ⟨#[]⟩, .string ⟨#[]⟩, .int .i64 0, .slice none 0 0] 42))
  have hsz : ((w.alloc (.cells #[.int .i64 b.valid, .string b.user, .string b.name, .int .i64 b.next, .slice a1 b.mails.length c1] 42)).alloc (.cells #[.int .i64 0, .string ⟨#[]⟩, .string ⟨#[]⟩, .int .i64 0, .slice none 0 0] 42)).heap.size = w.heap.size + 2 := by simp
  have X2 : Box ((w.alloc (.cells #[.int .i64 b.valid, .string b.user, .string b.name, .int .i64 b.next, .slice a1 b.mails.length c1] 42)).alloc (.cells #[.int .i64 0, .string ⟨#[]⟩, .string ⟨#[]⟩, .int .i64 0, .slice none 0 0] 42)) (w.heap.size + 1) #[.int .i64 0, .string ⟨#[]⟩, .string ⟨#[]⟩, .int .i64 0, .slice none 0 0] 42 := by
    have := Box.new (w.alloc (.cells #[.int .i64 b.valid, .string b.user, .string b.name, .int .i64 b.next, .slice a1 b.mails.length c1] 42)) #[.int .i64 0, .string ⟨#[]⟩, .string ⟨#[]⟩, .int .i64 0, .slice none 0 0] 42
    rwa [show (w.alloc (.cells #[.int .i64 b.valid, .string b.user, .string b.name, .int .i64 b.next, .slice a1 b.mails.length c1] 42)).heap.size = w.heap.size + 1 from by simp] at this
  have R1 := h.later b1
  go_enter Try.func27, Try.ntmps27
  go_upto_region 1 with fail
  generalize (w.alloc (.cells #[.int .i64 b.valid, .string b.user, .string b.name, .int .i64 b.next, .slice a1 b.mails.length c1] 42)).alloc (.cells #[.int .i64 0, .string ⟨#[]⟩, .string ⟨#[]⟩, .int .i64 0, .slice none 0 0] 42) = w1 at b1 X1 X2 hsz R1 ⊢
  have BW := Lib.hid b1
  have SZ := Lib.hid hsz
  have I0 := (RBuf.fresh mlE w1).here
  have b2 := belNew w1 (.cells #[] 63)
  have H2 := Lib.hid (X2.later b2)
  have H1 := Lib.hid (X1.later b2)
  have x4 : (w1.alloc (.cells #[] 63)).cell? ⟨w.heap.size, 4, none⟩ = some (.slice a1 b.mails.length c1) := H1.out.cell 4 _ rfl
  have HR := Lib.hid (R1.later b2)
  have HI := Lib.hid I0
  clear h b1 X1 X2 hsz R1 I0 b2
  go_wp2_with (at_builtin; refine wpList_append_rd rfl _ _ mlE rfl w1.heap.size _ [] rfl HI.out _ b.mails rfl HR.out ?hl ?_)
  case hl => simp [mlE]; omega
  intro v' w2 hv gv _
  obtain ⟨pv, cv, rfl⟩ := hv.form
  have gv : World.grownBy _ w2 (some w1.heap.size) := gv
  have hlt : w.heap.size < w1.heap.size := by have := SZ.out; omega
  have hlt2 : w.heap.size + 1 < w1.heap.size := by have := SZ.out; omega
  have K1 : Box w2 w.heap.size #[.int .i64 b.valid, .string b.user, .string b.name, .int .i64 b.next, .slice a1 b.mails.length c1] 42 := (gv.block _ H1.out.lt (fun e => by have := Option.some.inj e; omega)).trans H1.out
  have K2 : Box w2 (w.heap.size + 1) #[.int .i64 0, .string ⟨#[]⟩, .string ⟨#[]⟩, .int .i64 0, .slice none 0 0] 42 := (gv.block _ H2.out.lt (fun e => by have := Option.some.inj e; omega)).trans H2.out
  have bG : Below w.heap.size w w2 := (BW.out.alloc BW.out.size _).grown gv (by simp; omega) (fun k hk => by have := Option.some.inj hk; omega)
  have L1 : Box (w2.setCell ⟨w.heap.size, 4, none⟩ (.slice pv b.mails.length cv)) w.heap.size #[.int .i64 b.valid, .string b.user, .string b.name, .int .i64 b.next, .slice pv b.mails.length cv] 42 := K1.set 4 _
  have L2 : Box (w2.setCell ⟨w.heap.size, 4, none⟩ (.slice pv b.mails.length cv)) (w.heap.size + 1) #[.int .i64 0, .string ⟨#[]⟩, .string ⟨#[]⟩, .int .i64 0, .slice none 0 0] 42 := K2.other (by omega) 4 _
  have hv2 := hv.aside w.heap.size 4 (.slice pv b.mails.length cv) hlt
  have bS : Below w.heap.size w (w2.setCell ⟨w.heap.size, 4, none⟩ (.slice pv b.mails.length cv)) := bG.setCell (p := ⟨w.heap.size, 4, none⟩) (Nat.le_refl _) _
  have k4 : w2.cell? ⟨w.heap.size, 4, none⟩ = some (.slice a1 b.mails.length c1) := K1.cell 4 _ rfl
  have f4 : w2.frozen? ⟨w.heap.size, 4, none⟩ = false := K1.loose 4
  have HV := Lib.hid hv2
  have HL := Lib.hid L2
  have HLT := Lib.hid hlt2
  have HBS := Lib.hid bS
  clear K1 K2 bG hv hv2 gv H1 H2 HR HI BW SZ x4 hlt hlt2 L2 bS
  go_upto_region 2 with fail
  generalize w2.setCell ⟨w.heap.size, 4, none⟩ (.slice pv b.mails.length cv) = w3 at L1 HL HBS HV ⊢
  clear f4 k4
  obtain ⟨y0, y1, y2, y3, y4⟩ := L1.five
  obtain ⟨u0, u1, u2, u3, u4⟩ := HL.out.five
  have f0 := HL.out.loose 0
  have f1 := HL.out.loose 1
  have f2 := HL.out.loose 2
  have f3 := HL.out.loose 3
  have f4 := HL.out.loose 4
  have L5 : Box (set5 w3 (w.heap.size + 1) (.int .i64 b.valid) (.string b.user) (.string b.name) (.int .i64 b.next) (.slice pv b.mails.length cv)) (w.heap.size + 1) #[.int .i64 b.valid, .string b.user, .string b.name, .int .i64 b.next, .slice pv b.mails.length cv] 42 := ((((HL.out.set 0 _).set 1 _).set 2 _).set 3 _).set 4 _
  unfold set5 at L5
  obtain ⟨z0, z1, z2, z3, z4⟩ := L5.five
  clear L1 L5
  go_wp2
  refine bodyPost_ret (v := .agg #[.int .i64 b.valid, .string b.user, .string b.name, .int .i64 b.next, .slice pv b.mails.length cv]) (by simp [results, Try.results27, go_sem, z0, z1, z2, z3, z4]) rfl ⟨_, rfl, ?_, ?_⟩
  · exact (((((HV.out.aside _ 0 _ HLT.out).aside _ 1 _ HLT.out).aside _ 2 _ HLT.out).aside _ 3 _ HLT.out).aside _ 4 _ HLT.out).lower (by have := HLT.out; omega)
  · exact ((((HBS.out.setCell (p := ⟨w.heap.size + 1, 0, none⟩) (by simp) _).setCell (p := ⟨w.heap.size + 1, 1, none⟩) (by simp) _).setCell (p := ⟨w.heap.size + 1, 2, none⟩) (by simp) _).setCell (p := ⟨w.heap.size + 1, 3, none⟩) (by simp) _).setCell (p := ⟨w.heap.size + 1, 4, none⟩) (by simp) _

end Go.Proofs.Ytmbmbnjbeofmaaa

/- What records tell: the model's BoxOf. -/
namespace Go.Proofs.Ytmbmbnjbeofmaaa
open Go.RowKit

/-- The box of a user and a name. -/
noncomputable def boxOf (ps : List Bx) (u nm : ByteArray) : Option Bx := ps.find? (fun b => @decide (b.user = u ∧ b.name = nm) (Classical.propDecidable _))
theorem boxOf_at {ps : List Bx} {u nm : ByteArray} {i : Nat} {x : Bx} (h : ps[i]? = some x) (hx : x.user = u ∧ x.name = nm) (hU : ∀ (j : Nat) (y : Bx), ps[j]? = some y → j < i → ¬ (y.user = u ∧ y.name = nm)) : boxOf ps u nm = some x := by
  obtain ⟨hi, rfl⟩ := List.getElem?_eq_some_iff.1 h
  refine List.find?_eq_some_iff_getElem.2 ⟨@decide_eq_true _ (Classical.propDecidable _) hx, i, hi, rfl, fun j hj => ?_⟩
  rw [@decide_eq_false _ (Classical.propDecidable _) (hU j _ (List.getElem?_eq_getElem (by omega)) hj)]
  rfl
theorem boxOf_none {ps : List Bx} {u nm : ByteArray} (hU : ∀ (j : Nat) (y : Bx), ps[j]? = some y → ¬ (y.user = u ∧ y.name = nm)) : boxOf ps u nm = none := by
  refine List.find?_eq_none.2 fun x hx => ?_
  obtain ⟨j, hj⟩ := List.mem_iff_getElem?.1 hx
  rw [@decide_eq_false _ (Classical.propDecidable _) (hU j x hj)]
  exact Bool.false_ne_true

set_option maxRecDepth 100000 in
set_option maxHeartbeats 2000000 in
theorem specBoxOf_any (ps : List Bx) (va : Value) (u nm : ByteArray) (w : World) (ha : BRd w va ps) (hla : ps.length ≤ 1048576) (hma : ∀ b ∈ ps, b.mails.length ≤ 1048576) :
    Calls Try.prog 13 #[.agg #[va], .string u, .string nm] w fun e w' => ((boxOf ps u nm = none ∧ e = .returned (.tuple #[.agg #[.int .i64 0, .string ⟨#[]⟩, .string ⟨#[]⟩, .int .i64 0, .slice none 0 0], .bool false])) ∨ ∃ (x : Bx) (v : Value), boxOf ps u nm = some x ∧ e = .returned (.tuple #[.agg #[.int .i64 x.valid, .string x.user, .string x.name, .int .i64 x.next, v], .bool true]) ∧ RBuf mlE w.heap.size w' w' v x.mails) ∧ Below w.heap.size w w' := by
  obtain ⟨ad, cap, rfl, hrowa⟩ := ha.boxes
  have HA := Lib.hid hrowa
  have HMA := Lib.hid hma
  clear ha hrowa hma
  obtain ⟨n, hn⟩ : ∃ n, ps.length = n := ⟨_, rfl⟩
  have HN := Lib.hid hn
  rw [hn] at hla ⊢
  clear hn
  obtain ⟨D, hD⟩ : ∃ D, boxOf ps u nm = D := ⟨_, rfl⟩
  have HD := Lib.hid hD
  rw [hD]
  clear hD
  have b1 : Below w.heap.size w ((w.alloc (.cells #[.slice ad n cap] 32)).alloc (.cells #[.int .i64 0, .string ⟨#[]⟩, .string ⟨#[]⟩, .int .i64 0, .slice none 0 0] 42)) := ((Below.refl _ _).alloc (Nat.le_refl _) _).alloc (by simp) _
  have X2 := (Box.new w #[.slice ad n cap] 32).later (belNew _ (.cells #[.int .i64 0, .string ⟨#[]⟩, .string ⟨#[]⟩, .int .i64 0, .slice none 0 0] 42))
  have X3 : Box ((w.alloc (.cells #[.slice ad n cap] 32)).alloc (.cells #[.int .i64 0, .string ⟨#[]⟩, .string ⟨#[]⟩, .int .i64 0, .slice none 0 0] 42)) (w.heap.size + 1) #[.int .i64 0, .string ⟨#[]⟩, .string ⟨#[]⟩, .int .i64 0, .slice none 0 0] 42 := by
    have := Box.new (w.alloc (.cells #[.slice ad n cap] 32)) #[.int .i64 0, .string ⟨#[]⟩, .string ⟨#[]⟩, .int .i64 0, .slice none 0 0] 42
    rwa [show (w.alloc (.cells #[.slice ad n cap] 32)).heap.size = w.heap.size + 1 from by simp] at this
  go_enter Try.func13, Try.ntmps13
  go_upto_region 1 with fail
  generalize (w.alloc (.cells #[.slice ad n cap] 32)).alloc (.cells #[.int .i64 0, .string ⟨#[]⟩, .string ⟨#[]⟩, .int .i64 0, .slice none 0 0] 42) = w1 at b1 X2 X3 ⊢
  have BW := Lib.hid b1
  have H2 := Lib.hid X2
  have H3 := Lib.hid X3
  have Y2 : w1.cell? ⟨w.heap.size, 0, none⟩ = some (.slice ad n cap) := H2.out.cell 0 _ rfl
  clear b1 X2 X3
  go_wp2
  go_loop [8] (fun iv => ∃ i : Nat, i ≤ n ∧ iv = .int .i64 (i : Int) ∧ (∀ (j : Nat) (y : Bx), ps[j]? = some y → j < i → ¬ (y.user = u ∧ y.name = nm))) (fun iv => n - (intOf iv).toNat)
  case atStart => exact ⟨0, by omega, rfl, fun j y _ hj => by omega⟩
  case round =>
    obtain ⟨i, hi, rfl, hU⟩ := hrel
    have HU := Lib.hid hU
    clear hU
    by_cases hlt : i < n
    · obtain ⟨x, hgx⟩ : ∃ x, ps[i]? = some x := ⟨_, List.getElem?_eq_getElem (by rw [HN.out]; exact hlt)⟩
      have hmx := HMA.out x (List.mem_of_getElem? hgx)
      obtain ⟨gp, op, a1, n1, c1, rfl, p0, p1, p2, p3, p4, ra⟩ := HA.out _ BW.out i _ hgx
      obtain ⟨hn1, _⟩ := ra.mails
      subst hn1
      have HRA := Lib.hid (ra.later BW.out)
      have HX := Lib.hid hgx
      have hi0 : (0 : Int) ≤ (i : Int) := by omega
      have hi1 : (i : Int) < (n : Int) := by omega
      clear hgx ra
      have HSK : Hid (∀ (h : ¬ (x.user = u ∧ x.name = nm)), ∀ (j : Nat) (y : Bx), ps[j]? = some y → j < i + 1 → ¬ (y.user = u ∧ y.name = nm)) := by
        intro h j y hj hji
        by_cases c : j = i
        · subst c; have := HX.out; rw [hj] at this; cases this; exact h
        · exact HU.out j y hj (by omega)
      by_cases hu : x.user = u
      · subst hu
        by_cases hm : x.name = nm
        · subst hm
          have HE : Hid (D = some x) := by rw [← HD.out]; exact boxOf_at HX.out ⟨rfl, rfl⟩ HU.out
          clear HSK
          go_wp2_with (go_at_call 27; refine (specBox_any x a1 c1 w1 HRA.out hmx).mono ?_; rintro e w2 ⟨v, rfl, hv, k2⟩; obtain ⟨pv, cv, rfl⟩ := hv.form; have HV := Lib.hid hv; have HK2 := Lib.hid k2; have HL := Lib.hid (H3.out.later k2); obtain ⟨u0, u1, u2, u3, u4⟩ := HL.out.five; have f0 := HL.out.loose 0; have f1 := HL.out.loose 1; have f2 := HL.out.loose 2; have f3 := HL.out.loose 3; have f4 := HL.out.loose 4; have L5 : Box (set5 w2 (w.heap.size + 1) (.int .i64 x.valid) (.string x.user) (.string x.name) (.int .i64 x.next) (.slice pv x.mails.length cv)) (w.heap.size + 1) #[.int .i64 x.valid, .string x.user, .string x.name, .int .i64 x.next, .slice pv x.mails.length cv] 42 := ((((HL.out.set 0 _).set 1 _).set 2 _).set 3 _).set 4 _; unfold set5 at L5; obtain ⟨z0, z1, z2, z3, z4⟩ := L5.five; clear L5 hv k2)
          refine bodyPost_ret (v := .tuple #[.agg #[.int .i64 x.valid, .string x.user, .string x.name, .int .i64 x.next, .slice pv x.mails.length cv], .bool true]) (by simp [results, Try.results13, go_sem, z0, z1, z2, z3, z4]) rfl ⟨.inr ⟨x, _, HE.out, rfl, ?_⟩, ?_⟩
          · have hq := H3.out.lt
            exact (((((HV.out.aside _ 0 _ hq).aside _ 1 _ hq).aside _ 2 _ hq).aside _ 3 _ hq).aside _ 4 _ hq).lower BW.out.size
          · exact (((((BW.out.trans (HK2.out.mono BW.out.size)).setCell (p := ⟨w.heap.size + 1, 0, none⟩) (by simp) _).setCell (p := ⟨w.heap.size + 1, 1, none⟩) (by simp) _).setCell (p := ⟨w.heap.size + 1, 2, none⟩) (by simp) _).setCell (p := ⟨w.heap.size + 1, 3, none⟩) (by simp) _).setCell (p := ⟨w.heap.size + 1, 4, none⟩) (by simp) _
        · have hm' : (x.name.toList == nm.toList) = false := by rw [beq_eq_false_iff_ne]; exact fun h => hm ((ba_same' _ _).1 h)
          have HK := Lib.hid (HSK.out (fun h => hm h.2))
          clear HSK
          go_wp2
          go_round
          case rel => exact ⟨i + 1, by omega, by go_num, HK.out⟩
          case measure => simp [intOf]; omega
      · have hu' : (x.user.toList == u.toList) = false := by rw [beq_eq_false_iff_ne]; exact fun h => hu ((ba_same' _ _).1 h)
        have HK := Lib.hid (HSK.out (fun h => hu h.1))
        clear HSK
        go_wp2
        go_round
        case rel => exact ⟨i + 1, by omega, by go_num, HK.out⟩
        case measure => simp [intOf]; omega
    · have HE : Hid (D = none) := by rw [← HD.out]; exact boxOf_none (fun j y hj => HU.out j y hj (by have := (List.getElem?_eq_some_iff.1 hj).1; have := HN.out; omega))
      obtain ⟨u0, u1, u2, u3, u4⟩ := H3.out.five
      have f0 := H3.out.loose 0
      have f1 := H3.out.loose 1
      have f2 := H3.out.loose 2
      have f3 := H3.out.loose 3
      have f4 := H3.out.loose 4
      have L5 : Box (set5 w1 (w.heap.size + 1) (.int .i64 0) (.string ⟨#[]⟩) (.string ⟨#[]⟩) (.int .i64 0) (.slice none 0 0)) (w.heap.size + 1) #[.int .i64 0, .string ⟨#[]⟩, .string ⟨#[]⟩, .int .i64 0, .slice none 0 0] 42 := ((((H3.out.set 0 _).set 1 _).set 2 _).set 3 _).set 4 _
      unfold set5 at L5
      obtain ⟨z0, z1, z2, z3, z4⟩ := L5.five
      clear L5
      go_wp2
      refine bodyPost_ret (v := .tuple #[.agg #[.int .i64 0, .string ⟨#[]⟩, .string ⟨#[]⟩, .int .i64 0, .slice none 0 0], .bool false]) (by simp [results, Try.results13, go_sem, z0, z1, z2, z3, z4]) rfl ⟨.inl ⟨HE.out, rfl⟩, ?_⟩
      exact ((((BW.out.setCell (p := ⟨w.heap.size + 1, 0, none⟩) (by simp) _).setCell (p := ⟨w.heap.size + 1, 1, none⟩) (by simp) _).setCell (p := ⟨w.heap.size + 1, 2, none⟩) (by simp) _).setCell (p := ⟨w.heap.size + 1, 3, none⟩) (by simp) _).setCell (p := ⟨w.heap.size + 1, 4, none⟩) (by simp) _

end Go.Proofs.Ytmbmbnjbeofmaaa

/- What records tell: the model's BoxesOf. -/
namespace Go.Proofs.Ytmbmbnjbeofmaaa
open Go.RowKit

/-- The names of a user's boxes. -/
noncomputable def namesOf (ps : List Bx) (u : ByteArray) : List ByteArray := (ps.filter (fun b => @decide (b.user = u) (Classical.propDecidable _))).map (·.name)
theorem names_yes {ps : List Bx} {u : ByteArray} {i : Nat} {x : Bx} (h : ps[i]? = some x) (hu : x.user = u) : namesOf (ps.take (i + 1)) u = namesOf (ps.take i) u ++ [x.name] := by
  rw [List.take_add_one, h]
  simp [namesOf, List.filter_append, hu]
theorem names_no {ps : List Bx} {u : ByteArray} {i : Nat} {x : Bx} (h : ps[i]? = some x) (hu : x.user ≠ u) : namesOf (ps.take (i + 1)) u = namesOf (ps.take i) u := by
  rw [List.take_add_one, h]
  simp [namesOf, List.filter_append, hu]
theorem names_len (ps : List Bx) (u : ByteArray) (i : Nat) (hi : i ≤ ps.length) : (namesOf (ps.take i) u).length ≤ i := by
  unfold namesOf
  rw [List.length_map]
  refine Nat.le_trans (List.length_filter_le _ _) ?_
  rw [List.length_take]; omega

set_option maxRecDepth 100000 in
set_option maxHeartbeats 4000000 in
theorem specBoxesOf_any (ps : List Bx) (va : Value) (u : ByteArray) (w : World) (ha : BRd w va ps) (hla : ps.length ≤ 1048576) :
    Calls Try.prog 14 #[.agg #[va], .string u] w fun e w' => ∃ v, e = .returned v ∧ SBuf w.heap.size w w' v (namesOf ps u) := by
  obtain ⟨ad, cap, rfl, hrowa⟩ := ha.boxes
  have HA := Lib.hid hrowa
  clear ha hrowa
  obtain ⟨n, hn⟩ : ∃ n, ps.length = n := ⟨_, rfl⟩
  have HN := Lib.hid hn
  rw [hn] at hla ⊢
  clear hn
  have b1 : Below w.heap.size w (w.alloc (.cells #[.slice ad n cap] 32)) := belNew _ _
  have X2 := Box.new w #[.slice ad n cap] 32
  go_enter Try.func14, Try.ntmps14
  go_upto_region 1 with fail
  generalize w.alloc (.cells #[.slice ad n cap] 32) = w1 at b1 X2 ⊢
  have BW := Lib.hid b1
  have X2' := Lib.hid X2
  clear b1 X2
  generalize hg2 : w.heap.size = g2 at X2' ⊢
  have I0 := SBuf.fresh w1
  go_wp2
  go_loopw [5, 6] (fun v iv wr => ∃ i : Nat, i ≤ n ∧ iv = .int .i64 (i : Int) ∧ SBuf w1.heap.size w1 wr v (namesOf (ps.take i) u)) (fun _ iv _ => n - (intOf iv).toNat)
  case atStart => exact ⟨0, by omega, rfl, I0⟩
  case round =>
    clear I0
    obtain ⟨i, hi, rfl, I⟩ := hrel
    have Y2 : wr.cell? ⟨g2, 0, none⟩ = some (.slice ad n cap) := (X2'.out.later I.bel).cell 0 _ rfl
    by_cases hlt : i < n
    · obtain ⟨x, hgx⟩ : ∃ x, ps[i]? = some x := ⟨_, List.getElem?_eq_getElem (by rw [HN.out]; exact hlt)⟩
      have bW : Below w.heap.size w wr := BW.out.trans (I.bel.mono BW.out.size)
      obtain ⟨gp, op, a1, n1, c1, rfl, p0, p1, p2, p3, p4, ra⟩ := HA.out _ bW i _ hgx
      have hlu : (namesOf (ps.take i) u).length ≤ 1048576 := by
        have := names_len ps u i (by rw [HN.out]; exact hi)
        omega
      have HY := Lib.hid (fun h => names_yes (u := u) hgx h)
      have HO := Lib.hid (fun h => names_no (u := u) hgx h)
      generalize namesOf (ps.take i) u = us at *
      have hi0 : (0 : Int) ≤ (i : Int) := by omega
      have hi1 : (i : Int) < (n : Int) := by omega
      clear hgx bW ra p0 p3 p4
      by_cases hu : x.user = u
      · subst hu
        have HY' := Lib.hid (HY.out rfl)
        clear HY HO
        go_wp2_with (at_builtin; refine wpList_append_str rfl _ _ rfl _ _ _ rfl (I.alloc _) ⟨wr.heap.size, 0, none⟩ x.name rfl (cell_one_new _ _ _) ?c1 ?_)
        case c1 => omega
        intro v' w2 hb'
        go_wp2
        go_roundw
        case rel => exact ⟨i + 1, by omega, by go_num, by rw [HY'.out]; exact hb'⟩
        case measure => simp [intOf]; omega
      · have hu' : (x.user.toList == u.toList) = false := by rw [beq_eq_false_iff_ne]; exact fun h => hu ((ba_same' _ _).1 h)
        have HO' := Lib.hid (HO.out hu)
        clear HY HO
        go_wp2
        go_roundw
        case rel => exact ⟨i + 1, by omega, by go_num, by rw [HO'.out]; exact I⟩
        case measure => simp [intOf]; omega
    · go_wp2
      go_ret
      refine ⟨_, rfl, ?_⟩
      have hil : i = ps.length := by rw [HN.out]; omega
      rw [hil, List.take_length] at I
      rw [← hg2]
      exact SBuf.under BW.out I

end Go.Proofs.Ytmbmbnjbeofmaaa

/- What fits, plainly. -/
namespace Go.Proofs.Ytmbmbnjbeofmaaa
open Go.RowKit

/-- The place of the first box with this number; -1 without it. -/
def FirV (ps : List Bx) (V r : Int) : Prop := (r = -1 ∧ ∀ b ∈ ps, b.valid ≠ V) ∨ ∃ (i : Nat) (b : Bx), r = (i : Int) ∧ ps[i]? = some b ∧ b.valid = V ∧ ∀ (j : Nat) (y : Bx), j < i → ps[j]? = some y → y.valid ≠ V
def vB (V : Int) (b : Bx) : Bool := decide (b.valid = V)
theorem FirV.find {ps : List Bx} {V r : Int} (h : FirV ps V r) : (r = -1 ∧ ps.find? (vB V) = none) ∨ ∃ (i : Nat) (b : Bx), r = (i : Int) ∧ ps[i]? = some b ∧ ps.find? (vB V) = some b := by
  rcases h with ⟨rfl, h⟩ | ⟨i, b, rfl, h1, h2, h3⟩
  · exact .inl ⟨rfl, List.find?_eq_none.2 (fun b hb => by unfold vB; simpa using h b hb)⟩
  · refine .inr ⟨i, b, rfl, h1, ?_⟩
    obtain ⟨hi, he⟩ := List.getElem?_eq_some_iff.1 h1
    refine List.find?_eq_some_iff_getElem.2 ⟨by unfold vB; exact decide_eq_true h2, i, hi, he, fun j hj => ?_⟩
    have := h3 j _ hj (List.getElem?_eq_getElem (by omega))
    unfold vB
    simpa using this
def mlB (U : Int) (m : Ml) : Bool := decide (m.uid = U)
def hasM (ms : List Ml) (U : Int) : Bool := ms.any (mlB U)
theorem hasM_take {ms : List Ml} {i : Nat} {m : Ml} (h : ms[i]? = some m) (U : Int) : hasM (ms.take (i + 1)) U = (hasM (ms.take i) U || mlB U m) := by
  unfold hasM
  rw [List.take_add_one, h, List.any_append]
  simp
/-- Whether a record fits its box. -/
def fbB (b : Bx) (r : Rc) : Bool := if r.kind = 3 then decide (r.uid = b.next) && decide (b.mails.length < 8) else if r.kind = 4 ∨ r.kind = 5 then hasM b.mails r.uid else true
noncomputable def inB (ns : List ByteArray) (s : ByteArray) : Bool := @decide (s ∈ ns) (Classical.propDecidable _)
/-- Whether a box may be. -/
noncomputable def bmB (ps : List Bx) (u nm : ByteArray) : Bool := decide ((namesOf ps u).length < 3) && !inB (namesOf ps u) nm
noncomputable def fitB (ps : List Bx) (nv : Int) (r : Rc) : Bool :=
  if r.ok then (if r.kind = 1 then (decide (r.valid = nv) && decide (r.next = 1)) && bmB ps r.user r.name else match ps.find? (vB r.valid) with | none => false | some b => fbB b r) else false
theorem boxOf_noneB {ps : List Bx} {u nm : ByteArray} (h : boxOf ps u nm = none) : inB (namesOf ps u) nm = false := by
  refine @decide_eq_false _ (Classical.propDecidable _) (fun hm => ?_)
  obtain ⟨b, hb, rfl⟩ := List.mem_map.1 hm
  obtain ⟨hb, hu⟩ := List.mem_filter.1 hb
  have h1 := List.find?_eq_none.1 h b hb
  exact h1 (@decide_eq_true _ (Classical.propDecidable _) ⟨@of_decide_eq_true _ (Classical.propDecidable _) hu, rfl⟩)
theorem boxOf_someB {ps : List Bx} {u nm : ByteArray} {x : Bx} (h : boxOf ps u nm = some x) : inB (namesOf ps u) nm = true := by
  refine @decide_eq_true _ (Classical.propDecidable _) ?_
  have h1 := List.find?_some h
  have h2 := List.mem_of_find?_eq_some h
  obtain ⟨e1, e2⟩ := @of_decide_eq_true _ (Classical.propDecidable _) h1
  exact List.mem_map.2 ⟨x, List.mem_filter.2 ⟨h2, @decide_eq_true _ (Classical.propDecidable _) e1⟩, e2⟩
theorem inB_perm {a b : List ByteArray} (h : a.Perm b) (s : ByteArray) : inB a s = inB b s := by
  unfold inB
  exact decide_eq_decide.2 h.mem_iff

end Go.Proofs.Ytmbmbnjbeofmaaa

/- The loops of Fitting. -/
namespace Go.Proofs.Ytmbmbnjbeofmaaa
open Go.RowKit

set_option maxRecDepth 100000 in
set_option maxHeartbeats 2000000 in
theorem l12Box_any (ps : List Bx) (va : Value) (V : Int) (w : World) (ha : BRd w va ps) (hl : ps.length ≤ 1048576) :
    Calls Try.prog 15 #[.agg #[va], .int .i64 V] w fun e w' => (∃ r : Int, e = .returned (.int .i64 r) ∧ FirV ps V r) ∧ Below w.heap.size w w' := by
  obtain ⟨ad, cap, rfl, hrow⟩ := ha.boxes
  have HR := Lib.hid hrow
  clear ha hrow
  obtain ⟨n, hn⟩ : ∃ n, ps.length = n := ⟨_, rfl⟩
  rw [hn] at hl ⊢
  have HN := Lib.hid hn
  clear hn
  have b0 := belNew w (.cells #[.slice ad n cap] 32)
  have q0 := (Box.new w #[.slice ad n cap] 32).cell 0 _ rfl
  go_enter Try.func15, Try.ntmps15
  go_upto_region 1 with fail
  generalize w.alloc (.cells #[.slice ad n cap] 32) = W at b0 q0 ⊢
  go_wp2
  go_loop [5] (fun iv => ∃ i : Nat, i ≤ n ∧ iv = .int .i64 (i : Int) ∧ Hid (∀ (j : Nat) (y : Bx), j < i → ps[j]? = some y → y.valid ≠ V)) (fun iv => n - (intOf iv).toNat)
  case atStart => exact ⟨0, by omega, rfl, show _ from fun j y h => absurd h (by omega)⟩
  case round =>
    obtain ⟨i, hi, rfl, HNO⟩ := hrel
    by_cases hlt : i < n
    · obtain ⟨y, hgy⟩ : ∃ y, ps[i]? = some y := ⟨_, List.getElem?_eq_getElem (by rw [HN.out]; omega)⟩
      obtain ⟨ga, oa, am, nm, cm, rfl, a0, a1, a2, a3, a4, _⟩ := HR.out _ b0 i y hgy
      have HG := Lib.hid hgy
      clear hgy
      have hi0 : (0 : Int) ≤ (i : Int) := by omega
      have hi1 : (i : Int) < (n : Int) := by omega
      by_cases hv : y.valid = V
      · have hv' : (y.valid == V) = true := by rw [hv]; exact beq_self_eq_true _
        have HE : Hid (FirV ps V (i : Int)) := .inr ⟨i, y, rfl, HG.out, hv, HNO.out⟩
        clear HNO
        go_wp2
        go_ret
        exact ⟨⟨_, rfl, HE.out⟩, b0⟩
      · have hv' : (y.valid == V) = false := beq_eq_false_iff_ne.2 hv
        have HO : Hid (∀ (j : Nat) (z : Bx), j < i + 1 → ps[j]? = some z → z.valid ≠ V) := fun j z hj hz => by
          by_cases hji : j < i
          · exact HNO.out j z hji hz
          · obtain rfl : j = i := by omega
            rw [HG.out] at hz
            cases hz
            exact hv
        clear HNO
        go_wp2
        exact ⟨⟨i + 1, by omega, by simp, HO⟩, by first | omega | (simp [intOf]; omega)⟩
    · have HE : Hid (FirV ps V (-1)) := .inl ⟨rfl, fun b hb => by
        obtain ⟨j, hj, rfl⟩ := List.mem_iff_getElem.1 hb
        exact HNO.out j _ (by have := HN.out; omega) (List.getElem?_eq_getElem hj)⟩
      clear HNO
      go_wp2
      go_ret
      exact ⟨⟨_, rfl, HE.out⟩, b0⟩

set_option maxRecDepth 100000 in
theorem fit1_any (y : Bx) (am : Option Addr) (nm cm : Nat) (V : Int) (g : Nat) (w : World) (h : w.cell? ⟨g, 1, none⟩ = some (.int .i64 V)) :
    Calls Try.prog 21 #[.agg #[.int .i64 y.valid, .string y.user, .string y.name, .int .i64 y.next, .slice am nm cm], .pointer (some ⟨g, 0, none⟩)] w fun e w' => e = .returned (.bool (vB V y)) ∧ Below w.heap.size w w' := by
  have b1 := belNew w (.cells #[.int .i64 y.valid, .string y.user, .string y.name, .int .i64 y.next, .slice am nm cm] 42)
  have c0 := (b1.cell (p := ⟨g, 1, none⟩) (World.block_lt_of_cell? _ _ h)).trans h
  have q := (Box.new w #[.int .i64 y.valid, .string y.user, .string y.name, .int .i64 y.next, .slice am nm cm] 42).cell 0 _ rfl
  clear h
  by_cases hs : y.valid = V
  · subst hs
    have HD : Hid (vB y.valid y = true) := decide_eq_true rfl
    go_enter Try.func21, Try.ntmps21
    go_wp2
    go_ret
    exact ⟨by rw [HD.out]; first | rfl | simp | simp [hs], b1⟩
  · have HD : Hid (vB V y = false) := decide_eq_false hs
    have hs' : (y.valid == V) = false := beq_eq_false_iff_ne.2 hs
    go_enter Try.func21, Try.ntmps21
    go_wp2
    go_ret
    exact ⟨by rw [HD.out]; first | rfl | simp | simp [hs], b1⟩

set_option maxRecDepth 100000 in
set_option maxHeartbeats 2000000 in
theorem indexBox_any (ps : List Bx) (va : Value) (V : Int) (gr : Nat) (w : World) (ha : BRd w va ps) (hl : ps.length ≤ 1048576) (h0 : w.cell? ⟨gr, 1, none⟩ = some (.int .i64 V)) :
    Calls Try.prog 20 #[va, .func (.func 21) #[] #[.pointer (some ⟨gr, 0, none⟩)]] w fun e w' => (∃ r : Int, e = .returned (.int .i64 r) ∧ FirV ps V r) ∧ Below w.heap.size w w' := by
  obtain ⟨ad, cap, rfl, hrow⟩ := ha.boxes
  have HR := Lib.hid hrow
  clear ha hrow
  obtain ⟨n, hn⟩ : ∃ n, ps.length = n := ⟨_, rfl⟩
  rw [hn] at hl ⊢
  have HN := Lib.hid hn
  clear hn
  have l0 := World.block_lt_of_cell? _ _ h0
  have HO : Hid (∀ (y : Bx) am nm cm x, Below w.heap.size w x → Calls Try.prog 21 #[.agg #[.int .i64 y.valid, .string y.user, .string y.name, .int .i64 y.next, .slice am nm cm], .pointer (some ⟨gr, 0, none⟩)] x fun e w' => e = .returned (.bool (vB V y)) ∧ Below x.heap.size x w') := fun y a m c x hx => fit1_any y a m c V gr x ((hx.cell (p := ⟨gr, 1, none⟩) l0).trans h0)
  clear h0 l0
  go_enter Try.func20, Try.ntmps20
  go_wp2
  go_loopw [8] (fun iv wr => ∃ i : Nat, i ≤ n ∧ iv = .int .i64 (i : Int) ∧ Hid (∀ (j : Nat) (y : Bx), j < i → ps[j]? = some y → y.valid ≠ V) ∧ Below w.heap.size w wr) (fun iv _ => n - (intOf iv).toNat)
  case atStart => exact ⟨0, by omega, rfl, show _ from fun j y h => absurd h (by omega), Below.refl _ _⟩
  case round =>
    obtain ⟨i, hi, rfl, HNO, bq⟩ := hrel
    by_cases hlt : i < n
    · obtain ⟨y, hgy⟩ : ∃ y, ps[i]? = some y := ⟨_, List.getElem?_eq_getElem (by rw [HN.out]; omega)⟩
      obtain ⟨ga, oa, am, nm, cm, rfl, a0, a1, a2, a3, a4, _⟩ := HR.out _ bq i y hgy
      have HG := Lib.hid hgy
      clear hgy
      have HOY := Lib.hid (HO.out y am nm cm _ bq)
      have hi0 : (0 : Int) ≤ (i : Int) := by omega
      have hi1 : (i : Int) < (n : Int) := by omega
      by_cases hv : y.valid = V
      · have HE : Hid (FirV ps V (i : Int)) := .inr ⟨i, y, rfl, HG.out, hv, HNO.out⟩
        rw [show vB V y = true from decide_eq_true hv] at HOY
        clear HNO hv
        go_wp2_with (go_at_call 21; refine HOY.out.mono ?_; rintro e w1 ⟨rfl, k1⟩)
        go_ret
        exact ⟨⟨_, rfl, HE.out⟩, bq.trans (k1.mono bq.size)⟩
      · rw [show vB V y = false from decide_eq_false hv] at HOY
        have HO2 : Hid (∀ (j : Nat) (z : Bx), j < i + 1 → ps[j]? = some z → z.valid ≠ V) := fun j z hj hz => by
          by_cases hji : j < i
          · exact HNO.out j z hji hz
          · obtain rfl : j = i := by omega
            rw [HG.out] at hz
            cases hz
            exact hv
        clear HNO
        go_wp2_with (go_at_call 21; refine HOY.out.mono ?_; rintro e w1 ⟨rfl, k1⟩)
        exact ⟨⟨i + 1, by omega, by simp, HO2, bq.trans (k1.mono bq.size)⟩, by first | omega | (simp [intOf]; omega)⟩
    · have HE : Hid (FirV ps V (-1)) := .inl ⟨rfl, fun b hb => by
        obtain ⟨j, hj, rfl⟩ := List.mem_iff_getElem.1 hb
        exact HNO.out j _ (by have := HN.out; omega) (List.getElem?_eq_getElem hj)⟩
      clear HNO
      go_wp2
      go_ret
      exact ⟨⟨_, rfl, HE.out⟩, bq⟩

set_option maxRecDepth 100000 in
set_option maxHeartbeats 2000000 in
theorem l12Mail_any (y : Bx) (am : Option Addr) (nm cm : Nat) (U : Int) (w : World) (ha : Rows' mlE w (.slice am nm cm) y.mails) (hl : y.mails.length ≤ 1048576) :
    Calls Try.prog 16 #[.agg #[.int .i64 y.valid, .string y.user, .string y.name, .int .i64 y.next, .slice am nm cm], .int .i64 U] w fun e w' => (∃ r : Int, e = .returned (.int .i64 r) ∧ ((0 ≤ r ∧ hasM y.mails U = true) ∨ (¬ 0 ≤ r ∧ hasM y.mails U = false))) ∧ Below w.heap.size w w' := by
  obtain ⟨hn, hrow⟩ := ha.mails
  have HR := Lib.hid hrow
  have HN := Lib.hid hn
  clear ha hrow
  rw [← hn] at hl
  clear hn
  have b0 := belNew w (.cells #[.int .i64 y.valid, .string y.user, .string y.name, .int .i64 y.next, .slice am nm cm] 42)
  have q0 := (Box.new w #[.int .i64 y.valid, .string y.user, .string y.name, .int .i64 y.next, .slice am nm cm] 42).cell 4 _ rfl
  generalize y.mails = ms at HR HN ⊢
  go_enter Try.func16, Try.ntmps16
  go_upto_region 1 with fail
  generalize w.alloc (.cells #[.int .i64 y.valid, .string y.user, .string y.name, .int .i64 y.next, .slice am nm cm] 42) = W at b0 q0 ⊢
  go_wp2
  go_loop [5] (fun iv => ∃ i : Nat, i ≤ nm ∧ iv = .int .i64 (i : Int) ∧ Hid (hasM (ms.take i) U = false)) (fun iv => nm - (intOf iv).toNat)
  case atStart => exact ⟨0, by omega, rfl, show _ = _ by simp [hasM]⟩
  case round =>
    obtain ⟨i, hi, rfl, HNO⟩ := hrel
    by_cases hlt : i < nm
    · obtain ⟨m, hgm⟩ : ∃ m, ms[i]? = some m := ⟨_, List.getElem?_eq_getElem (by have := HN.out; omega)⟩
      obtain ⟨ga, oa, rfl, a0, a1, a2⟩ := HR.out _ b0 i m hgm
      have HT := Lib.hid (hasM_take hgm U)
      rw [HNO.out, Bool.false_or] at HT
      have HFA : Hid (mlB U m = true → hasM ms U = true) := fun hy => List.any_eq_true.2 ⟨m, List.mem_of_getElem? hgm, hy⟩
      clear hgm
      have hi0 : (0 : Int) ≤ (i : Int) := by omega
      have hi1 : (i : Int) < (nm : Int) := by omega
      by_cases hv : m.uid = U
      · have hv' : (m.uid == U) = true := by rw [hv]; exact beq_self_eq_true _
        have HE := Lib.hid (HFA.out (decide_eq_true hv))
        clear HFA HT HNO
        go_wp2
        go_ret
        exact ⟨⟨_, rfl, .inl ⟨hi0, HE.out⟩⟩, b0⟩
      · have hv' : (m.uid == U) = false := beq_eq_false_iff_ne.2 hv
        rw [show mlB U m = false from decide_eq_false hv] at HT
        clear HFA HNO
        go_wp2
        exact ⟨⟨i + 1, by omega, by simp, HT⟩, by first | omega | (simp [intOf]; omega)⟩
    · have HF : Hid (hasM ms U = false) := by
        have h1 := HNO.out
        rw [List.take_of_length_le (by have := HN.out; omega)] at h1
        exact h1
      clear HNO
      go_wp2
      go_ret
      exact ⟨⟨-1, rfl, .inr ⟨by omega, HF.out⟩⟩, b0⟩

set_option maxRecDepth 100000 in
theorem fits1_any (m : Ml) (U : Int) (g : Nat) (w : World) (h : w.cell? ⟨g, 2, none⟩ = some (.int .i64 U)) :
    Calls Try.prog 34 #[.agg #[.int .i64 m.uid, .int .i64 m.flags, .string m.text], .pointer (some ⟨g, 0, none⟩)] w fun e w' => e = .returned (.bool (mlB U m)) ∧ Below w.heap.size w w' := by
  have b1 := belNew w (.cells #[.int .i64 m.uid, .int .i64 m.flags, .string m.text] 63)
  have c0 := (b1.cell (p := ⟨g, 2, none⟩) (World.block_lt_of_cell? _ _ h)).trans h
  have q := (Box.new w #[.int .i64 m.uid, .int .i64 m.flags, .string m.text] 63).cell 0 _ rfl
  clear h
  by_cases hs : m.uid = U
  · subst hs
    have HD : Hid (mlB m.uid m = true) := decide_eq_true rfl
    go_enter Try.func34, Try.ntmps34
    go_wp2
    go_ret
    exact ⟨by rw [HD.out]; first | rfl | simp | simp [hs], b1⟩
  · have HD : Hid (mlB U m = false) := decide_eq_false hs
    have hs' : (m.uid == U) = false := beq_eq_false_iff_ne.2 hs
    go_enter Try.func34, Try.ntmps34
    go_wp2
    go_ret
    exact ⟨by rw [HD.out]; first | rfl | simp | simp [hs], b1⟩

set_option maxRecDepth 100000 in
set_option maxHeartbeats 2000000 in
theorem indexMail_any (ms : List Ml) (am : Option Addr) (nm cm : Nat) (U : Int) (gr : Nat) (w : World) (ha : Rows' mlE w (.slice am nm cm) ms) (hl : ms.length ≤ 1048576) (h0 : w.cell? ⟨gr, 2, none⟩ = some (.int .i64 U)) :
    Calls Try.prog 42 #[.slice am nm cm, .func (.func 34) #[] #[.pointer (some ⟨gr, 0, none⟩)]] w fun e w' => (∃ r : Int, e = .returned (.int .i64 r) ∧ ((0 ≤ r ∧ hasM ms U = true) ∨ (¬ 0 ≤ r ∧ hasM ms U = false))) ∧ Below w.heap.size w w' := by
  obtain ⟨hn, hrow⟩ := ha.mails
  have HR := Lib.hid hrow
  have HN := Lib.hid hn
  clear ha hrow
  rw [← hn] at hl
  clear hn
  have l0 := World.block_lt_of_cell? _ _ h0
  have HO : Hid (∀ (m : Ml) x, Below w.heap.size w x → Calls Try.prog 34 #[.agg #[.int .i64 m.uid, .int .i64 m.flags, .string m.text], .pointer (some ⟨gr, 0, none⟩)] x fun e w' => e = .returned (.bool (mlB U m)) ∧ Below x.heap.size x w') := fun m x hx => fits1_any m U gr x ((hx.cell (p := ⟨gr, 2, none⟩) l0).trans h0)
  clear h0 l0
  go_enter Try.func42, Try.ntmps42
  go_wp2
  go_loopw [8] (fun iv wr => ∃ i : Nat, i ≤ nm ∧ iv = .int .i64 (i : Int) ∧ Hid (hasM (ms.take i) U = false) ∧ Below w.heap.size w wr) (fun iv _ => nm - (intOf iv).toNat)
  case atStart => exact ⟨0, by omega, rfl, show _ = _ by simp [hasM], Below.refl _ _⟩
  case round =>
    obtain ⟨i, hi, rfl, HNO, bq⟩ := hrel
    by_cases hlt : i < nm
    · obtain ⟨m, hgm⟩ : ∃ m, ms[i]? = some m := ⟨_, List.getElem?_eq_getElem (by have := HN.out; omega)⟩
      obtain ⟨ga, oa, rfl, a0, a1, a2⟩ := HR.out _ bq i m hgm
      have HOY := Lib.hid (HO.out m _ bq)
      have HT := Lib.hid (hasM_take hgm U)
      rw [HNO.out, Bool.false_or] at HT
      have HFA : Hid (mlB U m = true → hasM ms U = true) := fun hy => List.any_eq_true.2 ⟨m, List.mem_of_getElem? hgm, hy⟩
      clear hgm
      generalize mlB U m = D at HOY HT HFA
      have hi0 : (0 : Int) ≤ (i : Int) := by omega
      have hi1 : (i : Int) < (nm : Int) := by omega
      cases D with
      | true =>
        have HF := Lib.hid (HFA.out rfl)
        clear HFA HT HNO
        go_wp2_with (go_at_call 34; refine HOY.out.mono ?_; rintro e w1 ⟨rfl, k1⟩)
        go_ret
        exact ⟨⟨(i : Int), rfl, .inl ⟨hi0, HF.out⟩⟩, bq.trans (k1.mono bq.size)⟩
      | false =>
        clear HFA HNO
        go_wp2_with (go_at_call 34; refine HOY.out.mono ?_; rintro e w1 ⟨rfl, k1⟩)
        exact ⟨⟨i + 1, by omega, by simp, HT, bq.trans (k1.mono bq.size)⟩, by first | omega | (simp [intOf]; omega)⟩
    · have HF : Hid (hasM ms U = false) := by
        have h1 := HNO.out
        rw [List.take_of_length_le (by have := HN.out; omega)] at h1
        exact h1
      clear HNO
      go_wp2
      go_ret
      exact ⟨⟨-1, rfl, .inr ⟨by omega, HF.out⟩⟩, bq⟩

set_option maxRecDepth 100000 in
theorem containsMail_any (ms : List Ml) (am : Option Addr) (nm cm : Nat) (U : Int) (gr : Nat) (w : World) (ha : Rows' mlE w (.slice am nm cm) ms) (hl : ms.length ≤ 1048576) (h0 : w.cell? ⟨gr, 2, none⟩ = some (.int .i64 U)) :
    Calls Try.prog 33 #[.slice am nm cm, .func (.func 34) #[] #[.pointer (some ⟨gr, 0, none⟩)]] w fun e w' => e = .returned (.bool (hasM ms U)) ∧ Below w.heap.size w w' := by
  have HI := Lib.hid (indexMail_any ms am nm cm U gr w ha hl h0)
  clear ha h0
  go_enter Try.func33, Try.ntmps33
  go_wp2_with fail
  refine HI.out.mono ?_
  rintro e w1 ⟨⟨r, rfl, hr⟩, k1⟩
  clear HI
  rcases hr with ⟨hr, he⟩ | ⟨hr, he⟩
  · have HE := Lib.hid he
    clear he
    go_wp2
    go_ret
    exact ⟨by rw [HE.out]; first | rfl | simp [hr], k1⟩
  · have HE := Lib.hid he
    clear he
    go_wp2
    go_ret
    exact ⟨by rw [HE.out]; first | rfl | simp [hr], k1⟩

set_option maxRecDepth 100000 in
set_option maxHeartbeats 2000000 in
theorem indexStr_any (l : List ByteArray) (v : Value) (s : ByteArray) (w : World) (h : Strs w v l) (hl : l.length ≤ 1048576) :
    Calls Try.prog 41 #[v, .string s] w fun e w' => (∃ r : Int, e = .returned (.int .i64 r) ∧ ((0 ≤ r ∧ inB l s = true) ∨ (¬ 0 ≤ r ∧ inB l s = false))) ∧ w' = w := by
  have hsh : ∃ (a : Option Addr) (cap : Nat), v = .slice a l.length cap ∧ ∀ i (hi : i < l.length), ∃ g : Nat, a = some ⟨g, 0, none⟩ ∧ w.cell? ⟨g, i, none⟩ = some (.string l[i]) := by
    rcases h.ways with ⟨rfl, a, cap, rfl⟩ | ⟨hne, g, cap, rfl, _, _, hc⟩
    · exact ⟨a, cap, rfl, fun i hi => absurd hi (by simp)⟩
    · exact ⟨_, cap, rfl, fun i hi => ⟨g, rfl, hc i _ (List.getElem?_eq_getElem hi)⟩⟩
  obtain ⟨a, cap, rfl, hrow⟩ := hsh
  have HR := Lib.hid hrow
  clear h hrow
  obtain ⟨n, hn⟩ : ∃ n, l.length = n := ⟨_, rfl⟩
  rw [hn] at hl ⊢
  have HN := Lib.hid hn
  clear hn
  go_enter Try.func41, Try.ntmps41
  go_wp2
  go_loop [8] (fun iv => ∃ i : Nat, i ≤ n ∧ iv = .int .i64 (i : Int) ∧ Hid (∀ t ∈ l.take i, t ≠ s)) (fun iv => n - (intOf iv).toNat)
  case atStart => exact ⟨0, by omega, rfl, show _ from fun t ht => by simp at ht⟩
  case round =>
    obtain ⟨i, hi, rfl, HNO⟩ := hrel
    by_cases hlt : i < n
    · obtain ⟨g, rfl, hc⟩ := HR.out i (by rw [HN.out]; exact hlt)
      obtain ⟨t, ht⟩ : ∃ t, l[i]? = some t := ⟨_, List.getElem?_eq_getElem (by rw [HN.out]; omega)⟩
      obtain ⟨hi', he⟩ := List.getElem?_eq_some_iff.1 ht
      rw [he] at hc
      have HG := Lib.hid ht
      clear ht he hi'
      have hi0 : (0 : Int) ≤ (i : Int) := by omega
      have hi1 : (i : Int) < (n : Int) := by omega
      by_cases hv : s = t
      · have HE : Hid (inB l s = true) := @decide_eq_true _ (Classical.propDecidable _) (by rw [hv]; exact List.mem_of_getElem? HG.out)
        subst hv
        clear HNO
        go_wp2
        go_ret
        exact ⟨⟨_, rfl, .inl ⟨hi0, HE.out⟩⟩, rfl⟩
      · have hv' : (s.toList == t.toList) = false := by rw [beq_eq_false_iff_ne]; exact fun h => hv ((ba_same' _ _).1 h)
        have HO : Hid (∀ u ∈ l.take (i + 1), u ≠ s) := fun u hu => by
          rw [List.take_add_one, HG.out] at hu
          rcases List.mem_append.1 hu with h | h
          · exact HNO.out u h
          · simp at h
            rw [h]
            exact fun e => hv e.symm
        clear HNO
        go_wp2
        exact ⟨⟨i + 1, by omega, by simp, HO⟩, by first | omega | (simp [intOf]; omega)⟩
    · have HF : Hid (inB l s = false) := by
        have h1 := HNO.out
        rw [List.take_of_length_le (by rw [HN.out]; omega)] at h1
        exact @decide_eq_false _ (Classical.propDecidable _) (fun h => h1 s h rfl)
      clear HNO
      go_wp2
      go_ret
      exact ⟨⟨-1, rfl, .inr ⟨by omega, HF.out⟩⟩, rfl⟩

set_option maxRecDepth 100000 in
theorem containsStr_any (l : List ByteArray) (v : Value) (s : ByteArray) (w : World) (h : Strs w v l) (hl : l.length ≤ 1048576) :
    Calls Try.prog 32 #[v, .string s] w fun e w' => e = .returned (.bool (inB l s)) ∧ w' = w := by
  have HI := Lib.hid (indexStr_any l v s w h hl)
  clear h
  go_enter Try.func32, Try.ntmps32
  go_wp2_with fail
  refine HI.out.mono ?_
  rintro e w1 ⟨⟨r, rfl, hr⟩, rfl⟩
  clear HI
  rcases hr with ⟨hr, he⟩ | ⟨hr, he⟩
  · have HE := Lib.hid he
    clear he
    go_wp2
    go_ret
    exact ⟨by rw [HE.out]; first | rfl | simp [hr], rfl⟩
  · have HE := Lib.hid he
    clear he
    go_wp2
    go_ret
    exact ⟨by rw [HE.out]; first | rfl | simp [hr], rfl⟩

end Go.Proofs.Ytmbmbnjbeofmaaa

/- Fitting of the model, of a box. -/
namespace Go.Proofs.Ytmbmbnjbeofmaaa
open Go.RowKit
set_option linter.unusedVariables false

set_option maxRecDepth 100000 in
set_option maxHeartbeats 4000000 in
theorem specFit_box (ps : List Bx) (va : Value) (nv : Int) (K V U N FL : Int) (US NM TX : ByteArray) (w : World) (ha : BRd w va ps) (hl : ps.length ≤ 1048576) (hm : ∀ b ∈ ps, b.mails.length ≤ 1048576 ∧ b.name.size ≤ 1048576) (s1 : US.size ≤ 1048576) (s2 : NM.size ≤ 1048576) (s3 : TX.size ≤ 1048576) (hok : (⟨K, V, U, N, FL, US, NM, TX⟩ : Rc).ok) (hK : K = 1) :
    Calls Try.prog 6 #[.agg #[va], .int .i64 nv, (⟨K, V, U, N, FL, US, NM, TX⟩ : Rc).v] w fun e w' => e = .returned (.bool ((decide (V = nv) && decide (N = 1)) && bmB ps US NM)) ∧ Below w.heap.size w w' := by
  have hK' : (K == 1) = true := by rw [hK]; rfl
  clear hK
  obtain ⟨A, hA⟩ : ∃ A : Bool, ((decide (V = nv) && decide (N = 1)) && bmB ps US NM) = A := ⟨_, rfl⟩
  rw [hA]
  have HA := Lib.hid hA
  clear hA
  have hd : decide (⟨K, V, U, N, FL, US, NM, TX⟩ : Rc).ok = true := decide_eq_true hok
  have HD := Lib.hid hd
  clear hd hok
  obtain ⟨ad, cap, rfl, hrow⟩ := id ha.boxes
  have HROW := Lib.hid hrow
  clear hrow
  obtain ⟨n, hn⟩ : ∃ n, ps.length = n := ⟨_, rfl⟩
  rw [hn] at hl ha ⊢
  have HN := Lib.hid hn
  clear hn
  have HOKC := Lib.hid (fun x => specRecOk_any ⟨K, V, U, N, FL, US, NM, TX⟩ x (by show US.size ≤ _; omega) (by show NM.size ≤ _; omega) (by show TX.size ≤ _; omega))
  have b0 : Below w.heap.size w ((w.alloc (.cells #[.slice ad n cap] 32)).alloc (.cells #[.int .i64 K, .int .i64 V, .int .i64 U, .int .i64 N, .int .i64 FL, .string US, .string NM, .string TX] 34)) := ((Below.refl _ _).alloc (Nat.le_refl _) _).alloc (by simp) _
  have X0 := (Box.new w #[.slice ad n cap] 32).later (belNew _ (.cells #[.int .i64 K, .int .i64 V, .int .i64 U, .int .i64 N, .int .i64 FL, .string US, .string NM, .string TX] 34))
  have X1 := Box.new (w.alloc (.cells #[.slice ad n cap] 32)) #[.int .i64 K, .int .i64 V, .int .i64 U, .int .i64 N, .int .i64 FL, .string US, .string NM, .string TX] 34
  rw [show (w.alloc (.cells #[.slice ad n cap] 32)).heap.size = w.heap.size + 1 by simp] at X1
  have HC : Hid (∀ x, Below ((w.alloc (.cells #[.slice ad n cap] 32)).alloc (.cells #[.int .i64 K, .int .i64 V, .int .i64 U, .int .i64 N, .int .i64 FL, .string US, .string NM, .string TX] 34)).heap.size ((w.alloc (.cells #[.slice ad n cap] 32)).alloc (.cells #[.int .i64 K, .int .i64 V, .int .i64 U, .int .i64 N, .int .i64 FL, .string US, .string NM, .string TX] 34)) x → x.cell? ⟨w.heap.size, 0, none⟩ = some (.slice ad n cap) ∧ (x.cell? ⟨w.heap.size + 1, 0, none⟩ = some (.int .i64 K) ∧ x.cell? ⟨w.heap.size + 1, 1, none⟩ = some (.int .i64 V) ∧ x.cell? ⟨w.heap.size + 1, 2, none⟩ = some (.int .i64 U) ∧ x.cell? ⟨w.heap.size + 1, 3, none⟩ = some (.int .i64 N) ∧ x.cell? ⟨w.heap.size + 1, 4, none⟩ = some (.int .i64 FL) ∧ x.cell? ⟨w.heap.size + 1, 5, none⟩ = some (.string US) ∧ x.cell? ⟨w.heap.size + 1, 6, none⟩ = some (.string NM) ∧ x.cell? ⟨w.heap.size + 1, 7, none⟩ = some (.string TX)) ∧ BRd x (.slice ad n cap) ps ∧ Below w.heap.size w x) := fun x hx => by
    have h' := b0.trans (hx.mono b0.size)
    have y1 := X1.later hx
    exact ⟨(X0.later hx).cell 0 _ rfl, ⟨y1.cell 0 _ rfl, y1.cell 1 _ rfl, y1.cell 2 _ rfl, y1.cell 3 _ rfl, y1.cell 4 _ rfl, y1.cell 5 _ rfl, y1.cell 6 _ rfl, y1.cell 7 _ rfl⟩, ha.later h', h'⟩
  clear X0 X1 ha
  unfold Rc.v at HOKC ⊢
  simp only at HOKC ⊢
  go_enter Try.func6, Try.ntmps6
  go_wp2_with fail
  generalize (w.alloc (.cells #[.slice ad n cap] 32)).alloc (.cells #[.int .i64 K, .int .i64 V, .int .i64 U, .int .i64 N, .int .i64 FL, .string US, .string NM, .string TX] 34) = W at b0 HC ⊢
  refine (HOKC.out _).mono ?_
  rintro e w1 ⟨rfl, k1⟩
  clear HOKC
  rw [HD.out]
  clear HD
  obtain ⟨c0, ⟨d0, d1, d2, d3, d4, d5, d6, d7⟩, hR, hB⟩ := HC.out _ k1
  have HBO := Lib.hid (specBoxOf_any ps _ US NM w1 hR (by have := HN.out; omega) (fun b hb => (hm b hb).1))
  go_wp2_with fail
  refine HBO.out.mono ?_
  rintro e w2 ⟨hres, k2⟩
  clear HBO c0 d0 d1 d2 d3 d4 d5 d6 d7 hR hB
  have k12 := k1.trans (k2.mono k1.size)
  rcases hres with ⟨hno, rfl⟩ | ⟨x, v, hyes, rfl, hx⟩
  · have HI := Lib.hid (boxOf_noneB hno)
    clear hno
    have k3 := belNew w2 (.cells #[.int .i64 0, .string ⟨#[]⟩, .string ⟨#[]⟩, .int .i64 0, .slice none 0 0] 42)
    have k13 := k12.trans (k3.mono k12.size)
    obtain ⟨c0, ⟨d0, d1, d2, d3, d4, d5, d6, d7⟩, hR, hB⟩ := HC.out _ k13
    have HBS := Lib.hid (specBoxesOf_any ps _ US _ hR (by have := HN.out; omega))
    clear k3 hR
    by_cases hV : V = nv
    · by_cases hN : N = 1
      · subst hV hN
        go_wp2_with (go_at_call 14; refine HBS.out.mono ?_; rintro e w4 ⟨v4, rfl, S4⟩; obtain ⟨a4, c4, rfl⟩ := S4.form)
        have hB4 := hB.trans (S4.bel.mono hB.size)
        go_ret
        refine ⟨?_, hB4⟩
        rw [← HA.out]
        unfold bmB
        rw [HI.out]
        by_cases hlen : ((namesOf ps US).length : Int) < 3
        · have hlen2 : (namesOf ps US).length < 3 := by omega
          simp [hlen, hlen2]
        · have hlen2 : ¬ (namesOf ps US).length < 3 := by omega
          simp [hlen, hlen2]
      · have hN' : (N == 1) = false := beq_eq_false_iff_ne.2 hN
        subst hV
        go_wp2
        go_ret
        exact ⟨by rw [← HA.out]; simp [hN], hB⟩
    · have hV' : (V == nv) = false := beq_eq_false_iff_ne.2 hV
      go_wp2
      go_ret
      exact ⟨by rw [← HA.out]; simp [hV], hB⟩
  · have HI := Lib.hid (boxOf_someB hyes)
    clear hyes
    obtain ⟨av, cv, rfl⟩ := hx.form
    have k3 := belNew w2 (.cells #[.int .i64 x.valid, .string x.user, .string x.name, .int .i64 x.next, .slice av x.mails.length cv] 42)
    have k13 := k12.trans (k3.mono k12.size)
    obtain ⟨c0, ⟨d0, d1, d2, d3, d4, d5, d6, d7⟩, hR, hB⟩ := HC.out _ k13
    clear k3 hR hx
    by_cases hV : V = nv
    · by_cases hN : N = 1
      · subst hV hN
        go_wp2
        go_ret
        exact ⟨by rw [← HA.out]; unfold bmB; rw [HI.out]; simp, hB⟩
      · have hN' : (N == 1) = false := beq_eq_false_iff_ne.2 hN
        subst hV
        go_wp2
        go_ret
        exact ⟨by rw [← HA.out]; simp [hN], hB⟩
    · have hV' : (V == nv) = false := beq_eq_false_iff_ne.2 hV
      go_wp2
      go_ret
      exact ⟨by rw [← HA.out]; simp [hV], hB⟩


end Go.Proofs.Ytmbmbnjbeofmaaa
