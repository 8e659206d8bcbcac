/- Texts of our own, joined. -/
import Derived.Test.YtlnpegknjhbdnaaDoorJg
import Derived.Test.YtlnpegknjhbdnaaDoorJe
import Derived.Test.YtlnpegknjhbdnaaDoorJf
import Derived.Test.YtlnpegknjhbdnaaDoorJc
import Derived.Test.YtlnpegknjhbdnaaDoorJb
import Derived.Deep.DeepCutAuto
import Derived.Deep.QuietTactic
import Derived.BigQuiet
import Derived.WalkSmall
import Derived.Deep.RegionHeld3
import Derived.Laws.Concat
/- checkAhead and ReadCheck of the program. -/
namespace Go.Proofs.YtlnpegknjhbdnaaDoor
open Go.RowKit

theorem isPre_iff (t p : ByteArray) : isPre t p = true ↔ p.data.toList <+: t.data.toList := by
  unfold isPre
  rw [decide_eq_true_iff]
  constructor
  · rintro ⟨_, h⟩
    have e : p.data.toList = t.data.toList.take p.size := by
      have := congrArg (fun b : ByteArray => b.data.toList) h
      simp only [ByteArray.data_extract, Array.toList_extract] at this
      rw [← this]; simp
    rw [e]
    exact List.take_prefix _ _
  · rintro ⟨rest, h⟩
    have hl : p.size ≤ t.size := by
      have := congrArg List.length h
      simp at this
      have e1 : p.size = p.data.size := rfl
      have e2 : t.size = t.data.size := rfl
      omega
    refine ⟨hl, ba_ext ?_⟩
    rw [ByteArray.data_extract, Array.toList_extract, ← h]
    simp [List.extract]

set_option maxRecDepth 100000 in
set_option maxHeartbeats 2000000 in
theorem ahead_miss (t : ByteArray) (w : World) (h : ∀ w, Calls Tryd.prog 25 #[.string t] w fun e w' => UnMiss e ∧ Below w.heap.size w w') :
    Calls Tryd.prog 13 #[.string t] w fun e w' => UnMiss e ∧ Below w.heap.size w w' := by
  have X0 := Box.new w #[.int .i64 0, .int .i64 0, .int .i64 0, .int .i64 0, .slice none 0 0] 24
  have b0 := belNew w (.cells #[.int .i64 0, .int .i64 0, .int .i64 0, .int .i64 0, .slice none 0 0] 24)
  have HU := Lib.hid h
  clear h
  go_enter Tryd.func13, Tryd.ntmps13
  go_wp2_with fail
  generalize w.alloc (.cells #[.int .i64 0, .int .i64 0, .int .i64 0, .int .i64 0, .slice none 0 0] 24) = w1 at X0 b0 ⊢
  refine (HU.out w1).mono ?_
  rintro e w2 ⟨⟨k, hk, rfl⟩, k2⟩
  have k3 := belNew w2 (.cells #[.int .i64 0, .int .i64 0, .int .i64 0, .int .i64 0, .slice none 0 0] 24)
  have Y0 := (X0.later k2).later k3
  have b2 := (b0.trans (k2.mono b0.size))
  have b3 := b2.trans (k3.mono b2.size)
  obtain ⟨y0, y1, y2, y3, y4, f0, f1, f2, f3, f4⟩ := Y0.fiveC
  have R5 := (((((Y0.set 0 (.int .i64 0)).set 1 (.int .i64 0)).set 2 (.int .i64 0)).set 3 (.int .i64 0)).set 4 (.slice none 0 0))
  obtain ⟨u0, u1, u2, u3, u4, _⟩ := R5.fiveC
  have B5 := Lib.hid (((((b3.setCell (p := ⟨w.heap.size, 0, none⟩) (Nat.le_refl _) (.int .i64 0)).setCell (p := ⟨w.heap.size, 1, none⟩) (Nat.le_refl _) (.int .i64 0)).setCell (p := ⟨w.heap.size, 2, none⟩) (Nat.le_refl _) (.int .i64 0)).setCell (p := ⟨w.heap.size, 3, none⟩) (Nat.le_refl _) (.int .i64 0)).setCell (p := ⟨w.heap.size, 4, none⟩) (Nat.le_refl _) (.slice none 0 0))
  clear X0 b0 k2 k3 Y0 b2 b3 R5
  go_wp2_with fail
  refine bodyPost_ret (v := .tuple #[.agg #[.int .i64 0, .int .i64 0, .int .i64 0, .int .i64 0, .slice none 0 0], .iface 60 (.agg #[.int .i64 k])]) (by simp [results, Tryd.results13, go_sem, u0, u1, u2, u3, u4]) rfl ?_
  exact ⟨⟨k, hk, rfl⟩, B5.out⟩

/-- What checkAhead hands back. -/
def AheadC (t : ByteArray) (w : World) (e : Ending) (w' : World) : Prop := ((∃ (c : Ck) (a : Option Addr) (cap : Nat), rkO t = some c ∧ e = .returned (.tuple #[.agg #[.int .i64 c.st, .int .i64 c.ng, .int .i64 c.ns, .int .i64 c.nv, .slice a c.refs.length cap], .nilIface]) ∧ RBuf rfE w.heap.size w w' (.slice a c.refs.length cap) c.refs) ∨ (rkO t = none ∧ UnMiss e)) ∧ Below w.heap.size w w'

set_option maxRecDepth 100000 in
set_option maxHeartbeats 4000000 in
theorem ahead_ok (t : ByteArray) (w : World) (ht : SumTab w) (hs : t.size ≤ 1099511627776) {l st ng ns nv m p q : Nat} {qs : List Nat} (h : rdNs t.data.toList 0 6 = some ([l, st, ng, ns, nv, m], p)) (hm : m ≤ 11) (h2 : rdNs t.data.toList p (2 * m) = some (qs, q)) :
    Calls Tryd.prog 13 #[.string t] w fun e w' => AheadC t w e w' := by
  have X0 := Box.new w #[.int .i64 0, .int .i64 0, .int .i64 0, .int .i64 0, .slice none 0 0] 24
  have b0 := belNew w (.cells #[.int .i64 0, .int .i64 0, .int .i64 0, .int .i64 0, .slice none 0 0] 24)
  have HU : Hid (∀ w, Calls Tryd.prog 25 #[.string t] w fun e w' => ∃ (a : Option Addr) (cap : Nat), e = .returned (.tuple #[.agg #[.int .i64 (st : Int), .int .i64 (ng : Int), .int .i64 (ns : Int), .int .i64 (nv : Int), .slice a (prsI qs).length cap], .nilIface]) ∧ RBuf rfE w.heap.size w w' (.slice a (prsI qs).length cap) (prsI qs)) := fun w => readUnOk t w hs h hm h2
  have HNO : Hid (¬ Hit t (ckOfN st ng ns nv qs) → rkO t = none) := fun hn => rk_read h h2 hn
  have hp : p ≤ t.size := by have := (rdNs_le (l := t.data.toList) (Nat.zero_le _) 6 _ p h).1; simpa using this
  have hql : qs.length = 2 * m := (rdNs_le (l := t.data.toList) (by simpa using hp) (2 * m) _ q h2).2.1
  have hlr : (prsI qs).length ≤ 1048576 := by rw [prsI_len, hql]; omega
  have HTS : Hid (∀ x, Below w.heap.size w x → SumTab x) := fun x hx => ht.later hx
  clear h h2 hp hql ht
  generalize hc : ckOfN st ng ns nv qs = c at HNO
  have HTX : Hid (∀ x (a : Option Addr) (cap : Nat), Below w.heap.size w x → Rows' rfE x (.slice a (prsI qs).length cap) (prsI qs) → Calls Tryd.prog 26 #[.agg #[.int .i64 (st : Int), .int .i64 (ng : Int), .int .i64 (ns : Int), .int .i64 (nv : Int), .slice a (prsI qs).length cap]] x fun e w' => TextC c e ∧ Below x.heap.size x w') := fun x a cap hx hr => by
    rw [← hc]
    exact textOfCheck_any (ckOfN st ng ns nv qs) a cap x (HTS.out x hx) hr hlr
  have HCC : Hid (c = ⟨(st : Int), (ng : Int), (ns : Int), (nv : Int), prsI qs⟩) := hc.symm
  generalize prsI qs = rs at HU hlr HTX HCC
  clear hc
  go_enter Tryd.func13, Tryd.ntmps13
  go_wp2_with fail
  generalize w.alloc (.cells #[.int .i64 0, .int .i64 0, .int .i64 0, .int .i64 0, .slice none 0 0] 24) = w1 at X0 b0 ⊢
  refine (HU.out w1).mono ?_
  rintro e w2 ⟨a, cap, rfl, I⟩
  have k2 := I.bel
  have XC := Box.new w2 #[.int .i64 (st : Int), .int .i64 (ng : Int), .int .i64 (ns : Int), .int .i64 (nv : Int), .slice a rs.length cap] 24
  have k3 := belNew w2 (.cells #[.int .i64 (st : Int), .int .i64 (ng : Int), .int .i64 (ns : Int), .int .i64 (nv : Int), .slice a rs.length cap] 24)
  have Y0 := (X0.later k2).later k3
  have b2 := b0.trans (k2.mono b0.size)
  have b3 := b2.trans (k3.mono b2.size)
  have I3 := I.later k3
  have ltw := X0.lt
  have HG := Lib.hid ltw
  clear I k2 k3 X0 b0 b2 ltw
  go_wp2_with fail
  generalize w2.alloc (.cells #[.int .i64 (st : Int), .int .i64 (ng : Int), .int .i64 (ns : Int), .int .i64 (nv : Int), .slice a rs.length cap] 24) = w3 at XC Y0 b3 I3 ⊢
  obtain ⟨gC, hgC⟩ : ∃ gC, w2.heap.size = gC := ⟨_, rfl⟩
  rw [hgC] at XC ⊢
  clear hgC
  obtain ⟨c0, c1, c2, c3, c4, _⟩ := XC.fiveC
  try go_wp2_with fail
  refine (HTX.out w3 a cap b3 I3.rows).mono ?_
  rintro e w4 ⟨htx, k4⟩
  have YC := XC.later k4
  replace Y0 := Y0.later k4
  have b4 := b3.trans (k4.mono b3.size)
  have HR := Lib.hid (I3.later k4)
  clear c0 c1 c2 c3 c4 XC b3 I3 k4
  rcases htx with ⟨hok, rfl⟩ | ⟨hno, k, hk, rfl⟩
  · by_cases hpre : isPre t (ckTx c) = true
    · have HPR := Lib.hid hpre
      have HH : Hid (rkO t = some c) := rkO_some ⟨hok, (isPre_iff t (ckTx c)).1 hpre⟩
      obtain ⟨y0, y1, y2, y3, y4, f0, f1, f2, f3, f4⟩ := Y0.fiveC
      obtain ⟨c0, c1, c2, c3, c4, _⟩ := YC.fiveC
      have R5 := (((((Y0.set 0 (.int .i64 (st : Int))).set 1 (.int .i64 (ng : Int))).set 2 (.int .i64 (ns : Int))).set 3 (.int .i64 (nv : Int))).set 4 (.slice a rs.length cap))
      obtain ⟨u0, u1, u2, u3, u4, _⟩ := R5.fiveC
      have hne : (Value.slice a rs.length cap).ownBlock = none ∨ (Value.slice a rs.length cap).ownBlock ≠ some w.heap.size := .inr fun e => by have := (HR.out.own.lt _ e).1; have := HG.out; omega
      have HD := HR.out.down b4 (by have := HG.out; omega)
      have hle : ∀ k, some w.heap.size = some k → w.heap.size ≤ k := fun k e => by cases e; exact Nat.le_refl _
      have F5 := Lib.hid (((((HD.grown (stored_grown _ w.heap.size 0 (.int .i64 (st : Int))) hne hle).grown (stored_grown _ w.heap.size 1 (.int .i64 (ng : Int))) hne hle).grown (stored_grown _ w.heap.size 2 (.int .i64 (ns : Int))) hne hle).grown (stored_grown _ w.heap.size 3 (.int .i64 (nv : Int))) hne hle).grown (stored_grown _ w.heap.size 4 (.slice a rs.length cap)) hne hle)
      clear R5 Y0 b4 HR YC hne HD hpre
      go_wp2_with (go_at_call 27; refine (hasPrefix_any _ _ _).mono ?_; rintro e w5 ⟨rfl, rfl⟩; rw [HPR.out])
      refine bodyPost_ret (v := .tuple #[.agg #[.int .i64 (st : Int), .int .i64 (ng : Int), .int .i64 (ns : Int), .int .i64 (nv : Int), .slice a rs.length cap], .nilIface]) (by simp [results, Tryd.results13, go_sem, u0, u1, u2, u3, u4]) rfl ?_
      have hcc := HCC.out
      subst hcc
      exact ⟨.inl ⟨_, a, cap, HH.out, rfl, F5.out⟩, F5.out.bel⟩
    · have hpre' : isPre t (ckTx c) = false := by cases hx : isPre t (ckTx c) with | true => exact absurd hx hpre | false => rfl
      have HPR := Lib.hid hpre'
      have HH : Hid (rkO t = none) := HNO.out fun hh => hpre ((isPre_iff t (ckTx c)).2 hh.2)
      clear hpre hpre'
      obtain ⟨y0, y1, y2, y3, y4, f0, f1, f2, f3, f4⟩ := Y0.fiveC
      have R5 := (((((Y0.set 0 (.int .i64 0)).set 1 (.int .i64 0)).set 2 (.int .i64 0)).set 3 (.int .i64 0)).set 4 (.slice none 0 0))
      obtain ⟨u0, u1, u2, u3, u4, _⟩ := R5.fiveC
      have B5 := Lib.hid (((((b4.setCell (p := ⟨w.heap.size, 0, none⟩) (Nat.le_refl _) (.int .i64 0)).setCell (p := ⟨w.heap.size, 1, none⟩) (Nat.le_refl _) (.int .i64 0)).setCell (p := ⟨w.heap.size, 2, none⟩) (Nat.le_refl _) (.int .i64 0)).setCell (p := ⟨w.heap.size, 3, none⟩) (Nat.le_refl _) (.int .i64 0)).setCell (p := ⟨w.heap.size, 4, none⟩) (Nat.le_refl _) (.slice none 0 0))
      clear R5 Y0 b4 HR YC
      go_wp2_with (go_at_call 27; refine (hasPrefix_any _ _ _).mono ?_; rintro e w5 ⟨rfl, rfl⟩; rw [HPR.out])
      refine bodyPost_ret (v := .tuple #[.agg #[.int .i64 0, .int .i64 0, .int .i64 0, .int .i64 0, .slice none 0 0], .iface 60 (.agg #[.int .i64 5])]) (by simp [results, Tryd.results13, go_sem, u0, u1, u2, u3, u4]) rfl ?_
      exact ⟨.inr ⟨HH.out, ⟨5, by decide, rfl⟩⟩, B5.out⟩
  · have HH : Hid (rkO t = none) := HNO.out fun hh => hno hh.1
    obtain ⟨y0, y1, y2, y3, y4, f0, f1, f2, f3, f4⟩ := Y0.fiveC
    have R5 := (((((Y0.set 0 (.int .i64 0)).set 1 (.int .i64 0)).set 2 (.int .i64 0)).set 3 (.int .i64 0)).set 4 (.slice none 0 0))
    obtain ⟨u0, u1, u2, u3, u4, _⟩ := R5.fiveC
    have B5 := Lib.hid (((((b4.setCell (p := ⟨w.heap.size, 0, none⟩) (Nat.le_refl _) (.int .i64 0)).setCell (p := ⟨w.heap.size, 1, none⟩) (Nat.le_refl _) (.int .i64 0)).setCell (p := ⟨w.heap.size, 2, none⟩) (Nat.le_refl _) (.int .i64 0)).setCell (p := ⟨w.heap.size, 3, none⟩) (Nat.le_refl _) (.int .i64 0)).setCell (p := ⟨w.heap.size, 4, none⟩) (Nat.le_refl _) (.slice none 0 0))
    clear R5 Y0 b4 HR YC
    go_wp2_with fail
    refine bodyPost_ret (v := .tuple #[.agg #[.int .i64 0, .int .i64 0, .int .i64 0, .int .i64 0, .slice none 0 0], .iface 60 (.agg #[.int .i64 k])]) (by simp [results, Tryd.results13, go_sem, u0, u1, u2, u3, u4]) rfl ?_
    exact ⟨.inr ⟨HH.out, ⟨k, by omega, rfl⟩⟩, B5.out⟩

theorem ahead_any (t : ByteArray) (w : World) (ht : SumTab w) (hs : t.size ≤ 1099511627776) :
    Calls Tryd.prog 13 #[.string t] w fun e w' => AheadC t w e w' := by
  rcases h6 : rdNs t.data.toList 0 6 with _ | ⟨ns6, p⟩
  · exact (ahead_miss t w (fun w => readUn6 t w hs h6)).mono fun e w' ⟨h1, h2⟩ => ⟨.inr ⟨miss6 h6, h1⟩, h2⟩
  · have hl := (rdNs_le (l := t.data.toList) (Nat.zero_le _) 6 _ p h6).2.1
    obtain ⟨l, st, ng, ns, nv, m, rfl⟩ : ∃ l st ng ns nv m, ns6 = [l, st, ng, ns, nv, m] := by
      match ns6, hl with
      | [l, st, ng, ns, nv, m], _ => exact ⟨l, st, ng, ns, nv, m, rfl⟩
    by_cases hm : m ≤ 11
    · rcases h2 : rdNs t.data.toList p (2 * m) with _ | ⟨qs, q⟩
      · exact (ahead_miss t w (fun w => readUnQ t w hs h6 hm h2)).mono fun e w' ⟨h1, h3⟩ => ⟨.inr ⟨missQ h6 h2, h1⟩, h3⟩
      · exact ahead_ok t w ht hs h6 hm h2
    · exact (ahead_miss t w (fun w => readUn11 t w hs h6 (by omega))).mono fun e w' ⟨h1, h3⟩ => ⟨.inr ⟨miss11 h6 (by omega), h1⟩, h3⟩

end Go.Proofs.YtlnpegknjhbdnaaDoor

/- ReadCheck of the program. -/
namespace Go.Proofs.YtlnpegknjhbdnaaDoor
open Go.RowKit

/-- The check at the beginning of a text; nothing without one. -/
def ckZ : Ck := ⟨0, 0, 0, 0, []⟩
noncomputable def rkC (t : ByteArray) : Ck := (rkO t).getD ckZ
noncomputable def rkB (t : ByteArray) : Bool := (rkO t).isSome

set_option maxRecDepth 100000 in
set_option maxHeartbeats 4000000 in
theorem implRC_yes (t : ByteArray) (w : World) (st ng ns nv : Int) (rs : List Rf) (n : Nat) (he : ErrTab w) (h : ∀ w', Below w.heap.size w w' → Calls Tryd.prog 13 #[.string t] w' fun e x => ∃ (a : Option Addr) (cap : Nat), e = .returned (.tuple #[.agg #[.int .i64 st, .int .i64 ng, .int .i64 ns, .int .i64 nv, .slice a n cap], .nilIface]) ∧ RBuf rfE w'.heap.size w' x (.slice a n cap) rs) :
    Calls Tryd.prog 5 #[.string t] w fun e w' => ∃ (a : Option Addr) (cap : Nat), e = .returned (.tuple #[.agg #[.int .i64 st, .int .i64 ng, .int .i64 ns, .int .i64 nv, .slice a n cap], .bool true]) ∧ RBuf rfE w.heap.size w w' (.slice a n cap) rs := by
  have X0 := Box.new w #[.int .i64 0, .int .i64 0, .int .i64 0, .int .i64 0, .slice none 0 0] 24
  have b0 := belNew w (.cells #[.int .i64 0, .int .i64 0, .int .i64 0, .int .i64 0, .slice none 0 0] 24)
  have HU := Lib.hid (h _ b0)
  have HT : Hid (∀ x, Below w.heap.size w x → ErrTab x) := fun x hx => (hx.cell (p := ⟨0, 0, none⟩) (World.block_lt_of_cell? _ _ he)).trans he
  clear h he
  go_enter Tryd.func5, Tryd.ntmps5
  go_wp2_with fail
  generalize w.alloc (.cells #[.int .i64 0, .int .i64 0, .int .i64 0, .int .i64 0, .slice none 0 0] 24) = w1 at X0 b0 HU ⊢
  refine HU.out.mono ?_
  rintro e w2 ⟨a, cap, rfl, I⟩
  have k2 := I.bel
  have XC := Box.new w2 #[.int .i64 st, .int .i64 ng, .int .i64 ns, .int .i64 nv, .slice a n cap] 24
  have k3 := belNew w2 (.cells #[.int .i64 st, .int .i64 ng, .int .i64 ns, .int .i64 nv, .slice a n cap] 24)
  have Y0 := (X0.later k2).later k3
  have b2 := b0.trans (k2.mono b0.size)
  have b3 := b2.trans (k3.mono b2.size)
  have I3 := I.later k3
  have HG := Lib.hid X0.lt
  have HG2 := Lib.hid (Nat.lt_of_lt_of_le X0.lt k2.size)
  clear I k2 k3 X0 b0 b2 HU
  go_wp2_with fail
  generalize w2.alloc (.cells #[.int .i64 st, .int .i64 ng, .int .i64 ns, .int .i64 nv, .slice a n cap] 24) = w3 at XC Y0 b3 I3 ⊢
  obtain ⟨gC, hgC⟩ : ∃ gC, w2.heap.size = gC := ⟨_, rfl⟩
  rw [hgC] at XC HG2 ⊢
  clear hgC
  try refine wp_strict ?_
  refine wp_region_held_drew (S := fun x => Box x gC #[.int .i64 st, .int .i64 ng, .int .i64 ns, .int .i64 nv, .slice a n cap] 24) (by kernel_rfl) (XC.later ((Below.refl _ _).drew)) (fun hHeld => ?_)
  refine takeL (i := 0) (v := .agg #[.int .i64 st, .int .i64 ng, .int .i64 ns, .int .i64 nv, .slice a n cap]) rfl (by kernel_rfl) (by kernel_rfl) (by kernel_rfl) (fun _ _ _ h => h) (Or.inl ⟨by rfl, ?_⟩) (by assumption) ?_
  · intro x hSx; obtain ⟨d0, d1, d2, d3, d4, _⟩ := Box.fiveC hSx; go_simp
  try simp only [Act.put, List.setIfInBounds_toArray, List.set_cons_zero, List.set_cons_succ]
  refine takeL (i := 1) (v := .nilIface) rfl (by kernel_rfl) (by kernel_rfl) (by kernel_rfl) (fun _ _ _ h => h) (Or.inl ⟨by rfl, ?_⟩) (by assumption) ?_
  · intro x hSx; go_simp
  try simp only [Act.put, List.setIfInBounds_toArray, List.set_cons_zero, List.set_cons_succ]
  refine wpAnyH_ready (rs := [2]) (by kernel_rfl) (by simp) ?_
  refine readyOne rfl (fun K' hK => ?_)
  go_simp
  refine (codeOf_nil _).mono ?_
  rintro e w4 ⟨rfl, k4⟩
  try go_wp2_with fail
  have k4' : Below w3.heap.size w3 w4 := ((Below.refl _ w3).drew).trans k4
  replace Y0 := Y0.later k4'
  have b4 := b3.trans (k4'.mono b3.size)
  have HR := Lib.hid (I3.later k4')
  refine hK.out _ _ (XC.later k4') (fun hS2 => ?_)
  clear hK K' hHeld
  have hHeld := hS2
  clear hS2 k4 k4' I3 b3 XC
  try simp only [Act.put, List.setIfInBounds_toArray, List.set_cons_zero, List.set_cons_succ]
  refine takeL (i := 3) (v := .bool true) rfl (by kernel_rfl) (by kernel_rfl) (by kernel_rfl) (fun _ _ _ h => h) (Or.inl ⟨by rfl, ?_⟩) (by assumption) ?_
  · intro x hSx; go_simp
  try simp only [Act.put, List.setIfInBounds_toArray, List.set_cons_zero, List.set_cons_succ]
  refine wpAnyH_ready (rs := [4]) (by kernel_rfl) (by simp) ?_
  refine readyOne rfl (fun K' hK => ?_)
  obtain ⟨y0, y1, y2, y3, y4, f0, f1, f2, f3, f4⟩ := Y0.fiveC
  go_simp
  clear y0 y1 y2 y3 y4 f0 f1 f2 f3 f4
  have hgne : gC ≠ w.heap.size := by have := HG2.out; omega
  have R5 := (((((Y0).set 0 (.int .i64 st)).set 1 (.int .i64 ng)).set 2 (.int .i64 ns)).set 3 (.int .i64 nv)).set 4 (.slice a n cap)
  obtain ⟨u0, u1, u2, u3, u4, _⟩ := R5.fiveC
  have hne : (Value.slice a n cap).ownBlock = none ∨ (Value.slice a n cap).ownBlock ≠ some w.heap.size := .inr fun e => by have := (HR.out.own.lt _ e).1; have := HG.out; omega
  have HD := HR.out.down b4 (by have := HG.out; omega)
  have hle : ∀ k, some w.heap.size = some k → w.heap.size ≤ k := fun k e => by cases e; exact Nat.le_refl _
  have F5 := Lib.hid ((((((HD).grown (stored_grown _ w.heap.size 0 (.int .i64 st)) hne hle).grown (stored_grown _ w.heap.size 1 (.int .i64 ng)) hne hle).grown (stored_grown _ w.heap.size 2 (.int .i64 ns)) hne hle).grown (stored_grown _ w.heap.size 3 (.int .i64 nv)) hne hle).grown (stored_grown _ w.heap.size 4 (.slice a n cap)) hne hle)
  refine hK.out _ _ ((((((hHeld).other (g := w.heap.size) hgne 0 (.int .i64 st)).other (g := w.heap.size) hgne 1 (.int .i64 ng)).other (g := w.heap.size) hgne 2 (.int .i64 ns)).other (g := w.heap.size) hgne 3 (.int .i64 nv)).other (g := w.heap.size) hgne 4 (.slice a n cap)) (fun hS2 => ?_)
  clear hK K' hHeld hne HD R5 Y0 HR b4
  have hHeld := hS2
  clear hS2
  try simp only [Act.put, List.setIfInBounds_toArray, List.set_cons_zero, List.set_cons_succ]
  refine takeL (i := 5) (v := .bool true) rfl (by kernel_rfl) (by kernel_rfl) (by kernel_rfl) (fun _ _ _ h => h) (Or.inl ⟨by rfl, ?_⟩) (by assumption) ?_
  · intro x hSx; go_simp
  try simp only [Act.put, List.setIfInBounds_toArray, List.set_cons_zero, List.set_cons_succ]
  refine wpAnyH_done (by kernel_rfl) ?_ _
  go_wp2_with fail
  refine bodyPost_ret (v := .tuple #[.agg #[.int .i64 st, .int .i64 ng, .int .i64 ns, .int .i64 nv, .slice a n cap], .bool true]) (by simp [results, Tryd.results5, go_sem, u0, u1, u2, u3, u4]) rfl ?_
  exact ⟨a, cap, rfl, F5.out⟩

set_option maxRecDepth 100000 in
set_option maxHeartbeats 4000000 in
theorem implRC_no (t : ByteArray) (w : World) (st ng ns nv : Int) (rs : List Rf) (n : Nat)  (he : ErrTab w) (h : ∀ w', Below w.heap.size w w' → Calls Tryd.prog 13 #[.string t] w' fun e x => ∃ (a : Option Addr) (cap : Nat) (k : Int), k ≠ 0 ∧ e = .returned (.tuple #[.agg #[.int .i64 st, .int .i64 ng, .int .i64 ns, .int .i64 nv, .slice a n cap], .iface 60 (.agg #[.int .i64 k])]) ∧ RBuf rfE w'.heap.size w' x (.slice a n cap) rs) :
    Calls Tryd.prog 5 #[.string t] w fun e w' => ∃ (a : Option Addr) (cap : Nat), e = .returned (.tuple #[.agg #[.int .i64 st, .int .i64 ng, .int .i64 ns, .int .i64 nv, .slice a n cap], .bool false]) ∧ RBuf rfE w.heap.size w w' (.slice a n cap) rs := by
  have X0 := Box.new w #[.int .i64 0, .int .i64 0, .int .i64 0, .int .i64 0, .slice none 0 0] 24
  have b0 := belNew w (.cells #[.int .i64 0, .int .i64 0, .int .i64 0, .int .i64 0, .slice none 0 0] 24)
  have HU := Lib.hid (h _ b0)
  have HT : Hid (∀ x, Below w.heap.size w x → ErrTab x) := fun x hx => (hx.cell (p := ⟨0, 0, none⟩) (World.block_lt_of_cell? _ _ he)).trans he
  clear h he
  go_enter Tryd.func5, Tryd.ntmps5
  go_wp2_with fail
  generalize w.alloc (.cells #[.int .i64 0, .int .i64 0, .int .i64 0, .int .i64 0, .slice none 0 0] 24) = w1 at X0 b0 HU ⊢
  refine HU.out.mono ?_
  rintro e w2 ⟨a, cap, k, hk, rfl, I⟩
  have k2 := I.bel
  have XC := Box.new w2 #[.int .i64 st, .int .i64 ng, .int .i64 ns, .int .i64 nv, .slice a n cap] 24
  have k3 := belNew w2 (.cells #[.int .i64 st, .int .i64 ng, .int .i64 ns, .int .i64 nv, .slice a n cap] 24)
  have Y0 := (X0.later k2).later k3
  have b2 := b0.trans (k2.mono b0.size)
  have b3 := b2.trans (k3.mono b2.size)
  have I3 := I.later k3
  have HG := Lib.hid X0.lt
  have HG2 := Lib.hid (Nat.lt_of_lt_of_le X0.lt k2.size)
  clear I k2 k3 X0 b0 b2 HU
  go_wp2_with fail
  generalize w2.alloc (.cells #[.int .i64 st, .int .i64 ng, .int .i64 ns, .int .i64 nv, .slice a n cap] 24) = w3 at XC Y0 b3 I3 ⊢
  obtain ⟨gC, hgC⟩ : ∃ gC, w2.heap.size = gC := ⟨_, rfl⟩
  rw [hgC] at XC HG2 ⊢
  clear hgC
  try refine wp_strict ?_
  refine wp_region_held_drew (S := fun x => Box x gC #[.int .i64 st, .int .i64 ng, .int .i64 ns, .int .i64 nv, .slice a n cap] 24) (by kernel_rfl) (XC.later ((Below.refl _ _).drew)) (fun hHeld => ?_)
  refine takeL (i := 0) (v := .agg #[.int .i64 st, .int .i64 ng, .int .i64 ns, .int .i64 nv, .slice a n cap]) rfl (by kernel_rfl) (by kernel_rfl) (by kernel_rfl) (fun _ _ _ h => h) (Or.inl ⟨by rfl, ?_⟩) (by assumption) ?_
  · intro x hSx; obtain ⟨d0, d1, d2, d3, d4, _⟩ := Box.fiveC hSx; go_simp
  try simp only [Act.put, List.setIfInBounds_toArray, List.set_cons_zero, List.set_cons_succ]
  refine takeL (i := 1) (v := .iface 60 (.agg #[.int .i64 k])) rfl (by kernel_rfl) (by kernel_rfl) (by kernel_rfl) (fun _ _ _ h => h) (Or.inl ⟨by rfl, ?_⟩) (by assumption) ?_
  · intro x hSx; go_simp
  try simp only [Act.put, List.setIfInBounds_toArray, List.set_cons_zero, List.set_cons_succ]
  refine wpAnyH_ready (rs := [2]) (by kernel_rfl) (by simp) ?_
  refine readyOne rfl (fun K' hK => ?_)
  go_simp
  have hk0 : (k == 0) = false := beq_eq_false_iff_ne.2 hk
  refine (codeOf_fault k _ (HT.out _ b3.drew)).mono ?_
  rintro e w4 ⟨rfl, k4⟩
  try go_wp2_with fail
  have k4' : Below w3.heap.size w3 w4 := ((Below.refl _ w3).drew).trans k4
  replace Y0 := Y0.later k4'
  have b4 := b3.trans (k4'.mono b3.size)
  have HR := Lib.hid (I3.later k4')
  refine hK.out _ _ (XC.later k4') (fun hS2 => ?_)
  clear hK K' hHeld
  have hHeld := hS2
  clear hS2 k4 k4' I3 b3 XC
  try simp only [Act.put, List.setIfInBounds_toArray, List.set_cons_zero, List.set_cons_succ]
  refine takeL (i := 3) (v := .bool false) rfl (by kernel_rfl) (by kernel_rfl) (by kernel_rfl) (fun _ _ _ h => h) (Or.inl ⟨by rfl, ?_⟩) (by assumption) ?_
  · intro x hSx; go_simp
  try simp only [Act.put, List.setIfInBounds_toArray, List.set_cons_zero, List.set_cons_succ]
  refine wpAnyH_ready (rs := [4]) (by kernel_rfl) (by simp) ?_
  refine readyOne rfl (fun K' hK => ?_)
  obtain ⟨y0, y1, y2, y3, y4, f0, f1, f2, f3, f4⟩ := Y0.fiveC
  go_simp
  clear y0 y1 y2 y3 y4 f0 f1 f2 f3 f4
  have hgne : gC ≠ w.heap.size := by have := HG2.out; omega
  have R5 := (((((Y0).set 0 (.int .i64 st)).set 1 (.int .i64 ng)).set 2 (.int .i64 ns)).set 3 (.int .i64 nv)).set 4 (.slice a n cap)
  obtain ⟨u0, u1, u2, u3, u4, _⟩ := R5.fiveC
  have hne : (Value.slice a n cap).ownBlock = none ∨ (Value.slice a n cap).ownBlock ≠ some w.heap.size := .inr fun e => by have := (HR.out.own.lt _ e).1; have := HG.out; omega
  have HD := HR.out.down b4 (by have := HG.out; omega)
  have hle : ∀ k, some w.heap.size = some k → w.heap.size ≤ k := fun k e => by cases e; exact Nat.le_refl _
  have F5 := Lib.hid ((((((HD).grown (stored_grown _ w.heap.size 0 (.int .i64 st)) hne hle).grown (stored_grown _ w.heap.size 1 (.int .i64 ng)) hne hle).grown (stored_grown _ w.heap.size 2 (.int .i64 ns)) hne hle).grown (stored_grown _ w.heap.size 3 (.int .i64 nv)) hne hle).grown (stored_grown _ w.heap.size 4 (.slice a n cap)) hne hle)
  refine hK.out _ _ ((((((hHeld).other (g := w.heap.size) hgne 0 (.int .i64 st)).other (g := w.heap.size) hgne 1 (.int .i64 ng)).other (g := w.heap.size) hgne 2 (.int .i64 ns)).other (g := w.heap.size) hgne 3 (.int .i64 nv)).other (g := w.heap.size) hgne 4 (.slice a n cap)) (fun hS2 => ?_)
  clear hK K' hHeld hne HD R5 Y0 HR b4
  have hHeld := hS2
  clear hS2
  try simp only [Act.put, List.setIfInBounds_toArray, List.set_cons_zero, List.set_cons_succ]
  refine takeL (i := 5) (v := .bool false) rfl (by kernel_rfl) (by kernel_rfl) (by kernel_rfl) (fun _ _ _ h => h) (Or.inl ⟨by rfl, ?_⟩) (by assumption) ?_
  · intro x hSx; go_simp
  try simp only [Act.put, List.setIfInBounds_toArray, List.set_cons_zero, List.set_cons_succ]
  refine wpAnyH_done (by kernel_rfl) ?_ _
  go_wp2_with fail
  refine bodyPost_ret (v := .tuple #[.agg #[.int .i64 st, .int .i64 ng, .int .i64 ns, .int .i64 nv, .slice a n cap], .bool false]) (by simp [results, Tryd.results5, go_sem, u0, u1, u2, u3, u4]) rfl ?_
  exact ⟨a, cap, rfl, F5.out⟩

theorem implReadCheck_any (t : ByteArray) (w : World) (he : ErrTab w) (ht : SumTab w) (hs : t.size ≤ 1099511627776) :
    Calls Tryd.prog 5 #[.string t] w fun e w' => ∃ (a : Option Addr) (cap : Nat), e = .returned (.tuple #[.agg #[.int .i64 (rkC t).st, .int .i64 (rkC t).ng, .int .i64 (rkC t).ns, .int .i64 (rkC t).nv, .slice a (rkC t).refs.length cap], .bool (rkB t)]) ∧ RBuf rfE w.heap.size w w' (.slice a (rkC t).refs.length cap) (rkC t).refs := by
  have HA : ∀ w', Below w.heap.size w w' → Calls Tryd.prog 13 #[.string t] w' fun e x => AheadC t w' e x := fun w' hb => ahead_any t w' (ht.later hb) hs
  unfold rkC rkB
  rcases hr : rkO t with _ | c
  · refine implRC_no t w 0 0 0 0 [] 0 he (fun w' hb => (HA w' hb).mono ?_)
    rintro e x ⟨⟨c, _, _, h1, _⟩ | ⟨_, k, hk, rfl⟩, hx⟩
    · rw [hr] at h1; cases h1
    · exact ⟨none, 0, k, hk, rfl, World.ownsRow_nil _ _ _ _, hx, hx.size⟩
  · refine implRC_yes t w c.st c.ng c.ns c.nv c.refs c.refs.length he (fun w' hb => (HA w' hb).mono ?_)
    rintro e x ⟨⟨c', a, cap, h1, h2, h3⟩ | ⟨h1, _⟩, hx⟩
    · rw [hr] at h1; cases h1; exact ⟨a, cap, h2, h3⟩
    · rw [hr] at h1; cases h1

end Go.Proofs.YtlnpegknjhbdnaaDoor

/- CheckOk of the model. -/
namespace Go.Proofs.YtlnpegknjhbdnaaDoor
open Go.RowKit

theorem inC_yes (n lo hi : Int) (w : World) (h1 : lo ≤ n) (h2 : n ≤ hi) : Calls Tryd.prog 30 #[.int .i64 n, .int .i64 lo, .int .i64 hi] w fun e w' => e = .returned (.bool true) ∧ w' = w :=
  (l01In_yes n lo hi w h1 h2).mono fun _ _ h => ⟨h.1, h.2.symm⟩
theorem inC_no (n lo hi : Int) (w : World) (h : ¬ (lo ≤ n ∧ n ≤ hi)) : Calls Tryd.prog 30 #[.int .i64 n, .int .i64 lo, .int .i64 hi] w fun e w' => e = .returned (.bool false) ∧ w' = w :=
  (l01In_no n lo hi w h).mono fun _ _ h => ⟨h.1, h.2.symm⟩

set_option maxRecDepth 100000 in
set_option maxHeartbeats 4000000 in
theorem specCheckOk_any (c : Ck) (a : Option Addr) (cap : Nat) (w : World) (h : Rows' rfE w (.slice a c.refs.length cap) c.refs) (hl : c.refs.length ≤ 1048576) :
    Calls Tryd.prog 21 #[.agg #[.int .i64 c.st, .int .i64 c.ng, .int .i64 c.ns, .int .i64 c.nv, .slice a c.refs.length cap]] w fun e w' => e = .returned (.bool (ckB c)) ∧ Below w.heap.size w w' := by
  obtain ⟨_, _, hv, hrow⟩ := h.refs
  cases hv
  have HR := Lib.hid hrow
  clear h hrow
  have HYES := Lib.hid (fun h => @ckB_yes c h)
  have HNO := Lib.hid (fun h => @ckB_no c h)
  obtain ⟨st, ng, ns, nv, rs⟩ := c
  generalize ckB ⟨st, ng, ns, nv, rs⟩ = A at HYES HNO ⊢
  replace HYES : Hid (((numIn st ∧ numIn ng ∧ numIn ns ∧ numIn nv) ∧ (1 ≤ rs.length ∧ rs.length ≤ 11) ∧ ∀ (i : Nat) (r : Rf), rs[i]? = some r → rfAt ng rs i r) → A = true) := HYES
  replace HNO : Hid (¬ ((numIn st ∧ numIn ng ∧ numIn ns ∧ numIn nv) ∧ (1 ≤ rs.length ∧ rs.length ≤ 11) ∧ ∀ (i : Nat) (r : Rf), rs[i]? = some r → rfAt ng rs i r) → A = false) := HNO
  simp only at hl HR ⊢
  obtain ⟨n, hn⟩ : ∃ n, rs.length = n := ⟨_, rfl⟩
  rw [hn] at hl HYES HNO ⊢
  have HN := Lib.hid hn
  clear hn
  have X0 := Box.new w #[.int .i64 st, .int .i64 ng, .int .i64 ns, .int .i64 nv, .slice a n cap] 24
  have b0 := belNew w (.cells #[.int .i64 st, .int .i64 ng, .int .i64 ns, .int .i64 nv, .slice a n cap] 24)
  have HC : Hid (∀ x, Below (w.alloc (.cells #[.int .i64 st, .int .i64 ng, .int .i64 ns, .int .i64 nv, .slice a n cap] 24)).heap.size (w.alloc (.cells #[.int .i64 st, .int .i64 ng, .int .i64 ns, .int .i64 nv, .slice a n cap] 24)) x → (x.cell? ⟨w.heap.size, 0, none⟩ = some (.int .i64 st) ∧ x.cell? ⟨w.heap.size, 1, none⟩ = some (.int .i64 ng) ∧ x.cell? ⟨w.heap.size, 2, none⟩ = some (.int .i64 ns) ∧ x.cell? ⟨w.heap.size, 3, none⟩ = some (.int .i64 nv) ∧ x.cell? ⟨w.heap.size, 4, none⟩ = some (.slice a n cap)) ∧ Below w.heap.size w x) := fun x hx => by
    obtain ⟨x0, x1, x2, x3, x4, _⟩ := (X0.later hx).fiveC
    exact ⟨⟨x0, x1, x2, x3, x4⟩, b0.trans (hx.mono b0.size)⟩
  clear X0 b0
  go_enter Tryd.func21, Tryd.ntmps21
  go_upto_region 1 with fail
  generalize w.alloc (.cells #[.int .i64 st, .int .i64 ng, .int .i64 ns, .int .i64 nv, .slice a n cap] 24) = W at HC ⊢
  obtain ⟨g, hg⟩ : ∃ g, w.heap.size = g := ⟨_, rfl⟩
  rw [hg] at HC ⊢
  obtain ⟨⟨c0, c1, c2, c3, c4⟩, bW⟩ := HC.out _ (Below.refl _ _)
  rw [← hg] at bW
  by_cases h1 : 1 ≤ st ∧ st ≤ 1000000000
  rotate_left
  · have HE : Hid (A = false) := HNO.out (fun c => h1 c.1.1)
    go_wp2_with (go_at_call 30; first | (refine (l01In_yes _ _ _ _ (by omega) (by omega)).mono ?_; rintro e w1 ⟨rfl, rfl⟩) | (refine (l01In_no _ _ _ _ (by omega)).mono ?_; rintro e w1 ⟨rfl, rfl⟩))
    go_ret
    exact ⟨by rw [HE.out]; rfl, by first | exact bW | (rw [← hg]; exact bW)⟩
  by_cases h2 : 1 ≤ ng ∧ ng ≤ 1000000000
  rotate_left
  · have HE : Hid (A = false) := HNO.out (fun c => h2 c.1.2.1)
    go_wp2_with (go_at_call 30; first | (refine (l01In_yes _ _ _ _ (by omega) (by omega)).mono ?_; rintro e w1 ⟨rfl, rfl⟩) | (refine (l01In_no _ _ _ _ (by omega)).mono ?_; rintro e w1 ⟨rfl, rfl⟩))
    go_ret
    exact ⟨by rw [HE.out]; rfl, by first | exact bW | (rw [← hg]; exact bW)⟩
  by_cases h3 : 1 ≤ ns ∧ ns ≤ 1000000000
  rotate_left
  · have HE : Hid (A = false) := HNO.out (fun c => h3 c.1.2.2.1)
    go_wp2_with (go_at_call 30; first | (refine (l01In_yes _ _ _ _ (by omega) (by omega)).mono ?_; rintro e w1 ⟨rfl, rfl⟩) | (refine (l01In_no _ _ _ _ (by omega)).mono ?_; rintro e w1 ⟨rfl, rfl⟩))
    go_ret
    exact ⟨by rw [HE.out]; rfl, by first | exact bW | (rw [← hg]; exact bW)⟩
  by_cases h4 : 1 ≤ nv ∧ nv ≤ 1000000000
  rotate_left
  · have HE : Hid (A = false) := HNO.out (fun c => h4 c.1.2.2.2)
    go_wp2_with (go_at_call 30; first | (refine (l01In_yes _ _ _ _ (by omega) (by omega)).mono ?_; rintro e w1 ⟨rfl, rfl⟩) | (refine (l01In_no _ _ _ _ (by omega)).mono ?_; rintro e w1 ⟨rfl, rfl⟩))
    go_ret
    exact ⟨by rw [HE.out]; rfl, by first | exact bW | (rw [← hg]; exact bW)⟩
  by_cases h5 : 1 ≤ n ∧ n ≤ 11
  rotate_left
  · have HE : Hid (A = false) := HNO.out (fun c => h5 c.2.1)
    go_wp2_with (go_at_call 30; first | (refine (l01In_yes _ _ _ _ (by omega) (by omega)).mono ?_; rintro e w1 ⟨rfl, rfl⟩) | (refine (l01In_no _ _ _ _ (by omega)).mono ?_; rintro e w1 ⟨rfl, rfl⟩))
    go_ret
    exact ⟨by rw [HE.out]; rfl, by first | exact bW | (rw [← hg]; exact bW)⟩
  have HBAD : Hid (∀ (i : Nat) (r : Rf), rs[i]? = some r → ¬ rfAt ng rs i r → A = false) := fun i r hr hb => HNO.out (fun c => hb (c.2.2 i r hr))
  have HGOOD : Hid ((∀ (i : Nat) (r : Rf), rs[i]? = some r → rfAt ng rs i r) → A = true) := fun hb => HYES.out ⟨⟨h1, h2, h3, h4⟩, h5, hb⟩
  clear HYES HNO bW
  go_wp2_with (go_at_call 30; first | (refine (l01In_yes _ _ _ _ (by omega) (by omega)).mono ?_; rintro e w1 ⟨rfl, rfl⟩) | (refine (l01In_no _ _ _ _ (by omega)).mono ?_; rintro e w1 ⟨rfl, rfl⟩))
  clear c0 c1 c2 c3 c4
  go_loopw [3] (fun iv wr => ∃ i : Nat, i ≤ n ∧ iv = .int .i64 (i : Int) ∧ Hid (∀ (k : Nat) (r : Rf), k < i → rs[k]? = some r → rfAt ng rs k r) ∧ Below W.heap.size W wr) (fun iv _ => n - (intOf iv).toNat)
  case atStart => exact ⟨0, by omega, rfl, fun k r hk => by omega, Below.refl _ _⟩
  case round =>
    obtain ⟨i, hi, rfl, HOK, bq⟩ := hrel
    obtain ⟨⟨c0, c1, c2, c3, c4⟩, bw⟩ := HC.out _ bq
    rw [← hg] at bw
    by_cases hlt : i < n
    · obtain ⟨r, hgr⟩ : ∃ r, rs[i]? = some r := ⟨_, List.getElem?_eq_getElem (by rw [HN.out]; exact hlt)⟩
      obtain ⟨gp, op, rfl, p0, p1⟩ := HR.out _ bw i _ hgr
      have HGR := Lib.hid hgr
      clear hgr
      obtain ⟨rN, rG⟩ := r
      simp only at p0 p1
      have hi0 : (0 : Int) ≤ (i : Int) := by omega
      have hi1 : (i : Int) < (n : Int) := by omega
      have XB := Box.new wr #[.int .i64 rN, .int .i64 rG] 39
      have k9 := belNew wr (.cells #[.int .i64 rN, .int .i64 rG] 39)
      have b9 := bq.trans (k9.mono bq.size)
      clear bq bw
      go_upto_region 7 with fail
      clear p0 p1 c0 c1 c2 c3 c4
      generalize wr.alloc (.cells #[.int .i64 rN, .int .i64 rG] 39) = w9 at XB b9 ⊢
      obtain ⟨g9, hg9⟩ : ∃ g9, wr.heap.size = g9 := ⟨_, rfl⟩
      rw [hg9] at XB ⊢
      clear hg9 k9
      have H9 : Hid (∀ x, Below w9.heap.size w9 x → (x.cell? ⟨g9, 0, none⟩ = some (.int .i64 rN) ∧ x.cell? ⟨g9, 1, none⟩ = some (.int .i64 rG)) ∧ (x.cell? ⟨g, 0, none⟩ = some (.int .i64 st) ∧ x.cell? ⟨g, 1, none⟩ = some (.int .i64 ng) ∧ x.cell? ⟨g, 2, none⟩ = some (.int .i64 ns) ∧ x.cell? ⟨g, 3, none⟩ = some (.int .i64 nv) ∧ x.cell? ⟨g, 4, none⟩ = some (.slice (some ⟨gp, op, none⟩) n cap)) ∧ Below w.heap.size w x ∧ Below W.heap.size W x) := fun x hx =>
        have hb := b9.trans (hx.mono b9.size)
        ⟨⟨(XB.later hx).cell 0 _ rfl, (XB.later hx).cell 1 _ rfl⟩, (HC.out _ hb).1, by have := (HC.out _ hb).2; rw [← hg] at this; exact this, hb⟩
      clear XB b9
      obtain ⟨F, hF0⟩ := someC (¬ ((0 ≤ rN ∧ rN ≤ 10) ∧ (1 ≤ rG ∧ rG ≤ ng - 1) ∧ ∀ p : Rf, 0 < i → rs[i - 1]? = some p → p.2 < rG))
      have hF := Lib.hid hF0
      clear hF0
      have hng : IntKind.i64.wrap (ng - 1) = ng - 1 := IntWalk.i64_in _ ⟨by omega, by omega⟩
      go_cut [75] (fun c wx => c = .bool F ∧ Below w9.heap.size w9 wx)
      case first =>
        obtain ⟨⟨d0, d1⟩, ⟨_, c1, _, _, c4⟩, bw, _⟩ := H9.out _ (Below.refl _ _)
        by_cases hv : 0 ≤ rN ∧ rN ≤ 10
        rotate_left
        · have HE : Hid (F = true) := hF.out.2 (fun c => hv c.1)
          clear hF HR HN HC HBAD HGOOD HOK HGR H9 bw
          go_quiet (first | (go_at_call 30; first | exact Calls.quiet_of_same (inC_yes _ _ _ _ (by omega) (by omega)) | exact Calls.quiet_of_same (inC_no _ _ _ _ (by omega))))
          go_wp2_with fail
          go_meet
          exact ⟨by rw [HE.out], below_drewN (Below.refl _ _) _⟩
        by_cases hu : 1 ≤ rG ∧ rG ≤ ng - 1
        rotate_left
        · have HE : Hid (F = true) := hF.out.2 (fun c => hu c.2.1)
          clear hF HR HN HC HBAD HGOOD HOK HGR H9 bw
          go_quiet (first | (go_at_call 30; first | exact Calls.quiet_of_same (inC_yes _ _ _ _ (by omega) (by omega)) | exact Calls.quiet_of_same (inC_no _ _ _ _ (by omega))))
          go_wp2_with fail
          go_meet
          exact ⟨by rw [HE.out], below_drewN (Below.refl _ _) _⟩
        rcases (show i = 0 ∨ ∃ j, i = j + 1 by cases i with | zero => exact .inl rfl | succ j => exact .inr ⟨j, rfl⟩) with rfl | ⟨j, rfl⟩
        · have hz : ¬ ((0 : Int) < ((0 : Nat) : Int)) := by omega
          have HE : Hid (F = false) := Bool.eq_false_iff.2 (fun h => hF.out.1 h ⟨hv, hu, fun p h => absurd h (Nat.lt_irrefl 0)⟩)
          clear hF HR HN HC HBAD HGOOD HOK HGR H9 bw
          go_quiet (first | (go_at_call 30; first | exact Calls.quiet_of_same (inC_yes _ _ _ _ (by omega) (by omega)) | exact Calls.quiet_of_same (inC_no _ _ _ _ (by omega))))
          go_wp2_with fail
          go_meet
          exact ⟨by rw [HE.out], below_drewN (Below.refl _ _) _⟩
        · obtain ⟨p, hgp⟩ : ∃ p, rs[j]? = some p := ⟨_, List.getElem?_eq_getElem (by rw [HN.out]; omega)⟩
          have hpos : (0 : Int) < (j : Int) + 1 := by omega
          have hj1 : (j : Int) < (n : Int) := by omega
          have hj0 : (0 : Int) ≤ (j : Int) := by omega
          obtain ⟨_, _, e0, _, t1⟩ := HR.out _ bw j _ hgp
          cases e0
          have HGP := Lib.hid hgp
          clear hgp
          obtain ⟨pN, pG⟩ := p
          simp only at t1
          have hwr : IntKind.i64.wrap ((j : Int) + 1 - 1) = (j : Int) := by rw [show (j : Int) + 1 - 1 = (j : Int) by omega]; exact IntWalk.i64_in _ ⟨by omega, by omega⟩
          have hwr2 : IntKind.i64.wrap (j : Int) = (j : Int) := IntWalk.i64_in _ ⟨by omega, by omega⟩
          by_cases hup : rG ≤ pG
          · have HE : Hid (F = true) := hF.out.2 (fun c => by have h1 := c.2.2 _ (Nat.succ_pos j) HGP.out; simp only at h1; omega)
            clear hF HR HN HC HBAD HGOOD HOK HGR H9 bw HGP
            go_quiet (first | (go_at_call 30; first | exact Calls.quiet_of_same (inC_yes _ _ _ _ (by omega) (by omega)) | exact Calls.quiet_of_same (inC_no _ _ _ _ (by omega))))
            go_wp2_with fail
            go_meet
            exact ⟨by rw [HE.out], below_drewN (Below.refl _ _) _⟩
          · have HE : Hid (F = false) := Bool.eq_false_iff.2 (fun h => hF.out.1 h ⟨hv, hu, fun p _ h => by have e := Option.some.inj (h.symm.trans HGP.out); rw [e]; simp only; omega⟩)
            clear hF HR HN HC HBAD HGOOD HOK HGR H9 bw HGP
            go_quiet (first | (go_at_call 30; first | exact Calls.quiet_of_same (inC_yes _ _ _ _ (by omega) (by omega)) | exact Calls.quiet_of_same (inC_no _ _ _ _ (by omega))))
            go_wp2_with fail
            go_meet
            exact ⟨by rw [HE.out], below_drewN (Below.refl _ _) _⟩
      case rest =>
        obtain ⟨rfl, k10⟩ := hcut
        cases F with
        | true =>
          have HE : Hid (A = false) := HBAD.out i _ HGR.out (fun c => hF.out.1 rfl ⟨c.1, c.2.1, c.2.2.1⟩)
          have bE := (H9.out _ k10).2.2.1
          go_wp2
          go_ret
          exact ⟨by rw [HE.out]; rfl, by first | exact bE | (rw [← hg]; exact bE)⟩
        | false =>
          have HP : Hid ((0 ≤ rN ∧ rN ≤ 10) ∧ (1 ≤ rG ∧ rG ≤ ng - 1) ∧ ∀ p : Rf, 0 < i → rs[i - 1]? = some p → p.2 < rG) := Classical.byContradiction (fun c => by have := hF.out.2 c; cases this)
          clear hF
          go_wp2
          go_loopw [5] (fun kv wq => ∃ k : Nat, k ≤ i ∧ kv = .int .i64 (k : Int) ∧ Hid (∀ (q : Nat) (y : Rf), q < k → rs[q]? = some y → y.1 ≠ rN) ∧ Below w9.heap.size w9 wq) (fun kv _ => i - (intOf kv).toNat)
          case atStart => exact ⟨0, by omega, rfl, fun q y hq => by omega, k10⟩
          case round =>
            clear k10
            obtain ⟨k, hk, rfl, HNOS, bq⟩ := hrel
            obtain ⟨⟨d0, d1⟩, ⟨_, _, _, _, c4⟩, bw, bWx⟩ := H9.out _ bq
            by_cases hlk : k < i
            · obtain ⟨y, hgy⟩ : ∃ y, rs[k]? = some y := ⟨_, List.getElem?_eq_getElem (by rw [HN.out]; omega)⟩
              obtain ⟨_, _, e0, t0, _⟩ := HR.out _ bw k _ hgy
              cases e0
              have HGY := Lib.hid hgy
              clear hgy
              obtain ⟨yN, yG⟩ := y
              simp only at t0
              have hk0 : (0 : Int) ≤ (k : Int) := by omega
              have hk1 : (k : Int) < (n : Int) := by omega
              have hk2 : (k : Int) < (i : Int) := by omega
              by_cases he : yN = rN
              · subst he
                have HE : Hid (A = false) := HBAD.out i _ HGR.out (fun c => c.2.2.2 k _ hlk HGY.out rfl)
                clear HNOS HGY HR HN HC HBAD HGOOD HOK HGR H9 HP
                go_wp2
                go_quiet (fail)
                go_wp2
                go_ret
                exact ⟨by rw [HE.out]; rfl, by first | exact below_drewN bw _ | (rw [← hg]; exact below_drewN bw _)⟩
              · have he' : (yN == rN) = false := beq_eq_false_iff_ne.2 he
                have HS : Hid (∀ (q : Nat) (y : Rf), q < k + 1 → rs[q]? = some y → y.1 ≠ rN) := fun q y hq hy => by
                  rcases Nat.lt_succ_iff_lt_or_eq.1 hq with h | rfl
                  · exact HNOS.out q y h hy
                  · have e := Option.some.inj (hy.symm.trans HGY.out); rw [e]; exact he
                clear HNOS HGY bw bWx
                go_wp2
                go_quiet (fail)
                go_wp2
                go_roundw
                case rel => exact ⟨k + 1, by omega, by go_num, HS, below_drewN bq _⟩
                case measure => simp [intOf]; omega
            · have hki : Hid (i = k) := by show i = k; omega
              have HNB : Hid (∀ (q : Nat) (y : Rf), q < i → rs[q]? = some y → y.1 ≠ rN) := by rw [hki.out]; exact HNOS.out
              have hk2 : ¬ (k : Int) < (i : Int) := by omega
              have HS : Hid (∀ (k : Nat) (r : Rf), k < i + 1 → rs[k]? = some r → rfAt ng rs k r) := fun q y hq hy => by
                rcases Nat.lt_succ_iff_lt_or_eq.1 hq with h | rfl
                · exact HOK.out q y h hy
                · have e := Option.some.inj (hy.symm.trans HGR.out); rw [e]; exact ⟨HP.out.1, HP.out.2.1, HP.out.2.2, HNB.out⟩
              clear HNOS hki d0 d1 c4 bw
              go_wp2
              go_roundw
              case rel => exact ⟨i + 1, by omega, by go_num, HS, bWx⟩
              case measure => simp [intOf]; omega
    · have hge : ¬ (i : Int) < (n : Int) := by omega
      have HE : Hid (A = true) := HGOOD.out (fun k r hr => HOK.out k r (by have := (List.getElem?_eq_some_iff.1 hr).1; rw [HN.out] at this; omega) hr)
      go_wp2
      go_ret
      exact ⟨by rw [HE.out]; rfl, by first | exact bw | (rw [← hg]; exact bw)⟩

end Go.Proofs.YtlnpegknjhbdnaaDoor

/- CheckText of the model. -/
namespace Go.Proofs.YtlnpegknjhbdnaaDoor
open Go.RowKit

set_option maxRecDepth 100000 in
set_option maxHeartbeats 8000000 in
theorem specCheckText_any (c : Ck) (a : Option Addr) (cap : Nat) (w : World) (h : Rows' rfE w (.slice a c.refs.length cap) c.refs) (hl : c.refs.length ≤ 1048576) :
    Calls Tryd.prog 12 #[.agg #[.int .i64 c.st, .int .i64 c.ng, .int .i64 c.ns, .int .i64 c.nv, .slice a c.refs.length cap]] w fun e w' => e = .returned (ctT c) ∧ Below w.heap.size w w' := by
  have HOKW := Lib.hid (fun (x : World) (hx : Below w.heap.size w x) => specCheckOk_any c a cap x (h.later hx) hl)
  obtain ⟨_, _, hv, hrow⟩ := h.refs
  cases hv
  have HR := Lib.hid hrow
  clear h hrow
  have HYES := Lib.hid (fun (e : ckB c = true) => And.intro (ctT_yes e) (ckB_iff.1 e))
  have HNO := Lib.hid (fun (e : ckB c = false) => ctT_no e)
  have HBD := Lib.hid (fun (e : c.ok) => ckBd_len e)
  have HSE := Lib.hid (fun (e : c.ok) => ckSe_len e)
  have HIN := Lib.hid (fun (e : c.ok) (i : Nat) (r : Rf) (hr : c.refs[i]? = some r) => c.ref_in e hr)
  have HST := Lib.hid (fun (i : Nat) (r : Rf) (hr : c.refs[i]? = some r) => ckBd_step hr)
  have HZ := Lib.hid (ckBd_zero c)
  have HDE : Hid (ckSe c = ckBd c c.refs.length ++ fourOf (ckBd c c.refs.length) ∧ ckTx c = shB (ckSe c)) := ⟨rfl, rfl⟩
  have HNU : Hid (c.ok → (numIn c.st ∧ numIn c.ng ∧ numIn c.ns ∧ numIn c.nv) ∧ c.refs.length ≤ 11) := fun e => ⟨e.1, e.2.1.2⟩
  obtain ⟨Q, hQ⟩ : ∃ Q, c.ok = Q := ⟨_, rfl⟩
  obtain ⟨D, hD⟩ : ∃ D, ckB c = D := ⟨_, rfl⟩
  obtain ⟨TT, hTT⟩ : ∃ TT, ctT c = TT := ⟨_, rfl⟩
  obtain ⟨TX, hTX⟩ : ∃ TX, ckTx c = TX := ⟨_, rfl⟩
  obtain ⟨SE, hSE⟩ : ∃ SE, ckSe c = SE := ⟨_, rfl⟩
  obtain ⟨BD, hBD⟩ : ∃ BD, ckBd c = BD := ⟨_, rfl⟩
  rw [hQ, hD, hTT, hTX] at HYES
  rw [hD, hTT] at HNO
  rw [hQ, hBD] at HBD
  rw [hQ, hBD, hSE, hTX] at HSE
  rw [hQ] at HIN HNU
  rw [hBD] at HST HZ
  rw [hBD, hSE, hTX] at HDE
  rw [hD] at HOKW
  rw [hTT]
  clear hQ hD hTT hTX hSE hBD
  obtain ⟨st, ng, ns, nv, rs⟩ := c
  simp only at HOKW HR HBD HSE HIN HST HZ HDE HNU hl ⊢
  obtain ⟨n, hn⟩ : ∃ n, rs.length = n := ⟨_, rfl⟩
  rw [hn] at hl HOKW HBD HSE HZ HDE HNU ⊢
  have HN := Lib.hid hn
  clear hn
  have X0 := Box.new w #[.int .i64 st, .int .i64 ng, .int .i64 ns, .int .i64 nv, .slice a n cap] 24
  have b0 := belNew w (.cells #[.int .i64 st, .int .i64 ng, .int .i64 ns, .int .i64 nv, .slice a n cap] 24)
  have HC : Hid (∀ x, Below (w.alloc (.cells #[.int .i64 st, .int .i64 ng, .int .i64 ns, .int .i64 nv, .slice a n cap] 24)).heap.size (w.alloc (.cells #[.int .i64 st, .int .i64 ng, .int .i64 ns, .int .i64 nv, .slice a n cap] 24)) x → (x.cell? ⟨w.heap.size, 0, none⟩ = some (.int .i64 st) ∧ x.cell? ⟨w.heap.size, 1, none⟩ = some (.int .i64 ng) ∧ x.cell? ⟨w.heap.size, 2, none⟩ = some (.int .i64 ns) ∧ x.cell? ⟨w.heap.size, 3, none⟩ = some (.int .i64 nv) ∧ x.cell? ⟨w.heap.size, 4, none⟩ = some (.slice a n cap)) ∧ Below w.heap.size w x) := fun x hx => by
    obtain ⟨x0, x1, x2, x3, x4, _⟩ := (X0.later hx).fiveC
    exact ⟨⟨x0, x1, x2, x3, x4⟩, b0.trans (hx.mono b0.size)⟩
  obtain ⟨x0, x1, x2, x3, x4, _⟩ := X0.fiveC
  clear X0 b0
  go_enter Tryd.func12, Tryd.ntmps12
  go_wp2_with fail
  clear x0 x1 x2 x3 x4
  generalize w.alloc (.cells #[.int .i64 st, .int .i64 ng, .int .i64 ns, .int .i64 nv, .slice a n cap] 24) = W at HC ⊢
  obtain ⟨g, hg⟩ : ∃ g, w.heap.size = g := ⟨_, rfl⟩
  replace HC : Hid (∀ x, Below W.heap.size W x → (x.cell? ⟨g, 0, none⟩ = some (.int .i64 st) ∧ x.cell? ⟨g, 1, none⟩ = some (.int .i64 ng) ∧ x.cell? ⟨g, 2, none⟩ = some (.int .i64 ns) ∧ x.cell? ⟨g, 3, none⟩ = some (.int .i64 nv) ∧ x.cell? ⟨g, 4, none⟩ = some (.slice a n cap)) ∧ Below w.heap.size w x) := by rw [hg] at HC ⊢; exact HC
  simp only [hg]
  have HG := Lib.hid hg
  clear hg
  refine (HOKW.out _ (HC.out _ (Below.refl _ _)).2).mono ?_
  rintro e w1 ⟨rfl, k1⟩
  clear HOKW
  cases D with
  | false =>
    have HE := Lib.hid (HNO.out rfl)
    have bE := (HC.out _ k1).2
    go_wp2
    go_ret2
    exact ⟨by rw [HE.out]; rfl, by first | exact bE | (rw [← HG.out]; exact bE)⟩
  | true =>
    have HOK := Lib.hid (HYES.out rfl).2
    have HE := Lib.hid (HYES.out rfl).1
    obtain ⟨⟨h1, h2, h3, h4⟩, h5⟩ := HNU.out HOK.out
    unfold numIn at h1 h2 h3 h4
    have HL1 := Lib.hid (fun x => l01VarZ_any st x (by omega) (by omega))
    have HL2 := Lib.hid (fun x => l01VarZ_any ng x (by omega) (by omega))
    have HL3 := Lib.hid (fun x => l01VarZ_any ns x (by omega) (by omega))
    have HL4 := Lib.hid (fun x => l01VarZ_any nv x (by omega) (by omega))
    have HL5 := Lib.hid (fun x => l01VarZ_any (n : Int) x (by omega) (by omega))
    have z1 := vtB_five (n := st.toNat) (by omega)
    have z2 := vtB_five (n := ng.toNat) (by omega)
    have z3 := vtB_five (n := ns.toNat) (by omega)
    have z4 := vtB_five (n := nv.toNat) (by omega)
    have z5 := vtB_five (n := n) (by omega)
    rw [Int.toNat_natCast] at HL5
    obtain ⟨V1, hV1⟩ : ∃ V, vtB st.toNat = V := ⟨_, rfl⟩
    obtain ⟨V2, hV2⟩ : ∃ V, vtB ng.toNat = V := ⟨_, rfl⟩
    obtain ⟨V3, hV3⟩ : ∃ V, vtB ns.toNat = V := ⟨_, rfl⟩
    obtain ⟨V4, hV4⟩ : ∃ V, vtB nv.toNat = V := ⟨_, rfl⟩
    obtain ⟨V5, hV5⟩ : ∃ V, vtB n = V := ⟨_, rfl⟩
    rw [hV1] at HL1 z1 HZ
    rw [hV2] at HL2 z2 HZ
    rw [hV3] at HL3 z3 HZ
    rw [hV4] at HL4 z4 HZ
    rw [hV5] at HL5 z5 HZ
    clear hV1 hV2 hV3 hV4 hV5 HYES HNO HNU
    have ad1 := fun wx => run_string_add_sum (P := Tryd.prog) (w := wx) V1 V2 (by omega)
    have y1 : (V1 ++ V2).size ≤ 10 := by rw [ByteArray.size_append]; omega
    obtain ⟨U1, hU1⟩ : ∃ U, V1 ++ V2 = U := ⟨_, rfl⟩
    rw [hU1] at ad1 y1 HZ
    have ad2 := fun wx => run_string_add_sum (P := Tryd.prog) (w := wx) U1 V3 (by omega)
    have y2 : (U1 ++ V3).size ≤ 15 := by rw [ByteArray.size_append]; omega
    obtain ⟨U2, hU2⟩ : ∃ U, U1 ++ V3 = U := ⟨_, rfl⟩
    rw [hU2] at ad2 y2 HZ
    have ad3 := fun wx => run_string_add_sum (P := Tryd.prog) (w := wx) U2 V4 (by omega)
    have y3 : (U2 ++ V4).size ≤ 20 := by rw [ByteArray.size_append]; omega
    obtain ⟨U3, hU3⟩ : ∃ U, U2 ++ V4 = U := ⟨_, rfl⟩
    rw [hU3] at ad3 y3 HZ
    have ad4 := fun wx => run_string_add_sum (P := Tryd.prog) (w := wx) U3 V5 (by omega)
    obtain ⟨U4, hU4⟩ : ∃ U, U3 ++ V5 = U := ⟨_, rfl⟩
    rw [hU4] at ad4 HZ
    clear hU1 hU2 hU3 hU4 y1 y2 y3 z1 z2 z3 z4 z5
    have kk : Below W.heap.size W w1.drew := k1.drew
    obtain ⟨c0, c1, c2, c3, c4⟩ := (HC.out _ kk).1
    go_upto_region 3 with fail
    go_cut [4] (fun c wx => c = .string (BD 0) ∧ Below W.heap.size W wx)
    case first =>
      clear k1 HIN HST HBD HSE HDE HR
      go_region_held3 (fun x => x.cell? ⟨g, 0, none⟩ = some (.int .i64 st) ∧ x.cell? ⟨g, 1, none⟩ = some (.int .i64 ng) ∧ x.cell? ⟨g, 2, none⟩ = some (.int .i64 ns) ∧ x.cell? ⟨g, 3, none⟩ = some (.int .i64 nv) ∧ x.cell? ⟨g, 4, none⟩ = some (.slice a n cap))
        (first | exact (HC.out _ kk).1)
        (first
          | (go_at_call 22; first
            | (with_reducible refine (HL1.out _).mono ?_; rintro e wX ⟨rfl, kX⟩; have kk := kk.trans (kX.mono kk.size); clear kX)
            | (with_reducible refine (HL2.out _).mono ?_; rintro e wX ⟨rfl, kX⟩; have kk := kk.trans (kX.mono kk.size); clear kX)
            | (with_reducible refine (HL3.out _).mono ?_; rintro e wX ⟨rfl, kX⟩; have kk := kk.trans (kX.mono kk.size); clear kX)
            | (with_reducible refine (HL4.out _).mono ?_; rintro e wX ⟨rfl, kX⟩; have kk := kk.trans (kX.mono kk.size); clear kX)
            | (with_reducible refine (HL5.out _).mono ?_; rintro e wX ⟨rfl, kX⟩; have kk := kk.trans (kX.mono kk.size); clear kX)))
      all_goals
        go_wp2_with fail
        go_meet
        exact ⟨by rw [HZ.out], kk⟩
    case rest =>
      obtain ⟨rfl, k2⟩ := hcut
      clear c0 c1 c2 c3 c4 ad1 ad2 ad3 ad4 HL1 HL2 HL3 HL4 HL5 kk k1
      go_wp2_with fail
      go_loopw [4, 5] (fun sv iv wr => ∃ i : Nat, i ≤ n ∧ iv = .int .i64 (i : Int) ∧ sv = .string (BD i) ∧ Below W.heap.size W wr) (fun _ iv _ => n - (intOf iv).toNat)
      case atStart => exact ⟨0, by omega, rfl, rfl, k2⟩
      case round =>
        clear k2
        obtain ⟨i, hi, rfl, rfl, bq⟩ := hrel
        obtain ⟨⟨c0, c1, c2, c3, c4⟩, bw⟩ := HC.out _ bq
        by_cases hlt : i < n
        · obtain ⟨r, hgr⟩ : ∃ r, rs[i]? = some r := ⟨_, List.getElem?_eq_getElem (by rw [HN.out]; exact hlt)⟩
          have hin := HIN.out HOK.out i r hgr
          have HS := Lib.hid (HST.out i r hgr)
          have hbl := HBD.out HOK.out i (by omega)
          have HROW : Hid (∀ X, Below w.heap.size w X → ∃ g off, a = some ⟨g, off, none⟩ ∧ X.cell? ⟨g, off + i * 2, none⟩ = some (.int .i64 r.1) ∧ X.cell? ⟨g, off + i * 2 + 1, none⟩ = some (.int .i64 r.2)) := fun X hX => HR.out X hX i r hgr
          clear hgr
          obtain ⟨rN, rG⟩ := r
          simp only at hin HS HROW
          have HL1 := Lib.hid (fun x => l01VarZ_any rN x (by omega) (by omega))
          have HL2 := Lib.hid (fun x => l01VarZ_any rG x (by omega) (by omega))
          have z1 := vtB_five (n := rN.toNat) (by omega)
          have z2 := vtB_five (n := rG.toNat) (by omega)
          obtain ⟨V1, hV1⟩ : ∃ V, vtB rN.toNat = V := ⟨_, rfl⟩
          obtain ⟨V2, hV2⟩ : ∃ V, vtB rG.toNat = V := ⟨_, rfl⟩
          rw [hV1] at HL1 z1 HS
          rw [hV2] at HL2 z2 HS
          clear hV1 hV2
          obtain ⟨B1, hB1⟩ : ∃ B, BD (i + 1) = B := ⟨_, rfl⟩
          rw [hB1] at HS
          have HB1 := Lib.hid hB1
          clear hB1
          generalize BD i = B0 at HS hbl
          have ad1 := fun wx => run_string_add_sum (P := Tryd.prog) (w := wx) B0 V1 (by omega)
          have y1 : (B0 ++ V1).size ≤ 1000 := by rw [ByteArray.size_append]; omega
          obtain ⟨U1, hU1⟩ : ∃ U, B0 ++ V1 = U := ⟨_, rfl⟩
          rw [hU1] at ad1 y1 HS
          have ad2 := fun wx => run_string_add_sum (P := Tryd.prog) (w := wx) U1 V2 (by omega)
          obtain ⟨U2, hU2⟩ : ∃ U, U1 ++ V2 = U := ⟨_, rfl⟩
          rw [hU2] at ad2 HS
          clear hU1 hU2 y1 z1 z2
          have hi0 : (0 : Int) ≤ (i : Int) := by omega
          have hi1 : (i : Int) < (n : Int) := by omega
          have kk : Below W.heap.size W wr.drew := bq.drew
          obtain ⟨gp, op, rfl, _, _⟩ := HROW.out _ bw
          have HX : Hid (∀ X, Below W.heap.size W X → (X.cell? ⟨g, 4, none⟩ = some (.slice (some ⟨gp, op, none⟩) n cap) ∧ X.cell? ⟨gp, op + i * 2, none⟩ = some (.int .i64 rN) ∧ X.cell? ⟨gp, op + i * 2 + 1, none⟩ = some (.int .i64 rG))) := fun X hX => by
            obtain ⟨⟨_, _, _, _, e4⟩, bX⟩ := HC.out X hX
            obtain ⟨_, _, e0, q0, q1⟩ := HROW.out X bX
            cases e0
            exact ⟨e4, q0, q1⟩
          obtain ⟨d0, d1, d2⟩ := HX.out _ kk
          go_upto_region 7 with fail
          clear HR HIN HST HBD HSE HDE HROW HZ HE c0 c1 c2 c3 c4 bq bw
          go_region_held3 (fun X => X.cell? ⟨g, 4, none⟩ = some (.slice (some ⟨gp, op, none⟩) n cap) ∧ X.cell? ⟨gp, op + i * 2, none⟩ = some (.int .i64 rN) ∧ X.cell? ⟨gp, op + i * 2 + 1, none⟩ = some (.int .i64 rG))
            (first | exact HX.out _ kk)
            (first
              | (go_at_call 22; first
                | (with_reducible refine (HL1.out _).mono ?_; rintro e wX ⟨rfl, kX⟩; have kk := kk.trans (kX.mono kk.size); clear kX)
                | (with_reducible refine (HL2.out _).mono ?_; rintro e wX ⟨rfl, kX⟩; have kk := kk.trans (kX.mono kk.size); clear kX)))
          all_goals
            clear d0 d1 d2
            go_wp2_with fail
            go_roundw
            case rel => exact ⟨i + 1, by omega, by go_num, by rw [HB1.out, HS.out], kk⟩
            case measure => simp [intOf]; omega
        · have hge : ¬ (i : Int) < (n : Int) := by omega
          have hin : i = n := by omega
          obtain ⟨s1, s2, s3⟩ := HSE.out HOK.out
          rw [hin] at hge ⊢
          obtain ⟨hd1, hd2⟩ := HDE.out
          obtain ⟨BN, hBN⟩ : ∃ B, BD n = B := ⟨_, rfl⟩
          rw [hBN] at s1 hd1 ⊢
          have HSEL := Lib.hid (seT_yes (s := BN) (by omega))
          rw [← hd1] at HSEL
          have HSS := Lib.hid (fun x => specSealed_any BN x (by omega))
          have HSH := Lib.hid (fun x => specShortB_any SE x (by omega))
          rw [← hd2] at HSH
          have h128 : ¬ (128 : Int) < (TX.size : Int) := by omega
          have HBW := Lib.hid bw
          clear hd1 hd2 hBN bq bw s1 s2 hin HSE HDE HBD HIN HST HZ
          go_wp2_with (first
            | (go_at_call 23; refine (HSS.out _).mono ?_; rintro e w8 ⟨rfl, k8⟩; rw [HSEL.out])
            | (go_at_call 24; refine (HSH.out _).mono ?_; rintro e w9 ⟨rfl, k9⟩))
          go_ret2
          have bE := (HBW.out.trans (k8.mono HBW.out.size)).trans (k9.mono (HBW.out.trans (k8.mono HBW.out.size)).size)
          exact ⟨by rw [HE.out]; rfl, by first | exact bE | (rw [← HG.out]; exact bE)⟩

end Go.Proofs.YtlnpegknjhbdnaaDoor
