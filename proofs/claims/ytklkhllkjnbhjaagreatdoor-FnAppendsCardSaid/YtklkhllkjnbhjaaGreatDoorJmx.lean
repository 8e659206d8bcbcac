/- Texts of our own, joined. -/
import Derived.Test.YtklkhllkjnbhjaaGreatDoorJlx
import Derived.Test.YtklkhllkjnbhjaaGreatDoorJg
import Derived.Test.YtklkhllkjnbhjaaGreatDoorJdx
import Derived.Test.YtklkhllkjnbhjaaGreatDoorJr
import Derived.Test.YtklkhllkjnbhjaaGreatDoorJq
import Derived.Test.YtklkhllkjnbhjaaGreatDoorJax
/- A log that is drawn out of a code: the model's DrawLog. -/
namespace Go.Proofs.YtklkhllkjnbhjaaGreatDoor
open Go.RowKit
set_option maxRecDepth 100000
set_option maxHeartbeats 8000000
def DlR (w : World) (e : Ending) (w' : World) : Prop :=
  ∃ (L : Lg) (k : Nat) (va vb vu : Value) (hs : List SgH), k ≤ 33 ∧ LgN L k ∧ e = .returned (.agg #[va, vb, .int .i64 L.segs, vu, .int .i64 L.ng, .int .i64 L.ns, .int .i64 L.st, .int .i64 L.nv]) ∧ LgP w.heap.size w'.heap.size w' va vb vu L hs ∧ Below w.heap.size w w'
theorem drawLog_any (a : Option Addr) (len cap : Nat) (w : World) (hcode : CodeIn w a len) (hs : len ≤ 1048576) :
    Calls Tryz.prog 6 #[.slice a len cap] w fun e w' => DlR w e w' := by
  have X0 := Box.new w #[.slice none 0 0, .slice none 0 0, .int .i64 0, .slice none 0 0, .int .i64 0, .int .i64 0, .int .i64 0, .int .i64 0] 30; have b0 := belNew w (.cells #[.slice none 0 0, .slice none 0 0, .int .i64 0, .slice none 0 0, .int .i64 0, .int .i64 0, .int .i64 0, .int .i64 0] 30); have hc0 := hcode.later b0; go_enter Tryz.func6, Tryz.ntmps6
  go_wp2_with fail
  obtain ⟨W, hW⟩ : ∃ W, w.alloc (.cells #[.slice none 0 0, .slice none 0 0, .int .i64 0, .slice none 0 0, .int .i64 0, .int .i64 0, .int .i64 0, .int .i64 0] 30) = W := ⟨_, rfl⟩; obtain ⟨g0, hg0⟩ : ∃ g0, w.heap.size = g0 := ⟨_, rfl⟩; rw [hW] at X0 b0 hc0 ⊢; rw [hg0] at X0 ⊢; have HG0 := Lib.hid hg0; clear hW hcode hg0; refine (new_any a len cap _ hc0 hs).mono ?_; rintro e w1 ⟨pc, hp, rfl, hc1, hb1⟩; have X1 := X0.later hb1; have b1 := b0.trans (hb1.mono b0.size); have hlt := X0.lt; clear X0 b0 hc0; go_wp2_with fail
  refine (l09Log_any pc a len cap _ hc1).mono ?_; rintro e w2 ⟨L, k, va, vb, vu, hs, hk, hN, rfl, P, hc2, hg2⟩; obtain ⟨aa, ab, au, ca, cb, cu, rfl, rfl, rfl⟩ := P.form; have X2 := X1.cur hg2 (by omega); obtain ⟨r0, r1, r2, r3, r4, r5, r6, r7, f0, f1, f2, f3, f4, f5, f6, f7⟩ := X2.eightL; have RX := X2.set8L (.slice aa L.d.sec.length ca) (.slice ab L.d.cache.length cb) (.int .i64 L.segs) (.slice au L.used.length cu) (.int .i64 L.ng) (.int .i64 L.ns) (.int .i64 L.st) (.int .i64 L.nv); obtain ⟨u0, u1, u2, u3, u4, u5, u6, u7, _⟩ := RX.eightL; have HFIN : Hid (DlR w (.returned (.agg #[.slice aa L.d.sec.length ca, .slice ab L.d.cache.length cb, .int .i64 L.segs, .slice au L.used.length cu, .int .i64 L.ng, .int .i64 L.ns, .int .i64 L.st, .int .i64 L.nv])) (set8L w2 g0 (.slice aa L.d.sec.length ca) (.slice ab L.d.cache.length cb) (.int .i64 L.segs) (.slice au L.used.length cu) (.int .i64 L.ng) (.int .i64 L.ns) (.int .i64 L.st) (.int .i64 L.nv))) := by
    have hg8 := grown_set8L w2 g0 (.slice aa L.d.sec.length ca) (.slice ab L.d.cache.length cb) (.int .i64 L.segs) (.slice au L.used.length cu) (.int .i64 L.ng) (.int .i64 L.ns) (.int .i64 L.st) (.int .i64 L.nv); have hgw := HG0.out; have hz1 := hb1.size; have b2 : Below w.heap.size w w2 := below_of_new' b1 (by omega) hg2; refine ⟨L, k, _, _, _, hs, hk, hN, rfl, ?_, below_set8L b2 (by omega) _ _ _ _ _ _ _ _⟩; exact (P.stay hg8.size (fun q h1 h2 => hg8.block q h2 (fun e => by have := Option.some.inj e; omega))).widen b1.size hg8.size (Nat.le_refl _)
  unfold set8L at u0 u1 u2 u3 u4 u5 u6 u7 HFIN; have HU := Lib.hid (And.intro u0 (And.intro u1 (And.intro u2 (And.intro u3 (And.intro u4 (And.intro u5 (And.intro u6 u7))))))); clear RX X2 X1 u0 u1 u2 u3 u4 u5 u6 u7 P hc1 hc2 hg2 hb1 b1 hN; go_wp2_with fail
  obtain ⟨u0, u1, u2, u3, u4, u5, u6, u7⟩ := HU.out; refine bodyPost_ret (v := .agg #[.slice aa L.d.sec.length ca, .slice ab L.d.cache.length cb, .int .i64 L.segs, .slice au L.used.length cu, .int .i64 L.ng, .int .i64 L.ns, .int .i64 L.st, .int .i64 L.nv]) (by simp [results, Tryz.results6, go_sem, u0, u1, u2, u3, u4, u5, u6, u7]) rfl ?_; exact HFIN.out

/- A log copied: the program's copySegs. -/
theorem cloneG_any (l : List SgH) (v : Value) (w : World) (h : Rows' sgE w v l) (hl : l.length ≤ 1073741824) :
    Calls Tryz.prog 100 #[v] w fun e w' => ∃ v', e = .returned v' ∧ RBuf sgE w.heap.size w w' v' l := by
  have q : ∀ (w : World) (a : Option Addr) (n c n' c' : Nat), (binOp .eql 28 (.slice a n c) (.slice none n' c')).run Tryz.prog w = .ok (.bool a.isNone) w := fun w a n c n' c' => Lib.run_eql_slice_nil w _ _ a n c n' c' Tryz.underlying28; have hv : ∃ (a : Option Addr) (c : Nat), v = .slice a l.length c ∧ (a = none → l = []) := by
    rcases h with ⟨rfl, a, c, rfl⟩ | ⟨g, off, cap, rfl, _⟩
    · exact ⟨a, c, rfl, fun _ => rfl⟩
    · exact ⟨_, _, rfl, fun e => by cases e⟩
  obtain ⟨a, c, rfl, hn⟩ := hv; cases a with
  | none =>
    obtain rfl := hn rfl; clear h hn; go_enter Tryz.func100, Tryz.ntmps100
    go_wp2; go_ret; exact ⟨_, rfl, RBuf.nil sgE w⟩
  | some p =>
    clear hn; have hb := (RBuf.fresh sgE w).here; have hx := Lib.hid (h.later (belNew w (.cells #[] sgE.ty))); clear h; go_enter Tryz.func100, Tryz.ntmps100
    go_wp2_with (at_builtin; refine wpList_append_rd rfl _ _ sgE rfl w.heap.size _ [] rfl hb _ l rfl hx.out (by simp [sgE]; omega) ?_; intro v1 w1 r1 g1 _; obtain ⟨a1, c1, rfl⟩ := r1.form)
    go_ret; rw [List.nil_append] at r1; exact ⟨_, rfl, ⟨r1.own, ((Below.refl w.heap.size w).alloc (Nat.le_refl _) _).grown g1 (by simp) (fun k hk => by have : w.heap.size = k := Option.some.inj hk; omega), r1.le⟩⟩
structure CpG (B : Nat) (W : World) (bs : List Sg) (hs0 : List SgH) (i : Nat) (wr : World) (g cap : Nat) (hs : List SgH) : Prop where
  row : RBuf sgE B W wr (.slice (some ⟨g, 0, none⟩) hs.length cap) hs
  len : hs.length = bs.length
  old : ∀ j, i ≤ j → hs[j]? = hs0[j]?
  new : ∀ (j : Nat) (h : SgH) (b : Sg), j < i → hs[j]? = some h → bs[j]? = some b → (h.no = b.no ∧ h.gen = b.gen ∧ h.ende = b.ende) ∧ RBuf itE (g + 1) wr wr h.mv b.items
  apart : ∀ (j k : Nat) (h h' : SgH), j < i → k < i → hs[j]? = some h → hs[k]? = some h' → j ≠ k → ∀ q, h.mv.ownBlock = some q → h'.mv.ownBlock ≠ some q
theorem CpG.start {B : Nat} {W wr : World} {bs : List Sg} {hs : List SgH} {g cap : Nat} (h : RBuf sgE B W wr (.slice (some ⟨g, 0, none⟩) hs.length cap) hs) (hl : hs.length = bs.length) : CpG B W bs hs 0 wr g cap hs :=
  ⟨h, hl, fun _ _ => rfl, fun _ _ _ hj => by omega, fun _ _ _ _ hj => by omega⟩
theorem CpG.step {B : Nat} {W wr w2 : World} {bs : List Sg} {hs0 hs : List SgH} {i g cap : Nat} (h : CpG B W bs hs0 i wr g cap hs) {x : SgH} {b : Sg} (hx : hs[i]? = some x) (hb : bs[i]? = some b) (he : x.no = b.no ∧ x.gen = b.gen ∧ x.ende = b.ende)
    (a2 : Option Addr) (n2 c2 : Nat) (hr : RBuf itE wr.heap.size wr w2 (.slice a2 n2 c2) b.items) : CpG B W bs hs0 (i + 1) (w2.setCell ⟨g, i * 4 + 3, none⟩ (.slice a2 n2 c2)) g cap (hs.set i ⟨x.no, x.gen, x.ende, a2, n2, c2⟩) := by
  have hil : i < hs.length := (List.getElem?_eq_some_iff.1 hx).1; have hg : g < wr.heap.size := (h.row.own.lt g rfl).2; have hk2 := hr.bel; have hg4 := stored_grown w2 g (i * 4 + 3) (.slice a2 n2 c2); have hst := (h.row.later hk2).stored i x ⟨x.no, x.gen, x.ende, a2, n2, c2⟩ hx 3 (by decide) (.slice a2 n2 c2) rfl; have hl : (hs.set i (⟨x.no, x.gen, x.ende, a2, n2, c2⟩ : SgH)).length = hs.length := by simp
  have hown : ∀ (j : Nat) (y : SgH) (c : Sg), j < i → hs[j]? = some y → bs[j]? = some c → ∀ q, y.mv.ownBlock = some q → g + 1 ≤ q ∧ q < wr.heap.size := fun j y c h1 h2 h3 q hq => (h.new j y c h1 h2 h3).2.own.lt q hq; have hnw : ∀ q, (Value.slice a2 n2 c2).ownBlock = some q → wr.heap.size ≤ q := fun q hq => (hr.own.lt q hq).1; refine ⟨by rw [hl]; exact hst, by rw [hl]; exact h.len, fun j hj => ?_, fun j y c h1 h2 h3 => ?_, fun j k y z h1 h2 h3 h4 hjk q hq => ?_⟩
  · rw [List.getElem?_set_ne (by omega)]
    exact h.old j (by omega)
  · by_cases c1 : j = i
    · subst c1
      rw [List.getElem?_set_self hil] at h2; cases h2
      rw [hb] at h3; cases h3
      refine ⟨he, ?_⟩; have h6 : RBuf itE (g + 1) w2 w2 (.slice a2 n2 c2) b.items := hr.down (Below.refl _ _) (by omega); exact h6.shift hg4 (by
        cases ho : (Value.slice a2 n2 c2).ownBlock with
        | none => exact .inl rfl
        | some q => exact .inr (fun e => by have := Option.some.inj e; have := hnw q ho; omega))
    · rw [List.getElem?_set_ne (fun e => c1 e.symm)] at h2
      obtain ⟨p1, p2⟩ := h.new j y c (by omega) h2 h3; refine ⟨p1, (p2.later hk2).here.shift hg4 ?_⟩; cases ho : y.mv.ownBlock with
      | none => exact .inl rfl
      | some q => exact .inr (fun e => by have := Option.some.inj e; have := hown j y c (by omega) h2 h3 q ho; omega)
  · have hbl : ∀ t, t < hs.length → ∃ c, bs[t]? = some c := fun t ht => ⟨_, List.getElem?_eq_getElem (by rw [← h.len]; exact ht)⟩
    by_cases c1 : j = i
    · subst c1
      rw [List.getElem?_set_self hil] at h3; cases h3
      rw [List.getElem?_set_ne (by omega)] at h4; obtain ⟨c, hc⟩ := hbl k (List.getElem?_eq_some_iff.1 h4).1; intro e; have := hown k z c (by omega) h4 hc q e; have := hnw q hq; omega
    · rw [List.getElem?_set_ne (fun e => c1 e.symm)] at h3
      obtain ⟨c, hc⟩ := hbl j (List.getElem?_eq_some_iff.1 h3).1; have hjq := hown j y c (by omega) h3 hc q hq; by_cases c2' : k = i
      · subst c2'
        rw [List.getElem?_set_self hil] at h4; cases h4
        intro e; have := hnw q e; omega
      · rw [List.getElem?_set_ne (fun e => c2' e.symm)] at h4
        exact h.apart j k y z (by omega) (by omega) h3 h4 hjk q hq
theorem CpG.done {B : Nat} {W wr : World} {bs : List Sg} {hs0 hs : List SgH} {g cap : Nat} (h : CpG B W bs hs0 bs.length wr g cap hs) : GOwn B wr.heap.size wr (.slice (some ⟨g, 0, none⟩) hs.length cap) bs hs := by
  have hgB : B ≤ g := (h.row.own.lt g rfl).1; have hbl : ∀ t, t < hs.length → ∃ c, bs[t]? = some c := fun t ht => ⟨_, List.getElem?_eq_getElem (by rw [← h.len]; exact ht)⟩; refine SgO.gown ⟨h.row.here, h.len, fun j x b h1 h2 => ?_, fun j x h1 k hk e => ?_, fun i j x y h1 h2 hij k hk => ?_⟩
  · obtain ⟨p1, p2⟩ := h.new j x b (by have := (List.getElem?_eq_some_iff.1 h2).1; omega) h1 h2
    exact ⟨p1, p2.down (Below.refl _ _) (by omega)⟩
  · obtain ⟨c, hc⟩ := hbl j (List.getElem?_eq_some_iff.1 h1).1
    obtain ⟨_, p2⟩ := h.new j x c (by have := (List.getElem?_eq_some_iff.1 hc).1; omega) h1 hc; have := (p2.own.lt k hk).1; have e1 : g = k := Option.some.inj e; omega
  · have h3 := (List.getElem?_eq_some_iff.1 h1).1
    have h4 := (List.getElem?_eq_some_iff.1 h2).1; exact h.apart i j x y (by rw [← h.len]; exact h3) (by rw [← h.len]; exact h4) h1 h2 hij k hk
theorem copySegs_any (bs : List Sg) (v : Value) (w : World) (h : GRd w v bs) (hl : bs.length ≤ 1048576) (hil : ∀ b ∈ bs, b.items.length ≤ 1048576) (hz : ∀ b ∈ bs, ∀ x ∈ b.items, x.2.user.size ≤ 1048576 ∧ x.2.name.size ≤ 1048576 ∧ x.2.text.size ≤ 1048576) :
    Calls Tryz.prog 72 #[v] w fun e w' => ∃ v' hs, e = .returned v' ∧ GOwn w.heap.size w'.heap.size w' v' bs hs ∧ Below w.heap.size w w' := by
  obtain ⟨hs0, hr, hlen, hat⟩ := h; have HC := Lib.hid (cloneG_any hs0 v w hr (by omega)); have HAT := Lib.hid hat
  have HZ := Lib.hid hz; have HIL := Lib.hid hil; obtain ⟨ad, cap, rfl⟩ : ∃ (a : Option Addr) (cap : Nat), v = .slice a hs0.length cap := by
    rcases hr with ⟨e, a, c, rfl⟩ | ⟨g, off, c, rfl, _⟩
    · exact ⟨a, c, by rw [e]; rfl⟩
    · exact ⟨_, c, rfl⟩
  have HLN := Lib.hid hlen; clear hr hat hz hil hlen; go_enter Tryz.func72, Tryz.ntmps72
  go_wp2_with fail
  refine HC.out.mono ?_; rintro e w1 ⟨v1, rfl, R1⟩; clear HC; have hlen := HLN.out; by_cases h0 : bs.length = 0
  · have hb0 : bs = [] := List.length_eq_zero_iff.1 h0
    have hh0 : hs0 = [] := List.length_eq_zero_iff.1 (by omega); subst hb0 hh0; obtain ⟨a1, c1, rfl⟩ := R1.form; have HZZ : Hid (GOwn w.heap.size w1.heap.size w1 (.slice a1 0 c1) [] [] ∧ Below w.heap.size w w1) := ⟨SgO.gown ⟨R1.here, rfl, fun j x b h1 => (by cases h1), fun j x h1 => (by cases h1), fun i j x y h1 => (by cases h1)⟩, R1.bel⟩; clear R1; go_wp2; go_loopw [9] (fun iv wr => iv = .int .i64 0 ∧ wr = w1) (fun _ _ => 0)
    case atStart => exact ⟨rfl, rfl⟩
    case round =>
      obtain ⟨rfl, rfl⟩ := hrel; go_wp2; go_ret; exact ⟨_, _, rfl, HZZ.out.1, HZZ.out.2⟩
  have hn0 : 0 < hs0.length := by omega
  obtain ⟨g, c1, rfl⟩ : ∃ g c1, v1 = .slice (some ⟨g, 0, none⟩) hs0.length c1 := by
    rcases R1.own.2 with ⟨_, h2⟩ | ⟨g, cp, cur, hv, _⟩
    · omega
    · exact ⟨g, cp, hv⟩
  have I0 := Lib.hid (CpG.start (bs := bs) R1 hlen); have HB1 := Lib.hid R1.bel; obtain ⟨n, hn⟩ : ∃ n, hs0.length = n := ⟨_, rfl⟩; have HN := Lib.hid hn; have HBL : Hid (bs.length = n) := by show _ = _; omega
  rw [hn] at hn0 ⊢; have hnl : n ≤ 1048576 := by omega
  clear R1 h0 hl hlen hn; go_wp2_with fail
  go_loopw [9] (fun iv wr => ∃ (i : Nat) (hs : List SgH), i ≤ n ∧ iv = .int .i64 (i : Int) ∧ Hid (CpG w.heap.size w bs hs0 i wr g c1 hs)) (fun iv _ => n - (intOf iv).toNat)
  case atStart => exact ⟨0, hs0, by omega, rfl, I0⟩
  case round =>
    clear I0; obtain ⟨i, hs, hi, rfl, HI⟩ := hrel; by_cases hlt : i < n
    · obtain ⟨b, hgb⟩ : ∃ b, bs[i]? = some b := ⟨_, List.getElem?_eq_getElem (by rw [HBL.out]; exact hlt)⟩
      obtain ⟨x, hgx⟩ : ∃ x, hs0[i]? = some x := ⟨_, List.getElem?_eq_getElem (by rw [HN.out]; exact hlt)⟩; have hgy : hs[i]? = some x := (HI.out.old i (Nat.le_refl _)).trans hgx; obtain ⟨he, hri⟩ := HAT.out i x b hgx hgb; have bw := HI.out.row.bel; have HCI := Lib.hid (copyItems_any b.items _ wr (hri.later bw) (HIL.out b (List.mem_of_getElem? hgb)) (HZ.out b (List.mem_of_getElem? hgb))); have hc3 := HI.out.row.cell rfl i _ hgy 3 _ rfl; change wr.cell? ⟨g, i * 4 + 3, none⟩ = some (.slice x.a x.n x.c) at hc3; have HSTEP : Hid (∀ (w2 : World) (a2 : Option Addr) (n2 c2 : Nat), RBuf itE wr.heap.size wr w2 (.slice a2 n2 c2) b.items → CpG w.heap.size w bs hs0 (i + 1) (w2.setCell ⟨g, i * 4 + 3, none⟩ (.slice a2 n2 c2)) g c1 (hs.set i ⟨x.no, x.gen, x.ende, a2, n2, c2⟩)) := fun w2 a2 n2 c2 hr => HI.out.step hgy hgb he a2 n2 c2 hr; have HCELL : Hid (∀ w2, Below wr.heap.size wr w2 → w2.cell? ⟨g, i * 4 + 3, none⟩ = some (.slice x.a x.n x.c) ∧ w2.frozen? ⟨g, i * 4 + 3, none⟩ = false) := fun w2 hb2 => by
        have h8 := HI.out.row.later hb2; have h9 := h8.cell rfl i _ hgy 3 _ rfl; exact ⟨h9, h8.loose _⟩
      have hi0 : (0 : Int) ≤ (i : Int) := (by omega); have hi1 : (i : Int) < (n : Int) := (by omega); unfold SgH.mv at HCI; clear hgb hgx hgy he hri bw HI; go_wp2_with fail
      clear hc3; refine HCI.out.mono ?_; rintro e w2 ⟨v2, rfl, R2⟩; obtain ⟨a2, c2, rfl⟩ := R2.form; obtain ⟨c3, f3⟩ := HCELL.out w2 R2.bel; have HS2 := Lib.hid (HSTEP.out w2 _ _ _ R2); clear HCI HSTEP HCELL R2; go_wp2; exact ⟨⟨i + 1, _, by omega, by simp, HS2⟩, by first | omega | (simp [intOf]; omega)⟩
    · have hin : i = bs.length := by have := HBL.out; omega
      have hd := HI.out; rw [hin] at hd; have hz1 : hs.length = n := (by rw [hd.len]; exact HBL.out); have HD := Lib.hid hd.done; have HBB := Lib.hid hd.row.bel; rw [hz1] at HD; clear hd hin hz1 HI; go_wp2; go_ret; exact ⟨_, _, rfl, HD.out, HBB.out⟩

/- A log that was opened is closed again: closed of the program. -/
theorem closed_any (aa ab au : Option Addr) (n1 n2 n3 ca cb cu : Nat) (segs ng ns st nv : Int) (pg : Nat) (w : World) (hb : Box w pg #[.slice aa n1 ca, .slice ab n2 cb, .int .i64 segs, .slice au n3 cu, .int .i64 ng, .int .i64 ns, .int .i64 st, .int .i64 nv] 104) :
    Calls Tryz.prog 45 #[.pointer (some ⟨pg, 0, none⟩)] w fun e w' => e = .returned (.agg #[.slice aa n1 ca, .slice ab n2 cb, .int .i64 segs, .slice au n3 cu, .int .i64 ng, .int .i64 ns, .int .i64 st, .int .i64 nv]) ∧ Below w.heap.size w w' := by
  have b1 := belNew w (.cells #[.slice none 0 0, .slice none 0 0, .int .i64 0, .slice none 0 0, .int .i64 0, .int .i64 0, .int .i64 0, .int .i64 0] 30); have XR := Box.new w #[.slice none 0 0, .slice none 0 0, .int .i64 0, .slice none 0 0, .int .i64 0, .int .i64 0, .int .i64 0, .int .i64 0] 30; have BP := hb.later b1; have HNE : Hid (pg ≠ w.heap.size) := by have := hb.lt; show _ ≠ _; omega
  clear hb; go_enter Tryz.func45, Tryz.ntmps45
  go_upto_region 1 with fail
  generalize w.alloc (.cells #[.slice none 0 0, .slice none 0 0, .int .i64 0, .slice none 0 0, .int .i64 0, .int .i64 0, .int .i64 0, .int .i64 0] 30) = w1 at b1 XR BP ⊢; refine wp_region_held_drew (S := fun x => Box x pg #[.slice aa n1 ca, .slice ab n2 cb, .int .i64 segs, .slice au n3 cu, .int .i64 ng, .int .i64 ns, .int .i64 st, .int .i64 nv] 104) (by kernel_rfl) BP (fun hHeld => ?_); refine tk 0 (.pointer (some ⟨pg, 0, none⟩)) rfl (by kernel_rfl) (fun _ _ _ h => h) (by rfl) (fun x hSx => by go_simp) (by assumption) ?_; (try simp only [pu1, pu3, pu4, pu5]); refine tk 1 (.pointer (some ⟨pg, 0, none⟩)) rfl (by kernel_rfl) (fun _ _ _ h => h) (by rfl) (fun x hSx => by go_simp) (by assumption) ?_; (try simp only [pu1, pu3, pu4, pu5]); refine tk 2 (.pointer (some ⟨pg, 0, none⟩)) rfl (by kernel_rfl) (fun _ _ _ h => h) (by rfl) (fun x hSx => by go_simp) (by assumption) ?_; (try simp only [pu1, pu3, pu4, pu5]); refine tk 3 (.agg #[.slice aa n1 ca, .slice ab n2 cb]) rfl (by kernel_rfl) (fun _ _ _ h => h) (by rfl) (fun x hSx => by obtain ⟨b0, b1, b2, b3, b4, b5, b6, b7⟩ := Box.eightO hSx; go_simp) (by assumption) ?_; (try simp only [pu1, pu3, pu4, pu5]); refine tk 4 (.pointer (some ⟨pg, 0, none⟩)) rfl (by kernel_rfl) (fun _ _ _ h => h) (by rfl) (fun x hSx => by go_simp) (by assumption) ?_; (try simp only [pu1, pu3, pu4, pu5]); refine tk 5 (.pointer (some ⟨pg, 0, none⟩)) rfl (by kernel_rfl) (fun _ _ _ h => h) (by rfl) (fun x hSx => by go_simp) (by assumption) ?_; (try simp only [pu1, pu3, pu4, pu5]); refine tk 6 (.pointer (some ⟨pg, 2, none⟩)) rfl (by kernel_rfl) (fun _ _ _ h => h) (by rfl) (fun x hSx => by go_simp) (by assumption) ?_; (try simp only [pu1, pu3, pu4, pu5]); refine tk 7 (.int .i64 segs) rfl (by kernel_rfl) (fun _ _ _ h => h) (by rfl) (fun x hSx => by obtain ⟨b0, b1, b2, b3, b4, b5, b6, b7⟩ := Box.eightO hSx; go_simp) (by assumption) ?_; (try simp only [pu1, pu3, pu4, pu5]); refine tk 8 (.pointer (some ⟨pg, 0, none⟩)) rfl (by kernel_rfl) (fun _ _ _ h => h) (by rfl) (fun x hSx => by go_simp) (by assumption) ?_; (try simp only [pu1, pu3, pu4, pu5]); refine tk 9 (.pointer (some ⟨pg, 0, none⟩)) rfl (by kernel_rfl) (fun _ _ _ h => h) (by rfl) (fun x hSx => by go_simp) (by assumption) ?_; (try simp only [pu1, pu3, pu4, pu5]); refine tk 10 (.pointer (some ⟨pg, 3, none⟩)) rfl (by kernel_rfl) (fun _ _ _ h => h) (by rfl) (fun x hSx => by go_simp) (by assumption) ?_; (try simp only [pu1, pu3, pu4, pu5]); refine tk 11 (.slice au n3 cu) rfl (by kernel_rfl) (fun _ _ _ h => h) (by rfl) (fun x hSx => by obtain ⟨b0, b1, b2, b3, b4, b5, b6, b7⟩ := Box.eightO hSx; go_simp) (by assumption) ?_; (try simp only [pu1, pu3, pu4, pu5]); refine tk 12 (.pointer (some ⟨pg, 0, none⟩)) rfl (by kernel_rfl) (fun _ _ _ h => h) (by rfl) (fun x hSx => by go_simp) (by assumption) ?_; (try simp only [pu1, pu3, pu4, pu5]); refine tk 13 (.pointer (some ⟨pg, 0, none⟩)) rfl (by kernel_rfl) (fun _ _ _ h => h) (by rfl) (fun x hSx => by go_simp) (by assumption) ?_; (try simp only [pu1, pu3, pu4, pu5])
  refine tk 14 (.pointer (some ⟨pg, 4, none⟩)) rfl (by kernel_rfl) (fun _ _ _ h => h) (by rfl) (fun x hSx => by go_simp) (by assumption) ?_; (try simp only [pu1, pu3, pu4, pu5]); refine tk 15 (.int .i64 ng) rfl (by kernel_rfl) (fun _ _ _ h => h) (by rfl) (fun x hSx => by obtain ⟨b0, b1, b2, b3, b4, b5, b6, b7⟩ := Box.eightO hSx; go_simp) (by assumption) ?_; (try simp only [pu1, pu3, pu4, pu5]); refine tk 16 (.pointer (some ⟨pg, 0, none⟩)) rfl (by kernel_rfl) (fun _ _ _ h => h) (by rfl) (fun x hSx => by go_simp) (by assumption) ?_; (try simp only [pu1, pu3, pu4, pu5]); refine tk 17 (.pointer (some ⟨pg, 0, none⟩)) rfl (by kernel_rfl) (fun _ _ _ h => h) (by rfl) (fun x hSx => by go_simp) (by assumption) ?_; (try simp only [pu1, pu3, pu4, pu5]); refine tk 18 (.pointer (some ⟨pg, 5, none⟩)) rfl (by kernel_rfl) (fun _ _ _ h => h) (by rfl) (fun x hSx => by go_simp) (by assumption) ?_; (try simp only [pu1, pu3, pu4, pu5]); refine tk 19 (.int .i64 ns) rfl (by kernel_rfl) (fun _ _ _ h => h) (by rfl) (fun x hSx => by obtain ⟨b0, b1, b2, b3, b4, b5, b6, b7⟩ := Box.eightO hSx; go_simp) (by assumption) ?_; (try simp only [pu1, pu3, pu4, pu5]); refine tk 20 (.pointer (some ⟨pg, 0, none⟩)) rfl (by kernel_rfl) (fun _ _ _ h => h) (by rfl) (fun x hSx => by go_simp) (by assumption) ?_; (try simp only [pu1, pu3, pu4, pu5]); refine tk 21 (.pointer (some ⟨pg, 0, none⟩)) rfl (by kernel_rfl) (fun _ _ _ h => h) (by rfl) (fun x hSx => by go_simp) (by assumption) ?_; (try simp only [pu1, pu3, pu4, pu5]); refine tk 22 (.pointer (some ⟨pg, 6, none⟩)) rfl (by kernel_rfl) (fun _ _ _ h => h) (by rfl) (fun x hSx => by go_simp) (by assumption) ?_; (try simp only [pu1, pu3, pu4, pu5]); refine tk 23 (.int .i64 st) rfl (by kernel_rfl) (fun _ _ _ h => h) (by rfl) (fun x hSx => by obtain ⟨b0, b1, b2, b3, b4, b5, b6, b7⟩ := Box.eightO hSx; go_simp) (by assumption) ?_; (try simp only [pu1, pu3, pu4, pu5]); refine tk 24 (.pointer (some ⟨pg, 0, none⟩)) rfl (by kernel_rfl) (fun _ _ _ h => h) (by rfl) (fun x hSx => by go_simp) (by assumption) ?_; (try simp only [pu1, pu3, pu4, pu5]); refine tk 25 (.pointer (some ⟨pg, 0, none⟩)) rfl (by kernel_rfl) (fun _ _ _ h => h) (by rfl) (fun x hSx => by go_simp) (by assumption) ?_; (try simp only [pu1, pu3, pu4, pu5]); refine tk 26 (.pointer (some ⟨pg, 7, none⟩)) rfl (by kernel_rfl) (fun _ _ _ h => h) (by rfl) (fun x hSx => by go_simp) (by assumption) ?_; (try simp only [pu1, pu3, pu4, pu5]); refine tk 27 (.int .i64 nv) rfl (by kernel_rfl) (fun _ _ _ h => h) (by rfl) (fun x hSx => by obtain ⟨b0, b1, b2, b3, b4, b5, b6, b7⟩ := Box.eightO hSx; go_simp) (by assumption) ?_; (try simp only [pu1, pu3, pu4, pu5]); refine tk 28 (.agg #[.slice aa n1 ca, .slice ab n2 cb, .int .i64 segs, .slice au n3 cu, .int .i64 ng, .int .i64 ns, .int .i64 st, .int .i64 nv]) rfl (by kernel_rfl) (fun _ _ _ h => h) (by rfl) (fun x hSx => by go_simp) (by assumption) ?_; (try simp only [pu1, pu3, pu4, pu5]); replace XR : Box w1.drew w.heap.size _ _ := XR; replace b1 : Below w.heap.size w w1.drew := b1.drew
  generalize w1.drew = Y0 at hHeld XR b1 ⊢; refine wpAnyH_ready (rs := [29]) (by kernel_rfl) (by simp) ?_; refine readyOne rfl (fun K' hK => ?_); obtain ⟨r0, r1, r2, r3, r4, r5, r6, r7, f0, f1, f2, f3, f4, f5, f6, f7⟩ := XR.eightL; go_simp; clear r0 r1 r2 r3 r4 r5 r6 r7 f0 f1 f2 f3 f4 f5 f6 f7; have RX := XR.set8L (.slice aa n1 ca) (.slice ab n2 cb) (.int .i64 segs) (.slice au n3 cu) (.int .i64 ng) (.int .i64 ns) (.int .i64 st) (.int .i64 nv); have BXX := below_set8L b1 (Nat.le_refl _) (.slice aa n1 ca) (.slice ab n2 cb) (.int .i64 segs) (.slice au n3 cu) (.int .i64 ng) (.int .i64 ns) (.int .i64 st) (.int .i64 nv); have HS8 : Box (set8L Y0 w.heap.size (.slice aa n1 ca) (.slice ab n2 cb) (.int .i64 segs) (.slice au n3 cu) (.int .i64 ng) (.int .i64 ns) (.int .i64 st) (.int .i64 nv)) pg #[.slice aa n1 ca, .slice ab n2 cb, .int .i64 segs, .slice au n3 cu, .int .i64 ng, .int .i64 ns, .int .i64 st, .int .i64 nv] 104 := ((grown_set8L Y0 w.heap.size (.slice aa n1 ca) (.slice ab n2 cb) (.int .i64 segs) (.slice au n3 cu) (.int .i64 ng) (.int .i64 ns) (.int .i64 st) (.int .i64 nv)).block pg hHeld.lt (fun e => HNE.out (Option.some.inj e))).trans hHeld; unfold set8L at RX BXX HS8; refine hK.out _ _ HS8 (fun hS2 => ?_); clear hK K' hS2 HS8; (try simp only [pu1, pu3, pu4, pu5]); refine wpAnyH_done (by kernel_rfl) ?_ _; obtain ⟨u0, u1, u2, u3, u4, u5, u6, u7⟩ := RX.eightO; have HBX := Lib.hid BXX; clear RX BXX XR hHeld b1; go_wp2; refine bodyPost_ret (v := .agg #[.slice aa n1 ca, .slice ab n2 cb, .int .i64 segs, .slice au n3 cu, .int .i64 ng, .int .i64 ns, .int .i64 st, .int .i64 nv]) (by simp [results, Tryz.results45, go_sem, u0, u1, u2, u3, u4, u5, u6, u7]) rfl ?_; exact ⟨rfl, HBX.out⟩
end Go.Proofs.YtklkhllkjnbhjaaGreatDoor
