/- Texts of our own, joined. -/
import Derived.Test.YtahebgceoidebaaGreatJl
import Derived.Test.YtahebgceoidebaaGreatJj
import Derived.Test.YtahebgceoidebaaGreatJe
import Derived.Test.YtahebgceoidebaaGreatJb
import Derived.Test.YtahebgceoidebaaGreatJc
import Derived.Test.YtahebgceoidebaaGreatJd
import Derived.Laws.StructEq
import Derived.Test.YtahebgceoidebaaGreatJi
import Derived.Test.YtahebgceoidebaaGreatJf
import Derived.WalkSmall
/- The helpers of the exact laws over boxes and states: each is marked, and the marks are held. -/
namespace Go.Proofs.YtahebgceoidebaaGreat
open Go.RowKit

theorem set_ways {α : Type} {l : List α} {i j : Nat} {y z : α} (h : (l.set i y)[j]? = some z) : (j = i ∧ z = y) ∨ (j ≠ i ∧ l[j]? = some z) := by
  by_cases c : j = i
  · subst c
    have hl : j < l.length := by have := (List.getElem?_eq_some_iff.1 h).1; simpa using this
    rw [List.getElem?_set_self hl] at h
    exact .inl ⟨rfl, (Option.some.inj h).symm⟩
  · rw [List.getElem?_set_ne (fun e => c e.symm)] at h
    exact .inr ⟨c, h⟩

/-- One cell of a box's own put anew. -/
theorem StO.store {B : Nat} {w : World} {g n cap : Nat} {bs : List Bx} {hs : List BxH} (h : StO B w (.slice (some ⟨g, 0, none⟩) n cap) bs hs) (hn : n = hs.length) {i : Nat} {x : BxH} (hx : hs[i]? = some x) {b : Bx} (hb : bs[i]? = some b)
    (c : Nat) (hc : c < 5) (u : Value) (x' : BxH) (hf : hdE.f x' = (hdE.f x).set c u) (hmv : x'.mv = x.mv) (b' : Bx) (hb' : x'.valid = b'.valid ∧ x'.user = b'.user ∧ x'.name = b'.name ∧ x'.next = b'.next) (hm : b'.mails = b.mails) :
    StO B (w.setCell ⟨g, i * 5 + c, none⟩ u) (.slice (some ⟨g, 0, none⟩) n cap) (bs.set i b') (hs.set i x') := by
  subst hn
  have hg := grownBy_store w g (i * 5 + c) u
  have kept : ∀ (m : Value) (l : List Ml), RBuf mlE B w w m l → (∀ k, m.ownBlock = some k → (Value.slice (some ⟨g, 0, none⟩) hs.length cap).ownBlock ≠ some k) → RBuf mlE B (w.setCell ⟨g, i * 5 + c, none⟩ u) (w.setCell ⟨g, i * 5 + c, none⟩ u) m l := fun m l hm hf => by
    refine hm.shift hg ?_
    cases hmb : m.ownBlock with
    | none => exact .inl rfl
    | some k => exact .inr (fun e => hf k hmb e.symm)
  have hmvs : ∀ {j : Nat} {y : BxH}, (hs.set i x')[j]? = some y → ∃ z, hs[j]? = some z ∧ y.mv = z.mv := fun {j y} hj => by
    rcases set_ways hj with ⟨rfl, rfl⟩ | ⟨_, hj⟩
    · exact ⟨x, hx, hmv⟩
    · exact ⟨y, hj, rfl⟩
  refine ⟨(h.row.stored i x x' hx c hc u hf).here, by simp [h.len], fun j y d h1 h2 => ?_, fun j y h1 k hk => ?_, fun j k y z h1 h2 hjk q hq => ?_⟩
  · rcases set_ways h1 with ⟨rfl, rfl⟩ | ⟨hne, h1⟩
    · rcases set_ways h2 with ⟨_, rfl⟩ | ⟨hne, _⟩
      · refine ⟨hb', ?_⟩
        rw [hmv, hm]
        exact kept _ _ (h.at' j x b hx hb).2 (h.far j x hx)
      · exact absurd rfl hne
    · rcases set_ways h2 with ⟨e, _⟩ | ⟨_, h2⟩
      · exact absurd e hne
      · exact ⟨(h.at' j y d h1 h2).1, kept _ _ (h.at' j y d h1 h2).2 (h.far j y h1)⟩
  · obtain ⟨z, hz, e⟩ := hmvs h1
    rw [e] at hk
    exact h.far j z hz k hk
  · obtain ⟨y0, hy0, e1⟩ := hmvs h1
    obtain ⟨z0, hz0, e2⟩ := hmvs h2
    rw [e1] at hq
    rw [e2]
    exact h.apart j k y0 z0 hy0 hz0 hjk q hq

/-- The mails of a box put anew. -/
theorem StO.mails {B : Nat} {w w' : World} {v : Value} {bs : List Bx} {hs : List BxH} (h : StO B w v bs hs) {i : Nat} {x : BxH} (hx : hs[i]? = some x) {b : Bx} (hb : bs[i]? = some b) (ms : List Ml) (hr : RBuf mlE B w' w' x.mv ms) (hg : w.grownBy w' x.mv.ownBlock) :
    StO B w' v (bs.set i ⟨b.valid, b.user, b.name, b.next, ms⟩) hs := by
  refine ⟨h.row.shift hg ?_, by simp [h.len], fun j y d h1 h2 => ?_, h.far, h.apart⟩
  · cases hv : x.mv.ownBlock with
    | none =>
      cases hv2 : v.ownBlock with
      | none => exact .inl rfl
      | some k => exact .inr (fun e => by cases e)
    | some k => exact .inr (fun e => h.far i x hx k hv e)
  · rcases set_ways h2 with ⟨rfl, rfl⟩ | ⟨hne, h2⟩
    · rw [hx] at h1
      cases h1
      exact ⟨(h.at' j x b hx hb).1, hr⟩
    · refine ⟨(h.at' j y d h1 h2).1, (h.at' j y d h1 h2).2.shift hg ?_⟩
      cases hy : y.mv.ownBlock with
      | none => exact .inl rfl
      | some k => exact .inr (fun e => h.apart j i y x h1 hx hne k hy e.symm)

theorem StO.cellAt {B : Nat} {w : World} {g n cap : Nat} {bs : List Bx} {hs : List BxH} (h : StO B w (.slice (some ⟨g, 0, none⟩) n cap) bs hs) {i : Nat} {y : BxH} (hy : hs[i]? = some y) (hl : n = hs.length) (q : Nat) (u : Value) (hu : (hdE.f y)[q]? = some u) : w.cell? ⟨g, i * 5 + q, none⟩ = some u ∧ w.frozen? ⟨g, i * 5 + q, none⟩ = false := by
  subst hl
  exact ⟨h.row.cell rfl i y hy q u hu, h.row.loose _⟩



end Go.Proofs.YtahebgceoidebaaGreat

/- States: what the law on StateOf asks, given what the program's StateOf hands back. -/
namespace Go.Proofs.YtahebgceoidebaaGreat
open Go.RowKit

theorem upOf_all (f : Itm → Option Int) (l : List Itm) : (upOf f l).length ≤ l.length := by
  have := upOf_len f l l.length
  rwa [List.take_length] at this
/-- What is told is little. -/
theorem stateL_small (l : List Itm) : (stateL l).length ≤ 200 ∧ ∀ b ∈ stateL l, b.mails.length ≤ 200 := by
  unfold stateL
  by_cases h : itemsOk l
  · rw [if_pos h]
    have hl := h.2.2
    refine ⟨?_, fun b hb => ?_⟩
    · unfold tellAll
      rw [List.length_map]
      have := upOf_all (validK l) l
      omega
    · obtain ⟨v, _, rfl⟩ := List.mem_map.1 hb
      show (mailsOf v l).length ≤ 200
      unfold mailsOf
      rw [List.length_map]
      have := upOf_all (uidK v l) l
      omega
  · rw [if_neg h]
    exact ⟨by simp, fun b hb => by cases hb⟩
theorem kE_small : ∀ (k : Nat) (bs : List Bx), (∀ b ∈ bs, b.mails.length ≤ 200) → kE k bs ≤ k + 604 * bs.length
  | k, [], _ => by simp [kE]
  | k, b :: bs, h => by
    have h1 := kE_small (kB k b) bs (fun x hx => h x (List.mem_cons_of_mem _ hx))
    have h2 := h b (by simp)
    unfold kE
    unfold kB at *
    rw [List.length_cons]
    omega




end Go.Proofs.YtahebgceoidebaaGreat

/- What stays where its own block's cells stay, and where the blocks of boxes lie. -/
namespace Go.Proofs.YtahebgceoidebaaGreat
open Go.RowKit

/-- A list of the call's own stays where its block stays. -/
theorem RBuf.stay {α : Type} {E : Enc α} {B : Nat} {w w' : World} {v : Value} {l : List α} (h : RBuf E B w w v l) (hz : w.heap.size ≤ w'.heap.size) (hk : ∀ k, v.ownBlock = some k → w'.heap[k]? = w.heap[k]?) : RBuf E B w' w' v l := by
  refine ⟨⟨h.own.1, ?_⟩, Below.refl _ _, Nat.le_trans h.le hz⟩
  rcases h.own.2 with h0 | ⟨g, cap, cur, rfl, hg, hh, h1, h2, h3, h4⟩
  · exact .inl h0
  · exact .inr ⟨g, cap, cur, rfl, hg, (hk g rfl).trans hh, h1, h2, h3, h4⟩
theorem Box.stay {w w' : World} {b : Nat} {cs : Array Value} {t : TypeId} (h : Box w b cs t) (hk : w'.heap[b]? = w.heap[b]?) : Box w' b cs t := hk.trans h

/-- The blocks of boxes of the call's own lie below the heap's end. -/
theorem StO.beyond {B : Nat} {w : World} {v : Value} {bs : List Bx} {hs : List BxH} (h : StO B w v bs hs) {q : Nat} (hq : w.heap.size ≤ q) : v.ownBlock ≠ some q ∧ ∀ (j : Nat) (x : BxH), hs[j]? = some x → x.mv.ownBlock ≠ some q := by
  refine ⟨fun e => by have := (h.row.own.lt q e).2; omega, fun j x hj e => ?_⟩
  have hl : j < bs.length := by have := (List.getElem?_eq_some_iff.1 hj).1; have := h.len; omega
  have := ((h.at' j x _ hj (List.getElem?_eq_getElem hl)).2.own.lt q e).2
  omega

end Go.Proofs.YtahebgceoidebaaGreat

/- States held against each other, and right states, plainly. -/
namespace Go.Proofs.YtahebgceoidebaaGreat

/-- The same boxes. -/
noncomputable def sameS (ps bs : List Bx) : Bool := @decide (ps = bs) (Classical.propDecidable _)
theorem sameS_yes {ps bs : List Bx} (h : ps = bs) : sameS ps bs = true := @decide_eq_true _ (Classical.propDecidable _) h
theorem sameS_no {ps bs : List Bx} (h : ps ≠ bs) : sameS ps bs = false := @decide_eq_false _ (Classical.propDecidable _) h
theorem sameS_len {ps bs : List Bx} (h : ps.length ≠ bs.length) : sameS ps bs = false := sameS_no (fun e => h (by rw [e]))
theorem sameS_part {ps bs : List Bx} {i : Nat} {a b : Bx} (ha : ps[i]? = some a) (hb : bs[i]? = some b) (h : a ≠ b) : sameS ps bs = false := sameS_no (fun e => h (by rw [e, hb] at ha; exact (Option.some.inj ha).symm))
theorem sameS_all {ps bs : List Bx} (hl : ps.length = bs.length) (h : ∀ (i : Nat) (a b : Bx), ps[i]? = some a → bs[i]? = some b → a = b) : sameS ps bs = true :=
  sameS_yes (List.ext_getElem? fun i => by
    by_cases c : i < ps.length
    · have h1 : ps[i]? = some ps[i] := List.getElem?_eq_getElem c
      have h2 : bs[i]? = some (bs[i]'(by omega)) := List.getElem?_eq_getElem (by omega)
      rw [h1, h2, h i _ _ h1 h2]
    · rw [List.getElem?_eq_none (by omega), List.getElem?_eq_none (by omega)])
theorem bx_same {a b : Bx} (h1 : a.valid = b.valid) (h2 : a.user = b.user) (h3 : a.name = b.name) (h4 : a.next = b.next) (hl : a.mails.length = b.mails.length) (h : ∀ (k : Nat) (x y : Ml), a.mails[k]? = some x → b.mails[k]? = some y → x = y) : a = b := by
  obtain ⟨v, u, n, x, m⟩ := a
  obtain ⟨v', u', n', x', m'⟩ := b
  simp only at h1 h2 h3 h4 hl h
  subst h1 h2 h3 h4
  have : m = m' := List.ext_getElem? fun i => by
    by_cases c : i < m.length
    · have e1 : m[i]? = some m[i] := List.getElem?_eq_getElem c
      have e2 : m'[i]? = some (m'[i]'(by omega)) := List.getElem?_eq_getElem (by omega)
      rw [e1, e2, h i _ _ e1 e2]
    · rw [List.getElem?_eq_none (by omega), List.getElem?_eq_none (by omega)]
  rw [this]

end Go.Proofs.YtahebgceoidebaaGreat

/- States held against each other: the model's SameState. -/
namespace Go.Proofs.YtahebgceoidebaaGreat
open Go.RowKit

theorem Box.five {w : World} {b : Nat} {u0 u1 u2 u3 u4 : Value} {t : TypeId} (h : Box w b #[u0, u1, u2, u3, u4] t) : w.cell? ⟨b, 0, none⟩ = some u0 ∧ w.cell? ⟨b, 1, none⟩ = some u1 ∧ w.cell? ⟨b, 2, none⟩ = some u2 ∧ w.cell? ⟨b, 3, none⟩ = some u3 ∧ w.cell? ⟨b, 4, none⟩ = some u4 :=
  ⟨h.cell 0 _ rfl, h.cell 1 _ rfl, h.cell 2 _ rfl, h.cell 3 _ rfl, h.cell 4 _ rfl⟩
/-- Mails that can be read, ps a loop reads them. -/
def MlRow (w : World) (ad : Option Addr) (l : List Ml) : Prop := ∀ X, Below w.heap.size w X → ∀ i m, l[i]? = some m → ∃ g off, ad = some ⟨g, off, none⟩ ∧ X.cell? ⟨g, off + i * 3, none⟩ = some (.int .i64 m.uid) ∧ X.cell? ⟨g, off + i * 3 + 1, none⟩ = some (.int .i64 m.flags) ∧ X.cell? ⟨g, off + i * 3 + 2, none⟩ = some (.string m.text)
theorem MlRow.get {w : World} {ad : Option Addr} {l : List Ml} (h : MlRow w ad l) {X : World} (hb : Below w.heap.size w X) {i : Nat} {m : Ml} (hi : l[i]? = some m) : ∃ g off, ad = some ⟨g, off, none⟩ ∧ X.cell? ⟨g, off + i * 3, none⟩ = some (.int .i64 m.uid) ∧ X.cell? ⟨g, off + i * 3 + 1, none⟩ = some (.int .i64 m.flags) ∧ X.cell? ⟨g, off + i * 3 + 2, none⟩ = some (.string m.text) := h X hb i m hi
theorem Rows'.mails {w : World} {a : Option Addr} {n c : Nat} {l : List Ml} (h : Rows' mlE w (.slice a n c) l) : n = l.length ∧ MlRow w a l := by
  rcases h.ways with ⟨rfl, a, c, e⟩ | ⟨hne, g, off, c, e, hc, hg, hcl⟩
  · cases e
    exact ⟨rfl, fun X _ i x hi => by cases hi⟩
  · cases e
    exact ⟨rfl, fun X hb i x hi => ⟨g, off, rfl, ml_cells hcl hg hb i x hi⟩⟩

theorem ba_same' (a b : ByteArray) : a.toList = b.toList ↔ a = b := by
  have h := ba_beq a b
  constructor
  · intro e
    rw [beq_iff_eq.2 e] at h
    exact of_decide_eq_true h.symm
  · intro e; rw [e]

set_option maxRecDepth 100000 in
set_option maxHeartbeats 4000000 in
theorem specSameState_any (ps qs : List Bx) (va vb : Value) (w : World) (ha : BRd w va ps) (hb : BRd w vb qs) (hla : ps.length ≤ 1099511627776) (hma : ∀ b ∈ ps, b.mails.length ≤ 1099511627776) (hmb : ∀ b ∈ qs, b.mails.length ≤ 1099511627776) :
    Calls Tryz.prog 12 #[.agg #[va], .agg #[vb]] w fun e w' => e = .returned (.bool (sameS ps qs)) ∧ Below w.heap.size w w' := by
  obtain ⟨ad, cap, rfl, hrowa⟩ := ha.boxes
  obtain ⟨ad2, cap2, rfl, hrowb⟩ := hb.boxes
  have HA := Lib.hid hrowa
  have HB := Lib.hid hrowb
  have HMA := Lib.hid hma
  have HMB := Lib.hid hmb
  clear ha hb hrowa hrowb hma hmb
  obtain ⟨D, hD⟩ : ∃ D, sameS ps qs = D := ⟨_, rfl⟩
  have HD := Lib.hid hD
  rw [hD]
  clear hD
  by_cases hlen : ps.length = qs.length
  · obtain ⟨n, hn⟩ : ∃ n, ps.length = n := ⟨_, rfl⟩
    have hm : qs.length = n := by omega
    have HN := Lib.hid hn
    have HM := Lib.hid hm
    rw [hn] at hla
    rw [hn, hm]
    clear hn hm hlen
    have b1 : Below w.heap.size w ((w.alloc (.cells #[.slice ad n cap] 33)).alloc (.cells #[.slice ad2 n cap2] 33)) := ((Below.refl _ _).alloc (Nat.le_refl _) _).alloc (by simp) _
    have X2 := (Box.new w #[.slice ad n cap] 33).later (belNew _ (.cells #[.slice ad2 n cap2] 33))
    have X3 : Box ((w.alloc (.cells #[.slice ad n cap] 33)).alloc (.cells #[.slice ad2 n cap2] 33)) (w.heap.size + 1) #[.slice ad2 n cap2] 33 := by
      have := Box.new (w.alloc (.cells #[.slice ad n cap] 33)) #[.slice ad2 n cap2] 33
      rwa [show (w.alloc (.cells #[.slice ad n cap] 33)).heap.size = w.heap.size + 1 from by simp] at this
    go_enter Tryz.func12, Tryz.ntmps12
    go_wp2
    generalize (w.alloc (.cells #[.slice ad n cap] 33)).alloc (.cells #[.slice ad2 n cap2] 33) = w1 at b1 X2 X3 ⊢
    have BW := Lib.hid b1
    clear b1
    generalize w.heap.size + 1 = g3 at X3 ⊢
    generalize hg2 : w.heap.size = g2 at X2 ⊢
    clear hg2
    go_loopw [5] (fun iv wr => ∃ i : Nat, i ≤ n ∧ iv = .int .i64 (i : Int) ∧ (∀ (j : Nat) (x y : Bx), ps[j]? = some x → qs[j]? = some y → j < i → x = y) ∧ Below w1.heap.size w1 wr) (fun iv _ => n - (intOf iv).toNat)
    case atStart => exact ⟨0, by omega, rfl, fun j x y _ _ hj => by omega, Below.refl _ _⟩
    case round =>
      obtain ⟨i, hi, rfl, hU, hb⟩ := hrel
      have HU := Lib.hid hU
      clear hU
      have Y2 : wr.cell? ⟨g2, 0, none⟩ = some (.slice ad n cap) := (X2.later hb).cell 0 _ rfl
      have Y3 : wr.cell? ⟨g3, 0, none⟩ = some (.slice ad2 n cap2) := (X3.later hb).cell 0 _ rfl
      by_cases hlt : i < n
      · obtain ⟨x, hgx⟩ : ∃ x, ps[i]? = some x := ⟨_, List.getElem?_eq_getElem (by rw [HN.out]; exact hlt)⟩
        obtain ⟨y, hgy⟩ : ∃ y, qs[i]? = some y := ⟨_, List.getElem?_eq_getElem (by rw [HM.out]; exact hlt)⟩
        have bW : Below w.heap.size w wr := BW.out.trans (hb.mono BW.out.size)
        obtain ⟨gp, op, a1, n1, c1, rfl, p0, p1, p2, p3, p4, ra⟩ := HA.out _ bW i _ hgx
        obtain ⟨gq, oq, a2, n2, c2, rfl, q0, q1, q2, q3, q4, rb⟩ := HB.out _ (bW.trans ((belNew _ (.cells #[.int .i64 x.valid, .string x.user, .string x.name, .int .i64 x.next, .slice a1 n1 c1] 67)).mono bW.size)) i _ hgy
        have hmx := HMA.out x (List.mem_of_getElem? hgx)
        have hmy := HMB.out y (List.mem_of_getElem? hgy)
        have HX := Lib.hid hgx
        have HY := Lib.hid hgy
        clear hgx hgy
        obtain ⟨rfl, ra'⟩ := ra.mails
        obtain ⟨rfl, rb'⟩ := rb.mails
        have RA := Lib.hid ra'
        have RB := Lib.hid rb'
        clear ra rb ra' rb'
        have hi0 : (0 : Int) ≤ (i : Int) := by omega
        have hi1 : (i : Int) < (n : Int) := by omega
        have X6 := (Box.new wr #[.int .i64 x.valid, .string x.user, .string x.name, .int .i64 x.next, .slice a1 x.mails.length c1] 67).later (belNew _ (.cells #[.int .i64 y.valid, .string y.user, .string y.name, .int .i64 y.next, .slice a2 y.mails.length c2] 67))
        have X7 : Box ((wr.alloc (.cells #[.int .i64 x.valid, .string x.user, .string x.name, .int .i64 x.next, .slice a1 x.mails.length c1] 67)).alloc (.cells #[.int .i64 y.valid, .string y.user, .string y.name, .int .i64 y.next, .slice a2 y.mails.length c2] 67)) (wr.heap.size + 1) #[.int .i64 y.valid, .string y.user, .string y.name, .int .i64 y.next, .slice a2 y.mails.length c2] 67 := by
          have := Box.new (wr.alloc (.cells #[.int .i64 x.valid, .string x.user, .string x.name, .int .i64 x.next, .slice a1 x.mails.length c1] 67)) #[.int .i64 y.valid, .string y.user, .string y.name, .int .i64 y.next, .slice a2 y.mails.length c2] 67
          rwa [show (wr.alloc (.cells #[.int .i64 x.valid, .string x.user, .string x.name, .int .i64 x.next, .slice a1 x.mails.length c1] 67)).heap.size = wr.heap.size + 1 from by simp] at this
        have b2 : Below w1.heap.size w1 ((wr.alloc (.cells #[.int .i64 x.valid, .string x.user, .string x.name, .int .i64 x.next, .slice a1 x.mails.length c1] 67)).alloc (.cells #[.int .i64 y.valid, .string y.user, .string y.name, .int .i64 y.next, .slice a2 y.mails.length c2] 67)) := (hb.alloc hb.size _).alloc (by simp; have := hb.size; omega) _
        have Z3 := (X3.later (hb.trans ((belNew wr (.cells #[.int .i64 x.valid, .string x.user, .string x.name, .int .i64 x.next, .slice a1 x.mails.length c1] 67)).mono hb.size))).cell 0 _ rfl
        go_upto_region 8 with fail
        generalize (wr.alloc (.cells #[.int .i64 x.valid, .string x.user, .string x.name, .int .i64 x.next, .slice a1 x.mails.length c1] 67)).alloc (.cells #[.int .i64 y.valid, .string y.user, .string y.name, .int .i64 y.next, .slice a2 y.mails.length c2] 67) = w2 at b2 X6 X7 ⊢
        generalize wr.heap.size + 1 = g7 at X7 ⊢
        generalize wr.heap.size = g6 at X6 ⊢
        clear p0 p1 p2 p3 p4 q0 q1 q2 q3 q4 Y2 Y3 Z3 hb bW
        obtain ⟨x0, x1, x2, x3, x4⟩ := X6.five
        obtain ⟨y0, y1, y2, y3, y4⟩ := X7.five

        have HXB := Lib.hid X6
        have HYB := Lib.hid X7
        have HB2 := Lib.hid b2
        have hend : Below w.heap.size w w2 := BW.out.trans (b2.mono BW.out.size)
        clear X6 X7 b2
        by_cases e0 : x.valid = y.valid
        case neg =>
          go_wp2
          go_ret
          exact ⟨by rw [← HD.out, sameS_part HX.out HY.out (fun e => e0 (by rw [e]))]; rfl, hend⟩
        by_cases e1 : x.user = y.user
        case neg =>
          have e1' : ¬ (x.user.toList = y.user.toList) := fun h => e1 ((ba_same' _ _).1 h)
          go_wp2
          go_ret
          exact ⟨by rw [← HD.out, sameS_part HX.out HY.out (fun e => e1 (by rw [e]))]; rfl, hend⟩
        by_cases e2 : x.name = y.name
        case neg =>
          have e2' : ¬ (x.name.toList = y.name.toList) := fun h => e2 ((ba_same' _ _).1 h)
          go_wp2
          go_ret
          exact ⟨by rw [← HD.out, sameS_part HX.out HY.out (fun e => e2 (by rw [e]))]; rfl, hend⟩
        by_cases e3 : x.next = y.next
        case neg =>
          go_wp2
          go_ret
          exact ⟨by rw [← HD.out, sameS_part HX.out HY.out (fun e => e3 (by rw [e]))]; rfl, hend⟩
        by_cases e4 : x.mails.length = y.mails.length
        case neg =>
          have e4' : ¬ ((x.mails.length : Int) = (y.mails.length : Int)) := by omega
          go_wp2
          go_ret
          exact ⟨by rw [← HD.out, sameS_part HX.out HY.out (fun e => e4 (by rw [e]))]; rfl, hend⟩
        have HSM : Hid ((∀ (k : Nat) (m m' : Ml), x.mails[k]? = some m → y.mails[k]? = some m' → m = m') → x = y) := fun h => bx_same e0 e1 e2 e3 e4 h
        obtain ⟨n1, hm0⟩ : ∃ m, x.mails.length = m := ⟨_, rfl⟩
        have hm1 : y.mails.length = n1 := by omega
        have HM0 := Lib.hid hm0
        have HM1 := Lib.hid hm1
        rw [hm0] at HXB x4 hmx
        rw [hm1] at HYB y4
        rw [hm0, hm1]
        clear hm0 hm1 hmy e4
        go_wp2
        clear x0 x1 x2 x3 x4 y0 y1 y2 y3 y4 e0 e1 e2 e3
        go_loopw [8] (fun kv wr2 => ∃ k : Nat, k ≤ n1 ∧ kv = .int .i64 (k : Int) ∧ (∀ (j : Nat) (m m' : Ml), x.mails[j]? = some m → y.mails[j]? = some m' → j < k → m = m') ∧ Below w2.heap.size w2 wr2) (fun kv _ => n1 - (intOf kv).toNat)
        case atStart => exact ⟨0, by omega, rfl, fun j m m' _ _ hj => by omega, Below.refl _ _⟩
        case round =>
          obtain ⟨k, hk, rfl, hU2, hb⟩ := hrel
          have HU2 := Lib.hid hU2
          clear hU2
          have x4 : wr.cell? ⟨g6, 4, none⟩ = some (.slice a1 n1 c1) := (HXB.out.later hb).cell 4 _ rfl
          by_cases hlk : k < n1
          · have bW : Below w.heap.size w wr := hend.trans (hb.mono hend.size)
            have bD : Below w.heap.size w wr.drew := bW.trans ((Below.refl wr.heap.size wr).drew.mono bW.size)
            have bR : Below w2.heap.size w2 wr.drew := hb.trans ((Below.refl wr.heap.size wr).drew.mono hb.size)
            have z4 : wr.drew.cell? ⟨g6, 4, none⟩ = some (.slice a1 n1 c1) := (HXB.out.later bR).cell 4 _ rfl
            have y4 : wr.drew.cell? ⟨g7, 4, none⟩ = some (.slice a2 n1 c2) := (HYB.out.later bR).cell 4 _ rfl
            obtain ⟨m, hgm⟩ : ∃ m, x.mails[k]? = some m := ⟨_, List.getElem?_eq_getElem (by rw [HM0.out]; exact hlk)⟩
            obtain ⟨m', hgm'⟩ : ∃ m, y.mails[k]? = some m := ⟨_, List.getElem?_eq_getElem (by rw [HM1.out]; exact hlk)⟩
            obtain ⟨ga, oa, rfl, p0, p1, p2⟩ := MlRow.get RA.out bD hgm
            obtain ⟨gb, ob, rfl, q0, q1, q2⟩ := MlRow.get RB.out bD hgm'
            have HG := Lib.hid hgm
            have HG' := Lib.hid hgm'
            clear hgm hgm' hb bW
            obtain ⟨U, F, T⟩ := m
            obtain ⟨U', F', T'⟩ := m'
            simp only at p0 p1 p2 q0 q1 q2
            have hk0 : (0 : Int) ≤ (k : Int) := by omega
            have hk1 : (k : Int) < (n1 : Int) := by omega
            by_cases hsame : U = U' ∧ F = F' ∧ T = T'
            · obtain ⟨rfl, rfl, rfl⟩ := hsame
              go_wp2_with fail
              refine wp_region_held_drew (S := fun x => wr.drew = x) (by kernel_rfl) rfl (fun hHeld => ?_)
              refine takeL (i := 0) (v := .pointer (some ⟨g6, 4, none⟩)) rfl (by kernel_rfl) (by kernel_rfl) (by kernel_rfl) (fun _ _ _ h => h) (Or.inl ⟨by rfl, ?_⟩) (by assumption) ?_
              · intro x hSx; subst hSx; go_simp
              try simp only [Act.put, List.setIfInBounds_toArray, List.set_cons_zero, List.set_cons_succ]
              refine takeL (i := 1) (v := .slice (some ⟨ga, oa, none⟩) n1 c1) rfl (by kernel_rfl) (by kernel_rfl) (by kernel_rfl) (fun _ _ _ h => h) (Or.inl ⟨by rfl, ?_⟩) (by assumption) ?_
              · intro x hSx; subst hSx; go_simp
              try simp only [Act.put, List.setIfInBounds_toArray, List.set_cons_zero, List.set_cons_succ]
              refine takeL (i := 2) (v := .int .i64 (k : Int)) rfl (by kernel_rfl) (by kernel_rfl) (by kernel_rfl) (fun _ _ _ h => h) (Or.inl ⟨by rfl, ?_⟩) (by assumption) ?_
              · intro x hSx; subst hSx; go_simp
              try simp only [Act.put, List.setIfInBounds_toArray, List.set_cons_zero, List.set_cons_succ]
              refine takeL (i := 3) (v := .pointer (some ⟨ga, oa + k * 3, none⟩)) rfl (by kernel_rfl) (by kernel_rfl) (by kernel_rfl) (fun _ _ _ h => h) (Or.inl ⟨by rfl, ?_⟩) (by assumption) ?_
              · intro x hSx; subst hSx; go_simp
              try simp only [Act.put, List.setIfInBounds_toArray, List.set_cons_zero, List.set_cons_succ]
              refine takeL (i := 4) (v := .agg #[.int .i64 U, .int .i64 F, .string T]) rfl (by kernel_rfl) (by kernel_rfl) (by kernel_rfl) (fun _ _ _ h => h) (Or.inl ⟨by rfl, ?_⟩) (by assumption) ?_
              · intro x hSx; subst hSx; go_simp
              try simp only [Act.put, List.setIfInBounds_toArray, List.set_cons_zero, List.set_cons_succ]
              refine takeL (i := 5) (v := .pointer (some ⟨g7, 4, none⟩)) rfl (by kernel_rfl) (by kernel_rfl) (by kernel_rfl) (fun _ _ _ h => h) (Or.inl ⟨by rfl, ?_⟩) (by assumption) ?_
              · intro x hSx; subst hSx; go_simp
              try simp only [Act.put, List.setIfInBounds_toArray, List.set_cons_zero, List.set_cons_succ]
              refine takeL (i := 6) (v := .slice (some ⟨gb, ob, none⟩) n1 c2) rfl (by kernel_rfl) (by kernel_rfl) (by kernel_rfl) (fun _ _ _ h => h) (Or.inl ⟨by rfl, ?_⟩) (by assumption) ?_
              · intro x hSx; subst hSx; go_simp
              try simp only [Act.put, List.setIfInBounds_toArray, List.set_cons_zero, List.set_cons_succ]
              refine takeL (i := 7) (v := .int .i64 (k : Int)) rfl (by kernel_rfl) (by kernel_rfl) (by kernel_rfl) (fun _ _ _ h => h) (Or.inl ⟨by rfl, ?_⟩) (by assumption) ?_
              · intro x hSx; subst hSx; go_simp
              try simp only [Act.put, List.setIfInBounds_toArray, List.set_cons_zero, List.set_cons_succ]
              refine takeL (i := 8) (v := .pointer (some ⟨gb, ob + k * 3, none⟩)) rfl (by kernel_rfl) (by kernel_rfl) (by kernel_rfl) (fun _ _ _ h => h) (Or.inl ⟨by rfl, ?_⟩) (by assumption) ?_
              · intro x hSx; subst hSx; go_simp
              try simp only [Act.put, List.setIfInBounds_toArray, List.set_cons_zero, List.set_cons_succ]
              refine takeL (i := 9) (v := .agg #[.int .i64 U, .int .i64 F, .string T]) rfl (by kernel_rfl) (by kernel_rfl) (by kernel_rfl) (fun _ _ _ h => h) (Or.inl ⟨by rfl, ?_⟩) (by assumption) ?_
              · intro x hSx; subst hSx; go_simp
              try simp only [Act.put, List.setIfInBounds_toArray, List.set_cons_zero, List.set_cons_succ]
              refine takeL (i := 10) (v := .bool false) rfl (by kernel_rfl) (by kernel_rfl) (by kernel_rfl) (fun _ _ _ h => h) (Or.inl ⟨by rfl, ?_⟩) (by assumption) ?_
              · intro x hSx; subst hSx; go_simp
              try simp only [Act.put, List.setIfInBounds_toArray, List.set_cons_zero, List.set_cons_succ]
              refine wpAnyH_done (by kernel_rfl) ?_ _
              go_wp2
              exact ⟨⟨k + 1, by omega, by go_num, fun j m m' hj hj' hjk => by
                by_cases c : j = k
                · subst c; have h1 := HG.out; have h2 := HG'.out; rw [hj] at h1; rw [hj'] at h2; cases h1; cases h2; rfl
                · exact HU2.out j m m' hj hj' (by omega), bR⟩, by first | omega | (simp [intOf]; omega)⟩
            · have HE : Hid (D = false) := by
                rw [← HD.out]
                exact sameS_part HX.out HY.out (fun e => hsame (by
                  have h1 := HG.out; have h2 := HG'.out
                  rw [e, h2] at h1; cases h1; exact ⟨rfl, rfl, rfl⟩))
              have HNE := Lib.hid hsame
              clear hsame
              go_wp2_with fail
              refine wp_region_held_drew (S := fun x => wr.drew = x) (by kernel_rfl) rfl (fun hHeld => ?_)
              refine takeL (i := 0) (v := .pointer (some ⟨g6, 4, none⟩)) rfl (by kernel_rfl) (by kernel_rfl) (by kernel_rfl) (fun _ _ _ h => h) (Or.inl ⟨by rfl, ?_⟩) (by assumption) ?_
              · intro x hSx; subst hSx; go_simp
              try simp only [Act.put, List.setIfInBounds_toArray, List.set_cons_zero, List.set_cons_succ]
              refine takeL (i := 1) (v := .slice (some ⟨ga, oa, none⟩) n1 c1) rfl (by kernel_rfl) (by kernel_rfl) (by kernel_rfl) (fun _ _ _ h => h) (Or.inl ⟨by rfl, ?_⟩) (by assumption) ?_
              · intro x hSx; subst hSx; go_simp
              try simp only [Act.put, List.setIfInBounds_toArray, List.set_cons_zero, List.set_cons_succ]
              refine takeL (i := 2) (v := .int .i64 (k : Int)) rfl (by kernel_rfl) (by kernel_rfl) (by kernel_rfl) (fun _ _ _ h => h) (Or.inl ⟨by rfl, ?_⟩) (by assumption) ?_
              · intro x hSx; subst hSx; go_simp
              try simp only [Act.put, List.setIfInBounds_toArray, List.set_cons_zero, List.set_cons_succ]
              refine takeL (i := 3) (v := .pointer (some ⟨ga, oa + k * 3, none⟩)) rfl (by kernel_rfl) (by kernel_rfl) (by kernel_rfl) (fun _ _ _ h => h) (Or.inl ⟨by rfl, ?_⟩) (by assumption) ?_
              · intro x hSx; subst hSx; go_simp
              try simp only [Act.put, List.setIfInBounds_toArray, List.set_cons_zero, List.set_cons_succ]
              refine takeL (i := 4) (v := .agg #[.int .i64 U, .int .i64 F, .string T]) rfl (by kernel_rfl) (by kernel_rfl) (by kernel_rfl) (fun _ _ _ h => h) (Or.inl ⟨by rfl, ?_⟩) (by assumption) ?_
              · intro x hSx; subst hSx; go_simp
              try simp only [Act.put, List.setIfInBounds_toArray, List.set_cons_zero, List.set_cons_succ]
              refine takeL (i := 5) (v := .pointer (some ⟨g7, 4, none⟩)) rfl (by kernel_rfl) (by kernel_rfl) (by kernel_rfl) (fun _ _ _ h => h) (Or.inl ⟨by rfl, ?_⟩) (by assumption) ?_
              · intro x hSx; subst hSx; go_simp
              try simp only [Act.put, List.setIfInBounds_toArray, List.set_cons_zero, List.set_cons_succ]
              refine takeL (i := 6) (v := .slice (some ⟨gb, ob, none⟩) n1 c2) rfl (by kernel_rfl) (by kernel_rfl) (by kernel_rfl) (fun _ _ _ h => h) (Or.inl ⟨by rfl, ?_⟩) (by assumption) ?_
              · intro x hSx; subst hSx; go_simp
              try simp only [Act.put, List.setIfInBounds_toArray, List.set_cons_zero, List.set_cons_succ]
              refine takeL (i := 7) (v := .int .i64 (k : Int)) rfl (by kernel_rfl) (by kernel_rfl) (by kernel_rfl) (fun _ _ _ h => h) (Or.inl ⟨by rfl, ?_⟩) (by assumption) ?_
              · intro x hSx; subst hSx; go_simp
              try simp only [Act.put, List.setIfInBounds_toArray, List.set_cons_zero, List.set_cons_succ]
              refine takeL (i := 8) (v := .pointer (some ⟨gb, ob + k * 3, none⟩)) rfl (by kernel_rfl) (by kernel_rfl) (by kernel_rfl) (fun _ _ _ h => h) (Or.inl ⟨by rfl, ?_⟩) (by assumption) ?_
              · intro x hSx; subst hSx; go_simp
              try simp only [Act.put, List.setIfInBounds_toArray, List.set_cons_zero, List.set_cons_succ]
              refine takeL (i := 9) (v := .agg #[.int .i64 U', .int .i64 F', .string T']) rfl (by kernel_rfl) (by kernel_rfl) (by kernel_rfl) (fun _ _ _ h => h) (Or.inl ⟨by rfl, ?_⟩) (by assumption) ?_
              · intro x hSx; subst hSx; go_simp
              try simp only [Act.put, List.setIfInBounds_toArray, List.set_cons_zero, List.set_cons_succ]
              refine takeL (i := 10) (v := .bool true) rfl (by kernel_rfl) (by kernel_rfl) (by kernel_rfl) (fun _ _ _ h => h) (Or.inl ⟨by rfl, ?_⟩) (by assumption) ?_
              · intro x hSx; subst hSx; go_simp; exact fun h1 h2 h3 => HNE.out ⟨h1, h2, (ba_same' _ _).1 h3⟩
              try simp only [Act.put, List.setIfInBounds_toArray, List.set_cons_zero, List.set_cons_succ]
              refine wpAnyH_done (by kernel_rfl) ?_ _
              go_wp2
              go_ret
              exact ⟨by rw [HE.out]; rfl, bD⟩
          · go_wp2
            go_roundw
            case rel => exact ⟨i + 1, by omega, by go_num, fun j u v h1 h2 hj => by
              by_cases c : j = i
              · subst c
                have e1 := HX.out; have e2 := HY.out; rw [h1] at e1; rw [h2] at e2; cases e1; cases e2
                exact HSM.out (fun q m m' h3 h4 => HU2.out q m m' h3 h4 (by have := (List.getElem?_eq_some_iff.1 h3).1; have := HM0.out; omega))
              · exact HU.out j u v h1 h2 (by omega), HB2.out.trans (hb.mono HB2.out.size)⟩
            case measure => simp [intOf]; omega
      · go_wp2
        go_ret
        refine ⟨?_, BW.out.trans (hb.mono BW.out.size)⟩
        rw [← HD.out, sameS_all (HN.out.trans HM.out.symm) (fun j x y h1 h2 => HU.out j x y h1 h2 (by have := (List.getElem?_eq_some_iff.1 h1).1; have := HN.out; omega))]; rfl
  · have b1 : Below w.heap.size w ((w.alloc (.cells #[.slice ad ps.length cap] 33)).alloc (.cells #[.slice ad2 qs.length cap2] 33)) := ((Below.refl _ _).alloc (Nat.le_refl _) _).alloc (by simp) _
    have hne : ¬ ((ps.length : Int) = (qs.length : Int)) := by omega
    go_enter Tryz.func12, Tryz.ntmps12
    go_wp2
    go_ret
    exact ⟨by rw [← HD.out, sameS_len hlen]; rfl, b1⟩

end Go.Proofs.YtahebgceoidebaaGreat

/- NextsOf of either side: a RecBox of each box of which less, or nothing, is left. -/
namespace Go.Proofs.YtahebgceoidebaaGreat
open Go.RowKit

def nxR (b : Bx) : Rc := ⟨1, b.valid, 0, b.next, 0, b.user, b.name, ⟨#[]⟩⟩
def toldB (ts : List Bx) (b : Bx) : Bool := ts.any (fun y => decide (y.valid = b.valid ∧ b.next ≤ y.next))
def nxs (ts ss : List Bx) : List Rc := (ss.filter (fun b => !toldB ts b)).map nxR
theorem nxs_told {ts ss : List Bx} {i : Nat} {b : Bx} (h : ss[i]? = some b) (ht : toldB ts b = true) : nxs ts (ss.take (i + 1)) = nxs ts (ss.take i) := by
  unfold nxs
  rw [List.take_add_one, h, List.filter_append]
  simp [ht]
theorem nxs_new {ts ss : List Bx} {i : Nat} {b : Bx} (h : ss[i]? = some b) (ht : toldB ts b = false) : nxs ts (ss.take (i + 1)) = nxs ts (ss.take i) ++ [nxR b] := by
  unfold nxs
  rw [List.take_add_one, h, List.filter_append]
  simp [ht]
theorem nxs_len (ts ss : List Bx) : (nxs ts ss).length ≤ ss.length := by
  unfold nxs
  rw [List.length_map]
  exact List.length_filter_le _ _
theorem toldB_step {ts : List Bx} {k : Nat} {y b : Bx} (h : ts[k]? = some y) : toldB (ts.take (k + 1)) b = (toldB (ts.take k) b || decide (y.valid = b.valid ∧ b.next ≤ y.next)) := by
  unfold toldB
  rw [List.take_add_one, h, List.any_append]
  simp

/-- Every block but one is as it was. -/
theorem KS.app {w x y : World} {gO : Nat} {r : Option Nat} (h : KS w gO none x) (hg : x.grownBy y r) (hr : ∀ k, r = some k → k = gO ∨ w.heap.size ≤ k) : KS w gO none y :=
  ⟨Nat.le_trans h.size hg.size, fun g hg2 h1 h2 => (hg.block g (Nat.lt_of_lt_of_le hg2 h.size) (fun e => by rcases hr g e.symm with e2 | e2 <;> omega)).trans (h.same g hg2 h1 h2)⟩
theorem RBuf.ks {α : Type} {E : Enc α} {B gO : Nat} {w x : World} {v : Value} {l : List α} (h : RBuf E B w w v l) (hk : KS w gO none x) (hB : gO < B) : RBuf E B x x v l :=
  h.stay hk.size (fun k hb => hk.same k (h.own.lt k hb).2 (by have := (h.own.lt k hb).1; omega) (by simp))
theorem Box.ks {w x : World} {gO b : Nat} {cs : Array Value} {t : TypeId} (h : Box w b cs t) (hk : KS w gO none x) (hB : b ≠ gO) : Box x b cs t := h.stay (hk.same b h.lt hB (by simp))
theorem StO.ks {B gO : Nat} {w x : World} {v : Value} {bs : List Bx} {hs : List BxH} (h : StO B w v bs hs) (hk : KS w gO none x) (hB : gO < B) : StO B x v bs hs :=
  ⟨h.row.ks hk hB, h.len, fun j y b h1 h2 => ⟨(h.at' j y b h1 h2).1, (h.at' j y b h1 h2).2.ks hk hB⟩, h.far, h.apart⟩
theorem BRd.at5 {x : World} {ad : Option Addr} {n cap : Nat} {bs : List Bx} (h : BRd x (.slice ad n cap) bs) {i : Nat} {b : Bx} (hi : bs[i]? = some b) : ∃ (g off : Nat) (a : Option Addr) (m c : Nat), ad = some ⟨g, off, none⟩ ∧
    x.cell? ⟨g, off + i * 5, none⟩ = some (.int .i64 b.valid) ∧ x.cell? ⟨g, off + i * 5 + 1, none⟩ = some (.string b.user) ∧ x.cell? ⟨g, off + i * 5 + 2, none⟩ = some (.string b.name) ∧ x.cell? ⟨g, off + i * 5 + 3, none⟩ = some (.int .i64 b.next) ∧ x.cell? ⟨g, off + i * 5 + 4, none⟩ = some (.slice a m c) := by
  obtain ⟨ad', cap', e, H⟩ := h.boxes
  obtain ⟨g, off, a, m, c, e2, p0, p1, p2, p3, p4, _⟩ := H x (Below.refl _ _) i b hi
  simp only [Value.slice.injEq] at e
  rw [e.1]
  exact ⟨g, off, a, m, c, e2, p0, p1, p2, p3, p4⟩
theorem BRd.long {x : World} {v : Value} {bs : List Bx} (h : BRd x v bs) : ∃ ad cap, v = .slice ad bs.length cap := by
  obtain ⟨ad, cap, e, _⟩ := h.boxes
  exact ⟨ad, cap, e⟩

set_option maxRecDepth 100000 in
set_option maxHeartbeats 4000000 in
theorem specNextsOf_any (l : List Itm) (d : List Bool) (v vd : Value) (w : World) (h : Rows' itE w v l) (hd : Rows' boE w vd d) (hl : l.length ≤ 1048576) (hz : ∀ x ∈ l, x.2.user.size ≤ 1048576 ∧ x.2.name.size ≤ 1048576 ∧ x.2.text.size ≤ 1048576) :
    Calls Tryz.prog 26 #[v, vd] w fun e w' => ∃ v', e = .returned v' ∧ RBuf rcE w.heap.size w w' v' (nxs (stateL (wo l d)) (stateL l)) := by
  have HL : Hid (∀ x, Below w.heap.size w x → Rows' itE x v l) := fun x hx => h.later hx
  have HD : Hid (∀ x, Below w.heap.size w x → Rows' boE x vd d) := fun x hx => hd.later hx
  have HS1 : Hid (StateC 11 l) := fun v X hX => specStateOf_any l v X hX (by omega) (fun x hx => by have := hz x hx; omega)
  have HS2 : Hid (StateC 11 (wo l d)) := fun v X hX => specStateOf_any (wo l d) v X hX (by have := wo_len l d; omega) (fun x hx => by have := hz x (woT_mem hx); omega)
  have hsm := stateL_small l
  have htm := stateL_small (wo l d)
  unfold StateC at HS1 HS2
  obtain ⟨ad, cap, rfl, _⟩ := h.items
  obtain ⟨ab, cab, rfl, _⟩ := hd.bools
  generalize stateL l = ss at HS1 hsm ⊢
  have HWO := Lib.hid (fun va vb x h1 h2 => specWithout_any l d va vb x h1 h2 hl)
  generalize stateL (wo l d) = ts at HS2 htm ⊢
  have hs1 := hsm.1
  have ht1 := htm.1
  clear h hd hz hsm htm
  have I0 := RBuf.fresh rcE w
  go_enter Tryz.func26, Tryz.ntmps26
  go_wp2_with fail
  have e1 : (w.alloc (.cells #[] 47)).heap.size = w.heap.size + 1 := by simp
  change RBuf rcE w.heap.size w (w.alloc (.cells #[] 47)) _ _ at I0
  have hlt1 : w.heap.size < (w.alloc (.cells #[] 47)).heap.size := by omega
  clear e1
  generalize w.alloc (.cells #[] 47) = w1 at I0 hlt1 ⊢
  have b1 := I0.bel
  have HW1 := Lib.hid hlt1
  clear hlt1
  refine (HS1.out _ _ (HL.out _ b1)).mono ?_
  rintro e w2 ⟨v6, hs6, rfl, S6, k2⟩
  replace I0 := I0.later k2
  obtain ⟨p6, d6, rfl⟩ := S6.rd.long
  have X6 := Box.new w2 #[.slice p6 ss.length d6] 33
  have k3 := belNew w2 (.cells #[.slice p6 ss.length d6] 33)
  have Z2 := Lib.hid k2.size
  replace I0 := I0.later k3
  replace S6 := S6.later k3
  clear k2 k3 b1
  go_upto_region 3 with fail
  generalize w2.alloc (.cells #[.slice p6 ss.length d6] 33) = w3 at I0 X6 S6 ⊢
  have Z6 : Hid (w.heap.size < w2.heap.size) := by have := HW1.out; have := Z2.out; show _ < _; omega
  generalize w2.heap.size = g6 at X6 Z6 ⊢
  go_wp2_with fail
  refine (HWO.out _ _ _ (HL.out _ I0.bel) (HD.out _ I0.bel)).mono ?_
  rintro e w4 ⟨v4, rfl, R4⟩
  have k4 := R4.bel
  replace I0 := I0.later k4
  replace S6 := S6.later k4
  replace X6 := X6.later k4
  obtain ⟨a4, c4, rfl⟩ := R4.form
  clear k4
  go_wp2_with fail
  refine (HS2.out _ _ R4.rows).mono ?_
  rintro e w5 ⟨v7, hs7, rfl, S7, k5⟩
  have Z4 : Hid (w.heap.size < w4.heap.size) := by have := X6.lt; have := Z6.out; show _ < _; omega
  replace I0 := I0.later k5
  replace S6 := S6.later k5
  replace X6 := X6.later k5
  obtain ⟨p7, d7, rfl⟩ := S7.rd.long
  have X7 := Box.new w5 #[.slice p7 ts.length d7] 33
  have k6 := belNew w5 (.cells #[.slice p7 ts.length d7] 33)
  have Z5 : Hid (w.heap.size < w5.heap.size) := by have := X6.lt; have := Z6.out; show _ < _; omega
  replace I0 := I0.later k6
  replace S6 := S6.later k6
  replace X6 := X6.later k6
  replace S7 := S7.later k6
  clear k5 k6 R4 HWO
  go_upto_region 4 with fail
  generalize w5.alloc (.cells #[.slice p7 ts.length d7] 33) = w8 at I0 X6 X7 S6 S7 ⊢
  generalize w5.heap.size = g7 at X7 Z5 ⊢
  obtain ⟨gO, hgO⟩ : ∃ gO, w.heap.size = gO := ⟨_, rfl⟩
  have H8 : Hid (∀ x, KS w8 gO none x → BRd x (.slice p6 ss.length d6) ss ∧ BRd x (.slice p7 ts.length d7) ts ∧ x.cell? ⟨g6, 0, none⟩ = some (.slice p6 ss.length d6) ∧ x.cell? ⟨g7, 0, none⟩ = some (.slice p7 ts.length d7)) := fun x hx =>
    ⟨(S6.ks hx (by rw [← hgO]; exact HW1.out)).rd, (S7.ks hx (by rw [← hgO]; exact Z4.out)).rd, (X6.ks hx (by have := Z6.out; omega)).cell 0 _ rfl, (X7.ks hx (by have := Z5.out; omega)).cell 0 _ rfl⟩
  clear S6 S7 X6 X7 HL HD HS1 HS2 Z2 Z4 Z5 Z6 HW1
  rw [hgO] at I0 ⊢
  have HGO := Lib.hid hgO
  clear hgO
  obtain ⟨n, hn⟩ : ∃ n, ss.length = n := ⟨_, rfl⟩
  obtain ⟨m, hm⟩ : ∃ m, ts.length = m := ⟨_, rfl⟩
  rw [hn, hm] at H8
  have HN := Lib.hid hn
  have HM := Lib.hid hm
  rw [hn] at hs1
  rw [hm] at ht1
  clear hn hm
  go_wp2
  go_loopw [5, 8] (fun v iv wr => ∃ i : Nat, i ≤ n ∧ iv = .int .i64 (i : Int) ∧ RBuf rcE gO w wr v (nxs ts (ss.take i)) ∧ KS w8 gO none wr ∧ ∀ k, v.ownBlock = some k → k = gO ∨ w8.heap.size ≤ k) (fun _ iv _ => n - (intOf iv).toNat)
  case atStart => exact ⟨0, by omega, rfl, I0, ⟨Nat.le_refl _, fun _ _ _ _ => rfl⟩, fun k hk => by cases hk; exact .inl rfl⟩
  case round =>
    clear I0
    obtain ⟨i, hi, rfl, I, ks, ho⟩ := hrel
    have HO := Lib.hid ho
    clear ho
    obtain ⟨BS, _, y6, _⟩ := H8.out _ ks
    by_cases hlt : i < n
    · obtain ⟨b, hgb⟩ : ∃ b, ss[i]? = some b := ⟨_, List.getElem?_eq_getElem (by rw [HN.out]; exact hlt)⟩
      obtain ⟨gs, os, am, nm, cm, rfl, p0, p1, p2, p3, p4⟩ := BS.at5 hgb
      have hlu : (nxs ts (ss.take i)).length ≤ 1048576 := by have := nxs_len ts (ss.take i); rw [List.length_take] at this; omega
      have HT := Lib.hid (fun h => nxs_told (ts := ts) hgb h)
      have HW := Lib.hid (fun h => nxs_new (ts := ts) hgb h)
      obtain ⟨us, hus⟩ : ∃ us, nxs ts (ss.take i) = us := ⟨_, rfl⟩
      rw [hus] at I hlu HT HW
      have hi0 : (0 : Int) ≤ (i : Int) := by omega
      have hi1 : (i : Int) < (n : Int) := by omega
      obtain ⟨bV, bU, bN, bX, bM⟩ := b
      simp only at p0 p1 p2 p3 p4
      have XB := Box.new wr #[.int .i64 bV, .string bU, .string bN, .int .i64 bX, .slice am nm cm] 67
      have k9 := belNew wr (.cells #[.int .i64 bV, .string bU, .string bN, .int .i64 bX, .slice am nm cm] 67)
      replace I := I.later k9
      replace ks := ks.later k9
      clear BS hgb hus k9
      go_upto_region 8 with fail
      clear y6 p0 p1 p2 p3 p4
      generalize wr.alloc (.cells #[.int .i64 bV, .string bU, .string bN, .int .i64 bX, .slice am nm cm] 67) = w9 at XB I ks ⊢
      generalize wr.heap.size = g9 at XB ⊢
      obtain ⟨c0, c1, c2, c3, _⟩ := XB.five
      have HXB := Lib.hid XB
      have HI := Lib.hid I
      have HKS := Lib.hid ks
      clear XB I ks
      have T0 : toldB (ts.take 0) ⟨bV, bU, bN, bX, bM⟩ = false := rfl
      go_wp2
      go_loopw [10, 11] (fun tv kv wq => ∃ k : Nat, k ≤ m ∧ kv = .int .i64 (k : Int) ∧ tv = .bool (toldB (ts.take k) ⟨bV, bU, bN, bX, bM⟩) ∧ Below w9.heap.size w9 wq) (fun _ kv _ => m - (intOf kv).toNat)
      case atStart => exact ⟨0, by omega, rfl, by rw [T0], Below.refl _ _⟩
      case round =>
        clear T0 c0 c1 c2 c3
        obtain ⟨k, hk, rfl, rfl, bq⟩ := hrel
        obtain ⟨_, BT, _, y7⟩ := H8.out _ (HKS.out.later bq)
        obtain ⟨c0, c1, c2, c3, _⟩ := (HXB.out.later bq).five
        by_cases hlk : k < m
        · obtain ⟨y, hgy⟩ : ∃ y, ts[k]? = some y := ⟨_, List.getElem?_eq_getElem (by rw [HM.out]; exact hlk)⟩
          obtain ⟨gt, ot, at', nt, ct, rfl, t0, _, _, t3, _⟩ := BT.at5 hgy
          have HST := Lib.hid (toldB_step (b := ⟨bV, bU, bN, bX, bM⟩) hgy)
          obtain ⟨yV, yU, yN, yX, yM⟩ := y
          simp only at t0 t3 HST
          have hk0 : (0 : Int) ≤ (k : Int) := by omega
          have hk1 : (k : Int) < (m : Int) := by omega
          clear hgy BT
          generalize toldB (ts.take k) ⟨bV, bU, bN, bX, bM⟩ = T at HST ⊢
          cases T with
          | true =>
            clear t0 t3 c0 c1 c2 c3
            go_wp2
            go_quiet (fail)
            go_wp2
            go_roundw
            case rel => exact ⟨k + 1, by omega, by go_num, by rw [HST.out]; rfl, below_drewN bq _⟩
            case measure => simp [intOf]; omega
          | false =>
            by_cases hv : yV = bV
            · subst hv
              by_cases hx : bX ≤ yX
              · have HR : Hid (toldB (ts.take (k + 1)) ⟨yV, bU, bN, bX, bM⟩ = true) := by rw [HST.out]; show _ = _; rw [decide_eq_true (show yV = yV ∧ bX ≤ yX from ⟨rfl, hx⟩)]; rfl
                clear HST
                go_wp2
                go_quiet (fail)
                go_wp2
                go_roundw
                case rel => exact ⟨k + 1, by omega, by go_num, by rw [HR.out], below_drewN bq _⟩
                case measure => simp [intOf]; omega
              · have HR : Hid (toldB (ts.take (k + 1)) ⟨yV, bU, bN, bX, bM⟩ = false) := by rw [HST.out]; show _ = _; rw [decide_eq_false (fun c => hx c.2)]; rfl
                clear HST
                go_wp2
                go_quiet (fail)
                go_wp2
                go_roundw
                case rel => exact ⟨k + 1, by omega, by go_num, by rw [HR.out, decide_eq_false (by omega)], below_drewN bq _⟩
                case measure => simp [intOf]; omega
            · have hv' : (yV == bV) = false := beq_eq_false_iff_ne.2 hv
              have HR : Hid (toldB (ts.take (k + 1)) ⟨bV, bU, bN, bX, bM⟩ = false) := by rw [HST.out]; show _ = _; rw [decide_eq_false (fun c => hv c.1)]; rfl
              clear HST
              go_wp2
              go_quiet (fail)
              go_wp2
              go_roundw
              case rel => exact ⟨k + 1, by omega, by go_num, by rw [HR.out], below_drewN bq _⟩
              case measure => simp [intOf]; omega
        · have hkm : Hid (ts.take k = ts) := by
            show ts.take k = ts
            exact List.take_of_length_le (by rw [HM.out]; omega)
          rw [hkm.out]
          clear BT hkm
          generalize hT : toldB ts ⟨bV, bU, bN, bX, bM⟩ = T
          cases T with
          | true =>
            have HE := Lib.hid (HT.out hT)
            clear hT HT HW c0 c1 c2 c3
            go_wp2
            exact ⟨⟨i + 1, by omega, by simp, by rw [HE.out]; exact HI.out.later bq, HKS.out.later bq, HO.out⟩, by first | omega | (simp [intOf]; omega)⟩
          | false =>
            have HE := Lib.hid (HW.out hT)
            unfold nxR at HE
            have J := HI.out.later bq
            have HR6 := Lib.hid (J.alloc (.cells #[.int .i64 1, .int .i64 bV, .int .i64 0, .int .i64 bX, .int .i64 0, .string bU, .string bN, .string ⟨#[]⟩] 47))
            have HL6 := Lib.hid (RBuf.lit1 rcE wr ⟨1, bV, 0, bX, 0, bU, bN, ⟨#[]⟩⟩)
            have HKA := Lib.hid ((HKS.out.later bq).later (belNew wr (.cells #[.int .i64 1, .int .i64 bV, .int .i64 0, .int .i64 bX, .int .i64 0, .string bU, .string bN, .string ⟨#[]⟩] 47)))
            clear hT HT HW J
            go_wp2_with (at_builtin; refine wpList_append_rows rfl _ _ rcE rfl gO _ _ rfl HR6.out.here wr.heap.size _ [⟨1, bV, 0, bX, 0, bU, bN, ⟨#[]⟩⟩] rfl HL6.out (by show _ * 89 ≤ _; simp only [List.length_cons, List.length_nil]; omega) ?_; intro v6 w6 r6 g6 at6)
            exact ⟨⟨i + 1, by omega, by simp, by rw [HE.out]; exact ⟨r6.own, HR6.out.bel.grown g6 HR6.out.le (fun k hk => (HR6.out.own.lt k hk).1), r6.le⟩, HKA.out.app g6 HO.out, fun k hk => by
              rcases at6 with e | e
              · exact HO.out k (e ▸ hk)
              · rw [e] at hk; cases hk; exact .inr HKA.out.size⟩, by first | omega | (simp [intOf]; omega)⟩
    · clear BS
      go_wp2
      go_ret
      refine ⟨_, rfl, ?_⟩
      have hil : ss.take i = ss := List.take_of_length_le (by rw [HN.out]; omega)
      rw [hil] at I
      rw [HGO.out]
      exact I

end Go.Proofs.YtahebgceoidebaaGreat
