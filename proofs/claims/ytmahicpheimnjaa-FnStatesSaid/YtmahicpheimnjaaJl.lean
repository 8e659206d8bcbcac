/- Texts of our own, joined. -/
import Derived.Test.YtmahicpheimnjaaJj
import Derived.Test.YtmahicpheimnjaaJi
import Derived.Test.YtmahicpheimnjaaJg
import Derived.Test.YtmahicpheimnjaaJk
import Derived.Test.YtmahicpheimnjaaJe
import Derived.Test.YtmahicpheimnjaaJf
import Derived.Test.YtmahicpheimnjaaJd
import Derived.Test.YtmahicpheimnjaaJa
import Derived.Maps.RangeWalk
import Derived.Maps.OwnSet
/- What is drawn for the chapter on what records tell: states of whatever make. -/
namespace Go.Proofs.Ytmahicpheimnjaa
open Go.RowKit

/-- Small states. -/
def StD (bs : List Bx) : Prop := bs.length ≤ 300 ∧ ∀ b ∈ bs, b.mails.length ≤ 300 ∧ b.user.size ≤ 1000 ∧ b.name.size ≤ 1000
theorem StD.set {bs : List Bx} (h : StD bs) {j : Nat} {b : Bx} (hb : b.mails.length ≤ 300 ∧ b.user.size ≤ 1000 ∧ b.name.size ≤ 1000) : StD (bs.set j b) := by
  refine ⟨by rw [List.length_set]; exact h.1, fun y hy => ?_⟩
  rcases List.mem_or_eq_of_mem_set hy with h1 | rfl
  · exact h.2 y h1
  · exact hb
theorem StD.of_its {l : List Itm} (h : ItsD l) : StD (stateL l) := by
  have hs := stateL_small l
  refine ⟨by omega, fun b hb => ?_⟩
  have h1 := hs.2 b hb
  rw [show stateL l = tellAll l from if_pos h.1] at hb
  obtain ⟨v, hv, rfl⟩ := List.mem_map.1 hb
  refine ⟨by omega, ?_, ?_⟩
  · show ((tellO v l).elim emp (fun y => y.2.user)).size ≤ 1000
    cases ht : tellO v l with
    | none => show emp.size ≤ 1000; decide
    | some y =>
      have hy : y ∈ l := by
        have h9 := bestO_I (fun x => x.2.next) (fun x => decide (x.2.kind = 1 ∧ x.2.valid = v)) l
        unfold tellO at ht
        rw [ht] at h9
        exact h9.1
      have := (h.2.2.1 y hy).1
      show y.2.user.size ≤ 1000
      omega
  · show ((tellO v l).elim emp (fun y => y.2.name)).size ≤ 1000
    cases ht : tellO v l with
    | none => show emp.size ≤ 1000; decide
    | some y =>
      have hy : y ∈ l := by
        have h9 := bestO_I (fun x => x.2.next) (fun x => decide (x.2.kind = 1 ∧ x.2.valid = v)) l
        unfold tellO at ht
        rw [ht] at h9
        exact h9.1
      have := (h.2.2.1 y hy).2.1
      show y.2.name.size ≤ 1000
      omega

/-- What is known while a state is drawn. -/
structure StI (pc : Nat) (a : Option Addr) (len cap : Nat) (w : World) (gS B : Nat) (v : Value) (bs : List Bx) (hs : List BxH) (X : World) : Prop where
  cur : Cur X pc a len cap
  grown : w.grownBy X (some pc)
  res : Box X w.heap.size #[.slice none 0 0] 28
  sv : Box X gS #[v] 28
  st : StO B X v bs hs
  lt : w.heap.size < B
  gs : w.heap.size < gS
  ne : v.ownBlock ≠ some gS ∧ ∀ (j : Nat) (x : BxH), hs[j]? = some x → x.mv.ownBlock ≠ some gS
theorem StI.store {pc : Nat} {a : Option Addr} {len cap : Nat} {w : World} {gS B g n cb : Nat} {bs : List Bx} {hs : List BxH} {X : World} (I : StI pc a len cap w gS B (.slice (some ⟨g, 0, none⟩) n cb) bs hs X) (hw : Cur w pc a len cap) (hn : n = hs.length) {j : Nat} {y : BxH} (hy : hs[j]? = some y) {b : Bx} (hb : bs[j]? = some b)
    (c : Nat) (hc : c < 5) (u : Value) (y' : BxH) (hf : hdE.f y' = (hdE.f y).set c u) (hmv : y'.mv = y.mv) (b' : Bx) (hb' : y'.valid = b'.valid ∧ y'.user = b'.user ∧ y'.name = b'.name ∧ y'.next = b'.next) (hm : b'.mails = b.mails) :
    StI pc a len cap w gS B (.slice (some ⟨g, 0, none⟩) n cb) (bs.set j b') (hs.set j y') (X.setCell ⟨g, j * 5 + c, none⟩ u) := by
  have hg := (I.st.where'.1 g rfl).1
  have hlt := I.lt
  have hgS : gS ≠ g := fun e => I.ne.1 (by rw [e]; rfl)
  refine ⟨I.cur.new hw (by omega) _ _, grownBy_new I.grown (by omega) _ _, I.res.other (by omega) _ _, I.sv.other hgS _ _, I.st.store hn hy hb c hc u y' hf hmv b' hb' hm, I.lt, I.gs, I.ne.1, fun i z hz => ?_⟩
  rcases set_ways hz with ⟨rfl, rfl⟩ | ⟨_, hz⟩
  · rw [hmv]; exact I.ne.2 _ y hy
  · exact I.ne.2 i z hz
theorem StI.later {pc : Nat} {a : Option Addr} {len cap : Nat} {w : World} {gS B : Nat} {v : Value} {bs : List Bx} {hs : List BxH} {X Y : World} (I : StI pc a len cap w gS B v bs hs X) (hb : Below X.heap.size X Y) : StI pc a len cap w gS B v bs hs Y :=
  ⟨I.cur.below hb I.cur.lt I.cur.codeLt, grownBy_below I.grown hb I.grown.size, I.res.later hb, I.sv.later hb, I.st.later hb, I.lt, I.gs, I.ne⟩
/-- The mails of a box are another list. -/
theorem StO.newMails {B : Nat} {X Y : World} {g n cap : Nat} {bs : List Bx} {hs : List BxH} (h : StO B X (.slice (some ⟨g, 0, none⟩) n cap) bs hs) (hn : n = hs.length) {j : Nat} {y : BxH} (hy : hs[j]? = some y) {b : Bx} (hb : bs[j]? = some b)
    (pa : Option Addr) (pn pc : Nat) (ms : List Ml) (hr : RBuf mlE B Y Y (.slice pa pn pc) ms) (hg : X.grownBy Y y.mv.ownBlock) (ha : (Value.slice pa pn pc).ownBlock = y.mv.ownBlock ∨ (Value.slice pa pn pc).ownBlock = some X.heap.size) :
    StO B (Y.setCell ⟨g, j * 5 + 4, none⟩ (.slice pa pn pc)) (.slice (some ⟨g, 0, none⟩) n cap) (bs.set j ⟨b.valid, b.user, b.name, b.next, ms⟩) (hs.set j ⟨y.valid, y.user, y.name, y.next, pa, pn, pc⟩) := by
  subst hn
  have W1 := h.where'
  have hgX := (W1.1 g rfl).2
  have hr0 : RBuf hdE B Y Y (.slice (some ⟨g, 0, none⟩) hs.length cap) hs := h.row.shift hg (.inr (fun e => h.far j y hy g e.symm rfl))
  have hgs := stored_grown Y g (j * 5 + 4) (.slice pa pn pc)
  have hvg : ∀ k, (Value.slice pa pn pc).ownBlock = some k → k ≠ g := fun k hk e => by
    subst e
    rcases ha with e1 | e1
    · exact h.far j y hy k (by rw [← e1]; exact hk) rfl
    · rw [hk] at e1; have := Option.some.inj e1; omega
  have keptS : ∀ (m : Value) (ml : List Ml), RBuf mlE B Y Y m ml → (∀ k, m.ownBlock = some k → k ≠ g) → RBuf mlE B (Y.setCell ⟨g, j * 5 + 4, none⟩ (.slice pa pn pc)) (Y.setCell ⟨g, j * 5 + 4, none⟩ (.slice pa pn pc)) m ml := fun m ml hm hf => by
    refine hm.shift hgs ?_
    cases hmb : m.ownBlock with
    | none => exact .inl rfl
    | some k => exact .inr (fun e => hf k hmb (Option.some.inj e))
  have farG : ∀ {i : Nat} {z : BxH}, hs[i]? = some z → ∀ k, z.mv.ownBlock = some k → k ≠ g := fun {i z} hi k hk e => h.far i z hi k hk (by rw [e]; rfl)
  refine ⟨(hr0.stored j y ⟨y.valid, y.user, y.name, y.next, pa, pn, pc⟩ hy 4 (by decide) (.slice pa pn pc) rfl).here, by simp [h.len], fun i z d h1 h2 => ?_, fun i z h1 k hk => ?_, fun i k z u h1 h2 hik q hq => ?_⟩
  · rcases set_ways h1 with ⟨rfl, rfl⟩ | ⟨hne, h1⟩
    · rcases set_ways h2 with ⟨_, rfl⟩ | ⟨hne, _⟩
      · exact ⟨(h.at' _ y b hy hb).1, keptS _ _ hr hvg⟩
      · exact absurd rfl hne
    · rcases set_ways h2 with ⟨e, _⟩ | ⟨_, h2⟩
      · exact absurd e hne
      · refine ⟨(h.at' i z d h1 h2).1, keptS _ _ ((h.at' i z d h1 h2).2.shift hg ?_) (farG h1)⟩
        cases hz : z.mv.ownBlock with
        | none => exact .inl rfl
        | some k => exact .inr (fun e => h.apart i j z y h1 hy hne k hz e.symm)
  · rcases set_ways h1 with ⟨rfl, rfl⟩ | ⟨hne, h1⟩
    · intro e; exact hvg k hk (Option.some.inj e).symm
    · exact h.far i z h1 k hk
  · have hnew : ∀ {m : Nat} {r : BxH}, m ≠ j → hs[m]? = some r → ∀ k, (Value.slice pa pn pc).ownBlock = some k → r.mv.ownBlock ≠ some k := fun {m r} hm hr k hk e => by
      rcases ha with e1 | e1
      · exact h.apart m j r y hr hy hm k e (by rw [← e1]; exact hk)
      · rw [hk] at e1
        have h9 := Option.some.inj e1
        have := (W1.2 m r hr k e).2
        omega
    rcases set_ways h1 with ⟨ei, ez⟩ | ⟨ni, g1⟩
    · rcases set_ways h2 with ⟨ek, _⟩ | ⟨nk, g2⟩
      · exact absurd (ei.trans ek.symm) hik
      · rw [ez] at hq
        exact hnew nk g2 q hq
    · rcases set_ways h2 with ⟨_, eu⟩ | ⟨_, g2⟩
      · rw [eu]; intro e; exact hnew ni g1 q e hq
      · exact h.apart i k z u g1 g2 hik q hq
theorem StI.newMails {pc : Nat} {a : Option Addr} {len cap : Nat} {w : World} {gS B g n cb : Nat} {bs : List Bx} {hs : List BxH} {X Y : World} (I : StI pc a len cap w gS B (.slice (some ⟨g, 0, none⟩) n cb) bs hs X) (hw : Cur w pc a len cap) (hn : n = hs.length) {j : Nat} {y : BxH} (hy : hs[j]? = some y) {b : Bx} (hb : bs[j]? = some b)
    (pa : Option Addr) (pn q : Nat) (ms : List Ml) (hr : RBuf mlE B Y Y (.slice pa pn q) ms) (hg : X.grownBy Y y.mv.ownBlock) (ha : (Value.slice pa pn q).ownBlock = y.mv.ownBlock ∨ (Value.slice pa pn q).ownBlock = some X.heap.size) :
    StI pc a len cap w gS B (.slice (some ⟨g, 0, none⟩) n cb) (bs.set j ⟨b.valid, b.user, b.name, b.next, ms⟩) (hs.set j ⟨y.valid, y.user, y.name, y.next, pa, pn, q⟩) (Y.setCell ⟨g, j * 5 + 4, none⟩ (.slice pa pn q)) := by
  have hgB := (I.st.where'.1 g rfl).1
  have hlt := I.lt
  have hgS : gS ≠ g := fun e => I.ne.1 (by rw [e]; rfl)
  have hyB : ∀ k, y.mv.ownBlock = some k → B ≤ k := fun k hk => (I.st.where'.2 j y hy k hk).1
  have bXY : Below w.heap.size X Y := (Below.refl _ _).grown hg I.grown.size (fun k hk => by have := hyB k hk; omega)
  have hwlt := hw.lt
  refine ⟨(I.cur.below bXY hwlt hw.codeLt).new hw (by omega) _ _, grownBy_new (grownBy_below I.grown bXY (Nat.le_refl _)) (by omega) _ _, Box.other ((hg.block _ I.res.lt (fun e => by have := hyB _ e.symm; omega)).trans I.res) (by omega) _ _, Box.other ((hg.block _ I.sv.lt (fun e => I.ne.2 j y hy e.symm)).trans I.sv) hgS _ _, I.st.newMails hn hy hb pa pn q ms hr hg ha, I.lt, I.gs, I.ne.1, fun i z hz => ?_⟩
  rcases set_ways hz with ⟨rfl, rfl⟩ | ⟨_, hz⟩
  · show (Value.slice pa pn q).ownBlock ≠ some gS
    intro e
    rcases ha with e1 | e1
    · exact I.ne.2 _ y hy (by rw [← e1]; exact e)
    · rw [e] at e1
      have h9 := Option.some.inj e1
      have := I.sv.lt
      omega
  · exact I.ne.2 i z hz
theorem StI.cells {pc : Nat} {a : Option Addr} {len cap : Nat} {w : World} {gS B g n cb : Nat} {bs : List Bx} {hs : List BxH} {X Y : World} (I : StI pc a len cap w gS B (.slice (some ⟨g, 0, none⟩) n cb) bs hs X) (hn : n = hs.length) {j : Nat} {y : BxH} (hy : hs[j]? = some y) (hg : X.grownBy Y y.mv.ownBlock) :
    Y.cell? ⟨gS, 0, none⟩ = some (.slice (some ⟨g, 0, none⟩) n cb) ∧ Y.cell? ⟨g, j * 5 + 4, none⟩ = some (.slice y.a y.n y.c) ∧ Y.frozen? ⟨g, j * 5 + 4, none⟩ = false := by
  subst hn
  have hr0 : RBuf hdE B Y Y (.slice (some ⟨g, 0, none⟩) hs.length cb) hs := I.st.row.shift hg (.inr (fun e => I.st.far j y hy g e.symm rfl))
  have hS : Box Y gS #[.slice (some ⟨g, 0, none⟩) hs.length cb] 28 := (hg.block _ I.sv.lt (fun e => I.ne.2 j y hy e.symm)).trans I.sv
  exact ⟨hS.cell 0 _ rfl, hr0.cell rfl j y hy 4 _ rfl, hr0.loose _⟩
/-- What is written below them leaves them as they are. -/
theorem st_close {B m : Nat} {X : World} {v : Value} {bs : List Bx} {hs : List BxH} (h : StO B X v bs hs) (hm : m < B) (Y : World) (hz : X.heap.size ≤ Y.heap.size) (hk : ∀ k, m ≤ k → k < X.heap.size → Y.heap[k]? = X.heap[k]?) : BRd Y v bs := by
  have W1 := h.where'
  have S : StO B Y v bs hs := ⟨h.row.stay hz (fun k e => hk k (by have := (W1.1 k e).1; omega) (W1.1 k e).2), h.len, fun j x b e1 e2 => ⟨(h.at' j x b e1 e2).1, (h.at' j x b e1 e2).2.stay hz (fun k e => hk k (by have := (W1.2 j x e1 k e).1; omega) (W1.2 j x e1 k e).2)⟩, h.far, h.apart⟩
  exact S.rd

/-- A drawn state. -/
def StateR (pc : Nat) (a : Option Addr) (len cap : Nat) (w : World) (e : Ending) (w' : World) : Prop := ∃ (bs : List Bx) (v : Value), StD bs ∧ e = .returned (.agg #[v]) ∧ (∀ Y : World, w'.heap.size ≤ Y.heap.size → (∀ k, w.heap.size ≤ k → k < w'.heap.size → Y.heap[k]? = w'.heap[k]?) → BRd Y v bs) ∧ BRd w' v bs ∧ Cur w' pc a len cap ∧ w.grownBy w' (some pc)


end Go.Proofs.Ytmahicpheimnjaa

/- The draws of the chapter on what records tell. -/
namespace Go.Proofs.Ytmahicpheimnjaa
open Go.RowKit




end Go.Proofs.Ytmahicpheimnjaa

/- The draw of a state, a user and a name. -/
namespace Go.Proofs.Ytmahicpheimnjaa
open Go.RowKit

def BxDrawn (w : World) (e : Ending) (w' : World) : Prop := ∃ (l : List Itm) (v : Value) (us nm : ByteArray), ItsD l ∧ us.size ≤ 1000 ∧ nm.size ≤ 1000 ∧ e = .returned (.tuple #[.agg #[v], .string us, .string nm]) ∧ BRd w' v (stateL l) ∧ Below w.heap.size w w'
set_option maxRecDepth 100000 in
set_option maxHeartbeats 4000000 in
theorem drawBoxOf_any (a : Option Addr) (len cap : Nat) (w : World) (hcode : CodeIn w a len) (hs : len ≤ 1048576) :
    Calls Try.prog 8 #[.slice a len cap] w fun e w' => BxDrawn w e w' := by
  have hx := Box.new w #[.slice none 0 0] 28
  have b0 := belNew w (.cells #[.slice none 0 0] 28)
  have hz0 : w.heap.size < (w.alloc (.cells #[.slice none 0 0] 28)).heap.size := by simp
  have HCD := Lib.hid (hcode.later b0)
  clear hcode
  go_enter Try.func8, Try.ntmps8
  go_wp2_with fail
  generalize w.alloc (.cells #[.slice none 0 0] 28) = W at hx b0 hz0 HCD ⊢
  refine (new_any a len cap _ HCD.out hs).mono ?_
  rintro e w1 ⟨pc, hp, rfl, hc1, hb1⟩
  have D1 : Drw W pc a len cap w1 := ⟨hc1, hb1, hp⟩
  clear hc1 hb1
  go_wp2_with fail
  have hpk := pickStr_any [⟨#[97, 110, 110]⟩, ⟨#[98, 111, 98]⟩, ⟨#[110, 111, 110, 101]⟩] 3 pc a len cap _ D1.cur rfl (by omega) (by omega)
  simp only [List.map_cons, List.map_nil] at hpk
  refine hpk.mono ?_
  clear hpk
  rintro e w2 ⟨us, hus, rfl, hc2, hg2⟩
  have hsz : us.size ≤ 1000 := by
    simp only [List.mem_cons, List.not_mem_nil, or_false] at hus
    rcases hus with rfl | rfl | rfl <;> decide
  have D2 := D1.step hc2 hg2
  clear D1 hc2 hg2 hus
  go_wp2_with fail
  have hpk := pickStr_any [⟨#[105, 110, 98, 111, 120]⟩, ⟨#[119, 111, 114, 107]⟩, ⟨#[110, 111, 110, 101]⟩] 3 pc a len cap _ D2.cur rfl (by omega) (by omega)
  simp only [List.map_cons, List.map_nil] at hpk
  refine hpk.mono ?_
  clear hpk
  rintro e w3 ⟨nm, hnm, rfl, hc3, hg3⟩
  have hsn : nm.size ≤ 1000 := by
    simp only [List.mem_cons, List.not_mem_nil, or_false] at hnm
    rcases hnm with rfl | rfl | rfl <;> decide
  have D3 := D2.step hc3 hg3
  clear D2 hc3 hg3 hnm
  go_wp2_with fail
  refine (items_any pc a len cap _ D3.cur).mono ?_
  rintro e w4 ⟨l, v4, hD, rfl, R4, _, hc4, hg4⟩
  have D4 := D3.step hc4 hg4
  obtain ⟨a4, c4, rfl⟩ := R4.form
  have HD := Lib.hid hD
  have hl23 := hD.2.1
  have HSZ : Hid (∀ y ∈ l, y.2.user.size ≤ 1099511627776 ∧ y.2.name.size ≤ 1099511627776 ∧ y.2.text.size ≤ 1099511627776) := fun y hy => by have := HD.out.2.2.1 y hy; unfold Rc.slim at this; omega
  clear hD hc4 hg4 D3
  go_wp2_with fail
  refine (specStateOf_any l _ _ R4.rows (by omega) HSZ.out).mono ?_
  rintro e w5 ⟨bv, hsA, rfl, SA, k5⟩
  obtain ⟨a5, c5, rfl⟩ := SA.row.form
  have D5 := D4.later k5
  have hzW := D4.bel.size
  have hx5 := hx.later D5.bel
  have b5 := b0.trans (D5.bel.mono b0.size)
  have d1 := hx5.cell 0 _ rfl
  have d2 := hx5.loose 0
  have z0 := (hx5.set 0 (.slice a5 hsA.length c5)).cell 0 _ rfl
  have HR := Lib.hid (st_close (m := W.heap.size - 1 + 1) SA (by show _ < w4.heap.size; have := D4.cur.lt; omega) (w5.setCell ⟨w.heap.size, 0, none⟩ (.slice a5 hsA.length c5)) (by simp) (fun k h1 h2 => (stored_grown w5 w.heap.size 0 (.slice a5 hsA.length c5)).block k h2 (fun e => by have := Option.some.inj e; omega)))
  have HB := Lib.hid (b5.setCell (p := ⟨w.heap.size, 0, none⟩) (Nat.le_refl _) (.slice a5 hsA.length c5))
  clear SA k5 D4 D5 hx5 b5 hx b0 R4
  go_wp2
  refine bodyPost_ret (v := .tuple #[.agg #[.slice a5 hsA.length c5], .string us, .string nm]) (by simp [results, Try.results8, go_sem, z0]) rfl ?_
  exact ⟨l, _, us, nm, HD.out, hsz, hsn, rfl, HR.out, HB.out⟩

end Go.Proofs.Ytmahicpheimnjaa

/- ValidAfter of both, exactly, of items whose Valids are no less than 0. -/
namespace Go.Proofs.Ytmahicpheimnjaa
open Go.RowKit

/-- 1 more than the greatest Valid; 1 without any. -/
def vaOn (m : Int) (l : List Itm) : Int := l.foldl (fun m x => if m ≤ x.2.valid then x.2.valid + 1 else m) m
def vaOf (l : List Itm) : Int := vaOn 1 l
theorem vaOn_step {l : List Itm} {i : Nat} {x : Itm} (m : Int) (h : l[i]? = some x) : vaOn m (l.take (i + 1)) = if vaOn m (l.take i) ≤ x.2.valid then x.2.valid + 1 else vaOn m (l.take i) := by
  rw [List.take_add_one, h]
  unfold vaOn
  rw [List.foldl_append]
  rfl
theorem vaOn_twice (x : Itm) (t : List Itm) (hx : 0 ≤ x.2.valid) : vaOn (x.2.valid + 1) (x :: t) = vaOf (x :: t) := by
  show vaOn (if x.2.valid + 1 ≤ x.2.valid then x.2.valid + 1 else x.2.valid + 1) t = vaOn (if 1 ≤ x.2.valid then x.2.valid + 1 else 1) t
  have : (if x.2.valid + 1 ≤ x.2.valid then x.2.valid + 1 else x.2.valid + 1) = (if 1 ≤ x.2.valid then x.2.valid + 1 else 1) := by split <;> split <;> omega
  rw [this]

set_option maxRecDepth 100000 in
set_option maxHeartbeats 4000000 in
theorem specValidAfter_any (l : List Itm) (v : Value) (w : World) (h : Rows' itE w v l) (hl : l.length ≤ 1048576) (hv : ∀ x ∈ l, 0 ≤ x.2.valid ∧ x.2.valid ≤ 10000) :
    Calls Try.prog 15 #[v] w fun e w' => e = .returned (.int .i64 (vaOf l)) ∧ Below w.heap.size w w' := by
  obtain ⟨ad, cap, rfl, hrow⟩ := h.items
  have HR := Lib.hid hrow
  have HV := Lib.hid hv
  clear h hrow hv
  obtain ⟨n, hn⟩ : ∃ n, l.length = n := ⟨_, rfl⟩
  rw [hn] at hl ⊢
  have HN := Lib.hid hn
  clear hn
  go_enter Try.func15, Try.ntmps15
  go_wp2
  go_loopw [3, 4] (fun mv iv wr => ∃ (i : Nat) (m : Int), i ≤ n ∧ iv = .int .i64 (i : Int) ∧ mv = .int .i64 m ∧ Hid (vaOf (l.take i) = m) ∧ 1 ≤ m ∧ m ≤ 10001 ∧ Below w.heap.size w wr) (fun _ iv _ => n - (intOf iv).toNat)
  case atStart => exact ⟨0, 1, by omega, rfl, rfl, rfl, by omega, by omega, Below.refl _ _⟩
  case round =>
    obtain ⟨i, m, hi, rfl, rfl, HM, hm1, hm2, bq⟩ := hrel
    by_cases hlt : i < n
    · obtain ⟨x, hgx⟩ : ∃ x, l[i]? = some x := ⟨_, List.getElem?_eq_getElem (by rw [HN.out]; exact hlt)⟩
      obtain ⟨gq, oq, rfl, p0, p1, p2, p3, p4, p5, p6, p7, p8⟩ := HR.out _ bq i _ hgx
      have hvx := HV.out x (List.mem_of_getElem? hgx)
      have HT : Hid (vaOf (l.take (i + 1)) = if m ≤ x.2.valid then x.2.valid + 1 else m) := by
        show _ = _
        rw [← HM.out]
        exact vaOn_step 1 hgx
      obtain ⟨V, hV⟩ : ∃ V, x.2.valid = V := ⟨_, rfl⟩
      rw [hV] at p2 hvx HT
      have hi0 : (0 : Int) ≤ (i : Int) := by omega
      have hi1 : (i : Int) < (n : Int) := by omega
      clear hgx p0 p1 p3 p4 p5 p6 p7 p8 hV
      by_cases hmv : m ≤ V
      · rw [if_pos hmv] at HT
        go_wp2
        exact ⟨⟨i + 1, V + 1, by omega, by simp, by first | rfl | go_num, HT, by omega, by omega, bq⟩, by first | omega | (simp [intOf]; omega)⟩
      · rw [if_neg hmv] at HT
        go_wp2
        exact ⟨⟨i + 1, m, by omega, by simp, rfl, HT, by omega, by omega, bq⟩, by first | omega | (simp [intOf]; omega)⟩
    · have hge : ¬ (i : Int) < (n : Int) := by omega
      have HE : Hid (vaOf l = m) := by
        show _ = _
        rw [← HM.out, show i = l.length by rw [HN.out]; omega, List.take_length]
      go_wp2
      go_ret
      exact ⟨by rw [HE.out]; rfl, bq⟩

set_option maxRecDepth 100000 in
set_option maxHeartbeats 4000000 in
theorem implValidAfter_any (l : List Itm) (v : Value) (w : World) (h : Rows' itE w v l) (hl : l.length ≤ 1048576) (hv : ∀ x ∈ l, 0 ≤ x.2.valid ∧ x.2.valid ≤ 10000) :
    Calls Try.prog 14 #[v] w fun e w' => e = .returned (.int .i64 (vaOf l)) ∧ Below w.heap.size w w' := by
  obtain ⟨ad, cap, rfl, hrow⟩ := h.items
  have HR := Lib.hid hrow
  have HV := Lib.hid hv
  clear h hrow hv
  obtain ⟨n, hn⟩ : ∃ n, l.length = n := ⟨_, rfl⟩
  rw [hn] at hl ⊢
  have HN := Lib.hid hn
  clear hn
  by_cases h0 : n = 0
  · subst h0
    have HE : Hid (vaOf l = 1) := by
      show _ = _
      rw [List.length_eq_zero_iff.1 HN.out]
      rfl
    go_enter Try.func14, Try.ntmps14
    go_wp2
    go_ret
    exact ⟨by rw [HE.out]; rfl, Below.refl _ _⟩
  have hn0 : ¬ (n : Int) = 0 := by omega
  have hnb : ((n : Int) == 0) = false := beq_eq_false_iff_ne.2 hn0
  have hz1 : (0 : Int) < (n : Int) := by omega
  obtain ⟨x0, hx0⟩ : ∃ x0, l[0]? = some x0 := ⟨_, List.getElem?_eq_getElem (by rw [HN.out]; omega)⟩
  have hv0 := HV.out x0 (List.mem_of_getElem? hx0)
  have HE : Hid (vaOn (x0.2.valid + 1) l = vaOf l) := by
    show _ = _
    cases l with
    | nil => cases hx0
    | cons y t =>
      have hy : y = x0 := by simpa using hx0
      subst hy
      exact vaOn_twice _ t hv0.1
  obtain ⟨gp, op, rfl, p0, p1, p2, p3, p4, p5, p6, p7, p8⟩ := HR.out _ (Below.refl _ _) 0 _ hx0
  rw [show op + 0 * 9 + 2 = op + 2 by omega] at p2
  clear hx0 p0 p1 p3 p4 p5 p6 p7 p8
  obtain ⟨m0, hm0⟩ : ∃ m0, x0.2.valid = m0 := ⟨_, rfl⟩
  rw [hm0] at p2 hv0 HE
  clear hm0 h0
  go_enter Try.func14, Try.ntmps14
  go_wp2
  clear p2
  go_loopw [3, 16] (fun mv iv wr => ∃ (i : Nat) (m : Int), i ≤ n ∧ iv = .int .i64 (i : Int) ∧ mv = .int .i64 m ∧ Hid (vaOn (m0 + 1) (l.take i) = m + 1) ∧ 0 ≤ m ∧ m ≤ 10000 ∧ Below w.heap.size w wr) (fun _ iv _ => n - (intOf iv).toNat)
  case atStart => exact ⟨0, m0, by omega, rfl, rfl, rfl, by omega, by omega, Below.refl _ _⟩
  case round =>
    obtain ⟨i, m, hi, rfl, rfl, HM, hm1, hm2, bq⟩ := hrel
    by_cases hlt : i < n
    · obtain ⟨x, hgx⟩ : ∃ x, l[i]? = some x := ⟨_, List.getElem?_eq_getElem (by rw [HN.out]; exact hlt)⟩
      obtain ⟨gq, oq, eq, p0, p1, p2, p3, p4, p5, p6, p7, p8⟩ := HR.out _ bq i _ hgx
      cases eq
      have hvx := HV.out x (List.mem_of_getElem? hgx)
      have HT : Hid (vaOn (m0 + 1) (l.take (i + 1)) = if m + 1 ≤ x.2.valid then x.2.valid + 1 else m + 1) := by
        show _ = _
        rw [← HM.out]
        exact vaOn_step (m0 + 1) hgx
      obtain ⟨sq, K, V, U, N, FL, US, NM, TX⟩ := x
      simp only at p0 p1 p2 p3 p4 p5 p6 p7 p8 hvx
      replace HT : Hid (vaOn (m0 + 1) (l.take (i + 1)) = if m + 1 ≤ V then V + 1 else m + 1) := HT
      have hi0 : (0 : Int) ≤ (i : Int) := by omega
      have hi1 : (i : Int) < (n : Int) := by omega
      have b4 := bq.alloc bq.size (.cells #[.int .i64 sq, .int .i64 K, .int .i64 V, .int .i64 U, .int .i64 N, .int .i64 FL, .string US, .string NM, .string TX] 38)
      clear hgx
      by_cases hmv : m < V
      · rw [if_pos (by omega)] at HT
        go_wp2
        exact ⟨⟨i + 1, V, by omega, by simp, by first | rfl | (congr 1; omega) | simp [Int.max_def]; omega, HT, by omega, by omega, b4⟩, by first | omega | (simp [intOf]; omega)⟩
      · rw [if_neg (by omega)] at HT
        go_wp2
        exact ⟨⟨i + 1, m, by omega, by simp, by first | rfl | (congr 1; omega) | simp [Int.max_def]; omega, HT, by omega, by omega, b4⟩, by first | omega | (simp [intOf]; omega)⟩
    · have hge : ¬ (i : Int) < (n : Int) := by omega
      have HF : Hid (vaOf l = m + 1) := by
        show _ = _
        rw [← HM.out, show i = l.length by rw [HN.out]; omega, List.take_length]
        exact HE.out.symm
      go_wp2
      go_ret
      exact ⟨by rw [HF.out]; first | rfl | go_num, bq⟩

end Go.Proofs.Ytmahicpheimnjaa

/- What records tell, gathered box by box, plainly. -/
namespace Go.Proofs.Ytmahicpheimnjaa

/-- What the records of one box tell, as far as they came. -/
structure Tb where
  named : Itm
  next : Int
  adds : Int → Option Itm
  flags : Int → Option Itm
def Tb.nil : Tb := ⟨(0, Rc.nil), 0, fun _ => none, fun _ => none⟩

/-- The number of what is there, 0 without it. -/
def sqO (o : Option Itm) : Int := match o with | some y => y.1 | none => 0
/-- The latest one of a mail. -/
def keepL (f : Int → Option Itm) (x : Itm) : Int → Option Itm := if sqO (f x.2.uid) < x.1 then (fun u => if u = x.2.uid then some x else f u) else f
theorem keepL_lt {f : Int → Option Itm} {x : Itm} (h : sqO (f x.2.uid) < x.1) : keepL f x = fun u => if u = x.2.uid then some x else f u := if_pos h
theorem keepL_ge {f : Int → Option Itm} {x : Itm} (h : ¬ sqO (f x.2.uid) < x.1) : keepL f x = f := if_neg h
/-- One record more. -/
def takeT (t : Tb) (x : Itm) : Tb :=
  if x.2.kind = 1 then ⟨if aheadB (fun y => y.2.next) x t.named then x else t.named, max t.next x.2.next, t.adds, t.flags⟩
  else if x.2.kind = 3 then ⟨t.named, max t.next (x.2.uid + 1), keepL t.adds x, t.flags⟩
  else if x.2.kind = 4 then ⟨t.named, t.next, t.adds, keepL t.flags x⟩
  else if x.2.kind = 5 then ⟨t.named, max t.next (x.2.uid + 1), t.adds, t.flags⟩
  else t

def fmT (l : List Itm) (v : Int) : Tb := ⟨(tellO v l).getD (0, Rc.nil), mostOf 0 (nextK v) l, fun u => bestR 3 v u l, fun u => bestR 4 v u l⟩
open Classical in
noncomputable def toldT (l : List Itm) (v : Int) : Option Tb := if ∃ x ∈ l, x.2.valid = v then some (fmT l v) else none

theorem bestO_snoc (k : Itm → Int) (p : Itm → Bool) (l : List Itm) (x : Itm) : bestO k p (l ++ [x]) = bestStep k p (bestO k p l) x := by
  unfold bestO; rw [List.foldl_append]; rfl
theorem mostOf_snoc (b : Int) (f : Itm → Int) (l : List Itm) (x : Itm) : mostOf b f (l ++ [x]) = if mostOf b f l < f x then f x else mostOf b f l := by
  unfold mostOf; rw [List.foldl_append]; rfl
theorem mostOf_ge (b : Int) (f : Itm → Int) (l : List Itm) : b ≤ mostOf b f l := (mostFold f l b).1
theorem bestStep_out {k : Itm → Int} {p : Itm → Bool} {o : Option Itm} {x : Itm} (h : p x = false) : bestStep k p o x = o := by
  unfold bestStep; rw [h]; rfl
theorem bestStep_in {k : Itm → Int} {p : Itm → Bool} {x : Itm} (h : p x = true) : bestStep k p none x = some x := by
  unfold bestStep; rw [if_pos h]
theorem bestStep_more {k : Itm → Int} {p : Itm → Bool} {x y : Itm} (h : p x = true) : bestStep k p (some y) x = if aheadB k x y then some x else some y := by
  unfold bestStep; rw [if_pos h]

/-- Without a record of it nothing is told of a box. -/
theorem fmT_none {l : List Itm} {v : Int} (h : ¬ ∃ x ∈ l, x.2.valid = v) : fmT l v = Tb.nil := by
  have hb : ∀ (k : Itm → Int) (p : Itm → Bool), (∀ x, p x = true → x.2.valid = v) → bestO k p l = none := by
    intro k p hp
    have hI := bestO_I k p l
    cases e : bestO k p l with
    | none => rfl
    | some y =>
      rw [e] at hI
      exact absurd ⟨y, hI.1, hp y hI.2.1⟩ h
  have hm : mostOf 0 (nextK v) l = 0 := by
    have : ∀ (m : List Itm), (∀ x ∈ m, nextK v x = 0) → mostOf 0 (nextK v) m = 0 := by
      intro m
      unfold mostOf
      induction m with
      | nil => intro _; rfl
      | cons x m ih =>
        intro hx
        rw [List.foldl_cons, hx x (by simp)]
        exact ih (fun y hy => hx y (List.mem_cons_of_mem _ hy))
    refine this l (fun x hx => ?_)
    unfold nextK
    rw [if_neg (fun e => h ⟨x, hx, e⟩)]
  unfold fmT Tb.nil
  congr 1
  · unfold tellO
    rw [hb _ _ (fun x hx => (of_decide_eq_true hx).2)]; rfl
  · funext u
    exact hb _ _ (fun x hx => (of_decide_eq_true hx).2.1)
  · funext u
    exact hb _ _ (fun x hx => (of_decide_eq_true hx).2.1)
theorem toldT_getD (l : List Itm) (v : Int) : (toldT l v).getD Tb.nil = fmT l v := by
  unfold toldT
  by_cases h : ∃ x ∈ l, x.2.valid = v
  · rw [if_pos h]; rfl
  · rw [if_neg h, fmT_none h]; rfl
theorem toldT_some {l : List Itm} {v : Int} {t : Tb} (h : toldT l v = some t) : t = fmT l v := by
  unfold toldT at h
  split at h
  · cases h; rfl
  · cases h

theorem fmT_other {l : List Itm} {x : Itm} {v : Int} (hv : x.2.valid ≠ v) : fmT (l ++ [x]) v = fmT l v := by
  have h0 : nextK v x = 0 := by unfold nextK; rw [if_neg hv]
  unfold fmT
  congr 1
  · unfold tellO
    rw [bestO_snoc, bestStep_out (decide_eq_false (fun c => hv c.2))]
  · rw [mostOf_snoc, h0, if_neg (by have := mostOf_ge 0 (nextK v) l; omega)]
  · funext u; unfold bestR; rw [bestO_snoc, bestStep_out (decide_eq_false (fun c => hv c.2.1))]
  · funext u; unfold bestR; rw [bestO_snoc, bestStep_out (decide_eq_false (fun c => hv c.2.1))]

theorem best_keep {kind v : Int} {l : List Itm} {x : Itm} (hv : x.2.valid = v) (hk : x.2.kind = kind) (hs : 1 ≤ x.1) : (fun u => bestR kind v u (l ++ [x])) = keepL (fun u => bestR kind v u l) x := by
  funext u
  by_cases hu : x.2.uid = u
  · have hp : decide (x.2.kind = kind ∧ x.2.valid = v ∧ x.2.uid = u) = true := decide_eq_true ⟨hk, hv, hu⟩
    have e0 : bestR kind v u (l ++ [x]) = bestStep (fun _ => 0) (fun x' => decide (x'.2.kind = kind ∧ x'.2.valid = v ∧ x'.2.uid = u)) (bestR kind v u l) x := bestO_snoc _ _ _ _
    show bestR kind v u (l ++ [x]) = _
    rw [e0]
    cases e : bestR kind v u l with
    | none =>
      have h1 : sqO ((fun u => bestR kind v u l) x.2.uid) < x.1 := by
        show sqO (bestR kind v x.2.uid l) < x.1
        rw [hu, e]; show (0 : Int) < x.1; omega
      rw [bestStep_in hp, keepL_lt h1]
      simp [hu]
    | some y =>
      rw [bestStep_more hp]
      have h0 : sqO ((fun u => bestR kind v u l) x.2.uid) = y.1 := by
        show sqO (bestR kind v x.2.uid l) = y.1
        rw [hu, e]; rfl
      by_cases c : y.1 < x.1
      · rw [keepL_lt (by rw [h0]; exact c), if_pos (by unfold aheadB; exact decide_eq_true (.inr ⟨rfl, c⟩))]; simp [hu]
      · rw [keepL_ge (by rw [h0]; exact c), if_neg (fun h => by unfold aheadB at h; have := of_decide_eq_true h; dsimp only at this; omega)]; exact e.symm
  · have e : bestR kind v u (l ++ [x]) = bestR kind v u l := by
      show bestO _ _ _ = _
      rw [bestO_snoc, bestStep_out (decide_eq_false (fun c => hu c.2.2))]; rfl
    show bestR kind v u (l ++ [x]) = _
    rw [e]
    unfold keepL
    split
    · show _ = if u = x.2.uid then some x else bestR kind v u l
      rw [if_neg (fun c => hu c.symm)]
    · rfl
theorem best_skip {kind v : Int} {l : List Itm} {x : Itm} (hk : x.2.kind ≠ kind) : (fun u => bestR kind v u (l ++ [x])) = fun u => bestR kind v u l := by
  funext u
  show bestO _ _ _ = _
  rw [bestO_snoc, bestStep_out (decide_eq_false (fun c => hk c.1))]; rfl
theorem tell_skip {v : Int} {l : List Itm} {x : Itm} (hk : x.2.kind ≠ 1) : tellO v (l ++ [x]) = tellO v l := by
  unfold tellO
  rw [bestO_snoc, bestStep_out (decide_eq_false (fun c => hk c.1))]
theorem most_max {v : Int} {l : List Itm} {x : Itm} : mostOf 0 (nextK v) (l ++ [x]) = max (mostOf 0 (nextK v) l) (nextK v x) := by
  rw [mostOf_snoc]
  split <;> omega
/-- One record more, told. -/
theorem fmT_step {l : List Itm} {x : Itm} (hs : 1 ≤ x.1) (hok : x.2.ok) : fmT (l ++ [x]) x.2.valid = takeT (fmT l x.2.valid) x := by
  have hge := mostOf_ge 0 (nextK x.2.valid) l
  unfold takeT
  by_cases h1 : x.2.kind = 1
  · rw [if_pos h1]
    have hn : 1 ≤ x.2.next := by
      have h := hok.2.2.1
      rw [if_pos h1] at h
      exact h.2.2.1
    have hnk : nextK x.2.valid x = x.2.next := by unfold nextK; rw [if_pos rfl, if_pos h1]
    unfold fmT
    rw [most_max, hnk, best_skip (by omega), best_skip (by omega)]
    congr 1
    unfold tellO
    rw [bestO_snoc]
    cases e : bestO (fun y => y.2.next) (fun y => decide (y.2.kind = 1 ∧ y.2.valid = x.2.valid)) l with
    | none =>
      rw [bestStep_in (decide_eq_true ⟨h1, rfl⟩)]
      simp only [Option.getD]
      rw [if_pos (by unfold aheadB; exact decide_eq_true (.inl (by show (0 : Int) < x.2.next; omega)))]
    | some y =>
      rw [bestStep_more (decide_eq_true ⟨h1, rfl⟩)]
      by_cases c : aheadB (fun y => y.2.next) x y = true
      · rw [if_pos c]
        show x = if aheadB (fun y => y.2.next) x y = true then x else y
        rw [if_pos c]
      · rw [if_neg c]
        show y = if aheadB (fun y => y.2.next) x y = true then x else y
        rw [if_neg c]
  rw [if_neg h1]
  by_cases h3 : x.2.kind = 3
  · rw [if_pos h3]
    have hnk : nextK x.2.valid x = x.2.uid + 1 := by unfold nextK; rw [if_pos rfl, if_neg h1, if_pos (.inl h3)]
    unfold fmT
    rw [most_max, hnk, best_keep rfl h3 hs, best_skip (kind := 4) (by omega), tell_skip h1]
  rw [if_neg h3]
  by_cases h4 : x.2.kind = 4
  · rw [if_pos h4]
    have hnk : nextK x.2.valid x = 0 := by unfold nextK; rw [if_pos rfl, if_neg h1, if_neg (by omega)]
    unfold fmT
    rw [most_max, hnk, best_keep rfl h4 hs, best_skip (kind := 3) (by omega), tell_skip h1, Int.max_eq_left hge]
  rw [if_neg h4]
  by_cases h5 : x.2.kind = 5
  · rw [if_pos h5]
    have hnk : nextK x.2.valid x = x.2.uid + 1 := by unfold nextK; rw [if_pos rfl, if_neg h1, if_pos (.inr h5)]
    unfold fmT
    rw [most_max, hnk, best_skip (kind := 3) (by omega), best_skip (kind := 4) (by omega), tell_skip h1]
  rw [if_neg h5]
  have hnk : nextK x.2.valid x = 0 := by unfold nextK; rw [if_pos rfl, if_neg h1, if_neg (by omega)]
  unfold fmT
  rw [most_max, hnk, best_skip (kind := 3) (by omega), best_skip (kind := 4) (by omega), tell_skip h1, Int.max_eq_left hge]

theorem toldT_step {l : List Itm} {x : Itm} (hs : 1 ≤ x.1) (hok : x.2.ok) (v : Int) : toldT (l ++ [x]) v = if v = x.2.valid then some (takeT ((toldT l v).getD Tb.nil) x) else toldT l v := by
  by_cases c : v = x.2.valid
  · subst c
    rw [if_pos rfl, toldT_getD]
    unfold toldT
    rw [if_pos ⟨x, by simp, rfl⟩, fmT_step hs hok]
  · rw [if_neg c]
    have hi : (∃ y ∈ l ++ [x], y.2.valid = v) ↔ ∃ y ∈ l, y.2.valid = v := by
      constructor
      · rintro ⟨y, hy, e⟩
        rcases List.mem_append.1 hy with h | h
        · exact ⟨y, h, e⟩
        · simp at h; subst h; exact absurd e.symm c
      · rintro ⟨y, hy, e⟩; exact ⟨y, List.mem_append_left _ hy, e⟩
    unfold toldT
    rw [fmT_other (fun e => c e.symm)]
    by_cases d : ∃ y ∈ l, y.2.valid = v
    · rw [if_pos d, if_pos (hi.2 d)]
    · rw [if_neg d, if_neg (fun h => d (hi.1 h))]
theorem toldT_nil (v : Int) : toldT [] v = none := by unfold toldT; rw [if_neg (by simp)]

end Go.Proofs.Ytmahicpheimnjaa

/- Maps of a call's own, as functions: at each key what stands there, or nothing. -/
namespace Go.Proofs.Ytmahicpheimnjaa
open Go.RowKit
open Go.Maps (Keyed)

section
variable {β : Type}

open Classical in
/-- An element of a map, told by what it is the value of. -/
noncomputable def shp (mk : β → Value) (v : Value) : Option (DataW β × List MemPlace) :=
  if h : ∃ c, v = mk c then some (.held (Classical.choose h), []) else none

theorem shp_inv {mk : β → Value} {v : Value} {y : DataW β × List MemPlace} (h : shp mk v = some y) : ∃ c, v = mk c ∧ y = (.held c, []) := by
  unfold shp at h
  split at h
  · rename_i hc
    cases h
    exact ⟨_, Classical.choose_spec hc, rfl⟩
  · cases h

theorem shp_mk {mk : β → Value} (hi : ∀ x y, mk x = mk y → x = y) (c : β) : shp mk (mk c) = some (.held c, []) := by
  unfold shp
  have h : ∃ c', mk c = mk c' := ⟨c, rfl⟩
  rw [dif_pos h]
  have := hi _ _ (Classical.choose_spec h)
  rw [← this]
end

/-- How keys stand. -/
structure KeyE (P : Program) (κ : Type) where
  ty : TypeId
  law : Keyed P ty
  val : κ → Value
  lit : κ → Lit
  ok : κ → Prop
  key : ∀ x, ok x → keyOf P ty (val x) = some (lit x)
  inv : ∀ v l, keyOf P ty v = some l → ∃ x, ok x ∧ v = val x
  inj : ∀ x y, val x = val y → x = y

/-- Whole numbers as keys. -/
def intK {P : Program} (t : TypeId) (h : P.underlying t = some (.int .i64)) : KeyE P Int where
  ty := t
  law := Maps.int_keyed h
  val := Value.int .i64
  lit := Lit.int .i64
  ok := fun x => (Lit.int .i64 x).wf = true
  key := fun _ hx => Maps.keyOf_int_mk h hx
  inv := fun v l hv => by
    obtain ⟨x, rfl, rfl, hx⟩ := Maps.keyOf_int_inv h hv
    exact ⟨x, hx, rfl⟩
  inj := fun x y e => by cases e; rfl

section
variable {P : Program} {κ β : Type}

theorem KeyE.lit_inj (K : KeyE P κ) {x y : κ} (hx : K.ok x) (hy : K.ok y) (h : K.lit x = K.lit y) : x = y := by
  have h1 := K.key x hx
  have h2 := K.key y hy
  rw [h] at h1
  exact K.inj _ _ (K.law.inj h1 h2)

theorem KeyE.isKey (K : KeyE P κ) {x : κ} (hx : K.ok x) : WideAt.IsKeyLit (K.lit x) := K.law.key (K.key x hx)

/-- What a datum has at each key. -/
def Looks (K : KeyE P κ) (D : DataW β) (f : κ → Option β) : Prop :=
  ∀ x, K.ok x → (f x = none ∧ Maps.has D (K.lit x) = false) ∨ ∃ c, f x = some c ∧ Maps.has D (K.lit x) = true ∧ ∀ z, D.atKey (K.lit x) z = .held c

/-- The map in the block b holds f, in at most n entries. -/
def MapIs (K : KeyE P κ) (mk : β → Value) (w : World) (b n : Nat) (f : κ → Option β) : Prop :=
  ∃ D : DataW β, w.ownsMap P K.ty (shp mk) b n D ∧ Looks K D f

/-- It is gone through: what is still to come. -/
def MapGo (K : KeyE P κ) (mk : β → Value) (w : World) (b r n : Nat) (f : κ → Option β) (todo : κ → Bool) (cnt : Nat) : Prop :=
  ∃ (D : DataW β) (left : Lit → Bool), w.ranges P K.ty (shp mk) b r n D left cnt ∧ Looks K D f ∧ ∀ x, K.ok x → left (K.lit x) = todo x

variable {K : KeyE P κ} {mk : β → Value} {w w' : World} {b r n cnt : Nat} {f : κ → Option β} {todo : κ → Bool}

theorem MapIs.made (K : KeyE P κ) (mk : β → Value) (w : World) : MapIs K mk (w.alloc (.map #[] 0)) w.heap.size 0 (fun _ => none) :=
  ⟨.map [], World.ownsMap_made w P K.ty (shp mk), fun _ _ => .inl ⟨rfl, rfl⟩⟩
theorem MapIs.lt (h : MapIs K mk w b n f) : b < w.heap.size := by obtain ⟨D, h1, _⟩ := h; exact h1.lt
theorem MapIs.mono (h : MapIs K mk w b n f) {n' : Nat} (hn : n ≤ n') : MapIs K mk w b n' f := by obtain ⟨D, h1, h2⟩ := h; exact ⟨D, h1.mono hn, h2⟩
theorem MapIs.kept {row : Option Nat} (h : MapIs K mk w b n f) (hg : w.grownBy w' row) (hne : some b ≠ row) : MapIs K mk w' b n f := by
  obtain ⟨D, h1, h2⟩ := h
  exact ⟨D, h1.kept hg hne, h2⟩
theorem MapIs.later (h : MapIs K mk w b n f) (hb : Below w.heap.size w w') : MapIs K mk w' b n f :=
  h.kept (row := none) ⟨hb.os, hb.tape, hb.output, hb.size, fun k hk _ => hb.block k hk⟩ (by simp)
theorem MapIs.under {B : Nat} (h : MapIs K mk w b n f) (hb : Below B w w') (hl : b < B) : MapIs K mk w' b n f := by
  obtain ⟨D, ⟨es, clock, e, r⟩, h2⟩ := h
  exact ⟨D, ⟨es, clock, (hb.block b hl).trans e, r⟩, h2⟩
theorem MapIs.same (h : MapIs K mk w b n f) (e : w'.heap[b]? = w.heap[b]?) : MapIs K mk w' b n f := by
  obtain ⟨D, ⟨es, clock, e0, r⟩, h2⟩ := h
  exact ⟨D, ⟨es, clock, e.trans e0, r⟩, h2⟩
theorem MapIs.setCell (h : MapIs K mk w b n f) {a : Addr} (ha : b ≠ a.block) (u : Value) : MapIs K mk (w.setCell a u) b n f := by
  obtain ⟨D, h1, h2⟩ := h
  exact ⟨D, h1.setCell ha u, h2⟩
theorem MapIs.congr {g : κ → Option β} (h : MapIs K mk w b n f) (e : ∀ x, K.ok x → f x = g x) : MapIs K mk w b n g := by
  obtain ⟨D, h1, h2⟩ := h
  refine ⟨D, h1, fun x hx => ?_⟩
  rw [← e x hx]
  exact h2 x hx

/-- A block is no map and a row of cells. -/
theorem MapIs.notBox {cs : Array Value} {t : TypeId} (h : MapIs K mk w b n f) {g : Nat} (hb : Box w g cs t) : b ≠ g := by
  obtain ⟨D, ⟨es, clock, e, _⟩, _⟩ := h
  rintro rfl
  unfold Box at hb
  rw [e] at hb
  cases hb

theorem MapIs.look_there {t e : TypeId} (h : MapIs K mk w b n f) (ht : P.underlying t = some (.map K.ty e)) {z : Value} (hz : (zeroValue e).run P w = .ok z w) {x : κ} (hx : K.ok x) {c : β} (hf : f x = some c) (ok : Bool) :
    (Instr.lookup t (.map (some b)) (K.val x) ok).run P w = .ok (if ok then .tuple #[mk c, .bool true] else mk c) w := by
  obtain ⟨D, ⟨es, clock, hb, F, _, rfl⟩, hL⟩ := h
  rcases hL x hx with ⟨h1, _⟩ | ⟨c', h1, hh, h2⟩
  · rw [hf] at h1; cases h1
  · rw [hf] at h1
    cases h1
    rcases Maps.fit_look ok K.law ht hz hb F (K.key x hx) with ⟨hrun, _, hat⟩ | ⟨e0, y, _, _, hrun, hRv, hat, _⟩
    · have h3 := Maps.has_false_of_atKey hat
      rw [hh] at h3
      cases h3
    · obtain ⟨c2, e1, e2⟩ := shp_inv hRv
      have h3 : y.1 = .held c := (hat .nil).symm.trans (h2 .nil)
      rw [e2] at h3
      cases h3
      rw [e1] at hrun
      exact hrun

theorem MapIs.look_gone {t e : TypeId} (h : MapIs K mk w b n f) (ht : P.underlying t = some (.map K.ty e)) {z : Value} (hz : (zeroValue e).run P w = .ok z w) {x : κ} (hx : K.ok x) (hf : f x = none) (ok : Bool) :
    (Instr.lookup t (.map (some b)) (K.val x) ok).run P w = .ok (if ok then .tuple #[z, .bool false] else z) w := by
  obtain ⟨D, ⟨es, clock, hb, F, _, rfl⟩, hL⟩ := h
  rcases hL x hx with ⟨_, hh⟩ | ⟨c', h1, _⟩
  · rcases Maps.fit_look ok K.law ht hz hb F (K.key x hx) with ⟨hrun, _, hat⟩ | ⟨e0, y, _, _, hrun, hRv, hat, _⟩
    · exact hrun
    · have h3 := Maps.has_true_of_atKey hat
      rw [hh] at h3
      cases h3
  · rw [hf] at h1; cases h1

theorem MapIs.len {t e : TypeId} (h : MapIs K mk w b n f) (ht : P.underlying t = some (.map K.ty e)) (ty : TypeId) : ∃ k : Nat, k ≤ n ∧ (Builtin.len_ #[t] ty #[.map (some b)]).run P w = .ok (.int .i64 k) w := by
  obtain ⟨D, h1, _⟩ := h
  exact ⟨_, h1.size_le, h1.len ht ty⟩

/-! ### gone through -/
theorem MapGo.is (h : MapGo K mk w b r n f todo cnt) : MapIs K mk w b n f := by
  obtain ⟨D, left, h1, h2, _⟩ := h
  exact ⟨D, h1.owns, h2⟩
theorem MapGo.left_eq (h : MapGo K mk w b r n f todo cnt) : w.rangeLeft b r = cnt := by obtain ⟨D, left, h1, _⟩ := h; exact h1.left_eq
theorem MapGo.ne (h : MapGo K mk w b r n f todo cnt) : r ≠ b := by obtain ⟨D, left, h1, _⟩ := h; exact h1.ne
theorem MapGo.lt (h : MapGo K mk w b r n f todo cnt) : r < w.heap.size := by obtain ⟨D, left, h1, _⟩ := h; exact h1.lt
theorem MapGo.kept {row : Option Nat} (h : MapGo K mk w b r n f todo cnt) (hg : w.grownBy w' row) (h1 : some b ≠ row) (h2 : some r ≠ row) : MapGo K mk w' b r n f todo cnt := by
  obtain ⟨D, left, h3, h4⟩ := h
  exact ⟨D, left, h3.kept hg h1 h2, h4⟩
theorem MapGo.later (h : MapGo K mk w b r n f todo cnt) (hb : Below w.heap.size w w') : MapGo K mk w' b r n f todo cnt :=
  h.kept (row := none) ⟨hb.os, hb.tape, hb.output, hb.size, fun k hk _ => hb.block k hk⟩ (by simp) (by simp)
theorem MapGo.notBox {cs : Array Value} {t : TypeId} (h : MapGo K mk w b r n f todo cnt) {g : Nat} (hb : Box w g cs t) : r ≠ g := by
  obtain ⟨D, left, ⟨es, clock, _, _, _, _, _, _, _, e, _⟩, _⟩ := h
  rintro rfl
  unfold Box at hb
  rw [e] at hb
  cases hb

/-- 'range m', at the operation. -/
theorem wpList_range_is {ops : Array Oper} {rest : List Oper} {o : Oper} {a : Act} {Q : Exit → Act → World → Prop} (hg : o.guard = none) (m : Operand) (t : TypeId) (hop : o.op = Op.range t m)
    (K : KeyE P κ) (mk : β → Value) (e : TypeId) (ht : P.underlying t = some (.map K.ty e)) (b n : Nat) (f : κ → Option β) (hm : a.eval m = .map (some b)) (h : MapIs K mk w b n f)
    (hK : ∀ w' cnt, cnt ≤ n → MapGo K mk w' b w.heap.size n f (fun x => (f x).isSome) cnt → w.grownBy w' none → w'.heap.size = w.heap.size + 1 → wpList P ops Q rest (a.put o.dst (.pointer (some ⟨w.heap.size, 0, none⟩))) w') :
    wpList P ops Q (o :: rest) a w := by
  obtain ⟨D, h1, h2⟩ := h
  refine wpList_range_own w hg m t hop K.ty e K.law ht (shp mk) b n D hm h1 fun w' r1 r2 r3 => hK w' _ h1.size_le ⟨D, _, r1, h2, fun x hx => ?_⟩ r2 r3
  rcases h2 x hx with ⟨e1, e2⟩ | ⟨c, e1, e2, _⟩
  · show _ = (f x).isSome
    rw [e1, e2]; rfl
  · show _ = (f x).isSome
    rw [e1, e2]; rfl

variable [DecidableEq κ]

theorem Looks.put {D : DataW β} (h : Looks K D f) (hD : Maps.IsMap D) {x : κ} (hx : K.ok x) (c : β) : Looks K (D.put (K.lit x) (.held c)) (fun y => if y = x then some c else f y) := by
  intro y hy
  by_cases e : y = x
  · subst e
    refine .inr ⟨c, by simp, Maps.has_put_same hD (K.isKey hy) _, fun z => Maps.atKey_put_same hD (K.isKey hy) _ z⟩
  · have hne : K.lit y ≠ K.lit x := fun e2 => e (K.lit_inj hy hx e2)
    rcases h y hy with ⟨h1, h2⟩ | ⟨c', h1, h2, h3⟩
    · exact .inl ⟨by simp [e, h1], by rw [Maps.has_put_other hne]; exact h2⟩
    · exact .inr ⟨c', by simp [e, h1], by rw [Maps.has_put_other hne]; exact h2, fun z => by rw [Maps.atKey_put_other hne]; exact h3 z⟩

theorem Looks.del {D : DataW β} (h : Looks K D f) {x : κ} (hx : K.ok x) : Looks K (D.del (K.lit x)) (fun y => if y = x then none else f y) := by
  intro y hy
  by_cases e : y = x
  · subst e
    exact .inl ⟨by simp, Maps.has_del_same⟩
  · have hne : K.lit y ≠ K.lit x := fun e2 => e (K.lit_inj hy hx e2)
    rcases h y hy with ⟨h1, h2⟩ | ⟨c', h1, h2, h3⟩
    · exact .inl ⟨by simp [e, h1], by rw [Maps.has_del_other hne]; exact h2⟩
    · exact .inr ⟨c', by simp [e, h1], by rw [Maps.has_del_other hne]; exact h2, fun z => by rw [Maps.atKey_del_other hne]; exact h3 z⟩

/-- A store. -/
theorem MapIs.put {t e : TypeId} (h : MapIs K mk w b n f) (hi : ∀ x y, mk x = mk y → x = y) (ht : P.underlying t = some (.map K.ty e)) (hn : n < maxLen) {x : κ} (hx : K.ok x) (c : β) :
    ∃ w', (Instr.mapUpdate t (.map (some b)) (K.val x) (mk c)).run P w = .ok () w' ∧ MapIs K mk w' b (n + 1) (fun y => if y = x then some c else f y) ∧ w.grownBy w' (some b) ∧ w'.heap.size = w.heap.size := by
  obtain ⟨D, h1, h2⟩ := h
  obtain ⟨w', r1, r2, r3⟩ := h1.store K.law ht hn (K.key x hx) (shp_mk hi c)
  refine ⟨w', r1, ⟨_, r2, h2.put h1.isMap hx c⟩, r3.grown, ?_⟩
  obtain ⟨_, _, _, _, _, rfl⟩ := r3
  simp [ChangeMaps.setBlock]

theorem MapIs.del {t e : TypeId} (h : MapIs K mk w b n f) (ht : P.underlying t = some (.map K.ty e)) {x : κ} (hx : K.ok x) (ty : TypeId) :
    ∃ w', (Builtin.delete_ #[t, K.ty] ty #[.map (some b), K.val x]).run P w = .ok (.tuple #[]) w' ∧ MapIs K mk w' b n (fun y => if y = x then none else f y) ∧ w.grownBy w' (some b) ∧ w'.heap.size = w.heap.size := by
  obtain ⟨D, h1, h2⟩ := h
  obtain ⟨w', r1, r2, r3⟩ := h1.drop K.law ht (K.key x hx) ty
  refine ⟨w', r1, ⟨_, r2, h2.del hx⟩, r3.grown, ?_⟩
  obtain ⟨_, _, _, _, _, rfl⟩ := r3
  simp [ChangeMaps.setBlock]

/-- A store, at the operation. -/
theorem wpList_put {ops : Array Oper} {rest : List Oper} {o : Oper} {a : Act} {Q : Exit → Act → World → Prop} (hg : o.guard = none) (m x v : Operand) (t : TypeId) (hop : o.op = Op.mapUpdate t m x v)
    (K : KeyE P κ) (mk : β → Value) (hi : ∀ x y, mk x = mk y → x = y) (e : TypeId) (ht : P.underlying t = some (.map K.ty e)) (b n : Nat) (f : κ → Option β)
    (hm : a.eval m = .map (some b)) (h : MapIs K mk w b n f) (hn : n < maxLen) (y : κ) (c : β) (hx : a.eval x = K.val y) (hv : a.eval v = mk c) (hok : K.ok y)
    (hK : ∀ w', MapIs K mk w' b (n + 1) (fun z => if z = y then some c else f z) → w.grownBy w' (some b) → w'.heap.size = w.heap.size → wpList P ops Q rest (a.put o.dst undef) w') :
    wpList P ops Q (o :: rest) a w := by
  refine wpList_plain hg fun K' hK' => ?_
  obtain ⟨w', hrun, r1, r2, r3⟩ := h.put hi ht hn hok c
  unfold Oper.wp
  simp [execOp, hop, hm, hx, hv, hrun, Result.andThen]
  exact hK' _ _ (hK w' r1 r2 r3)

/-- A delete, at the operation. -/
theorem wpList_del {ops : Array Oper} {rest : List Oper} {o : Oper} {a : Act} {Q : Exit → Act → World → Prop} (hg : o.guard = none) (m x : Operand) (t : TypeId) (K : KeyE P κ) (hop : o.op = Op.call { callee := Callee.builtin Builtin.delete, args := #[m, x], argTypes := #[t, K.ty] })
    (mk : β → Value) (e : TypeId) (ht : P.underlying t = some (.map K.ty e)) (b n : Nat) (f : κ → Option β)
    (hm : a.eval m = .map (some b)) (h : MapIs K mk w b n f) (y : κ) (hx : a.eval x = K.val y) (hok : K.ok y)
    (hK : ∀ w', MapIs K mk w' b n (fun z => if z = y then none else f z) → w.grownBy w' (some b) → w'.heap.size = w.heap.size → wpList P ops Q rest (a.put o.dst (.tuple #[])) w') :
    wpList P ops Q (o :: rest) a w := by
  refine wpList_plain hg fun K' hK' => ?_
  obtain ⟨w', hrun, r1, r2, r3⟩ := h.del ht hok o.type
  unfold Oper.wp
  simp [execOp, hop, resolve, invoke, builtin, hm, hx, hrun, Result.andThen]
  exact hK' _ _ (hK w' r1 r2 r3)

/-- 'next', at the operation. -/
theorem wpList_next_is {ops : Array Oper} {rest : List Oper} {o : Oper} {a : Act} {Q : Exit → Act → World → Prop} (hg : o.guard = none) (it : Operand) (hop : o.op = Op.next it false)
    (K : KeyE P κ) (mk : β → Value) (hi : ∀ x y, mk x = mk y → x = y) (b r n : Nat) (f : κ → Option β) (todo : κ → Bool) (cnt : Nat) (hit : a.eval it = .pointer (some ⟨r, 0, none⟩)) (h : MapGo K mk w b r n f todo cnt)
    (hDone : (∀ x, K.ok x → todo x = false) → wpList P ops Q rest (a.put o.dst (.tuple #[.bool false])) w)
    (hMore : ∀ (x : κ) (c : β) (w' : World) (cnt' : Nat), K.ok x → todo x = true → f x = some c → MapGo K mk w' b r n f (fun y => todo y && !decide (y = x)) cnt' → cnt' < cnt → w.grownBy w' (some r) → w'.heap.size = w.heap.size →
      (Instr.entry (.pointer (some ⟨r, 0, none⟩))).run P w' = .ok (.tuple #[K.val x, mk c]) w' → wpList P ops Q rest (a.put o.dst (.tuple #[.bool true, K.val x, mk c])) w') :
    wpList P ops Q (o :: rest) a w := by
  obtain ⟨D, left, h1, h2, h3⟩ := h
  refine wpList_next_ranges (α := κ) (β := β) w hg it hop K.ty K.law (shp mk) K.val mk (fun key kl hk => ?_) (fun v y hv => ?_) b r n D left cnt hit h1 (fun _ hl => hDone fun x hx => by rw [← h3 x hx]; exact hl _) ?_
  · obtain ⟨x, _, rfl⟩ := K.inv key kl hk
    exact ⟨x, rfl⟩
  · obtain ⟨c, rfl, _⟩ := shp_inv hv
    exact ⟨c, rfl⟩
  · intro x c kl y w' cnt' hk hl hv hat hrg hlt hgr hsz hen
    obtain ⟨x', hx', e⟩ := K.inv _ _ hk
    have e' := K.inj _ _ e
    subst e'
    have ek : kl = K.lit x := Option.some.inj (hk.symm.trans (K.key x hx'))
    subst ek
    have hf : f x = some c := by
      have hh : Maps.has D (K.lit x) = true := Maps.has_true_of_atKey hat
      rcases h2 x hx' with ⟨_, e3⟩ | ⟨c', e3, _, e4⟩
      · rw [hh] at e3; cases e3
      · obtain ⟨c2, e5, e6⟩ := shp_inv hv
        have e7 : y.1 = .held c' := (hat .nil).symm.trans (e4 .nil)
        rw [e6] at e7
        cases e7
        rw [e3, hi _ _ e5]
    refine hMore x c w' cnt' hx' (by rw [← h3 x hx']; exact hl) hf ⟨D, _, hrg, h2, fun y' hy' => ?_⟩ hlt hgr hsz hen
    by_cases e3 : y' = x
    · subst e3
      simp [WideAt.sameKey_self (K.isKey hy')]
    · have : (K.lit y').sameKey (K.lit x) = false := Maps.sameKey_ne (fun e4 => e3 (K.lit_inj hy' hx' e4))
      rw [this, h3 y' hy']
      simp [e3]
end

end Go.Proofs.Ytmahicpheimnjaa
