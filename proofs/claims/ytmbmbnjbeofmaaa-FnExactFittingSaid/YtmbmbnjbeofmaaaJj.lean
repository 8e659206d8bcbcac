/- Texts of our own, joined. -/
import Derived.Test.YtmbmbnjbeofmaaaJi
import Derived.Test.YtmbmbnjbeofmaaaJd
import Derived.Test.YtmbmbnjbeofmaaaJe
import Derived.Deep.Slices
import Derived.Lib.SmallJoins
import Derived.ProofKit
import Derived.Test.YtmbmbnjbeofmaaaJf
/- The helpers of the exact laws over boxes and states: each is marked, and the marks are held. -/
namespace Go.Proofs.Ytmbmbnjbeofmaaa
open Go.RowKit

theorem set_ways {α : Type} {l : List α} {i j : Nat} {y z : α} (h : (l.set i y)[j]? = some z) : (j = i ∧ z = y) ∨ (j ≠ i ∧ l[j]? = some z) := by
  by_cases c : j = i
  · subst c
    have hl : j < l.length := by have := (List.getElem?_eq_some_iff.1 h).1; simpa using this
    rw [List.getElem?_set_self hl] at h
    exact .inl ⟨rfl, (Option.some.inj h).symm⟩
  · rw [List.getElem?_set_ne (fun e => c e.symm)] at h
    exact .inr ⟨c, h⟩

/-- One cell of a box's own put anew. -/
theorem StO.store {B : Nat} {w : World} {g n cap : Nat} {bs : List Bx} {hs : List BxH} (h : StO B w (.slice (some ⟨g, 0, none⟩) n cap) bs hs) (hn : n = hs.length) {i : Nat} {x : BxH} (hx : hs[i]? = some x) {b : Bx} (hb : bs[i]? = some b)
    (c : Nat) (hc : c < 5) (u : Value) (x' : BxH) (hf : hdE.f x' = (hdE.f x).set c u) (hmv : x'.mv = x.mv) (b' : Bx) (hb' : x'.valid = b'.valid ∧ x'.user = b'.user ∧ x'.name = b'.name ∧ x'.next = b'.next) (hm : b'.mails = b.mails) :
    StO B (w.setCell ⟨g, i * 5 + c, none⟩ u) (.slice (some ⟨g, 0, none⟩) n cap) (bs.set i b') (hs.set i x') := by
  subst hn
  have hg := grownBy_store w g (i * 5 + c) u
  have kept : ∀ (m : Value) (l : List Ml), RBuf mlE B w w m l → (∀ k, m.ownBlock = some k → (Value.slice (some ⟨g, 0, none⟩) hs.length cap).ownBlock ≠ some k) → RBuf mlE B (w.setCell ⟨g, i * 5 + c, none⟩ u) (w.setCell ⟨g, i * 5 + c, none⟩ u) m l := fun m l hm hf => by
    refine hm.shift hg ?_
    cases hmb : m.ownBlock with
    | none => exact .inl rfl
    | some k => exact .inr (fun e => hf k hmb e.symm)
  have hmvs : ∀ {j : Nat} {y : BxH}, (hs.set i x')[j]? = some y → ∃ z, hs[j]? = some z ∧ y.mv = z.mv := fun {j y} hj => by
    rcases set_ways hj with ⟨rfl, rfl⟩ | ⟨_, hj⟩
    · exact ⟨x, hx, hmv⟩
    · exact ⟨y, hj, rfl⟩
  refine ⟨(h.row.stored i x x' hx c hc u hf).here, by simp [h.len], fun j y d h1 h2 => ?_, fun j y h1 k hk => ?_, fun j k y z h1 h2 hjk q hq => ?_⟩
  · rcases set_ways h1 with ⟨rfl, rfl⟩ | ⟨hne, h1⟩
    · rcases set_ways h2 with ⟨_, rfl⟩ | ⟨hne, _⟩
      · refine ⟨hb', ?_⟩
        rw [hmv, hm]
        exact kept _ _ (h.at' j x b hx hb).2 (h.far j x hx)
      · exact absurd rfl hne
    · rcases set_ways h2 with ⟨e, _⟩ | ⟨_, h2⟩
      · exact absurd e hne
      · exact ⟨(h.at' j y d h1 h2).1, kept _ _ (h.at' j y d h1 h2).2 (h.far j y h1)⟩
  · obtain ⟨z, hz, e⟩ := hmvs h1
    rw [e] at hk
    exact h.far j z hz k hk
  · obtain ⟨y0, hy0, e1⟩ := hmvs h1
    obtain ⟨z0, hz0, e2⟩ := hmvs h2
    rw [e1] at hq
    rw [e2]
    exact h.apart j k y0 z0 hy0 hz0 hjk q hq

/-- The mails of a box put anew. -/
theorem StO.mails {B : Nat} {w w' : World} {v : Value} {bs : List Bx} {hs : List BxH} (h : StO B w v bs hs) {i : Nat} {x : BxH} (hx : hs[i]? = some x) {b : Bx} (hb : bs[i]? = some b) (ms : List Ml) (hr : RBuf mlE B w' w' x.mv ms) (hg : w.grownBy w' x.mv.ownBlock) :
    StO B w' v (bs.set i ⟨b.valid, b.user, b.name, b.next, ms⟩) hs := by
  refine ⟨h.row.shift hg ?_, by simp [h.len], fun j y d h1 h2 => ?_, h.far, h.apart⟩
  · cases hv : x.mv.ownBlock with
    | none =>
      cases hv2 : v.ownBlock with
      | none => exact .inl rfl
      | some k => exact .inr (fun e => by cases e)
    | some k => exact .inr (fun e => h.far i x hx k hv e)
  · rcases set_ways h2 with ⟨rfl, rfl⟩ | ⟨hne, h2⟩
    · rw [hx] at h1
      cases h1
      exact ⟨(h.at' j x b hx hb).1, hr⟩
    · refine ⟨(h.at' j y d h1 h2).1, (h.at' j y d h1 h2).2.shift hg ?_⟩
      cases hy : y.mv.ownBlock with
      | none => exact .inl rfl
      | some k => exact .inr (fun e => h.apart j i y x h1 hx hne k hy e.symm)

theorem StO.cellAt {B : Nat} {w : World} {g n cap : Nat} {bs : List Bx} {hs : List BxH} (h : StO B w (.slice (some ⟨g, 0, none⟩) n cap) bs hs) {i : Nat} {y : BxH} (hy : hs[i]? = some y) (hl : n = hs.length) (q : Nat) (u : Value) (hu : (hdE.f y)[q]? = some u) : w.cell? ⟨g, i * 5 + q, none⟩ = some u ∧ w.frozen? ⟨g, i * 5 + q, none⟩ = false := by
  subst hl
  exact ⟨h.row.cell rfl i y hy q u hu, h.row.loose _⟩



end Go.Proofs.Ytmbmbnjbeofmaaa

/- Lists copied element by element. -/
namespace Go.Proofs.Ytmbmbnjbeofmaaa
open Go.RowKit

/-- The first i elements of l, then nothing yet. -/
def copyTo {α : Type} (z : α) (l : List α) (i : Nat) : List α := l.take i ++ List.replicate (l.length - i) z
theorem copyTo_length {α : Type} {z : α} {l : List α} {i : Nat} (h : i ≤ l.length) : (copyTo z l i).length = l.length := by simp [copyTo]; omega
theorem copyTo_zero {α : Type} (z : α) (l : List α) : copyTo z l 0 = List.replicate l.length z := by simp [copyTo]
theorem copyTo_all {α : Type} {z : α} {l : List α} {i : Nat} (h : l.length ≤ i) : copyTo z l i = l := by
  rw [copyTo, List.take_of_length_le h, show l.length - i = 0 by omega]; simp
theorem copyTo_at {α : Type} {z : α} {l : List α} {i : Nat} (h : i < l.length) : (copyTo z l i)[i]? = some z := by
  have hm : (l.take i).length = i := by simp; omega
  rw [copyTo, List.getElem?_append_right (by omega), hm, Nat.sub_self, List.getElem?_replicate, if_pos (by omega)]
theorem copyTo_set {α : Type} {z : α} {l : List α} {i : Nat} (h : i < l.length) : (copyTo z l i).set i l[i] = copyTo z l (i + 1) := by
  have hm : (l.take i).length = i := by simp; omega
  rw [copyTo, List.set_append_right _ _ (by omega), hm, Nat.sub_self, copyTo, List.take_succ_eq_append_getElem h, List.append_assoc]
  have : l.length - i = (l.length - (i + 1)) + 1 := by omega
  rw [this, List.replicate_succ]
  rfl

theorem Rows'.at {α : Type} {E : Enc α} {w : World} {a : Option Addr} {cap : Nat} {l : List α} (h : Rows' E w (.slice a l.length cap) l) (i : Nat) (hi : i < l.length) :
    ∃ g off : Nat, a = some ⟨g, off, none⟩ ∧ ∀ w', Below w.heap.size w w' → ∀ k u, (E.f l[i])[k]? = some u → w'.cell? ⟨g, off + i * E.sz + k, none⟩ = some u := by
  rcases h.ways with ⟨h0, _⟩ | ⟨_, g, off, c, hv, hc, hg, hcl⟩
  · rw [h0] at hi; simp at hi
  · simp only [Value.slice.injEq] at hv
    exact ⟨g, off, hv.1, fun w' hb k u hu => (hb.cell (p := ⟨g, off + i * E.sz + k, none⟩) hg).trans (hcl i _ (List.getElem?_eq_getElem hi) k u hu)⟩

end Go.Proofs.Ytmbmbnjbeofmaaa

/- Boxes that come in: how great they are, and copies of them. -/
namespace Go.Proofs.Ytmbmbnjbeofmaaa
open Go.RowKit

def lmlE : Enc Ml where
  ty := 94
  sty := 56
  sz := 3
  bytes := 32
  zero := .agg #[.int .i64 0, .int .i64 0, .string ⟨#[]⟩]
  f := fun x => [.int .i64 x.uid, .int .i64 x.flags, .string x.text]
  len := fun _ => rfl
  pos := by decide
  one := fun _ u hu => by simp at hu; rcases hu with rfl | rfl | rfl <;> rfl
  und := Try.underlying56
  info := by kernel_rfl
  zc := rfl
  z0 := ⟨0, 0, ⟨#[]⟩⟩
  zf := rfl
theorem Rows'.lmails {w : World} {a : Option Addr} {n c : Nat} {l : List Ml} (h : Rows' lmlE w (.slice a n c) l) : n = l.length ∧ MlRow w a l := by
  rcases h.ways with ⟨rfl, a, c, e⟩ | ⟨hne, g, off, c, e, hc, hg, hcl⟩
  · cases e
    exact ⟨rfl, fun X _ i x hi => by cases hi⟩
  · cases e
    refine ⟨rfl, fun X hb i x hi => ⟨g, off, rfl, ?_⟩⟩
    have hk : ∀ k u, (lmlE.f x)[k]? = some u → X.cell? ⟨g, off + i * 3 + k, none⟩ = some u := fun k u hu => (hb.cell (p := ⟨g, off + i * 3 + k, none⟩) hg).trans (hcl i _ hi k u hu)
    exact ⟨hk 0 _ rfl, hk 1 _ rfl, hk 2 _ rfl⟩

def lhdE : Enc BxH where
  ty := 58
  sty := 22
  sz := 5
  bytes := 72
  zero := .agg #[.int .i64 0, .string ⟨#[]⟩, .string ⟨#[]⟩, .int .i64 0, .slice none 0 0]
  f := fun x => [.int .i64 x.valid, .string x.user, .string x.name, .int .i64 x.next, .slice x.a x.n x.c]
  len := fun _ => rfl
  pos := by decide
  one := fun _ u hu => by simp at hu; rcases hu with rfl | rfl | rfl | rfl | rfl <;> rfl
  und := Try.underlying22
  info := by kernel_rfl
  zc := rfl
  z0 := ⟨0, ⟨#[]⟩, ⟨#[]⟩, 0, none, 0, 0⟩
  zf := rfl
/-- Boxes that came in can be read. -/
def LBRd (w : World) (v : Value) (bs : List Bx) : Prop := ∃ hs : List BxH, Rows' lhdE w v hs ∧ hs.length = bs.length ∧
  ∀ (j : Nat) (h : BxH) (b : Bx), hs[j]? = some h → bs[j]? = some b → (h.valid = b.valid ∧ h.user = b.user ∧ h.name = b.name ∧ h.next = b.next) ∧ Rows' lmlE w h.mv b.mails
theorem LBRd.later {w w' : World} {v : Value} {bs : List Bx} (h : LBRd w v bs) (hb : Below w.heap.size w w') : LBRd w' v bs := by
  obtain ⟨hs, h1, h2, h3⟩ := h
  exact ⟨hs, h1.later hb, h2, fun j x b e1 e2 => ⟨(h3 j x b e1 e2).1, (h3 j x b e1 e2).2.later hb⟩⟩
theorem LBRd.boxes {w : World} {v : Value} {bs : List Bx} (h : LBRd w v bs) : ∃ (ad : Option Addr) (cap : Nat), v = .slice ad bs.length cap ∧ ∀ X, Below w.heap.size w X → ∀ (i : Nat) (b : Bx), bs[i]? = some b → ∃ (g off : Nat) (a : Option Addr) (n c : Nat), ad = some ⟨g, off, none⟩ ∧
    X.cell? ⟨g, off + i * 5, none⟩ = some (.int .i64 b.valid) ∧ X.cell? ⟨g, off + i * 5 + 1, none⟩ = some (.string b.user) ∧ X.cell? ⟨g, off + i * 5 + 2, none⟩ = some (.string b.name) ∧ X.cell? ⟨g, off + i * 5 + 3, none⟩ = some (.int .i64 b.next) ∧ X.cell? ⟨g, off + i * 5 + 4, none⟩ = some (.slice a n c) ∧ Rows' lmlE w (.slice a n c) b.mails := by
  obtain ⟨hs, h1, h2, h3⟩ := h
  rcases h1.ways with ⟨rfl, a, c, rfl⟩ | ⟨hne, g, off, c, rfl, hc, hg, hcl⟩
  · have : bs = [] := by rw [← List.length_eq_zero_iff, ← h2]; rfl
    subst this
    exact ⟨a, c, rfl, fun X _ i b hi => by cases hi⟩
  · refine ⟨_, c, by rw [h2], fun X hb i b hi => ?_⟩
    have hl : i < hs.length := by rw [h2]; exact (List.getElem?_eq_some_iff.1 hi).1
    have hx : hs[i]? = some hs[i] := List.getElem?_eq_getElem hl
    obtain ⟨⟨e1, e2, e3, e4⟩, hm⟩ := h3 i _ b hx hi
    have hk : ∀ k u, (lhdE.f hs[i])[k]? = some u → X.cell? ⟨g, off + i * 5 + k, none⟩ = some u := fun k u hu => (hb.cell (p := ⟨g, off + i * 5 + k, none⟩) hg).trans (hcl i _ hx k u hu)
    refine ⟨g, off, hs[i].a, hs[i].n, hs[i].c, rfl, ?_, ?_, ?_, ?_, hk 4 _ rfl, hm⟩
    · rw [← e1]; exact hk 0 _ rfl
    · rw [← e2]; exact hk 1 _ rfl
    · rw [← e3]; exact hk 2 _ rfl
    · rw [← e4]; exact hk 3 _ rfl

set_option maxRecDepth 100000 in
theorem szMail_any (m : Ml) (left : Int) (w : World) (hs : mlShort m) (h0 : 0 ≤ left) (h1 : left ≤ 1048576) :
    Calls Try.prog 44 #[.agg #[.int .i64 m.uid, .int .i64 m.flags, .string m.text], .int .i64 left] w fun e w' => (∃ r : Int, e = .returned (.int .i64 r) ∧ (r < 0 ∨ r = left - (m.text.size : Int))) ∧ Below w.heap.size w w' := by
  unfold mlShort at hs
  have b0 := belNew w (.cells #[.int .i64 m.uid, .int .i64 m.flags, .string m.text] 94)
  by_cases hn : left - (m.text.size : Int) < 0
  · go_enter Try.func44, Try.ntmps44
    go_wp2
    go_ret
    exact ⟨⟨-1, rfl, .inl (by omega)⟩, b0⟩
  · go_enter Try.func44, Try.ntmps44
    go_wp2
    go_ret
    exact ⟨⟨left - (m.text.size : Int), by first | rfl | go_num, .inr rfl⟩, b0⟩

set_option maxRecDepth 100000 in
set_option maxHeartbeats 2000000 in
theorem szMailS_any (l : List Ml) (v : Value) (left : Int) (w : World) (h : Rows' lmlE w v l) (h0 : 0 ≤ left) (h1 : left ≤ 1048576) (hl : l.length ≤ 9223372036854775807) (hz : ∀ m ∈ l, mlShort m) :
    Calls Try.prog 36 #[v, .int .i64 left] w fun e w' => (∃ r : Int, e = .returned (.int .i64 r) ∧ (r < 0 ∨ r = left - ((l.length + txs l : Nat) : Int))) ∧ Below w.heap.size w w' := by
  obtain ⟨ad, n, cap, rfl⟩ : ∃ ad n cap, v = .slice ad n cap := by
    rcases h.ways with ⟨_, a, c, e⟩ | ⟨_, g, off, c, e, _⟩
    · exact ⟨_, _, _, e⟩
    · exact ⟨_, _, _, e⟩
  obtain ⟨rfl, hrow⟩ := h.lmails
  have HR := Lib.hid hrow
  have HZ := Lib.hid hz
  clear h hrow hz
  by_cases hneg : left - (l.length : Int) < 0
  · go_enter Try.func36, Try.ntmps36
    go_wp2
    go_ret
    exact ⟨⟨-1, rfl, .inl (by omega)⟩, Below.refl _ _⟩
  · go_enter Try.func36, Try.ntmps36
    go_wp2
    go_loopw [1, 5] (fun rv iv wr => ∃ (i : Nat) (r : Int), i ≤ l.length ∧ iv = .int .i64 (i : Int) ∧ rv = .int .i64 r ∧ 0 ≤ r ∧ r ≤ 1048576 ∧ Hid (r = left - ((l.length + txs (l.take i) : Nat) : Int)) ∧ Below w.heap.size w wr) (fun _ iv _ => l.length - (intOf iv).toNat)
    case atStart => exact ⟨0, left - (l.length : Int), by omega, rfl, by first | rfl | go_num, by omega, by omega, show _ = _ by simp [txs], Below.refl _ _⟩
    case round =>
      obtain ⟨i, r, hi, rfl, rfl, hr0, hr1, HRE, hb⟩ := hrel
      by_cases hlt : i < l.length
      · have hgx : l[i]? = some l[i] := List.getElem?_eq_getElem hlt
        have hzx := HZ.out l[i] (List.getElem_mem hlt)
        obtain ⟨ga, oa, rfl, a0, a1, a2⟩ := HR.out _ hb i _ hgx
        generalize l[i] = x at *
        have HX := Lib.hid hgx
        have HS := Lib.hid (fun wx => szMail_any x r wx hzx hr0 hr1)
        have hi0 : (0 : Int) ≤ (i : Int) := by omega
        have hi1 : (i : Int) < (l.length : Int) := by omega
        clear hgx hzx
        go_wp2_with fail
        clear a0 a1 a2
        refine (HS.out _).mono ?_
        rintro e w1 ⟨⟨r1, rfl, hr⟩, k1⟩
        have HW := Lib.hid hr
        have b1 := hb.trans (k1.mono hb.size)
        clear hr
        by_cases hn : r1 < 0
        · go_wp2
          go_ret
          exact ⟨⟨-1, rfl, .inl (by omega)⟩, b1⟩
        · have HU : Hid (r1 ≤ 1048576 ∧ r1 = left - ((l.length + txs (l.take (i + 1)) : Nat) : Int)) := by
            have h2 := HRE.out
            rcases HW.out with h3 | h3
            · exact absurd h3 hn
            · rw [txs_take HX.out]
              exact ⟨by omega, by omega⟩
          go_wp2
          exact ⟨⟨i + 1, r1, by omega, by simp, rfl, by omega, HU.out.1, HU.out.2, b1⟩, by first | omega | (simp [intOf]; omega)⟩
      · have hge : ¬ (i : Int) < (l.length : Int) := by omega
        have HE : Hid (r = left - ((l.length + txs l : Nat) : Int)) := by
          have h2 := HRE.out
          rw [List.take_of_length_le (by omega)] at h2
          exact h2
        go_wp2
        go_ret
        exact ⟨⟨r, rfl, .inr HE.out⟩, hb⟩

set_option maxRecDepth 100000 in
set_option maxHeartbeats 2000000 in
theorem szBox_any (b : Bx) (a : Option Addr) (n c : Nat) (left : Int) (w : World) (h : Rows' lmlE w (.slice a n c) b.mails) (hz : bxShort b) (h0 : 0 ≤ left) (h1 : left ≤ 1048576) :
    Calls Try.prog 24 #[.agg #[.int .i64 b.valid, .string b.user, .string b.name, .int .i64 b.next, .slice a n c], .int .i64 left] w fun e w' => (∃ r : Int, e = .returned (.int .i64 r) ∧ (r < 0 ∨ r = left - (bz b : Int))) ∧ Below w.heap.size w w' := by
  obtain ⟨z1, z2, z3, z4⟩ := hz
  have b0 := belNew w (.cells #[.int .i64 b.valid, .string b.user, .string b.name, .int .i64 b.next, .slice a n c] 58)
  have HB : Hid (bz b = b.user.size + b.name.size + (b.mails.length + txs b.mails)) := by show _ = _; rfl
  by_cases hn1 : left - (b.user.size : Int) < 0
  · go_enter Try.func24, Try.ntmps24
    go_wp2
    go_ret
    exact ⟨⟨-1, rfl, .inl (by omega)⟩, b0⟩
  by_cases hn2 : left - (b.user.size : Int) - (b.name.size : Int) < 0
  · go_enter Try.func24, Try.ntmps24
    go_wp2
    go_ret
    exact ⟨⟨-1, rfl, .inl (by omega)⟩, b0⟩
  have HS := Lib.hid (szMailS_any b.mails _ (left - (b.user.size : Int) - (b.name.size : Int)) _ (h.later b0) (by omega) (by omega) z3 z4)
  clear h z4
  go_enter Try.func24, Try.ntmps24
  go_wp2_with fail
  refine HS.out.mono ?_
  rintro e w1 ⟨⟨r1, rfl, hr⟩, k1⟩
  have HW := Lib.hid hr
  have b1 := b0.trans (k1.mono b0.size)
  clear hr HS
  by_cases hn : r1 < 0
  · go_wp2
    go_ret
    exact ⟨⟨-1, rfl, .inl (by omega)⟩, b1⟩
  · go_wp2
    go_ret
    refine ⟨⟨r1, rfl, ?_⟩, b1⟩
    rcases HW.out with h3 | h3
    · exact .inl h3
    · have := HB.out; right; omega

set_option maxRecDepth 100000 in
set_option maxHeartbeats 2000000 in
theorem szBoxS_any (l : List Bx) (v : Value) (left : Int) (w : World) (h : LBRd w v l) (h0 : 0 ≤ left) (h1 : left ≤ 1048576) (hl : l.length ≤ 9223372036854775807) (hz : ∀ b ∈ l, bxShort b) :
    Calls Try.prog 11 #[v, .int .i64 left] w fun e w' => (∃ r : Int, e = .returned (.int .i64 r) ∧ (r < 0 ∨ r = left - ((l.length + bzs l : Nat) : Int))) ∧ Below w.heap.size w w' := by
  obtain ⟨ad, cap, rfl, hrow⟩ := h.boxes
  have HR := Lib.hid hrow
  have HZ := Lib.hid hz
  clear h hrow hz
  by_cases hneg : left - (l.length : Int) < 0
  · go_enter Try.func11, Try.ntmps11
    go_wp2
    go_ret
    exact ⟨⟨-1, rfl, .inl (by omega)⟩, Below.refl _ _⟩
  · go_enter Try.func11, Try.ntmps11
    go_wp2
    go_loopw [1, 5] (fun rv iv wr => ∃ (i : Nat) (r : Int), i ≤ l.length ∧ iv = .int .i64 (i : Int) ∧ rv = .int .i64 r ∧ 0 ≤ r ∧ r ≤ 1048576 ∧ Hid (r = left - ((l.length + bzs (l.take i) : Nat) : Int)) ∧ Below w.heap.size w wr) (fun _ iv _ => l.length - (intOf iv).toNat)
    case atStart => exact ⟨0, left - (l.length : Int), by omega, rfl, by first | rfl | go_num, by omega, by omega, show _ = _ by simp [bzs], Below.refl _ _⟩
    case round =>
      obtain ⟨i, r, hi, rfl, rfl, hr0, hr1, HRE, hb⟩ := hrel
      by_cases hlt : i < l.length
      · have hgx : l[i]? = some l[i] := List.getElem?_eq_getElem hlt
        have hzx := HZ.out l[i] (List.getElem_mem hlt)
        obtain ⟨ga, oa, am, nm, cm, rfl, a0, a1, a2, a3, a4, rm⟩ := HR.out _ hb i _ hgx
        generalize l[i] = x at *
        have HX := Lib.hid hgx
        have HS := Lib.hid (szBox_any x am nm cm r wr (rm.later hb) hzx hr0 hr1)
        have hi0 : (0 : Int) ≤ (i : Int) := by omega
        have hi1 : (i : Int) < (l.length : Int) := by omega
        clear hgx hzx rm
        go_wp2_with fail
        clear a0 a1 a2 a3 a4
        refine HS.out.mono ?_
        rintro e w1 ⟨⟨r1, rfl, hr⟩, k1⟩
        have HW := Lib.hid hr
        have b1 := hb.trans (k1.mono hb.size)
        clear hr
        by_cases hn : r1 < 0
        · go_wp2
          go_ret
          exact ⟨⟨-1, rfl, .inl (by omega)⟩, b1⟩
        · have HU : Hid (r1 ≤ 1048576 ∧ r1 = left - ((l.length + bzs (l.take (i + 1)) : Nat) : Int)) := by
            have h2 := HRE.out
            rcases HW.out with h3 | h3
            · exact absurd h3 hn
            · rw [bzs_take HX.out]
              exact ⟨by omega, by omega⟩
          go_wp2
          exact ⟨⟨i + 1, r1, by omega, by simp, rfl, by omega, HU.out.1, HU.out.2, b1⟩, by first | omega | (simp [intOf]; omega)⟩
      · have hge : ¬ (i : Int) < (l.length : Int) := by omega
        have HE : Hid (r = left - ((l.length + bzs l : Nat) : Int)) := by
          have h2 := HRE.out
          rw [List.take_of_length_le (by omega)] at h2
          exact h2
        go_wp2
        go_ret
        exact ⟨⟨r, rfl, .inr HE.out⟩, hb⟩

set_option maxRecDepth 100000 in
set_option maxHeartbeats 2000000 in
theorem szState_any (l : List Bx) (v : Value) (left : Int) (w : World) (h : LBRd w v l) (h0 : 0 ≤ left) (h1 : left ≤ 1048576) (hl : l.length ≤ 9223372036854775807) (hz : ∀ b ∈ l, bxShort b) :
    Calls Try.prog 4 #[.agg #[v], .int .i64 left] w fun e w' => (∃ r : Int, e = .returned (.int .i64 r) ∧ (r < 0 ∨ r = left - ((l.length + bzs l : Nat) : Int))) ∧ Below w.heap.size w w' := by
  obtain ⟨ad, cap, rfl, _⟩ := h.boxes
  have b0 := belNew w (.cells #[.slice ad l.length cap] 24)
  have HS := Lib.hid (szBoxS_any l _ left _ (h.later b0) h0 h1 hl hz)
  clear h hz
  go_enter Try.func4, Try.ntmps4
  go_wp2_with fail
  refine HS.out.mono ?_
  rintro e w1 ⟨⟨r1, rfl, hr⟩, k1⟩
  have HW := Lib.hid hr
  have b1 := b0.trans (k1.mono b0.size)
  clear hr HS
  by_cases hn : r1 < 0
  · go_wp2
    go_ret
    exact ⟨⟨-1, rfl, .inl (by omega)⟩, b1⟩
  · go_wp2
    go_ret
    exact ⟨⟨r1, rfl, HW.out⟩, b1⟩

end Go.Proofs.Ytmbmbnjbeofmaaa

/- Copies of boxes that come in. -/
namespace Go.Proofs.Ytmbmbnjbeofmaaa
open Go.RowKit

/-- A whole mail is stored. -/
theorem RBuf.put3 {B : Nat} {w0 w : World} {g cap : Nat} {l : List Ml} (h : RBuf mlE B w0 w (.slice (some ⟨g, 0, none⟩) l.length cap) l) (i : Nat) (x : Ml) (hi : l[i]? = some x) (y : Ml) :
    RBuf mlE B w0 (((w.setCell ⟨g, i * 3, none⟩ (.int .i64 y.uid)).setCell ⟨g, i * 3 + 1, none⟩ (.int .i64 y.flags)).setCell ⟨g, i * 3 + 2, none⟩ (.string y.text)) (.slice (some ⟨g, 0, none⟩) l.length cap) (l.set i y) := by
  have hlt : i < l.length := (List.getElem?_eq_some_iff.1 hi).1
  have hl1 : ∀ z : Ml, (l.set i z).length = l.length := fun z => by simp
  have ha1 : ∀ z : Ml, (l.set i z)[i]? = some z := fun z => List.getElem?_set_self hlt
  have s0 : RBuf mlE B w0 (w.setCell ⟨g, i * 3, none⟩ (.int .i64 y.uid)) (.slice (some ⟨g, 0, none⟩) l.length cap) (l.set i ⟨y.uid, x.flags, x.text⟩) := h.stored i _ ⟨y.uid, x.flags, x.text⟩ hi 0 (by decide) (.int .i64 y.uid) rfl
  rw [← hl1 ⟨y.uid, x.flags, x.text⟩] at s0
  have s1 := s0.stored i _ ⟨y.uid, y.flags, x.text⟩ (ha1 _) 1 (by decide) (.int .i64 y.flags) rfl
  rw [List.set_set, hl1] at s1
  rw [← hl1 ⟨y.uid, y.flags, x.text⟩] at s1
  have s2 := s1.stored i _ ⟨y.uid, y.flags, y.text⟩ (ha1 _) 2 (by decide) (.string y.text) rfl
  rw [List.set_set, hl1] at s2
  exact s2

set_option maxRecDepth 100000 in
theorem toMail_any (m : Ml) (w : World) : Calls Try.prog 45 #[.agg #[.int .i64 m.uid, .int .i64 m.flags, .string m.text]] w fun e w' => e = .returned (.agg #[.int .i64 m.uid, .int .i64 m.flags, .string m.text]) ∧ Below w.heap.size w w' := by
  go_enter Try.func45, Try.ntmps45
  go_wp2
  refine bodyPost_ret (v := .agg #[.int .i64 m.uid, .int .i64 m.flags, .string m.text]) (by simp [results, Try.results45, go_sem]) rfl ?_
  exact ⟨rfl, (((Below.refl _ _).alloc (Nat.le_refl _) _).alloc (by simp) _).alloc (by simp; omega) _⟩

set_option maxRecDepth 100000 in
set_option maxHeartbeats 2000000 in
theorem toMailS_any (l : List Ml) (v : Value) (w : World) (h : Rows' lmlE w v l) (hl : l.length ≤ 1048576) :
    Calls Try.prog 37 #[v] w fun e w' => ∃ v', e = .returned v' ∧ RBuf mlE w.heap.size w w' v' l := by
  obtain ⟨a, n, cap, rfl⟩ : ∃ ad n cap, v = .slice ad n cap := by
    rcases h.ways with ⟨_, a, c, e⟩ | ⟨_, g, off, c, e, _⟩
    · exact ⟨_, _, _, e⟩
    · exact ⟨_, _, _, e⟩
  obtain ⟨rfl, hrow⟩ := h.lmails
  have HR := Lib.hid hrow
  clear h hrow
  go_enter Try.func37, Try.ntmps37
  go_wp2_with (at_make; refine wpList_make_rows rfl _ _ mlE rfl .i64 .i64 _ _ l.length rfl rfl rfl rfl (by show 33 * l.length ≤ _; omega) ?_; intro w1 hr1 hs1)
  go_loopw [4] (fun iv wr => ∃ i : Nat, i ≤ l.length ∧ iv = .int .i64 (i : Int) ∧ RBuf mlE w.heap.size w wr (.slice (some ⟨w.heap.size, 0, none⟩) l.length l.length) (copyTo mlE.z0 l i)) (fun iv _ => l.length - (intOf iv).toNat)
  case atStart => exact ⟨0, by omega, rfl, by rw [copyTo_zero]; exact hr1⟩
  case round =>
    obtain ⟨i, hi, rfl, hbr⟩ := hrel
    by_cases hlt : i < l.length
    · have hgx : l[i]? = some l[i] := List.getElem?_eq_getElem hlt
      obtain ⟨ga, oa, rfl, a0, a1, a2⟩ := HR.out _ hbr.bel i _ hgx
      have hi0 : (0 : Int) ≤ (i : Int) := by omega
      have hi1 : (i : Int) < (l.length : Int) := by omega
      have hml := copyTo_length (z := mlE.z0) hi
      have hms := copyTo_set (z := mlE.z0) hlt
      have hat := copyTo_at (z := mlE.z0) hlt
      rw [← hml] at hbr
      have HF : Hid (∀ w1, Below wr.heap.size wr w1 → (w1.cell? ⟨w.heap.size, i * 3, none⟩ = some (.int .i64 0) ∧ w1.frozen? ⟨w.heap.size, i * 3, none⟩ = false ∧ w1.cell? ⟨w.heap.size, i * 3 + 1, none⟩ = some (.int .i64 0) ∧ w1.frozen? ⟨w.heap.size, i * 3 + 1, none⟩ = false ∧ w1.cell? ⟨w.heap.size, i * 3 + 2, none⟩ = some (.string ⟨#[]⟩) ∧ w1.frozen? ⟨w.heap.size, i * 3 + 2, none⟩ = false)) := by
        intro w1 hb1
        have h1 := hbr.later hb1
        exact ⟨h1.cell rfl i _ hat 0 _ rfl, h1.loose _, h1.cell rfl i _ hat 1 _ rfl, h1.loose _, h1.cell rfl i _ hat 2 _ rfl, h1.loose _⟩
      generalize hx : l[i] = x at *
      have HT := Lib.hid (fun wx => toMail_any x wx)
      clear hgx
      go_wp2_with (go_at_call 45; refine (HT.out _).mono ?_; rintro e w1 ⟨rfl, hb1⟩; obtain ⟨d0, f0, d1, f1, d2, f2⟩ := HF.out w1 hb1)
      have hp := (hbr.later hb1).put3 i _ hat x
      rw [hms, hml] at hp
      go_roundw
      case rel => exact ⟨i + 1, by omega, by go_num, hp⟩
      case measure => simp [intOf]; omega
    · go_wp2
      go_ret
      rw [copyTo_all (by omega)] at hbr
      exact ⟨_, rfl, hbr⟩

set_option maxRecDepth 100000 in
set_option maxHeartbeats 2000000 in
theorem toBox_any (b : Bx) (a : Option Addr) (n c : Nat) (w : World) (h : Rows' lmlE w (.slice a n c) b.mails) (hl : b.mails.length ≤ 1048576) :
    Calls Try.prog 28 #[.agg #[.int .i64 b.valid, .string b.user, .string b.name, .int .i64 b.next, .slice a n c]] w fun e w' => ∃ (p : Option Addr) (k q : Nat), e = .returned (.agg #[.int .i64 b.valid, .string b.user, .string b.name, .int .i64 b.next, .slice p k q]) ∧ RBuf mlE w.heap.size w' w' (.slice p k q) b.mails ∧ Below w.heap.size w w' := by
  have bA := belNew w (.cells #[.int .i64 b.valid, .string b.user, .string b.name, .int .i64 b.next, .slice a n c] 58)
  obtain ⟨wA, hwA⟩ : ∃ wA, wA = w.alloc (.cells #[.int .i64 b.valid, .string b.user, .string b.name, .int .i64 b.next, .slice a n c] 58) := ⟨_, rfl⟩
  have eA : wA.heap.size = w.heap.size + 1 := by rw [hwA]; simp
  rw [← hwA] at bA
  have hB := Box.new wA #[.int .i64 0, .string ⟨#[]⟩, .string ⟨#[]⟩, .int .i64 0, .slice none 0 0] 42
  have bB := bA.trans ((belNew wA (.cells #[.int .i64 0, .string ⟨#[]⟩, .string ⟨#[]⟩, .int .i64 0, .slice none 0 0] 42)).mono bA.size)
  obtain ⟨wB, hwB⟩ : ∃ wB, wB = wA.alloc (.cells #[.int .i64 0, .string ⟨#[]⟩, .string ⟨#[]⟩, .int .i64 0, .slice none 0 0] 42) := ⟨_, rfl⟩
  have eB : wB.heap.size = w.heap.size + 1 + 1 := by rw [hwB]; simp; omega
  rw [← hwB] at hB bB
  rw [eA] at hB
  have hC := Box.new wB #[.int .i64 b.valid, .string b.user, .string b.name, .int .i64 b.next, .slice none 0 0] 42
  have kC := belNew wB (.cells #[.int .i64 b.valid, .string b.user, .string b.name, .int .i64 b.next, .slice none 0 0] 42)
  have bC := bB.trans (kC.mono bB.size)
  obtain ⟨wC, hwC⟩ : ∃ wC, wC = wB.alloc (.cells #[.int .i64 b.valid, .string b.user, .string b.name, .int .i64 b.next, .slice none 0 0] 42) := ⟨_, rfl⟩
  have eC : wC.heap.size = w.heap.size + 1 + 1 + 1 := by rw [hwC]; simp; omega
  rw [← hwC] at hC kC bC
  rw [eB] at hC
  have hB' := hB.later kC
  have HT := Lib.hid (toMailS_any b.mails _ wC (h.later bC) hl)
  have HEC := Lib.hid eC
  have HWC : Hid (wC = ((w.alloc (.cells #[.int .i64 b.valid, .string b.user, .string b.name, .int .i64 b.next, .slice a n c] 58)).alloc (.cells #[.int .i64 0, .string ⟨#[]⟩, .string ⟨#[]⟩, .int .i64 0, .slice none 0 0] 42)).alloc (.cells #[.int .i64 b.valid, .string b.user, .string b.name, .int .i64 b.next, .slice none 0 0] 42)) := by rw [← hwA, ← hwB, ← hwC]; exact rfl
  clear h hB bB bA kC eA eB eC hwA hwB hwC
  go_enter Try.func28, Try.ntmps28
  go_wp2_with fail
  rw [← HWC.out]
  refine HT.out.mono ?_
  rintro e w1 ⟨v1, rfl, R1⟩
  obtain ⟨p, q, rfl⟩ := R1.form
  have B1 := hB'.later R1.bel
  have C1 := hC.later R1.bel
  have b1 := bC.trans (R1.bel.mono bC.size)
  obtain ⟨u0, u1, u2, u3, u4⟩ := B1.five
  obtain ⟨x0, x1, x2, x3, x4⟩ := C1.five
  have f0 := B1.loose 0
  have f1 := B1.loose 1
  have f2 := B1.loose 2
  have f3 := B1.loose 3
  have f4 := B1.loose 4
  have y4 := C1.loose 4
  have C2 : Box (w1.setCell ⟨w.heap.size + 1 + 1, 4, none⟩ (.slice p b.mails.length q)) (w.heap.size + 1 + 1) #[.int .i64 b.valid, .string b.user, .string b.name, .int .i64 b.next, .slice p b.mails.length q] 42 := C1.set 4 _
  have B2 : Box (w1.setCell ⟨w.heap.size + 1 + 1, 4, none⟩ (.slice p b.mails.length q)) (w.heap.size + 1) #[.int .i64 0, .string ⟨#[]⟩, .string ⟨#[]⟩, .int .i64 0, .slice none 0 0] 42 := B1.other (by omega) 4 _
  have hg1 : w.heap.size + 1 + 1 < wC.heap.size := by have := HEC.out; omega
  have R2 := Lib.hid (R1.here.aside (w.heap.size + 1 + 1) 4 (.slice p b.mails.length q) hg1)
  have b2 := Lib.hid (b1.setCell (p := ⟨w.heap.size + 1 + 1, 4, none⟩) (show w.heap.size ≤ w.heap.size + 1 + 1 by omega) (.slice p b.mails.length q))
  have HG := Lib.hid hg1
  clear hB' hC bC HT HWC HEC B1 C1 b1 R1 hg1
  go_upto_region 7 with fail
  generalize w1.setCell ⟨w.heap.size + 1 + 1, 4, none⟩ (.slice p b.mails.length q) = w2 at C2 B2 R2 b2 ⊢
  clear u0 u1 u2 u3 u4 x0 x1 x2 x3 x4 f0 f1 f2 f3 f4 y4
  obtain ⟨u0, u1, u2, u3, u4⟩ := B2.five
  obtain ⟨x0, x1, x2, x3, x4⟩ := C2.five
  have f0 := B2.loose 0
  have f1 := B2.loose 1
  have f2 := B2.loose 2
  have f3 := B2.loose 3
  have f4 := B2.loose 4
  have L5 : Box (set5 w2 (w.heap.size + 1) (.int .i64 b.valid) (.string b.user) (.string b.name) (.int .i64 b.next) (.slice p b.mails.length q)) (w.heap.size + 1) #[.int .i64 b.valid, .string b.user, .string b.name, .int .i64 b.next, .slice p b.mails.length q] 42 := ((((B2.set 0 _).set 1 _).set 2 _).set 3 _).set 4 _
  unfold set5 at L5
  obtain ⟨z0, z1, z2, z3, z4⟩ := L5.five
  clear L5 B2 C2
  go_wp2
  refine bodyPost_ret (v := .agg #[.int .i64 b.valid, .string b.user, .string b.name, .int .i64 b.next, .slice p b.mails.length q]) (by simp [results, Try.results28, go_sem, z0, z1, z2, z3, z4]) rfl ⟨_, _, _, rfl, ?_, ?_⟩
  · have hl : w.heap.size + 1 < wC.heap.size := by have := HG.out; omega
    exact (((((R2.out.aside _ 0 _ hl).aside _ 1 _ hl).aside _ 2 _ hl).aside _ 3 _ hl).aside _ 4 _ hl).lower (by omega)
  · exact ((((b2.out.setCell (p := ⟨w.heap.size + 1, 0, none⟩) (by simp) _).setCell (p := ⟨w.heap.size + 1, 1, none⟩) (by simp) _).setCell (p := ⟨w.heap.size + 1, 2, none⟩) (by simp) _).setCell (p := ⟨w.heap.size + 1, 3, none⟩) (by simp) _).setCell (p := ⟨w.heap.size + 1, 4, none⟩) (by simp) _

end Go.Proofs.Ytmbmbnjbeofmaaa

/- Boxes in memory of their own: what leaves them as they are. -/
namespace Go.Proofs.Ytmbmbnjbeofmaaa
open Go.RowKit

/-- What leaves the boxes' and the mails' blocks alone leaves them as they are. -/
theorem StO.shift {B : Nat} {w w' : World} {v : Value} {bs : List Bx} {hs : List BxH} {r : Option Nat} (h : StO B w v bs hs) (hg : w.grownBy w' r) (h1 : ∀ k, r = some k → v.ownBlock ≠ some k ∧ ∀ (j : Nat) (x : BxH), hs[j]? = some x → x.mv.ownBlock ≠ some k) : StO B w' v bs hs := by
  have sh : ∀ {α : Type} {E : Enc α} {m : Value} {l : List α}, RBuf E B w w m l → (∀ k, r = some k → m.ownBlock ≠ some k) → RBuf E B w' w' m l := fun {α E m l} hm hf => by
    refine hm.shift hg ?_
    cases hb : m.ownBlock with
    | none => exact .inl rfl
    | some k => exact .inr (fun e => hf k e.symm hb)
  exact ⟨sh h.row (fun k hk => (h1 k hk).1), h.len, fun j x b e1 e2 => ⟨(h.at' j x b e1 e2).1, sh (h.at' j x b e1 e2).2 (fun k hk => (h1 k hk).2 j x e1)⟩, h.far, h.apart⟩
/-- Where they lie: from B on, and below the heap's end. -/
theorem StO.where' {B : Nat} {w : World} {v : Value} {bs : List Bx} {hs : List BxH} (h : StO B w v bs hs) : (∀ k, v.ownBlock = some k → B ≤ k ∧ k < w.heap.size) ∧ ∀ (j : Nat) (x : BxH), hs[j]? = some x → ∀ k, x.mv.ownBlock = some k → B ≤ k ∧ k < w.heap.size := by
  refine ⟨fun k hk => h.row.own.lt k hk, fun j x hj k hk => ?_⟩
  have hl : j < hs.length := (List.getElem?_eq_some_iff.1 hj).1
  have hb : bs[j]? = some (bs[j]'(by rw [← h.len]; exact hl)) := List.getElem?_eq_getElem _
  exact (h.at' j x _ hj hb).2.own.lt k hk
/-- What is written from B' on, above them, leaves them. -/
theorem StO.under {B C : Nat} {w w' : World} {v : Value} {bs : List Bx} {hs : List BxH} (h : StO B w v bs hs) (hb : Below C w w') (h1 : ∀ k, v.ownBlock = some k → k < C) (h2 : ∀ (j : Nat) (x : BxH), hs[j]? = some x → ∀ k, x.mv.ownBlock = some k → k < C) : StO B w' v bs hs := by
  have sh : ∀ {α : Type} {E : Enc α} {m : Value} {l : List α}, RBuf E B w w m l → (∀ k, m.ownBlock = some k → k < C) → RBuf E B w' w' m l := fun {α E m l} hm hf => by
    refine ⟨⟨hm.own.1, ?_⟩, Below.refl _ _, Nat.le_trans hm.le hb.size⟩
    rcases hm.own.2 with e | ⟨g, cap, cur, rfl, hg, hh, hrest⟩
    · exact .inl e
    · exact .inr ⟨g, cap, cur, rfl, hg, (hb.block g (hf g rfl)).trans hh, hrest⟩
  exact ⟨sh h.row h1, h.len, fun j x b e1 e2 => ⟨(h.at' j x b e1 e2).1, sh (h.at' j x b e1 e2).2 (h2 j x e1)⟩, h.far, h.apart⟩
theorem StO.lower {B B0 : Nat} {w : World} {v : Value} {bs : List Bx} {hs : List BxH} (h : StO B w v bs hs) (hB : B0 ≤ B) : StO B0 w v bs hs :=
  ⟨h.row.lower hB, h.len, fun j x b h1 h2 => ⟨(h.at' j x b h1 h2).1, (h.at' j x b h1 h2).2.lower hB⟩, h.far, h.apart⟩

end Go.Proofs.Ytmbmbnjbeofmaaa

/- Copies of states that come in; states that come in opened. -/
namespace Go.Proofs.Ytmbmbnjbeofmaaa
open Go.RowKit

def Bx.z : Bx := ⟨0, ⟨#[]⟩, ⟨#[]⟩, 0, []⟩

/-- Five cells of a row stored. -/
def put5 (w : World) (g i : Nat) (y : BxH) : World := ((((w.setCell ⟨g, i * 5, none⟩ (.int .i64 y.valid)).setCell ⟨g, i * 5 + 1, none⟩ (.string y.user)).setCell ⟨g, i * 5 + 2, none⟩ (.string y.name)).setCell ⟨g, i * 5 + 3, none⟩ (.int .i64 y.next)).setCell ⟨g, i * 5 + 4, none⟩ (.slice y.a y.n y.c)
theorem put5_grown (w : World) (g i : Nat) (y : BxH) : w.grownBy (put5 w g i y) (some g) :=
  ((((stored_grown w g (i * 5) _).trans (stored_grown _ g (i * 5 + 1) _)).trans (stored_grown _ g (i * 5 + 2) _)).trans (stored_grown _ g (i * 5 + 3) _)).trans (stored_grown _ g (i * 5 + 4) _)
theorem RBuf.put5 {B : Nat} {w0 w : World} {g cap : Nat} {l : List BxH} (h : RBuf hdE B w0 w (.slice (some ⟨g, 0, none⟩) l.length cap) l) (i : Nat) (x : BxH) (hi : l[i]? = some x) (y : BxH) :
    RBuf hdE B w0 (Go.Proofs.Ytmbmbnjbeofmaaa.put5 w g i y) (.slice (some ⟨g, 0, none⟩) l.length cap) (l.set i y) := by
  have hlt : i < l.length := (List.getElem?_eq_some_iff.1 hi).1
  have hl1 : ∀ z : BxH, (l.set i z).length = l.length := fun z => by simp
  have ha1 : ∀ z : BxH, (l.set i z)[i]? = some z := fun z => List.getElem?_set_self hlt
  have s0 : RBuf hdE B w0 (w.setCell ⟨g, i * 5, none⟩ (.int .i64 y.valid)) (.slice (some ⟨g, 0, none⟩) l.length cap) (l.set i ⟨y.valid, x.user, x.name, x.next, x.a, x.n, x.c⟩) := h.stored i _ ⟨y.valid, x.user, x.name, x.next, x.a, x.n, x.c⟩ hi 0 (by decide) (.int .i64 y.valid) rfl
  rw [← hl1 ⟨y.valid, x.user, x.name, x.next, x.a, x.n, x.c⟩] at s0
  have s1 := s0.stored i _ ⟨y.valid, y.user, x.name, x.next, x.a, x.n, x.c⟩ (ha1 _) 1 (by decide) (.string y.user) rfl
  rw [List.set_set, hl1] at s1
  rw [← hl1 ⟨y.valid, y.user, x.name, x.next, x.a, x.n, x.c⟩] at s1
  have s2 := s1.stored i _ ⟨y.valid, y.user, y.name, x.next, x.a, x.n, x.c⟩ (ha1 _) 2 (by decide) (.string y.name) rfl
  rw [List.set_set, hl1] at s2
  rw [← hl1 ⟨y.valid, y.user, y.name, x.next, x.a, x.n, x.c⟩] at s2
  have s3 := s2.stored i _ ⟨y.valid, y.user, y.name, y.next, x.a, x.n, x.c⟩ (ha1 _) 3 (by decide) (.int .i64 y.next) rfl
  rw [List.set_set, hl1] at s3
  rw [← hl1 ⟨y.valid, y.user, y.name, y.next, x.a, x.n, x.c⟩] at s3
  have s4 := s3.stored i _ ⟨y.valid, y.user, y.name, y.next, y.a, y.n, y.c⟩ (ha1 _) 4 (by decide) (.slice y.a y.n y.c) rfl
  rw [List.set_set, hl1] at s4
  exact s4

/-- A whole box is put at its place. -/
theorem StO.put {B : Nat} {w : World} {g cap n : Nat} {bs : List Bx} {hs : List BxH} (h : StO B w (.slice (some ⟨g, 0, none⟩) n cap) bs hs) (hn : n = hs.length) {i : Nat} {x0 : BxH} (hi : hs[i]? = some x0) (x : BxH) (b : Bx)
    (hx : x.valid = b.valid ∧ x.user = b.user ∧ x.name = b.name ∧ x.next = b.next) (hm : RBuf mlE B w w x.mv b.mails) (hf : ∀ k, x.mv.ownBlock = some k → k ≠ g)
    (ha : ∀ (j : Nat) (y : BxH), hs[j]? = some y → ∀ k, x.mv.ownBlock = some k → y.mv.ownBlock ≠ some k) :
    StO B (Go.Proofs.Ytmbmbnjbeofmaaa.put5 w g i x) (.slice (some ⟨g, 0, none⟩) n cap) (bs.set i b) (hs.set i x) := by
  subst hn
  have hg := put5_grown w g i x
  have kept : ∀ (m : Value) (l : List Ml), RBuf mlE B w w m l → (∀ k, m.ownBlock = some k → k ≠ g) → RBuf mlE B (Go.Proofs.Ytmbmbnjbeofmaaa.put5 w g i x) (Go.Proofs.Ytmbmbnjbeofmaaa.put5 w g i x) m l := fun m l hm hf => by
    refine hm.shift hg ?_
    cases hmb : m.ownBlock with
    | none => exact .inl rfl
    | some k => exact .inr (fun e => hf k hmb (Option.some.inj e))
  have far0 : ∀ {j : Nat} {y : BxH}, hs[j]? = some y → ∀ k, y.mv.ownBlock = some k → k ≠ g := fun {j y} hj k hk e => h.far j y hj k hk (by rw [e]; rfl)
  refine ⟨(h.row.put5 i x0 hi x).here, by simp [h.len], fun j y d h1 h2 => ?_, fun j y h1 k hk => ?_, fun j k y z h1 h2 hjk q hq => ?_⟩
  · rcases set_ways h1 with ⟨rfl, rfl⟩ | ⟨hne, h1⟩
    · rcases set_ways h2 with ⟨_, rfl⟩ | ⟨hne, _⟩
      · exact ⟨hx, kept _ _ hm hf⟩
      · exact absurd rfl hne
    · rcases set_ways h2 with ⟨e, _⟩ | ⟨_, h2⟩
      · exact absurd e hne
      · exact ⟨(h.at' j y d h1 h2).1, kept _ _ (h.at' j y d h1 h2).2 (far0 h1)⟩
  · rcases set_ways h1 with ⟨rfl, rfl⟩ | ⟨hne, h1⟩
    · intro e; exact hf k hk (Option.some.inj e).symm
    · exact h.far j y h1 k hk
  · rcases set_ways h1 with ⟨ej, ey⟩ | ⟨_, g1⟩
    · rcases set_ways h2 with ⟨ek, _⟩ | ⟨_, g2⟩
      · exact absurd (ej.trans ek.symm) hjk
      · rw [ey] at hq
        exact ha k z g2 q hq
    · rcases set_ways h2 with ⟨_, ez⟩ | ⟨_, g2⟩
      · rw [ez]; intro e; exact ha j y g1 q e hq
      · exact h.apart j k y z g1 g2 hjk q hq

set_option maxRecDepth 100000 in
set_option maxHeartbeats 4000000 in
theorem toBoxS_any (l : List Bx) (v : Value) (w : World) (h : LBRd w v l) (hl : l.length ≤ 1048576) (hm : ∀ b ∈ l, b.mails.length ≤ 1048576) :
    Calls Try.prog 17 #[v] w fun e w' => ∃ v' hs, e = .returned v' ∧ StO w.heap.size w' v' l hs ∧ Below w.heap.size w w' := by
  obtain ⟨a, cap, rfl, hrow⟩ := h.boxes
  have HR := Lib.hid hrow
  have HM := Lib.hid hm
  clear h hrow hm
  go_enter Try.func17, Try.ntmps17
  go_wp2_with (at_make; refine wpList_make_rows rfl _ _ hdE rfl .i64 .i64 _ _ l.length rfl rfl rfl rfl (by show 73 * l.length ≤ _; omega) ?_; intro w1 hr1 hs1)
  have S0 : StO w.heap.size w1 (.slice (some ⟨w.heap.size, 0, none⟩) l.length l.length) (copyTo Bx.z l 0) (List.replicate l.length hdE.z0) := by
    rw [copyTo_zero]
    refine ⟨hr1.here, by simp, fun j x b h1 h2 => ?_, fun j x h1 k hk => ?_, fun i j x y h1 h2 _ k hk => ?_⟩
    · rw [List.getElem?_replicate] at h1 h2
      split at h1
      · rename_i c
        rw [if_pos c] at h2
        cases h1
        cases h2
        exact ⟨⟨rfl, rfl, rfl, rfl⟩, ⟨World.ownsRow_nil _ _ _ _, Below.refl _ _, hr1.le⟩⟩
      · cases h1
    · rw [List.getElem?_replicate] at h1
      split at h1
      · cases h1; cases hk
      · cases h1
    · rw [List.getElem?_replicate] at h1
      split at h1
      · cases h1; cases hk
      · cases h1
  have B0 : Below w.heap.size w w1 := hr1.bel
  go_loopw [4] (fun iv wr => ∃ (i : Nat) (hs : List BxH), i ≤ l.length ∧ iv = .int .i64 (i : Int) ∧ StO w.heap.size wr (.slice (some ⟨w.heap.size, 0, none⟩) l.length l.length) (copyTo Bx.z l i) hs ∧ Below w.heap.size w wr) (fun iv _ => l.length - (intOf iv).toNat)
  case atStart => exact ⟨0, _, by omega, rfl, S0, B0⟩
  case round =>
    clear S0 B0 hr1 hs1
    obtain ⟨i, hs, hi, rfl, S, hb⟩ := hrel
    by_cases hlt : i < l.length
    · have hgx : l[i]? = some l[i] := List.getElem?_eq_getElem hlt
      obtain ⟨ga, oa, am, nm, cm, rfl, a0, a1, a2, a3, a4, rm⟩ := HR.out _ hb i _ hgx
      have hi0 : (0 : Int) ≤ (i : Int) := by omega
      have hi1 : (i : Int) < (l.length : Int) := by omega
      have hml := copyTo_length (z := Bx.z) hi
      have hms := copyTo_set (z := Bx.z) hlt
      have hat := copyTo_at (z := Bx.z) hlt
      have hhl : l.length = hs.length := by rw [S.len, hml]
      obtain ⟨x0, hx0⟩ : ∃ x0, hs[i]? = some x0 := ⟨_, List.getElem?_eq_getElem (by omega)⟩
      have HF : Hid (∀ w1, Below wr.heap.size wr w1 → ∃ (v0 v3 : Int) (v1 v2 : ByteArray) (pa : Option Addr) (pn pc : Nat), w1.cell? ⟨w.heap.size, i * 5, none⟩ = some (.int .i64 v0) ∧ w1.frozen? ⟨w.heap.size, i * 5, none⟩ = false ∧ w1.cell? ⟨w.heap.size, i * 5 + 1, none⟩ = some (.string v1) ∧ w1.frozen? ⟨w.heap.size, i * 5 + 1, none⟩ = false ∧ w1.cell? ⟨w.heap.size, i * 5 + 2, none⟩ = some (.string v2) ∧ w1.frozen? ⟨w.heap.size, i * 5 + 2, none⟩ = false ∧ w1.cell? ⟨w.heap.size, i * 5 + 3, none⟩ = some (.int .i64 v3) ∧ w1.frozen? ⟨w.heap.size, i * 5 + 3, none⟩ = false ∧ w1.cell? ⟨w.heap.size, i * 5 + 4, none⟩ = some (.slice pa pn pc) ∧ w1.frozen? ⟨w.heap.size, i * 5 + 4, none⟩ = false) := by
        intro w1 hb1
        have h1 := S.later hb1
        have c0 := h1.cellAt hx0 hhl 0 _ rfl
        have c1 := h1.cellAt hx0 hhl 1 _ rfl
        have c2 := h1.cellAt hx0 hhl 2 _ rfl
        have c3 := h1.cellAt hx0 hhl 3 _ rfl
        have c4 := h1.cellAt hx0 hhl 4 _ rfl
        exact ⟨_, _, _, _, _, _, _, c0.1, c0.2, c1.1, c1.2, c2.1, c2.2, c3.1, c3.2, c4.1, c4.2⟩
      have hmx := HM.out l[i] (List.getElem_mem hlt)
      generalize hx : l[i] = x at *
      have HT := Lib.hid (toBox_any x am nm cm wr (rm.later hb) hmx)
      have HX0 := Lib.hid hx0
      have HHL := Lib.hid hhl
      clear hgx rm hx0 hhl hx hmx
      go_wp2_with (go_at_call 28; refine HT.out.mono ?_; rintro e w1 ⟨pp, pk, pq, rfl, RM, hb1⟩; obtain ⟨v0, v3, v1, v2, pa, pn, pc, d0, f0, d1, f1, d2, f2, d3, f3, d4, f4⟩ := HF.out w1 hb1)
      have hp := (S.later hb1).put HHL.out HX0.out ⟨x.valid, x.user, x.name, x.next, pp, pk, pq⟩ x ⟨rfl, rfl, rfl, rfl⟩ (RM.lower hb.size) (fun k hk e => by
        have h1 := (RM.own.lt k hk).1
        have h2 := (S.where'.1 w.heap.size rfl).2
        omega) (fun j y hj k hk e => by
        have h1 := (RM.own.lt k hk).1
        have h2 := (S.where'.2 j y hj k e).2
        omega)
      rw [hms] at hp
      have hbz : Below w.heap.size w (put5 w1 w.heap.size i ⟨x.valid, x.user, x.name, x.next, pp, pk, pq⟩) := (hb.trans (hb1.mono hb.size)).grown (put5_grown _ _ _ _) (Nat.le_trans hb.size hb1.size) (fun k hk => by have := Option.some.inj hk; omega)
      unfold put5 at hp hbz
      go_roundw
      case rel => exact ⟨i + 1, _, by omega, by go_num, hp, hbz⟩
      case measure => simp [intOf]; omega
    · go_wp2
      go_ret
      rw [copyTo_all (by omega)] at S
      exact ⟨_, _, rfl, S, hb⟩

set_option maxRecDepth 100000 in
set_option maxHeartbeats 4000000 in
theorem toState_any (l : List Bx) (v : Value) (w : World) (h : LBRd w v l) (hl : l.length ≤ 1048576) (hm : ∀ b ∈ l, b.mails.length ≤ 1048576) :
    Calls Try.prog 7 #[.agg #[v]] w fun e w' => ∃ v' hs, e = .returned (.agg #[v']) ∧ StO w.heap.size w' v' l hs ∧ Below w.heap.size w w' := by
  obtain ⟨ad, cap, rfl, _⟩ := h.boxes
  have bA := belNew w (.cells #[.slice ad l.length cap] 24)
  obtain ⟨wA, hwA⟩ : ∃ wA, wA = w.alloc (.cells #[.slice ad l.length cap] 24) := ⟨_, rfl⟩
  have eA : wA.heap.size = w.heap.size + 1 := by rw [hwA]; simp
  rw [← hwA] at bA
  have hB := Box.new wA #[.slice none 0 0] 32
  have bB := bA.trans ((belNew wA (.cells #[.slice none 0 0] 32)).mono bA.size)
  obtain ⟨wB, hwB⟩ : ∃ wB, wB = wA.alloc (.cells #[.slice none 0 0] 32) := ⟨_, rfl⟩
  have eB : wB.heap.size = w.heap.size + 1 + 1 := by rw [hwB]; simp; omega
  rw [← hwB] at hB bB
  rw [eA] at hB
  have hC := Box.new wB #[.slice none 0 0] 32
  have kC := belNew wB (.cells #[.slice none 0 0] 32)
  have bC := bB.trans (kC.mono bB.size)
  obtain ⟨wC, hwC⟩ : ∃ wC, wC = wB.alloc (.cells #[.slice none 0 0] 32) := ⟨_, rfl⟩
  have eC : wC.heap.size = w.heap.size + 1 + 1 + 1 := by rw [hwC]; simp; omega
  rw [← hwC] at hC kC bC
  rw [eB] at hC
  have hB' := hB.later kC
  have HT := Lib.hid (toBoxS_any l _ wC (h.later bC) hl hm)
  have HEC := Lib.hid eC
  have HWC : Hid (wC = ((w.alloc (.cells #[.slice ad l.length cap] 24)).alloc (.cells #[.slice none 0 0] 32)).alloc (.cells #[.slice none 0 0] 32)) := by rw [← hwA, ← hwB, ← hwC]; exact rfl
  clear h hB bB bA kC eA eB eC hwA hwB hwC hm
  go_enter Try.func7, Try.ntmps7
  go_wp2_with fail
  rw [← HWC.out]
  refine HT.out.mono ?_
  rintro e w1 ⟨v1, hs1, rfl, S1, k1⟩
  obtain ⟨p, q, rfl⟩ := S1.row.form
  have B1 := hB'.later k1
  have C1 := hC.later k1
  have b1 := bC.trans (k1.mono bC.size)
  have u0 := B1.cell 0 _ rfl
  have x0 := C1.cell 0 _ rfl
  have f0 := B1.loose 0
  have y0 := C1.loose 0
  have C2 : Box (w1.setCell ⟨w.heap.size + 1 + 1, 0, none⟩ (.slice p hs1.length q)) (w.heap.size + 1 + 1) #[.slice p hs1.length q] 32 := C1.set 0 _
  have B2 : Box (w1.setCell ⟨w.heap.size + 1 + 1, 0, none⟩ (.slice p hs1.length q)) (w.heap.size + 1) #[.slice none 0 0] 32 := B1.other (by omega) 0 _
  have hg1 : w.heap.size + 1 + 1 < wC.heap.size := by have := HEC.out; omega
  have W1 := S1.where'
  have S2 := S1.shift (stored_grown w1 (w.heap.size + 1 + 1) 0 (.slice p hs1.length q)) (fun k hk => by
    have hk' : k = w.heap.size + 1 + 1 := (Option.some.inj hk).symm
    exact ⟨fun e => by have := (W1.1 k e).1; omega, fun j x hj e => by have := (W1.2 j x hj k e).1; omega⟩)
  have b2 := b1.setCell (p := ⟨w.heap.size + 1 + 1, 0, none⟩) (show w.heap.size ≤ w.heap.size + 1 + 1 by omega) (.slice p hs1.length q)
  have S3 := S2.shift (stored_grown _ (w.heap.size + 1) 0 (.slice p hs1.length q)) (fun k hk => by
    have hk' : k = w.heap.size + 1 := (Option.some.inj hk).symm
    exact ⟨fun e => by have := (W1.1 k e).1; omega, fun j x hj e => by have := (W1.2 j x hj k e).1; omega⟩)
  have b3 := b2.setCell (p := ⟨w.heap.size + 1, 0, none⟩) (show w.heap.size ≤ w.heap.size + 1 by omega) (.slice p hs1.length q)
  have z0 := (B2.set 0 (.slice p hs1.length q)).cell 0 _ rfl
  have x1 := C2.cell 0 _ rfl
  have u1 := B2.cell 0 _ rfl
  have f1 := B2.loose 0
  have HS3 := Lib.hid S3
  have HB3 := Lib.hid b3
  have HG := Lib.hid hg1
  clear hB' hC bC HT HWC HEC B1 C1 b1 S1 hg1 k1 W1 S2 b2 S3 b3 C2 B2
  go_wp2
  refine bodyPost_ret (v := .agg #[.slice p hs1.length q]) (by simp [results, Try.results7, go_sem, z0]) rfl ⟨_, hs1, rfl, ?_, HB3.out⟩
  exact HS3.out.lower (by have := HG.out; omega)

end Go.Proofs.Ytmbmbnjbeofmaaa

/- Lists that came in: a row read cell by cell is a list. -/
namespace Go.Proofs.Ytmbmbnjbeofmaaa
open Go.RowKit Go.ChangeShapes Go.WideShapes Go.ChangeAt Go.Deep Go.Joins

section
variable {W : World}

theorem rows_of_cells {α : Type} [Inhabited α] (E : Enc α) {a : Addr} {len cap : Nat} (hl : len ≤ cap) (hp : ∀ i, i < len → ∃ x : α, ∀ k u, (E.f x)[k]? = some u → W.cell? (a.add (i * E.sz + k)) = some u) (Pr : α → Prop)
    (hpr : ∀ i, i < len → ∀ x : α, (∀ k u, (E.f x)[k]? = some u → W.cell? (a.add (i * E.sz + k)) = some u) → Pr x) :
    ∃ l : List α, l.length = len ∧ Rows' E W (.slice (some a) len cap) l ∧ ∀ x ∈ l, Pr x := by
  obtain ⟨f, hf⟩ := choose_lt hp
  refine ⟨(List.range len).map f, by simp, ?_, ?_⟩
  · by_cases h0 : len = 0
    · subst h0
      exact .inl ⟨rfl, _, _, rfl⟩
    · have hsp : a.spot = none := by
        have hne : (E.f (f 0))[0]? = some ((E.f (f 0))[0]'(by rw [E.len]; exact E.pos)) := List.getElem?_eq_getElem _
        have := hf 0 (by omega) 0 _ hne
        have h2 := World.cell?_spot this
        simpa [Addr.add] using h2
      obtain ⟨b, off, spot⟩ := a
      simp only at hsp
      subst hsp
      refine .inr ⟨b, off, cap, by simp, by simpa using hl, ?_, ?_⟩
      · have hne : (E.f (f 0))[0]? = some ((E.f (f 0))[0]'(by rw [E.len]; exact E.pos)) := List.getElem?_eq_getElem _
        have := hf 0 (by omega) 0 _ hne
        rw [Addr.add_lit] at this
        exact World.block_lt_of_cell? W _ this
      · intro j x hj k u hu
        have hjl : j < len := by have := (List.getElem?_eq_some_iff.1 hj).1; simpa using this
        have hx : f j = x := by simpa [hjl] using hj
        subst hx
        have := hf j hjl k u hu
        rw [Addr.add_lit] at this
        rw [Nat.add_assoc]
        exact this
  · intro x hx
    simp only [List.mem_map, List.mem_range] at hx
    obtain ⟨i, hi, rfl⟩ := hx
    exact hpr i hi _ (hf i hi)
end

end Go.Proofs.Ytmbmbnjbeofmaaa

/- States that come in as arguments. -/
namespace Go.Proofs.Ytmbmbnjbeofmaaa
open Go.RowKit Go.ChangeShapes Go.WideShapes Go.ChangeAt Go.Deep Go.Joins

theorem list3 {α : Type} {l : List α} (h : l.length = 3) : ∃ v0 v1 v2, l = [v0, v1, v2] := by
  match l, h with
  | [v0, v1, v2], _ => exact ⟨v0, v1, v2, rfl⟩
theorem list5 {α : Type} {l : List α} (h : l.length = 5) : ∃ v0 v1 v2 v3 v4, l = [v0, v1, v2, v3, v4] := by
  match l, h with
  | [v0, v1, v2, v3, v4], _ => exact ⟨v0, v1, v2, v3, v4, rfl⟩

section
variable {H : Type} {enc : TypeId × Value → H} {P : Program} {w : World} {base : Nat} {spare : Nat → Bool} {held : Bool}

/-- The fields of a struct, each of one cell. -/
theorem trod_ones {t : TypeId} {fs : Array Field} {fuel : Nat} {cs : List Value} {x : DataW H × List MemPlace} (hs : P.underlying t = some (.struct fs)) (hone : oneCellFields P fs = true)
    (h : DataW.trod enc P w base spare held fuel t cs = some x) :
    ∃ n : Nat, cs.length = P.cellsOf t ∧ ∀ (i : Nat) (f : Field) (v : Value), fs[i]? = some f → cs[i]? = some v → ∃ y, DataW.trod enc P w base spare held n f.type [v] = some y := by
  obtain ⟨xs, n, _, _, hl, hlen, hf⟩ := DataW.trod_struct hs h
  refine ⟨n, hl, fun i f v hi hv => ?_⟩
  obtain ⟨o, k⟩ := hone_of hone i f hi
  have hx := hf i f hi
  rw [o, k] at hx
  have e : (List.drop i cs).take 1 = [v] := by
    rw [List.take_one, List.head?_drop, hv]; rfl
  rw [e] at hx
  have hi' : i < xs.length := by
    rw [hlen]
    exact (Array.getElem?_eq_some_iff.1 hi).1
  exact ⟨xs[i], by first | (rw [hx]; exact List.getElem?_eq_getElem hi') | (rw [List.getElem?_eq_getElem hi'] at hx; exact hx) | simpa [hi'] using hx⟩
end

/-- A state that came in: its boxes can be read; their texts are texts. -/
def StIn (W : World) (v : Value) (l : List Bx) : Prop := ∃ u, v = .agg #[u] ∧ LBRd W u l ∧ l.length ≤ 9223372036854775807 ∧ ∀ b ∈ l, bxShort b

section
variable {H : Type} {enc : TypeId × Value → H} {W : World}

set_option maxRecDepth 100000 in
theorem mail_form {fuel : Nat} {l : List Value} {x : DataW H × List MemPlace} (hf : DataW.trod enc Try.prog W 0 (fun _ => true) true fuel 94 l = some x) :
    ∃ y : Ml, l = lmlE.f y ∧ mlShort y := by
  have hC : Try.prog.cellsOf 94 = 3 := by kernel_rfl
  obtain ⟨n, hl, hx⟩ := trod_ones Try.underlying94 (by kernel_rfl) hf
  obtain ⟨v0, v1, v2, rfl⟩ := list3 (hl.trans hC)
  obtain ⟨y0, h0⟩ := hx 0 _ v0 rfl rfl
  obtain ⟨y1, h1⟩ := hx 1 _ v1 rfl rfl
  obtain ⟨y2, h2⟩ := hx 2 _ v2 rfl rfl
  obtain ⟨k0, hk0, _, _⟩ := DataW.trod_int Try.underlying3 h0
  obtain ⟨k1, hk1, _, _⟩ := DataW.trod_int Try.underlying3 h1
  obtain ⟨s2, hk2, _, z2⟩ := DataW.trod_string Try.underlying9 h2
  simp at hk0 hk1 hk2
  have hml : maxLen ≤ 9223372036854775807 := by decide
  exact ⟨⟨k0, k1, s2⟩, by rw [hk0, hk1, hk2]; rfl, Nat.le_trans z2 hml⟩

set_option maxRecDepth 100000 in
theorem mails_of_trod {fuel : Nat} {v : Value} {x : DataW H × List MemPlace} (h : DataW.trod enc Try.prog W 0 (fun _ => true) true fuel 56 [v] = some x) :
    ∃ l : List Ml, Rows' lmlE W v l ∧ l.length ≤ 9223372036854775807 ∧ ∀ m ∈ l, mlShort m := by
  have hC : Try.prog.cellsOf 94 = 3 := by kernel_rfl
  have hml : maxLen ≤ 9223372036854775807 := by decide
  rcases open_slice Try.underlying56 h with ⟨hv, _⟩ | ⟨a, len, cap, m, n, D, Pl, hv, _, hl, hm, hmm, _, hc⟩
  · simp at hv; subst hv
    exact ⟨[], .inl ⟨rfl, _, _, rfl⟩, by simp, by simp⟩
  · simp at hv; subst hv
    have hm2 : m = cap := by simpa using hmm
    have hex : ∀ i, i < len → ∃ y : Ml, (∀ k u, (lmlE.f y)[k]? = some u → W.cell? (a.add (i * 3 + k)) = some u) ∧ mlShort y := by
      intro i hi
      obtain ⟨cs', h1, h2⟩ := hc i (by omega)
      rw [hC] at h1
      obtain ⟨_, hlen, hcell⟩ := World.cells?_some h1
      obtain ⟨y, hy, z⟩ := mail_form h2
      refine ⟨y, fun k u hu => ?_, z⟩
      have hk : k < 3 := by have h9 := (List.getElem?_eq_some_iff.1 hu).1; rw [lmlE.len y] at h9; exact h9
      have := hcell k hk
      rw [add_add] at this
      rw [this, hy]
      exact hu
    obtain ⟨l, hlen, hr, hp⟩ := rows_of_cells lmlE hl (fun i hi => by
      obtain ⟨y, hy, _⟩ := hex i hi
      exact ⟨y, hy⟩) mlShort (fun i hi y hy => by
      obtain ⟨z, hz, hs⟩ := hex i hi
      have e2 := hy 2 _ rfl
      have g2 := hz 2 _ rfl
      change W.cell? (a.add (i * 3 + 2)) = _ at e2
      rw [g2] at e2
      simp at e2
      unfold mlShort at hs ⊢
      rw [← e2]
      exact hs)
    exact ⟨l, hr, by omega, hp⟩

/-- A box as it came in: its mails can be read. -/
def HdIn (W : World) (x : BxH) : Prop := x.user.size ≤ 9223372036854775807 ∧ x.name.size ≤ 9223372036854775807 ∧ ∃ l : List Ml, Rows' lmlE W x.mv l ∧ l.length ≤ 9223372036854775807 ∧ ∀ m ∈ l, mlShort m

set_option maxRecDepth 100000 in
theorem box_form' {fuel : Nat} {l : List Value} {x : DataW H × List MemPlace} (hf : DataW.trod enc Try.prog W 0 (fun _ => true) true fuel 58 l = some x) :
    ∃ y : BxH, l = lhdE.f y ∧ HdIn W y := by
  have hC : Try.prog.cellsOf 58 = 5 := by kernel_rfl
  obtain ⟨n, hl, hx⟩ := trod_ones Try.underlying58 (by kernel_rfl) hf
  obtain ⟨v0, v1, v2, v3, v4, rfl⟩ := list5 (hl.trans hC)
  obtain ⟨y0, h0⟩ := hx 0 _ v0 rfl rfl
  obtain ⟨y1, h1⟩ := hx 1 _ v1 rfl rfl
  obtain ⟨y2, h2⟩ := hx 2 _ v2 rfl rfl
  obtain ⟨y3, h3⟩ := hx 3 _ v3 rfl rfl
  obtain ⟨y4, h4⟩ := hx 4 _ v4 rfl rfl
  obtain ⟨k0, hk0, _, _⟩ := DataW.trod_int Try.underlying3 h0
  obtain ⟨s1, hk1, _, z1⟩ := DataW.trod_string Try.underlying9 h1
  obtain ⟨s2, hk2, _, z2⟩ := DataW.trod_string Try.underlying9 h2
  obtain ⟨k3, hk3, _, _⟩ := DataW.trod_int Try.underlying3 h3
  obtain ⟨ms, hr, hlen, hsh⟩ := mails_of_trod h4
  simp at hk0 hk1 hk2 hk3
  have hml : maxLen ≤ 9223372036854775807 := by decide
  obtain ⟨a, n, c, rfl⟩ : ∃ ad n cap, v4 = .slice ad n cap := by
    rcases hr.ways with ⟨_, a, c, e⟩ | ⟨_, g, off, c, e, _⟩
    · exact ⟨_, _, _, e⟩
    · exact ⟨_, _, _, e⟩
  exact ⟨⟨k0, s1, s2, k3, a, n, c⟩, by rw [hk0, hk1, hk2, hk3]; rfl, Nat.le_trans z1 hml, Nat.le_trans z2 hml, ms, hr, hlen, hsh⟩

set_option maxRecDepth 100000 in
theorem boxes_of_trod {fuel : Nat} {v : Value} {x : DataW H × List MemPlace} (h : DataW.trod enc Try.prog W 0 (fun _ => true) true fuel 22 [v] = some x) :
    ∃ l : List Bx, LBRd W v l ∧ l.length ≤ 9223372036854775807 ∧ ∀ b ∈ l, bxShort b := by
  have hC : Try.prog.cellsOf 58 = 5 := by kernel_rfl
  have hml : maxLen ≤ 9223372036854775807 := by decide
  have hrows : ∃ hs : List BxH, Rows' lhdE W v hs ∧ hs.length ≤ 9223372036854775807 ∧ ∀ y ∈ hs, HdIn W y := by
    rcases open_slice Try.underlying22 h with ⟨hv, _⟩ | ⟨a, len, cap, m, n, D, Pl, hv, _, hl, hm, hmm, _, hc⟩
    · simp at hv; subst hv
      exact ⟨[], .inl ⟨rfl, _, _, rfl⟩, by simp, by simp⟩
    · simp at hv; subst hv
      have hm2 : m = cap := by simpa using hmm
      have hex : ∀ i, i < len → ∃ y : BxH, (∀ k u, (lhdE.f y)[k]? = some u → W.cell? (a.add (i * 5 + k)) = some u) ∧ HdIn W y := by
        intro i hi
        obtain ⟨cs', h1, h2⟩ := hc i (by omega)
        rw [hC] at h1
        obtain ⟨_, hlen, hcell⟩ := World.cells?_some h1
        obtain ⟨y, hy, z⟩ := box_form' h2
        refine ⟨y, fun k u hu => ?_, z⟩
        have hk : k < 5 := by have h9 := (List.getElem?_eq_some_iff.1 hu).1; rw [lhdE.len y] at h9; exact h9
        have := hcell k hk
        rw [add_add] at this
        rw [this, hy]
        exact hu
      obtain ⟨l, hlen, hr, hp⟩ := rows_of_cells lhdE hl (fun i hi => by
        obtain ⟨y, hy, _⟩ := hex i hi
        exact ⟨y, hy⟩) (HdIn W) (fun i hi y hy => by
        obtain ⟨z, hz, hs⟩ := hex i hi
        have e1 := hy 1 _ rfl
        have e2 := hy 2 _ rfl
        have e4 := hy 4 _ rfl
        have g1 := hz 1 _ rfl
        have g2 := hz 2 _ rfl
        have g4 := hz 4 _ rfl
        change W.cell? (a.add (i * 5 + 1)) = _ at e1
        change W.cell? (a.add (i * 5 + 2)) = _ at e2
        change W.cell? (a.add (i * 5 + 4)) = _ at e4
        rw [g1] at e1
        rw [g2] at e2
        rw [g4] at e4
        have q1 : z.user = y.user := by simpa using e1
        have q2 : z.name = y.name := by simpa using e2
        have q4 : z.mv = y.mv := Option.some.inj e4
        unfold HdIn at hs ⊢
        rw [← q1, ← q2, ← q4]
        exact hs)
      exact ⟨l, hr, by omega, hp⟩
  obtain ⟨hs, hr, hlen, hp⟩ := hrows
  have hch : ∀ y : BxH, ∃ b : Bx, HdIn W y → ((y.valid = b.valid ∧ y.user = b.user ∧ y.name = b.name ∧ y.next = b.next) ∧ Rows' lmlE W y.mv b.mails) ∧ bxShort b := by
    intro y
    by_cases c : HdIn W y
    · obtain ⟨z1, z2, ms, hr, hl, hsh⟩ := c
      exact ⟨⟨y.valid, y.user, y.name, y.next, ms⟩, fun _ => ⟨⟨⟨rfl, rfl, rfl, rfl⟩, hr⟩, z1, z2, hl, hsh⟩⟩
    · exact ⟨⟨0, ⟨#[]⟩, ⟨#[]⟩, 0, []⟩, fun e => absurd e c⟩
  obtain ⟨f, hf⟩ := Classical.axiomOfChoice hch
  refine ⟨hs.map f, ⟨hs, hr, by simp, fun j y b h1 h2 => ?_⟩, by simpa using hlen, fun b hb => ?_⟩
  · rw [List.getElem?_map, h1] at h2
    cases h2
    exact (hf y (hp y (List.mem_of_getElem? h1))).1
  · obtain ⟨y, hy, rfl⟩ := List.mem_map.1 hb
    exact (hf y (hp y hy)).2

set_option maxRecDepth 100000 in
theorem open_State {b0 : Nat} {r : Reach} {v : Value} {d : DataW H} {p : List MemPlace} (hv : Value.okWide Try.prog W r b0 24 v) (h : DataW.Trod enc Try.prog W 0 (fun _ => true) true 24 v d p) : ∃ l : List Bx, StIn W v l := by
  obtain ⟨cs, rfl, hsz⟩ := okWide_struct Try.underlying24 hv
  obtain ⟨fuel, hf⟩ := h
  have hC : Try.prog.cellsOf 24 = 1 := by kernel_rfl
  obtain ⟨l⟩ := cs
  have hl1 : l.length = 1 := hsz.trans hC
  obtain ⟨u, rfl⟩ := List.length_eq_one_iff.1 hl1
  obtain ⟨n, _, hx⟩ := trod_ones Try.underlying24 (by kernel_rfl) hf
  obtain ⟨y, h0⟩ := hx 0 _ u rfl rfl
  obtain ⟨bs, hr, hlen, hsh⟩ := boxes_of_trod h0
  exact ⟨bs, u, rfl, hr, hlen, hsh⟩
end

end Go.Proofs.Ytmbmbnjbeofmaaa
