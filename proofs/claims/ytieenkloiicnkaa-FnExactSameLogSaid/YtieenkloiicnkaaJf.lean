/- Texts of our own, joined. -/
import Derived.Test.YtieenkloiicnkaaJe
import Derived.Test.YtieenkloiicnkaaJa
import Derived.Test.YtieenkloiicnkaaJb
/- The helpers of the exact laws over segments: each is marked, and the marks are held. -/
namespace Go.Proofs.Ytieenkloiicnkaa
open Go.RowKit

/-- A segment with its marks from k on, and the number behind them. -/
def markG (k : Nat) (b : Sg) : Sg := ⟨((k : Nat) : Int), ((k + 1 : Nat) : Int), ((k + 2 : Nat) : Int), marksI (k + 3) b.items.length⟩
def kG (k : Nat) (b : Sg) : Nat := k + 3 + 9 * b.items.length
def marksG : Nat → List Sg → List Sg
  | _, [] => []
  | k, b :: bs => markG k b :: marksG (kG k b) bs
def kF : Nat → List Sg → Nat
  | k, [] => k
  | k, b :: bs => kF (kG k b) bs
theorem marksG_length : ∀ (k : Nat) (bs : List Sg), (marksG k bs).length = bs.length
  | _, [] => rfl
  | k, b :: bs => by simp [marksG, marksG_length (kG k b) bs]
theorem kF_le : ∀ (k : Nat) (bs : List Sg), k ≤ kF k bs
  | _, [] => Nat.le_refl _
  | k, b :: bs => by have := kF_le (kG k b) bs; unfold kF; unfold kG at *; omega
theorem kF_take : ∀ (k : Nat) (bs : List Sg) (i : Nat) (b : Sg), bs[i]? = some b → kF k (bs.take (i + 1)) = kG (kF k (bs.take i)) b
  | _, [], i, b, h => by cases h
  | k, c :: bs, 0, b, h => by cases h; rfl
  | k, c :: bs, i + 1, b, h => by
    show kF (kG k c) (bs.take (i + 1)) = kG (kF (kG k c) (bs.take i)) b
    exact kF_take (kG k c) bs i b h
theorem kF_take_le (k : Nat) (bs : List Sg) : ∀ i, kF k (bs.take i) ≤ kF k bs := by
  induction bs generalizing k with
  | nil => intro i; simp [kF]
  | cons b bs ih =>
    intro i
    cases i with
    | zero => exact kF_le k (b :: bs)
    | succ i => exact ih (kG k b) i
theorem marksG_at : ∀ (k : Nat) (bs : List Sg) (i : Nat) (b : Sg), bs[i]? = some b → (marksG k bs)[i]? = some (markG (kF k (bs.take i)) b)
  | _, [], i, b, h => by cases h
  | k, c :: bs, 0, b, h => by cases h; rfl
  | k, c :: bs, i + 1, b, h => by
    show (marksG (kG k c) bs)[i]? = some (markG (kF (kG k c) (bs.take i)) b)
    exact marksG_at (kG k c) bs i b h
/-- The first i marked. -/
def putG (k : Nat) (bs : List Sg) (i : Nat) : List Sg := (marksG k bs).take i ++ bs.drop i
theorem putG_zero (k : Nat) (bs : List Sg) : putG k bs 0 = bs := by simp [putG]
theorem putG_all (k : Nat) (bs : List Sg) : putG k bs bs.length = marksG k bs := by
  unfold putG
  rw [List.take_of_length_le (by rw [marksG_length]; exact Nat.le_refl _), List.drop_length, List.append_nil]
theorem putG_length (k : Nat) (bs : List Sg) (i : Nat) (h : i ≤ bs.length) : (putG k bs i).length = bs.length := by
  unfold putG
  rw [List.length_append, List.length_take, List.length_drop, marksG_length]; omega
theorem putG_at (k : Nat) (bs : List Sg) (i : Nat) (b : Sg) (h : bs[i]? = some b) : (putG k bs i)[i]? = some b := by
  have hl : i < bs.length := (List.getElem?_eq_some_iff.1 h).1
  unfold putG
  rw [List.getElem?_append_right (by rw [List.length_take, marksG_length]; omega), List.length_take, marksG_length, Nat.min_eq_left (Nat.le_of_lt hl), Nat.sub_self, List.getElem?_drop, Nat.add_zero]
  exact h
theorem putG_set (k : Nat) (bs : List Sg) (i : Nat) (b : Sg) (h : bs[i]? = some b) : (putG k bs i).set i (markG (kF k (bs.take i)) b) = putG k bs (i + 1) := by
  have hl : i < bs.length := (List.getElem?_eq_some_iff.1 h).1
  unfold putG
  rw [List.set_append_right _ _ (by rw [List.length_take, marksG_length]; omega)]
  rw [List.length_take, marksG_length, Nat.min_eq_left (Nat.le_of_lt hl), Nat.sub_self, List.drop_eq_getElem_cons hl, List.set_cons_zero, List.take_add_one, marksG_at k bs i b h, List.append_assoc]
  rfl
theorem set_waysG {α : Type} {l : List α} {i j : Nat} {y z : α} (h : (l.set i y)[j]? = some z) : (j = i ∧ z = y) ∨ (j ≠ i ∧ l[j]? = some z) := by
  by_cases c : j = i
  · subst c
    have hl : j < l.length := by have := (List.getElem?_eq_some_iff.1 h).1; simpa using this
    rw [List.getElem?_set_self hl] at h
    exact .inl ⟨rfl, (Option.some.inj h).symm⟩
  · rw [List.getElem?_set_ne (fun e => c e.symm)] at h
    exact .inr ⟨c, h⟩
/-- One cell of a segment's own put anew. -/
theorem SgO.store {B : Nat} {w : World} {g n cap : Nat} {bs : List Sg} {hs : List SgH} (h : SgO B w (.slice (some ⟨g, 0, none⟩) n cap) bs hs) (hn : n = hs.length) {i : Nat} {x : SgH} (hx : hs[i]? = some x) {b : Sg} (hb : bs[i]? = some b)
    (c : Nat) (hc : c < 4) (u : Value) (x' : SgH) (hf : sgE.f x' = (sgE.f x).set c u) (hmv : x'.mv = x.mv) (b' : Sg) (hb' : x'.no = b'.no ∧ x'.gen = b'.gen ∧ x'.ende = b'.ende) (hm : b'.items = b.items) :
    SgO B (w.setCell ⟨g, i * 4 + c, none⟩ u) (.slice (some ⟨g, 0, none⟩) n cap) (bs.set i b') (hs.set i x') := by
  subst hn
  have hg := grownBy_store w g (i * 4 + c) u
  have kept : ∀ (m : Value) (l : List Itm), RBuf itE B w w m l → (∀ k, m.ownBlock = some k → (Value.slice (some ⟨g, 0, none⟩) hs.length cap).ownBlock ≠ some k) → RBuf itE B (w.setCell ⟨g, i * 4 + c, none⟩ u) (w.setCell ⟨g, i * 4 + c, none⟩ u) m l := fun m l hm hf => by
    refine hm.shift hg ?_
    cases hmb : m.ownBlock with
    | none => exact .inl rfl
    | some k => exact .inr (fun e => hf k hmb e.symm)
  have hmvs : ∀ {j : Nat} {y : SgH}, (hs.set i x')[j]? = some y → ∃ z, hs[j]? = some z ∧ y.mv = z.mv := fun {j y} hj => by
    rcases set_waysG hj with ⟨rfl, rfl⟩ | ⟨_, hj⟩
    · exact ⟨x, hx, hmv⟩
    · exact ⟨y, hj, rfl⟩
  refine ⟨(h.row.stored i x x' hx c hc u hf).here, by simp [h.len], fun j y d h1 h2 => ?_, fun j y h1 k hk => ?_, fun j k y z h1 h2 hjk q hq => ?_⟩
  · rcases set_waysG h1 with ⟨rfl, rfl⟩ | ⟨hne, h1⟩
    · rcases set_waysG h2 with ⟨_, rfl⟩ | ⟨hne, _⟩
      · refine ⟨hb', ?_⟩
        rw [hmv, hm]
        exact kept _ _ (h.at' j x b hx hb).2 (h.far j x hx)
      · exact absurd rfl hne
    · rcases set_waysG h2 with ⟨e, _⟩ | ⟨_, h2⟩
      · exact absurd e hne
      · exact ⟨(h.at' j y d h1 h2).1, kept _ _ (h.at' j y d h1 h2).2 (h.far j y h1)⟩
  · obtain ⟨z, hz, e⟩ := hmvs h1
    rw [e] at hk
    exact h.far j z hz k hk
  · obtain ⟨y0, hy0, e1⟩ := hmvs h1
    obtain ⟨z0, hz0, e2⟩ := hmvs h2
    rw [e1] at hq
    rw [e2]
    exact h.apart j k y0 z0 hy0 hz0 hjk q hq
/-- The items of a segment put anew. -/
theorem SgO.items {B : Nat} {w w' : World} {v : Value} {bs : List Sg} {hs : List SgH} (h : SgO B w v bs hs) {i : Nat} {x : SgH} (hx : hs[i]? = some x) {b : Sg} (hb : bs[i]? = some b) (ms : List Itm) (hr : RBuf itE B w' w' x.mv ms) (hg : w.grownBy w' x.mv.ownBlock) :
    SgO B w' v (bs.set i ⟨b.no, b.gen, b.ende, ms⟩) hs := by
  refine ⟨h.row.shift hg ?_, by simp [h.len], fun j y d h1 h2 => ?_, h.far, h.apart⟩
  · cases hv : x.mv.ownBlock with
    | none =>
      cases hv2 : v.ownBlock with
      | none => exact .inl rfl
      | some k => exact .inr (fun e => by cases e)
    | some k => exact .inr (fun e => h.far i x hx k hv e)
  · rcases set_waysG h2 with ⟨rfl, rfl⟩ | ⟨hne, h2⟩
    · rw [hx] at h1
      cases h1
      exact ⟨(h.at' j x b hx hb).1, hr⟩
    · refine ⟨(h.at' j y d h1 h2).1, (h.at' j y d h1 h2).2.shift hg ?_⟩
      cases hy : y.mv.ownBlock with
      | none => exact .inl rfl
      | some k => exact .inr (fun e => h.apart j i y x h1 hx hne k hy e.symm)
theorem SgO.cellAt {B : Nat} {w : World} {g n cap : Nat} {bs : List Sg} {hs : List SgH} (h : SgO B w (.slice (some ⟨g, 0, none⟩) n cap) bs hs) {i : Nat} {y : SgH} (hy : hs[i]? = some y) (hl : n = hs.length) (q : Nat) (u : Value) (hu : (sgE.f y)[q]? = some u) : w.cell? ⟨g, i * 4 + q, none⟩ = some u ∧ w.frozen? ⟨g, i * 4 + q, none⟩ = false := by
  subst hl
  exact ⟨h.row.cell rfl i y hy q u hu, h.row.loose _⟩



end Go.Proofs.Ytieenkloiicnkaa

/- Segments that come in: how great they are. -/
namespace Go.Proofs.Ytieenkloiicnkaa
open Go.RowKit

set_option maxRecDepth 100000 in
set_option maxHeartbeats 2000000 in
theorem szItemS_sum (l : List Itm) (v : Value) (left : Int) (w : World) (h : Rows' litE w v l) (h0 : 0 ≤ left) (h1 : left ≤ 1048576) (hl : l.length ≤ 9223372036854775807) (hz : ∀ x ∈ l, x.2.user.size ≤ 9223372036854775807 ∧ x.2.name.size ≤ 9223372036854775807 ∧ x.2.text.size ≤ 9223372036854775807) :
    Calls Try.prog 29 #[v, .int .i64 left] w fun e w' => (∃ r : Int, e = .returned (.int .i64 r) ∧ (r < 0 ∨ (r ≤ left - (l.length : Int) ∧ ∀ x ∈ l, (x.2.user.size : Int) + x.2.name.size + x.2.text.size ≤ left)) ∧ r ≤ left ∧ -1 ≤ r) ∧ Below w.heap.size w w' := by
  obtain ⟨ad, cap, rfl, hrow⟩ := h.litems
  have HR := Lib.hid hrow
  have HZ := Lib.hid hz
  clear h hrow hz
  by_cases hneg : left - (l.length : Int) < 0
  · go_enter Try.func29, Try.ntmps29
    go_wp2
    go_ret
    exact ⟨⟨-1, rfl, .inl (by omega), by omega, by omega⟩, Below.refl _ _⟩
  · go_enter Try.func29, Try.ntmps29
    go_wp2
    go_loopw [1, 5] (fun rv iv wr => ∃ (i : Nat) (r : Int), i ≤ l.length ∧ iv = .int .i64 (i : Int) ∧ rv = .int .i64 r ∧ 0 ≤ r ∧ r ≤ left - (l.length : Int) ∧ (∀ (j : Nat) (x : Itm), l[j]? = some x → j < i → (x.2.user.size : Int) + x.2.name.size + x.2.text.size ≤ left) ∧ Below w.heap.size w wr) (fun _ iv _ => l.length - (intOf iv).toNat)
    case atStart => exact ⟨0, left - (l.length : Int), by omega, rfl, by first | rfl | go_num, by omega, by omega, fun j x _ hj => by omega, Below.refl _ _⟩
    case round =>
      obtain ⟨i, r, hi, rfl, rfl, hr0, hr1, hall, hb⟩ := hrel
      have HA := Lib.hid hall
      clear hall
      by_cases hlt : i < l.length
      · have hgx : l[i]? = some l[i] := List.getElem?_eq_getElem hlt
        have hzx := HZ.out l[i] (List.getElem_mem hlt)
        obtain ⟨ga, oa, rfl, a0, a1, a2, a3, a4, a5, a6, a7, a8⟩ := HR.out _ hb i _ hgx
        generalize l[i] = x at *
        have HX := Lib.hid hgx
        have HS := Lib.hid (fun wx => szItem_any x.1 x.2 r wx hzx.1 hzx.2.1 hzx.2.2 hr0 (by omega))
        obtain ⟨sq, K, V, U, N, FL, US, NM, TX⟩ := x
        unfold itV at HS
        simp only at a0 a1 a2 a3 a4 a5 a6 a7 a8 HS
        have hi0 : (0 : Int) ≤ (i : Int) := by omega
        have hi1 : (i : Int) < (l.length : Int) := by omega
        clear hgx hzx
        go_wp2_with fail
        clear a0 a1 a2 a3 a4 a5 a6 a7 a8
        refine (HS.out _).mono ?_
        rintro e w1 ⟨⟨r1, rfl, hr, hr2, hr3⟩, k1⟩
        have b1 := hb.trans (k1.mono hb.size)
        by_cases hn : r1 < 0
        · go_wp2
          go_ret
          exact ⟨⟨-1, rfl, .inl (by omega), by omega, by omega⟩, b1⟩
        · have HU : Hid (∀ (j : Nat) (x : Itm), l[j]? = some x → j < i + 1 → (x.2.user.size : Int) + x.2.name.size + x.2.text.size ≤ left) := fun j x hj hji => by
            by_cases c : j = i
            · subst c
              have := HX.out
              rw [hj] at this
              cases this
              rcases hr with hr | hr
              · omega
              · simp only; omega
            · exact HA.out j x hj (by omega)
          go_wp2
          exact ⟨⟨i + 1, r1, by omega, by simp, rfl, by omega, by omega, HU.out, b1⟩, by first | omega | (simp [intOf]; omega)⟩
      · have hge : ¬ (i : Int) < (l.length : Int) := by omega
        have HE : Hid (∀ x ∈ l, (x.2.user.size : Int) + x.2.name.size + x.2.text.size ≤ left) := fun x hx => by
          obtain ⟨j, hj, rfl⟩ := List.getElem_of_mem hx
          exact HA.out j _ (List.getElem?_eq_getElem hj) (by omega)
        go_wp2
        go_ret
        exact ⟨⟨r, rfl, .inr ⟨hr1, fun a b hab => HE.out (a, b) hab⟩, by omega, by omega⟩, hb⟩

def lsgE : Enc SgH where
  ty := 55
  sty := 26
  sz := 4
  bytes := 48
  zero := .agg #[.int .i64 0, .int .i64 0, .int .i64 0, .slice none 0 0]
  f := fun x => [.int .i64 x.no, .int .i64 x.gen, .int .i64 x.ende, .slice x.a x.n x.c]
  len := fun _ => rfl
  pos := by decide
  one := fun _ u hu => by simp at hu; rcases hu with rfl | rfl | rfl | rfl <;> rfl
  und := Try.underlying26
  info := by kernel_rfl
  zc := rfl
  z0 := ⟨0, 0, 0, none, 0, 0⟩
  zf := rfl
/-- Segments that came in can be read. -/
def LGRd (w : World) (v : Value) (bs : List Sg) : Prop := ∃ hs : List SgH, Rows' lsgE w v hs ∧ hs.length = bs.length ∧
  ∀ (j : Nat) (h : SgH) (b : Sg), hs[j]? = some h → bs[j]? = some b → (h.no = b.no ∧ h.gen = b.gen ∧ h.ende = b.ende) ∧ Rows' litE w h.mv b.items
theorem LGRd.later {w w' : World} {v : Value} {bs : List Sg} (h : LGRd w v bs) (hb : Below w.heap.size w w') : LGRd w' v bs := by
  obtain ⟨hs, h1, h2, h3⟩ := h
  exact ⟨hs, h1.later hb, h2, fun j x b e1 e2 => ⟨(h3 j x b e1 e2).1, (h3 j x b e1 e2).2.later hb⟩⟩
theorem LGRd.segs {w : World} {v : Value} {bs : List Sg} (h : LGRd w v bs) : ∃ (ad : Option Addr) (cap : Nat), v = .slice ad bs.length cap ∧ ∀ X, Below w.heap.size w X → ∀ (i : Nat) (b : Sg), bs[i]? = some b → ∃ (g off : Nat) (a : Option Addr) (n c : Nat), ad = some ⟨g, off, none⟩ ∧
    X.cell? ⟨g, off + i * 4, none⟩ = some (.int .i64 b.no) ∧ X.cell? ⟨g, off + i * 4 + 1, none⟩ = some (.int .i64 b.gen) ∧ X.cell? ⟨g, off + i * 4 + 2, none⟩ = some (.int .i64 b.ende) ∧ X.cell? ⟨g, off + i * 4 + 3, none⟩ = some (.slice a n c) ∧ Rows' litE w (.slice a n c) b.items := by
  obtain ⟨hs, h1, h2, h3⟩ := h
  rcases h1.ways with ⟨rfl, a, c, rfl⟩ | ⟨hne, g, off, c, rfl, hc, hg, hcl⟩
  · have : bs = [] := by rw [← List.length_eq_zero_iff, ← h2]; rfl
    subst this
    exact ⟨a, c, rfl, fun X _ i b hi => by cases hi⟩
  · refine ⟨_, c, by rw [h2], fun X hb i b hi => ?_⟩
    have hl : i < hs.length := by rw [h2]; exact (List.getElem?_eq_some_iff.1 hi).1
    have hx : hs[i]? = some hs[i] := List.getElem?_eq_getElem hl
    obtain ⟨⟨e1, e2, e3⟩, hm⟩ := h3 i _ b hx hi
    have hk : ∀ k u, (lsgE.f hs[i])[k]? = some u → X.cell? ⟨g, off + i * 4 + k, none⟩ = some u := fun k u hu => (hb.cell (p := ⟨g, off + i * 4 + k, none⟩) hg).trans (hcl i _ hx k u hu)
    refine ⟨g, off, hs[i].a, hs[i].n, hs[i].c, rfl, ?_, ?_, ?_, hk 3 _ rfl, hm⟩
    · rw [← e1]; exact hk 0 _ rfl
    · rw [← e2]; exact hk 1 _ rfl
    · rw [← e3]; exact hk 2 _ rfl

/-- Texts whose lengths are lengths. -/
def sgShort (b : Sg) : Prop := b.items.length ≤ 9223372036854775807 ∧ ∀ x ∈ b.items, x.2.user.size ≤ 9223372036854775807 ∧ x.2.name.size ≤ 9223372036854775807 ∧ x.2.text.size ≤ 9223372036854775807
/-- The texts are no longer than left. -/
def sgLean (left : Int) (b : Sg) : Prop := ∀ x ∈ b.items, (x.2.user.size : Int) + x.2.name.size + x.2.text.size ≤ left
theorem sgLean.mono {a b : Int} {s : Sg} (h : sgLean a s) (hab : a ≤ b) : sgLean b s := fun x hx => Int.le_trans (h x hx) hab
/-- How many items there are. -/
def gIts : List Sg → Nat
  | [] => 0
  | b :: bs => b.items.length + gIts bs
theorem gIts_append : ∀ (l m : List Sg), gIts (l ++ m) = gIts l + gIts m
  | [], m => by simp [gIts]
  | x :: l, m => by simp [gIts, gIts_append l m]; omega
theorem gIts_take {l : List Sg} {i : Nat} {b : Sg} (h : l[i]? = some b) : gIts (l.take (i + 1)) = gIts (l.take i) + b.items.length := by
  rw [List.take_add_one, h, gIts_append]; simp [gIts]
theorem gIts_mem : ∀ {l : List Sg} {b : Sg}, b ∈ l → b.items.length ≤ gIts l
  | x :: l, b, h => by
    rcases List.mem_cons.1 h with rfl | h
    · simp [gIts]
    · have := gIts_mem h; simp [gIts]; omega

set_option maxRecDepth 100000 in
set_option maxHeartbeats 2000000 in
theorem szSeg_any (b : Sg) (a : Option Addr) (n c : Nat) (left : Int) (w : World) (h : Rows' litE w (.slice a n c) b.items) (hz : sgShort b) (h0 : 0 ≤ left) (h1 : left ≤ 1048576) :
    Calls Try.prog 20 #[.agg #[.int .i64 b.no, .int .i64 b.gen, .int .i64 b.ende, .slice a n c], .int .i64 left] w fun e w' => (∃ r : Int, e = .returned (.int .i64 r) ∧ (r < 0 ∨ (r ≤ left - (b.items.length : Int) ∧ sgLean left b)) ∧ r ≤ left ∧ -1 ≤ r) ∧ Below w.heap.size w w' := by
  obtain ⟨z1, z2⟩ := hz
  have b0 := belNew w (.cells #[.int .i64 b.no, .int .i64 b.gen, .int .i64 b.ende, .slice a n c] 55)
  have HS := Lib.hid (szItemS_sum b.items _ left _ (h.later b0) h0 h1 z1 z2)
  clear h z2
  go_enter Try.func20, Try.ntmps20
  go_wp2_with fail
  refine HS.out.mono ?_
  rintro e w1 ⟨⟨r1, rfl, hr, hr2, hr3⟩, k1⟩
  have HW := Lib.hid hr
  have b1 := b0.trans (k1.mono b0.size)
  clear hr HS
  by_cases hn : r1 < 0
  · go_wp2
    go_ret
    exact ⟨⟨-1, rfl, .inl (by omega), by omega, by omega⟩, b1⟩
  · go_wp2
    go_ret
    exact ⟨⟨r1, rfl, HW.out, hr2, hr3⟩, b1⟩

set_option maxRecDepth 100000 in
set_option maxHeartbeats 2000000 in
theorem szSegS_any (l : List Sg) (v : Value) (left : Int) (w : World) (h : LGRd w v l) (h0 : 0 ≤ left) (h1 : left ≤ 1048576) (hl : l.length ≤ 9223372036854775807) (hz : ∀ b ∈ l, sgShort b) :
    Calls Try.prog 10 #[v, .int .i64 left] w fun e w' => (∃ r : Int, e = .returned (.int .i64 r) ∧ (r < 0 ∨ (((l.length + gIts l : Nat) : Int) ≤ left ∧ ∀ b ∈ l, sgLean left b)) ∧ r ≤ left ∧ -1 ≤ r) ∧ Below w.heap.size w w' := by
  obtain ⟨ad, cap, rfl, hrow⟩ := h.segs
  have HR := Lib.hid hrow
  have HZ := Lib.hid hz
  clear h hrow hz
  by_cases hneg : left - (l.length : Int) < 0
  · go_enter Try.func10, Try.ntmps10
    go_wp2
    go_ret
    exact ⟨⟨-1, rfl, .inl (by omega), by omega, by omega⟩, Below.refl _ _⟩
  · go_enter Try.func10, Try.ntmps10
    go_wp2
    go_loopw [1, 5] (fun rv iv wr => ∃ (i : Nat) (r : Int), i ≤ l.length ∧ iv = .int .i64 (i : Int) ∧ rv = .int .i64 r ∧ 0 ≤ r ∧ r ≤ left ∧ Hid (r ≤ left - ((l.length + gIts (l.take i) : Nat) : Int) ∧ ∀ (j : Nat) (b : Sg), l[j]? = some b → j < i → sgLean left b) ∧ Below w.heap.size w wr) (fun _ iv _ => l.length - (intOf iv).toNat)
    case atStart => exact ⟨0, left - (l.length : Int), by omega, rfl, by first | rfl | go_num, by omega, by omega, ⟨by simp [gIts], fun j b _ hj => by omega⟩, Below.refl _ _⟩
    case round =>
      obtain ⟨i, r, hi, rfl, rfl, hr0, hr1, HRE, hb⟩ := hrel
      by_cases hlt : i < l.length
      · have hgx : l[i]? = some l[i] := List.getElem?_eq_getElem hlt
        have hzx := HZ.out l[i] (List.getElem_mem hlt)
        obtain ⟨ga, oa, am, nm, cm, rfl, a0, a1, a2, a3, rm⟩ := HR.out _ hb i _ hgx
        generalize l[i] = x at *
        have HX := Lib.hid hgx
        have HS := Lib.hid (szSeg_any x am nm cm r wr (rm.later hb) hzx hr0 (by omega))
        have hi0 : (0 : Int) ≤ (i : Int) := by omega
        have hi1 : (i : Int) < (l.length : Int) := by omega
        clear hgx hzx rm
        go_wp2_with fail
        clear a0 a1 a2 a3
        refine HS.out.mono ?_
        rintro e w1 ⟨⟨r1, rfl, hr, hr2, hr3⟩, k1⟩
        have HW := Lib.hid hr
        have b1 := hb.trans (k1.mono hb.size)
        clear hr
        by_cases hn : r1 < 0
        · go_wp2
          go_ret
          exact ⟨⟨-1, rfl, .inl (by omega), by omega, by omega⟩, b1⟩
        · have HU : Hid (r1 ≤ left - ((l.length + gIts (l.take (i + 1)) : Nat) : Int) ∧ ∀ (j : Nat) (b : Sg), l[j]? = some b → j < i + 1 → sgLean left b) := by
            obtain ⟨h2, h4⟩ := HRE.out
            rcases HW.out with h3 | h3
            · exact absurd h3 hn
            · refine ⟨?_, fun j b hj hji => ?_⟩
              · rw [gIts_take HX.out]
                have := h3.1
                omega
              · by_cases c : j = i
                · subst c
                  have h5 := HX.out
                  rw [hj] at h5
                  cases h5
                  exact h3.2.mono hr1
                · exact h4 j b hj (by omega)
          go_wp2
          exact ⟨⟨i + 1, r1, by omega, by simp, rfl, by omega, by omega, HU.out, b1⟩, by first | omega | (simp [intOf]; omega)⟩
      · have hge : ¬ (i : Int) < (l.length : Int) := by omega
        have HE : Hid (((l.length + gIts l : Nat) : Int) ≤ left ∧ ∀ b ∈ l, sgLean left b) := by
          obtain ⟨h2, h4⟩ := HRE.out
          rw [List.take_of_length_le (by omega)] at h2
          refine ⟨by omega, fun b hb => ?_⟩
          obtain ⟨j, hj, rfl⟩ := List.getElem_of_mem hb
          exact h4 j _ (List.getElem?_eq_getElem hj) (by omega)
        go_wp2
        go_ret
        exact ⟨⟨r, rfl, .inr HE.out, hr1, by omega⟩, hb⟩

end Go.Proofs.Ytieenkloiicnkaa

/- Copies of segments that come in. -/
namespace Go.Proofs.Ytieenkloiicnkaa
open Go.RowKit

def Sg.z : Sg := ⟨0, 0, 0, []⟩

theorem Box.four {w : World} {b : Nat} {u0 u1 u2 u3 : Value} {t : TypeId} (h : Box w b #[u0, u1, u2, u3] t) : w.cell? ⟨b, 0, none⟩ = some u0 ∧ w.cell? ⟨b, 1, none⟩ = some u1 ∧ w.cell? ⟨b, 2, none⟩ = some u2 ∧ w.cell? ⟨b, 3, none⟩ = some u3 ∧ w.frozen? ⟨b, 0, none⟩ = false ∧ w.frozen? ⟨b, 1, none⟩ = false ∧ w.frozen? ⟨b, 2, none⟩ = false ∧ w.frozen? ⟨b, 3, none⟩ = false :=
  ⟨h.cell 0 _ rfl, h.cell 1 _ rfl, h.cell 2 _ rfl, h.cell 3 _ rfl, h.loose 0, h.loose 1, h.loose 2, h.loose 3⟩
def set4 (w : World) (b : Nat) (v0 v1 v2 v3 : Value) : World := (((w.setCell ⟨b, 0, none⟩ v0).setCell ⟨b, 1, none⟩ v1).setCell ⟨b, 2, none⟩ v2).setCell ⟨b, 3, none⟩ v3
theorem Box.set4 {w : World} {b : Nat} {u0 u1 u2 u3 : Value} {t : TypeId} (h : Box w b #[u0, u1, u2, u3] t) (v0 v1 v2 v3 : Value) : Box (Go.Proofs.Ytieenkloiicnkaa.set4 w b v0 v1 v2 v3) b #[v0, v1, v2, v3] t := (((h.set 0 v0).set 1 v1).set 2 v2).set 3 v3
theorem below_set4 {B b : Nat} {w0 w : World} (h : Below B w0 w) (hb : B ≤ b) (v0 v1 v2 v3 : Value) : Below B w0 (set4 w b v0 v1 v2 v3) :=
  (((h.setCell (p := ⟨b, 0, none⟩) hb v0).setCell (p := ⟨b, 1, none⟩) hb v1).setCell (p := ⟨b, 2, none⟩) hb v2).setCell (p := ⟨b, 3, none⟩) hb v3
theorem RBuf.asideG {α : Type} {E : Enc α} {B : Nat} {w : World} {v : Value} {l : List α} (h : RBuf E B w w v l) (g i : Nat) (u : Value) (hg : g < B) : RBuf E B (w.setCell ⟨g, i, none⟩ u) (w.setCell ⟨g, i, none⟩ u) v l := by
  refine h.shift (stored_grown w g i u) ?_
  cases hv : v.ownBlock with
  | none => exact .inl rfl
  | some k => exact .inr (fun e => by have := (h.own.lt k hv).1; have := Option.some.inj e; omega)

/-- Four cells of a row stored. -/
def put4 (w : World) (g i : Nat) (y : SgH) : World := (((w.setCell ⟨g, i * 4, none⟩ (.int .i64 y.no)).setCell ⟨g, i * 4 + 1, none⟩ (.int .i64 y.gen)).setCell ⟨g, i * 4 + 2, none⟩ (.int .i64 y.ende)).setCell ⟨g, i * 4 + 3, none⟩ (.slice y.a y.n y.c)
theorem put4_grown (w : World) (g i : Nat) (y : SgH) : w.grownBy (put4 w g i y) (some g) :=
  (((stored_grown w g (i * 4) _).trans (stored_grown _ g (i * 4 + 1) _)).trans (stored_grown _ g (i * 4 + 2) _)).trans (stored_grown _ g (i * 4 + 3) _)
theorem RBuf.put4 {B : Nat} {w0 w : World} {g cap : Nat} {l : List SgH} (h : RBuf sgE B w0 w (.slice (some ⟨g, 0, none⟩) l.length cap) l) (i : Nat) (x : SgH) (hi : l[i]? = some x) (y : SgH) :
    RBuf sgE B w0 (Go.Proofs.Ytieenkloiicnkaa.put4 w g i y) (.slice (some ⟨g, 0, none⟩) l.length cap) (l.set i y) := by
  have hlt : i < l.length := (List.getElem?_eq_some_iff.1 hi).1
  have hl1 : ∀ z : SgH, (l.set i z).length = l.length := fun z => by simp
  have ha1 : ∀ z : SgH, (l.set i z)[i]? = some z := fun z => List.getElem?_set_self hlt
  have s0 : RBuf sgE B w0 (w.setCell ⟨g, i * 4, none⟩ (.int .i64 y.no)) (.slice (some ⟨g, 0, none⟩) l.length cap) (l.set i ⟨y.no, x.gen, x.ende, x.a, x.n, x.c⟩) := h.stored i _ ⟨y.no, x.gen, x.ende, x.a, x.n, x.c⟩ hi 0 (by decide) (.int .i64 y.no) rfl
  rw [← hl1 ⟨y.no, x.gen, x.ende, x.a, x.n, x.c⟩] at s0
  have s1 := s0.stored i _ ⟨y.no, y.gen, x.ende, x.a, x.n, x.c⟩ (ha1 _) 1 (by decide) (.int .i64 y.gen) rfl
  rw [List.set_set, hl1] at s1
  rw [← hl1 ⟨y.no, y.gen, x.ende, x.a, x.n, x.c⟩] at s1
  have s2 := s1.stored i _ ⟨y.no, y.gen, y.ende, x.a, x.n, x.c⟩ (ha1 _) 2 (by decide) (.int .i64 y.ende) rfl
  rw [List.set_set, hl1] at s2
  rw [← hl1 ⟨y.no, y.gen, y.ende, x.a, x.n, x.c⟩] at s2
  have s3 := s2.stored i _ ⟨y.no, y.gen, y.ende, y.a, y.n, y.c⟩ (ha1 _) 3 (by decide) (.slice y.a y.n y.c) rfl
  rw [List.set_set, hl1] at s3
  exact s3

/-- A whole segment is put at its place. -/
theorem SgO.put {B : Nat} {w : World} {g cap n : Nat} {bs : List Sg} {hs : List SgH} (h : SgO B w (.slice (some ⟨g, 0, none⟩) n cap) bs hs) (hn : n = hs.length) {i : Nat} {x0 : SgH} (hi : hs[i]? = some x0) (x : SgH) (b : Sg)
    (hx : x.no = b.no ∧ x.gen = b.gen ∧ x.ende = b.ende) (hm : RBuf itE B w w x.mv b.items) (hf : ∀ k, x.mv.ownBlock = some k → k ≠ g)
    (ha : ∀ (j : Nat) (y : SgH), j ≠ i → hs[j]? = some y → ∀ k, x.mv.ownBlock = some k → y.mv.ownBlock ≠ some k) :
    SgO B (Go.Proofs.Ytieenkloiicnkaa.put4 w g i x) (.slice (some ⟨g, 0, none⟩) n cap) (bs.set i b) (hs.set i x) := by
  subst hn
  have hg := put4_grown w g i x
  have kept : ∀ (m : Value) (l : List Itm), RBuf itE B w w m l → (∀ k, m.ownBlock = some k → k ≠ g) → RBuf itE B (Go.Proofs.Ytieenkloiicnkaa.put4 w g i x) (Go.Proofs.Ytieenkloiicnkaa.put4 w g i x) m l := fun m l hm hf => by
    refine hm.shift hg ?_
    cases hmb : m.ownBlock with
    | none => exact .inl rfl
    | some k => exact .inr (fun e => hf k hmb (Option.some.inj e))
  have far0 : ∀ {j : Nat} {y : SgH}, hs[j]? = some y → ∀ k, y.mv.ownBlock = some k → k ≠ g := fun {j y} hj k hk e => h.far j y hj k hk (by rw [e]; rfl)
  refine ⟨(h.row.put4 i x0 hi x).here, by simp [h.len], fun j y d h1 h2 => ?_, fun j y h1 k hk => ?_, fun j k y z h1 h2 hjk q hq => ?_⟩
  · rcases set_waysG h1 with ⟨rfl, rfl⟩ | ⟨hne, h1⟩
    · rcases set_waysG h2 with ⟨_, rfl⟩ | ⟨hne, _⟩
      · exact ⟨hx, kept _ _ hm hf⟩
      · exact absurd rfl hne
    · rcases set_waysG h2 with ⟨e, _⟩ | ⟨_, h2⟩
      · exact absurd e hne
      · exact ⟨(h.at' j y d h1 h2).1, kept _ _ (h.at' j y d h1 h2).2 (far0 h1)⟩
  · rcases set_waysG h1 with ⟨rfl, rfl⟩ | ⟨hne, h1⟩
    · intro e; exact hf k hk (Option.some.inj e).symm
    · exact h.far j y h1 k hk
  · rcases set_waysG h1 with ⟨ej, ey⟩ | ⟨nj, g1⟩
    · rcases set_waysG h2 with ⟨ek, _⟩ | ⟨nk, g2⟩
      · exact absurd (ej.trans ek.symm) hjk
      · rw [ey] at hq
        exact ha k z nk g2 q hq
    · rcases set_waysG h2 with ⟨_, ez⟩ | ⟨_, g2⟩
      · rw [ez]; intro e; exact ha j y nj g1 q e hq
      · exact h.apart j k y z g1 g2 hjk q hq

set_option maxRecDepth 100000 in
set_option maxHeartbeats 2000000 in
theorem toSeg_any (b : Sg) (a : Option Addr) (n c : Nat) (w : World) (h : Rows' litE w (.slice a n c) b.items) (hl : b.items.length ≤ 1048576) :
    Calls Try.prog 23 #[.agg #[.int .i64 b.no, .int .i64 b.gen, .int .i64 b.ende, .slice a n c]] w fun e w' => ∃ (p : Option Addr) (k q : Nat), e = .returned (.agg #[.int .i64 b.no, .int .i64 b.gen, .int .i64 b.ende, .slice p k q]) ∧ RBuf itE w.heap.size w' w' (.slice p k q) b.items ∧ Below w.heap.size w w' := by
  have bA := belNew w (.cells #[.int .i64 b.no, .int .i64 b.gen, .int .i64 b.ende, .slice a n c] 55)
  obtain ⟨wA, hwA⟩ : ∃ wA, wA = w.alloc (.cells #[.int .i64 b.no, .int .i64 b.gen, .int .i64 b.ende, .slice a n c] 55) := ⟨_, rfl⟩
  have eA : wA.heap.size = w.heap.size + 1 := by rw [hwA]; simp
  rw [← hwA] at bA
  have hB := Box.new wA #[.int .i64 0, .int .i64 0, .int .i64 0, .slice none 0 0] 44
  have bB := bA.trans ((belNew wA (.cells #[.int .i64 0, .int .i64 0, .int .i64 0, .slice none 0 0] 44)).mono bA.size)
  obtain ⟨wB, hwB⟩ : ∃ wB, wB = wA.alloc (.cells #[.int .i64 0, .int .i64 0, .int .i64 0, .slice none 0 0] 44) := ⟨_, rfl⟩
  have eB : wB.heap.size = w.heap.size + 1 + 1 := by rw [hwB]; simp; omega
  rw [← hwB] at hB bB
  rw [eA] at hB
  have hC := Box.new wB #[.int .i64 b.no, .int .i64 b.gen, .int .i64 b.ende, .slice none 0 0] 44
  have kC := belNew wB (.cells #[.int .i64 b.no, .int .i64 b.gen, .int .i64 b.ende, .slice none 0 0] 44)
  have bC := bB.trans (kC.mono bB.size)
  obtain ⟨wC, hwC⟩ : ∃ wC, wC = wB.alloc (.cells #[.int .i64 b.no, .int .i64 b.gen, .int .i64 b.ende, .slice none 0 0] 44) := ⟨_, rfl⟩
  have eC : wC.heap.size = w.heap.size + 1 + 1 + 1 := by rw [hwC]; simp; omega
  rw [← hwC] at hC kC bC
  rw [eB] at hC
  have hB' := hB.later kC
  have HT := Lib.hid (toItemS_any b.items _ wC (h.later bC) hl)
  have HEC := Lib.hid eC
  have HWC : Hid (wC = ((w.alloc (.cells #[.int .i64 b.no, .int .i64 b.gen, .int .i64 b.ende, .slice a n c] 55)).alloc (.cells #[.int .i64 0, .int .i64 0, .int .i64 0, .slice none 0 0] 44)).alloc (.cells #[.int .i64 b.no, .int .i64 b.gen, .int .i64 b.ende, .slice none 0 0] 44)) := by rw [← hwA, ← hwB, ← hwC]; exact rfl
  clear h hB bB bA kC eA eB eC hwA hwB hwC
  go_enter Try.func23, Try.ntmps23
  go_wp2_with fail
  rw [← HWC.out]
  refine HT.out.mono ?_
  rintro e w1 ⟨v1, rfl, R1⟩
  obtain ⟨p, q, rfl⟩ := R1.form
  have B1 := hB'.later R1.bel
  have C1 := hC.later R1.bel
  have b1 := bC.trans (R1.bel.mono bC.size)
  obtain ⟨u0, u1, u2, u3, f0, f1, f2, f3⟩ := B1.four
  obtain ⟨x0, x1, x2, x3, y0, y1, y2, y3⟩ := C1.four
  have C2 : Box (w1.setCell ⟨w.heap.size + 1 + 1, 3, none⟩ (.slice p b.items.length q)) (w.heap.size + 1 + 1) #[.int .i64 b.no, .int .i64 b.gen, .int .i64 b.ende, .slice p b.items.length q] 44 := C1.set 3 _
  have B2 : Box (w1.setCell ⟨w.heap.size + 1 + 1, 3, none⟩ (.slice p b.items.length q)) (w.heap.size + 1) #[.int .i64 0, .int .i64 0, .int .i64 0, .slice none 0 0] 44 := B1.other (by omega) 3 _
  have hg1 : w.heap.size + 1 + 1 < wC.heap.size := by have := HEC.out; omega
  have R2 := Lib.hid (R1.here.asideG (w.heap.size + 1 + 1) 3 (.slice p b.items.length q) hg1)
  have b2 := Lib.hid (b1.setCell (p := ⟨w.heap.size + 1 + 1, 3, none⟩) (show w.heap.size ≤ w.heap.size + 1 + 1 by omega) (.slice p b.items.length q))
  have HG := Lib.hid hg1
  clear hB' hC bC HT HWC HEC B1 C1 b1 R1 hg1
  go_upto_region 6 with fail
  generalize w1.setCell ⟨w.heap.size + 1 + 1, 3, none⟩ (.slice p b.items.length q) = w2 at C2 B2 R2 b2 ⊢
  clear u0 u1 u2 u3 x0 x1 x2 x3 f0 f1 f2 f3 y0 y1 y2 y3
  obtain ⟨u0, u1, u2, u3, f0, f1, f2, f3⟩ := B2.four
  obtain ⟨x0, x1, x2, x3, y0, y1, y2, y3⟩ := C2.four
  have L5 := B2.set4 (.int .i64 b.no) (.int .i64 b.gen) (.int .i64 b.ende) (.slice p b.items.length q)
  unfold set4 at L5
  obtain ⟨z0, z1, z2, z3, _⟩ := L5.four
  clear L5 B2 C2
  go_wp2
  refine bodyPost_ret (v := .agg #[.int .i64 b.no, .int .i64 b.gen, .int .i64 b.ende, .slice p b.items.length q]) (by simp [results, Try.results23, go_sem, z0, z1, z2, z3]) rfl ⟨_, _, _, rfl, ?_, ?_⟩
  · have hl : w.heap.size + 1 < wC.heap.size := by have := HG.out; omega
    exact ((((R2.out.asideG _ 0 _ hl).asideG _ 1 _ hl).asideG _ 2 _ hl).asideG _ 3 _ hl).lower (by omega)
  · exact (((b2.out.setCell (p := ⟨w.heap.size + 1, 0, none⟩) (by simp) _).setCell (p := ⟨w.heap.size + 1, 1, none⟩) (by simp) _).setCell (p := ⟨w.heap.size + 1, 2, none⟩) (by simp) _).setCell (p := ⟨w.heap.size + 1, 3, none⟩) (by simp) _

set_option maxRecDepth 100000 in
set_option maxHeartbeats 4000000 in
theorem toSegS_any (l : List Sg) (v : Value) (w : World) (h : LGRd w v l) (hl : l.length ≤ 1048576) (hm : ∀ b ∈ l, b.items.length ≤ 1048576) :
    Calls Try.prog 13 #[v] w fun e w' => ∃ v' hs, e = .returned v' ∧ SgO w.heap.size w' v' l hs ∧ Below w.heap.size w w' := by
  obtain ⟨a, cap, rfl, hrow⟩ := h.segs
  have HR := Lib.hid hrow
  have HM := Lib.hid hm
  clear h hrow hm
  go_enter Try.func13, Try.ntmps13
  go_wp2_with (at_make; refine wpList_make_rows rfl _ _ sgE rfl .i64 .i64 _ _ l.length rfl rfl rfl rfl (by show 49 * l.length ≤ _; omega) ?_; intro w1 hr1 hs1)
  have S0 : SgO w.heap.size w1 (.slice (some ⟨w.heap.size, 0, none⟩) l.length l.length) (copyTo Sg.z l 0) (List.replicate l.length sgE.z0) := by
    rw [copyTo_zero]
    refine ⟨hr1.here, by simp, fun j x b h1 h2 => ?_, fun j x h1 k hk => ?_, fun i j x y h1 h2 _ k hk => ?_⟩
    · rw [List.getElem?_replicate] at h1 h2
      split at h1
      · rename_i c
        rw [if_pos c] at h2
        cases h1
        cases h2
        exact ⟨⟨rfl, rfl, rfl⟩, ⟨World.ownsRow_nil _ _ _ _, Below.refl _ _, hr1.le⟩⟩
      · cases h1
    · rw [List.getElem?_replicate] at h1
      split at h1
      · cases h1; cases hk
      · cases h1
    · rw [List.getElem?_replicate] at h1
      split at h1
      · cases h1; cases hk
      · cases h1
  have B0 : Below w.heap.size w w1 := hr1.bel
  go_loopw [4] (fun iv wr => ∃ (i : Nat) (hs : List SgH), i ≤ l.length ∧ iv = .int .i64 (i : Int) ∧ SgO w.heap.size wr (.slice (some ⟨w.heap.size, 0, none⟩) l.length l.length) (copyTo Sg.z l i) hs ∧ Below w.heap.size w wr) (fun iv _ => l.length - (intOf iv).toNat)
  case atStart => exact ⟨0, _, by omega, rfl, S0, B0⟩
  case round =>
    clear S0 B0 hr1 hs1
    obtain ⟨i, hs, hi, rfl, S, hb⟩ := hrel
    by_cases hlt : i < l.length
    · have hgx : l[i]? = some l[i] := List.getElem?_eq_getElem hlt
      obtain ⟨ga, oa, am, nm, cm, rfl, a0, a1, a2, a3, rm⟩ := HR.out _ hb i _ hgx
      have hi0 : (0 : Int) ≤ (i : Int) := by omega
      have hi1 : (i : Int) < (l.length : Int) := by omega
      have hml := copyTo_length (z := Sg.z) hi
      have hms := copyTo_set (z := Sg.z) hlt
      have hat := copyTo_at (z := Sg.z) hlt
      have hhl : l.length = hs.length := by rw [S.len, hml]
      obtain ⟨x0, hx0⟩ : ∃ x0, hs[i]? = some x0 := ⟨_, List.getElem?_eq_getElem (by omega)⟩
      have HF : Hid (∀ w1, Below wr.heap.size wr w1 → ∃ (v0 v1 v2 : Int) (pa : Option Addr) (pn pc : Nat), w1.cell? ⟨w.heap.size, i * 4, none⟩ = some (.int .i64 v0) ∧ w1.frozen? ⟨w.heap.size, i * 4, none⟩ = false ∧ w1.cell? ⟨w.heap.size, i * 4 + 1, none⟩ = some (.int .i64 v1) ∧ w1.frozen? ⟨w.heap.size, i * 4 + 1, none⟩ = false ∧ w1.cell? ⟨w.heap.size, i * 4 + 2, none⟩ = some (.int .i64 v2) ∧ w1.frozen? ⟨w.heap.size, i * 4 + 2, none⟩ = false ∧ w1.cell? ⟨w.heap.size, i * 4 + 3, none⟩ = some (.slice pa pn pc) ∧ w1.frozen? ⟨w.heap.size, i * 4 + 3, none⟩ = false) := by
        intro w1 hb1
        have h1 := S.later hb1
        have c0 := h1.cellAt hx0 hhl 0 _ rfl
        have c1 := h1.cellAt hx0 hhl 1 _ rfl
        have c2 := h1.cellAt hx0 hhl 2 _ rfl
        have c3 := h1.cellAt hx0 hhl 3 _ rfl
        exact ⟨_, _, _, _, _, _, c0.1, c0.2, c1.1, c1.2, c2.1, c2.2, c3.1, c3.2⟩
      have hmx := HM.out l[i] (List.getElem_mem hlt)
      generalize hx : l[i] = x at *
      have HT := Lib.hid (toSeg_any x am nm cm wr (rm.later hb) hmx)
      have HX0 := Lib.hid hx0
      have HHL := Lib.hid hhl
      clear hgx rm hx0 hhl hx hmx
      go_wp2_with (go_at_call 23; refine HT.out.mono ?_; rintro e w1 ⟨pp, pk, pq, rfl, RM, hb1⟩; obtain ⟨v0, v1, v2, pa, pn, pc, d0, f0, d1, f1, d2, f2, d3, f3⟩ := HF.out w1 hb1)
      have hp := (S.later hb1).put HHL.out HX0.out ⟨x.no, x.gen, x.ende, pp, pk, pq⟩ x ⟨rfl, rfl, rfl⟩ (RM.lower hb.size) (fun k hk e => by
        have h1 := (RM.own.lt k hk).1
        have h2 := (S.where'.1 w.heap.size rfl).2
        omega) (fun j y _ hj k hk e => by
        have h1 := (RM.own.lt k hk).1
        have h2 := (S.where'.2 j y hj k e).2
        omega)
      rw [hms] at hp
      have hbz : Below w.heap.size w (put4 w1 w.heap.size i ⟨x.no, x.gen, x.ende, pp, pk, pq⟩) := (hb.trans (hb1.mono hb.size)).grown (put4_grown _ _ _ _) (Nat.le_trans hb.size hb1.size) (fun k hk => by have := Option.some.inj hk; omega)
      unfold put4 at hp hbz
      go_roundw
      case rel => exact ⟨i + 1, _, by omega, by go_num, hp, hbz⟩
      case measure => simp [intOf]; omega
    · go_wp2
      go_ret
      rw [copyTo_all (by omega)] at S
      exact ⟨_, _, rfl, S, hb⟩

end Go.Proofs.Ytieenkloiicnkaa

/- Logs in memory: a disk, and segments in use. -/
namespace Go.Proofs.Ytieenkloiicnkaa
open Go.RowKit

/-- A log. -/
structure Lg where
  d : Dk
  segs : Int
  used : List Sg
  ng : Int
  ns : Int
  st : Int
  nv : Int

theorem RBuf.stayG {α : Type} {E : Enc α} {B : Nat} {w w' : World} {v : Value} {l : List α} (h : RBuf E B w w v l) (hz : w.heap.size ≤ w'.heap.size) (hk : ∀ k, v.ownBlock = some k → w'.heap[k]? = w.heap[k]?) : RBuf E B w' w' v l := by
  refine ⟨⟨h.own.1, ?_⟩, Below.refl _ _, Nat.le_trans h.le hz⟩
  rcases h.own.2 with h1 | ⟨g, cap, cur, h1, h2, h3, h4⟩
  · exact .inl h1
  · exact .inr ⟨g, cap, cur, h1, h2, (hk g (by rw [h1]; rfl)).trans h3, h4⟩
theorem Box.keptG {b B T : Nat} {w w' : World} {cs : Array Value} {t : TypeId} (h : Box w b cs t) (hk : Kept B T w w') (hb : b < B ∨ T ≤ b) : Box w' b cs t := (hk.block b h.lt hb).trans h
theorem Box.eightL {w : World} {b : Nat} {u0 u1 u2 u3 u4 u5 u6 u7 : Value} {t : TypeId} (h : Box w b #[u0, u1, u2, u3, u4, u5, u6, u7] t) :
    w.cell? ⟨b, 0, none⟩ = some u0 ∧ w.cell? ⟨b, 1, none⟩ = some u1 ∧ w.cell? ⟨b, 2, none⟩ = some u2 ∧ w.cell? ⟨b, 3, none⟩ = some u3 ∧ w.cell? ⟨b, 4, none⟩ = some u4 ∧ w.cell? ⟨b, 5, none⟩ = some u5 ∧ w.cell? ⟨b, 6, none⟩ = some u6 ∧ w.cell? ⟨b, 7, none⟩ = some u7 ∧
    w.frozen? ⟨b, 0, none⟩ = false ∧ w.frozen? ⟨b, 1, none⟩ = false ∧ w.frozen? ⟨b, 2, none⟩ = false ∧ w.frozen? ⟨b, 3, none⟩ = false ∧ w.frozen? ⟨b, 4, none⟩ = false ∧ w.frozen? ⟨b, 5, none⟩ = false ∧ w.frozen? ⟨b, 6, none⟩ = false ∧ w.frozen? ⟨b, 7, none⟩ = false :=
  ⟨h.cell 0 _ rfl, h.cell 1 _ rfl, h.cell 2 _ rfl, h.cell 3 _ rfl, h.cell 4 _ rfl, h.cell 5 _ rfl, h.cell 6 _ rfl, h.cell 7 _ rfl, h.loose 0, h.loose 1, h.loose 2, h.loose 3, h.loose 4, h.loose 5, h.loose 6, h.loose 7⟩
def set8L (w : World) (b : Nat) (v0 v1 v2 v3 v4 v5 v6 v7 : Value) : World := (((((((w.setCell ⟨b, 0, none⟩ v0).setCell ⟨b, 1, none⟩ v1).setCell ⟨b, 2, none⟩ v2).setCell ⟨b, 3, none⟩ v3).setCell ⟨b, 4, none⟩ v4).setCell ⟨b, 5, none⟩ v5).setCell ⟨b, 6, none⟩ v6).setCell ⟨b, 7, none⟩ v7
theorem Box.set8L {w : World} {b : Nat} {u0 u1 u2 u3 u4 u5 u6 u7 : Value} {t : TypeId} (h : Box w b #[u0, u1, u2, u3, u4, u5, u6, u7] t) (v0 v1 v2 v3 v4 v5 v6 v7 : Value) : Box (Go.Proofs.Ytieenkloiicnkaa.set8L w b v0 v1 v2 v3 v4 v5 v6 v7) b #[v0, v1, v2, v3, v4, v5, v6, v7] t :=
  have a0 : Box (w.setCell ⟨b, 0, none⟩ v0) b #[v0, u1, u2, u3, u4, u5, u6, u7] t := h.set 0 v0
  have a1 : Box ((w.setCell ⟨b, 0, none⟩ v0).setCell ⟨b, 1, none⟩ v1) b #[v0, v1, u2, u3, u4, u5, u6, u7] t := a0.set 1 v1
  have a2 : Box (((w.setCell ⟨b, 0, none⟩ v0).setCell ⟨b, 1, none⟩ v1).setCell ⟨b, 2, none⟩ v2) b #[v0, v1, v2, u3, u4, u5, u6, u7] t := a1.set 2 v2
  have a3 : Box ((((w.setCell ⟨b, 0, none⟩ v0).setCell ⟨b, 1, none⟩ v1).setCell ⟨b, 2, none⟩ v2).setCell ⟨b, 3, none⟩ v3) b #[v0, v1, v2, v3, u4, u5, u6, u7] t := a2.set 3 v3
  have a4 : Box (((((w.setCell ⟨b, 0, none⟩ v0).setCell ⟨b, 1, none⟩ v1).setCell ⟨b, 2, none⟩ v2).setCell ⟨b, 3, none⟩ v3).setCell ⟨b, 4, none⟩ v4) b #[v0, v1, v2, v3, v4, u5, u6, u7] t := a3.set 4 v4
  have a5 : Box ((((((w.setCell ⟨b, 0, none⟩ v0).setCell ⟨b, 1, none⟩ v1).setCell ⟨b, 2, none⟩ v2).setCell ⟨b, 3, none⟩ v3).setCell ⟨b, 4, none⟩ v4).setCell ⟨b, 5, none⟩ v5) b #[v0, v1, v2, v3, v4, v5, u6, u7] t := a4.set 5 v5
  have a6 : Box (((((((w.setCell ⟨b, 0, none⟩ v0).setCell ⟨b, 1, none⟩ v1).setCell ⟨b, 2, none⟩ v2).setCell ⟨b, 3, none⟩ v3).setCell ⟨b, 4, none⟩ v4).setCell ⟨b, 5, none⟩ v5).setCell ⟨b, 6, none⟩ v6) b #[v0, v1, v2, v3, v4, v5, v6, u7] t := a5.set 6 v6
  a6.set 7 v7
theorem below_set8L {B b : Nat} {w0 w : World} (h : Below B w0 w) (hb : B ≤ b) (v0 v1 v2 v3 v4 v5 v6 v7 : Value) : Below B w0 (set8L w b v0 v1 v2 v3 v4 v5 v6 v7) :=
  (((((((h.setCell (p := ⟨b, 0, none⟩) hb v0).setCell (p := ⟨b, 1, none⟩) hb v1).setCell (p := ⟨b, 2, none⟩) hb v2).setCell (p := ⟨b, 3, none⟩) hb v3).setCell (p := ⟨b, 4, none⟩) hb v4).setCell (p := ⟨b, 5, none⟩) hb v5).setCell (p := ⟨b, 6, none⟩) hb v6).setCell (p := ⟨b, 7, none⟩) hb v7
theorem grown_set8L (w : World) (b : Nat) (v0 v1 v2 v3 v4 v5 v6 v7 : Value) : w.grownBy (set8L w b v0 v1 v2 v3 v4 v5 v6 v7) (some b) :=
  (((((((stored_grown w b 0 v0).trans (stored_grown _ b 1 v1)).trans (stored_grown _ b 2 v2)).trans (stored_grown _ b 3 v3)).trans (stored_grown _ b 4 v4)).trans (stored_grown _ b 5 v5)).trans (stored_grown _ b 6 v6)).trans (stored_grown _ b 7 v7)

theorem SgO.stay {B : Nat} {w w' : World} {v : Value} {bs : List Sg} {hs : List SgH} (h : SgO B w v bs hs) (hz : w.heap.size ≤ w'.heap.size) (h1 : ∀ k, v.ownBlock = some k → w'.heap[k]? = w.heap[k]?) (h2 : ∀ (j : Nat) (x : SgH), hs[j]? = some x → ∀ k, x.mv.ownBlock = some k → w'.heap[k]? = w.heap[k]?) : SgO B w' v bs hs :=
  ⟨h.row.stayG hz h1, h.len, fun j x b e1 e2 => ⟨(h.at' j x b e1 e2).1, (h.at' j x b e1 e2).2.stayG hz (h2 j x e1)⟩, h.far, h.apart⟩

/-- Segments in memory of their own, in the blocks B .. T-1. -/
structure GOwn (B T : Nat) (w : World) (v : Value) (l : List Sg) (hs : List SgH) : Prop where
  own : SgO B w v l hs
  le : T ≤ w.heap.size
  row : ∀ k, v.ownBlock = some k → k < T
  its : ∀ (j : Nat) (x : SgH), hs[j]? = some x → ∀ k, x.mv.ownBlock = some k → k < T
theorem SgO.gown {B : Nat} {w : World} {v : Value} {l : List Sg} {hs : List SgH} (h : SgO B w v l hs) : GOwn B w.heap.size w v l hs :=
  ⟨h, Nat.le_refl _, fun k hk => (h.where'.1 k hk).2, fun j x hj k hk => (h.where'.2 j x hj k hk).2⟩
theorem GOwn.kept {B T B' T' : Nat} {w w' : World} {v : Value} {l : List Sg} {hs : List SgH} (h : GOwn B T w v l hs) (hk : Kept B' T' w w') (hd : T ≤ B' ∨ T' ≤ B) : GOwn B T w' v l hs :=
  ⟨h.own.stay hk.size (fun k e => hk.block k (h.own.where'.1 k e).2 (by have := h.row k e; have := (h.own.where'.1 k e).1; omega)) (fun j x hj k e => hk.block k (h.own.where'.2 j x hj k e).2 (by have := h.its j x hj k e; have := (h.own.where'.2 j x hj k e).1; omega)), Nat.le_trans h.le hk.size, h.row, h.its⟩
theorem GOwn.later {B T : Nat} {w w' : World} {v : Value} {l : List Sg} {hs : List SgH} (h : GOwn B T w v l hs) (hb : Below w.heap.size w w') : GOwn B T w' v l hs :=
  h.kept (Kept.of_below hb T T) (.inl (Nat.le_refl _))
theorem GOwn.widen {B T B' T' : Nat} {w : World} {v : Value} {l : List Sg} {hs : List SgH} (h : GOwn B T w v l hs) (hB : B' ≤ B) (hT : T ≤ T') (hs' : T' ≤ w.heap.size) : GOwn B' T' w v l hs :=
  ⟨h.own.lower hB, hs', fun k e => Nat.lt_of_lt_of_le (h.row k e) hT, fun j x hj k e => Nat.lt_of_lt_of_le (h.its j x hj k e) hT⟩

/-- The parts of a log, in memory of their own, all apart. -/
structure LgP (B T : Nat) (w : World) (va vb vu : Value) (L : Lg) (hs : List SgH) : Prop where
  sec : LOwn strE B T w va L.d.sec
  cac : LOwn wrE B T w vb L.d.cache
  two : va.ownBlock = none ∨ va.ownBlock ≠ vb.ownBlock
  use : GOwn B T w vu L.used hs
  far : ∀ k, va.ownBlock = some k ∨ vb.ownBlock = some k → vu.ownBlock ≠ some k ∧ ∀ (j : Nat) (x : SgH), hs[j]? = some x → x.mv.ownBlock ≠ some k
/-- The value v is the log L, in memory of its own, in the blocks B .. T-1. -/
def LgO (B T : Nat) (w : World) (v : Value) (L : Lg) : Prop :=
  ∃ va vb vu hs, v = .agg #[va, vb, .int .i64 L.segs, vu, .int .i64 L.ng, .int .i64 L.ns, .int .i64 L.st, .int .i64 L.nv] ∧ LgP B T w va vb vu L hs
theorem LgP.kept {B T B' T' : Nat} {w w' : World} {va vb vu : Value} {L : Lg} {hs : List SgH} (h : LgP B T w va vb vu L hs) (hk : Kept B' T' w w') (hd : T ≤ B' ∨ T' ≤ B) : LgP B T w' va vb vu L hs :=
  ⟨h.sec.kept hk hd, h.cac.kept hk hd, h.two, h.use.kept hk hd, h.far⟩
theorem LgP.later {B T : Nat} {w w' : World} {va vb vu : Value} {L : Lg} {hs : List SgH} (h : LgP B T w va vb vu L hs) (hb : Below w.heap.size w w') : LgP B T w' va vb vu L hs :=
  h.kept (Kept.of_below hb T T) (.inl (Nat.le_refl _))
theorem LgO.kept {B T B' T' : Nat} {w w' : World} {v : Value} {L : Lg} (h : LgO B T w v L) (hk : Kept B' T' w w') (hd : T ≤ B' ∨ T' ≤ B) : LgO B T w' v L := by
  obtain ⟨va, vb, vu, hs, e, p⟩ := h
  exact ⟨va, vb, vu, hs, e, p.kept hk hd⟩
theorem LgO.later {B T : Nat} {w w' : World} {v : Value} {L : Lg} (h : LgO B T w v L) (hb : Below w.heap.size w w') : LgO B T w' v L :=
  h.kept (Kept.of_below hb T T) (.inl (Nat.le_refl _))
theorem LgP.stay {B T : Nat} {w w' : World} {va vb vu : Value} {L : Lg} {hs : List SgH} (h : LgP B T w va vb vu L hs) (hz : w.heap.size ≤ w'.heap.size) (hk : ∀ q, B ≤ q → q < T → w'.heap[q]? = w.heap[q]?) : LgP B T w' va vb vu L hs :=
  ⟨⟨h.sec.1.stayG hz (fun q e => hk q (h.sec.1.own.lt q e).1 (h.sec.2.2 q e)), Nat.le_trans h.sec.2.1 hz, h.sec.2.2⟩, ⟨h.cac.1.stayG hz (fun q e => hk q (h.cac.1.own.lt q e).1 (h.cac.2.2 q e)), Nat.le_trans h.cac.2.1 hz, h.cac.2.2⟩, h.two,
   ⟨h.use.own.stay hz (fun q e => hk q (h.use.own.where'.1 q e).1 (h.use.row q e)) (fun j x hj q e => hk q (h.use.own.where'.2 j x hj q e).1 (h.use.its j x hj q e)), Nat.le_trans h.use.le hz, h.use.row, h.use.its⟩, h.far⟩
theorem LgP.widen {B T B' T' : Nat} {w : World} {va vb vu : Value} {L : Lg} {hs : List SgH} (h : LgP B T w va vb vu L hs) (hB : B' ≤ B) (hT : T ≤ T') (hz : T' ≤ w.heap.size) : LgP B' T' w va vb vu L hs :=
  ⟨(h.sec.deeper hB).wider hT hz, (h.cac.deeper hB).wider hT hz, h.two, h.use.widen hB hT hz, h.far⟩
/-- A disk and segments behind it make a log. -/
theorem LgP.mk2 {B1 T1 B2 T : Nat} {w : World} {va vb vu : Value} {L : Lg} {hs : List SgH} (hd : DOwn B1 T1 w (.agg #[va, vb]) L.d) (hg : GOwn B2 T w vu L.used hs) (h1 : T1 ≤ B2) (h2 : B1 ≤ B2) (h3 : T1 ≤ T) : LgP B1 T w va vb vu L hs := by
  obtain ⟨ua, ub, e, l1, l2, l3⟩ := hd
  simp only [Value.agg.injEq, Array.mk.injEq, List.cons.injEq, and_true] at e
  obtain ⟨rfl, rfl⟩ := e
  refine ⟨l1.wider h3 hg.le, l2.wider h3 hg.le, l3, hg.widen h2 (Nat.le_refl _) hg.le, fun k hk => ?_⟩
  have hlt : k < T1 := by rcases hk with e | e; exact l1.2.2 k e; exact l2.2.2 k e
  refine ⟨fun e => ?_, fun j x hj e => ?_⟩
  · have := (hg.own.where'.1 k e).1; omega
  · have := (hg.own.where'.2 j x hj k e).1; omega
theorem LgP.down {B T : Nat} {w : World} {va vb vu : Value} {L : Lg} {hs : List SgH} (h : LgP B T w va vb vu L hs) : DOwn B T w (.agg #[va, vb]) L.d := ⟨va, vb, rfl, h.sec, h.cac, h.two⟩
theorem LgP.form {B T : Nat} {w : World} {va vb vu : Value} {L : Lg} {hs : List SgH} (h : LgP B T w va vb vu L hs) : ∃ (a b u : Option Addr) (c e f : Nat), va = .slice a L.d.sec.length c ∧ vb = .slice b L.d.cache.length e ∧ vu = .slice u L.used.length f := by
  obtain ⟨a, c, rfl⟩ := h.sec.1.form
  obtain ⟨b, e, rfl⟩ := h.cac.1.form
  obtain ⟨u, f, rfl⟩ := h.use.own.row.form
  exact ⟨a, b, u, c, e, f, rfl, rfl, by rw [h.use.own.len]⟩
theorem LgO.form {B T : Nat} {w : World} {v : Value} {L : Lg} (h : LgO B T w v L) : ∃ (a b u : Option Addr) (c e f : Nat), v = .agg #[.slice a L.d.sec.length c, .slice b L.d.cache.length e, .int .i64 L.segs, .slice u L.used.length f, .int .i64 L.ng, .int .i64 L.ns, .int .i64 L.st, .int .i64 L.nv] := by
  obtain ⟨va, vb, vu, hs, rfl, p⟩ := h
  obtain ⟨a, b, u, c, e, f, rfl, rfl, rfl⟩ := p.form
  exact ⟨a, b, u, c, e, f, rfl⟩

/-- A log that can be read. -/
def LRd (w : World) (v : Value) (L : Lg) : Prop :=
  ∃ va vb vu, v = .agg #[va, vb, .int .i64 L.segs, vu, .int .i64 L.ng, .int .i64 L.ns, .int .i64 L.st, .int .i64 L.nv] ∧ DRd w (.agg #[va, vb]) L.d ∧ GRd w vu L.used
theorem LgO.rd {B T : Nat} {w : World} {v : Value} {L : Lg} (h : LgO B T w v L) : LRd w v L := by
  obtain ⟨va, vb, vu, hs, rfl, p⟩ := h
  exact ⟨va, vb, vu, rfl, p.down.rd, p.use.own.rd⟩
theorem LRd.later {w w' : World} {v : Value} {L : Lg} (h : LRd w v L) (hb : Below w.heap.size w w') : LRd w' v L := by
  obtain ⟨va, vb, vu, e, h1, h2⟩ := h
  exact ⟨va, vb, vu, e, h1.later hb, h2.later hb⟩

/-- A log that comes in. -/
def LIn (w : World) (v : Value) (L : Lg) : Prop :=
  ∃ va vb vu, v = .agg #[va, vb, .int .i64 L.segs, vu, .int .i64 L.ng, .int .i64 L.ns, .int .i64 L.st, .int .i64 L.nv] ∧ DIn w (.agg #[va, vb]) L.d ∧ LGRd w vu L.used ∧ L.used.length ≤ 9223372036854775807 ∧ ∀ b ∈ L.used, sgShort b
theorem LIn.later {w w' : World} {v : Value} {L : Lg} (h : LIn w v L) (hb : Below w.heap.size w w') : LIn w' v L := by
  obtain ⟨va, vb, vu, e, h1, h2, h3⟩ := h
  exact ⟨va, vb, vu, e, h1.later hb, h2.later hb, h3⟩

/-- What szLog leaves over. -/
def Lg.lean (L : Lg) (left : Int) : Prop := L.d.lean left ∧ ((L.used.length + gIts L.used : Nat) : Int) ≤ left ∧ ∀ b ∈ L.used, sgLean left b

theorem kF_gIts : ∀ (k : Nat) (bs : List Sg), kF k bs = k + 3 * bs.length + 9 * gIts bs
  | k, [] => by simp [kF, gIts]
  | k, b :: bs => by
    have h1 := kF_gIts (kG k b) bs
    unfold kF gIts
    rw [h1, List.length_cons]
    unfold kG
    omega
/-- A log all marked, and the number behind the marks. -/
def marksLg (k : Nat) (L : Lg) : Lg := ⟨marksD k L.d, L.segs, marksG (k + L.d.count) L.used, L.ng, L.ns, L.st, L.nv⟩
def Lg.kL (k : Nat) (L : Lg) : Nat := kF (k + L.d.count) L.used
theorem Lg.lean_small (L : Lg) (h : L.lean 1048576) : L.d.small ∧ L.used.length ≤ 1048576 ∧ (∀ b ∈ L.used, b.items.length ≤ 1099511627776) ∧ L.kL 1 ≤ 40000000 ∧ L.d.count ≤ 4000000 := by
  obtain ⟨⟨h1, h2, _, _⟩, h3, _⟩ := h
  have h4 : L.d.count ≤ 4000000 := by unfold Dk.count; omega
  refine ⟨⟨by omega, by omega⟩, by omega, fun b hb => by have := gIts_mem hb; omega, ?_, h4⟩
  unfold Lg.kL
  rw [kF_gIts]
  omega
theorem Lg.lean_texts (L : Lg) (h : L.lean 1048576) : ∀ b ∈ L.used, ∀ x ∈ b.items, x.2.user.size ≤ 1048576 ∧ x.2.name.size ≤ 1048576 ∧ x.2.text.size ≤ 1048576 := fun b hb x hx => by
  have := h.2.2 b hb x hx
  omega

end Go.Proofs.Ytieenkloiicnkaa
