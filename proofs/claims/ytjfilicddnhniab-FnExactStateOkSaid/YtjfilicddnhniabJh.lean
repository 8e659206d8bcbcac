/- Texts of our own, joined. -/
import Derived.Test.YtjfilicddnhniabJd
import Derived.Test.YtjfilicddnhniabJc
import Derived.Test.YtjfilicddnhniabJe
import Derived.WalkSpells
import Derived.WalkSmall
import Derived.Test.YtjfilicddnhniabJg
import Derived.Deep.Slices
import Derived.Lib.SmallJoins
import Derived.ProofKit
/- Lists copied element by element. -/
namespace Go.Proofs.Ytjfilicddnhniab
open Go.RowKit

/-- The first i elements of l, then nothing yet. -/
def copyTo {α : Type} (z : α) (l : List α) (i : Nat) : List α := l.take i ++ List.replicate (l.length - i) z
theorem copyTo_length {α : Type} {z : α} {l : List α} {i : Nat} (h : i ≤ l.length) : (copyTo z l i).length = l.length := by simp [copyTo]; omega
theorem copyTo_zero {α : Type} (z : α) (l : List α) : copyTo z l 0 = List.replicate l.length z := by simp [copyTo]
theorem copyTo_all {α : Type} {z : α} {l : List α} {i : Nat} (h : l.length ≤ i) : copyTo z l i = l := by
  rw [copyTo, List.take_of_length_le h, show l.length - i = 0 by omega]; simp
theorem copyTo_at {α : Type} {z : α} {l : List α} {i : Nat} (h : i < l.length) : (copyTo z l i)[i]? = some z := by
  have hm : (l.take i).length = i := by simp; omega
  rw [copyTo, List.getElem?_append_right (by omega), hm, Nat.sub_self, List.getElem?_replicate, if_pos (by omega)]
theorem copyTo_set {α : Type} {z : α} {l : List α} {i : Nat} (h : i < l.length) : (copyTo z l i).set i l[i] = copyTo z l (i + 1) := by
  have hm : (l.take i).length = i := by simp; omega
  rw [copyTo, List.set_append_right _ _ (by omega), hm, Nat.sub_self, copyTo, List.take_succ_eq_append_getElem h, List.append_assoc]
  have : l.length - i = (l.length - (i + 1)) + 1 := by omega
  rw [this, List.replicate_succ]
  rfl

theorem Rows'.at {α : Type} {E : Enc α} {w : World} {a : Option Addr} {cap : Nat} {l : List α} (h : Rows' E w (.slice a l.length cap) l) (i : Nat) (hi : i < l.length) :
    ∃ g off : Nat, a = some ⟨g, off, none⟩ ∧ ∀ w', Below w.heap.size w w' → ∀ k u, (E.f l[i])[k]? = some u → w'.cell? ⟨g, off + i * E.sz + k, none⟩ = some u := by
  rcases h.ways with ⟨h0, _⟩ | ⟨_, g, off, c, hv, hc, hg, hcl⟩
  · rw [h0] at hi; simp at hi
  · simp only [Value.slice.injEq] at hv
    exact ⟨g, off, hv.1, fun w' hb k u hu => (hb.cell (p := ⟨g, off + i * E.sz + k, none⟩) hg).trans (hcl i _ (List.getElem?_eq_getElem hi) k u hu)⟩

end Go.Proofs.Ytjfilicddnhniab

/- A list that can be read, appended to one of the call's own. -/
namespace Go.Proofs.Ytjfilicddnhniab
open Go.RowKit

variable {α : Type} {E : Enc α}

theorem run_append_zero {P : Program} {w : World} (base : Nat) (t ty e : TypeId) (i : TypeInfo) (size : Nat) (ht : P.underlying t = some (.slice e)) (hi : P.info? e = some i)
    (v : Value) (n : Nat) (xs : List Value) (hown : w.ownsRow base e size v n xs) (a : Option Addr) (c : Nat) :
    (Builtin.append_ #[t, t] ty #[v, .slice a 0 c]).run P w = .ok v w := by
  rcases hown.2 with ⟨rfl, rfl⟩ | ⟨g, cap, cur, rfl, _, _, hnc, _⟩
  · cases a <;> simp [Builtin.append_, run_underlying ht, sizeOf, typeInfo, hi, Builtin.lenOf, Builtin.firstCells, loadCells, loadCellsFrom]
  · cases a <;> simp [Builtin.append_, run_underlying ht, sizeOf, typeInfo, hi, Builtin.lenOf, Builtin.firstCells, hnc, storeCells, loadCells, loadCellsFrom]

theorem run_append_rd {w : World} (ty : TypeId) (B : Nat) (v : Value) (l : List α) (hb : RBuf E B w w v l) (vx : Value) (m : List α) (hx : Rows' E w vx m)
    (hlen : (l.length + m.length) * (E.bytes + 1) ≤ 140737488355328) :
    ∃ v' w', (Builtin.append_ #[E.sty, E.sty] ty #[v, vx]).run Try.prog w = .ok v' w' ∧ RBuf E B w' w' v' (l ++ m) ∧ w.grownBy w' v.ownBlock ∧ (v'.ownBlock = v.ownBlock ∨ v'.ownBlock = some w.heap.size) := by
  obtain ⟨i0, hi, hz0, hz1, hz2⟩ := info_parts E.info
  have e0 : (l.length + m.length) * (E.bytes + 1) = (l.length + m.length) * E.bytes + (l.length + m.length) := Nat.mul_succ _ _
  rcases hx with ⟨rfl, a, c, rfl⟩ | ⟨g, off, cap, rfl, hc, hg, hcl⟩
  · exact ⟨v, w, run_append_zero (P := Try.prog) B E.sty ty E.ty i0 E.sz E.und hi v l.length (E.row l) hb.own a c, by simpa using hb, World.grownBy.refl _ _, .inl rfl⟩
  · obtain ⟨v', w', h1, h2, h3, _, h5⟩ := run_append_own_at (P := Try.prog) w B E.sty ty E.ty i0 E.zero E.sz E.bytes E.und hi hz0 hz1 hz2 E.zc E.pos v l.length (E.row l) hb.own ⟨g, off, none⟩ m.length cap (E.row m) (E.row_length m)
      (fun j u hu => by
        have hjl : j < m.length * E.sz := by have := (List.getElem?_eq_some_iff.1 hu).1; rwa [E.row_length] at this
        have hp := E.pos
        have hq : j / E.sz < m.length := Nat.div_lt_of_lt_mul (by rw [Nat.mul_comm]; exact hjl)
        have hr : j % E.sz < E.sz := Nat.mod_lt _ hp
        have hj : j / E.sz * E.sz + j % E.sz = j := Nat.div_add_mod' j E.sz
        have hgq : m[j / E.sz]? = some m[j / E.sz] := List.getElem?_eq_getElem hq
        have h6 := E.row_at m (j / E.sz) _ hgq (j % E.sz) hr
        rw [hj, hu] at h6
        have h7 := hcl (j / E.sz) _ hgq (j % E.sz) u h6.symm
        rw [Nat.add_assoc, hj] at h7
        rw [Addr.add_lit]
        exact h7) (E.row_one' m) (by unfold maxLen; omega) (by omega) hb.le
    refine ⟨v', w', h1, ⟨?_, Below.refl _ _, Nat.le_trans hb.le h3.size⟩, h3, h5⟩
    rw [List.length_append, E.row_append]
    exact h2

theorem wp_append_rd {w : World} {o : Oper} {a : Act} {K : Act → World → Prop} {Q : Exit → Act → World → Prop} (s x : Operand) (E : Enc α)
    (ho : o.op = .call { callee := .builtin .append, args := #[s, x], argTypes := #[E.sty, E.sty] })
    (B : Nat) (v : Value) (l : List α) (hs : a.eval s = v) (hb : RBuf E B w w v l) (vx : Value) (m : List α) (hxv : a.eval x = vx) (hx : Rows' E w vx m)
    (hlen : (l.length + m.length) * (E.bytes + 1) ≤ 140737488355328)
    (h : ∀ v' w', RBuf E B w' w' v' (l ++ m) → w.grownBy w' v.ownBlock → (v'.ownBlock = v.ownBlock ∨ v'.ownBlock = some w.heap.size) → K (a.put o.dst v') w') : o.wp Try.prog a w K Q := by
  obtain ⟨v', w', hr, h2, h3, h4⟩ := run_append_rd o.type B v l hb vx m hx hlen
  unfold Oper.wp execOp
  simp only [ho, resolve, invoke, builtin, Sem.run_bind, Sem.run_pure, Result.andThen_ok, List.map_toArray, List.map_cons, List.map_nil, hs, hxv, hr]
  exact h v' w' h2 h3 h4

theorem wpList_append_rd {w : World} {ops : Array Oper} {rest : List Oper} {o : Oper} {a : Act} {Q : Exit → Act → World → Prop} (hgd : o.guard = none) (s x : Operand) (E : Enc α)
    (ho : o.op = .call { callee := .builtin .append, args := #[s, x], argTypes := #[E.sty, E.sty] })
    (B : Nat) (v : Value) (l : List α) (hs : a.eval s = v) (hb : RBuf E B w w v l) (vx : Value) (m : List α) (hxv : a.eval x = vx) (hx : Rows' E w vx m)
    (hlen : (l.length + m.length) * (E.bytes + 1) ≤ 140737488355328)
    (h : ∀ v' w', RBuf E B w' w' v' (l ++ m) → w.grownBy w' v.ownBlock → (v'.ownBlock = v.ownBlock ∨ v'.ownBlock = some w.heap.size) → wpList Try.prog ops Q rest (a.put o.dst v') w') : wpList Try.prog ops Q (o :: rest) a w :=
  wpList_plain hgd fun _ hK => wp_append_rd s x E ho B v l hs hb vx m hxv hx hlen fun v' w' h2 h3 h4 => hK _ _ (h v' w' h2 h3 h4)

end Go.Proofs.Ytjfilicddnhniab

/- What records tell: the model's BoxOf. -/
namespace Go.Proofs.Ytjfilicddnhniab
open Go.RowKit

/-- A store elsewhere leaves a list of the call's own. -/
theorem RBuf.aside {α : Type} {E : Enc α} {B : Nat} {w : World} {v : Value} {l : List α} (h : RBuf E B w w v l) (g i : Nat) (u : Value) (hg : g < B) : RBuf E B (w.setCell ⟨g, i, none⟩ u) (w.setCell ⟨g, i, none⟩ u) v l := by
  refine h.shift (stored_grown w g i u) ?_
  cases hb : v.ownBlock with
  | none => exact .inl rfl
  | some k => exact .inr (fun e => by have := (h.own.lt k hb).1; have := Option.some.inj e; omega)
/-- Five cells stored. -/
def set5 (w : World) (b : Nat) (v0 v1 v2 v3 v4 : Value) : World := ((((w.setCell ⟨b, 0, none⟩ v0).setCell ⟨b, 1, none⟩ v1).setCell ⟨b, 2, none⟩ v2).setCell ⟨b, 3, none⟩ v3).setCell ⟨b, 4, none⟩ v4


end Go.Proofs.Ytjfilicddnhniab

/- Boxes that come in: how great they are, and copies of them. -/
namespace Go.Proofs.Ytjfilicddnhniab
open Go.RowKit

def lmlE : Enc Ml where
  ty := 147
  sty := 97
  sz := 3
  bytes := 32
  zero := .agg #[.int .i64 0, .int .i64 0, .string ⟨#[]⟩]
  f := fun x => [.int .i64 x.uid, .int .i64 x.flags, .string x.text]
  len := fun _ => rfl
  pos := by decide
  one := fun _ u hu => by simp at hu; rcases hu with rfl | rfl | rfl <;> rfl
  und := Try.underlying97
  info := by kernel_rfl
  zc := rfl
  z0 := ⟨0, 0, ⟨#[]⟩⟩
  zf := rfl
theorem Rows'.lmails {w : World} {a : Option Addr} {n c : Nat} {l : List Ml} (h : Rows' lmlE w (.slice a n c) l) : n = l.length ∧ MlRow w a l := by
  rcases h.ways with ⟨rfl, a, c, e⟩ | ⟨hne, g, off, c, e, hc, hg, hcl⟩
  · cases e
    exact ⟨rfl, fun X _ i x hi => by cases hi⟩
  · cases e
    refine ⟨rfl, fun X hb i x hi => ⟨g, off, rfl, ?_⟩⟩
    have hk : ∀ k u, (lmlE.f x)[k]? = some u → X.cell? ⟨g, off + i * 3 + k, none⟩ = some u := fun k u hu => (hb.cell (p := ⟨g, off + i * 3 + k, none⟩) hg).trans (hcl i _ hi k u hu)
    exact ⟨hk 0 _ rfl, hk 1 _ rfl, hk 2 _ rfl⟩

def lhdE : Enc BxH where
  ty := 99
  sty := 22
  sz := 5
  bytes := 72
  zero := .agg #[.int .i64 0, .string ⟨#[]⟩, .string ⟨#[]⟩, .int .i64 0, .slice none 0 0]
  f := fun x => [.int .i64 x.valid, .string x.user, .string x.name, .int .i64 x.next, .slice x.a x.n x.c]
  len := fun _ => rfl
  pos := by decide
  one := fun _ u hu => by simp at hu; rcases hu with rfl | rfl | rfl | rfl | rfl <;> rfl
  und := Try.underlying22
  info := by kernel_rfl
  zc := rfl
  z0 := ⟨0, ⟨#[]⟩, ⟨#[]⟩, 0, none, 0, 0⟩
  zf := rfl
/-- Boxes that came in can be read. -/
def LBRd (w : World) (v : Value) (bs : List Bx) : Prop := ∃ hs : List BxH, Rows' lhdE w v hs ∧ hs.length = bs.length ∧
  ∀ (j : Nat) (h : BxH) (b : Bx), hs[j]? = some h → bs[j]? = some b → (h.valid = b.valid ∧ h.user = b.user ∧ h.name = b.name ∧ h.next = b.next) ∧ Rows' lmlE w h.mv b.mails
theorem LBRd.later {w w' : World} {v : Value} {bs : List Bx} (h : LBRd w v bs) (hb : Below w.heap.size w w') : LBRd w' v bs := by
  obtain ⟨hs, h1, h2, h3⟩ := h
  exact ⟨hs, h1.later hb, h2, fun j x b e1 e2 => ⟨(h3 j x b e1 e2).1, (h3 j x b e1 e2).2.later hb⟩⟩
theorem LBRd.boxes {w : World} {v : Value} {bs : List Bx} (h : LBRd w v bs) : ∃ (ad : Option Addr) (cap : Nat), v = .slice ad bs.length cap ∧ ∀ X, Below w.heap.size w X → ∀ (i : Nat) (b : Bx), bs[i]? = some b → ∃ (g off : Nat) (a : Option Addr) (n c : Nat), ad = some ⟨g, off, none⟩ ∧
    X.cell? ⟨g, off + i * 5, none⟩ = some (.int .i64 b.valid) ∧ X.cell? ⟨g, off + i * 5 + 1, none⟩ = some (.string b.user) ∧ X.cell? ⟨g, off + i * 5 + 2, none⟩ = some (.string b.name) ∧ X.cell? ⟨g, off + i * 5 + 3, none⟩ = some (.int .i64 b.next) ∧ X.cell? ⟨g, off + i * 5 + 4, none⟩ = some (.slice a n c) ∧ Rows' lmlE w (.slice a n c) b.mails := by
  obtain ⟨hs, h1, h2, h3⟩ := h
  rcases h1.ways with ⟨rfl, a, c, rfl⟩ | ⟨hne, g, off, c, rfl, hc, hg, hcl⟩
  · have : bs = [] := by rw [← List.length_eq_zero_iff, ← h2]; rfl
    subst this
    exact ⟨a, c, rfl, fun X _ i b hi => by cases hi⟩
  · refine ⟨_, c, by rw [h2], fun X hb i b hi => ?_⟩
    have hl : i < hs.length := by rw [h2]; exact (List.getElem?_eq_some_iff.1 hi).1
    have hx : hs[i]? = some hs[i] := List.getElem?_eq_getElem hl
    obtain ⟨⟨e1, e2, e3, e4⟩, hm⟩ := h3 i _ b hx hi
    have hk : ∀ k u, (lhdE.f hs[i])[k]? = some u → X.cell? ⟨g, off + i * 5 + k, none⟩ = some u := fun k u hu => (hb.cell (p := ⟨g, off + i * 5 + k, none⟩) hg).trans (hcl i _ hx k u hu)
    refine ⟨g, off, hs[i].a, hs[i].n, hs[i].c, rfl, ?_, ?_, ?_, ?_, hk 4 _ rfl, hm⟩
    · rw [← e1]; exact hk 0 _ rfl
    · rw [← e2]; exact hk 1 _ rfl
    · rw [← e3]; exact hk 2 _ rfl
    · rw [← e4]; exact hk 3 _ rfl

set_option maxRecDepth 100000 in
theorem szMail_any (m : Ml) (left : Int) (w : World) (hs : mlShort m) (h0 : 0 ≤ left) (h1 : left ≤ 1048576) :
    Calls Try.prog 107 #[.agg #[.int .i64 m.uid, .int .i64 m.flags, .string m.text], .int .i64 left] w fun e w' => (∃ r : Int, e = .returned (.int .i64 r) ∧ (r < 0 ∨ r = left - (m.text.size : Int))) ∧ Below w.heap.size w w' := by
  unfold mlShort at hs
  have b0 := belNew w (.cells #[.int .i64 m.uid, .int .i64 m.flags, .string m.text] 147)
  by_cases hn : left - (m.text.size : Int) < 0
  · go_enter Try.func107, Try.ntmps107
    go_wp2
    go_ret
    exact ⟨⟨-1, rfl, .inl (by omega)⟩, b0⟩
  · go_enter Try.func107, Try.ntmps107
    go_wp2
    go_ret
    exact ⟨⟨left - (m.text.size : Int), by first | rfl | go_num, .inr rfl⟩, b0⟩

set_option maxRecDepth 100000 in
set_option maxHeartbeats 2000000 in
theorem szMailS_any (l : List Ml) (v : Value) (left : Int) (w : World) (h : Rows' lmlE w v l) (h0 : 0 ≤ left) (h1 : left ≤ 1048576) (hl : l.length ≤ 9223372036854775807) (hz : ∀ m ∈ l, mlShort m) :
    Calls Try.prog 94 #[v, .int .i64 left] w fun e w' => (∃ r : Int, e = .returned (.int .i64 r) ∧ (r < 0 ∨ r = left - ((l.length + txs l : Nat) : Int))) ∧ Below w.heap.size w w' := by
  obtain ⟨ad, n, cap, rfl⟩ : ∃ ad n cap, v = .slice ad n cap := by
    rcases h.ways with ⟨_, a, c, e⟩ | ⟨_, g, off, c, e, _⟩
    · exact ⟨_, _, _, e⟩
    · exact ⟨_, _, _, e⟩
  obtain ⟨rfl, hrow⟩ := h.lmails
  have HR := Lib.hid hrow
  have HZ := Lib.hid hz
  clear h hrow hz
  by_cases hneg : left - (l.length : Int) < 0
  · go_enter Try.func94, Try.ntmps94
    go_wp2
    go_ret
    exact ⟨⟨-1, rfl, .inl (by omega)⟩, Below.refl _ _⟩
  · go_enter Try.func94, Try.ntmps94
    go_wp2
    go_loopw [1, 5] (fun rv iv wr => ∃ (i : Nat) (r : Int), i ≤ l.length ∧ iv = .int .i64 (i : Int) ∧ rv = .int .i64 r ∧ 0 ≤ r ∧ r ≤ 1048576 ∧ Hid (r = left - ((l.length + txs (l.take i) : Nat) : Int)) ∧ Below w.heap.size w wr) (fun _ iv _ => l.length - (intOf iv).toNat)
    case atStart => exact ⟨0, left - (l.length : Int), by omega, rfl, by first | rfl | go_num, by omega, by omega, show _ = _ by simp [txs], Below.refl _ _⟩
    case round =>
      obtain ⟨i, r, hi, rfl, rfl, hr0, hr1, HRE, hb⟩ := hrel
      by_cases hlt : i < l.length
      · have hgx : l[i]? = some l[i] := List.getElem?_eq_getElem hlt
        have hzx := HZ.out l[i] (List.getElem_mem hlt)
        obtain ⟨ga, oa, rfl, a0, a1, a2⟩ := HR.out _ hb i _ hgx
        generalize l[i] = x at *
        have HX := Lib.hid hgx
        have HS := Lib.hid (fun wx => szMail_any x r wx hzx hr0 hr1)
        have hi0 : (0 : Int) ≤ (i : Int) := by omega
        have hi1 : (i : Int) < (l.length : Int) := by omega
        clear hgx hzx
        go_wp2_with fail
        clear a0 a1 a2
        refine (HS.out _).mono ?_
        rintro e w1 ⟨⟨r1, rfl, hr⟩, k1⟩
        have HW := Lib.hid hr
        have b1 := hb.trans (k1.mono hb.size)
        clear hr
        by_cases hn : r1 < 0
        · go_wp2
          go_ret
          exact ⟨⟨-1, rfl, .inl (by omega)⟩, b1⟩
        · have HU : Hid (r1 ≤ 1048576 ∧ r1 = left - ((l.length + txs (l.take (i + 1)) : Nat) : Int)) := by
            have h2 := HRE.out
            rcases HW.out with h3 | h3
            · exact absurd h3 hn
            · rw [txs_take HX.out]
              exact ⟨by omega, by omega⟩
          go_wp2
          exact ⟨⟨i + 1, r1, by omega, by simp, rfl, by omega, HU.out.1, HU.out.2, b1⟩, by first | omega | (simp [intOf]; omega)⟩
      · have hge : ¬ (i : Int) < (l.length : Int) := by omega
        have HE : Hid (r = left - ((l.length + txs l : Nat) : Int)) := by
          have h2 := HRE.out
          rw [List.take_of_length_le (by omega)] at h2
          exact h2
        go_wp2
        go_ret
        exact ⟨⟨r, rfl, .inr HE.out⟩, hb⟩

set_option maxRecDepth 100000 in
set_option maxHeartbeats 2000000 in
theorem szBox_any (b : Bx) (a : Option Addr) (n c : Nat) (left : Int) (w : World) (h : Rows' lmlE w (.slice a n c) b.mails) (hz : bxShort b) (h0 : 0 ≤ left) (h1 : left ≤ 1048576) :
    Calls Try.prog 59 #[.agg #[.int .i64 b.valid, .string b.user, .string b.name, .int .i64 b.next, .slice a n c], .int .i64 left] w fun e w' => (∃ r : Int, e = .returned (.int .i64 r) ∧ (r < 0 ∨ r = left - (bz b : Int))) ∧ Below w.heap.size w w' := by
  obtain ⟨z1, z2, z3, z4⟩ := hz
  have b0 := belNew w (.cells #[.int .i64 b.valid, .string b.user, .string b.name, .int .i64 b.next, .slice a n c] 99)
  have HB : Hid (bz b = b.user.size + b.name.size + (b.mails.length + txs b.mails)) := by show _ = _; rfl
  by_cases hn1 : left - (b.user.size : Int) < 0
  · go_enter Try.func59, Try.ntmps59
    go_wp2
    go_ret
    exact ⟨⟨-1, rfl, .inl (by omega)⟩, b0⟩
  by_cases hn2 : left - (b.user.size : Int) - (b.name.size : Int) < 0
  · go_enter Try.func59, Try.ntmps59
    go_wp2
    go_ret
    exact ⟨⟨-1, rfl, .inl (by omega)⟩, b0⟩
  have HS := Lib.hid (szMailS_any b.mails _ (left - (b.user.size : Int) - (b.name.size : Int)) _ (h.later b0) (by omega) (by omega) z3 z4)
  clear h z4
  go_enter Try.func59, Try.ntmps59
  go_wp2_with fail
  refine HS.out.mono ?_
  rintro e w1 ⟨⟨r1, rfl, hr⟩, k1⟩
  have HW := Lib.hid hr
  have b1 := b0.trans (k1.mono b0.size)
  clear hr HS
  by_cases hn : r1 < 0
  · go_wp2
    go_ret
    exact ⟨⟨-1, rfl, .inl (by omega)⟩, b1⟩
  · go_wp2
    go_ret
    refine ⟨⟨r1, rfl, ?_⟩, b1⟩
    rcases HW.out with h3 | h3
    · exact .inl h3
    · have := HB.out; right; omega

set_option maxRecDepth 100000 in
set_option maxHeartbeats 2000000 in
theorem szBoxS_any (l : List Bx) (v : Value) (left : Int) (w : World) (h : LBRd w v l) (h0 : 0 ≤ left) (h1 : left ≤ 1048576) (hl : l.length ≤ 9223372036854775807) (hz : ∀ b ∈ l, bxShort b) :
    Calls Try.prog 36 #[v, .int .i64 left] w fun e w' => (∃ r : Int, e = .returned (.int .i64 r) ∧ (r < 0 ∨ r = left - ((l.length + bzs l : Nat) : Int))) ∧ Below w.heap.size w w' := by
  obtain ⟨ad, cap, rfl, hrow⟩ := h.boxes
  have HR := Lib.hid hrow
  have HZ := Lib.hid hz
  clear h hrow hz
  by_cases hneg : left - (l.length : Int) < 0
  · go_enter Try.func36, Try.ntmps36
    go_wp2
    go_ret
    exact ⟨⟨-1, rfl, .inl (by omega)⟩, Below.refl _ _⟩
  · go_enter Try.func36, Try.ntmps36
    go_wp2
    go_loopw [1, 5] (fun rv iv wr => ∃ (i : Nat) (r : Int), i ≤ l.length ∧ iv = .int .i64 (i : Int) ∧ rv = .int .i64 r ∧ 0 ≤ r ∧ r ≤ 1048576 ∧ Hid (r = left - ((l.length + bzs (l.take i) : Nat) : Int)) ∧ Below w.heap.size w wr) (fun _ iv _ => l.length - (intOf iv).toNat)
    case atStart => exact ⟨0, left - (l.length : Int), by omega, rfl, by first | rfl | go_num, by omega, by omega, show _ = _ by simp [bzs], Below.refl _ _⟩
    case round =>
      obtain ⟨i, r, hi, rfl, rfl, hr0, hr1, HRE, hb⟩ := hrel
      by_cases hlt : i < l.length
      · have hgx : l[i]? = some l[i] := List.getElem?_eq_getElem hlt
        have hzx := HZ.out l[i] (List.getElem_mem hlt)
        obtain ⟨ga, oa, am, nm, cm, rfl, a0, a1, a2, a3, a4, rm⟩ := HR.out _ hb i _ hgx
        generalize l[i] = x at *
        have HX := Lib.hid hgx
        have HS := Lib.hid (szBox_any x am nm cm r wr (rm.later hb) hzx hr0 hr1)
        have hi0 : (0 : Int) ≤ (i : Int) := by omega
        have hi1 : (i : Int) < (l.length : Int) := by omega
        clear hgx hzx rm
        go_wp2_with fail
        clear a0 a1 a2 a3 a4
        refine HS.out.mono ?_
        rintro e w1 ⟨⟨r1, rfl, hr⟩, k1⟩
        have HW := Lib.hid hr
        have b1 := hb.trans (k1.mono hb.size)
        clear hr
        by_cases hn : r1 < 0
        · go_wp2
          go_ret
          exact ⟨⟨-1, rfl, .inl (by omega)⟩, b1⟩
        · have HU : Hid (r1 ≤ 1048576 ∧ r1 = left - ((l.length + bzs (l.take (i + 1)) : Nat) : Int)) := by
            have h2 := HRE.out
            rcases HW.out with h3 | h3
            · exact absurd h3 hn
            · rw [bzs_take HX.out]
              exact ⟨by omega, by omega⟩
          go_wp2
          exact ⟨⟨i + 1, r1, by omega, by simp, rfl, by omega, HU.out.1, HU.out.2, b1⟩, by first | omega | (simp [intOf]; omega)⟩
      · have hge : ¬ (i : Int) < (l.length : Int) := by omega
        have HE : Hid (r = left - ((l.length + bzs l : Nat) : Int)) := by
          have h2 := HRE.out
          rw [List.take_of_length_le (by omega)] at h2
          exact h2
        go_wp2
        go_ret
        exact ⟨⟨r, rfl, .inr HE.out⟩, hb⟩

set_option maxRecDepth 100000 in
set_option maxHeartbeats 2000000 in
theorem szState_any (l : List Bx) (v : Value) (left : Int) (w : World) (h : LBRd w v l) (h0 : 0 ≤ left) (h1 : left ≤ 1048576) (hl : l.length ≤ 9223372036854775807) (hz : ∀ b ∈ l, bxShort b) :
    Calls Try.prog 9 #[.agg #[v], .int .i64 left] w fun e w' => (∃ r : Int, e = .returned (.int .i64 r) ∧ (r < 0 ∨ r = left - ((l.length + bzs l : Nat) : Int))) ∧ Below w.heap.size w w' := by
  obtain ⟨ad, cap, rfl, _⟩ := h.boxes
  have b0 := belNew w (.cells #[.slice ad l.length cap] 24)
  have HS := Lib.hid (szBoxS_any l _ left _ (h.later b0) h0 h1 hl hz)
  clear h hz
  go_enter Try.func9, Try.ntmps9
  go_wp2_with fail
  refine HS.out.mono ?_
  rintro e w1 ⟨⟨r1, rfl, hr⟩, k1⟩
  have HW := Lib.hid hr
  have b1 := b0.trans (k1.mono b0.size)
  clear hr HS
  by_cases hn : r1 < 0
  · go_wp2
    go_ret
    exact ⟨⟨-1, rfl, .inl (by omega)⟩, b1⟩
  · go_wp2
    go_ret
    exact ⟨⟨r1, rfl, HW.out⟩, b1⟩

end Go.Proofs.Ytjfilicddnhniab

/- Copies of boxes that come in. -/
namespace Go.Proofs.Ytjfilicddnhniab
open Go.RowKit

/-- A whole mail is stored. -/
theorem RBuf.put3 {B : Nat} {w0 w : World} {g cap : Nat} {l : List Ml} (h : RBuf mlE B w0 w (.slice (some ⟨g, 0, none⟩) l.length cap) l) (i : Nat) (x : Ml) (hi : l[i]? = some x) (y : Ml) :
    RBuf mlE B w0 (((w.setCell ⟨g, i * 3, none⟩ (.int .i64 y.uid)).setCell ⟨g, i * 3 + 1, none⟩ (.int .i64 y.flags)).setCell ⟨g, i * 3 + 2, none⟩ (.string y.text)) (.slice (some ⟨g, 0, none⟩) l.length cap) (l.set i y) := by
  have hlt : i < l.length := (List.getElem?_eq_some_iff.1 hi).1
  have hl1 : ∀ z : Ml, (l.set i z).length = l.length := fun z => by simp
  have ha1 : ∀ z : Ml, (l.set i z)[i]? = some z := fun z => List.getElem?_set_self hlt
  have s0 : RBuf mlE B w0 (w.setCell ⟨g, i * 3, none⟩ (.int .i64 y.uid)) (.slice (some ⟨g, 0, none⟩) l.length cap) (l.set i ⟨y.uid, x.flags, x.text⟩) := h.stored i _ ⟨y.uid, x.flags, x.text⟩ hi 0 (by decide) (.int .i64 y.uid) rfl
  rw [← hl1 ⟨y.uid, x.flags, x.text⟩] at s0
  have s1 := s0.stored i _ ⟨y.uid, y.flags, x.text⟩ (ha1 _) 1 (by decide) (.int .i64 y.flags) rfl
  rw [List.set_set, hl1] at s1
  rw [← hl1 ⟨y.uid, y.flags, x.text⟩] at s1
  have s2 := s1.stored i _ ⟨y.uid, y.flags, y.text⟩ (ha1 _) 2 (by decide) (.string y.text) rfl
  rw [List.set_set, hl1] at s2
  exact s2

set_option maxRecDepth 100000 in
theorem toMail_any (m : Ml) (w : World) : Calls Try.prog 108 #[.agg #[.int .i64 m.uid, .int .i64 m.flags, .string m.text]] w fun e w' => e = .returned (.agg #[.int .i64 m.uid, .int .i64 m.flags, .string m.text]) ∧ Below w.heap.size w w' := by
  go_enter Try.func108, Try.ntmps108
  go_wp2
  refine bodyPost_ret (v := .agg #[.int .i64 m.uid, .int .i64 m.flags, .string m.text]) (by simp [results, Try.results108, go_sem]) rfl ?_
  exact ⟨rfl, (((Below.refl _ _).alloc (Nat.le_refl _) _).alloc (by simp) _).alloc (by simp; omega) _⟩

set_option maxRecDepth 100000 in
set_option maxHeartbeats 2000000 in
theorem toMailS_any (l : List Ml) (v : Value) (w : World) (h : Rows' lmlE w v l) (hl : l.length ≤ 1048576) :
    Calls Try.prog 95 #[v] w fun e w' => ∃ v', e = .returned v' ∧ RBuf mlE w.heap.size w w' v' l := by
  obtain ⟨a, n, cap, rfl⟩ : ∃ ad n cap, v = .slice ad n cap := by
    rcases h.ways with ⟨_, a, c, e⟩ | ⟨_, g, off, c, e, _⟩
    · exact ⟨_, _, _, e⟩
    · exact ⟨_, _, _, e⟩
  obtain ⟨rfl, hrow⟩ := h.lmails
  have HR := Lib.hid hrow
  clear h hrow
  go_enter Try.func95, Try.ntmps95
  go_wp2_with (at_make; refine wpList_make_rows rfl _ _ mlE rfl .i64 .i64 _ _ l.length rfl rfl rfl rfl (by show 33 * l.length ≤ _; omega) ?_; intro w1 hr1 hs1)
  go_loopw [4] (fun iv wr => ∃ i : Nat, i ≤ l.length ∧ iv = .int .i64 (i : Int) ∧ RBuf mlE w.heap.size w wr (.slice (some ⟨w.heap.size, 0, none⟩) l.length l.length) (copyTo mlE.z0 l i)) (fun iv _ => l.length - (intOf iv).toNat)
  case atStart => exact ⟨0, by omega, rfl, by rw [copyTo_zero]; exact hr1⟩
  case round =>
    obtain ⟨i, hi, rfl, hbr⟩ := hrel
    by_cases hlt : i < l.length
    · have hgx : l[i]? = some l[i] := List.getElem?_eq_getElem hlt
      obtain ⟨ga, oa, rfl, a0, a1, a2⟩ := HR.out _ hbr.bel i _ hgx
      have hi0 : (0 : Int) ≤ (i : Int) := by omega
      have hi1 : (i : Int) < (l.length : Int) := by omega
      have hml := copyTo_length (z := mlE.z0) hi
      have hms := copyTo_set (z := mlE.z0) hlt
      have hat := copyTo_at (z := mlE.z0) hlt
      rw [← hml] at hbr
      have HF : Hid (∀ w1, Below wr.heap.size wr w1 → (w1.cell? ⟨w.heap.size, i * 3, none⟩ = some (.int .i64 0) ∧ w1.frozen? ⟨w.heap.size, i * 3, none⟩ = false ∧ w1.cell? ⟨w.heap.size, i * 3 + 1, none⟩ = some (.int .i64 0) ∧ w1.frozen? ⟨w.heap.size, i * 3 + 1, none⟩ = false ∧ w1.cell? ⟨w.heap.size, i * 3 + 2, none⟩ = some (.string ⟨#[]⟩) ∧ w1.frozen? ⟨w.heap.size, i * 3 + 2, none⟩ = false)) := by
        intro w1 hb1
        have h1 := hbr.later hb1
        exact ⟨h1.cell rfl i _ hat 0 _ rfl, h1.loose _, h1.cell rfl i _ hat 1 _ rfl, h1.loose _, h1.cell rfl i _ hat 2 _ rfl, h1.loose _⟩
      generalize hx : l[i] = x at *
      have HT := Lib.hid (fun wx => toMail_any x wx)
      clear hgx
      go_wp2_with (go_at_call 108; refine (HT.out _).mono ?_; rintro e w1 ⟨rfl, hb1⟩; obtain ⟨d0, f0, d1, f1, d2, f2⟩ := HF.out w1 hb1)
      have hp := (hbr.later hb1).put3 i _ hat x
      rw [hms, hml] at hp
      go_roundw
      case rel => exact ⟨i + 1, by omega, by go_num, hp⟩
      case measure => simp [intOf]; omega
    · go_wp2
      go_ret
      rw [copyTo_all (by omega)] at hbr
      exact ⟨_, rfl, hbr⟩

set_option maxRecDepth 100000 in
set_option maxHeartbeats 2000000 in
theorem toBox_any (b : Bx) (a : Option Addr) (n c : Nat) (w : World) (h : Rows' lmlE w (.slice a n c) b.mails) (hl : b.mails.length ≤ 1048576) :
    Calls Try.prog 60 #[.agg #[.int .i64 b.valid, .string b.user, .string b.name, .int .i64 b.next, .slice a n c]] w fun e w' => ∃ (p : Option Addr) (k q : Nat), e = .returned (.agg #[.int .i64 b.valid, .string b.user, .string b.name, .int .i64 b.next, .slice p k q]) ∧ RBuf mlE w.heap.size w' w' (.slice p k q) b.mails ∧ Below w.heap.size w w' := by
  have bA := belNew w (.cells #[.int .i64 b.valid, .string b.user, .string b.name, .int .i64 b.next, .slice a n c] 99)
  obtain ⟨wA, hwA⟩ : ∃ wA, wA = w.alloc (.cells #[.int .i64 b.valid, .string b.user, .string b.name, .int .i64 b.next, .slice a n c] 99) := ⟨_, rfl⟩
  have eA : wA.heap.size = w.heap.size + 1 := by rw [hwA]; simp
  rw [← hwA] at bA
  have hB := Box.new wA #[.int .i64 0, .string ⟨#[]⟩, .string ⟨#[]⟩, .int .i64 0, .slice none 0 0] 57
  have bB := bA.trans ((belNew wA (.cells #[.int .i64 0, .string ⟨#[]⟩, .string ⟨#[]⟩, .int .i64 0, .slice none 0 0] 57)).mono bA.size)
  obtain ⟨wB, hwB⟩ : ∃ wB, wB = wA.alloc (.cells #[.int .i64 0, .string ⟨#[]⟩, .string ⟨#[]⟩, .int .i64 0, .slice none 0 0] 57) := ⟨_, rfl⟩
  have eB : wB.heap.size = w.heap.size + 1 + 1 := by rw [hwB]; simp; omega
  rw [← hwB] at hB bB
  rw [eA] at hB
  have hC := Box.new wB #[.int .i64 b.valid, .string b.user, .string b.name, .int .i64 b.next, .slice none 0 0] 57
  have kC := belNew wB (.cells #[.int .i64 b.valid, .string b.user, .string b.name, .int .i64 b.next, .slice none 0 0] 57)
  have bC := bB.trans (kC.mono bB.size)
  obtain ⟨wC, hwC⟩ : ∃ wC, wC = wB.alloc (.cells #[.int .i64 b.valid, .string b.user, .string b.name, .int .i64 b.next, .slice none 0 0] 57) := ⟨_, rfl⟩
  have eC : wC.heap.size = w.heap.size + 1 + 1 + 1 := by rw [hwC]; simp; omega
  rw [← hwC] at hC kC bC
  rw [eB] at hC
  have hB' := hB.later kC
  have HT := Lib.hid (toMailS_any b.mails _ wC (h.later bC) hl)
  have HEC := Lib.hid eC
  have HWC : Hid (wC = ((w.alloc (.cells #[.int .i64 b.valid, .string b.user, .string b.name, .int .i64 b.next, .slice a n c] 99)).alloc (.cells #[.int .i64 0, .string ⟨#[]⟩, .string ⟨#[]⟩, .int .i64 0, .slice none 0 0] 57)).alloc (.cells #[.int .i64 b.valid, .string b.user, .string b.name, .int .i64 b.next, .slice none 0 0] 57)) := by rw [← hwA, ← hwB, ← hwC]; exact rfl
  clear h hB bB bA kC eA eB eC hwA hwB hwC
  go_enter Try.func60, Try.ntmps60
  go_wp2_with fail
  rw [← HWC.out]
  refine HT.out.mono ?_
  rintro e w1 ⟨v1, rfl, R1⟩
  obtain ⟨p, q, rfl⟩ := R1.form
  have B1 := hB'.later R1.bel
  have C1 := hC.later R1.bel
  have b1 := bC.trans (R1.bel.mono bC.size)
  obtain ⟨u0, u1, u2, u3, u4⟩ := B1.five
  obtain ⟨x0, x1, x2, x3, x4⟩ := C1.five
  have f0 := B1.loose 0
  have f1 := B1.loose 1
  have f2 := B1.loose 2
  have f3 := B1.loose 3
  have f4 := B1.loose 4
  have y4 := C1.loose 4
  have C2 : Box (w1.setCell ⟨w.heap.size + 1 + 1, 4, none⟩ (.slice p b.mails.length q)) (w.heap.size + 1 + 1) #[.int .i64 b.valid, .string b.user, .string b.name, .int .i64 b.next, .slice p b.mails.length q] 57 := C1.set 4 _
  have B2 : Box (w1.setCell ⟨w.heap.size + 1 + 1, 4, none⟩ (.slice p b.mails.length q)) (w.heap.size + 1) #[.int .i64 0, .string ⟨#[]⟩, .string ⟨#[]⟩, .int .i64 0, .slice none 0 0] 57 := B1.other (by omega) 4 _
  have hg1 : w.heap.size + 1 + 1 < wC.heap.size := by have := HEC.out; omega
  have R2 := Lib.hid (R1.here.aside (w.heap.size + 1 + 1) 4 (.slice p b.mails.length q) hg1)
  have b2 := Lib.hid (b1.setCell (p := ⟨w.heap.size + 1 + 1, 4, none⟩) (show w.heap.size ≤ w.heap.size + 1 + 1 by omega) (.slice p b.mails.length q))
  have HG := Lib.hid hg1
  clear hB' hC bC HT HWC HEC B1 C1 b1 R1 hg1
  go_upto_region 7 with fail
  generalize w1.setCell ⟨w.heap.size + 1 + 1, 4, none⟩ (.slice p b.mails.length q) = w2 at C2 B2 R2 b2 ⊢
  clear u0 u1 u2 u3 u4 x0 x1 x2 x3 x4 f0 f1 f2 f3 f4 y4
  obtain ⟨u0, u1, u2, u3, u4⟩ := B2.five
  obtain ⟨x0, x1, x2, x3, x4⟩ := C2.five
  have f0 := B2.loose 0
  have f1 := B2.loose 1
  have f2 := B2.loose 2
  have f3 := B2.loose 3
  have f4 := B2.loose 4
  have L5 : Box (set5 w2 (w.heap.size + 1) (.int .i64 b.valid) (.string b.user) (.string b.name) (.int .i64 b.next) (.slice p b.mails.length q)) (w.heap.size + 1) #[.int .i64 b.valid, .string b.user, .string b.name, .int .i64 b.next, .slice p b.mails.length q] 57 := ((((B2.set 0 _).set 1 _).set 2 _).set 3 _).set 4 _
  unfold set5 at L5
  obtain ⟨z0, z1, z2, z3, z4⟩ := L5.five
  clear L5 B2 C2
  go_wp2
  refine bodyPost_ret (v := .agg #[.int .i64 b.valid, .string b.user, .string b.name, .int .i64 b.next, .slice p b.mails.length q]) (by simp [results, Try.results60, go_sem, z0, z1, z2, z3, z4]) rfl ⟨_, _, _, rfl, ?_, ?_⟩
  · have hl : w.heap.size + 1 < wC.heap.size := by have := HG.out; omega
    exact (((((R2.out.aside _ 0 _ hl).aside _ 1 _ hl).aside _ 2 _ hl).aside _ 3 _ hl).aside _ 4 _ hl).lower (by omega)
  · exact ((((b2.out.setCell (p := ⟨w.heap.size + 1, 0, none⟩) (by simp) _).setCell (p := ⟨w.heap.size + 1, 1, none⟩) (by simp) _).setCell (p := ⟨w.heap.size + 1, 2, none⟩) (by simp) _).setCell (p := ⟨w.heap.size + 1, 3, none⟩) (by simp) _).setCell (p := ⟨w.heap.size + 1, 4, none⟩) (by simp) _

end Go.Proofs.Ytjfilicddnhniab

/- Boxes in memory of their own: what leaves them as they are. -/
namespace Go.Proofs.Ytjfilicddnhniab
open Go.RowKit

/-- What leaves the boxes' and the mails' blocks alone leaves them as they are. -/
theorem StO.shift {B : Nat} {w w' : World} {v : Value} {bs : List Bx} {hs : List BxH} {r : Option Nat} (h : StO B w v bs hs) (hg : w.grownBy w' r) (h1 : ∀ k, r = some k → v.ownBlock ≠ some k ∧ ∀ (j : Nat) (x : BxH), hs[j]? = some x → x.mv.ownBlock ≠ some k) : StO B w' v bs hs := by
  have sh : ∀ {α : Type} {E : Enc α} {m : Value} {l : List α}, RBuf E B w w m l → (∀ k, r = some k → m.ownBlock ≠ some k) → RBuf E B w' w' m l := fun {α E m l} hm hf => by
    refine hm.shift hg ?_
    cases hb : m.ownBlock with
    | none => exact .inl rfl
    | some k => exact .inr (fun e => hf k e.symm hb)
  exact ⟨sh h.row (fun k hk => (h1 k hk).1), h.len, fun j x b e1 e2 => ⟨(h.at' j x b e1 e2).1, sh (h.at' j x b e1 e2).2 (fun k hk => (h1 k hk).2 j x e1)⟩, h.far, h.apart⟩
/-- Where they lie: from B on, and below the heap's end. -/
theorem StO.where' {B : Nat} {w : World} {v : Value} {bs : List Bx} {hs : List BxH} (h : StO B w v bs hs) : (∀ k, v.ownBlock = some k → B ≤ k ∧ k < w.heap.size) ∧ ∀ (j : Nat) (x : BxH), hs[j]? = some x → ∀ k, x.mv.ownBlock = some k → B ≤ k ∧ k < w.heap.size := by
  refine ⟨fun k hk => h.row.own.lt k hk, fun j x hj k hk => ?_⟩
  have hl : j < hs.length := (List.getElem?_eq_some_iff.1 hj).1
  have hb : bs[j]? = some (bs[j]'(by rw [← h.len]; exact hl)) := List.getElem?_eq_getElem _
  exact (h.at' j x _ hj hb).2.own.lt k hk
/-- What is written from B' on, above them, leaves them. -/
theorem StO.under {B C : Nat} {w w' : World} {v : Value} {bs : List Bx} {hs : List BxH} (h : StO B w v bs hs) (hb : Below C w w') (h1 : ∀ k, v.ownBlock = some k → k < C) (h2 : ∀ (j : Nat) (x : BxH), hs[j]? = some x → ∀ k, x.mv.ownBlock = some k → k < C) : StO B w' v bs hs := by
  have sh : ∀ {α : Type} {E : Enc α} {m : Value} {l : List α}, RBuf E B w w m l → (∀ k, m.ownBlock = some k → k < C) → RBuf E B w' w' m l := fun {α E m l} hm hf => by
    refine ⟨⟨hm.own.1, ?_⟩, Below.refl _ _, Nat.le_trans hm.le hb.size⟩
    rcases hm.own.2 with e | ⟨g, cap, cur, rfl, hg, hh, hrest⟩
    · exact .inl e
    · exact .inr ⟨g, cap, cur, rfl, hg, (hb.block g (hf g rfl)).trans hh, hrest⟩
  exact ⟨sh h.row h1, h.len, fun j x b e1 e2 => ⟨(h.at' j x b e1 e2).1, sh (h.at' j x b e1 e2).2 (h2 j x e1)⟩, h.far, h.apart⟩
theorem StO.lower {B B0 : Nat} {w : World} {v : Value} {bs : List Bx} {hs : List BxH} (h : StO B w v bs hs) (hB : B0 ≤ B) : StO B0 w v bs hs :=
  ⟨h.row.lower hB, h.len, fun j x b h1 h2 => ⟨(h.at' j x b h1 h2).1, (h.at' j x b h1 h2).2.lower hB⟩, h.far, h.apart⟩

end Go.Proofs.Ytjfilicddnhniab

/- Copies of states that come in; states that come in opened. -/
namespace Go.Proofs.Ytjfilicddnhniab
open Go.RowKit

def Bx.z : Bx := ⟨0, ⟨#[]⟩, ⟨#[]⟩, 0, []⟩

/-- Five cells of a row stored. -/
def put5 (w : World) (g i : Nat) (y : BxH) : World := ((((w.setCell ⟨g, i * 5, none⟩ (.int .i64 y.valid)).setCell ⟨g, i * 5 + 1, none⟩ (.string y.user)).setCell ⟨g, i * 5 + 2, none⟩ (.string y.name)).setCell ⟨g, i * 5 + 3, none⟩ (.int .i64 y.next)).setCell ⟨g, i * 5 + 4, none⟩ (.slice y.a y.n y.c)
theorem put5_grown (w : World) (g i : Nat) (y : BxH) : w.grownBy (put5 w g i y) (some g) :=
  ((((stored_grown w g (i * 5) _).trans (stored_grown _ g (i * 5 + 1) _)).trans (stored_grown _ g (i * 5 + 2) _)).trans (stored_grown _ g (i * 5 + 3) _)).trans (stored_grown _ g (i * 5 + 4) _)
theorem RBuf.put5 {B : Nat} {w0 w : World} {g cap : Nat} {l : List BxH} (h : RBuf hdE B w0 w (.slice (some ⟨g, 0, none⟩) l.length cap) l) (i : Nat) (x : BxH) (hi : l[i]? = some x) (y : BxH) :
    RBuf hdE B w0 (Go.Proofs.Ytjfilicddnhniab.put5 w g i y) (.slice (some ⟨g, 0, none⟩) l.length cap) (l.set i y) := by
  have hlt : i < l.length := (List.getElem?_eq_some_iff.1 hi).1
  have hl1 : ∀ z : BxH, (l.set i z).length = l.length := fun z => by simp
  have ha1 : ∀ z : BxH, (l.set i z)[i]? = some z := fun z => List.getElem?_set_self hlt
  have s0 : RBuf hdE B w0 (w.setCell ⟨g, i * 5, none⟩ (.int .i64 y.valid)) (.slice (some ⟨g, 0, none⟩) l.length cap) (l.set i ⟨y.valid, x.user, x.name, x.next, x.a, x.n, x.c⟩) := h.stored i _ ⟨y.valid, x.user, x.name, x.next, x.a, x.n, x.c⟩ hi 0 (by decide) (.int .i64 y.valid) rfl
  rw [← hl1 ⟨y.valid, x.user, x.name, x.next, x.a, x.n, x.c⟩] at s0
  have s1 := s0.stored i _ ⟨y.valid, y.user, x.name, x.next, x.a, x.n, x.c⟩ (ha1 _) 1 (by decide) (.string y.user) rfl
  rw [List.set_set, hl1] at s1
  rw [← hl1 ⟨y.valid, y.user, x.name, x.next, x.a, x.n, x.c⟩] at s1
  have s2 := s1.stored i _ ⟨y.valid, y.user, y.name, x.next, x.a, x.n, x.c⟩ (ha1 _) 2 (by decide) (.string y.name) rfl
  rw [List.set_set, hl1] at s2
  rw [← hl1 ⟨y.valid, y.user, y.name, x.next, x.a, x.n, x.c⟩] at s2
  have s3 := s2.stored i _ ⟨y.valid, y.user, y.name, y.next, x.a, x.n, x.c⟩ (ha1 _) 3 (by decide) (.int .i64 y.next) rfl
  rw [List.set_set, hl1] at s3
  rw [← hl1 ⟨y.valid, y.user, y.name, y.next, x.a, x.n, x.c⟩] at s3
  have s4 := s3.stored i _ ⟨y.valid, y.user, y.name, y.next, y.a, y.n, y.c⟩ (ha1 _) 4 (by decide) (.slice y.a y.n y.c) rfl
  rw [List.set_set, hl1] at s4
  exact s4

/-- A whole box is put at its place. -/
theorem StO.put {B : Nat} {w : World} {g cap n : Nat} {bs : List Bx} {hs : List BxH} (h : StO B w (.slice (some ⟨g, 0, none⟩) n cap) bs hs) (hn : n = hs.length) {i : Nat} {x0 : BxH} (hi : hs[i]? = some x0) (x : BxH) (b : Bx)
    (hx : x.valid = b.valid ∧ x.user = b.user ∧ x.name = b.name ∧ x.next = b.next) (hm : RBuf mlE B w w x.mv b.mails) (hf : ∀ k, x.mv.ownBlock = some k → k ≠ g)
    (ha : ∀ (j : Nat) (y : BxH), hs[j]? = some y → ∀ k, x.mv.ownBlock = some k → y.mv.ownBlock ≠ some k) :
    StO B (Go.Proofs.Ytjfilicddnhniab.put5 w g i x) (.slice (some ⟨g, 0, none⟩) n cap) (bs.set i b) (hs.set i x) := by
  subst hn
  have hg := put5_grown w g i x
  have kept : ∀ (m : Value) (l : List Ml), RBuf mlE B w w m l → (∀ k, m.ownBlock = some k → k ≠ g) → RBuf mlE B (Go.Proofs.Ytjfilicddnhniab.put5 w g i x) (Go.Proofs.Ytjfilicddnhniab.put5 w g i x) m l := fun m l hm hf => by
    refine hm.shift hg ?_
    cases hmb : m.ownBlock with
    | none => exact .inl rfl
    | some k => exact .inr (fun e => hf k hmb (Option.some.inj e))
  have far0 : ∀ {j : Nat} {y : BxH}, hs[j]? = some y → ∀ k, y.mv.ownBlock = some k → k ≠ g := fun {j y} hj k hk e => h.far j y hj k hk (by rw [e]; rfl)
  refine ⟨(h.row.put5 i x0 hi x).here, by simp [h.len], fun j y d h1 h2 => ?_, fun j y h1 k hk => ?_, fun j k y z h1 h2 hjk q hq => ?_⟩
  · rcases set_ways h1 with ⟨rfl, rfl⟩ | ⟨hne, h1⟩
    · rcases set_ways h2 with ⟨_, rfl⟩ | ⟨hne, _⟩
      · exact ⟨hx, kept _ _ hm hf⟩
      · exact absurd rfl hne
    · rcases set_ways h2 with ⟨e, _⟩ | ⟨_, h2⟩
      · exact absurd e hne
      · exact ⟨(h.at' j y d h1 h2).1, kept _ _ (h.at' j y d h1 h2).2 (far0 h1)⟩
  · rcases set_ways h1 with ⟨rfl, rfl⟩ | ⟨hne, h1⟩
    · intro e; exact hf k hk (Option.some.inj e).symm
    · exact h.far j y h1 k hk
  · rcases set_ways h1 with ⟨ej, ey⟩ | ⟨_, g1⟩
    · rcases set_ways h2 with ⟨ek, _⟩ | ⟨_, g2⟩
      · exact absurd (ej.trans ek.symm) hjk
      · rw [ey] at hq
        exact ha k z g2 q hq
    · rcases set_ways h2 with ⟨_, ez⟩ | ⟨_, g2⟩
      · rw [ez]; intro e; exact ha j y g1 q e hq
      · exact h.apart j k y z g1 g2 hjk q hq

set_option maxRecDepth 100000 in
set_option maxHeartbeats 4000000 in
theorem toBoxS_any (l : List Bx) (v : Value) (w : World) (h : LBRd w v l) (hl : l.length ≤ 1048576) (hm : ∀ b ∈ l, b.mails.length ≤ 1048576) :
    Calls Try.prog 37 #[v] w fun e w' => ∃ v' hs, e = .returned v' ∧ StO w.heap.size w' v' l hs ∧ Below w.heap.size w w' := by
  obtain ⟨a, cap, rfl, hrow⟩ := h.boxes
  have HR := Lib.hid hrow
  have HM := Lib.hid hm
  clear h hrow hm
  go_enter Try.func37, Try.ntmps37
  go_wp2_with (at_make; refine wpList_make_rows rfl _ _ hdE rfl .i64 .i64 _ _ l.length rfl rfl rfl rfl (by show 73 * l.length ≤ _; omega) ?_; intro w1 hr1 hs1)
  have S0 : StO w.heap.size w1 (.slice (some ⟨w.heap.size, 0, none⟩) l.length l.length) (copyTo Bx.z l 0) (List.replicate l.length hdE.z0) := by
    rw [copyTo_zero]
    refine ⟨hr1.here, by simp, fun j x b h1 h2 => ?_, fun j x h1 k hk => ?_, fun i j x y h1 h2 _ k hk => ?_⟩
    · rw [List.getElem?_replicate] at h1 h2
      split at h1
      · rename_i c
        rw [if_pos c] at h2
        cases h1
        cases h2
        exact ⟨⟨rfl, rfl, rfl, rfl⟩, ⟨World.ownsRow_nil _ _ _ _, Below.refl _ _, hr1.le⟩⟩
      · cases h1
    · rw [List.getElem?_replicate] at h1
      split at h1
      · cases h1; cases hk
      · cases h1
    · rw [List.getElem?_replicate] at h1
      split at h1
      · cases h1; cases hk
      · cases h1
  have B0 : Below w.heap.size w w1 := hr1.bel
  go_loopw [4] (fun iv wr => ∃ (i : Nat) (hs : List BxH), i ≤ l.length ∧ iv = .int .i64 (i : Int) ∧ StO w.heap.size wr (.slice (some ⟨w.heap.size, 0, none⟩) l.length l.length) (copyTo Bx.z l i) hs ∧ Below w.heap.size w wr) (fun iv _ => l.length - (intOf iv).toNat)
  case atStart => exact ⟨0, _, by omega, rfl, S0, B0⟩
  case round =>
    clear S0 B0 hr1 hs1
    obtain ⟨i, hs, hi, rfl, S, hb⟩ := hrel
    by_cases hlt : i < l.length
    · have hgx : l[i]? = some l[i] := List.getElem?_eq_getElem hlt
      obtain ⟨ga, oa, am, nm, cm, rfl, a0, a1, a2, a3, a4, rm⟩ := HR.out _ hb i _ hgx
      have hi0 : (0 : Int) ≤ (i : Int) := by omega
      have hi1 : (i : Int) < (l.length : Int) := by omega
      have hml := copyTo_length (z := Bx.z) hi
      have hms := copyTo_set (z := Bx.z) hlt
      have hat := copyTo_at (z := Bx.z) hlt
      have hhl : l.length = hs.length := by rw [S.len, hml]
      obtain ⟨x0, hx0⟩ : ∃ x0, hs[i]? = some x0 := ⟨_, List.getElem?_eq_getElem (by omega)⟩
      have HF : Hid (∀ w1, Below wr.heap.size wr w1 → ∃ (v0 v3 : Int) (v1 v2 : ByteArray) (pa : Option Addr) (pn pc : Nat), w1.cell? ⟨w.heap.size, i * 5, none⟩ = some (.int .i64 v0) ∧ w1.frozen? ⟨w.heap.size, i * 5, none⟩ = false ∧ w1.cell? ⟨w.heap.size, i * 5 + 1, none⟩ = some (.string v1) ∧ w1.frozen? ⟨w.heap.size, i * 5 + 1, none⟩ = false ∧ w1.cell? ⟨w.heap.size, i * 5 + 2, none⟩ = some (.string v2) ∧ w1.frozen? ⟨w.heap.size, i * 5 + 2, none⟩ = false ∧ w1.cell? ⟨w.heap.size, i * 5 + 3, none⟩ = some (.int .i64 v3) ∧ w1.frozen? ⟨w.heap.size, i * 5 + 3, none⟩ = false ∧ w1.cell? ⟨w.heap.size, i * 5 + 4, none⟩ = some (.slice pa pn pc) ∧ w1.frozen? ⟨w.heap.size, i * 5 + 4, none⟩ = false) := by
        intro w1 hb1
        have h1 := S.later hb1
        have c0 := h1.cellAt hx0 hhl 0 _ rfl
        have c1 := h1.cellAt hx0 hhl 1 _ rfl
        have c2 := h1.cellAt hx0 hhl 2 _ rfl
        have c3 := h1.cellAt hx0 hhl 3 _ rfl
        have c4 := h1.cellAt hx0 hhl 4 _ rfl
        exact ⟨_, _, _, _, _, _, _, c0.1, c0.2, c1.1, c1.2, c2.1, c2.2, c3.1, c3.2, c4.1, c4.2⟩
      have hmx := HM.out l[i] (List.getElem_mem hlt)
      generalize hx : l[i] = x at *
      have HT := Lib.hid (toBox_any x am nm cm wr (rm.later hb) hmx)
      have HX0 := Lib.hid hx0
      have HHL := Lib.hid hhl
      clear hgx rm hx0 hhl hx hmx
      go_wp2_with (go_at_call 60; refine HT.out.mono ?_; rintro e w1 ⟨pp, pk, pq, rfl, RM, hb1⟩; obtain ⟨v0, v3, v1, v2, pa, pn, pc, d0, f0, d1, f1, d2, f2, d3, f3, d4, f4⟩ := HF.out w1 hb1)
      have hp := (S.later hb1).put HHL.out HX0.out ⟨x.valid, x.user, x.name, x.next, pp, pk, pq⟩ x ⟨rfl, rfl, rfl, rfl⟩ (RM.lower hb.size) (fun k hk e => by
        have h1 := (RM.own.lt k hk).1
        have h2 := (S.where'.1 w.heap.size rfl).2
        omega) (fun j y hj k hk e => by
        have h1 := (RM.own.lt k hk).1
        have h2 := (S.where'.2 j y hj k e).2
        omega)
      rw [hms] at hp
      have hbz : Below w.heap.size w (put5 w1 w.heap.size i ⟨x.valid, x.user, x.name, x.next, pp, pk, pq⟩) := (hb.trans (hb1.mono hb.size)).grown (put5_grown _ _ _ _) (Nat.le_trans hb.size hb1.size) (fun k hk => by have := Option.some.inj hk; omega)
      unfold put5 at hp hbz
      go_roundw
      case rel => exact ⟨i + 1, _, by omega, by go_num, hp, hbz⟩
      case measure => simp [intOf]; omega
    · go_wp2
      go_ret
      rw [copyTo_all (by omega)] at S
      exact ⟨_, _, rfl, S, hb⟩

set_option maxRecDepth 100000 in
set_option maxHeartbeats 4000000 in
theorem toState_any (l : List Bx) (v : Value) (w : World) (h : LBRd w v l) (hl : l.length ≤ 1048576) (hm : ∀ b ∈ l, b.mails.length ≤ 1048576) :
    Calls Try.prog 11 #[.agg #[v]] w fun e w' => ∃ v' hs, e = .returned (.agg #[v']) ∧ StO w.heap.size w' v' l hs ∧ Below w.heap.size w w' := by
  obtain ⟨ad, cap, rfl, _⟩ := h.boxes
  have bA := belNew w (.cells #[.slice ad l.length cap] 24)
  obtain ⟨wA, hwA⟩ : ∃ wA, wA = w.alloc (.cells #[.slice ad l.length cap] 24) := ⟨_, rfl⟩
  have eA : wA.heap.size = w.heap.size + 1 := by rw [hwA]; simp
  rw [← hwA] at bA
  have hB := Box.new wA #[.slice none 0 0] 29
  have bB := bA.trans ((belNew wA (.cells #[.slice none 0 0] 29)).mono bA.size)
  obtain ⟨wB, hwB⟩ : ∃ wB, wB = wA.alloc (.cells #[.slice none 0 0] 29) := ⟨_, rfl⟩
  have eB : wB.heap.size = w.heap.size + 1 + 1 := by rw [hwB]; simp; omega
  rw [← hwB] at hB bB
  rw [eA] at hB
  have hC := Box.new wB #[.slice none 0 0] 29
  have kC := belNew wB (.cells #[.slice none 0 0] 29)
  have bC := bB.trans (kC.mono bB.size)
  obtain ⟨wC, hwC⟩ : ∃ wC, wC = wB.alloc (.cells #[.slice none 0 0] 29) := ⟨_, rfl⟩
  have eC : wC.heap.size = w.heap.size + 1 + 1 + 1 := by rw [hwC]; simp; omega
  rw [← hwC] at hC kC bC
  rw [eB] at hC
  have hB' := hB.later kC
  have HT := Lib.hid (toBoxS_any l _ wC (h.later bC) hl hm)
  have HEC := Lib.hid eC
  have HWC : Hid (wC = ((w.alloc (.cells #[.slice ad l.length cap] 24)).alloc (.cells #[.slice none 0 0] 29)).alloc (.cells #[.slice none 0 0] 29)) := by rw [← hwA, ← hwB, ← hwC]; exact rfl
  clear h hB bB bA kC eA eB eC hwA hwB hwC hm
  go_enter Try.func11, Try.ntmps11
  go_wp2_with fail
  rw [← HWC.out]
  refine HT.out.mono ?_
  rintro e w1 ⟨v1, hs1, rfl, S1, k1⟩
  obtain ⟨p, q, rfl⟩ := S1.row.form
  have B1 := hB'.later k1
  have C1 := hC.later k1
  have b1 := bC.trans (k1.mono bC.size)
  have u0 := B1.cell 0 _ rfl
  have x0 := C1.cell 0 _ rfl
  have f0 := B1.loose 0
  have y0 := C1.loose 0
  have C2 : Box (w1.setCell ⟨w.heap.size + 1 + 1, 0, none⟩ (.slice p hs1.length q)) (w.heap.size + 1 + 1) #[.slice p hs1.length q] 29 := C1.set 0 _
  have B2 : Box (w1.setCell ⟨w.heap.size + 1 + 1, 0, none⟩ (.slice p hs1.length q)) (w.heap.size + 1) #[.slice none 0 0] 29 := B1.other (by omega) 0 _
  have hg1 : w.heap.size + 1 + 1 < wC.heap.size := by have := HEC.out; omega
  have W1 := S1.where'
  have S2 := S1.shift (stored_grown w1 (w.heap.size + 1 + 1) 0 (.slice p hs1.length q)) (fun k hk => by
    have hk' : k = w.heap.size + 1 + 1 := (Option.some.inj hk).symm
    exact ⟨fun e => by have := (W1.1 k e).1; omega, fun j x hj e => by have := (W1.2 j x hj k e).1; omega⟩)
  have b2 := b1.setCell (p := ⟨w.heap.size + 1 + 1, 0, none⟩) (show w.heap.size ≤ w.heap.size + 1 + 1 by omega) (.slice p hs1.length q)
  have S3 := S2.shift (stored_grown _ (w.heap.size + 1) 0 (.slice p hs1.length q)) (fun k hk => by
    have hk' : k = w.heap.size + 1 := (Option.some.inj hk).symm
    exact ⟨fun e => by have := (W1.1 k e).1; omega, fun j x hj e => by have := (W1.2 j x hj k e).1; omega⟩)
  have b3 := b2.setCell (p := ⟨w.heap.size + 1, 0, none⟩) (show w.heap.size ≤ w.heap.size + 1 by omega) (.slice p hs1.length q)
  have z0 := (B2.set 0 (.slice p hs1.length q)).cell 0 _ rfl
  have x1 := C2.cell 0 _ rfl
  have u1 := B2.cell 0 _ rfl
  have f1 := B2.loose 0
  have HS3 := Lib.hid S3
  have HB3 := Lib.hid b3
  have HG := Lib.hid hg1
  clear hB' hC bC HT HWC HEC B1 C1 b1 S1 hg1 k1 W1 S2 b2 S3 b3 C2 B2
  go_wp2
  refine bodyPost_ret (v := .agg #[.slice p hs1.length q]) (by simp [results, Try.results11, go_sem, z0]) rfl ⟨_, hs1, rfl, ?_, HB3.out⟩
  exact HS3.out.lower (by have := HG.out; omega)

end Go.Proofs.Ytjfilicddnhniab

/- Mails and boxes: there is one of each. -/
namespace Go.Proofs.Ytjfilicddnhniab

instance : Inhabited Ml := ⟨⟨0, 0, ⟨#[]⟩⟩⟩
instance : Inhabited BxH := ⟨⟨0, ⟨#[]⟩, ⟨#[]⟩, 0, none, 0, 0⟩⟩

end Go.Proofs.Ytjfilicddnhniab

/- Lists that came in: a row read cell by cell is a list. -/
namespace Go.Proofs.Ytjfilicddnhniab
open Go.RowKit Go.ChangeShapes Go.WideShapes Go.ChangeAt Go.Deep Go.Joins

section
variable {W : World}

theorem rows_of_cells {α : Type} [Inhabited α] (E : Enc α) {a : Addr} {len cap : Nat} (hl : len ≤ cap) (hp : ∀ i, i < len → ∃ x : α, ∀ k u, (E.f x)[k]? = some u → W.cell? (a.add (i * E.sz + k)) = some u) (Pr : α → Prop)
    (hpr : ∀ i, i < len → ∀ x : α, (∀ k u, (E.f x)[k]? = some u → W.cell? (a.add (i * E.sz + k)) = some u) → Pr x) :
    ∃ l : List α, l.length = len ∧ Rows' E W (.slice (some a) len cap) l ∧ ∀ x ∈ l, Pr x := by
  obtain ⟨f, hf⟩ := choose_lt hp
  refine ⟨(List.range len).map f, by simp, ?_, ?_⟩
  · by_cases h0 : len = 0
    · subst h0
      exact .inl ⟨rfl, _, _, rfl⟩
    · have hsp : a.spot = none := by
        have hne : (E.f (f 0))[0]? = some ((E.f (f 0))[0]'(by rw [E.len]; exact E.pos)) := List.getElem?_eq_getElem _
        have := hf 0 (by omega) 0 _ hne
        have h2 := World.cell?_spot this
        simpa [Addr.add] using h2
      obtain ⟨b, off, spot⟩ := a
      simp only at hsp
      subst hsp
      refine .inr ⟨b, off, cap, by simp, by simpa using hl, ?_, ?_⟩
      · have hne : (E.f (f 0))[0]? = some ((E.f (f 0))[0]'(by rw [E.len]; exact E.pos)) := List.getElem?_eq_getElem _
        have := hf 0 (by omega) 0 _ hne
        rw [Addr.add_lit] at this
        exact World.block_lt_of_cell? W _ this
      · intro j x hj k u hu
        have hjl : j < len := by have := (List.getElem?_eq_some_iff.1 hj).1; simpa using this
        have hx : f j = x := by simpa [hjl] using hj
        subst hx
        have := hf j hjl k u hu
        rw [Addr.add_lit] at this
        rw [Nat.add_assoc]
        exact this
  · intro x hx
    simp only [List.mem_map, List.mem_range] at hx
    obtain ⟨i, hi, rfl⟩ := hx
    exact hpr i hi _ (hf i hi)
end

end Go.Proofs.Ytjfilicddnhniab
