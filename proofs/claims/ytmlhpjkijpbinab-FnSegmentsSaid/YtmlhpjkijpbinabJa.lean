/- Texts of our own, joined. -/
import Derived.Test.YtmlhpjkijpbinabRows
import Derived.WalkKit
import Derived.Laws.BytesArg
import Derived.Maps.AppendAt
import Derived.Lib.ConvBytes
import Derived.Lib.Buffer
import Derived.Laws.Bits128
import Derived.Lib.SmallJoins
import Derived.WalkSpells
import Derived.WalkSmall
import Derived.Deep.RegionHeld3
import Derived.Deep.QuietTactic
import Derived.BigQuiet
import Derived.OpenShut
import Derived.Laws.BitsAllLaws
import Derived.Laws.BitsLemmas
import Derived.Laws.Concat
/- What a list of bytes is that a call builds in memory of its own, and the laws by which it grows and becomes a string. -/
namespace Go.Proofs.Ytmlhpjkijpbinab
open Go.RowKit

theorem Try.info_u8 : (Try.prog.info? 5).map (fun i => (i.zero, i.size, i.bytes)) = some (some (.int .u8 0), 1, 1) := by kernel_rfl

/-- The bytes as the cells of a row. -/
def bytesV (l : List UInt8) : List Value := l.map fun c => .int .u8 (c.toNat : Int)

theorem bytesV_length (l : List UInt8) : (bytesV l).length = l.length := by simp [bytesV]

/-- The slice v holds the bytes l in memory that the call made itself (blocks from B on); below B all is as it was in w0. -/
structure Buf (B : Nat) (w0 w : World) (v : Value) (l : List UInt8) : Prop where
  own : w.ownsRow B 5 1 v l.length (bytesV l)
  bel : Below B w0 w
  le : B ≤ w.heap.size

theorem Buf.alloc {B : Nat} {w0 w : World} {v : Value} {l : List UInt8} (h : Buf B w0 w v l) (o : Obj) : Buf B w0 (w.alloc o) v l :=
  ⟨h.own.alloc o, h.bel.alloc h.le o, by have := h.le; simp; omega⟩

theorem Buf.drew {B : Nat} {w0 w : World} {v : Value} {l : List UInt8} (h : Buf B w0 w v l) : Buf B w0 w.drew v l :=
  ⟨h.own.drew, h.bel.drew, h.le⟩

/-- An append of the bytes that lie at ad. -/
theorem wpList_append_bytes {w0 w : World} {ops : Array Oper} {rest : List Oper} {o : Oper} {a : Act} {Q : Exit → Act → World → Prop} (hgd : o.guard = none) (s x : Operand)
    (ho : o.op = .call { callee := .builtin .append, args := #[s, x], argTypes := #[22, 22] })
    (B : Nat) (v : Value) (l : List UInt8) (hs : a.eval s = v) (hb : Buf B w0 w v l)
    (ad : Addr) (news : List UInt8) (c : Nat) (hx : a.eval x = .slice (some ad) news.length c)
    (hnews : ∀ j u, (bytesV news)[j]? = some u → w.cell? (ad.add j) = some u)
    (hlen : l.length + news.length ≤ 140737488355328)
    (h : ∀ v' w', Buf B w0 w' v' (l ++ news) → wpList Try.prog ops Q rest (a.put o.dst v') w') : wpList Try.prog ops Q (o :: rest) a w := by
  obtain ⟨i0, hi, hz0, hz1, hz2⟩ := info_parts Try.info_u8
  refine wpList_append_own _ hgd s x 22 ho B 5 i0 (.int .u8 0) 1 1 Try.underlying22 hi hz0 hz1 hz2 rfl (by decide) v l.length (bytesV l) hs hb.own ad news.length c (bytesV news) hx (by simp [bytesV]) hnews ?_ (by unfold maxLen; omega) (by omega) hb.le ?_
  · intro u hu
    simp only [bytesV, List.mem_map] at hu
    obtain ⟨c, _, rfl⟩ := hu
    rfl
  · intro v' w' hown hgrow _
    refine h v' w' ⟨?_, hb.bel.grown hgrow hb.le (fun k hk => (hb.own.lt k hk).1), Nat.le_trans hb.le hgrow.size⟩
    have e1 : (l ++ news).length = l.length + news.length := by simp
    have e2 : bytesV (l ++ news) = bytesV l ++ bytesV news := by simp [bytesV]
    rw [e1, e2]
    exact hown

/-- A slice over a new row of no bytes yet. -/
theorem Buf.fresh (w : World) (cur : Array Value) (cap : Nat) (hs : cur.size = cap) (hm : cap ≤ maxLen) :
    Buf w.heap.size w (w.alloc (.cells cur 5)) (.slice (some ⟨w.heap.size, 0, none⟩) 0 cap) [] :=
  ⟨World.ownsRow_made w cur cap (Nat.le_refl _) hm (by omega), (Below.refl _ _).alloc (Nat.le_refl _) _, by simp⟩

/-- The one cell of a new block, as an append asks for it. -/
theorem one_new (w : World) (x : Int) (b : UInt8) (h : x = (b.toNat : Int)) :
    ∀ j u, (bytesV [b])[j]? = some u → (w.alloc (.cells #[.int .u8 x] 5)).cell? ((⟨w.heap.size, 0, none⟩ : Addr).add j) = some u := by
  subst h
  intro j u hj
  match j, hj with
  | 0, hj => simp [bytesV] at hj; subst hj; simp [Addr.add]
  | j + 1, hj => simp [bytesV] at hj

/-- string(b) of such bytes. -/
theorem Buf.toString {B : Nat} {w0 w : World} {v : Value} {l : List UInt8} (h : Buf B w0 w v l) :
    (convert 22 9 v).run Try.prog w = .ok (.string ⟨l.toArray⟩) w := by
  rcases h.own.2 with ⟨rfl, h0⟩ | ⟨g, cap, cur, rfl, hg, hh, hnc, hcp, hcs, htake⟩
  · obtain rfl := List.length_eq_zero_iff.1 h0
    exact run_convert_bytes_nil (P := Try.prog) w 22 5 Try.underlying22 Try.underlying5 0 0 9 Try.underlying9
  · refine run_convert_bytes_back (P := Try.prog) w 22 9 5 ⟨g, 0, none⟩ cap l Try.underlying22 Try.underlying5 Try.underlying9 fun j hj => ?_
    rw [Addr.add_lit, Nat.zero_add, h.own.cellAt j (by omega)]
    simp [bytesV, hj]

end Go.Proofs.Ytmlhpjkijpbinab

/- Appends to a list of bytes beside other memory of the call's own: what else lies there stays; inside a region that draws its order too; and the bytes of a string laid in a row of their own. -/
namespace Go.Proofs.Ytmlhpjkijpbinab
open Go.RowKit

/-- Behind an append from v to v': v' lies where v lay, or in a new block; every other block is as it was. -/
structure Keeps (w w' : World) (v v' : Value) : Prop where
  place : v'.ownBlock = v.ownBlock ∨ v'.ownBlock = some w.heap.size
  other : ∀ g, g < w.heap.size → some g ≠ v.ownBlock → w'.heap[g]? = w.heap[g]?
  size : w.heap.size ≤ w'.heap.size

theorem Keeps.block {w w' : World} {v v' : Value} (h : Keeps w w' v v') {g : Nat} {o : Obj} (hg : w.heap[g]? = some o) (ha : v.ownBlock ≠ some g) : w'.heap[g]? = some o ∧ v'.ownBlock ≠ some g := by
  have hlt : g < w.heap.size := by
    by_cases hh : g < w.heap.size
    · exact hh
    · rw [Array.getElem?_eq_none (by omega)] at hg; cases hg
  refine ⟨(h.other g hlt (Ne.symm ha)).trans hg, ?_⟩
  rcases h.place with e | e
  · rw [e]; exact ha
  · rw [e]; intro e2; have := Option.some.inj e2; omega

theorem heap_drew (w : World) (g : Nat) : (w.drew).heap[g]? = w.heap[g]? := rfl
theorem heap_alloc_some {w : World} {g : Nat} {o : Obj} (h : w.heap[g]? = some o) (x : Obj) : (w.alloc x).heap[g]? = some o := by
  have hlt : g < w.heap.size := by
    by_cases hh : g < w.heap.size
    · exact hh
    · rw [Array.getElem?_eq_none (by omega)] at h; cases h
  rw [Below.heap_alloc w x g hlt, h]

theorem run_append_bytes {w0 w : World} (ty : TypeId) (B : Nat) (v : Value) (l : List UInt8) (hb : Buf B w0 w v l)
    (ad : Addr) (news : List UInt8) (c : Nat) (hnews : ∀ j u, (bytesV news)[j]? = some u → w.cell? (ad.add j) = some u)
    (hlen : l.length + news.length ≤ 140737488355328) :
    ∃ v' w', (Builtin.append_ #[22, 22] ty #[v, .slice (some ad) news.length c]).run Try.prog w = .ok v' w' ∧ Buf B w0 w' v' (l ++ news) ∧ Keeps w w' v v' := by
  obtain ⟨i0, hi, hz0, hz1, hz2⟩ := info_parts Try.info_u8
  obtain ⟨v', w', h1, h2, h3, _, h5⟩ := run_append_own_at (P := Try.prog) w B 22 ty 5 i0 (.int .u8 0) 1 1 Try.underlying22 hi hz0 hz1 hz2 rfl (by decide) v l.length (bytesV l) hb.own ad news.length c (bytesV news) (by simp [bytesV]) hnews
    (by intro u hu; simp only [bytesV, List.mem_map] at hu; obtain ⟨c, _, rfl⟩ := hu; rfl) (by unfold maxLen; omega) (by omega) hb.le
  have e1 : (l ++ news).length = l.length + news.length := by simp
  have e2 : bytesV (l ++ news) = bytesV l ++ bytesV news := by simp [bytesV]
  exact ⟨v', w', h1, ⟨by rw [e1, e2]; exact h2, hb.bel.grown h3 hb.le (fun k hk => (hb.own.lt k hk).1), Nat.le_trans hb.le h3.size⟩, ⟨h5, fun g hg hne => h3.block g hg hne, h3.size⟩⟩

theorem wp_append_bytes {w0 w : World} {o : Oper} {a : Act} {K : Act → World → Prop} {Q : Exit → Act → World → Prop} (s x : Operand)
    (ho : o.op = .call { callee := .builtin .append, args := #[s, x], argTypes := #[22, 22] })
    (B : Nat) (v : Value) (l : List UInt8) (hs : a.eval s = v) (hb : Buf B w0 w v l)
    (ad : Addr) (news : List UInt8) (c : Nat) (hx : a.eval x = .slice (some ad) news.length c)
    (hnews : ∀ j u, (bytesV news)[j]? = some u → w.cell? (ad.add j) = some u)
    (hlen : l.length + news.length ≤ 140737488355328)
    (h : ∀ v' w', Buf B w0 w' v' (l ++ news) → Keeps w w' v v' → K (a.put o.dst v') w') : o.wp Try.prog a w K Q := by
  obtain ⟨v', w', hr, h2, h3⟩ := run_append_bytes o.type B v l hb ad news c hnews hlen
  unfold Oper.wp execOp
  simp only [ho, resolve, invoke, builtin, Sem.run_bind, Sem.run_pure, Result.andThen_ok, List.map_toArray, List.map_cons, List.map_nil, hs, hx, hr]
  exact h v' w' h2 h3

/-- The same at a list of operations that goes in its own order. -/
theorem wpList_append_kept {w0 w : World} {ops : Array Oper} {rest : List Oper} {o : Oper} {a : Act} {Q : Exit → Act → World → Prop} (hgd : o.guard = none) (s x : Operand)
    (ho : o.op = .call { callee := .builtin .append, args := #[s, x], argTypes := #[22, 22] })
    (B : Nat) (v : Value) (l : List UInt8) (hs : a.eval s = v) (hb : Buf B w0 w v l)
    (ad : Addr) (news : List UInt8) (c : Nat) (hx : a.eval x = .slice (some ad) news.length c)
    (hnews : ∀ j u, (bytesV news)[j]? = some u → w.cell? (ad.add j) = some u)
    (hlen : l.length + news.length ≤ 140737488355328)
    (h : ∀ v' w', Buf B w0 w' v' (l ++ news) → Keeps w w' v v' → wpList Try.prog ops Q rest (a.put o.dst v') w') : wpList Try.prog ops Q (o :: rest) a w :=
  wpList_plain hgd fun _ hK => wp_append_bytes s x ho B v l hs hb ad news c hx hnews hlen fun v' w' h2 h3 => hK _ _ (h v' w' h2 h3)

/-- The same at a step of a region that draws its order. -/
theorem step_append_bytes {w0 w : World} {ops : Array Oper} {o : Oper} {a : Act} {K : Act → World → Prop} {Q : Exit → Act → World → Prop} {E : Prop} (hgd : o.guard = none) (s x : Operand)
    (ho : o.op = .call { callee := .builtin .append, args := #[s, x], argTypes := #[22, 22] })
    (B : Nat) (v : Value) (l : List UInt8) (hs : a.eval s = v) (hb : Buf B w0 w v l)
    (ad : Addr) (news : List UInt8) (c : Nat) (hx : a.eval x = .slice (some ad) news.length c)
    (hnews : ∀ j u, (bytesV news)[j]? = some u → w.cell? (ad.add j) = some u)
    (hlen : l.length + news.length ≤ 140737488355328)
    (h : ∀ v' w', Buf B w0 w' v' (l ++ news) → Keeps w w' v v' → K (a.put o.dst v') w') :
    if Region.wanted o (yielded ops a.tmps) = true then Oper.wp Try.prog o a w K Q else E := by
  have hw : Region.wanted o (yielded ops a.tmps) = true := by simp [Region.wanted, hgd]
  rw [if_pos hw]
  exact wp_append_bytes s x ho B v l hs hb ad news c hx hnews hlen h

/-- Two cells of a new block, as an append asks for them; behind a draw. -/
theorem two_new (w : World) (x y : Int) (b c : UInt8) (hx : x = (b.toNat : Int)) (hy : y = (c.toNat : Int)) :
    ∀ j u, (bytesV [b, c])[j]? = some u → ((w.alloc (.cells #[.int .u8 x, .int .u8 y] 5)).drew).cell? ((⟨w.heap.size, 0, none⟩ : Addr).add j) = some u := by
  subst hx hy
  intro j u hj
  match j, hj with
  | 0, hj => simp [bytesV] at hj; subst hj; simp [Addr.add]
  | 1, hj => simp [bytesV] at hj; subst hj; simp [Addr.add]
  | j + 2, hj => simp [bytesV] at hj

/-- The row that []byte(s) lays: its block is there, whatever is laid behind it. -/
theorem bytes_block (w : World) (s : ByteArray) : ∃ o : Obj, (Lib.bytesWorld w 5 s).heap[w.heap.size]? = some o ∧
    ∀ wx : World, wx.heap[w.heap.size]? = some o → ∀ j (hj : j < s.size), wx.cell? ⟨w.heap.size, j, none⟩ = some (.int .u8 (s[j].toNat : Int)) := by
  refine ⟨_, Lib.bytesWorld_at_new w 5 s, fun wx hx j hj => ?_⟩
  have h1 := Lib.bytesWorld_cell w 5 s j hj
  rw [World.cell?_of_block (w := Lib.bytesWorld w 5 s) (a := ⟨w.heap.size, j, none⟩) (by rw [hx, Lib.bytesWorld_at_new]), h1]
  have : s.data.toList.getD j 0 = s[j] := by
    rw [List.getD_eq_getElem?_getD, List.getElem?_eq_getElem (by simpa using hj)]; rfl
  rw [this]

theorem Buf.bytesWorld {B : Nat} {w0 w : World} {v : Value} {l : List UInt8} (h : Buf B w0 w v l) (s : ByteArray) : Buf B w0 (Lib.bytesWorld w 5 s) v l := by
  have hg : w.grownBy (Lib.bytesWorld w 5 s) none := ⟨rfl, rfl, rfl, by rw [Lib.bytesWorld_size]; omega, fun k hk _ => Lib.bytesWorld_at_old w 5 s k hk⟩
  refine ⟨h.own.kept hg ?_, h.bel.grown hg h.le (fun k hk => by cases hk), Nat.le_trans h.le hg.size⟩
  cases hv : v.ownBlock with
  | none => exact .inl rfl
  | some k => exact .inr (by simp)

/-- make([]byte, 0, n). -/
theorem wpList_make_bytes {w : World} {ops : Array Oper} {rest : List Oper} {o : Oper} {a : Act} {Q : Exit → Act → World → Prop} (hg : o.guard = none) (l c : Operand) (hop : o.op = Op.makeSlice 22 l c)
    (kl kc : IntKind) (C : Int) (n : Nat) (hl : a.eval l = .int kl 0) (hc : a.eval c = .int kc C) (hC : C = (n : Int)) (hn : n ≤ 281474976710656)
    (h : ∀ w' g, Buf w.heap.size w w' (.slice (some ⟨g, 0, none⟩) 0 n) [] → g < w'.heap.size → wpList Try.prog ops Q rest (a.put o.dst (.slice (some ⟨g, 0, none⟩) 0 n)) w') : wpList Try.prog ops Q (o :: rest) a w := by
  obtain ⟨i0, hi, hz0, hz1, hz2⟩ := info_parts Try.info_u8
  refine wpList_make_own w hg l c 22 hop w.heap.size 5 i0 (.int .u8 0) 1 Try.underlying22 hi hz0 hz1 kl kc C n hl hc hC (by rw [hz2]; omega) (by unfold maxLen; omega) (Nat.le_refl _) ?_
  intro w' hown hgrow
  exact h w' w.heap.size ⟨hown, (Below.refl _ _).grown hgrow (Nat.le_refl _) (fun k hk => by cases hk), hgrow.size⟩ (hown.lt w.heap.size rfl).2

theorem Buf.form {B : Nat} {w0 w : World} {v : Value} {l : List UInt8} (h : Buf B w0 w v l) : ∃ (a : Option Addr) (cap : Nat), v = .slice a l.length cap := by
  rcases h.own.2 with ⟨rfl, h0⟩ | ⟨g, cap, cur, rfl, _⟩
  · exact ⟨none, 0, by rw [h0]⟩
  · exact ⟨_, _, rfl⟩

/-- Where something is held, it lies at the head of a row of the call's own, and each byte is in its cell. -/
theorem Buf.at {B : Nat} {w0 w : World} {v : Value} {l : List UInt8} (h : Buf B w0 w v l) (hl : l ≠ []) : ∃ g cap : Nat, v = .slice (some ⟨g, 0, none⟩) l.length cap ∧ l.length ≤ cap ∧ B ≤ g ∧ g < w.heap.size ∧
    ∀ j b, l[j]? = some b → w.cell? ⟨g, j, none⟩ = some (.int .u8 (b.toNat : Int)) := by
  rcases h.own.2 with ⟨rfl, h0⟩ | ⟨g, cap, cur, rfl, hg, hh, hnc, hcp, hcs, htake⟩
  · exact absurd (List.length_eq_zero_iff.1 h0) hl
  · refine ⟨g, cap, rfl, hnc, hg, (h.own.lt g rfl).2, fun j b hj => ?_⟩
    have hlt : j < l.length := (List.getElem?_eq_some_iff.1 hj).1
    rw [h.own.cellAt j (by omega)]
    simp [bytesV, hj]

end Go.Proofs.Ytmlhpjkijpbinab

/- The cursor of a draw: what spec.l01Byte, l01Below, l01Once, l01Text, l01Long and l01New hand back: numbers in their ranges, whatever the bytes are. -/
namespace Go.Proofs.Ytmlhpjkijpbinab
open Go.RowKit

theorem i64_and255 (n : Int) : bits .and .i64 n 255 = n % 256 := by
  have h1 : (BitVec.ofInt 64 n &&& BitVec.ofInt 64 255).toNat = (BitVec.ofInt 64 n).toNat % 256 := by
    rw [BitVec.toNat_and]
    have e : (BitVec.ofInt 64 255).toNat = 2 ^ 8 - 1 := by decide
    rw [e, Nat.and_two_pow_sub_one_eq_mod]
  show IntKind.i64.wrap ((BitVec.ofInt 64 n &&& BitVec.ofInt 64 255).toNat : Int) = _
  rw [h1, BitVec.toNat_ofInt, IntWalk.i64_in _ ⟨by omega, by omega⟩]
  omega

/-- The bytes of a code can be read, and lie outside the block pc. -/
def Code (w : World) (pc : Nat) (a : Option Addr) (len : Nat) : Prop :=
  ∀ j, j < len → ∃ b off : Nat, a = some ⟨b, off, none⟩ ∧ b ≠ pc ∧ ∃ x : Nat, x < 256 ∧ w.cell? ⟨b, off + j, none⟩ = some (.int .u8 (x : Int))

/-- A cursor in the block pc over a code of len bytes. -/
structure Cur (w : World) (pc : Nat) (a : Option Addr) (len cap : Nat) : Prop where
  blk : ∃ i h : Int, w.heap[pc]? = some (.cells #[.slice a len cap, .int .i64 i, .int .i64 h] 77 (0, 0)) ∧ 0 ≤ i ∧ i ≤ len ∧ (-9223372036854775808 ≤ h ∧ h ≤ 9223372036854775807)
  code : Code w pc a len
  small : len ≤ 1048576

theorem lt_of_heap {w : World} {g : Nat} {o : Obj} (hg : w.heap[g]? = some o) : g < w.heap.size := by
  by_cases hh : g < w.heap.size
  · exact hh
  · rw [Array.getElem?_eq_none (by omega)] at hg; cases hg

theorem Code.grown {w w' : World} {pc : Nat} {a : Option Addr} {len : Nat} (h : Code w pc a len) (hg : w.grownBy w' (some pc)) : Code w' pc a len := by
  intro j hj
  obtain ⟨b, off, ha, hb, x, hx, hc⟩ := h j hj
  exact ⟨b, off, ha, hb, x, hx, hg.cell hc (fun e => hb (Option.some.inj e))⟩

/-- What a draw of one byte leaves. -/
def ByteR (pc : Nat) (a : Option Addr) (len cap : Nat) (w : World) (e : Ending) (w' : World) : Prop :=
  ∃ x : Nat, x < 256 ∧ e = .returned (.int .i64 (x : Int)) ∧ Cur w' pc a len cap ∧ w.grownBy w' (some pc)

theorem grownBy_setCell (w : World) (pc i : Nat) (v : Value) : w.grownBy (w.setCell ⟨pc, i, none⟩ v) (some pc) :=
  have b := (Below.refl 0 w).setCell (p := ⟨pc, i, none⟩) (Nat.zero_le _) v
  ⟨b.os, b.tape, b.output, b.size, fun k _ hne => Below.heap_setCell w _ _ _ (fun e => hne (by rw [e]))⟩

theorem grownBy_drewN (w : World) (n : Nat) (r : Option Nat) : w.grownBy (w.drewN n) r := ⟨rfl, rfl, rfl, Nat.le_refl _, fun _ _ _ => rfl⟩

theorem wrap64_range (n : Int) : -9223372036854775808 ≤ wrap64 n ∧ wrap64 n ≤ 9223372036854775807 := by
  unfold wrap64; omega

set_option maxRecDepth 100000 in
set_option maxHeartbeats 2000000 in
theorem byte_any (pc : Nat) (a : Option Addr) (len cap : Nat) (w : World) (hc : Cur w pc a len cap) :
    Calls Try.prog 43 #[.pointer (some ⟨pc, 0, none⟩)] w fun e w' => ByteR pc a len cap w e w' := by
  obtain ⟨i, h, hblk, hi0, hi1, hh1, hh2⟩ := hc.blk
  have hcode := hc.code
  have hsm := hc.small
  have c0 : w.cell? ⟨pc, 0, none⟩ = some (.slice a len cap) := by rw [Joins.cell_of_block hblk]; rfl
  have c1 : w.cell? ⟨pc, 1, none⟩ = some (.int .i64 i) := by rw [Joins.cell_of_block hblk]; rfl
  have c2 : w.cell? ⟨pc, 2, none⟩ = some (.int .i64 h) := by rw [Joins.cell_of_block hblk]; rfl
  have f1 : w.frozen? ⟨pc, 1, none⟩ = false := Joins.unfrozen_of_block hblk 1
  have f2 : w.frozen? ⟨pc, 2, none⟩ = false := Joins.unfrozen_of_block hblk 2
  go_enter Try.func43, Try.ntmps43
  go_wp2
  have hHb := wrap64_range (wrap64 (h * 6364136223846793005) + 1442695040888963407)
  generalize wrap64 (wrap64 (h * 6364136223846793005) + 1442695040888963407) = H at hHb ⊢
  have hg1 := grownBy_setCell w pc 2 (.int .i64 H)
  have hblk1 : (w.setCell ⟨pc, 2, none⟩ (.int .i64 H)).heap[pc]? = some (.cells #[.slice a len cap, .int .i64 i, .int .i64 H] 77 (0, 0)) := Joins.block_setCell hblk _
  have hcode1 := hcode.grown hg1
  clear c0 c1 c2 f1 f2
  generalize w.setCell ⟨pc, 2, none⟩ (.int .i64 H) = w1 at *
  have c0 : w1.cell? ⟨pc, 0, none⟩ = some (.slice a len cap) := by rw [Joins.cell_of_block hblk1]; rfl
  have c1 : w1.cell? ⟨pc, 1, none⟩ = some (.int .i64 i) := by rw [Joins.cell_of_block hblk1]; rfl
  have c2 : w1.cell? ⟨pc, 2, none⟩ = some (.int .i64 H) := by rw [Joins.cell_of_block hblk1]; rfl
  have f1 : w1.frozen? ⟨pc, 1, none⟩ = false := Joins.unfrozen_of_block hblk1 1
  have HB : Hid (w1.heap[pc]? = some (.cells #[.slice a len cap, .int .i64 i, .int .i64 H] 77 (0, 0))) := hblk1
  have HC : Hid (Code w1 pc a len) := hcode1
  clear hblk1 hblk hcode1 hcode hc
  go_quiet (fail)
  go_wp2
  rw [i64_and255]
  have hx0 : 0 ≤ bits .xor .i64 (H / 8589934592) (H / 35184372088832) % 256 ∧ bits .xor .i64 (H / 8589934592) (H / 35184372088832) % 256 < 256 := by omega
  generalize bits .xor .i64 (H / 8589934592) (H / 35184372088832) % 256 = x at hx0 ⊢
  obtain ⟨hx1, hx2⟩ := hx0
  by_cases hlt : i < (len : Int)
  · have hij : i.toNat < len := by omega
    obtain ⟨b, off, rfl, hbne, y, hy, hcy⟩ := HC.out i.toNat hij
    obtain ⟨k, rfl⟩ := Int.eq_ofNat_of_zero_le hi0
    rw [Int.toNat_natCast] at hcy
    go_quiet (fail)
    go_wp2
    go_quiet (fail)
    go_wp2
    rw [i64_and255]
    go_ret
    have hg2 := fun n => (grownBy_drewN w1 n (some pc)).trans (grownBy_setCell _ pc 1 (.int .i64 ((k : Int) + 1)))
    exact ⟨((x + (y : Int)) % 256).toNat, by omega, by rw [Int.toNat_of_nonneg (by omega)]; rfl,
      ⟨⟨(k : Int) + 1, H, Joins.block_setCell HB.out _, by omega, by omega, hHb⟩, HC.out.grown (hg2 _), hsm⟩, hg1.trans (hg2 _)⟩
  · go_quiet (fail)
    go_wp2
    go_ret
    have hg2 := fun n => grownBy_drewN w1 n (some pc)
    exact ⟨x.toNat, by omega, by rw [Int.toNat_of_nonneg (by omega)]; rfl, ⟨⟨i, H, HB.out, by omega, by omega, hHb⟩, HC.out.grown (hg2 _), hsm⟩, hg1.trans (hg2 _)⟩

theorem ByteR.after {pc : Nat} {a : Option Addr} {len cap : Nat} {w0 w w' : World} {e : Ending} (h0 : w0.grownBy w (some pc)) (h : ByteR pc a len cap w e w') :
    ∃ x : Nat, x < 256 ∧ e = .returned (.int .i64 (x : Int)) ∧ Cur w' pc a len cap ∧ w0.grownBy w' (some pc) := by
  obtain ⟨x, hx, he, hc, hg⟩ := h
  exact ⟨x, hx, he, hc, h0.trans hg⟩

/-- What a draw of a number below n leaves. -/
def BelowR (n : Int) (pc : Nat) (a : Option Addr) (len cap : Nat) (w : World) (e : Ending) (w' : World) : Prop :=
  ∃ x : Nat, (0 < n → (x : Int) < n) ∧ (n ≤ 0 → x = 0) ∧ e = .returned (.int .i64 (x : Int)) ∧ Cur w' pc a len cap ∧ w.grownBy w' (some pc)

set_option maxRecDepth 100000 in
set_option maxHeartbeats 1000000 in
theorem below_any (n : Int) (pc : Nat) (a : Option Addr) (len cap : Nat) (w : World) (hc : Cur w pc a len cap) (hn : n ≤ 9223372036854775807) :
    Calls Try.prog 44 #[.pointer (some ⟨pc, 0, none⟩), .int .i64 n] w fun e w' => BelowR n pc a len cap w e w' := by
  by_cases h0 : n ≤ 0
  · go_enter Try.func44, Try.ntmps44
    go_wp2
    go_ret
    exact ⟨0, by omega, by omega, rfl, hc, World.grownBy.refl _ _⟩
  · by_cases h1 : n ≤ 256
    · go_enter Try.func44, Try.ntmps44
      go_wp2_with (go_at_call 43; refine (byte_any pc a len cap _ hc).mono ?_; rintro e w1 ⟨x, hx, rfl, hc1, hg1⟩)
      go_ret
      have hm1 := Int.emod_nonneg (x : Int) (show n ≠ 0 by omega)
      have hm2 := Int.emod_lt_of_pos (x : Int) (show 0 < n by omega)
      exact ⟨((x : Int) % n).toNat, by omega, by omega, by rw [Int.toNat_of_nonneg hm1]; rfl, hc1, hg1⟩
    · go_enter Try.func44, Try.ntmps44
      go_wp2_with fail
      refine (byte_any pc a len cap _ hc).mono ?_
      rintro e w1 ⟨x, hx, rfl, hc1, hg1⟩
      go_wp2_with fail
      refine (byte_any pc a len cap _ hc1).mono ?_
      rintro e w2 ⟨y, hy, rfl, hc2, hg2⟩
      go_wp2_with fail
      refine (byte_any pc a len cap _ hc2).mono ?_
      rintro e w3 ⟨z, hz, rfl, hc3, hg3⟩
      go_wp2_with fail
      refine (byte_any pc a len cap _ hc3).mono ?_
      rintro e w4 ⟨u, hu, rfl, hc4, hg4⟩
      go_wp2
      go_ret
      have hg : w.grownBy w4 (some pc) := ((hg1.trans hg2).trans hg3).trans hg4
      generalize hX : (x : Int) * 16777216 + (y : Int) * 65536 + (z : Int) * 256 + (u : Int) = X
      have hX0 : 0 ≤ X := by omega
      have hm1 := Int.emod_nonneg X (show n ≠ 0 by omega)
      have hm2 := Int.emod_lt_of_pos X (show 0 < n by omega)
      exact ⟨(X % n).toNat, by omega, by omega, by rw [Int.toNat_of_nonneg hm1, ← hX]; rfl, hc4, hg⟩

theorem once_any (n : Int) (pc : Nat) (a : Option Addr) (len cap : Nat) (w : World) (hc : Cur w pc a len cap) (hn : n ≤ 9223372036854775807) :
    Calls Try.prog 53 #[.pointer (some ⟨pc, 0, none⟩), .int .i64 n] w fun e w' => (e = .returned (.bool true) ∨ e = .returned (.bool false)) ∧ Cur w' pc a len cap ∧ w.grownBy w' (some pc) := by
  go_enter Try.func53, Try.ntmps53
  go_wp2_with (go_at_call 44; refine (below_any n pc a len cap _ hc hn).mono ?_; rintro e w1 ⟨x, hx, hx2, rfl, hc1, hg1⟩)
  go_ret
  refine ⟨?_, hc1, hg1⟩
  by_cases h0 : x = 0
  · left; rw [h0]; rfl
  · right
    have : ((x : Int) == 0) = false := beq_eq_false_iff_ne.2 (by omega)
    show Ending.returned (.bool ((x : Int) == 0)) = _
    rw [this]

end Go.Proofs.Ytmlhpjkijpbinab

/- What spec.l01Long hands back. -/
namespace Go.Proofs.Ytmlhpjkijpbinab
open Go.RowKit

theorem Buf.stored {B : Nat} {w0 w : World} {g cap : Nat} {l : List UInt8} (h : Buf B w0 w (.slice (some ⟨g, 0, none⟩) l.length cap) l) (j : Nat) (t : UInt8) :
    Buf B w0 (w.setCell ⟨g, j, none⟩ (.int .u8 (t.toNat : Int))) (.slice (some ⟨g, 0, none⟩) l.length cap) (l.set j t) := by
  have hst := h.own.stored j (.int .u8 (t.toNat : Int))
  have e : bytesV (l.set j t) = (bytesV l).set j (.int .u8 (t.toNat : Int)) := by simp [bytesV, List.map_set]
  refine ⟨?_, h.bel.setCell (h.own.lt g rfl).1 _, by have := h.le; simpa using this⟩
  have hl : (l.set j t).length = l.length := by simp
  rw [hl, e]
  exact hst.1

/-- make([]byte, n). -/
theorem wpList_make_zeros {w : World} {ops : Array Oper} {rest : List Oper} {o : Oper} {a : Act} {Q : Exit → Act → World → Prop} (hg : o.guard = none) (l c : Operand) (hop : o.op = Op.makeSlice 22 l c)
    (kl kc : IntKind) (L C : Int) (n : Nat) (hl : a.eval l = .int kl L) (hc : a.eval c = .int kc C) (hL : L = (n : Int)) (hC : C = (n : Int)) (hn : n ≤ 281474976710656)
    (h : ∀ w' g, Buf w.heap.size w w' (.slice (some ⟨g, 0, none⟩) n n) (List.replicate n 0) → wpList Try.prog ops Q rest (a.put o.dst (.slice (some ⟨g, 0, none⟩) n n)) w') : wpList Try.prog ops Q (o :: rest) a w := by
  obtain ⟨i0, hi, hz0, hz1, hz2⟩ := info_parts Try.info_u8
  refine wpList_make_full w hg l c 22 hop w.heap.size 5 i0 (.int .u8 0) 1 Try.underlying22 hi hz0 hz1 kl kc L C n hl hc hL hC (by rw [hz2]; omega) (by unfold maxLen; omega) (Nat.le_refl _) ?_
  intro w' hown hgrow
  refine h w' w.heap.size ⟨?_, (Below.refl _ _).grown hgrow (Nat.le_refl _) (fun k hk => by cases hk), hgrow.size⟩
  have e : (madeCells (Value.int .u8 0).cells (n * 1)).toList = bytesV (List.replicate n 0) := by
    rw [Nat.mul_one]
    show (madeCells #[Value.int .u8 0] n).toList = _
    rw [toList_madeCells_one]
    simp [bytesV]
  rw [e] at hown
  simpa using hown

def longTo (n k : Nat) (x : UInt8) : List UInt8 := List.replicate k x ++ List.replicate (n - k) 0
theorem longTo_length {n k : Nat} {x : UInt8} (h : k ≤ n) : (longTo n k x).length = n := by simp [longTo]; omega
theorem longTo_set {n k : Nat} {x : UInt8} (h : k < n) : (longTo n k x).set k x = longTo n (k + 1) x := by
  unfold longTo
  rw [List.set_append_right _ _ (by simp)]
  simp only [List.length_replicate, Nat.sub_self]
  rw [show n - k = (n - (k + 1)) + 1 by omega, List.replicate_succ, List.set_cons_zero, List.replicate_succ', List.append_assoc]
  rfl
theorem longTo_all (n : Nat) (x : UInt8) : longTo n n x = List.replicate n x := by simp [longTo]

set_option maxRecDepth 100000 in
set_option maxHeartbeats 1000000 in
theorem long_any (n : Nat) (x : UInt8) (w : World) (hn : n ≤ 1048576) :
    Calls Try.prog 51 #[.int .i64 (n : Int), .int .u8 (x.toNat : Int)] w fun e w' => e = .returned (.string ⟨(List.replicate n x).toArray⟩) ∧ Below w.heap.size w w' := by
  go_enter Try.func51, Try.ntmps51
  go_wp2_with (at_make; refine wpList_make_zeros rfl _ _ rfl .i64 .i64 _ _ n rfl rfl rfl rfl (by omega) ?_; intro w1 g hb1)
  go_loopw [6] (fun iv wr => ∃ k : Nat, k ≤ n ∧ iv = .int .i64 (k : Int) ∧ Buf w.heap.size w wr (.slice (some ⟨g, 0, none⟩) n n) (longTo n k x)) (fun iv _ => n - (intOf iv).toNat)
  case atStart => exact ⟨0, by omega, rfl, by simpa [longTo] using hb1⟩
  case round =>
    obtain ⟨k, hk, rfl, hb⟩ := hrel
    by_cases hlt : k < n
    · have hml := longTo_length (x := x) hk
      have hms : Hid ((longTo n k x).set k x = longTo n (k + 1) x) := longTo_set hlt
      have hbm : Buf w.heap.size w wr (.slice (some ⟨g, 0, none⟩) (longTo n k x).length n) (longTo n k x) := by rw [hml]; exact hb
      have hc1 : wr.cell? ⟨g, k, none⟩ = some (.int .u8 (((longTo n k x)[k]'(by omega)).toNat : Int)) := by
        rw [hbm.own.cellAt k (by omega)]
        simp only [bytesV, List.getElem?_map]
        rw [List.getElem?_eq_getElem (by omega)]
        rfl
      have hf1 : wr.frozen? ⟨g, k, none⟩ = false := hbm.own.frozenAt k
      have hst := hbm.stored k x
      rw [hms.out, hml] at hst
      generalize (longTo n k x)[k]'(by omega) = t at hc1
      clear hml hbm
      go_wp2
      go_roundw
      case rel => exact ⟨k + 1, by omega, by go_num, hst⟩
      case measure => simp [intOf]; omega
    · have hfin : Hid (k = n) := by show k = n; omega
      have hcv := hb.toString
      go_wp2
      go_ret
      exact ⟨by rw [hfin.out, longTo_all]; rfl, hb.bel⟩

end Go.Proofs.Ytmlhpjkijpbinab

/- A cursor made, and what is drawn with it: what spec.l01New, l01Text, l01Long and l01PickInt hand back. -/
namespace Go.Proofs.Ytmlhpjkijpbinab
open Go.RowKit

theorem i64_and30 (n : Int) : bits .and .i64 n 1073741823 = n % 1073741824 := by
  have h1 : (BitVec.ofInt 64 n &&& BitVec.ofInt 64 1073741823).toNat = (BitVec.ofInt 64 n).toNat % 2 ^ 30 := by
    rw [BitVec.toNat_and]
    have e : (BitVec.ofInt 64 1073741823).toNat = 2 ^ 30 - 1 := by decide
    rw [e, Nat.and_two_pow_sub_one_eq_mod]
  show IntKind.i64.wrap ((BitVec.ofInt 64 n &&& BitVec.ofInt 64 1073741823).toNat : Int) = _
  rw [h1, BitVec.toNat_ofInt, IntWalk.i64_in _ ⟨by omega, by omega⟩]
  omega

/-- The bytes of a slice that can be read. -/
def CodeIn (w : World) (a : Option Addr) (len : Nat) : Prop :=
  ∀ j, j < len → ∃ b off : Nat, a = some ⟨b, off, none⟩ ∧ b < w.heap.size ∧ ∃ x : Nat, x < 256 ∧ w.cell? ⟨b, off + j, none⟩ = some (.int .u8 (x : Int))

theorem CodeIn.later {w w' : World} {a : Option Addr} {len : Nat} (h : CodeIn w a len) (hb : Below w.heap.size w w') : CodeIn w' a len := by
  intro j hj
  obtain ⟨b, off, ha, hlt, x, hx, hc⟩ := h j hj
  exact ⟨b, off, ha, Nat.lt_of_lt_of_le hlt hb.size, x, hx, (hb.cell (p := ⟨b, off + j, none⟩) hlt).trans hc⟩

theorem codeIn_of_row {W : World} {x : Addr} {len cap : Nat} {zs : List Int} (hl : len ≤ cap) (hz : zs.length = cap) (hcell : ∀ i, i < zs.length → W.cell? (x.add i) = some (.int .u8 (zs.getD i 0)))
    (hwz : ∀ n ∈ zs, (Lit.int .u8 n).wf = true) : CodeIn W (some x) len := by
  intro j hj
  obtain ⟨b, off, spot⟩ := x
  have hc0 := hcell 0 (by omega)
  have hspot : spot = none := by simpa [Addr.add] using World.cell?_spot hc0
  subst hspot
  have hc := hcell j (by omega)
  have hm : zs.getD j 0 ∈ zs := by
    rw [List.getD_eq_getElem?_getD, List.getElem?_eq_getElem (show j < zs.length by omega)]
    exact List.getElem_mem _
  have hb := bounds_u8 (hwz _ hm)
  have hc2 : W.cell? ⟨b, off + j, none⟩ = some (.int .u8 (zs.getD j 0)) := by rw [Addr.add_lit] at hc; exact hc
  refine ⟨b, off, rfl, World.block_lt_of_cell? W _ hc2, (zs.getD j 0).toNat, by omega, ?_⟩
  rw [hc2, Int.toNat_of_nonneg hb.1]

/-- A new cursor. -/
def NewR (a : Option Addr) (len cap : Nat) (w : World) (e : Ending) (w' : World) : Prop :=
  ∃ pc : Nat, w.heap.size ≤ pc ∧ e = .returned (.pointer (some ⟨pc, 0, none⟩)) ∧ Cur w' pc a len cap ∧ Below w.heap.size w w'

theorem newR_mk {a : Option Addr} {len cap : Nat} {w : World} (hcode : CodeIn w a len) (hs : len ≤ 1048576) (h : Int) (h1 : -9223372036854775808 ≤ h ∧ h ≤ 9223372036854775807) :
    NewR a len cap w (.returned (.pointer (some ⟨w.heap.size, 0, none⟩))) (w.alloc (.cells #[.slice a len cap, .int .i64 0, .int .i64 h] 77)) := by
  have hb : Below w.heap.size w (w.alloc (.cells #[.slice a len cap, .int .i64 0, .int .i64 h] 77)) := (Below.refl _ _).alloc (Nat.le_refl _) _
  refine ⟨w.heap.size, Nat.le_refl _, rfl, ⟨⟨0, h, heap_alloc_new w _, by omega, by omega, h1⟩, ?_, hs⟩, hb⟩
  intro j hj
  obtain ⟨b, off, ha, hlt, x, hx, hc⟩ := hcode j hj
  exact ⟨b, off, ha, by omega, x, hx, (hb.cell (p := ⟨b, off + j, none⟩) hlt).trans hc⟩

set_option maxRecDepth 100000 in
set_option maxHeartbeats 1000000 in
theorem new_any (a : Option Addr) (len cap : Nat) (w : World) (hcode : CodeIn w a len) (hs : len ≤ 1048576) :
    Calls Try.prog 28 #[.slice a len cap] w fun e w' => NewR a len cap w e w' := by
  go_enter Try.func28, Try.ntmps28
  go_wp2
  go_loop [3, 4] (fun hv iv => ∃ (k : Nat) (h : Int), k ≤ len ∧ iv = .int .i64 (k : Int) ∧ hv = .int .i64 h ∧ 0 ≤ h ∧ h ≤ 1073741824) (fun _ iv => len - (intOf iv).toNat)
  case atStart => exact ⟨0, _, by omega, rfl, rfl, by omega, by omega⟩
  case round =>
    obtain ⟨k, h, hk, rfl, rfl, hh0, hh1⟩ := hrel
    by_cases hlt : k < len ∧ k < 4000
    · obtain ⟨h1, h2⟩ := hlt
      obtain ⟨b, off, rfl, hb, x, hx, hc⟩ := hcode k h1
      go_wp2
      rw [i64_and30]
      go_round
      case rel => exact ⟨k + 1, _, by omega, by go_num, rfl, by omega, by omega⟩
      case measure => simp [intOf]; omega
    · by_cases h1 : k < len
      · have h2 : ¬ k < 4000 := fun h => hlt ⟨h1, h⟩
        clear hlt
        go_wp2
        go_ret
        exact newR_mk hcode hs h ⟨by omega, by omega⟩
      · clear hlt
        go_wp2
        go_ret
        exact newR_mk hcode hs h ⟨by omega, by omega⟩

theorem grownBy_below {w w1 w2 : World} {r : Option Nat} {B : Nat} (h : w.grownBy w1 r) (hb : Below B w1 w2) (hB : w.heap.size ≤ B) : w.grownBy w2 r :=
  ⟨hb.os.trans h.os, hb.tape.trans h.tape, hb.output.trans h.output, Nat.le_trans h.size hb.size, fun k hk hne => (hb.block k (Nat.lt_of_lt_of_le hk hB)).trans (h.block k hk hne)⟩

theorem Cur.below {w w' : World} {pc : Nat} {a : Option Addr} {len cap B : Nat} (h : Cur w pc a len cap) (hb : Below B w w') (hp : pc < B) (hcb : ∀ b off, a = some ⟨b, off, none⟩ → 0 < len → b < B) : Cur w' pc a len cap := by
  obtain ⟨i, hh, hblk, h1, h2, h3⟩ := h.blk
  refine ⟨⟨i, hh, (hb.block pc hp).trans hblk, h1, h2, h3⟩, ?_, h.small⟩
  intro j hj
  obtain ⟨b, off, ha, hne, x, hx, hc⟩ := h.code j hj
  exact ⟨b, off, ha, hne, x, hx, (hb.cell (p := ⟨b, off + j, none⟩) (hcb b off ha (by omega))).trans hc⟩

theorem Cur.codeLt {w : World} {pc : Nat} {a : Option Addr} {len cap : Nat} (h : Cur w pc a len cap) : ∀ b off, a = some ⟨b, off, none⟩ → 0 < len → b < w.heap.size := by
  intro b off ha h0
  obtain ⟨b', off', ha', _, x, _, hc⟩ := h.code 0 h0
  rw [ha] at ha'
  have e := Option.some.inj ha'
  injection e with e1 e2
  subst e1
  exact World.block_lt_of_cell? w _ hc

theorem Cur.lt {w : World} {pc : Nat} {a : Option Addr} {len cap : Nat} (h : Cur w pc a len cap) : pc < w.heap.size := by
  obtain ⟨i, hh, hblk, _⟩ := h.blk
  exact lt_of_heap hblk

/-- What is built anew stays where it is while the cursor goes on. -/
theorem Buf.cursor {B : Nat} {w w' : World} {v : Value} {l : List UInt8} {pc : Nat} (h : Buf B w w v l) (hg : w.grownBy w' (some pc)) (hp : pc < B) : Buf B w' w' v l := by
  refine ⟨h.own.kept hg ?_, Below.refl _ _, Nat.le_trans h.le hg.size⟩
  cases hv : v.ownBlock with
  | none => exact .inl rfl
  | some k => exact .inr (by intro e; have := (h.own.lt k hv).1; have := Option.some.inj e; omega)

theorem Buf.here {B : Nat} {w0 w : World} {v : Value} {l : List UInt8} (h : Buf B w0 w v l) : Buf B w w v l := ⟨h.own, Below.refl _ _, h.le⟩

/-- A drawn text. -/
def TextR (n : Int) (pc : Nat) (a : Option Addr) (len cap : Nat) (w : World) (e : Ending) (w' : World) : Prop :=
  ∃ s : ByteArray, s.size ≤ 5000 ∧ ((s.size : Int) = n ∨ (n ≤ 0 ∧ s.size = 0)) ∧ e = .returned (.string s) ∧ Cur w' pc a len cap ∧ w.grownBy w' (some pc)

set_option maxRecDepth 100000 in
set_option maxHeartbeats 1000000 in
theorem dtext_any (n : Int) (pc : Nat) (a : Option Addr) (len cap : Nat) (w : World) (hc : Cur w pc a len cap) (hn : n ≤ 5000) :
    Calls Try.prog 67 #[.pointer (some ⟨pc, 0, none⟩), .int .i64 n] w fun e w' => TextR n pc a len cap w e w' := by
  have hst := Buf.fresh w #[] 0 rfl (by decide)
  have hpc := hc.lt
  have hcl := hc.codeLt
  go_enter Try.func67, Try.ntmps67
  go_wp2
  go_loopw [5, 6] (fun v iv wr => ∃ (k : Nat) (l : List UInt8), (k : Int) ≤ max n 0 ∧ iv = .int .i64 (k : Int) ∧ l.length = k ∧ Buf w.heap.size wr wr v l ∧ Cur wr pc a len cap ∧ w.grownBy wr (some pc)) (fun _ iv _ => (n - intOf iv).toNat)
  case atStart => exact ⟨0, [], by omega, rfl, rfl, hst.here, hc.below hst.bel hpc hcl, grownBy_below (World.grownBy.refl _ _) hst.bel (Nat.le_refl _)⟩
  case round =>
    obtain ⟨k, l, hk, rfl, hlk, hb, hcr, hgr⟩ := hrel
    by_cases hlt : (k : Int) < n
    · go_wp2_with fail
      refine (byte_any pc a len cap _ hcr).mono ?_
      rintro e w1 ⟨x, hx, rfl, hc1, hg1⟩
      have hb1 := hb.cursor hg1 hpc
      obtain ⟨c, hc0⟩ : ∃ c : UInt8, UInt8.ofNat x = c := ⟨_, rfl⟩
      have hcn : Hid (c.toNat = x) := by rw [← hc0, UInt8.toNat_ofNat']; show x % 2 ^ 8 = x; omega
      clear hc0
      go_wp2_with (at_builtin; refine wpList_append_bytes rfl _ _ rfl _ _ l rfl (hb1.alloc _) ⟨w1.heap.size, 0, none⟩ [c] 1 rfl ?c1 ?c2 ?_)
      case c1 => exact one_new _ _ _ (by rw [hcn.out])
      case c2 => simp; omega
      intro v' w2 hb2
      have hcr2 : Cur w2 pc a len cap := hc1.below hb2.bel hpc hcl
      have hgr2 : w.grownBy w2 (some pc) := grownBy_below (hgr.trans hg1) hb2.bel (Nat.le_refl _)
      have hb3 := hb2.here
      clear hb2 hb1 hc1 hg1 hb hcr hgr
      go_wp2
      go_roundw
      case rel => exact ⟨k + 1, l ++ [c], by omega, by go_num, by simp [hlk], hb3, hcr2, hgr2⟩
      case measure => simp [intOf]; omega
    · have hcv := hb.toString
      go_wp2
      go_ret
      have hsz : (ByteArray.mk l.toArray).size = k := by simp [ByteArray.size, hlk]
      exact ⟨⟨l.toArray⟩, by rw [hsz]; omega, by rw [hsz]; omega, rfl, hcr, hgr⟩

/-- One of a list of numbers. -/
def PickR (g n pc : Nat) (a : Option Addr) (len cap : Nat) (w : World) (e : Ending) (w' : World) : Prop :=
  ∃ (j : Nat) (x : Int), j < n ∧ w.cell? ⟨g, j, none⟩ = some (.int .i64 x) ∧ e = .returned (.int .i64 x) ∧ Cur w' pc a len cap ∧ w.grownBy w' (some pc)

set_option maxRecDepth 100000 in
set_option maxHeartbeats 1000000 in
theorem pickInt_any (g n cp pc : Nat) (a : Option Addr) (len cap : Nat) (w : World) (hc : Cur w pc a len cap) (hn : 0 < n) (_hn2 : n ≤ cp) (hn3 : n ≤ 1048576) (hne : g ≠ pc)
    (hcells : ∀ j, j < n → ∃ x : Int, w.cell? ⟨g, j, none⟩ = some (.int .i64 x)) :
    Calls Try.prog 33 #[.pointer (some ⟨pc, 0, none⟩), .slice (some ⟨g, 0, none⟩) n cp] w fun e w' => PickR g n pc a len cap w e w' := by
  have HC : Hid (∀ j, j < n → ∃ x : Int, w.cell? ⟨g, j, none⟩ = some (.int .i64 x)) := hcells
  clear hcells
  go_enter Try.func33, Try.ntmps33
  go_wp2_with fail
  refine (below_any (n : Int) pc a len cap _ hc (by omega)).mono ?_
  rintro e w1 ⟨j, hj, _, rfl, hc1, hg1⟩
  have hj1 : j < n := by have := hj (by omega); omega
  obtain ⟨x, hx⟩ := HC.out j hj1
  have hx1 : w1.cell? ⟨g, j, none⟩ = some (.int .i64 x) := hg1.cell hx (fun e => hne (Option.some.inj e))
  have hj2 : (j : Int) < (n : Int) := by omega
  clear hj
  go_wp2
  go_ret
  exact ⟨j, x, hj1, hx, rfl, hc1, hg1⟩

end Go.Proofs.Ytmlhpjkijpbinab

/- What a list of numbers is that a call builds in memory of its own, and the laws by which it grows, is read and is written. -/
namespace Go.Proofs.Ytmlhpjkijpbinab
open Go.RowKit

theorem Try.info_int : (Try.prog.info? 3).map (fun i => (i.zero, i.size, i.bytes)) = some (some (.int .i64 0), 1, 8) := by kernel_rfl

def intV (l : List Int) : List Value := l.map fun c => .int .i64 c
theorem intV_length (l : List Int) : (intV l).length = l.length := by simp [intV]

/-- The slice v holds the numbers l in memory that the call made itself (blocks from B on); below B all is as it was in w0. -/
structure IBuf (B : Nat) (w0 w : World) (v : Value) (l : List Int) : Prop where
  own : w.ownsRow B 3 1 v l.length (intV l)
  bel : Below B w0 w
  le : B ≤ w.heap.size

theorem IBuf.alloc {B : Nat} {w0 w : World} {v : Value} {l : List Int} (h : IBuf B w0 w v l) (o : Obj) : IBuf B w0 (w.alloc o) v l :=
  ⟨h.own.alloc o, h.bel.alloc h.le o, by have := h.le; simp; omega⟩
theorem IBuf.drew {B : Nat} {w0 w : World} {v : Value} {l : List Int} (h : IBuf B w0 w v l) : IBuf B w0 w.drew v l :=
  ⟨h.own.drew, h.bel.drew, h.le⟩
theorem IBuf.fresh (w : World) : IBuf w.heap.size w (w.alloc (.cells #[] 3)) (.slice (some ⟨w.heap.size, 0, none⟩) 0 0) [] :=
  ⟨World.ownsRow_made w #[] 0 (Nat.le_refl _) (by decide) rfl, (Below.refl _ _).alloc (Nat.le_refl _) _, by simp⟩

/-- What is laid behind the heap's end, and nothing else, leaves the numbers where they are. -/
theorem IBuf.later {B : Nat} {w0 w w' : World} {v : Value} {l : List Int} (h : IBuf B w0 w v l) (hb : Below w.heap.size w w') : IBuf B w0 w' v l := by
  have hg : w.grownBy w' none := ⟨hb.os, hb.tape, hb.output, hb.size, fun k hk _ => hb.block k hk⟩
  refine ⟨h.own.kept hg ?_, h.bel.trans (hb.mono h.le), Nat.le_trans h.le hb.size⟩
  cases hv : v.ownBlock with
  | none => exact .inl rfl
  | some k => exact .inr (by simp)

theorem wpList_append_int {w0 w : World} {ops : Array Oper} {rest : List Oper} {o : Oper} {a : Act} {Q : Exit → Act → World → Prop} (hgd : o.guard = none) (s x : Operand)
    (ho : o.op = .call { callee := .builtin .append, args := #[s, x], argTypes := #[41, 41] })
    (B : Nat) (v : Value) (l : List Int) (hs : a.eval s = v) (hb : IBuf B w0 w v l)
    (ad : Addr) (t : Int) (hx : a.eval x = .slice (some ad) 1 1)
    (hnews : ∀ j u, [Value.int .i64 t][j]? = some u → w.cell? (ad.add j) = some u)
    (hlen : l.length + 1 ≤ 8796093022208)
    (h : ∀ v' w', IBuf B w0 w' v' (l ++ [t]) → wpList Try.prog ops Q rest (a.put o.dst v') w') : wpList Try.prog ops Q (o :: rest) a w := by
  obtain ⟨i0, hi, hz0, hz1, hz2⟩ := info_parts Try.info_int
  refine wpList_append_own _ hgd s x 41 ho B 3 i0 (.int .i64 0) 1 8 Try.underlying41 hi hz0 hz1 hz2 rfl (by decide) v l.length (intV l) hs hb.own ad 1 1 [.int .i64 t] hx (by simp) hnews ?_ (by unfold maxLen; omega) (by omega) hb.le ?_
  · intro u hu
    simp at hu
    subst hu
    rfl
  · intro v' w' hown hgrow _
    refine h v' w' ⟨?_, hb.bel.grown hgrow hb.le (fun k hk => (hb.own.lt k hk).1), Nat.le_trans hb.le hgrow.size⟩
    have e1 : (l ++ [t]).length = l.length + 1 := by simp
    have e2 : intV (l ++ [t]) = intV l ++ [.int .i64 t] := by simp [intV]
    rw [e1, e2]
    exact hown

theorem IBuf.form {B : Nat} {w0 w : World} {v : Value} {l : List Int} (h : IBuf B w0 w v l) : ∃ (a : Option Addr) (cap : Nat), v = .slice a l.length cap := by
  rcases h.own.2 with ⟨rfl, h0⟩ | ⟨g, cap, cur, rfl, _⟩
  · exact ⟨none, 0, by rw [h0]⟩
  · exact ⟨_, _, rfl⟩

/-- Numbers that can be read: each in its cell of a row; nothing where there is none. -/
def Ints (w : World) (v : Value) (l : List Int) : Prop :=
  (l = [] ∧ ∃ (a : Option Addr) (cap : Nat), v = .slice a 0 cap) ∨
  ∃ g cap : Nat, v = .slice (some ⟨g, 0, none⟩) l.length cap ∧ l.length ≤ cap ∧ g < w.heap.size ∧ ∀ j b, l[j]? = some b → w.cell? ⟨g, j, none⟩ = some (.int .i64 b)

theorem IBuf.ints {B : Nat} {w0 w : World} {v : Value} {l : List Int} (h : IBuf B w0 w v l) : Ints w v l := by
  rcases h.own.2 with ⟨rfl, h0⟩ | ⟨g, cap, cur, rfl, hg, hh, hnc, hcp, hcs, htake⟩
  · exact .inl ⟨List.length_eq_zero_iff.1 h0, _, _, rfl⟩
  · refine .inr ⟨g, cap, rfl, hnc, (h.own.lt g rfl).2, fun j b hj => ?_⟩
    have hlt : j < l.length := (List.getElem?_eq_some_iff.1 hj).1
    rw [h.own.cellAt j (by omega)]
    simp [intV, hj]

theorem Ints.later {w w' : World} {v : Value} {l : List Int} (h : Ints w v l) (hb : Below w.heap.size w w') : Ints w' v l := by
  rcases h with h | ⟨g, cap, hv, hc, hg, hcl⟩
  · exact .inl h
  · exact .inr ⟨g, cap, hv, hc, Nat.lt_of_lt_of_le hg hb.size, fun j b hj => (hb.cell (p := ⟨g, j, none⟩) hg).trans (hcl j b hj)⟩

/-- A store into the row. -/
theorem IBuf.stored {B : Nat} {w0 w : World} {g cap : Nat} {l : List Int} (h : IBuf B w0 w (.slice (some ⟨g, 0, none⟩) l.length cap) l) (j : Nat) (t : Int) :
    IBuf B w0 (w.setCell ⟨g, j, none⟩ (.int .i64 t)) (.slice (some ⟨g, 0, none⟩) l.length cap) (l.set j t) := by
  have hst := h.own.stored j (.int .i64 t)
  have e : intV (l.set j t) = (intV l).set j (.int .i64 t) := by simp [intV, List.map_set]
  refine ⟨?_, h.bel.setCell (h.own.lt g rfl).1 _, by have := h.le; simpa using this⟩
  have hl : (l.set j t).length = l.length := by simp
  rw [hl, e]
  exact hst.1

theorem IBuf.under {w0 w1 w : World} {v : Value} {l : List Int} (hb : Below w0.heap.size w0 w1) (h : IBuf w1.heap.size w1 w v l) : IBuf w0.heap.size w0 w v l := by
  refine ⟨⟨h.own.1, ?_⟩, hb.trans (h.bel.mono hb.size), Nat.le_trans hb.size h.le⟩
  rcases h.own.2 with h1 | ⟨g, cap, cur, h1, h2, h3⟩
  · exact .inl h1
  · exact .inr ⟨g, cap, cur, h1, Nat.le_trans hb.size h2, h3⟩

end Go.Proofs.Ytmlhpjkijpbinab

/- The drawn places: twelve numbers, each in 0 .. 9999, in a list of the call's own. -/
namespace Go.Proofs.Ytmlhpjkijpbinab
open Go.RowKit

theorem IBuf.cursor {B : Nat} {w w' : World} {v : Value} {l : List Int} {pc : Nat} (h : IBuf B w w v l) (hg : w.grownBy w' (some pc)) (hp : pc < B) : IBuf B w' w' v l := by
  refine ⟨h.own.kept hg ?_, Below.refl _ _, Nat.le_trans h.le hg.size⟩
  cases hv : v.ownBlock with
  | none => exact .inl rfl
  | some k => exact .inr (by intro e; have := (h.own.lt k hv).1; have := Option.some.inj e; omega)

theorem IBuf.here {B : Nat} {w0 w : World} {v : Value} {l : List Int} (h : IBuf B w0 w v l) : IBuf B w w v l := ⟨h.own, Below.refl _ _, h.le⟩

theorem IBuf.down {B0 B : Nat} {w0 w1 w : World} {v : Value} {l : List Int} (h : IBuf B w1 w v l) (hb : Below B0 w0 w) (hB : B0 ≤ B) : IBuf B0 w0 w v l := by
  refine ⟨⟨h.own.1, ?_⟩, hb, Nat.le_trans hB h.le⟩
  rcases h.own.2 with h1 | ⟨g, cap, cur, h1, h2, h3⟩
  · exact .inl h1
  · exact .inr ⟨g, cap, cur, h1, Nat.le_trans hB h2, h3⟩

theorem one_int (w : World) (x : Int) : ∀ j u, [Value.int .i64 x][j]? = some u → (w.alloc (.cells #[.int .i64 x] 3)).cell? ((⟨w.heap.size, 0, none⟩ : Addr).add j) = some u := by
  intro j u hj
  match j, hj with
  | 0, hj => simp at hj; subst hj; simp [Addr.add]
  | j + 1, hj => simp at hj

theorem below_of_new' {w w1 w2 : World} {pc : Nat} (hb : Below w.heap.size w w1) (hp : w.heap.size ≤ pc) (hg : w1.grownBy w2 (some pc)) : Below w.heap.size w w2 :=
  hb.grown hg hb.size (fun k hk => by have := Option.some.inj hk; omega)

/-- The drawn places. -/
def PlacesR (w : World) (e : Ending) (w' : World) : Prop :=
  ∃ (l : List Int) (v : Value), l.length = 12 ∧ (∀ z ∈ l, 0 ≤ z ∧ z < 10000) ∧ e = .returned v ∧ IBuf w.heap.size w w' v l

set_option maxRecDepth 100000 in
set_option maxHeartbeats 1000000 in
theorem drawPlaces_any (a : Option Addr) (len cap : Nat) (w : World) (hcode : CodeIn w a len) (hs : len ≤ 1048576) :
    Calls Try.prog 20 #[.slice a len cap] w fun e w' => PlacesR w e w' := by
  go_enter Try.func20, Try.ntmps20
  go_wp2_with fail
  refine (new_any a len cap _ hcode hs).mono ?_
  rintro e w1 ⟨pc, hp, rfl, hc1, hb1⟩
  go_wp2_with fail
  refine (byte_any pc a len cap _ hc1).mono ?_
  rintro e w2 ⟨x, hx, rfl, hc2, hg2⟩
  have hb2 := below_of_new' hb1 hp hg2
  have hst := IBuf.fresh w2
  have hpc := hc2.lt
  have hcl := hc2.codeLt
  go_wp2
  go_loopw [4, 5] (fun v iv wr => ∃ (k : Nat) (l : List Int), k ≤ 12 ∧ iv = .int .i64 (k : Int) ∧ l.length = k ∧ (∀ z ∈ l, 0 ≤ z ∧ z < 10000) ∧ IBuf w2.heap.size wr wr v l ∧ Cur wr pc a len cap ∧ Below w.heap.size w wr) (fun _ iv _ => (12 - intOf iv).toNat)
  case atStart => exact ⟨0, [], by omega, rfl, rfl, by simp, hst.here, hc2.below hst.bel hpc hcl, hb2.trans (hst.bel.mono hb2.size)⟩
  case round =>
    obtain ⟨k, l, hk, rfl, hlk, hlz, hb, hcr, hgr⟩ := hrel
    by_cases hlt : k < 12
    · go_wp2_with fail
      refine (below_any 10000 pc a len cap _ hcr (by omega)).mono ?_
      rintro e w3 ⟨y, hy, _, rfl, hc3, hg3⟩
      have hy2 := hy (by omega)
      have hb3 := hb.cursor hg3 hpc
      have hgr3 := below_of_new' hgr hp hg3
      clear hy hb hcr hgr hg3
      go_wp2_with (at_builtin; refine wpList_append_int rfl _ _ rfl _ _ l rfl (hb3.alloc _) ⟨w3.heap.size, 0, none⟩ (y : Int) rfl ?c1 ?c2 ?_)
      case c1 => exact one_int _ _
      case c2 => omega
      intro v' w4 hb4
      have hcr4 : Cur w4 pc a len cap := hc3.below hb4.bel hpc (fun b off h1 h2 => hcl b off h1 h2)
      have hgr4 : Below w.heap.size w w4 := hgr3.trans (hb4.bel.mono hb2.size)
      have hb5 := hb4.here
      clear hb4 hb3 hc3 hgr3
      go_wp2
      go_roundw
      case rel => exact ⟨k + 1, l ++ [(y : Int)], by omega, by go_num, by simp [hlk], fun z hz => by
        rcases List.mem_append.1 hz with h | h
        · exact hlz z h
        · simp at h; omega, hb5, hcr4, hgr4⟩
      case measure => simp [intOf]; omega
    · obtain rfl : k = 12 := by omega
      go_wp2
      go_ret
      exact ⟨l, _, hlk, hlz, rfl, hb.down hgr hb2.size⟩

end Go.Proofs.Ytmlhpjkijpbinab

/- Plain facts on decimal figures, with no program in them. -/
namespace Go.Proofs.Ytmlhpjkijpbinab

def figD (x : Nat) : UInt8 := UInt8.ofNat (48 + x)
theorem figD_toNat {x : Nat} (h : x < 10) : (figD x).toNat = 48 + x := by
  rw [figD, UInt8.toNat_ofNat']; omega

/-- The figures of a number that is not 0; nothing of 0. -/
def digsF : Nat → Nat → List UInt8
  | 0, _ => []
  | f + 1, n => if n = 0 then [] else digsF f (n / 10) ++ [figD (n % 10)]
def digs (n : Nat) : List UInt8 := digsF n n
/-- The figures of a number. -/
def dec (n : Nat) : List UInt8 := if n = 0 then [48] else digs n

theorem digsF_more : ∀ (f g n : Nat), n ≤ f → n ≤ g → digsF f n = digsF g n := by
  intro f
  induction f with
  | zero => intro g n hf hg; obtain rfl : n = 0 := by omega
            cases g <;> simp [digsF]
  | succ f ih =>
    intro g n hf hg
    cases g with
    | zero => obtain rfl : n = 0 := by omega
              simp [digsF]
    | succ g =>
      simp only [digsF]
      split
      · rfl
      · rw [ih g (n / 10) (by omega) (by omega)]

theorem digs_zero : digs 0 = [] := rfl
theorem digs_step {n : Nat} (h : n ≠ 0) : digs n = digs (n / 10) ++ [figD (n % 10)] := by
  unfold digs
  cases n with
  | zero => omega
  | succ n => rw [digsF, if_neg h, digsF_more n ((n + 1) / 10) ((n + 1) / 10) (by omega) (Nat.le_refl _)]

theorem digsF_len : ∀ (f n : Nat), (digsF f n).length ≤ f := by
  intro f
  induction f with
  | zero => intro n; simp [digsF]
  | succ f ih =>
    intro n
    simp only [digsF]
    split
    · simp
    · have := ih (n / 10); simp; omega
theorem digs_len (n : Nat) : (digs n).length ≤ n := digsF_len n n

theorem digs_push {m n : Nat} {acc : List UInt8} (h : digs m ++ acc = digs n) (hm : m ≠ 0) : digs (m / 10) ++ (figD (m % 10) :: acc) = digs n := by
  rw [← h, digs_step hm]; simp

/-- The number that figures tell. -/
def val (l : List UInt8) : Nat := l.foldl (fun a c => 10 * a + (c.toNat - 48)) 0
theorem val_snoc (l : List UInt8) (c : UInt8) : val (l ++ [c]) = 10 * val l + (c.toNat - 48) := by simp [val]
theorem val_nil : val [] = 0 := rfl

def allDig (l : List UInt8) : Prop := ∀ c ∈ l, 48 ≤ c.toNat ∧ c.toNat ≤ 57

theorem val_lt : ∀ (n : Nat) (l : List UInt8), l.length = n → allDig l → val l < 10 ^ n := by
  intro n
  induction n with
  | zero => intro l h _; obtain rfl := List.length_eq_zero_iff.1 h; simp [val]
  | succ n ih =>
    intro l h ha
    rcases List.eq_nil_or_concat l with rfl | ⟨init, c, rfl⟩
    · simp at h
    · have h1 := ih init (by simp at h; omega) (fun x hx => ha x (by simp [hx]))
      have h2 := ha c (by simp)
      rw [List.concat_eq_append, val_snoc, Nat.pow_succ]
      omega

theorem figD_back {c : UInt8} (h : 48 ≤ c.toNat ∧ c.toNat ≤ 57) : figD (c.toNat - 48) = c := by
  apply UInt8.toNat_inj.1
  rw [figD_toNat (by omega)]; omega

theorem digs_val : ∀ (n : Nat) (l : List UInt8), l.length = n → allDig l → l ≠ [] → l.head? ≠ some 48 → digs (val l) = l ∧ 0 < val l := by
  intro n
  induction n with
  | zero => intro l h _ hne; exact absurd (List.length_eq_zero_iff.1 h) hne
  | succ n ih =>
    intro l h ha hne hh
    rcases List.eq_nil_or_concat l with rfl | ⟨init, c, rfl⟩
    · exact absurd rfl hne
    · rw [List.concat_eq_append] at *
      have hc := ha c (by simp)
      rw [val_snoc]
      by_cases hi : init = []
      · subst hi
        have h48 : c.toNat ≠ 48 := by
          intro e
          apply hh
          simp
          apply UInt8.toNat_inj.1
          rw [e]; rfl
        rw [val_nil]
        have hp : 10 * 0 + (c.toNat - 48) ≠ 0 := by omega
        refine ⟨?_, by omega⟩
        rw [digs_step hp, show (10 * 0 + (c.toNat - 48)) / 10 = 0 by omega, digs_zero, show (10 * 0 + (c.toNat - 48)) % 10 = c.toNat - 48 by omega, figD_back hc]
      · have hh2 : init.head? ≠ some 48 := by
          intro e
          apply hh
          rw [List.head?_append, e]; rfl
        obtain ⟨h1, h2⟩ := ih init (by simp at h; omega) (fun x hx => ha x (by simp [hx])) hi hh2
        refine ⟨?_, by omega⟩
        rw [digs_step (by omega), show (10 * val init + (c.toNat - 48)) / 10 = val init by omega, h1, show (10 * val init + (c.toNat - 48)) % 10 = c.toNat - 48 by omega, figD_back hc]

theorem digs_head : ∀ (n m : Nat), m ≤ n → m ≠ 0 → (digs m).head? ≠ some 48 ∧ digs m ≠ [] := by
  intro n
  induction n with
  | zero => intro m h1 h2; omega
  | succ n ih =>
    intro m h1 h2
    rw [digs_step h2]
    by_cases h3 : m / 10 = 0
    · rw [h3, digs_zero]
      refine ⟨?_, by simp⟩
      intro e
      simp at e
      have := congrArg UInt8.toNat e
      rw [figD_toNat (by omega)] at this
      have h48 : (48 : UInt8).toNat = 48 := rfl
      omega
    · obtain ⟨a1, a2⟩ := ih (m / 10) (by omega) h3
      refine ⟨?_, by simp⟩
      cases hd : digs (m / 10) with
      | nil => exact absurd hd a2
      | cons x xs => rw [hd] at a1; simpa using a1

/-- A text of figures is the figures of its number, just when it opens with no needless nought. -/
theorem dec_val {l : List UInt8} (ha : allDig l) (hne : l ≠ []) : dec (val l) = l ↔ (l.head? ≠ some 48 ∨ l.length = 1) := by
  constructor
  · intro h
    by_cases hz : val l = 0
    · rw [dec, if_pos hz] at h
      right; rw [← h]; rfl
    · left
      rw [dec, if_neg hz] at h
      have := (digs_head _ _ (Nat.le_refl _) hz).1
      rw [h] at this
      exact this
  · intro h
    by_cases hh : l.head? = some 48
    · rcases h with h | h
      · exact absurd hh h
      · match l, h, hh with
        | [c], _, hh => simp at hh; subst hh; rfl
    · obtain ⟨h1, h2⟩ := digs_val _ l rfl ha hne hh
      rw [dec, if_neg (by omega), h1]

theorem dec_nil : dec (val []) ≠ [] := by decide

theorem digs_len_half : ∀ (n m : Nat), m ≤ n → (digs m).length ≤ m / 2 + 1 := by
  intro n
  induction n with
  | zero => intro m h; obtain rfl : m = 0 := by omega
            simp [digs_zero]
  | succ n ih =>
    intro m h
    by_cases h0 : m = 0
    · subst h0; simp [digs_zero]
    · rw [digs_step h0]
      by_cases h1 : m / 10 = 0
      · rw [h1, digs_zero]; simp
      · have := ih (m / 10) (by omega)
        simp; omega

theorem digs_len_half2 (n : Nat) : (digs n).length ≤ n / 2 + 1 := digs_len_half n n (Nat.le_refl _)

end Go.Proofs.Ytmlhpjkijpbinab

/- Plain facts on hexadecimal figures, with no program in them. -/
namespace Go.Proofs.Ytmlhpjkijpbinab

/-- A figure, of a number below 16. -/
def fig (x : Nat) : UInt8 := if x < 10 then UInt8.ofNat (48 + x) else UInt8.ofNat (87 + x)

theorem fig_toNat {x : Nat} (h : x < 16) : (fig x).toNat = if x < 10 then 48 + x else 87 + x := by
  unfold fig
  split <;> (rw [UInt8.toNat_ofNat']; omega)

/-- Two figures for each byte, the higher half first. -/
def hexOf (l : List UInt8) : List UInt8 := l.flatMap fun c => [fig (c.toNat / 16), fig (c.toNat % 16)]

theorem hexOf_length (l : List UInt8) : (hexOf l).length = 2 * l.length := by
  induction l with
  | nil => rfl
  | cons c l ih => simp only [hexOf, List.flatMap_cons, List.length_append, List.length_cons, List.length_nil] at ih ⊢; omega

theorem hexOf_take {l : List UInt8} {k : Nat} (h : k < l.length) : hexOf (l.take (k + 1)) = hexOf (l.take k) ++ [fig (l[k].toNat / 16), fig (l[k].toNat % 16)] := by
  rw [List.take_succ_eq_append_getElem h, hexOf, List.flatMap_append]
  rfl

/-- The figure as it stands in the sixteen figures. -/
theorem figure_at : ∀ x, x < 16 → (⟨#[48, 49, 50, 51, 52, 53, 54, 55, 56, 57, 97, 98, 99, 100, 101, 102]⟩ : ByteArray)[x]? = some (fig x) := by
  decide +kernel

end Go.Proofs.Ytmlhpjkijpbinab

/- One figure: what spec.l01Figure hands back. -/
namespace Go.Proofs.Ytmlhpjkijpbinab
open Go.RowKit



end Go.Proofs.Ytmlhpjkijpbinab

/- The figures of a number: what spec.Decimal hands back. -/
namespace Go.Proofs.Ytmlhpjkijpbinab
open Go.RowKit

theorem fig_figD {x : Nat} (h : x < 10) : fig x = figD x := by
  rw [fig, if_pos h, figD]

theorem one_string (w : World) (X : Int) (b : UInt8) (h : X = (b.toNat : Int)) :
    (convert 22 9 (.slice (some ⟨w.heap.size, 0, none⟩) 1 1)).run Try.prog (w.alloc (.cells #[.int .u8 X] 5)) = .ok (.string ⟨[b].toArray⟩) (w.alloc (.cells #[.int .u8 X] 5)) := by
  subst h
  refine run_convert_bytes_back (P := Try.prog) _ 22 9 5 ⟨w.heap.size, 0, none⟩ 1 [b] Try.underlying22 Try.underlying5 Try.underlying9 fun j hj => ?_
  have hj0 : j = 0 := by simpa using hj
  subst hj0
  simp [Addr.add]

theorem string_push (b : UInt8) (acc : List UInt8) (h : acc.length + 1 ≤ 9223372036854775807) (wx : World) :
    (Op.stringOp .add ⟨[b].toArray⟩ ⟨acc.toArray⟩).run Try.prog wx = .ok (.string ⟨(b :: acc).toArray⟩) wx := by
  rw [run_string_add_sum (P := Try.prog) (w := wx) ⟨[b].toArray⟩ ⟨acc.toArray⟩ (by simp [ByteArray.size]; omega), ByteArray.mk_append_mk]
  rfl


end Go.Proofs.Ytmlhpjkijpbinab
