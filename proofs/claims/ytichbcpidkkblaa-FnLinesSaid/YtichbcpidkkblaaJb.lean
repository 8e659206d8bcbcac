/- Texts of our own, joined. -/
import Derived.Test.YtichbcpidkkblaaJa
import Derived.Maps.AppendAt
import Derived.Lib.ConvBytes
import Derived.Lib.Buffer
import Derived.Lib.SmallJoins
import Derived.Laws.Concat
import Derived.Lib.Hide
import Derived.Deep.RegionHeld3
import Derived.Deep.RegionLaw
import Derived.Deep.QuietTactic
import Derived.BigQuiet
import Derived.Conc.LoneCalls
import Derived.Deep.Cut
import Derived.Conc.SmallLaws
import Derived.WalkSmall
/- Appends to a list of bytes beside other memory of the call's own: what else lies there stays; inside a region that draws its order too; and the bytes of a string laid in a row of their own. -/
namespace Go.Proofs.Ytichbcpidkkblaa
open Go.RowKit

/-- Behind an append from v to v': v' lies where v lay, or in a new block; every other block is as it was. -/
structure Keeps (w w' : World) (v v' : Value) : Prop where
  place : v'.ownBlock = v.ownBlock ∨ v'.ownBlock = some w.heap.size
  other : ∀ g, g < w.heap.size → some g ≠ v.ownBlock → w'.heap[g]? = w.heap[g]?
  size : w.heap.size ≤ w'.heap.size

theorem Keeps.block {w w' : World} {v v' : Value} (h : Keeps w w' v v') {g : Nat} {o : Obj} (hg : w.heap[g]? = some o) (ha : v.ownBlock ≠ some g) : w'.heap[g]? = some o ∧ v'.ownBlock ≠ some g := by
  have hlt : g < w.heap.size := by
    by_cases hh : g < w.heap.size
    · exact hh
    · rw [Array.getElem?_eq_none (by omega)] at hg; cases hg
  refine ⟨(h.other g hlt (Ne.symm ha)).trans hg, ?_⟩
  rcases h.place with e | e
  · rw [e]; exact ha
  · rw [e]; intro e2; have := Option.some.inj e2; omega

theorem heap_drew (w : World) (g : Nat) : (w.drew).heap[g]? = w.heap[g]? := rfl
theorem heap_alloc_some {w : World} {g : Nat} {o : Obj} (h : w.heap[g]? = some o) (x : Obj) : (w.alloc x).heap[g]? = some o := by
  have hlt : g < w.heap.size := by
    by_cases hh : g < w.heap.size
    · exact hh
    · rw [Array.getElem?_eq_none (by omega)] at h; cases h
  rw [Below.heap_alloc w x g hlt, h]

theorem run_append_bytes {w0 w : World} (ty : TypeId) (B : Nat) (v : Value) (l : List UInt8) (hb : Buf B w0 w v l)
    (ad : Addr) (news : List UInt8) (c : Nat) (hnews : ∀ j u, (bytesV news)[j]? = some u → w.cell? (ad.add j) = some u)
    (hlen : l.length + news.length ≤ 140737488355328) :
    ∃ v' w', (Builtin.append_ #[22, 22] ty #[v, .slice (some ad) news.length c]).run Try.prog w = .ok v' w' ∧ Buf B w0 w' v' (l ++ news) ∧ Keeps w w' v v' := by
  obtain ⟨i0, hi, hz0, hz1, hz2⟩ := info_parts Try.info_u8
  obtain ⟨v', w', h1, h2, h3, _, h5⟩ := run_append_own_at (P := Try.prog) w B 22 ty 5 i0 (.int .u8 0) 1 1 Try.underlying22 hi hz0 hz1 hz2 rfl (by decide) v l.length (bytesV l) hb.own ad news.length c (bytesV news) (by simp [bytesV]) hnews
    (by intro u hu; simp only [bytesV, List.mem_map] at hu; obtain ⟨c, _, rfl⟩ := hu; rfl) (by unfold maxLen; omega) (by omega) hb.le
  have e1 : (l ++ news).length = l.length + news.length := by simp
  have e2 : bytesV (l ++ news) = bytesV l ++ bytesV news := by simp [bytesV]
  exact ⟨v', w', h1, ⟨by rw [e1, e2]; exact h2, hb.bel.grown h3 hb.le (fun k hk => (hb.own.lt k hk).1), Nat.le_trans hb.le h3.size⟩, ⟨h5, fun g hg hne => h3.block g hg hne, h3.size⟩⟩

theorem wp_append_bytes {w0 w : World} {o : Oper} {a : Act} {K : Act → World → Prop} {Q : Exit → Act → World → Prop} (s x : Operand)
    (ho : o.op = .call { callee := .builtin .append, args := #[s, x], argTypes := #[22, 22] })
    (B : Nat) (v : Value) (l : List UInt8) (hs : a.eval s = v) (hb : Buf B w0 w v l)
    (ad : Addr) (news : List UInt8) (c : Nat) (hx : a.eval x = .slice (some ad) news.length c)
    (hnews : ∀ j u, (bytesV news)[j]? = some u → w.cell? (ad.add j) = some u)
    (hlen : l.length + news.length ≤ 140737488355328)
    (h : ∀ v' w', Buf B w0 w' v' (l ++ news) → Keeps w w' v v' → K (a.put o.dst v') w') : o.wp Try.prog a w K Q := by
  obtain ⟨v', w', hr, h2, h3⟩ := run_append_bytes o.type B v l hb ad news c hnews hlen
  unfold Oper.wp execOp
  simp only [ho, resolve, invoke, builtin, Sem.run_bind, Sem.run_pure, Result.andThen_ok, List.map_toArray, List.map_cons, List.map_nil, hs, hx, hr]
  exact h v' w' h2 h3

/-- The same at a list of operations that goes in its own order. -/
theorem wpList_append_kept {w0 w : World} {ops : Array Oper} {rest : List Oper} {o : Oper} {a : Act} {Q : Exit → Act → World → Prop} (hgd : o.guard = none) (s x : Operand)
    (ho : o.op = .call { callee := .builtin .append, args := #[s, x], argTypes := #[22, 22] })
    (B : Nat) (v : Value) (l : List UInt8) (hs : a.eval s = v) (hb : Buf B w0 w v l)
    (ad : Addr) (news : List UInt8) (c : Nat) (hx : a.eval x = .slice (some ad) news.length c)
    (hnews : ∀ j u, (bytesV news)[j]? = some u → w.cell? (ad.add j) = some u)
    (hlen : l.length + news.length ≤ 140737488355328)
    (h : ∀ v' w', Buf B w0 w' v' (l ++ news) → Keeps w w' v v' → wpList Try.prog ops Q rest (a.put o.dst v') w') : wpList Try.prog ops Q (o :: rest) a w :=
  wpList_plain hgd fun _ hK => wp_append_bytes s x ho B v l hs hb ad news c hx hnews hlen fun v' w' h2 h3 => hK _ _ (h v' w' h2 h3)

/-- The same at a step of a region that draws its order. -/
theorem step_append_bytes {w0 w : World} {ops : Array Oper} {o : Oper} {a : Act} {K : Act → World → Prop} {Q : Exit → Act → World → Prop} {E : Prop} (hgd : o.guard = none) (s x : Operand)
    (ho : o.op = .call { callee := .builtin .append, args := #[s, x], argTypes := #[22, 22] })
    (B : Nat) (v : Value) (l : List UInt8) (hs : a.eval s = v) (hb : Buf B w0 w v l)
    (ad : Addr) (news : List UInt8) (c : Nat) (hx : a.eval x = .slice (some ad) news.length c)
    (hnews : ∀ j u, (bytesV news)[j]? = some u → w.cell? (ad.add j) = some u)
    (hlen : l.length + news.length ≤ 140737488355328)
    (h : ∀ v' w', Buf B w0 w' v' (l ++ news) → Keeps w w' v v' → K (a.put o.dst v') w') :
    if Region.wanted o (yielded ops a.tmps) = true then Oper.wp Try.prog o a w K Q else E := by
  have hw : Region.wanted o (yielded ops a.tmps) = true := by simp [Region.wanted, hgd]
  rw [if_pos hw]
  exact wp_append_bytes s x ho B v l hs hb ad news c hx hnews hlen h

/-- Two cells of a new block, as an append asks for them; behind a draw. -/
theorem two_new (w : World) (x y : Int) (b c : UInt8) (hx : x = (b.toNat : Int)) (hy : y = (c.toNat : Int)) :
    ∀ j u, (bytesV [b, c])[j]? = some u → ((w.alloc (.cells #[.int .u8 x, .int .u8 y] 5)).drew).cell? ((⟨w.heap.size, 0, none⟩ : Addr).add j) = some u := by
  subst hx hy
  intro j u hj
  match j, hj with
  | 0, hj => simp [bytesV] at hj; subst hj; simp [Addr.add]
  | 1, hj => simp [bytesV] at hj; subst hj; simp [Addr.add]
  | j + 2, hj => simp [bytesV] at hj

/-- The row that []byte(s) lays: its block is there, whatever is laid behind it. -/
theorem bytes_block (w : World) (s : ByteArray) : ∃ o : Obj, (Lib.bytesWorld w 5 s).heap[w.heap.size]? = some o ∧
    ∀ wx : World, wx.heap[w.heap.size]? = some o → ∀ j (hj : j < s.size), wx.cell? ⟨w.heap.size, j, none⟩ = some (.int .u8 (s[j].toNat : Int)) := by
  refine ⟨_, Lib.bytesWorld_at_new w 5 s, fun wx hx j hj => ?_⟩
  have h1 := Lib.bytesWorld_cell w 5 s j hj
  rw [World.cell?_of_block (w := Lib.bytesWorld w 5 s) (a := ⟨w.heap.size, j, none⟩) (by rw [hx, Lib.bytesWorld_at_new]), h1]
  have : s.data.toList.getD j 0 = s[j] := by
    rw [List.getD_eq_getElem?_getD, List.getElem?_eq_getElem (by simpa using hj)]; rfl
  rw [this]

theorem Buf.bytesWorld {B : Nat} {w0 w : World} {v : Value} {l : List UInt8} (h : Buf B w0 w v l) (s : ByteArray) : Buf B w0 (Lib.bytesWorld w 5 s) v l := by
  have hg : w.grownBy (Lib.bytesWorld w 5 s) none := ⟨rfl, rfl, rfl, by rw [Lib.bytesWorld_size]; omega, fun k hk _ => Lib.bytesWorld_at_old w 5 s k hk⟩
  refine ⟨h.own.kept hg ?_, h.bel.grown hg h.le (fun k hk => by cases hk), Nat.le_trans h.le hg.size⟩
  cases hv : v.ownBlock with
  | none => exact .inl rfl
  | some k => exact .inr (by simp)

/-- make([]byte, 0, n). -/
theorem wpList_make_bytes {w : World} {ops : Array Oper} {rest : List Oper} {o : Oper} {a : Act} {Q : Exit → Act → World → Prop} (hg : o.guard = none) (l c : Operand) (hop : o.op = Op.makeSlice 22 l c)
    (kl kc : IntKind) (C : Int) (n : Nat) (hl : a.eval l = .int kl 0) (hc : a.eval c = .int kc C) (hC : C = (n : Int)) (hn : n ≤ 281474976710656)
    (h : ∀ w' g, Buf w.heap.size w w' (.slice (some ⟨g, 0, none⟩) 0 n) [] → g < w'.heap.size → wpList Try.prog ops Q rest (a.put o.dst (.slice (some ⟨g, 0, none⟩) 0 n)) w') : wpList Try.prog ops Q (o :: rest) a w := by
  obtain ⟨i0, hi, hz0, hz1, hz2⟩ := info_parts Try.info_u8
  refine wpList_make_own w hg l c 22 hop w.heap.size 5 i0 (.int .u8 0) 1 Try.underlying22 hi hz0 hz1 kl kc C n hl hc hC (by rw [hz2]; omega) (by unfold maxLen; omega) (Nat.le_refl _) ?_
  intro w' hown hgrow
  exact h w' w.heap.size ⟨hown, (Below.refl _ _).grown hgrow (Nat.le_refl _) (fun k hk => by cases hk), hgrow.size⟩ (hown.lt w.heap.size rfl).2

theorem Buf.form {B : Nat} {w0 w : World} {v : Value} {l : List UInt8} (h : Buf B w0 w v l) : ∃ (a : Option Addr) (cap : Nat), v = .slice a l.length cap := by
  rcases h.own.2 with ⟨rfl, h0⟩ | ⟨g, cap, cur, rfl, _⟩
  · exact ⟨none, 0, by rw [h0]⟩
  · exact ⟨_, _, rfl⟩

/-- Where something is held, it lies at the head of a row of the call's own, and each byte is in its cell. -/
theorem Buf.at {B : Nat} {w0 w : World} {v : Value} {l : List UInt8} (h : Buf B w0 w v l) (hl : l ≠ []) : ∃ g cap : Nat, v = .slice (some ⟨g, 0, none⟩) l.length cap ∧ l.length ≤ cap ∧ B ≤ g ∧ g < w.heap.size ∧
    ∀ j b, l[j]? = some b → w.cell? ⟨g, j, none⟩ = some (.int .u8 (b.toNat : Int)) := by
  rcases h.own.2 with ⟨rfl, h0⟩ | ⟨g, cap, cur, rfl, hg, hh, hnc, hcp, hcs, htake⟩
  · exact absurd (List.length_eq_zero_iff.1 h0) hl
  · refine ⟨g, cap, rfl, hnc, hg, (h.own.lt g rfl).2, fun j b hj => ?_⟩
    have hlt : j < l.length := (List.getElem?_eq_some_iff.1 hj).1
    rw [h.own.cellAt j (by omega)]
    simp [bytesV, hj]

end Go.Proofs.Ytichbcpidkkblaa

/- A variable of the call's own. -/
namespace Go.Proofs.Ytichbcpidkkblaa
open Go.RowKit

theorem stored_grown (w : World) (g i : Nat) (v : Value) : w.grownBy (w.setCell ⟨g, i, none⟩ v) (some g) :=
  have b := (Below.refl 0 w).setCell (p := ⟨g, i, none⟩) (Nat.zero_le _) v
  ⟨b.os, b.tape, b.output, b.size, fun k _ hne => Below.heap_setCell w _ _ _ (fun e => hne (by rw [e]))⟩

variable {w w' : World}

/-- A variable of the call's own: its cells stand in the block b. -/
def Box (w : World) (b : Nat) (cs : Array Value) (t : TypeId) : Prop := w.heap[b]? = some (.cells cs t (0, 0))

theorem Box.new (w : World) (cs : Array Value) (t : TypeId) : Box (w.alloc (.cells cs t)) w.heap.size cs t := heap_alloc_new w _
theorem Box.lt {b : Nat} {cs : Array Value} {t : TypeId} (h : Box w b cs t) : b < w.heap.size := (Array.getElem?_eq_some_iff.1 h).1
theorem Box.cell {b : Nat} {cs : Array Value} {t : TypeId} (h : Box w b cs t) (j : Nat) (u : Value) (hu : cs[j]? = some u) : w.cell? ⟨b, j, none⟩ = some u := by
  rw [Joins.cell_of_block h, hu]
theorem Box.loose {b : Nat} {cs : Array Value} {t : TypeId} (h : Box w b cs t) (j : Nat) : w.frozen? ⟨b, j, none⟩ = false := Joins.unfrozen_of_block h j
theorem Box.later {b : Nat} {cs : Array Value} {t : TypeId} (h : Box w b cs t) (hb : Below w.heap.size w w') : Box w' b cs t := (hb.block b h.lt).trans h
theorem Box.under {b B : Nat} {cs : Array Value} {t : TypeId} (h : Box w b cs t) (hb : Below B w w') (hl : b < B) : Box w' b cs t := (hb.block b hl).trans h
theorem Box.set {b : Nat} {cs : Array Value} {t : TypeId} (h : Box w b cs t) (j : Nat) (u : Value) : Box (w.setCell ⟨b, j, none⟩ u) b (cs.setIfInBounds j u) t := Joins.block_setCell h u
theorem Box.other {b g : Nat} {cs : Array Value} {t : TypeId} (h : Box w b cs t) (hne : b ≠ g) (j : Nat) (u : Value) : Box (w.setCell ⟨g, j, none⟩ u) b cs t :=
  ((stored_grown w g j u).block b h.lt (fun e => hne (Option.some.inj e))).trans h

/-- The three cells of a variable. -/
theorem Box.three {b : Nat} {u0 u1 u2 : Value} {t : TypeId} (h : Box w b #[u0, u1, u2] t) : w.cell? ⟨b, 0, none⟩ = some u0 ∧ w.cell? ⟨b, 1, none⟩ = some u1 ∧ w.cell? ⟨b, 2, none⟩ = some u2 ∧ w.frozen? ⟨b, 0, none⟩ = false ∧ w.frozen? ⟨b, 1, none⟩ = false ∧ w.frozen? ⟨b, 2, none⟩ = false :=
  ⟨h.cell 0 _ rfl, h.cell 1 _ rfl, h.cell 2 _ rfl, h.loose 0, h.loose 1, h.loose 2⟩
/-- The three cells stored. -/
def set3 (w : World) (b : Nat) (v0 v1 v2 : Value) : World := ((w.setCell ⟨b, 0, none⟩ v0).setCell ⟨b, 1, none⟩ v1).setCell ⟨b, 2, none⟩ v2
theorem Box.set3 {b : Nat} {u0 u1 u2 : Value} {t : TypeId} (h : Box w b #[u0, u1, u2] t) (v0 v1 v2 : Value) : Box (set3 w b v0 v1 v2) b #[v0, v1, v2] t := ((h.set 0 v0).set 1 v1).set 2 v2
theorem below_set3 {B b : Nat} {w0 : World} (h : Below B w0 w) (hb : B ≤ b) (v0 v1 v2 : Value) : Below B w0 (set3 w b v0 v1 v2) :=
  ((h.setCell (p := ⟨b, 0, none⟩) hb v0).setCell (p := ⟨b, 1, none⟩) hb v1).setCell (p := ⟨b, 2, none⟩) hb v2

end Go.Proofs.Ytichbcpidkkblaa

/- Records: what the model's WordOk, RecOk, RecText hand back. -/
namespace Go.Proofs.Ytichbcpidkkblaa
open Go.RowKit

/-- A record as a value. -/
def Rc.v (r : Rc) : Value := .agg #[.int .i64 r.kind, .int .i64 r.valid, .int .i64 r.uid, .int .i64 r.next, .int .i64 r.flags, .string r.user, .string r.name, .string r.text]
/-- Its cells. -/
def Rc.cs (r : Rc) : Array Value := #[.int .i64 r.kind, .int .i64 r.valid, .int .i64 r.uid, .int .i64 r.next, .int .i64 r.flags, .string r.user, .string r.name, .string r.text]

/-- The eight cells of a record's box. -/
theorem Box.rec {w : World} {b : Nat} {r : Rc} {t : TypeId} (h : Box w b r.cs t) : w.cell? ⟨b, 0, none⟩ = some (.int .i64 r.kind) ∧ w.cell? ⟨b, 1, none⟩ = some (.int .i64 r.valid) ∧ w.cell? ⟨b, 2, none⟩ = some (.int .i64 r.uid) ∧ w.cell? ⟨b, 3, none⟩ = some (.int .i64 r.next) ∧ w.cell? ⟨b, 4, none⟩ = some (.int .i64 r.flags) ∧ w.cell? ⟨b, 5, none⟩ = some (.string r.user) ∧ w.cell? ⟨b, 6, none⟩ = some (.string r.name) ∧ w.cell? ⟨b, 7, none⟩ = some (.string r.text) :=
  ⟨h.cell 0 _ rfl, h.cell 1 _ rfl, h.cell 2 _ rfl, h.cell 3 _ rfl, h.cell 4 _ rfl, h.cell 5 _ rfl, h.cell 6 _ rfl, h.cell 7 _ rfl⟩

theorem index_atW (s : ByteArray) (k : Nat) (h : k < s.size) (wx : World) :
    (Instr.index 9 (.string s) (.int .i64 (k : Int))).run Try.prog wx = .ok (.int .u8 (s[k].toNat : Int)) wx := by
  have hu := Try.underlying9
  simp [Instr.index, run_underlying hu, go_sem, h]



theorem emp_beq (s : ByteArray) : (s.toList == []) = decide (s = emp) := by
  rw [Go.ByteArray.toList_eq]
  by_cases h : s = emp
  · rw [decide_eq_true h, h]; rfl
  · rw [decide_eq_false h]
    refine beq_eq_false_iff_ne.2 fun e => h ?_
    obtain ⟨⟨l⟩⟩ := s
    simp at e
    rw [e]; rfl


end Go.Proofs.Ytichbcpidkkblaa

/- Lines: what TakeLine, LowWord hand back. -/
namespace Go.Proofs.Ytichbcpidkkblaa
open Go.RowKit

/-- A line ends at i: the bytes 13 and 10 stand there. -/
def CrAt (s : ByteArray) (i : Nat) : Prop := ∃ h : i + 1 < s.size, s[i].toNat = 13 ∧ s[i + 1].toNat = 10
/-- What is longer than a line, but not by a byte 13 alone. -/
def OverL (s : ByteArray) : Prop := 80 < s.size ∧ ¬ (s.size = 81 ∧ ∀ h : 80 < s.size, s[80].toNat = 13)
/-- What TakeLine hands back. -/
def TkR (s a b : ByteArray) (c : Int) : Prop :=
  (∃ i, i ≤ 80 ∧ CrAt s i ∧ (∀ j, j < i → ¬ CrAt s j) ∧ a = s.extract 0 i ∧ b = s.extract (i + 2) s.size ∧ c = 0) ∨
  ((∀ j, j ≤ 80 → ¬ CrAt s j) ∧ a = emp ∧ ((OverL s ∧ b = s.extract 80 s.size ∧ c = 2) ∨ (¬ OverL s ∧ b = s ∧ c = 1)))

theorem TkR.one {s a b a' b' : ByteArray} {c c' : Int} (h : TkR s a b c) (h' : TkR s a' b' c') : a' = a ∧ b' = b ∧ c' = c := by
  rcases h with ⟨i, hi, hc, hn, rfl, rfl, rfl⟩ | ⟨hn, rfl, h⟩
  · rcases h' with ⟨j, hj, hc', hn', rfl, rfl, rfl⟩ | ⟨hn', _⟩
    · have : j = i := by
        rcases Nat.lt_trichotomy i j with h | h | h
        · exact absurd hc (hn' i h)
        · exact h.symm
        · exact absurd hc' (hn j h)
      subst this
      exact ⟨rfl, rfl, rfl⟩
    · exact absurd hc (hn' i hi)
  · rcases h' with ⟨j, hj, hc', _⟩ | ⟨_, rfl, h'⟩
    · exact absurd hc' (hn j hj)
    · rcases h with ⟨o, rfl, rfl⟩ | ⟨o, rfl, rfl⟩ <;> rcases h' with ⟨o', rfl, rfl⟩ | ⟨o', rfl, rfl⟩
      · exact ⟨rfl, rfl, rfl⟩
      · exact absurd o o'
      · exact absurd o' o
      · exact ⟨rfl, rfl, rfl⟩

/-- A byte's lower letter. -/
def lowB (b : UInt8) : UInt8 := if 65 ≤ b.toNat ∧ b.toNat ≤ 90 then b + 32 else b
/-- What LowWord hands back. -/
def lowW (s : ByteArray) : ByteArray := ⟨(s.data.toList.map lowB).toArray⟩

end Go.Proofs.Ytichbcpidkkblaa

/- Lines in a text: the first one of it, and what is too long. -/
namespace Go.Proofs.Ytichbcpidkkblaa
open Go.RowKit

theorem crAt_list {l : List UInt8} {i : Nat} : CrAt ⟨l.toArray⟩ i ↔ l[i]? = some 13 ∧ l[i + 1]? = some 10 := by
  have hs : (⟨l.toArray⟩ : ByteArray).size = l.length := by simp [ByteArray.size]
  constructor
  · rintro ⟨h, h1, h2⟩
    rw [hs] at h
    have g1 : l[i] = 13 := UInt8.toNat_inj.1 h1
    have g2 : l[i + 1] = 10 := UInt8.toNat_inj.1 h2
    exact ⟨by rw [List.getElem?_eq_getElem (by omega), g1], by rw [List.getElem?_eq_getElem h, g2]⟩
  · rintro ⟨h1, h2⟩
    obtain ⟨g1, e1⟩ := List.getElem?_eq_some_iff.1 h1
    obtain ⟨g2, e2⟩ := List.getElem?_eq_some_iff.1 h2
    refine ⟨by rw [hs]; exact g2, ?_, ?_⟩
    · show l[i].toNat = 13
      rw [e1]; rfl
    · show l[i + 1].toNat = 10
      rw [e2]; rfl

theorem no_cr {x r : List UInt8} (hx : ∀ b ∈ x, b ≠ 13) {j : Nat} (hj : j < x.length) : ¬ CrAt ⟨(x ++ r).toArray⟩ j := by
  rw [crAt_list]
  rintro ⟨h, _⟩
  rw [List.getElem?_append_left hj] at h
  exact hx _ (List.mem_of_getElem? h) rfl

theorem ext_take (l : List UInt8) (k : Nat) : (⟨l.toArray⟩ : ByteArray).extract 0 k = ⟨(l.take k).toArray⟩ := by
  rw [ByteArray.extract_mk]
  simp
theorem ext_drop (l : List UInt8) (k : Nat) : (⟨l.toArray⟩ : ByteArray).extract k (⟨l.toArray⟩ : ByteArray).size = ⟨(l.drop k).toArray⟩ := by
  rw [ByteArray.extract_mk]
  have hs : (⟨l.toArray⟩ : ByteArray).size = l.length := by simp [ByteArray.size]
  rw [hs]
  congr 2
  rw [List.take_of_length_le (by rw [List.length_drop]; omega)]

/-- A line, and what is behind it. -/
theorem tk_line {x r : List UInt8} (hx : ∀ b ∈ x, b ≠ 13) (h : x.length ≤ 80) : TkR ⟨(x ++ 13 :: 10 :: r).toArray⟩ ⟨x.toArray⟩ ⟨r.toArray⟩ 0 := by
  refine .inl ⟨x.length, h, ?_, fun j hj => no_cr hx hj, ?_, ?_, rfl⟩
  · rw [crAt_list]
    refine ⟨?_, ?_⟩
    · rw [List.getElem?_append_right (Nat.le_refl _)]; simp
    · rw [List.getElem?_append_right (by omega)]; simp
  · rw [ext_take, List.take_left]
  · rw [ext_drop, List.drop_append, List.drop_of_length_le (by omega), show x.length + 2 - x.length = 2 by omega]
    rfl

/-- What is too long. -/
theorem tk_long {x r : List UInt8} (hx : ∀ b ∈ x, b ≠ 13) (h : 80 < x.length) : TkR ⟨(x ++ 13 :: 10 :: r).toArray⟩ emp ⟨(x.drop 80 ++ 13 :: 10 :: r).toArray⟩ 2 := by
  have hs : (⟨(x ++ 13 :: 10 :: r).toArray⟩ : ByteArray).size = x.length + (r.length + 2) := by simp [ByteArray.size]
  refine .inr ⟨fun j hj => no_cr hx (by omega), rfl, .inl ⟨⟨by rw [hs]; omega, fun e => by have := e.1; rw [hs] at this; omega⟩, ?_, rfl⟩⟩
  rw [ext_drop, List.drop_append, show 80 - x.length = 0 by omega]
  rfl

end Go.Proofs.Ytichbcpidkkblaa

/- Lines: TakeLine of the model. -/
namespace Go.Proofs.Ytichbcpidkkblaa
open Go.RowKit

set_option maxRecDepth 100000 in
set_option maxHeartbeats 4000000 in
theorem specTakeLine_any (s : ByteArray) (w : World) (hs : s.size ≤ 1099511627776) :
    Calls Try.prog 11 #[.string s] w fun e w' => (∃ a b c, e = .returned (.tuple #[.string a, .string b, .int .i64 c]) ∧ TkR s a b c) ∧ Below w.heap.size w w' := by
  go_enter Try.func11, Try.ntmps11
  go_wp2
  go_loop [5] (fun iv => ∃ i : Nat, i ≤ 81 ∧ iv = .int .i64 (i : Int) ∧ ∀ j, j < i → ¬ CrAt s j) (fun iv => 81 - (intOf iv).toNat)
  case atStart => exact ⟨0, by omega, rfl, fun j hj => by omega⟩
  case round =>
    obtain ⟨i, hi, rfl, hN⟩ := hrel
    have HN := Lib.hid hN
    clear hN
    have hw1 : IntKind.i64.wrap ((i : Int) + 1) = (i : Int) + 1 := IntWalk.i64_in _ ⟨by omega, by omega⟩
    have hw2 : IntKind.i64.wrap ((i : Int) + 2) = (i : Int) + 2 := IntWalk.i64_in _ ⟨by omega, by omega⟩
    by_cases h1 : i + 1 < s.size ∧ i ≤ 80
    · obtain ⟨h1, h2⟩ := h1
      have g1 : (i : Int) + 1 < (s.size : Int) := by omega
      have g2 : (i : Int) ≤ 80 := by omega
      have x1 := fun wx => index_atW s i (by omega) wx
      have x2 : ∀ wx, (Instr.index 9 (.string s) (.int .i64 ((i : Int) + 1))).run Try.prog wx = .ok (.int .u8 (s[i + 1].toNat : Int)) wx := fun wx => index_atW s (i + 1) h1 wx
      by_cases c1 : s[i].toNat = 13
      · have d1 : (s[i].toNat : Int) = 13 := by omega
        by_cases c2 : s[i + 1].toNat = 10
        · have d2 : (s[i + 1].toNat : Int) = 10 := by omega
          have HT : Hid (TkR s (s.extract 0 i) (s.extract (i + 2) s.size) 0) := .inl ⟨i, h2, ⟨h1, c1, c2⟩, HN.out, rfl, rfl, rfl⟩
          clear c1 c2
          rw [d1] at x1
          rw [d2] at x2
          go_wp2
          go_region
          go_wp2
          go_ret3
          exact ⟨⟨_, _, _, rfl, HT.out⟩, (Below.refl _ _).drew⟩
        · have d2 : ¬ ((s[i + 1].toNat : Int) = 10) := by omega
          have HK : Hid (¬ CrAt s i) := fun ⟨_, _, h⟩ => c2 h
          clear c1 c2
          rw [d1] at x1
          generalize (s[i + 1].toNat : Int) = y at *
          go_wp2
          go_round
          case rel => exact ⟨i + 1, by omega, by go_num, fun j hj => by
            by_cases c : j = i
            · subst c; exact HK.out
            · exact HN.out j (by omega)⟩
          case measure => simp [intOf]; omega
      · have d1 : ¬ ((s[i].toNat : Int) = 13) := by omega
        have HK : Hid (¬ CrAt s i) := fun ⟨_, h, _⟩ => c1 h
        clear c1 x2
        generalize (s[i].toNat : Int) = y at *
        go_wp2
        go_round
        case rel => exact ⟨i + 1, by omega, by go_num, fun j hj => by
          by_cases c : j = i
          · subst c; exact HK.out
          · exact HN.out j (by omega)⟩
        case measure => simp [intOf]; omega
    · have HA : Hid (∀ j, j ≤ 80 → ¬ CrAt s j) := fun j hj ⟨h, c⟩ => by
        by_cases q : j < i
        · exact HN.out j q ⟨h, c⟩
        · exact h1 ⟨by omega, by omega⟩
      by_cases e1 : i + 1 < s.size
      · have e1i : (i : Int) + 1 < (s.size : Int) := by omega
        have e2 : ¬ ((i : Int) ≤ 80) := by omega
        have h3 : 80 < s.size := by omega
        have h4 : ¬ s.size = 81 := by omega
        have g3 : (80 : Int) < (s.size : Int) := by omega
        have g4 : ¬ ((s.size : Int) = 81) := by omega
        have HT : Hid (TkR s emp (s.extract 80 s.size) 2) := .inr ⟨HA.out, rfl, .inl ⟨⟨h3, fun h => h4 h.1⟩, rfl, rfl⟩⟩
        clear h1 e1 h4
        go_wp2
        go_region
        go_wp2
        go_ret3
        exact ⟨⟨_, _, _, rfl, HT.out⟩, (Below.refl _ _).drew⟩
      · have e1i : ¬ ((i : Int) + 1 < (s.size : Int)) := by omega
        clear h1 e1
        by_cases h3 : 80 < s.size
        · have g3 : (80 : Int) < (s.size : Int) := by omega
          by_cases h4 : s.size = 81
          · have g4 : (s.size : Int) = 81 := by omega
            have x1 : ∀ wx, (Instr.index 9 (.string s) (.int .i64 (80 : Int))).run Try.prog wx = .ok (.int .u8 (s[80].toNat : Int)) wx := fun wx => index_atW s 80 h3 wx
            by_cases h5 : s[80].toNat = 13
            · have d5 : (s[80].toNat : Int) = 13 := by omega
              have HT : Hid (TkR s emp s 1) := .inr ⟨HA.out, rfl, .inr ⟨fun h => h.2 ⟨h4, fun _ => h5⟩, rfl, rfl⟩⟩
              rw [d5] at x1
              clear h5 h4
              go_wp2
              go_ret3
              exact ⟨⟨_, _, _, rfl, HT.out⟩, Below.refl _ _⟩
            · have d5 : ¬ ((s[80].toNat : Int) = 13) := by omega
              have HT : Hid (TkR s emp (s.extract 80 s.size) 2) := .inr ⟨HA.out, rfl, .inl ⟨⟨h3, fun h => h5 (h.2 h3)⟩, rfl, rfl⟩⟩
              clear h5 h4
              generalize (s[80].toNat : Int) = y at *
              go_wp2
              go_region
              go_wp2
              go_ret3
              exact ⟨⟨_, _, _, rfl, HT.out⟩, (Below.refl _ _).drew⟩
          · have g4 : ¬ ((s.size : Int) = 81) := by omega
            have HT : Hid (TkR s emp (s.extract 80 s.size) 2) := .inr ⟨HA.out, rfl, .inl ⟨⟨h3, fun h => h4 h.1⟩, rfl, rfl⟩⟩
            clear h4
            go_wp2
            go_region
            go_wp2
            go_ret3
            exact ⟨⟨_, _, _, rfl, HT.out⟩, (Below.refl _ _).drew⟩
        · have g3 : ¬ ((80 : Int) < (s.size : Int)) := by omega
          have HT : Hid (TkR s emp s 1) := .inr ⟨HA.out, rfl, .inr ⟨fun h => h3 h.1, rfl, rfl⟩⟩
          go_wp2
          go_ret3
          exact ⟨⟨_, _, _, rfl, HT.out⟩, Below.refl _ _⟩

end Go.Proofs.Ytichbcpidkkblaa

/- Channels within one goroutine, for the walk over code: a drawn or plain region some of whose operations send or receive, nobody waiting; a body that ends with one deferred call of a builtin. -/
namespace Go.Proofs.Ytichbcpidkkblaa
open Go.RowKit Go.Conc

/-- The operations l of a region, from a and w on, come to Q. -/
def OpsAt (P : Program) (ops : Array Oper) (Q : Exit → Act → World → Prop) (l : List Nat) (a : Act) (w : World) : Prop :=
  ∀ (b : Frame) (k : List Item) (cs : List Frame), ∃ e a' w', Q e a' w' ∧ Arrives P (Go.lone (b.at a (.inRegion ops l :: k)) cs w) b k cs e a' w'

section
variable {P : Program} {ops : Array Oper} {Q : Exit → Act → World → Prop} {a : Act} {w w' : World} {i : Nat} {rest : List Nat} {o : Oper}

theorem wp_region_at {id : Nat} (h : OpsAt P ops Q (List.range ops.size) a w) : (Code.region id ops false).wp P Q a w :=
  fun b k cs => let ⟨e, a', w', q, r⟩ := h b k cs; ⟨e, a', w', q, .of_steps (.one step_region) r⟩

theorem OpsAt.nil (h : Q .normal a w) : OpsAt P ops Q [] a w := fun _ _ _ => ⟨.normal, a, w, h, .one step_region_end⟩

theorem OpsAt.of_wp (h : wpOps P ops Q rest a w) : OpsAt P ops Q rest a w := fun b k cs => wp_ops rest a w h b k cs

theorem OpsAt.value {v : Value} (ho : ops[i]? = some o) (hw : Region.wanted o (yielded ops a.tmps) = true) (hr : (execOp a.eval o).run P w = .ok (.value v) w')
    (h : OpsAt P ops Q rest (a.put o.dst v) w') : OpsAt P ops Q (i :: rest) a w := by
  intro b k cs
  obtain ⟨e, a', w'', hq, harr⟩ := h b k cs
  refine ⟨e, a', w'', hq, .of_steps (.one (step_lone_go ?_)) harr⟩
  have hfin : (b.at a (.inRegion ops (i :: rest) :: k)).finish v = b.at (a.put o.dst v) (.inRegion ops rest :: k) := by
    rw [Frame.finish_at, ho]; rfl
  rw [stepG_op ho hw, ← hfin]
  simp [stepG.apply, hr]

theorem stepG_comm_any {b : Frame} {k : List Item} {cs : List Frame} {cases : Array CommCase} {blocking : Bool} {shape : CommShape} (ho : ops[i]? = some o) (hw : Region.wanted o (yielded ops a.tmps) = true)
    (hr : (execOp a.eval o).run P w = .ok (.comm cases blocking shape) w') :
    ∃ es, stepG P true (G (b.at a (.inRegion ops (i :: rest) :: k)) cs) w = .comm (G (b.at a (.inRegion ops (i :: rest) :: k)) cs) cases blocking shape w' es := by
  rw [stepG_oper ho hw]
  simp only [stepG.apply, Sem.runT_eq, if_true, hr, GStep.after, G]
  exact ⟨_, rfl⟩

theorem OpsAt.send {c cap s r : Nat} {buf : Array Value} {v z : Value} {tm : Bool} (ho : ops[i]? = some o) (hw : Region.wanted o (yielded ops a.tmps) = true)
    (hr : (execOp a.eval o).run P w = .ok (.comm #[scase c v z] true .send) w') (hc : w'.heap[c]? = some (.chan cap buf false s r tm)) (hroom : buf.size < cap)
    (h : OpsAt P ops Q rest (a.put o.dst undef) (w'.setChan c cap (buf.push v) false (s + 1) r tm)) : OpsAt P ops Q (i :: rest) a w := by
  intro b k cs
  obtain ⟨e, a', w'', hq, harr⟩ := h b k cs
  obtain ⟨es, hg⟩ := stepG_comm_any (b := b) (k := k) (cs := cs) (rest := rest) ho hw hr
  refine ⟨e, a', w'', hq, .of_steps (.one ?_) harr⟩
  have hst := step_lone_send_room hg hc hroom
  rw [Frame.finish_at, ho] at hst
  exact hst

theorem OpsAt.recv {c cap s r : Nat} {buf : Array Value} {z : Value} {tm closed ok : Bool} (ho : ops[i]? = some o) (hw : Region.wanted o (yielded ops a.tmps) = true)
    (hr : (execOp a.eval o).run P w = .ok (.comm #[rcase c z] true (.recv ok)) w') (hc : w'.heap[c]? = some (.chan cap buf closed s r tm)) (hsome : 0 < buf.size)
    (h : OpsAt P ops Q rest (a.put o.dst (got ok (buf.getD 0 undef) true)) (w'.setChan c cap (buf.extract 1 buf.size) closed s (r + 1) tm)) : OpsAt P ops Q (i :: rest) a w := by
  intro b k cs
  obtain ⟨e, a', w'', hq, harr⟩ := h b k cs
  obtain ⟨es, hg⟩ := stepG_comm_any (b := b) (k := k) (cs := cs) (rest := rest) ho hw hr
  refine ⟨e, a', w'', hq, .of_steps (.one ?_) harr⟩
  have hst := step_lone_recv_buf ok hg hc hsome
  rw [Frame.finish_at, ho] at hst
  exact hst

theorem OpsAt.recvShut {c cap s r : Nat} {z : Value} {tm ok : Bool} (ho : ops[i]? = some o) (hw : Region.wanted o (yielded ops a.tmps) = true)
    (hr : (execOp a.eval o).run P w = .ok (.comm #[rcase c z] true (.recv ok)) w') (hc : w'.heap[c]? = some (.chan cap #[] true s r tm))
    (h : OpsAt P ops Q rest (a.put o.dst (got ok z false)) w') : OpsAt P ops Q (i :: rest) a w := by
  intro b k cs
  obtain ⟨e, a', w'', hq, harr⟩ := h b k cs
  obtain ⟨es, hg⟩ := stepG_comm_any (b := b) (k := k) (cs := cs) (rest := rest) ho hw hr
  refine ⟨e, a', w'', hq, .of_steps (.one ?_) harr⟩
  have hst := step_lone_recv_shut ok hg hc
  rw [Frame.finish_at, ho] at hst
  exact hst

/-- A body that ends by a return, one call of a builtin deferred. -/
def bodyPostC (P : Program) (fn : Func) (R : Ending → World → Prop) : Exit → Act → World → Prop
  | .ret, a, w => ∃ d u w' bi x y z, a.defers = [d] ∧ d.target = .builtin bi x y z ∧ (invoke d.target d.args).run P w = .ok (.value u) w' ∧ ∃ v, (results fn a.tmps).run P w' = .ok v w' ∧ R (.returned v) w'
  | _, _, _ => False

theorem calls_of_wp_closing {f : FuncId} {fn : Func} {c : Code} {args : Array Value} {w : World} {R : Ending → World → Prop}
    (hf : P.funcs[f]? = some fn) (hb : fn.body = some c)
    (h : c.wp P (bodyPostC P fn R) { tmps := args ++ Array.replicate (fn.ntmps - args.size) undef, defers := [] } w) : Calls P f args w R := by
  intro cs
  let b : Frame := { (default : Frame) with fn := f, kind := .normal }
  have henter : Frame.enter P f args .normal =
      b.at { tmps := args ++ Array.replicate (fn.ntmps - args.size) undef, defers := [] } [.code c] := by
    simp [Frame.enter, Frame.at, hf, hb, b]
  obtain ⟨e, a', w', hq, harr⟩ := h b [] cs
  rw [← henter] at harr
  cases e with
  | ret =>
    obtain ⟨⟨t, x⟩, u, w2, bi, x1, x2, x3, hd, ht, hi, v, hr, hR⟩ := hq
    simp only at ht hi
    subst ht
    obtain ⟨todo, hs⟩ := harr
    have h1 : step P (Go.lone { b.at a' todo with mode := .returning } cs w') = .next (Go.lone { b.at { a' with defers := [] } todo with mode := .returning } cs w2) := by
      refine step_lone_go ?_
      simp [stepG, unwind, callDeferred, Frame.at, hd, hi]
    exact ⟨.returned v, w2, _, hR, Steps.trans hs (.one h1), rfl, rfl, rfl, rfl, fn, hf, hr⟩
  | normal => exact hq.elim
  | panic chain => exact hq.elim
  | exit id => exact hq.elim
  | goto l => exact hq.elim
  | outgrown => exact hq.elim
end

end Go.Proofs.Ytichbcpidkkblaa

/- Lines: lineOf of the program: the bytes of the first line over a channel that is closed. -/
namespace Go.Proofs.Ytichbcpidkkblaa
open Go.RowKit Go.Conc

theorem crAt_of (s : ByteArray) (i : Nat) : CrAt s i ↔ s.data.toList[i]? = some 13 ∧ s.data.toList[i + 1]? = some 10 := by
  have h := crAt_list (l := s.data.toList) (i := i)
  exact h

theorem crAt_extract {s : ByteArray} {i : Nat} : CrAt (s.extract i s.size) 0 ↔ CrAt s i := by
  rw [crAt_of, crAt_of, extract_data]
  simp only [List.getElem?_take, List.getElem?_drop, Nat.add_zero, Nat.zero_add]
  constructor
  · rintro ⟨h1, h2⟩
    rw [Option.ite_none_right_eq_some] at h1 h2
    exact ⟨h1.2, h2.2⟩
  · rintro ⟨h1, h2⟩
    have l1 := (List.getElem?_eq_some_iff.1 h2).1
    rw [ba_len] at l1
    rw [if_pos (by omega), if_pos (by omega)]
    exact ⟨h1, h2⟩

theorem take2 {s : ByteArray} (h : 2 ≤ s.size) : ((s.extract 0 2).toList == [13, 10]) = true ↔ CrAt s 0 := by
  rw [crAt_of, Go.Lib.toList_data, extract_data, beq_iff_eq]
  have hl : s.data.toList.length = s.size := ba_len s
  match hm : s.data.toList, hl with
  | [], hl => simp at hl; omega
  | [_], hl => simp at hl; omega
  | x :: y :: r, _ => simp

set_option maxHeartbeats 1000000 in
set_option maxRecDepth 100000 in
theorem hasCrlf (s : ByteArray) (w : World) :
    Calls Try.prog 39 #[.string s, .string { data := #[13, 10] }] w fun e w' => ∃ t : Bool, e = .returned (.bool t) ∧ (t = true ↔ CrAt s 0) ∧ w' = w := by
  go_enter Try.func39, Try.ntmps39
  go_wp2
  · rename_i h
    go_ret
    exact ⟨_, rfl, take2 (by omega), rfl⟩
  · rename_i h
    go_ret
    exact .inl ⟨rfl, fun ⟨h1, _⟩ => by omega, rfl⟩

theorem mkLine (w : World) (n : Nat) (h : n ≤ 1000) : (Instr.makeChan 61 (.int .i64 (n : Int))).run Try.prog w = .ok (.chan (some w.heap.size)) (w.alloc (.chan n #[] false 0 0 false)) := by
  have hb : (Try.prog.info? 5).map (·.bytes) = some 1 := by kernel_rfl
  obtain ⟨i, hi, hb⟩ := Option.map_eq_some_iff.1 hb
  exact run_makeChan (P := Try.prog) (w := w) Try.underlying61 hi .i64 n (by omega) (by rw [hb]; omega)

/-- A channel that holds these bytes. -/
def ChHas (w : World) (c cap : Nat) (l : List UInt8) (closed : Bool) (s r : Nat) : Prop := w.heap[c]? = some (.chan cap (l.map fun b => Value.int .u8 (b.toNat : Int)).toArray closed s r false)

theorem ChHas.shut {w w0 : World} {c cap s r : Nat} {l : List UInt8} {cl : Bool} (_h : ChHas w c cap l cl s r) (hz : w.heap.size = c + 1) (hb : Below c w0 w) :
    ChHas { w with heap := w.heap.setIfInBounds c (.chan cap (l.map fun b => Value.int .u8 (b.toNat : Int)).toArray true s r false) } c cap l true s r ∧ ({ w with heap := w.heap.setIfInBounds c (.chan cap (l.map fun b => Value.int .u8 (b.toNat : Int)).toArray true s r false) } : World).heap.size = c + 1 ∧ Below c w0 { w with heap := w.heap.setIfInBounds c (.chan cap (l.map fun b => Value.int .u8 (b.toNat : Int)).toArray true s r false) } := by
  refine ⟨?_, by simp [hz], hb.trans ⟨rfl, rfl, rfl, by simp, fun k hk => Array.getElem?_setIfInBounds_ne (by omega)⟩⟩
  show (w.heap.setIfInBounds c _)[c]? = _
  rw [Array.getElem?_setIfInBounds_self, if_pos (by omega)]

theorem ChHas.sent {w w0 : World} {c cap i : Nat} {l : List UInt8} (_h : ChHas w c cap (l.take i) false i 0) (hi : i < l.length) (hz : w.heap.size = c + 1) (hb : Below c w0 w) :
    ChHas (w.setChan c cap (((l.take i).map fun b => Value.int .u8 (b.toNat : Int)).toArray.push (.int .u8 (l[i].toNat : Int))) false (i + 1) 0 false) c cap (l.take (i + 1)) false (i + 1) 0 ∧ (w.setChan c cap (((l.take i).map fun b => Value.int .u8 (b.toNat : Int)).toArray.push (.int .u8 (l[i].toNat : Int))) false (i + 1) 0 false).heap.size = c + 1 ∧ Below c w0 (w.setChan c cap (((l.take i).map fun b => Value.int .u8 (b.toNat : Int)).toArray.push (.int .u8 (l[i].toNat : Int))) false (i + 1) 0 false) := by
  refine ⟨?_, by rw [size_setChan]; exact hz, below_setChan hb (Nat.le_refl _) _ _ _ _ _ _⟩
  unfold ChHas
  rw [heap_setChan _ _ _ _ _ _ _ _ (by omega), List.take_succ_eq_append_getElem hi, List.map_append, List.push_toArray]
  rfl

set_option maxHeartbeats 1000000 in
set_option maxRecDepth 100000 in
theorem lineOf_any (s : ByteArray) (w : World) (hs : s.size ≤ 82) :
    Calls Try.prog 25 #[.string s] w fun e w' => ∃ m, m ≤ s.size ∧ (m < s.size → CrAt s m) ∧ (∀ j, j < m → ¬ CrAt s j) ∧ e = .returned (.chan (some w.heap.size)) ∧ ChHas w' w.heap.size s.size (s.data.toList.take m) true m 0 ∧ w'.heap.size = w.heap.size + 1 ∧ Below w.heap.size w w' := by
  have hmk := fun wx => mkLine wx s.size (by omega)
  refine calls_of_wp_closing Try.func25 rfl ?_
  simp only [Try.ntmps25, List.size_toArray, List.length_cons, List.length_nil, Nat.reduceAdd, Nat.reduceSub, Array.replicate_succ, Array.replicate_zero, List.push_toArray, List.append_toArray, List.nil_append, List.cons_append]
  obtain ⟨n, hn⟩ : ∃ n, s.size = n := ⟨_, rfl⟩
  have HN := Lib.hid hn
  rw [hn] at hmk hs ⊢
  obtain ⟨g, hg⟩ : ∃ g, w.heap.size = g := ⟨_, rfl⟩
  have HG := Lib.hid hg
  have HCL : Hid (∀ (wx : World) (l : List UInt8) (m : Nat), ChHas wx g n l false m 0 →
      (invoke (Target.builtin Builtin.close #[61] 0 #[false]) #[.chan (some g)]).run Try.prog wx = .ok (.value (.tuple #[])) { wx with heap := wx.heap.setIfInBounds g (.chan n (l.map fun b => Value.int .u8 (b.toNat : Int)).toArray true m 0 false) }) := by
    intro wx l m h
    have := run_close_open (P := Try.prog) (w := wx) #[61] 0 h
    simp [go_sem, this]
  go_wp2
  clear hmk
  have hch0 : ChHas (w.alloc (.chan n #[] false 0 0 false)) w.heap.size n (s.data.toList.take 0) false 0 0 := by
    show (w.alloc (.chan n #[] false 0 0 false)).heap[w.heap.size]? = _
    rw [heap_alloc_new]
    rfl
  have hb0 : Below w.heap.size w (w.alloc (.chan n #[] false 0 0 false)) := (Below.refl _ _).alloc (Nat.le_refl _) _
  have hz0 : (w.alloc (.chan n #[] false 0 0 false)).heap.size = w.heap.size + 1 := by simp
  rw [hg] at hch0 hb0 hz0
  go_loopw [11] (fun iv wr => ∃ i : Nat, i ≤ n ∧ iv = .int .i64 (i : Int) ∧ (∀ j, j < i → ¬ CrAt s j) ∧ ChHas wr g n (s.data.toList.take i) false i 0 ∧ wr.heap.size = g + 1 ∧ Below g w wr) (fun iv _ => n - (intOf iv).toNat)
  case atStart => exact ⟨0, by omega, rfl, fun j hj => by omega, hch0, hz0, hb0⟩
  case round =>
    obtain ⟨i, hi, rfl, hN, hC, hz, hB⟩ := hrel
    have HC := Lib.hid hC
    have HB := Lib.hid hB
    have HZ := Lib.hid hz
    have HNO := Lib.hid hN
    clear hC hB hz hN hch0 hb0 hz0
    by_cases hlt : i < n
    · have hi0 : (0 : Int) ≤ (i : Int) := by omega
      have hi1 : (i : Int) < (n : Int) := by omega
      have hi2 : (i : Int) ≤ (n : Int) := by omega
      go_upto_region 7 with (go_at_call 39; refine (hasCrlf _ _).mono ?_; rintro e w1 ⟨t, rfl, ht, rfl⟩)
      · rename_i hc
        have hcr : CrAt s i := crAt_extract.1 (by rw [hn]; exact ht.1 hc)
        obtain ⟨p1, p2, p3⟩ := HC.out.shut HZ.out HB.out
        refine ⟨_, _, _, _, _, _, _, rfl, rfl, HCL.out _ _ i HC.out, _, results_tmp rfl _ _ _, i, by omega, fun _ => hcr, HNO.out, ?_⟩
        rw [hg]
        exact ⟨rfl, p1, p2, p3⟩
      · rename_i hc
        have hcr : ¬ CrAt s i := fun h => by
          have h2 := crAt_extract.2 h
          rw [hn] at h2
          rw [hc] at ht
          exact absurd (ht.2 h2) (by decide)
        have hil : i < s.data.toList.length := by rw [ba_len, hn]; exact hlt
        have x1 : ∀ wx, (Instr.index 9 (.string s) (.int .i64 (i : Int))).run Try.prog wx = .ok (.int .u8 (s.data.toList[i].toNat : Int)) wx := fun wx => index_atW s i (by omega) wx
        have hcap : ((s.data.toList.take i).map fun b => Value.int .u8 (b.toNat : Int)).toArray.size < n := by
          rw [List.size_toArray, List.length_map, List.length_take]; omega
        obtain ⟨p1, p2, p3⟩ := HC.out.sent hil HZ.out HB.out
        refine wp_region_at ?_
        show OpsAt _ _ _ [0, 1, 2, 3, 4] _ _
        refine OpsAt.value (v := .chan (some g)) (w' := w1) rfl rfl (by simp [go_sem]) ?_
        refine OpsAt.value (v := .string s) (w' := w1) rfl rfl (by simp [go_sem]) ?_
        refine OpsAt.value (v := .int .i64 (i : Int)) (w' := w1) rfl rfl (by simp [go_sem]) ?_
        refine OpsAt.value (v := .int .u8 (s.data.toList[i].toNat : Int)) (w' := w1) rfl rfl (by simp [go_sem, x1]) ?_
        refine OpsAt.send (c := g) (v := .int .u8 (s.data.toList[i].toNat : Int)) (w' := w1) rfl rfl (by simp [go_sem, scase]; rfl) HC.out hcap ?_
        generalize w1.setChan g n _ false (i + 1) 0 false = w2 at *
        refine OpsAt.nil ?_
        walk_nrm
        have P1 := Lib.hid p1
        have P2 := Lib.hid p2
        have P3 := Lib.hid p3
        have HNN : Hid (∀ j, j < i + 1 → ¬ CrAt s j) := fun j hj => by
          by_cases c : j = i
          · subst c; exact hcr
          · exact HNO.out j (by omega)
        have hw1 : IntKind.i64.wrap ((i : Int) + 1) = (i : Int) + 1 := IntWalk.i64_in _ ⟨by omega, by omega⟩
        clear p1 p2 p3 hcap x1 hcr ht
        go_wp2
        go_roundw
        case rel => exact ⟨i + 1, by omega, by go_num, HNN.out, P1.out, P2.out, P3.out⟩
        case measure => simp [intOf]; omega
    · have e : i = n := by omega
      subst e
      go_wp2
      obtain ⟨p1, p2, p3⟩ := HC.out.shut HZ.out HB.out
      refine ⟨_, _, _, _, _, _, _, rfl, rfl, HCL.out _ _ _ HC.out, _, results_tmp rfl _ _ _, _, Nat.le_refl _, fun h => by omega, HNO.out, ?_⟩
      rw [hg]
      exact ⟨rfl, p1, p2, p3⟩

end Go.Proofs.Ytichbcpidkkblaa

/- Lower letters: LowWord of the model. -/
namespace Go.Proofs.Ytichbcpidkkblaa
open Go.RowKit

/-- The bytes l stand in the block g, and may be written. -/
def BtAt (w : World) (g : Nat) (l : List UInt8) : Prop := ∀ (j : Nat) (b : UInt8), l[j]? = some b → w.cell? ⟨g, j, none⟩ = some (.int .u8 (b.toNat : Int)) ∧ w.frozen? ⟨g, j, none⟩ = false

theorem BtAt.set {w : World} {g : Nat} {l : List UInt8} (h : BtAt w g l) (i : Nat) (hi : i < l.length) (c : UInt8) : BtAt (w.setCell ⟨g, i, none⟩ (.int .u8 (c.toNat : Int))) g (l.set i c) := by
  intro j b hj
  have hlt : j < l.length := by have := (List.getElem?_eq_some_iff.1 hj).1; rwa [List.length_set] at this
  have hfr := (h j l[j] (List.getElem?_eq_getElem hlt)).2
  refine ⟨?_, by rw [World.frozen?_setCell]; exact hfr⟩
  by_cases hij : i = j
  · subst hij
    rw [List.getElem?_set_self hi] at hj
    rw [World.cell?_setCell_same _ _ _ (h i l[i] (List.getElem?_eq_getElem hi)).1, Option.some.inj hj]
  · rw [List.getElem?_set_ne hij] at hj
    rw [World.cell?_setCell_other _ _ _ _ (by intro e; exact hij (by injection e))]
    exact (h j b hj).1

theorem BtAt.toString {w : World} {g : Nat} {l : List UInt8} (h : BtAt w g l) (cap n : Nat) (hn : l.length = n) :
    (convert 22 9 (.slice (some ⟨g, 0, none⟩) n cap)).run Try.prog w = .ok (.string ⟨l.toArray⟩) w := by
  subst hn
  refine run_convert_bytes_back (P := Try.prog) w 22 9 5 ⟨g, 0, none⟩ cap l Try.underlying22 Try.underlying5 Try.underlying9 fun j hj => ?_
  rw [Addr.add_lit, Nat.zero_add]
  have := (h j l[j] (List.getElem?_eq_getElem hj)).1
  simpa [hj] using this

theorem ba_self (s : ByteArray) : (⟨s.data.toList.toArray⟩ : ByteArray) = s := by obtain ⟨⟨l⟩⟩ := s; rfl

/-- The bytes of a text, in the row that []byte makes of it. -/
theorem btAt_new (w : World) (l : List UInt8) : BtAt (Lib.bytesWorld w 5 ⟨l.toArray⟩) w.heap.size l := by
  intro j b hj
  have hlt : j < l.length := (List.getElem?_eq_some_iff.1 hj).1
  refine ⟨?_, ?_⟩
  · have := Lib.bytesWorld_cell w 5 ⟨l.toArray⟩ j (by simpa [ByteArray.size] using hlt)
    rw [this]
    simp [List.getD, hj]
  · have h : j < (Lib.bytesCells w 5 ⟨l.toArray⟩).size := by simp [Lib.bytesCells, ByteArray.size]; omega
    unfold World.frozen?
    rw [Lib.bytesWorld_at_new]
    simp
    have h' := h
    simp [Lib.bytesCells, ByteArray.size] at h' ⊢
    omega

theorem below_bt (w : World) (s : ByteArray) : Below w.heap.size w (Lib.bytesWorld w 5 s) :=
  (Below.refl _ _).grown (⟨rfl, rfl, rfl, by rw [Lib.bytesWorld_size]; omega, fun k hk _ => Lib.bytesWorld_at_old w 5 s k hk⟩ : w.grownBy (Lib.bytesWorld w 5 s) none) (Nat.le_refl _) (fun k hk => by cases hk)

/-- So many bytes are lower letters already. -/
def lowL (l : List UInt8) (i : Nat) : List UInt8 := (l.take i).map lowB ++ l.drop i
theorem lowL_len (l : List UInt8) (i : Nat) (hi : i ≤ l.length) : (lowL l i).length = l.length := by simp [lowL]; omega
theorem lowL_at {l : List UInt8} {i : Nat} (hi : i < l.length) : (lowL l i)[i]? = some l[i] := by
  have h : ((l.take i).map lowB).length = i := by simp; omega
  unfold lowL
  rw [List.getElem?_append_right (by omega), h, Nat.sub_self, List.getElem?_drop, Nat.add_zero]
  exact List.getElem?_eq_getElem hi
theorem lowL_next {l : List UInt8} {i : Nat} (hi : i < l.length) : lowL l (i + 1) = (lowL l i).set i (lowB l[i]) := by
  have h : ((l.take i).map lowB).length = i := by simp; omega
  unfold lowL
  rw [List.set_append_right _ _ (by omega), h, Nat.sub_self, List.take_succ_eq_append_getElem hi, List.map_append, List.append_assoc, List.drop_eq_getElem_cons hi]
  rfl
theorem lowL_all (l : List UInt8) : lowL l l.length = l.map lowB := by simp [lowL]
theorem lowB_up {b : UInt8} (h1 : 65 ≤ b.toNat) (h2 : b.toNat ≤ 90) : ((lowB b).toNat : Int) = (b.toNat : Int) + 32 := by
  rw [lowB, if_pos ⟨h1, h2⟩, UInt8.toNat_add]
  have : (32 : UInt8).toNat = 32 := rfl
  omega

set_option maxRecDepth 100000 in
set_option maxHeartbeats 4000000 in
theorem specLowWord_any (s : ByteArray) (w : World) (hs : s.size ≤ 1099511627776) :
    Calls Try.prog 19 #[.string s] w fun e w' => e = .returned (.string (lowW s)) ∧ Below w.heap.size w w' := by
  have hconv : ∀ wx, (convert 9 22 (.string s)).run Try.prog wx = .ok (.slice (some ⟨wx.heap.size, 0, none⟩) s.size (grownCap wx s.size 0 5)) (Lib.bytesWorld wx 5 s) :=
    fun wx => Lib.run_convert_string_bytes (P := Try.prog) wx 9 22 5 s Try.underlying9 Try.underlying22 Try.underlying5
  have hb := below_bt w s
  have hat := btAt_new w s.data.toList
  rw [ba_self] at hat
  have hlen : s.data.toList.length = s.size := by rw [Array.length_toList]; rfl
  obtain ⟨l, hl⟩ : ∃ l, s.data.toList = l := ⟨_, rfl⟩
  have hlw : lowW s = ⟨(l.map lowB).toArray⟩ := by unfold lowW; rw [hl]
  rw [hlw]
  rw [hl] at hat hlen
  clear hl hlw
  go_enter Try.func19, Try.ntmps19
  go_upto_region 2 with fail
  clear hconv
  generalize grownCap w s.size 0 5 = C
  generalize Lib.bytesWorld w 5 s = w1 at *
  obtain ⟨g, hg⟩ : ∃ g, w.heap.size = g := ⟨_, rfl⟩
  have HG := Lib.hid hg
  rw [hg] at hat hb ⊢
  clear hg
  generalize s.size = n at *
  have HL := Lib.hid hlen
  go_wp2
  go_loopw [4] (fun iv wr => ∃ i : Nat, i ≤ n ∧ iv = .int .i64 (i : Int) ∧ BtAt wr g (lowL l i) ∧ Below g w wr) (fun iv _ => n - (intOf iv).toNat)
  case atStart => exact ⟨0, by omega, rfl, by simpa [lowL] using hat, hb⟩
  case round =>
    obtain ⟨i, hi, rfl, hA, hB⟩ := hrel
    have HA := Lib.hid hA
    have HB := Lib.hid hB
    clear hA hB hat hb
    by_cases hlt : i < n
    · have hi0 : (0 : Int) ≤ (i : Int) := by omega
      have hi1 : (i : Int) < (n : Int) := by omega
      have hil : i < l.length := by have := HL.out; omega
      obtain ⟨p0, f0⟩ := HA.out i _ (lowL_at hil)
      have HST : Hid (BtAt (wr.setCell ⟨g, i, none⟩ (.int .u8 ((lowB l[i]).toNat : Int))) g (lowL l (i + 1))) := by
        rw [lowL_next hil]
        exact HA.out.set i (by rw [lowL_len l i (by omega)]; exact hil) _
      have HNO : Hid (¬ (65 ≤ l[i].toNat ∧ l[i].toNat ≤ 90) → lowL l (i + 1) = lowL l i) := fun h => by
        rw [lowL_next hil, lowB, if_neg h]
        exact List.ext_getElem? fun j => by
          by_cases c : i = j
          · subst c; rw [List.getElem?_set_self (by rw [lowL_len l i (by omega)]; exact hil), lowL_at hil]
          · rw [List.getElem?_set_ne c]
      have HUP : Hid (65 ≤ l[i].toNat → l[i].toNat ≤ 90 → ((lowB l[i]).toNat : Int) = (l[i].toNat : Int) + 32) := fun a b => lowB_up a b
      have HLI := Lib.hid hil
      generalize l[i] = b at *
      generalize lowB b = c at *
      by_cases u1 : 65 ≤ b.toNat
      · have v1 : (65 : Int) ≤ (b.toNat : Int) := by omega
        by_cases u2 : b.toNat ≤ 90
        · have v2 : (b.toNat : Int) ≤ 90 := by omega
          have hc := HUP.out u1 u2
          rw [hc] at HST
          have hw : IntKind.u8.wrap ((b.toNat : Int) + 32) = (b.toNat : Int) + 32 := IntWalk.u8_in _ ⟨by omega, by omega⟩
          have HBS := Lib.hid (HB.out.setCell (p := ⟨g, i, none⟩) (Nat.le_refl _) (.int .u8 ((b.toNat : Int) + 32)))
          clear hc u1 u2 hil
          generalize (b.toNat : Int) = y at *
          go_wp2
          go_roundw
          case rel => exact ⟨i + 1, by omega, by go_num, HST.out, HBS.out⟩
          case measure => simp [intOf]; omega
        · have v2 : ¬ ((b.toNat : Int) ≤ 90) := by omega
          have HK : Hid (BtAt wr g (lowL l (i + 1))) := by show BtAt wr g (lowL l (i + 1)); rw [HNO.out (fun h => u2 h.2)]; exact HA.out
          clear u1 u2 hil
          generalize (b.toNat : Int) = y at *
          go_wp2
          go_roundw
          case rel => exact ⟨i + 1, by omega, by go_num, HK.out, HB.out⟩
          case measure => simp [intOf]; omega
      · have v1 : ¬ ((65 : Int) ≤ (b.toNat : Int)) := by omega
        have HK : Hid (BtAt wr g (lowL l (i + 1))) := by show BtAt wr g (lowL l (i + 1)); rw [HNO.out (fun h => u1 h.1)]; exact HA.out
        clear u1 hil
        generalize (b.toNat : Int) = y at *
        go_wp2
        go_roundw
        case rel => exact ⟨i + 1, by omega, by go_num, HK.out, HB.out⟩
        case measure => simp [intOf]; omega
    · have e : lowL l i = l.map lowB := by rw [← lowL_all, show i = l.length by have := HL.out; omega]
      have hcv := (HA.out.toString C n (by rw [lowL_len l i (by have := HL.out; omega)]; exact HL.out))
      rw [e] at hcv
      clear e
      go_wp2
      go_ret
      exact ⟨rfl, by rw [HG.out]; exact HB.out⟩

end Go.Proofs.Ytichbcpidkkblaa
