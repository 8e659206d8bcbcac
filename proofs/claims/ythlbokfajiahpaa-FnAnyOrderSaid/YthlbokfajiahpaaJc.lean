/- Texts of our own, joined. -/
import Derived.Test.YthlbokfajiahpaaJb
import Derived.Maps.AppendAt
import Derived.Lib.ConvBytes
import Derived.Lib.Buffer
import Derived.Lib.SmallJoins
import Derived.Test.YthlbokfajiahpaaJa
import Derived.Laws.Concat
import Derived.Lib.Hide
import Derived.Deep.RegionHeld3
import Derived.Deep.RegionLaw
import Derived.Deep.QuietTactic
import Derived.BigQuiet
/- Appends to a list of bytes beside other memory of the call's own: what else lies there stays; inside a region that draws its order too; and the bytes of a string laid in a row of their own. -/
namespace Go.Proofs.Ythlbokfajiahpaa
open Go.RowKit

/-- Behind an append from v to v': v' lies where v lay, or in a new block; every other block is as it was. -/
structure Keeps (w w' : World) (v v' : Value) : Prop where
  place : v'.ownBlock = v.ownBlock ∨ v'.ownBlock = some w.heap.size
  other : ∀ g, g < w.heap.size → some g ≠ v.ownBlock → w'.heap[g]? = w.heap[g]?
  size : w.heap.size ≤ w'.heap.size

theorem Keeps.block {w w' : World} {v v' : Value} (h : Keeps w w' v v') {g : Nat} {o : Obj} (hg : w.heap[g]? = some o) (ha : v.ownBlock ≠ some g) : w'.heap[g]? = some o ∧ v'.ownBlock ≠ some g := by
  have hlt : g < w.heap.size := by
    by_cases hh : g < w.heap.size
    · exact hh
    · rw [Array.getElem?_eq_none (by omega)] at hg; cases hg
  refine ⟨(h.other g hlt (Ne.symm ha)).trans hg, ?_⟩
  rcases h.place with e | e
  · rw [e]; exact ha
  · rw [e]; intro e2; have := Option.some.inj e2; omega

theorem heap_drew (w : World) (g : Nat) : (w.drew).heap[g]? = w.heap[g]? := rfl
theorem heap_alloc_some {w : World} {g : Nat} {o : Obj} (h : w.heap[g]? = some o) (x : Obj) : (w.alloc x).heap[g]? = some o := by
  have hlt : g < w.heap.size := by
    by_cases hh : g < w.heap.size
    · exact hh
    · rw [Array.getElem?_eq_none (by omega)] at h; cases h
  rw [Below.heap_alloc w x g hlt, h]

theorem run_append_bytes {w0 w : World} (ty : TypeId) (B : Nat) (v : Value) (l : List UInt8) (hb : Buf B w0 w v l)
    (ad : Addr) (news : List UInt8) (c : Nat) (hnews : ∀ j u, (bytesV news)[j]? = some u → w.cell? (ad.add j) = some u)
    (hlen : l.length + news.length ≤ 140737488355328) :
    ∃ v' w', (Builtin.append_ #[22, 22] ty #[v, .slice (some ad) news.length c]).run Try.prog w = .ok v' w' ∧ Buf B w0 w' v' (l ++ news) ∧ Keeps w w' v v' := by
  obtain ⟨i0, hi, hz0, hz1, hz2⟩ := info_parts Try.info_u8
  obtain ⟨v', w', h1, h2, h3, _, h5⟩ := run_append_own_at (P := Try.prog) w B 22 ty 5 i0 (.int .u8 0) 1 1 Try.underlying22 hi hz0 hz1 hz2 rfl (by decide) v l.length (bytesV l) hb.own ad news.length c (bytesV news) (by simp [bytesV]) hnews
    (by intro u hu; simp only [bytesV, List.mem_map] at hu; obtain ⟨c, _, rfl⟩ := hu; rfl) (by unfold maxLen; omega) (by omega) hb.le
  have e1 : (l ++ news).length = l.length + news.length := by simp
  have e2 : bytesV (l ++ news) = bytesV l ++ bytesV news := by simp [bytesV]
  exact ⟨v', w', h1, ⟨by rw [e1, e2]; exact h2, hb.bel.grown h3 hb.le (fun k hk => (hb.own.lt k hk).1), Nat.le_trans hb.le h3.size⟩, ⟨h5, fun g hg hne => h3.block g hg hne, h3.size⟩⟩

theorem wp_append_bytes {w0 w : World} {o : Oper} {a : Act} {K : Act → World → Prop} {Q : Exit → Act → World → Prop} (s x : Operand)
    (ho : o.op = .call { callee := .builtin .append, args := #[s, x], argTypes := #[22, 22] })
    (B : Nat) (v : Value) (l : List UInt8) (hs : a.eval s = v) (hb : Buf B w0 w v l)
    (ad : Addr) (news : List UInt8) (c : Nat) (hx : a.eval x = .slice (some ad) news.length c)
    (hnews : ∀ j u, (bytesV news)[j]? = some u → w.cell? (ad.add j) = some u)
    (hlen : l.length + news.length ≤ 140737488355328)
    (h : ∀ v' w', Buf B w0 w' v' (l ++ news) → Keeps w w' v v' → K (a.put o.dst v') w') : o.wp Try.prog a w K Q := by
  obtain ⟨v', w', hr, h2, h3⟩ := run_append_bytes o.type B v l hb ad news c hnews hlen
  unfold Oper.wp execOp
  simp only [ho, resolve, invoke, builtin, Sem.run_bind, Sem.run_pure, Result.andThen_ok, List.map_toArray, List.map_cons, List.map_nil, hs, hx, hr]
  exact h v' w' h2 h3

/-- The same at a list of operations that goes in its own order. -/
theorem wpList_append_kept {w0 w : World} {ops : Array Oper} {rest : List Oper} {o : Oper} {a : Act} {Q : Exit → Act → World → Prop} (hgd : o.guard = none) (s x : Operand)
    (ho : o.op = .call { callee := .builtin .append, args := #[s, x], argTypes := #[22, 22] })
    (B : Nat) (v : Value) (l : List UInt8) (hs : a.eval s = v) (hb : Buf B w0 w v l)
    (ad : Addr) (news : List UInt8) (c : Nat) (hx : a.eval x = .slice (some ad) news.length c)
    (hnews : ∀ j u, (bytesV news)[j]? = some u → w.cell? (ad.add j) = some u)
    (hlen : l.length + news.length ≤ 140737488355328)
    (h : ∀ v' w', Buf B w0 w' v' (l ++ news) → Keeps w w' v v' → wpList Try.prog ops Q rest (a.put o.dst v') w') : wpList Try.prog ops Q (o :: rest) a w :=
  wpList_plain hgd fun _ hK => wp_append_bytes s x ho B v l hs hb ad news c hx hnews hlen fun v' w' h2 h3 => hK _ _ (h v' w' h2 h3)

/-- The same at a step of a region that draws its order. -/
theorem step_append_bytes {w0 w : World} {ops : Array Oper} {o : Oper} {a : Act} {K : Act → World → Prop} {Q : Exit → Act → World → Prop} {E : Prop} (hgd : o.guard = none) (s x : Operand)
    (ho : o.op = .call { callee := .builtin .append, args := #[s, x], argTypes := #[22, 22] })
    (B : Nat) (v : Value) (l : List UInt8) (hs : a.eval s = v) (hb : Buf B w0 w v l)
    (ad : Addr) (news : List UInt8) (c : Nat) (hx : a.eval x = .slice (some ad) news.length c)
    (hnews : ∀ j u, (bytesV news)[j]? = some u → w.cell? (ad.add j) = some u)
    (hlen : l.length + news.length ≤ 140737488355328)
    (h : ∀ v' w', Buf B w0 w' v' (l ++ news) → Keeps w w' v v' → K (a.put o.dst v') w') :
    if Region.wanted o (yielded ops a.tmps) = true then Oper.wp Try.prog o a w K Q else E := by
  have hw : Region.wanted o (yielded ops a.tmps) = true := by simp [Region.wanted, hgd]
  rw [if_pos hw]
  exact wp_append_bytes s x ho B v l hs hb ad news c hx hnews hlen h

/-- Two cells of a new block, as an append asks for them; behind a draw. -/
theorem two_new (w : World) (x y : Int) (b c : UInt8) (hx : x = (b.toNat : Int)) (hy : y = (c.toNat : Int)) :
    ∀ j u, (bytesV [b, c])[j]? = some u → ((w.alloc (.cells #[.int .u8 x, .int .u8 y] 5)).drew).cell? ((⟨w.heap.size, 0, none⟩ : Addr).add j) = some u := by
  subst hx hy
  intro j u hj
  match j, hj with
  | 0, hj => simp [bytesV] at hj; subst hj; simp [Addr.add]
  | 1, hj => simp [bytesV] at hj; subst hj; simp [Addr.add]
  | j + 2, hj => simp [bytesV] at hj

/-- The row that []byte(s) lays: its block is there, whatever is laid behind it. -/
theorem bytes_block (w : World) (s : ByteArray) : ∃ o : Obj, (Lib.bytesWorld w 5 s).heap[w.heap.size]? = some o ∧
    ∀ wx : World, wx.heap[w.heap.size]? = some o → ∀ j (hj : j < s.size), wx.cell? ⟨w.heap.size, j, none⟩ = some (.int .u8 (s[j].toNat : Int)) := by
  refine ⟨_, Lib.bytesWorld_at_new w 5 s, fun wx hx j hj => ?_⟩
  have h1 := Lib.bytesWorld_cell w 5 s j hj
  rw [World.cell?_of_block (w := Lib.bytesWorld w 5 s) (a := ⟨w.heap.size, j, none⟩) (by rw [hx, Lib.bytesWorld_at_new]), h1]
  have : s.data.toList.getD j 0 = s[j] := by
    rw [List.getD_eq_getElem?_getD, List.getElem?_eq_getElem (by simpa using hj)]; rfl
  rw [this]

theorem Buf.bytesWorld {B : Nat} {w0 w : World} {v : Value} {l : List UInt8} (h : Buf B w0 w v l) (s : ByteArray) : Buf B w0 (Lib.bytesWorld w 5 s) v l := by
  have hg : w.grownBy (Lib.bytesWorld w 5 s) none := ⟨rfl, rfl, rfl, by rw [Lib.bytesWorld_size]; omega, fun k hk _ => Lib.bytesWorld_at_old w 5 s k hk⟩
  refine ⟨h.own.kept hg ?_, h.bel.grown hg h.le (fun k hk => by cases hk), Nat.le_trans h.le hg.size⟩
  cases hv : v.ownBlock with
  | none => exact .inl rfl
  | some k => exact .inr (by simp)

/-- make([]byte, 0, n). -/
theorem wpList_make_bytes {w : World} {ops : Array Oper} {rest : List Oper} {o : Oper} {a : Act} {Q : Exit → Act → World → Prop} (hg : o.guard = none) (l c : Operand) (hop : o.op = Op.makeSlice 22 l c)
    (kl kc : IntKind) (C : Int) (n : Nat) (hl : a.eval l = .int kl 0) (hc : a.eval c = .int kc C) (hC : C = (n : Int)) (hn : n ≤ 281474976710656)
    (h : ∀ w' g, Buf w.heap.size w w' (.slice (some ⟨g, 0, none⟩) 0 n) [] → g < w'.heap.size → wpList Try.prog ops Q rest (a.put o.dst (.slice (some ⟨g, 0, none⟩) 0 n)) w') : wpList Try.prog ops Q (o :: rest) a w := by
  obtain ⟨i0, hi, hz0, hz1, hz2⟩ := info_parts Try.info_u8
  refine wpList_make_own w hg l c 22 hop w.heap.size 5 i0 (.int .u8 0) 1 Try.underlying22 hi hz0 hz1 kl kc C n hl hc hC (by rw [hz2]; omega) (by unfold maxLen; omega) (Nat.le_refl _) ?_
  intro w' hown hgrow
  exact h w' w.heap.size ⟨hown, (Below.refl _ _).grown hgrow (Nat.le_refl _) (fun k hk => by cases hk), hgrow.size⟩ (hown.lt w.heap.size rfl).2

theorem Buf.form {B : Nat} {w0 w : World} {v : Value} {l : List UInt8} (h : Buf B w0 w v l) : ∃ (a : Option Addr) (cap : Nat), v = .slice a l.length cap := by
  rcases h.own.2 with ⟨rfl, h0⟩ | ⟨g, cap, cur, rfl, _⟩
  · exact ⟨none, 0, by rw [h0]⟩
  · exact ⟨_, _, rfl⟩

/-- Where something is held, it lies at the head of a row of the call's own, and each byte is in its cell. -/
theorem Buf.at {B : Nat} {w0 w : World} {v : Value} {l : List UInt8} (h : Buf B w0 w v l) (hl : l ≠ []) : ∃ g cap : Nat, v = .slice (some ⟨g, 0, none⟩) l.length cap ∧ l.length ≤ cap ∧ B ≤ g ∧ g < w.heap.size ∧
    ∀ j b, l[j]? = some b → w.cell? ⟨g, j, none⟩ = some (.int .u8 (b.toNat : Int)) := by
  rcases h.own.2 with ⟨rfl, h0⟩ | ⟨g, cap, cur, rfl, hg, hh, hnc, hcp, hcs, htake⟩
  · exact absurd (List.length_eq_zero_iff.1 h0) hl
  · refine ⟨g, cap, rfl, hnc, hg, (h.own.lt g rfl).2, fun j b hj => ?_⟩
    have hlt : j < l.length := (List.getElem?_eq_some_iff.1 hj).1
    rw [h.own.cellAt j (by omega)]
    simp [bytesV, hj]

end Go.Proofs.Ythlbokfajiahpaa

/- A variable of the call's own. -/
namespace Go.Proofs.Ythlbokfajiahpaa
open Go.RowKit

theorem stored_grown (w : World) (g i : Nat) (v : Value) : w.grownBy (w.setCell ⟨g, i, none⟩ v) (some g) :=
  have b := (Below.refl 0 w).setCell (p := ⟨g, i, none⟩) (Nat.zero_le _) v
  ⟨b.os, b.tape, b.output, b.size, fun k _ hne => Below.heap_setCell w _ _ _ (fun e => hne (by rw [e]))⟩

variable {w w' : World}

/-- A variable of the call's own: its cells stand in the block b. -/
def Box (w : World) (b : Nat) (cs : Array Value) (t : TypeId) : Prop := w.heap[b]? = some (.cells cs t (0, 0))

theorem Box.new (w : World) (cs : Array Value) (t : TypeId) : Box (w.alloc (.cells cs t)) w.heap.size cs t := heap_alloc_new w _
theorem Box.lt {b : Nat} {cs : Array Value} {t : TypeId} (h : Box w b cs t) : b < w.heap.size := (Array.getElem?_eq_some_iff.1 h).1
theorem Box.cell {b : Nat} {cs : Array Value} {t : TypeId} (h : Box w b cs t) (j : Nat) (u : Value) (hu : cs[j]? = some u) : w.cell? ⟨b, j, none⟩ = some u := by
  rw [Joins.cell_of_block h, hu]
theorem Box.loose {b : Nat} {cs : Array Value} {t : TypeId} (h : Box w b cs t) (j : Nat) : w.frozen? ⟨b, j, none⟩ = false := Joins.unfrozen_of_block h j
theorem Box.later {b : Nat} {cs : Array Value} {t : TypeId} (h : Box w b cs t) (hb : Below w.heap.size w w') : Box w' b cs t := (hb.block b h.lt).trans h
theorem Box.under {b B : Nat} {cs : Array Value} {t : TypeId} (h : Box w b cs t) (hb : Below B w w') (hl : b < B) : Box w' b cs t := (hb.block b hl).trans h
theorem Box.set {b : Nat} {cs : Array Value} {t : TypeId} (h : Box w b cs t) (j : Nat) (u : Value) : Box (w.setCell ⟨b, j, none⟩ u) b (cs.setIfInBounds j u) t := Joins.block_setCell h u
theorem Box.other {b g : Nat} {cs : Array Value} {t : TypeId} (h : Box w b cs t) (hne : b ≠ g) (j : Nat) (u : Value) : Box (w.setCell ⟨g, j, none⟩ u) b cs t :=
  ((stored_grown w g j u).block b h.lt (fun e => hne (Option.some.inj e))).trans h

/-- The three cells of a variable. -/
theorem Box.three {b : Nat} {u0 u1 u2 : Value} {t : TypeId} (h : Box w b #[u0, u1, u2] t) : w.cell? ⟨b, 0, none⟩ = some u0 ∧ w.cell? ⟨b, 1, none⟩ = some u1 ∧ w.cell? ⟨b, 2, none⟩ = some u2 ∧ w.frozen? ⟨b, 0, none⟩ = false ∧ w.frozen? ⟨b, 1, none⟩ = false ∧ w.frozen? ⟨b, 2, none⟩ = false :=
  ⟨h.cell 0 _ rfl, h.cell 1 _ rfl, h.cell 2 _ rfl, h.loose 0, h.loose 1, h.loose 2⟩
/-- The three cells stored. -/
def set3 (w : World) (b : Nat) (v0 v1 v2 : Value) : World := ((w.setCell ⟨b, 0, none⟩ v0).setCell ⟨b, 1, none⟩ v1).setCell ⟨b, 2, none⟩ v2
theorem Box.set3 {b : Nat} {u0 u1 u2 : Value} {t : TypeId} (h : Box w b #[u0, u1, u2] t) (v0 v1 v2 : Value) : Box (set3 w b v0 v1 v2) b #[v0, v1, v2] t := ((h.set 0 v0).set 1 v1).set 2 v2
theorem below_set3 {B b : Nat} {w0 : World} (h : Below B w0 w) (hb : B ≤ b) (v0 v1 v2 : Value) : Below B w0 (set3 w b v0 v1 v2) :=
  ((h.setCell (p := ⟨b, 0, none⟩) hb v0).setCell (p := ⟨b, 1, none⟩) hb v1).setCell (p := ⟨b, 2, none⟩) hb v2

end Go.Proofs.Ythlbokfajiahpaa

/- Records: what the model's WordOk, RecOk, RecText hand back. -/
namespace Go.Proofs.Ythlbokfajiahpaa
open Go.RowKit

/-- A record as a value. -/
def Rc.v (r : Rc) : Value := .agg #[.int .i64 r.kind, .int .i64 r.valid, .int .i64 r.uid, .int .i64 r.next, .int .i64 r.flags, .string r.user, .string r.name, .string r.text]
/-- Its cells. -/
def Rc.cs (r : Rc) : Array Value := #[.int .i64 r.kind, .int .i64 r.valid, .int .i64 r.uid, .int .i64 r.next, .int .i64 r.flags, .string r.user, .string r.name, .string r.text]

/-- The eight cells of a record's box. -/
theorem Box.rec {w : World} {b : Nat} {r : Rc} {t : TypeId} (h : Box w b r.cs t) : w.cell? ⟨b, 0, none⟩ = some (.int .i64 r.kind) ∧ w.cell? ⟨b, 1, none⟩ = some (.int .i64 r.valid) ∧ w.cell? ⟨b, 2, none⟩ = some (.int .i64 r.uid) ∧ w.cell? ⟨b, 3, none⟩ = some (.int .i64 r.next) ∧ w.cell? ⟨b, 4, none⟩ = some (.int .i64 r.flags) ∧ w.cell? ⟨b, 5, none⟩ = some (.string r.user) ∧ w.cell? ⟨b, 6, none⟩ = some (.string r.name) ∧ w.cell? ⟨b, 7, none⟩ = some (.string r.text) :=
  ⟨h.cell 0 _ rfl, h.cell 1 _ rfl, h.cell 2 _ rfl, h.cell 3 _ rfl, h.cell 4 _ rfl, h.cell 5 _ rfl, h.cell 6 _ rfl, h.cell 7 _ rfl⟩

theorem index_atW (s : ByteArray) (k : Nat) (h : k < s.size) (wx : World) :
    (Instr.index 9 (.string s) (.int .i64 (k : Int))).run Try.prog wx = .ok (.int .u8 (s[k].toNat : Int)) wx := by
  have hu := Try.underlying9
  simp [Instr.index, run_underlying hu, go_sem, h]

theorem l01In_yes (n lo hi : Int) (w : World) (h1 : lo ≤ n) (h2 : n ≤ hi) :
    Calls Try.prog 56 #[.int .i64 n, .int .i64 lo, .int .i64 hi] w fun e w' => e = .returned (.bool true) ∧ w = w' :=
  (l01In_any n lo hi w).mono fun _ _ h => ⟨by rw [h.1]; simp [h1, h2], h.2.symm⟩
theorem l01In_no (n lo hi : Int) (w : World) (h : ¬ (lo ≤ n ∧ n ≤ hi)) :
    Calls Try.prog 56 #[.int .i64 n, .int .i64 lo, .int .i64 hi] w fun e w' => e = .returned (.bool false) ∧ w = w' :=
  (l01In_any n lo hi w).mono fun _ _ h' => ⟨by rw [h'.1]; simp; omega, h'.2.symm⟩

set_option maxRecDepth 100000 in
theorem specWordOk_any (s : ByteArray) (w : World) (hs : s.size ≤ 1099511627776) :
    Calls Try.prog 21 #[.string s] w fun e w' => e = .returned (.bool (decide (wdOk s))) ∧ w = w' := by
  go_enter Try.func21, Try.ntmps21
  go_wp2
  go_loop [3] (fun iv => ∃ i : Nat, i ≤ s.size ∧ iv = .int .i64 (i : Int) ∧ ∀ j (hj : j < s.size), j < i → 97 ≤ s[j].toNat ∧ s[j].toNat ≤ 122) (fun iv => s.size - (intOf iv).toNat)
  case atStart => exact ⟨0, by omega, rfl, fun j _ hj => by omega⟩
  case round =>
    obtain ⟨i, hi, rfl, hall⟩ := hrel
    have HA := Lib.hid hall
    clear hall
    by_cases hlt : i < s.size
    · have hlt' : (i : Int) < (s.size : Int) := by omega
      have hix := index_atW s i hlt
      have HB : Hid (¬ (97 ≤ s[i].toNat ∧ s[i].toNat ≤ 122) → decide (wdOk s) = false) := fun h => decide_eq_false (fun hw => h (hw.2 _ (by
        show s.data[i] ∈ s.data.toList
        exact Array.getElem_mem_toList _)))
      have HN : Hid (97 ≤ s[i].toNat ∧ s[i].toNat ≤ 122 → ∀ j (hj : j < s.size), j < i + 1 → 97 ≤ s[j].toNat ∧ s[j].toNat ≤ 122) := by
        intro h j hj hji
        by_cases e : j = i
        · subst e; exact h
        · exact HA.out j hj (by omega)
      generalize s[i].toNat = c at hix HB HN
      by_cases h1 : c < 97
      · have h1' : (c : Int) < 97 := by omega
        go_wp2
        go_ret
        exact ⟨by rw [HB.out (by omega)]; rfl, rfl⟩
      · have h1' : ¬ (c : Int) < 97 := by omega
        by_cases h2 : 122 < c
        · have h2' : (122 : Int) < (c : Int) := by omega
          go_wp2
          go_ret
          exact ⟨by rw [HB.out (by omega)]; rfl, rfl⟩
        · have h2' : ¬ (122 : Int) < (c : Int) := by omega
          go_wp2
          go_round
          case rel => exact ⟨i + 1, by omega, by go_num, HN.out ⟨by omega, by omega⟩⟩
          case measure => simp [intOf]; omega
    · have hge : ¬ (i : Int) < (s.size : Int) := by omega
      have HE : Hid (decide (wdOk s) = decide (1 ≤ s.size ∧ s.size ≤ 8)) := show _ = _ from decide_eq_decide.2 ⟨fun h => h.1, fun h => ⟨h, fun b hb => by
        obtain ⟨j, hj, rfl⟩ := List.getElem_of_mem hb
        have hj2 : j < s.size := by rw [← tl_len]; exact hj
        exact HA.out j hj2 (by omega)⟩⟩
      by_cases hin : 1 ≤ s.size ∧ s.size ≤ 8
      · go_wp2_with (go_at_call 56; refine (l01In_yes _ _ _ _ (by omega) (by omega)).mono ?_; rintro e w5 ⟨rfl, rfl⟩)
        go_ret
        exact ⟨by rw [HE.out, decide_eq_true hin]; rfl, rfl⟩
      · go_wp2_with (go_at_call 56; refine (l01In_no _ _ _ _ (by omega)).mono ?_; rintro e w5 ⟨rfl, rfl⟩)
        go_ret
        exact ⟨by rw [HE.out, decide_eq_false hin]; rfl, rfl⟩

theorem emp_beq (s : ByteArray) : (s.toList == []) = decide (s = emp) := by
  rw [Go.ByteArray.toList_eq]
  by_cases h : s = emp
  · rw [decide_eq_true h, h]; rfl
  · rw [decide_eq_false h]
    refine beq_eq_false_iff_ne.2 fun e => h ?_
    obtain ⟨⟨l⟩⟩ := s
    simp at e
    rw [e]; rfl

set_option maxRecDepth 100000 in
set_option maxHeartbeats 4000000 in
theorem specRecOk_any (r : Rc) (w : World) (h1 : r.user.size ≤ 1099511627776) (h2 : r.name.size ≤ 1099511627776) (h3 : r.text.size ≤ 1099511627776) :
    Calls Try.prog 15 #[r.v] w fun e w' => e = .returned (.bool (decide r.ok)) ∧ Below w.heap.size w w' := by
  have b0 : Below w.heap.size w (w.alloc (.cells r.cs 25)) := (Below.refl _ _).alloc (Nat.le_refl _) _
  have hx := Box.new w r.cs 25
  obtain ⟨c0, c1, c2, c3, c4, c5, c6, c7⟩ := hx.rec
  obtain ⟨kind, valid, uid, next, flags, user, name, text⟩ := r
  unfold Rc.v
  unfold Rc.cs at c0 c1 c2 c3 c4 c5 c6 c7 b0
  simp only at c0 c1 c2 c3 c4 c5 c6 c7 b0 h1 h2 h3 ⊢
  clear hx
  obtain ⟨bu, hbu⟩ : ∃ bu, decide (wdOk user) = bu := ⟨_, rfl⟩
  obtain ⟨bn, hbn⟩ : ∃ bn, decide (wdOk name) = bn := ⟨_, rfl⟩
  obtain ⟨eu, heu⟩ : ∃ eu, decide (user = emp) = eu := ⟨_, rfl⟩
  obtain ⟨en, hen⟩ : ∃ en, decide (name = emp) = en := ⟨_, rfl⟩
  obtain ⟨et, het⟩ : ∃ et, decide (text = emp) = et := ⟨_, rfl⟩
  have qu : (user.toList == []) = eu := by rw [emp_beq, heu]
  have qn : (name.toList == []) = en := by rw [emp_beq, hen]
  have qt : (text.toList == []) = et := by rw [emp_beq, het]
  have HE : Hid (decide (Rc.ok ⟨kind, valid, uid, next, flags, user, name, text⟩) = decide ((1 ≤ kind ∧ kind ≤ 5) ∧ (1 ≤ valid ∧ valid ≤ 9999) ∧ (if kind = 1 then bu = true ∧ bn = true ∧ 1 ≤ next ∧ next ≤ 10000 else eu = true ∧ en = true ∧ next = 0) ∧ (if 3 ≤ kind then 1 ≤ uid ∧ uid ≤ 9999 else uid = 0) ∧ (if kind = 3 ∨ kind = 4 then 0 ≤ flags ∧ flags ≤ 7 else flags = 0) ∧ (if kind = 3 then text.size ≤ 100 else et = true))) := by
    rw [← hbu, ← hbn, ← heu, ← hen, ← het]
    simp only [decide_eq_true_eq]
    exact decide_eq_decide.2 Iff.rfl
  have HU := Lib.hid hbu
  have HN := Lib.hid hbn
  clear hbu hbn heu hen het
  go_enter Try.func15, Try.ntmps15
  by_cases hk : 1 ≤ kind ∧ kind ≤ 5
  · by_cases hv : 1 ≤ valid ∧ valid ≤ 9999
    · rcases (show kind = 1 ∨ kind = 2 ∨ kind = 3 ∨ kind = 4 ∨ kind = 5 by omega) with rfl | rfl | rfl | rfl | rfl
      · skip
        cases bu
        case false =>
          go_wp2_with (first | (go_at_call 56; first | (refine (l01In_yes _ _ _ _ (by omega) (by omega)).mono ?_; rintro e w5 ⟨rfl, rfl⟩) | (refine (l01In_no _ _ _ _ (by omega)).mono ?_; rintro e w5 ⟨rfl, rfl⟩)) | (go_at_call 21; refine (specWordOk_any _ _ (by first | exact h1 | exact h2)).mono ?_; rintro e w5 ⟨rfl, rfl⟩; first | rw [HU.out] | rw [HN.out]))
          go_ret
          exact ⟨by rw [HE.out, decide_eq_false (by simp)]; rfl, b0⟩
        cases bn
        case false =>
          go_wp2_with (first | (go_at_call 56; first | (refine (l01In_yes _ _ _ _ (by omega) (by omega)).mono ?_; rintro e w5 ⟨rfl, rfl⟩) | (refine (l01In_no _ _ _ _ (by omega)).mono ?_; rintro e w5 ⟨rfl, rfl⟩)) | (go_at_call 21; refine (specWordOk_any _ _ (by first | exact h1 | exact h2)).mono ?_; rintro e w5 ⟨rfl, rfl⟩; first | rw [HU.out] | rw [HN.out]))
          go_ret
          exact ⟨by rw [HE.out, decide_eq_false (by simp)]; rfl, b0⟩
        by_cases hnext : 1 ≤ next ∧ next ≤ 10000
        rotate_left
        · skip
          go_wp2_with (first | (go_at_call 56; first | (refine (l01In_yes _ _ _ _ (by omega) (by omega)).mono ?_; rintro e w5 ⟨rfl, rfl⟩) | (refine (l01In_no _ _ _ _ (by omega)).mono ?_; rintro e w5 ⟨rfl, rfl⟩)) | (go_at_call 21; refine (specWordOk_any _ _ (by first | exact h1 | exact h2)).mono ?_; rintro e w5 ⟨rfl, rfl⟩; first | rw [HU.out] | rw [HN.out]))
          go_ret
          exact ⟨by rw [HE.out, decide_eq_false (by simp; omega)]; rfl, b0⟩
        by_cases huid : uid = 0
        rotate_left
        · have huid' : (uid == 0) = false := beq_eq_false_iff_ne.2 huid
          go_wp2_with (first | (go_at_call 56; first | (refine (l01In_yes _ _ _ _ (by omega) (by omega)).mono ?_; rintro e w5 ⟨rfl, rfl⟩) | (refine (l01In_no _ _ _ _ (by omega)).mono ?_; rintro e w5 ⟨rfl, rfl⟩)) | (go_at_call 21; refine (specWordOk_any _ _ (by first | exact h1 | exact h2)).mono ?_; rintro e w5 ⟨rfl, rfl⟩; first | rw [HU.out] | rw [HN.out]))
          go_ret
          exact ⟨by rw [HE.out, decide_eq_false (by simp [huid])]; rfl, b0⟩
        subst huid
        by_cases hflags : flags = 0
        rotate_left
        · have hflags' : (flags == 0) = false := beq_eq_false_iff_ne.2 hflags
          go_wp2_with (first | (go_at_call 56; first | (refine (l01In_yes _ _ _ _ (by omega) (by omega)).mono ?_; rintro e w5 ⟨rfl, rfl⟩) | (refine (l01In_no _ _ _ _ (by omega)).mono ?_; rintro e w5 ⟨rfl, rfl⟩)) | (go_at_call 21; refine (specWordOk_any _ _ (by first | exact h1 | exact h2)).mono ?_; rintro e w5 ⟨rfl, rfl⟩; first | rw [HU.out] | rw [HN.out]))
          go_ret
          exact ⟨by rw [HE.out, decide_eq_false (by simp [hflags])]; rfl, b0⟩
        subst hflags
        go_wp2_with (first | (go_at_call 56; first | (refine (l01In_yes _ _ _ _ (by omega) (by omega)).mono ?_; rintro e w5 ⟨rfl, rfl⟩) | (refine (l01In_no _ _ _ _ (by omega)).mono ?_; rintro e w5 ⟨rfl, rfl⟩)) | (go_at_call 21; refine (specWordOk_any _ _ (by first | exact h1 | exact h2)).mono ?_; rintro e w5 ⟨rfl, rfl⟩; first | rw [HU.out] | rw [HN.out]))
        go_ret
        exact ⟨by rw [HE.out]; (cases et <;> simp [hv, hnext]), b0⟩
      · skip
        cases eu
        case false =>
          go_wp2_with (first | (go_at_call 56; first | (refine (l01In_yes _ _ _ _ (by omega) (by omega)).mono ?_; rintro e w5 ⟨rfl, rfl⟩) | (refine (l01In_no _ _ _ _ (by omega)).mono ?_; rintro e w5 ⟨rfl, rfl⟩)) | (go_at_call 21; refine (specWordOk_any _ _ (by first | exact h1 | exact h2)).mono ?_; rintro e w5 ⟨rfl, rfl⟩; first | rw [HU.out] | rw [HN.out]))
          go_ret
          exact ⟨by rw [HE.out, decide_eq_false (by simp)]; rfl, b0⟩
        cases en
        case false =>
          go_wp2_with (first | (go_at_call 56; first | (refine (l01In_yes _ _ _ _ (by omega) (by omega)).mono ?_; rintro e w5 ⟨rfl, rfl⟩) | (refine (l01In_no _ _ _ _ (by omega)).mono ?_; rintro e w5 ⟨rfl, rfl⟩)) | (go_at_call 21; refine (specWordOk_any _ _ (by first | exact h1 | exact h2)).mono ?_; rintro e w5 ⟨rfl, rfl⟩; first | rw [HU.out] | rw [HN.out]))
          go_ret
          exact ⟨by rw [HE.out, decide_eq_false (by simp)]; rfl, b0⟩
        by_cases hnext : next = 0
        rotate_left
        · have hnext' : (next == 0) = false := beq_eq_false_iff_ne.2 hnext
          go_wp2_with (first | (go_at_call 56; first | (refine (l01In_yes _ _ _ _ (by omega) (by omega)).mono ?_; rintro e w5 ⟨rfl, rfl⟩) | (refine (l01In_no _ _ _ _ (by omega)).mono ?_; rintro e w5 ⟨rfl, rfl⟩)) | (go_at_call 21; refine (specWordOk_any _ _ (by first | exact h1 | exact h2)).mono ?_; rintro e w5 ⟨rfl, rfl⟩; first | rw [HU.out] | rw [HN.out]))
          go_ret
          exact ⟨by rw [HE.out, decide_eq_false (by simp [hnext])]; rfl, b0⟩
        subst hnext
        by_cases huid : uid = 0
        rotate_left
        · have huid' : (uid == 0) = false := beq_eq_false_iff_ne.2 huid
          go_wp2_with (first | (go_at_call 56; first | (refine (l01In_yes _ _ _ _ (by omega) (by omega)).mono ?_; rintro e w5 ⟨rfl, rfl⟩) | (refine (l01In_no _ _ _ _ (by omega)).mono ?_; rintro e w5 ⟨rfl, rfl⟩)) | (go_at_call 21; refine (specWordOk_any _ _ (by first | exact h1 | exact h2)).mono ?_; rintro e w5 ⟨rfl, rfl⟩; first | rw [HU.out] | rw [HN.out]))
          go_ret
          exact ⟨by rw [HE.out, decide_eq_false (by simp [huid])]; rfl, b0⟩
        subst huid
        by_cases hflags : flags = 0
        rotate_left
        · have hflags' : (flags == 0) = false := beq_eq_false_iff_ne.2 hflags
          go_wp2_with (first | (go_at_call 56; first | (refine (l01In_yes _ _ _ _ (by omega) (by omega)).mono ?_; rintro e w5 ⟨rfl, rfl⟩) | (refine (l01In_no _ _ _ _ (by omega)).mono ?_; rintro e w5 ⟨rfl, rfl⟩)) | (go_at_call 21; refine (specWordOk_any _ _ (by first | exact h1 | exact h2)).mono ?_; rintro e w5 ⟨rfl, rfl⟩; first | rw [HU.out] | rw [HN.out]))
          go_ret
          exact ⟨by rw [HE.out, decide_eq_false (by simp [hflags])]; rfl, b0⟩
        subst hflags
        go_wp2_with (first | (go_at_call 56; first | (refine (l01In_yes _ _ _ _ (by omega) (by omega)).mono ?_; rintro e w5 ⟨rfl, rfl⟩) | (refine (l01In_no _ _ _ _ (by omega)).mono ?_; rintro e w5 ⟨rfl, rfl⟩)) | (go_at_call 21; refine (specWordOk_any _ _ (by first | exact h1 | exact h2)).mono ?_; rintro e w5 ⟨rfl, rfl⟩; first | rw [HU.out] | rw [HN.out]))
        go_ret
        exact ⟨by rw [HE.out]; (cases et <;> simp [hv]), b0⟩
      · skip
        cases eu
        case false =>
          go_wp2_with (first | (go_at_call 56; first | (refine (l01In_yes _ _ _ _ (by omega) (by omega)).mono ?_; rintro e w5 ⟨rfl, rfl⟩) | (refine (l01In_no _ _ _ _ (by omega)).mono ?_; rintro e w5 ⟨rfl, rfl⟩)) | (go_at_call 21; refine (specWordOk_any _ _ (by first | exact h1 | exact h2)).mono ?_; rintro e w5 ⟨rfl, rfl⟩; first | rw [HU.out] | rw [HN.out]))
          go_ret
          exact ⟨by rw [HE.out, decide_eq_false (by simp)]; rfl, b0⟩
        cases en
        case false =>
          go_wp2_with (first | (go_at_call 56; first | (refine (l01In_yes _ _ _ _ (by omega) (by omega)).mono ?_; rintro e w5 ⟨rfl, rfl⟩) | (refine (l01In_no _ _ _ _ (by omega)).mono ?_; rintro e w5 ⟨rfl, rfl⟩)) | (go_at_call 21; refine (specWordOk_any _ _ (by first | exact h1 | exact h2)).mono ?_; rintro e w5 ⟨rfl, rfl⟩; first | rw [HU.out] | rw [HN.out]))
          go_ret
          exact ⟨by rw [HE.out, decide_eq_false (by simp)]; rfl, b0⟩
        by_cases hnext : next = 0
        rotate_left
        · have hnext' : (next == 0) = false := beq_eq_false_iff_ne.2 hnext
          go_wp2_with (first | (go_at_call 56; first | (refine (l01In_yes _ _ _ _ (by omega) (by omega)).mono ?_; rintro e w5 ⟨rfl, rfl⟩) | (refine (l01In_no _ _ _ _ (by omega)).mono ?_; rintro e w5 ⟨rfl, rfl⟩)) | (go_at_call 21; refine (specWordOk_any _ _ (by first | exact h1 | exact h2)).mono ?_; rintro e w5 ⟨rfl, rfl⟩; first | rw [HU.out] | rw [HN.out]))
          go_ret
          exact ⟨by rw [HE.out, decide_eq_false (by simp [hnext])]; rfl, b0⟩
        subst hnext
        by_cases huid : 1 ≤ uid ∧ uid ≤ 9999
        rotate_left
        · skip
          go_wp2_with (first | (go_at_call 56; first | (refine (l01In_yes _ _ _ _ (by omega) (by omega)).mono ?_; rintro e w5 ⟨rfl, rfl⟩) | (refine (l01In_no _ _ _ _ (by omega)).mono ?_; rintro e w5 ⟨rfl, rfl⟩)) | (go_at_call 21; refine (specWordOk_any _ _ (by first | exact h1 | exact h2)).mono ?_; rintro e w5 ⟨rfl, rfl⟩; first | rw [HU.out] | rw [HN.out]))
          go_ret
          exact ⟨by rw [HE.out, decide_eq_false (by simp; omega)]; rfl, b0⟩
        by_cases hflags : 0 ≤ flags ∧ flags ≤ 7
        rotate_left
        · skip
          go_wp2_with (first | (go_at_call 56; first | (refine (l01In_yes _ _ _ _ (by omega) (by omega)).mono ?_; rintro e w5 ⟨rfl, rfl⟩) | (refine (l01In_no _ _ _ _ (by omega)).mono ?_; rintro e w5 ⟨rfl, rfl⟩)) | (go_at_call 21; refine (specWordOk_any _ _ (by first | exact h1 | exact h2)).mono ?_; rintro e w5 ⟨rfl, rfl⟩; first | rw [HU.out] | rw [HN.out]))
          go_ret
          exact ⟨by rw [HE.out, decide_eq_false (by simp; omega)]; rfl, b0⟩
        go_wp2_with (first | (go_at_call 56; first | (refine (l01In_yes _ _ _ _ (by omega) (by omega)).mono ?_; rintro e w5 ⟨rfl, rfl⟩) | (refine (l01In_no _ _ _ _ (by omega)).mono ?_; rintro e w5 ⟨rfl, rfl⟩)) | (go_at_call 21; refine (specWordOk_any _ _ (by first | exact h1 | exact h2)).mono ?_; rintro e w5 ⟨rfl, rfl⟩; first | rw [HU.out] | rw [HN.out]))
        go_ret
        exact ⟨by rw [HE.out]; (simp [hv, huid, hflags]; omega), b0⟩
      · skip
        cases eu
        case false =>
          go_wp2_with (first | (go_at_call 56; first | (refine (l01In_yes _ _ _ _ (by omega) (by omega)).mono ?_; rintro e w5 ⟨rfl, rfl⟩) | (refine (l01In_no _ _ _ _ (by omega)).mono ?_; rintro e w5 ⟨rfl, rfl⟩)) | (go_at_call 21; refine (specWordOk_any _ _ (by first | exact h1 | exact h2)).mono ?_; rintro e w5 ⟨rfl, rfl⟩; first | rw [HU.out] | rw [HN.out]))
          go_ret
          exact ⟨by rw [HE.out, decide_eq_false (by simp)]; rfl, b0⟩
        cases en
        case false =>
          go_wp2_with (first | (go_at_call 56; first | (refine (l01In_yes _ _ _ _ (by omega) (by omega)).mono ?_; rintro e w5 ⟨rfl, rfl⟩) | (refine (l01In_no _ _ _ _ (by omega)).mono ?_; rintro e w5 ⟨rfl, rfl⟩)) | (go_at_call 21; refine (specWordOk_any _ _ (by first | exact h1 | exact h2)).mono ?_; rintro e w5 ⟨rfl, rfl⟩; first | rw [HU.out] | rw [HN.out]))
          go_ret
          exact ⟨by rw [HE.out, decide_eq_false (by simp)]; rfl, b0⟩
        by_cases hnext : next = 0
        rotate_left
        · have hnext' : (next == 0) = false := beq_eq_false_iff_ne.2 hnext
          go_wp2_with (first | (go_at_call 56; first | (refine (l01In_yes _ _ _ _ (by omega) (by omega)).mono ?_; rintro e w5 ⟨rfl, rfl⟩) | (refine (l01In_no _ _ _ _ (by omega)).mono ?_; rintro e w5 ⟨rfl, rfl⟩)) | (go_at_call 21; refine (specWordOk_any _ _ (by first | exact h1 | exact h2)).mono ?_; rintro e w5 ⟨rfl, rfl⟩; first | rw [HU.out] | rw [HN.out]))
          go_ret
          exact ⟨by rw [HE.out, decide_eq_false (by simp [hnext])]; rfl, b0⟩
        subst hnext
        by_cases huid : 1 ≤ uid ∧ uid ≤ 9999
        rotate_left
        · skip
          go_wp2_with (first | (go_at_call 56; first | (refine (l01In_yes _ _ _ _ (by omega) (by omega)).mono ?_; rintro e w5 ⟨rfl, rfl⟩) | (refine (l01In_no _ _ _ _ (by omega)).mono ?_; rintro e w5 ⟨rfl, rfl⟩)) | (go_at_call 21; refine (specWordOk_any _ _ (by first | exact h1 | exact h2)).mono ?_; rintro e w5 ⟨rfl, rfl⟩; first | rw [HU.out] | rw [HN.out]))
          go_ret
          exact ⟨by rw [HE.out, decide_eq_false (by simp; omega)]; rfl, b0⟩
        by_cases hflags : 0 ≤ flags ∧ flags ≤ 7
        rotate_left
        · skip
          go_wp2_with (first | (go_at_call 56; first | (refine (l01In_yes _ _ _ _ (by omega) (by omega)).mono ?_; rintro e w5 ⟨rfl, rfl⟩) | (refine (l01In_no _ _ _ _ (by omega)).mono ?_; rintro e w5 ⟨rfl, rfl⟩)) | (go_at_call 21; refine (specWordOk_any _ _ (by first | exact h1 | exact h2)).mono ?_; rintro e w5 ⟨rfl, rfl⟩; first | rw [HU.out] | rw [HN.out]))
          go_ret
          exact ⟨by rw [HE.out, decide_eq_false (by simp; omega)]; rfl, b0⟩
        go_wp2_with (first | (go_at_call 56; first | (refine (l01In_yes _ _ _ _ (by omega) (by omega)).mono ?_; rintro e w5 ⟨rfl, rfl⟩) | (refine (l01In_no _ _ _ _ (by omega)).mono ?_; rintro e w5 ⟨rfl, rfl⟩)) | (go_at_call 21; refine (specWordOk_any _ _ (by first | exact h1 | exact h2)).mono ?_; rintro e w5 ⟨rfl, rfl⟩; first | rw [HU.out] | rw [HN.out]))
        go_ret
        exact ⟨by rw [HE.out]; (cases et <;> simp [hv, huid, hflags]), b0⟩
      · skip
        cases eu
        case false =>
          go_wp2_with (first | (go_at_call 56; first | (refine (l01In_yes _ _ _ _ (by omega) (by omega)).mono ?_; rintro e w5 ⟨rfl, rfl⟩) | (refine (l01In_no _ _ _ _ (by omega)).mono ?_; rintro e w5 ⟨rfl, rfl⟩)) | (go_at_call 21; refine (specWordOk_any _ _ (by first | exact h1 | exact h2)).mono ?_; rintro e w5 ⟨rfl, rfl⟩; first | rw [HU.out] | rw [HN.out]))
          go_ret
          exact ⟨by rw [HE.out, decide_eq_false (by simp)]; rfl, b0⟩
        cases en
        case false =>
          go_wp2_with (first | (go_at_call 56; first | (refine (l01In_yes _ _ _ _ (by omega) (by omega)).mono ?_; rintro e w5 ⟨rfl, rfl⟩) | (refine (l01In_no _ _ _ _ (by omega)).mono ?_; rintro e w5 ⟨rfl, rfl⟩)) | (go_at_call 21; refine (specWordOk_any _ _ (by first | exact h1 | exact h2)).mono ?_; rintro e w5 ⟨rfl, rfl⟩; first | rw [HU.out] | rw [HN.out]))
          go_ret
          exact ⟨by rw [HE.out, decide_eq_false (by simp)]; rfl, b0⟩
        by_cases hnext : next = 0
        rotate_left
        · have hnext' : (next == 0) = false := beq_eq_false_iff_ne.2 hnext
          go_wp2_with (first | (go_at_call 56; first | (refine (l01In_yes _ _ _ _ (by omega) (by omega)).mono ?_; rintro e w5 ⟨rfl, rfl⟩) | (refine (l01In_no _ _ _ _ (by omega)).mono ?_; rintro e w5 ⟨rfl, rfl⟩)) | (go_at_call 21; refine (specWordOk_any _ _ (by first | exact h1 | exact h2)).mono ?_; rintro e w5 ⟨rfl, rfl⟩; first | rw [HU.out] | rw [HN.out]))
          go_ret
          exact ⟨by rw [HE.out, decide_eq_false (by simp [hnext])]; rfl, b0⟩
        subst hnext
        by_cases huid : 1 ≤ uid ∧ uid ≤ 9999
        rotate_left
        · skip
          go_wp2_with (first | (go_at_call 56; first | (refine (l01In_yes _ _ _ _ (by omega) (by omega)).mono ?_; rintro e w5 ⟨rfl, rfl⟩) | (refine (l01In_no _ _ _ _ (by omega)).mono ?_; rintro e w5 ⟨rfl, rfl⟩)) | (go_at_call 21; refine (specWordOk_any _ _ (by first | exact h1 | exact h2)).mono ?_; rintro e w5 ⟨rfl, rfl⟩; first | rw [HU.out] | rw [HN.out]))
          go_ret
          exact ⟨by rw [HE.out, decide_eq_false (by simp; omega)]; rfl, b0⟩
        by_cases hflags : flags = 0
        rotate_left
        · have hflags' : (flags == 0) = false := beq_eq_false_iff_ne.2 hflags
          go_wp2_with (first | (go_at_call 56; first | (refine (l01In_yes _ _ _ _ (by omega) (by omega)).mono ?_; rintro e w5 ⟨rfl, rfl⟩) | (refine (l01In_no _ _ _ _ (by omega)).mono ?_; rintro e w5 ⟨rfl, rfl⟩)) | (go_at_call 21; refine (specWordOk_any _ _ (by first | exact h1 | exact h2)).mono ?_; rintro e w5 ⟨rfl, rfl⟩; first | rw [HU.out] | rw [HN.out]))
          go_ret
          exact ⟨by rw [HE.out, decide_eq_false (by simp [hflags])]; rfl, b0⟩
        subst hflags
        go_wp2_with (first | (go_at_call 56; first | (refine (l01In_yes _ _ _ _ (by omega) (by omega)).mono ?_; rintro e w5 ⟨rfl, rfl⟩) | (refine (l01In_no _ _ _ _ (by omega)).mono ?_; rintro e w5 ⟨rfl, rfl⟩)) | (go_at_call 21; refine (specWordOk_any _ _ (by first | exact h1 | exact h2)).mono ?_; rintro e w5 ⟨rfl, rfl⟩; first | rw [HU.out] | rw [HN.out]))
        go_ret
        exact ⟨by rw [HE.out]; (cases et <;> simp [hv, huid]), b0⟩
    · go_wp2_with (go_at_call 56; first | (refine (l01In_yes _ _ _ _ (by omega) (by omega)).mono ?_; rintro e w5 ⟨rfl, rfl⟩) | (refine (l01In_no _ _ _ _ (by omega)).mono ?_; rintro e w5 ⟨rfl, rfl⟩))
      go_ret
      exact ⟨by rw [HE.out, decide_eq_false (fun h => hv h.2.1)]; rfl, b0⟩
  · go_wp2_with (go_at_call 56; refine (l01In_no _ _ _ _ (by omega)).mono ?_; rintro e w5 ⟨rfl, rfl⟩)
    go_ret
    exact ⟨by rw [HE.out, decide_eq_false (fun h => hk h.1)]; rfl, b0⟩

end Go.Proofs.Ythlbokfajiahpaa
