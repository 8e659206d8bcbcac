/- Texts of our own, joined. -/
import Derived.Test.YtichbcpidkkblaaJd
import Derived.Test.YtichbcpidkkblaaJe
import Derived.Laws.StructEq
import Derived.Test.YtichbcpidkkblaaJa
import Derived.Maps.AppendAt
/- Lists copied element by element. -/
namespace Go.Proofs.Ytichbcpidkkblaa
open Go.RowKit

/-- The first i elements of l, then nothing yet. -/
def copyTo {α : Type} (z : α) (l : List α) (i : Nat) : List α := l.take i ++ List.replicate (l.length - i) z
theorem copyTo_length {α : Type} {z : α} {l : List α} {i : Nat} (h : i ≤ l.length) : (copyTo z l i).length = l.length := by simp [copyTo]; omega
theorem copyTo_zero {α : Type} (z : α) (l : List α) : copyTo z l 0 = List.replicate l.length z := by simp [copyTo]
theorem copyTo_all {α : Type} {z : α} {l : List α} {i : Nat} (h : l.length ≤ i) : copyTo z l i = l := by
  rw [copyTo, List.take_of_length_le h, show l.length - i = 0 by omega]; simp
theorem copyTo_at {α : Type} {z : α} {l : List α} {i : Nat} (h : i < l.length) : (copyTo z l i)[i]? = some z := by
  have hm : (l.take i).length = i := by simp; omega
  rw [copyTo, List.getElem?_append_right (by omega), hm, Nat.sub_self, List.getElem?_replicate, if_pos (by omega)]
theorem copyTo_set {α : Type} {z : α} {l : List α} {i : Nat} (h : i < l.length) : (copyTo z l i).set i l[i] = copyTo z l (i + 1) := by
  have hm : (l.take i).length = i := by simp; omega
  rw [copyTo, List.set_append_right _ _ (by omega), hm, Nat.sub_self, copyTo, List.take_succ_eq_append_getElem h, List.append_assoc]
  have : l.length - i = (l.length - (i + 1)) + 1 := by omega
  rw [this, List.replicate_succ]
  rfl

theorem Rows'.at {α : Type} {E : Enc α} {w : World} {a : Option Addr} {cap : Nat} {l : List α} (h : Rows' E w (.slice a l.length cap) l) (i : Nat) (hi : i < l.length) :
    ∃ g off : Nat, a = some ⟨g, off, none⟩ ∧ ∀ w', Below w.heap.size w w' → ∀ k u, (E.f l[i])[k]? = some u → w'.cell? ⟨g, off + i * E.sz + k, none⟩ = some u := by
  rcases h.ways with ⟨h0, _⟩ | ⟨_, g, off, c, hv, hc, hg, hcl⟩
  · rw [h0] at hi; simp at hi
  · simp only [Value.slice.injEq] at hv
    exact ⟨g, off, hv.1, fun w' hb k u hu => (hb.cell (p := ⟨g, off + i * E.sz + k, none⟩) hg).trans (hcl i _ (List.getElem?_eq_getElem hi) k u hu)⟩

end Go.Proofs.Ytichbcpidkkblaa

/- Lists that come in: how great they are (szStringS, szWriteS), and copies of them in memory of the call's own (toStringS, toWriteS, toIntS). -/
namespace Go.Proofs.Ytichbcpidkkblaa
open Go.RowKit

/-- What a size function leaves over: less than nothing, or something, and then each part is small. -/
def SzR {α : Type} (size : α → Nat) (left : Int) (l : List α) (w : World) (e : Ending) (w' : World) : Prop :=
  ∃ r : Int, e = .returned (.int .i64 r) ∧ Below w.heap.size w w' ∧ r ≤ left ∧ -1 ≤ r ∧ (0 ≤ r → (l.length : Int) ≤ left ∧ ∀ x ∈ l, (size x : Int) ≤ left)




end Go.Proofs.Ytichbcpidkkblaa

/- Disks: what they are in memory, and the helpers of the exact laws over them. -/
namespace Go.Proofs.Ytichbcpidkkblaa
open Go.RowKit

/-- A disk: its sectors, and what waits. -/
structure Dk where
  sec : List ByteArray
  cache : List Wr

def Dk.small (d : Dk) : Prop := d.sec.length ≤ 1073741824 ∧ d.cache.length ≤ 1073741824

/-- Two boxes laid one behind the other can be read, whatever is laid behind them. -/
theorem box_cells (w : World) (c : Array Value) (t : TypeId) {w' : World} (hb : Below (w.alloc (.cells c t)).heap.size (w.alloc (.cells c t)) w') (j : Nat) (u : Value) (hu : c[j]? = some u) : w'.cell? ⟨w.heap.size, j, none⟩ = some u := by
  have h1 : (w.alloc (.cells c t)).cell? ⟨w.heap.size, j, none⟩ = some u := by
    rw [cell_of_row _ _ _ c t (0, 0) (heap_alloc_new w _), hu]
  exact (hb.cell (p := ⟨w.heap.size, j, none⟩) (by simp)).trans h1


/-- A disk all marked. -/
def marksD (k : Nat) (d : Dk) : Dk := ⟨marksOf k d.sec.length, marksW (k + d.sec.length) d.cache.length⟩
def Dk.count (d : Dk) : Nat := d.sec.length + 2 * d.cache.length
theorem marksD_count (k : Nat) (d : Dk) : (marksD k d).count = d.count := by simp [marksD, Dk.count, marksOf_length, marksW_length]




/-- What szDisk leaves over. -/
def Dk.lean (d : Dk) (left : Int) : Prop := (d.sec.length : Int) ≤ left ∧ (d.cache.length : Int) ≤ left ∧ (∀ s ∈ d.sec, (s.size : Int) ≤ left) ∧ ∀ x ∈ d.cache, (x.text.size : Int) ≤ left

def SzD (left : Int) (d : Dk) (w : World) (e : Ending) (w' : World) : Prop :=
  ∃ r : Int, e = .returned (.int .i64 r) ∧ Below w.heap.size w w' ∧ r ≤ left ∧ -1 ≤ r ∧ (0 ≤ r → d.lean left)



end Go.Proofs.Ytichbcpidkkblaa

/- Disks compared: laws.sameTexts and laws.sameDisk of what is alike. -/
namespace Go.Proofs.Ytichbcpidkkblaa
open Go.RowKit

set_option maxRecDepth 100000 in
set_option maxHeartbeats 1000000 in
theorem sameTexts_same (l : List ByteArray) (va vb : Value) (w : World) (ha : Strs w va l) (hb : Strs w vb l) (hl : l.length ≤ 1099511627776) :
    Calls Try.prog 15 #[va, vb] w fun e w' => e = .returned (.bool true) ∧ Below w.heap.size w w' := by
  rcases ha.ways with ⟨rfl, a, c, rfl⟩ | ⟨hne, ga, ca, rfl, hca, hga, hcla⟩
  · rcases hb.ways with ⟨_, b, d, rfl⟩ | ⟨hne, _⟩
    · clear ha hb
      go_enter Try.func15, Try.ntmps15
      go_wp2
      go_loop [5] (fun iv => iv = .int .i64 0) (fun _ => 0)
      case atStart => rfl
      case round =>
        obtain rfl := hrel
        go_wp2
        go_ret
        exact ⟨rfl, Below.refl _ _⟩
    · exact absurd rfl hne
  · rcases hb.ways with ⟨e, _⟩ | ⟨_, gb, cb, rfl, hcb, hgb, hclb⟩
    · exact absurd e hne
    · clear ha hb
      have HA : Hid (∀ j b, l[j]? = some b → w.cell? ⟨ga, j, none⟩ = some (.string b)) := hcla
      have HB : Hid (∀ j b, l[j]? = some b → w.cell? ⟨gb, j, none⟩ = some (.string b)) := hclb
      clear hcla hclb
      go_enter Try.func15, Try.ntmps15
      go_wp2
      go_loopw [5] (fun iv wr => ∃ i : Nat, i ≤ l.length ∧ iv = .int .i64 (i : Int) ∧ Below w.heap.size w wr) (fun iv _ => l.length - (intOf iv).toNat)
      case atStart => exact ⟨0, by omega, rfl, Below.refl _ _⟩
      case round =>
        obtain ⟨i, hi, rfl, hbel⟩ := hrel
        by_cases hlt : i < l.length
        · have hg : l[i]? = some l[i] := List.getElem?_eq_getElem hlt
          have h1 := (hbel.cell (p := ⟨ga, i, none⟩) hga).trans (HA.out i _ hg)
          have h2 := (hbel.cell (p := ⟨gb, i, none⟩) hgb).trans (HB.out i _ hg)
          generalize l[i] = t at *
          have hi0 : (0 : Int) ≤ (i : Int) := by omega
          have hi1 : (i : Int) < (l.length : Int) := by omega
          clear hg
          go_wp2
          go_quiet (fail)
          go_wp2
          go_roundw
          case rel => exact ⟨i + 1, by omega, by go_num, below_drewN hbel _⟩
          case measure => simp [intOf]; omega
        · go_wp2
          go_ret
          exact ⟨rfl, hbel⟩


end Go.Proofs.Ytichbcpidkkblaa

/- What a list of numbers is that a call builds in memory of its own, and the laws by which it grows, is read and is written. -/
namespace Go.Proofs.Ytichbcpidkkblaa
open Go.RowKit

theorem Try.info_int : (Try.prog.info? 3).map (fun i => (i.zero, i.size, i.bytes)) = some (some (.int .i64 0), 1, 8) := by kernel_rfl

def intV (l : List Int) : List Value := l.map fun c => .int .i64 c
theorem intV_length (l : List Int) : (intV l).length = l.length := by simp [intV]

/-- The slice v holds the numbers l in memory that the call made itself (blocks from B on); below B all is as it was in w0. -/
structure IBuf (B : Nat) (w0 w : World) (v : Value) (l : List Int) : Prop where
  own : w.ownsRow B 3 1 v l.length (intV l)
  bel : Below B w0 w
  le : B ≤ w.heap.size

theorem IBuf.alloc {B : Nat} {w0 w : World} {v : Value} {l : List Int} (h : IBuf B w0 w v l) (o : Obj) : IBuf B w0 (w.alloc o) v l :=
  ⟨h.own.alloc o, h.bel.alloc h.le o, by have := h.le; simp; omega⟩
theorem IBuf.drew {B : Nat} {w0 w : World} {v : Value} {l : List Int} (h : IBuf B w0 w v l) : IBuf B w0 w.drew v l :=
  ⟨h.own.drew, h.bel.drew, h.le⟩
theorem IBuf.fresh (w : World) : IBuf w.heap.size w (w.alloc (.cells #[] 3)) (.slice (some ⟨w.heap.size, 0, none⟩) 0 0) [] :=
  ⟨World.ownsRow_made w #[] 0 (Nat.le_refl _) (by decide) rfl, (Below.refl _ _).alloc (Nat.le_refl _) _, by simp⟩

/-- What is laid behind the heap's end, and nothing else, leaves the numbers where they are. -/
theorem IBuf.later {B : Nat} {w0 w w' : World} {v : Value} {l : List Int} (h : IBuf B w0 w v l) (hb : Below w.heap.size w w') : IBuf B w0 w' v l := by
  have hg : w.grownBy w' none := ⟨hb.os, hb.tape, hb.output, hb.size, fun k hk _ => hb.block k hk⟩
  refine ⟨h.own.kept hg ?_, h.bel.trans (hb.mono h.le), Nat.le_trans h.le hb.size⟩
  cases hv : v.ownBlock with
  | none => exact .inl rfl
  | some k => exact .inr (by simp)

theorem wpList_append_int {w0 w : World} {ops : Array Oper} {rest : List Oper} {o : Oper} {a : Act} {Q : Exit → Act → World → Prop} (hgd : o.guard = none) (s x : Operand)
    (ho : o.op = .call { callee := .builtin .append, args := #[s, x], argTypes := #[25, 25] })
    (B : Nat) (v : Value) (l : List Int) (hs : a.eval s = v) (hb : IBuf B w0 w v l)
    (ad : Addr) (t : Int) (hx : a.eval x = .slice (some ad) 1 1)
    (hnews : ∀ j u, [Value.int .i64 t][j]? = some u → w.cell? (ad.add j) = some u)
    (hlen : l.length + 1 ≤ 8796093022208)
    (h : ∀ v' w', IBuf B w0 w' v' (l ++ [t]) → wpList Try.prog ops Q rest (a.put o.dst v') w') : wpList Try.prog ops Q (o :: rest) a w := by
  obtain ⟨i0, hi, hz0, hz1, hz2⟩ := info_parts Try.info_int
  refine wpList_append_own _ hgd s x 25 ho B 3 i0 (.int .i64 0) 1 8 Try.underlying25 hi hz0 hz1 hz2 rfl (by decide) v l.length (intV l) hs hb.own ad 1 1 [.int .i64 t] hx (by simp) hnews ?_ (by unfold maxLen; omega) (by omega) hb.le ?_
  · intro u hu
    simp at hu
    subst hu
    rfl
  · intro v' w' hown hgrow _
    refine h v' w' ⟨?_, hb.bel.grown hgrow hb.le (fun k hk => (hb.own.lt k hk).1), Nat.le_trans hb.le hgrow.size⟩
    have e1 : (l ++ [t]).length = l.length + 1 := by simp
    have e2 : intV (l ++ [t]) = intV l ++ [.int .i64 t] := by simp [intV]
    rw [e1, e2]
    exact hown

theorem IBuf.form {B : Nat} {w0 w : World} {v : Value} {l : List Int} (h : IBuf B w0 w v l) : ∃ (a : Option Addr) (cap : Nat), v = .slice a l.length cap := by
  rcases h.own.2 with ⟨rfl, h0⟩ | ⟨g, cap, cur, rfl, _⟩
  · exact ⟨none, 0, by rw [h0]⟩
  · exact ⟨_, _, rfl⟩

/-- Numbers that can be read: each in its cell of a row; nothing where there is none. -/
def Ints (w : World) (v : Value) (l : List Int) : Prop :=
  (l = [] ∧ ∃ (a : Option Addr) (cap : Nat), v = .slice a 0 cap) ∨
  ∃ g cap : Nat, v = .slice (some ⟨g, 0, none⟩) l.length cap ∧ l.length ≤ cap ∧ g < w.heap.size ∧ ∀ j b, l[j]? = some b → w.cell? ⟨g, j, none⟩ = some (.int .i64 b)

theorem IBuf.ints {B : Nat} {w0 w : World} {v : Value} {l : List Int} (h : IBuf B w0 w v l) : Ints w v l := by
  rcases h.own.2 with ⟨rfl, h0⟩ | ⟨g, cap, cur, rfl, hg, hh, hnc, hcp, hcs, htake⟩
  · exact .inl ⟨List.length_eq_zero_iff.1 h0, _, _, rfl⟩
  · refine .inr ⟨g, cap, rfl, hnc, (h.own.lt g rfl).2, fun j b hj => ?_⟩
    have hlt : j < l.length := (List.getElem?_eq_some_iff.1 hj).1
    rw [h.own.cellAt j (by omega)]
    simp [intV, hj]

theorem Ints.later {w w' : World} {v : Value} {l : List Int} (h : Ints w v l) (hb : Below w.heap.size w w') : Ints w' v l := by
  rcases h with h | ⟨g, cap, hv, hc, hg, hcl⟩
  · exact .inl h
  · exact .inr ⟨g, cap, hv, hc, Nat.lt_of_lt_of_le hg hb.size, fun j b hj => (hb.cell (p := ⟨g, j, none⟩) hg).trans (hcl j b hj)⟩

/-- A store into the row. -/
theorem IBuf.stored {B : Nat} {w0 w : World} {g cap : Nat} {l : List Int} (h : IBuf B w0 w (.slice (some ⟨g, 0, none⟩) l.length cap) l) (j : Nat) (t : Int) :
    IBuf B w0 (w.setCell ⟨g, j, none⟩ (.int .i64 t)) (.slice (some ⟨g, 0, none⟩) l.length cap) (l.set j t) := by
  have hst := h.own.stored j (.int .i64 t)
  have e : intV (l.set j t) = (intV l).set j (.int .i64 t) := by simp [intV, List.map_set]
  refine ⟨?_, h.bel.setCell (h.own.lt g rfl).1 _, by have := h.le; simpa using this⟩
  have hl : (l.set j t).length = l.length := by simp
  rw [hl, e]
  exact hst.1

theorem IBuf.under {w0 w1 w : World} {v : Value} {l : List Int} (hb : Below w0.heap.size w0 w1) (h : IBuf w1.heap.size w1 w v l) : IBuf w0.heap.size w0 w v l := by
  refine ⟨⟨h.own.1, ?_⟩, hb.trans (h.bel.mono hb.size), Nat.le_trans hb.size h.le⟩
  rcases h.own.2 with h1 | ⟨g, cap, cur, h1, h2, h3⟩
  · exact .inl h1
  · exact .inr ⟨g, cap, cur, h1, Nat.le_trans hb.size h2, h3⟩

end Go.Proofs.Ytichbcpidkkblaa

/- The drawn places: twelve numbers, each in 0 .. 9999, in a list of the call's own. -/
namespace Go.Proofs.Ytichbcpidkkblaa
open Go.RowKit

theorem IBuf.cursor {B : Nat} {w w' : World} {v : Value} {l : List Int} {pc : Nat} (h : IBuf B w w v l) (hg : w.grownBy w' (some pc)) (hp : pc < B) : IBuf B w' w' v l := by
  refine ⟨h.own.kept hg ?_, Below.refl _ _, Nat.le_trans h.le hg.size⟩
  cases hv : v.ownBlock with
  | none => exact .inl rfl
  | some k => exact .inr (by intro e; have := (h.own.lt k hv).1; have := Option.some.inj e; omega)

theorem IBuf.here {B : Nat} {w0 w : World} {v : Value} {l : List Int} (h : IBuf B w0 w v l) : IBuf B w w v l := ⟨h.own, Below.refl _ _, h.le⟩

theorem IBuf.down {B0 B : Nat} {w0 w1 w : World} {v : Value} {l : List Int} (h : IBuf B w1 w v l) (hb : Below B0 w0 w) (hB : B0 ≤ B) : IBuf B0 w0 w v l := by
  refine ⟨⟨h.own.1, ?_⟩, hb, Nat.le_trans hB h.le⟩
  rcases h.own.2 with h1 | ⟨g, cap, cur, h1, h2, h3⟩
  · exact .inl h1
  · exact .inr ⟨g, cap, cur, h1, Nat.le_trans hB h2, h3⟩

theorem one_int (w : World) (x : Int) : ∀ j u, [Value.int .i64 x][j]? = some u → (w.alloc (.cells #[.int .i64 x] 3)).cell? ((⟨w.heap.size, 0, none⟩ : Addr).add j) = some u := by
  intro j u hj
  match j, hj with
  | 0, hj => simp at hj; subst hj; simp [Addr.add]
  | j + 1, hj => simp at hj

theorem below_of_new' {w w1 w2 : World} {pc : Nat} (hb : Below w.heap.size w w1) (hp : w.heap.size ≤ pc) (hg : w1.grownBy w2 (some pc)) : Below w.heap.size w w2 :=
  hb.grown hg hb.size (fun k hk => by have := Option.some.inj hk; omega)

/-- The drawn places. -/
def PlacesR (w : World) (e : Ending) (w' : World) : Prop :=
  ∃ (l : List Int) (v : Value), l.length = 12 ∧ (∀ z ∈ l, 0 ≤ z ∧ z < 10000) ∧ e = .returned v ∧ IBuf w.heap.size w w' v l

set_option maxRecDepth 100000 in
set_option maxHeartbeats 1000000 in
theorem drawPlaces_any (a : Option Addr) (len cap : Nat) (w : World) (hcode : CodeIn w a len) (hs : len ≤ 1048576) :
    Calls Try.prog 7 #[.slice a len cap] w fun e w' => PlacesR w e w' := by
  go_enter Try.func7, Try.ntmps7
  go_wp2_with fail
  refine (new_any a len cap _ hcode hs).mono ?_
  rintro e w1 ⟨pc, hp, rfl, hc1, hb1⟩
  go_wp2_with fail
  refine (byte_any pc a len cap _ hc1).mono ?_
  rintro e w2 ⟨x, hx, rfl, hc2, hg2⟩
  have hb2 := below_of_new' hb1 hp hg2
  have hst := IBuf.fresh w2
  have hpc := hc2.lt
  have hcl := hc2.codeLt
  go_wp2
  go_loopw [4, 5] (fun v iv wr => ∃ (k : Nat) (l : List Int), k ≤ 12 ∧ iv = .int .i64 (k : Int) ∧ l.length = k ∧ (∀ z ∈ l, 0 ≤ z ∧ z < 10000) ∧ IBuf w2.heap.size wr wr v l ∧ Cur wr pc a len cap ∧ Below w.heap.size w wr) (fun _ iv _ => (12 - intOf iv).toNat)
  case atStart => exact ⟨0, [], by omega, rfl, rfl, by simp, hst.here, hc2.below hst.bel hpc hcl, hb2.trans (hst.bel.mono hb2.size)⟩
  case round =>
    obtain ⟨k, l, hk, rfl, hlk, hlz, hb, hcr, hgr⟩ := hrel
    by_cases hlt : k < 12
    · go_wp2_with fail
      refine (below_any 10000 pc a len cap _ hcr (by omega)).mono ?_
      rintro e w3 ⟨y, hy, _, rfl, hc3, hg3⟩
      have hy2 := hy (by omega)
      have hb3 := hb.cursor hg3 hpc
      have hgr3 := below_of_new' hgr hp hg3
      clear hy hb hcr hgr hg3
      go_wp2_with (at_builtin; refine wpList_append_int rfl _ _ rfl _ _ l rfl (hb3.alloc _) ⟨w3.heap.size, 0, none⟩ (y : Int) rfl ?c1 ?c2 ?_)
      case c1 => exact one_int _ _
      case c2 => omega
      intro v' w4 hb4
      have hcr4 : Cur w4 pc a len cap := hc3.below hb4.bel hpc (fun b off h1 h2 => hcl b off h1 h2)
      have hgr4 : Below w.heap.size w w4 := hgr3.trans (hb4.bel.mono hb2.size)
      have hb5 := hb4.here
      clear hb4 hb3 hc3 hgr3
      go_wp2
      go_roundw
      case rel => exact ⟨k + 1, l ++ [(y : Int)], by omega, by go_num, by simp [hlk], fun z hz => by
        rcases List.mem_append.1 hz with h | h
        · exact hlz z h
        · simp at h; omega, hb5, hcr4, hgr4⟩
      case measure => simp [intOf]; omega
    · obtain rfl : k = 12 := by omega
      go_wp2
      go_ret
      exact ⟨l, _, hlk, hlz, rfl, hb.down hgr hb2.size⟩

end Go.Proofs.Ytichbcpidkkblaa

/- What the drawn laws on disks share: a code that is too long, two drawn places, and where a sector lies. -/
namespace Go.Proofs.Ytichbcpidkkblaa
open Go.RowKit

theorem big_any (a : Option Addr) (len cap : Nat) (w : World) :
    Calls Try.prog 6 #[.slice a len cap] w fun e w' => e = .returned (.bool (decide ((1048576 : Int) < (len : Int)))) ∧ w = w' := by
  go_enter Try.func6, Try.ntmps6
  go_wp2
  go_ret
  exact ⟨rfl, rfl⟩

/-- The places that are drawn, as two numbers. -/
theorem places2 {w w' : World} {l : List Int} {v : Value} (hl : l.length = 12) (hlz : ∀ z ∈ l, 0 ≤ z ∧ z < 10000) (hib : IBuf w.heap.size w w' v l) :
    ∃ (gp cp : Nat) (z0 z1 : Nat), v = .slice (some ⟨gp, 0, none⟩) 12 cp ∧ 12 ≤ cp ∧ gp < w'.heap.size ∧ w'.cell? ⟨gp, 0, none⟩ = some (.int .i64 (z0 : Int)) ∧ w'.cell? ⟨gp, 1, none⟩ = some (.int .i64 (z1 : Int)) := by
  rcases hib.ints with ⟨h, _⟩ | ⟨g, cp, hv, hcp, hg, hcl⟩
  · rw [h] at hl; cases hl
  · have e0 := List.getElem?_eq_getElem (show 0 < l.length by omega)
    have e1 := List.getElem?_eq_getElem (show 1 < l.length by omega)
    have k0 := hlz _ (List.mem_of_getElem? e0)
    have k1 := hlz _ (List.mem_of_getElem? e1)
    rw [hl] at hv hcp
    refine ⟨g, cp, l[0].toNat, l[1].toNat, hv, hcp, hg, ?_, ?_⟩
    · rw [Int.toNat_of_nonneg k0.1]; exact hcl 0 _ e0
    · rw [Int.toNat_of_nonneg k1.1]; exact hcl 1 _ e1

end Go.Proofs.Ytichbcpidkkblaa

/- The walk of the law on words, lower letters and numbers. -/
namespace Go.Proofs.Ytichbcpidkkblaa
open Go.RowKit

theorem lowB_again (b : UInt8) : lowB (lowB b) = lowB b := by
  by_cases h : 65 ≤ b.toNat ∧ b.toNat ≤ 90
  · have e := lowB_up h.1 h.2
    have h2 : ¬ (65 ≤ (lowB b).toNat ∧ (lowB b).toNat ≤ 90) := by omega
    generalize lowB b = c at h2
    unfold lowB
    rw [if_neg h2]
  · have e : lowB b = b := by unfold lowB; rw [if_neg h]
    rw [e, e]
theorem lowW_again (s : ByteArray) : lowW (lowW s) = lowW s := by
  unfold lowW
  simp [lowB_again]
theorem lowW_size (s : ByteArray) : (lowW s).size = s.size := by
  obtain ⟨⟨l⟩⟩ := s
  show ((l.map lowB).toArray).size = l.toArray.size
  simp
theorem lowW_quit : lowW ⟨#[81, 117, 105, 84]⟩ = ⟨#[113, 117, 105, 116]⟩ := by decide
theorem num_42 {n : Int} (h : NumR ⟨#[52, 50]⟩ n) : n = 42 := by
  rcases h with ⟨_, rfl⟩ | ⟨h, _⟩
  · decide
  · exact absurd (show isDec [52, 50] from ⟨by decide, fun c hc => by
      simp only [List.mem_cons, List.not_mem_nil, or_false] at hc
      rcases hc with rfl | rfl <;> decide, by decide, by decide +kernel⟩) h

set_option maxRecDepth 100000 in
set_option maxHeartbeats 4000000 in
theorem walk_FnWordsTold (a : Option Addr) (len cap : Nat) (w : World) (hcode : CodeIn w a len) :
    Calls Try.prog 5 #[.slice a len cap] w fun e w' => e = .returned (.bool true) ∧ Below w.heap.size w w' := by
  by_cases hbig : (1048576 : Int) < (len : Int)
  · go_enter Try.func5, Try.ntmps5
    go_wp2_with (go_at_call 6; refine (big_any a len cap _).mono ?_; rintro e w1 ⟨rfl, rfl⟩; rw [decide_eq_true hbig])
    go_ret
    exact ⟨rfl, Below.refl _ _⟩
  have hs : len ≤ 1048576 := by omega
  go_enter Try.func5, Try.ntmps5
  go_wp2_with fail
  refine (big_any a len cap _).mono ?_
  rintro e w0 ⟨rfl, rfl⟩
  rw [decide_eq_false (by omega)]
  go_wp2_with fail
  refine (drawWordsOf_any a len cap _ hcode hs).mono ?_
  rintro e w1 ⟨s, hsz, rfl, k1⟩
  go_wp2_with fail
  refine (drawLowWord_any a len cap _ (hcode.later k1) hs).mono ?_
  rintro e w2 ⟨t, htz, rfl, k2⟩
  have k12 := k1.trans (k2.mono k1.size)
  go_wp2_with fail
  refine (drawNumberOf_any a len cap _ (hcode.later k12) hs).mono ?_
  rintro e w3 ⟨n, hnz, rfl, k3⟩
  have k13 := k12.trans (k3.mono k12.size)
  clear k1 k2 k12 k3 hcode
  go_wp2_with fail
  refine (implWordsOf_any s _ (by omega)).mono ?_
  rintro e w4 ⟨v4, l, rfl, hp, b4⟩
  have HP := Lib.hid hp
  clear hp
  go_wp2_with fail
  refine (specWordsOf_any s _ (by omega)).mono ?_
  rintro e w5 ⟨v5, l5, rfl, hp5, b5⟩
  obtain rfl := HP.out.one hp5
  have hl := hp5.len
  have k14 := k13.trans (b4.bel.mono k13.size)
  have k15 := k14.trans (b5.bel.mono k14.size)
  have hs4 := b4.strs.later b5.bel
  have hs5 := b5.strs
  clear hp5 b4 b5 k13 k14
  go_wp2_with fail
  refine (sameTexts_same l5 _ _ _ hs4 hs5 (by omega)).mono ?_
  rintro e w6 ⟨rfl, k6⟩
  have k16 := k15.trans (k6.mono k15.size)
  clear hs4 hs5 k6 k15
  have hlow : ∀ (x : ByteArray) (wx : World), x.size ≤ 1048576 → Calls Try.prog 18 #[.string x] wx fun e w' => e = .returned (.string (lowW x)) ∧ Below wx.heap.size wx w' := fun x wx hx => implLowWord_any x wx (by omega)
  have hl1 := hlow t
  have hl2 := hlow (lowW t)
  rw [lowW_again] at hl2
  have hsl := specLowWord_any t
  have htl : (lowW t).size ≤ 1000 := by rw [lowW_size]; exact htz
  have HL2 := Lib.hid (fun wx => hl2 wx (by omega))
  have HL1 := Lib.hid (fun wx => hl1 wx (by omega))
  have HSL := Lib.hid (fun wx => hsl wx (by omega))
  have HQ : Hid (∀ wx, Calls Try.prog 18 #[.string ⟨#[81, 117, 105, 84]⟩] wx fun e w' => e = .returned (.string ⟨#[113, 117, 105, 116]⟩) ∧ Below wx.heap.size wx w') := fun wx => by
    have := hlow ⟨#[81, 117, 105, 84]⟩ wx (by decide)
    rw [lowW_quit] at this
    exact this
  generalize lowW t = u at *
  clear hlow hl1 hl2 hsl htl
  go_wp2_with fail
  refine (HL1.out _).mono ?_
  rintro e w7 ⟨rfl, k7⟩
  have k17 := k16.trans (k7.mono k16.size)
  clear k16 k7
  go_wp2_with fail
  refine (HSL.out _).mono ?_
  rintro e w8 ⟨rfl, k8⟩
  have k18 := k17.trans (k8.mono k17.size)
  clear k17 k8
  go_wp2_with fail
  refine (HL1.out _).mono ?_
  rintro e w9 ⟨rfl, k9⟩
  have k19 := k18.trans (k9.mono k18.size)
  clear k18 k9
  go_wp2_with fail
  refine (HL2.out _).mono ?_
  rintro e w10 ⟨rfl, k10⟩
  have k20 := k19.trans (k10.mono k19.size)
  clear k19 k10
  go_wp2_with fail
  refine (HL1.out _).mono ?_
  rintro e w11 ⟨rfl, k11⟩
  have k21 := k20.trans (k11.mono k20.size)
  clear k20 k11
  go_wp2_with fail
  refine (implNumberOf_any n _ (by omega)).mono ?_
  rintro e w12 ⟨⟨x, rfl, hx⟩, k12⟩
  have HX := Lib.hid hx
  have k22 := k21.trans (k12.mono k21.size)
  clear k21 k12 hx
  go_wp2_with fail
  refine (specNumberOf_any n _ (by omega)).mono ?_
  rintro e w13 ⟨⟨y, rfl, hy⟩, k13⟩
  obtain rfl := HX.out.one hy
  have k23 := k22.trans (k13.mono k22.size)
  clear k22 k13 hy
  go_wp2_with fail
  refine (implNumberOf_any ⟨#[52, 50]⟩ _ (by decide)).mono ?_
  rintro e w14 ⟨⟨z, rfl, hz⟩, k14⟩
  obtain rfl := num_42 hz
  have k24 := k23.trans (k14.mono k23.size)
  clear k23 k14 hz
  go_wp2_with fail
  refine (HQ.out _).mono ?_
  rintro e w15 ⟨rfl, k15⟩
  have k25 := Lib.hid (k24.trans (k15.mono k24.size))
  clear k24 k15
  go_wp2
  go_ret
  exact ⟨rfl, k25.out⟩

end Go.Proofs.Ytichbcpidkkblaa
