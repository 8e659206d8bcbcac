/- Texts of our own, joined. -/
import Derived.WalkKit
import Derived.Laws.BitsAllLaws
import Derived.Laws.BitsLemmas
import Derived.Test.YtmbmbnjbeofmaaaRows
import Derived.Laws.BytesArg
import Derived.Maps.AppendAt
import Derived.Lib.ConvBytes
import Derived.Lib.Buffer
import Derived.Laws.Concat
import Derived.WalkSpells
import Derived.WalkSmall
import Derived.Deep.QuietTactic
import Derived.BigQuiet
import Derived.Deep.RegionHeld3
import Derived.Laws.OwnMore
/- Plain facts on decimal figures, with no program in them. -/
namespace Go.Proofs.Ytmbmbnjbeofmaaa

def figD (x : Nat) : UInt8 := UInt8.ofNat (48 + x)
theorem figD_toNat {x : Nat} (h : x < 10) : (figD x).toNat = 48 + x := by
  rw [figD, UInt8.toNat_ofNat']; omega

/-- The figures of a number that is not 0; nothing of 0. -/
def digsF : Nat → Nat → List UInt8
  | 0, _ => []
  | f + 1, n => if n = 0 then [] else digsF f (n / 10) ++ [figD (n % 10)]
def digs (n : Nat) : List UInt8 := digsF n n
/-- The figures of a number. -/
def dec (n : Nat) : List UInt8 := if n = 0 then [48] else digs n

theorem digsF_more : ∀ (f g n : Nat), n ≤ f → n ≤ g → digsF f n = digsF g n := by
  intro f
  induction f with
  | zero => intro g n hf hg; obtain rfl : n = 0 := by omega
            cases g <;> simp [digsF]
  | succ f ih =>
    intro g n hf hg
    cases g with
    | zero => obtain rfl : n = 0 := by omega
              simp [digsF]
    | succ g =>
      simp only [digsF]
      split
      · rfl
      · rw [ih g (n / 10) (by omega) (by omega)]

theorem digs_zero : digs 0 = [] := rfl
theorem digs_step {n : Nat} (h : n ≠ 0) : digs n = digs (n / 10) ++ [figD (n % 10)] := by
  unfold digs
  cases n with
  | zero => omega
  | succ n => rw [digsF, if_neg h, digsF_more n ((n + 1) / 10) ((n + 1) / 10) (by omega) (Nat.le_refl _)]

theorem digsF_len : ∀ (f n : Nat), (digsF f n).length ≤ f := by
  intro f
  induction f with
  | zero => intro n; simp [digsF]
  | succ f ih =>
    intro n
    simp only [digsF]
    split
    · simp
    · have := ih (n / 10); simp; omega
theorem digs_len (n : Nat) : (digs n).length ≤ n := digsF_len n n

theorem digs_push {m n : Nat} {acc : List UInt8} (h : digs m ++ acc = digs n) (hm : m ≠ 0) : digs (m / 10) ++ (figD (m % 10) :: acc) = digs n := by
  rw [← h, digs_step hm]; simp

/-- The number that figures tell. -/
def val (l : List UInt8) : Nat := l.foldl (fun a c => 10 * a + (c.toNat - 48)) 0
theorem val_snoc (l : List UInt8) (c : UInt8) : val (l ++ [c]) = 10 * val l + (c.toNat - 48) := by simp [val]
theorem val_nil : val [] = 0 := rfl

def allDig (l : List UInt8) : Prop := ∀ c ∈ l, 48 ≤ c.toNat ∧ c.toNat ≤ 57

theorem val_lt : ∀ (n : Nat) (l : List UInt8), l.length = n → allDig l → val l < 10 ^ n := by
  intro n
  induction n with
  | zero => intro l h _; obtain rfl := List.length_eq_zero_iff.1 h; simp [val]
  | succ n ih =>
    intro l h ha
    rcases List.eq_nil_or_concat l with rfl | ⟨init, c, rfl⟩
    · simp at h
    · have h1 := ih init (by simp at h; omega) (fun x hx => ha x (by simp [hx]))
      have h2 := ha c (by simp)
      rw [List.concat_eq_append, val_snoc, Nat.pow_succ]
      omega

theorem figD_back {c : UInt8} (h : 48 ≤ c.toNat ∧ c.toNat ≤ 57) : figD (c.toNat - 48) = c := by
  apply UInt8.toNat_inj.1
  rw [figD_toNat (by omega)]; omega

theorem digs_val : ∀ (n : Nat) (l : List UInt8), l.length = n → allDig l → l ≠ [] → l.head? ≠ some 48 → digs (val l) = l ∧ 0 < val l := by
  intro n
  induction n with
  | zero => intro l h _ hne; exact absurd (List.length_eq_zero_iff.1 h) hne
  | succ n ih =>
    intro l h ha hne hh
    rcases List.eq_nil_or_concat l with rfl | ⟨init, c, rfl⟩
    · exact absurd rfl hne
    · rw [List.concat_eq_append] at *
      have hc := ha c (by simp)
      rw [val_snoc]
      by_cases hi : init = []
      · subst hi
        have h48 : c.toNat ≠ 48 := by
          intro e
          apply hh
          simp
          apply UInt8.toNat_inj.1
          rw [e]; rfl
        rw [val_nil]
        have hp : 10 * 0 + (c.toNat - 48) ≠ 0 := by omega
        refine ⟨?_, by omega⟩
        rw [digs_step hp, show (10 * 0 + (c.toNat - 48)) / 10 = 0 by omega, digs_zero, show (10 * 0 + (c.toNat - 48)) % 10 = c.toNat - 48 by omega, figD_back hc]
      · have hh2 : init.head? ≠ some 48 := by
          intro e
          apply hh
          rw [List.head?_append, e]; rfl
        obtain ⟨h1, h2⟩ := ih init (by simp at h; omega) (fun x hx => ha x (by simp [hx])) hi hh2
        refine ⟨?_, by omega⟩
        rw [digs_step (by omega), show (10 * val init + (c.toNat - 48)) / 10 = val init by omega, h1, show (10 * val init + (c.toNat - 48)) % 10 = c.toNat - 48 by omega, figD_back hc]

theorem digs_head : ∀ (n m : Nat), m ≤ n → m ≠ 0 → (digs m).head? ≠ some 48 ∧ digs m ≠ [] := by
  intro n
  induction n with
  | zero => intro m h1 h2; omega
  | succ n ih =>
    intro m h1 h2
    rw [digs_step h2]
    by_cases h3 : m / 10 = 0
    · rw [h3, digs_zero]
      refine ⟨?_, by simp⟩
      intro e
      simp at e
      have := congrArg UInt8.toNat e
      rw [figD_toNat (by omega)] at this
      have h48 : (48 : UInt8).toNat = 48 := rfl
      omega
    · obtain ⟨a1, a2⟩ := ih (m / 10) (by omega) h3
      refine ⟨?_, by simp⟩
      cases hd : digs (m / 10) with
      | nil => exact absurd hd a2
      | cons x xs => rw [hd] at a1; simpa using a1

/-- A text of figures is the figures of its number, just when it opens with no needless nought. -/
theorem dec_val {l : List UInt8} (ha : allDig l) (hne : l ≠ []) : dec (val l) = l ↔ (l.head? ≠ some 48 ∨ l.length = 1) := by
  constructor
  · intro h
    by_cases hz : val l = 0
    · rw [dec, if_pos hz] at h
      right; rw [← h]; rfl
    · left
      rw [dec, if_neg hz] at h
      have := (digs_head _ _ (Nat.le_refl _) hz).1
      rw [h] at this
      exact this
  · intro h
    by_cases hh : l.head? = some 48
    · rcases h with h | h
      · exact absurd hh h
      · match l, h, hh with
        | [c], _, hh => simp at hh; subst hh; rfl
    · obtain ⟨h1, h2⟩ := digs_val _ l rfl ha hne hh
      rw [dec, if_neg (by omega), h1]

theorem dec_nil : dec (val []) ≠ [] := by decide

theorem digs_len_half : ∀ (n m : Nat), m ≤ n → (digs m).length ≤ m / 2 + 1 := by
  intro n
  induction n with
  | zero => intro m h; obtain rfl : m = 0 := by omega
            simp [digs_zero]
  | succ n ih =>
    intro m h
    by_cases h0 : m = 0
    · subst h0; simp [digs_zero]
    · rw [digs_step h0]
      by_cases h1 : m / 10 = 0
      · rw [h1, digs_zero]; simp
      · have := ih (m / 10) (by omega)
        simp; omega

theorem digs_len_half2 (n : Nat) : (digs n).length ≤ n / 2 + 1 := digs_len_half n n (Nat.le_refl _)

end Go.Proofs.Ytmbmbnjbeofmaaa

/- Plain facts on hexadecimal figures, with no program in them. -/
namespace Go.Proofs.Ytmbmbnjbeofmaaa

/-- A figure, of a number below 16. -/
def fig (x : Nat) : UInt8 := if x < 10 then UInt8.ofNat (48 + x) else UInt8.ofNat (87 + x)

theorem fig_toNat {x : Nat} (h : x < 16) : (fig x).toNat = if x < 10 then 48 + x else 87 + x := by
  unfold fig
  split <;> (rw [UInt8.toNat_ofNat']; omega)

/-- Two figures for each byte, the higher half first. -/
def hexOf (l : List UInt8) : List UInt8 := l.flatMap fun c => [fig (c.toNat / 16), fig (c.toNat % 16)]

theorem hexOf_length (l : List UInt8) : (hexOf l).length = 2 * l.length := by
  induction l with
  | nil => rfl
  | cons c l ih => simp only [hexOf, List.flatMap_cons, List.length_append, List.length_cons, List.length_nil] at ih ⊢; omega

theorem hexOf_take {l : List UInt8} {k : Nat} (h : k < l.length) : hexOf (l.take (k + 1)) = hexOf (l.take k) ++ [fig (l[k].toNat / 16), fig (l[k].toNat % 16)] := by
  rw [List.take_succ_eq_append_getElem h, hexOf, List.flatMap_append]
  rfl

/-- The figure as it stands in the sixteen figures. -/
theorem figure_at : ∀ x, x < 16 → (⟨#[48, 49, 50, 51, 52, 53, 54, 55, 56, 57, 97, 98, 99, 100, 101, 102]⟩ : ByteArray)[x]? = some (fig x) := by
  decide +kernel

end Go.Proofs.Ytmbmbnjbeofmaaa

/- What a list of bytes is that a call builds in memory of its own, and the laws by which it grows and becomes a string. -/
namespace Go.Proofs.Ytmbmbnjbeofmaaa
open Go.RowKit

theorem Try.info_u8 : (Try.prog.info? 5).map (fun i => (i.zero, i.size, i.bytes)) = some (some (.int .u8 0), 1, 1) := by kernel_rfl

/-- The bytes as the cells of a row. -/
def bytesV (l : List UInt8) : List Value := l.map fun c => .int .u8 (c.toNat : Int)

theorem bytesV_length (l : List UInt8) : (bytesV l).length = l.length := by simp [bytesV]

/-- The slice v holds the bytes l in memory that the call made itself (blocks from B on); below B all is as it was in w0. -/
structure Buf (B : Nat) (w0 w : World) (v : Value) (l : List UInt8) : Prop where
  own : w.ownsRow B 5 1 v l.length (bytesV l)
  bel : Below B w0 w
  le : B ≤ w.heap.size

theorem Buf.alloc {B : Nat} {w0 w : World} {v : Value} {l : List UInt8} (h : Buf B w0 w v l) (o : Obj) : Buf B w0 (w.alloc o) v l :=
  ⟨h.own.alloc o, h.bel.alloc h.le o, by have := h.le; simp; omega⟩

theorem Buf.drew {B : Nat} {w0 w : World} {v : Value} {l : List UInt8} (h : Buf B w0 w v l) : Buf B w0 w.drew v l :=
  ⟨h.own.drew, h.bel.drew, h.le⟩

/-- An append of the bytes that lie at ad. -/
theorem wpList_append_bytes {w0 w : World} {ops : Array Oper} {rest : List Oper} {o : Oper} {a : Act} {Q : Exit → Act → World → Prop} (hgd : o.guard = none) (s x : Operand)
    (ho : o.op = .call { callee := .builtin .append, args := #[s, x], argTypes := #[102, 102] })
    (B : Nat) (v : Value) (l : List UInt8) (hs : a.eval s = v) (hb : Buf B w0 w v l)
    (ad : Addr) (news : List UInt8) (c : Nat) (hx : a.eval x = .slice (some ad) news.length c)
    (hnews : ∀ j u, (bytesV news)[j]? = some u → w.cell? (ad.add j) = some u)
    (hlen : l.length + news.length ≤ 140737488355328)
    (h : ∀ v' w', Buf B w0 w' v' (l ++ news) → wpList Try.prog ops Q rest (a.put o.dst v') w') : wpList Try.prog ops Q (o :: rest) a w := by
  obtain ⟨i0, hi, hz0, hz1, hz2⟩ := info_parts Try.info_u8
  refine wpList_append_own _ hgd s x 102 ho B 5 i0 (.int .u8 0) 1 1 Try.underlying102 hi hz0 hz1 hz2 rfl (by decide) v l.length (bytesV l) hs hb.own ad news.length c (bytesV news) hx (by simp [bytesV]) hnews ?_ (by unfold maxLen; omega) (by omega) hb.le ?_
  · intro u hu
    simp only [bytesV, List.mem_map] at hu
    obtain ⟨c, _, rfl⟩ := hu
    rfl
  · intro v' w' hown hgrow _
    refine h v' w' ⟨?_, hb.bel.grown hgrow hb.le (fun k hk => (hb.own.lt k hk).1), Nat.le_trans hb.le hgrow.size⟩
    have e1 : (l ++ news).length = l.length + news.length := by simp
    have e2 : bytesV (l ++ news) = bytesV l ++ bytesV news := by simp [bytesV]
    rw [e1, e2]
    exact hown

/-- A slice over a new row of no bytes yet. -/
theorem Buf.fresh (w : World) (cur : Array Value) (cap : Nat) (hs : cur.size = cap) (hm : cap ≤ maxLen) :
    Buf w.heap.size w (w.alloc (.cells cur 5)) (.slice (some ⟨w.heap.size, 0, none⟩) 0 cap) [] :=
  ⟨World.ownsRow_made w cur cap (Nat.le_refl _) hm (by omega), (Below.refl _ _).alloc (Nat.le_refl _) _, by simp⟩

/-- The one cell of a new block, as an append asks for it. -/
theorem one_new (w : World) (x : Int) (b : UInt8) (h : x = (b.toNat : Int)) :
    ∀ j u, (bytesV [b])[j]? = some u → (w.alloc (.cells #[.int .u8 x] 5)).cell? ((⟨w.heap.size, 0, none⟩ : Addr).add j) = some u := by
  subst h
  intro j u hj
  match j, hj with
  | 0, hj => simp [bytesV] at hj; subst hj; simp [Addr.add]
  | j + 1, hj => simp [bytesV] at hj

/-- string(b) of such bytes. -/
theorem Buf.toString {B : Nat} {w0 w : World} {v : Value} {l : List UInt8} (h : Buf B w0 w v l) :
    (convert 102 9 v).run Try.prog w = .ok (.string ⟨l.toArray⟩) w := by
  rcases h.own.2 with ⟨rfl, h0⟩ | ⟨g, cap, cur, rfl, hg, hh, hnc, hcp, hcs, htake⟩
  · obtain rfl := List.length_eq_zero_iff.1 h0
    exact run_convert_bytes_nil (P := Try.prog) w 102 5 Try.underlying102 Try.underlying5 0 0 9 Try.underlying9
  · refine run_convert_bytes_back (P := Try.prog) w 102 9 5 ⟨g, 0, none⟩ cap l Try.underlying102 Try.underlying5 Try.underlying9 fun j hj => ?_
    rw [Addr.add_lit, Nat.zero_add, h.own.cellAt j (by omega)]
    simp [bytesV, hj]

end Go.Proofs.Ytmbmbnjbeofmaaa

/- Appends to a list of bytes beside other memory of the call's own: what else lies there stays; inside a region that draws its order too; and the bytes of a string laid in a row of their own. -/
namespace Go.Proofs.Ytmbmbnjbeofmaaa
open Go.RowKit

/-- Behind an append from v to v': v' lies where v lay, or in a new block; every other block is as it was. -/
structure Keeps (w w' : World) (v v' : Value) : Prop where
  place : v'.ownBlock = v.ownBlock ∨ v'.ownBlock = some w.heap.size
  other : ∀ g, g < w.heap.size → some g ≠ v.ownBlock → w'.heap[g]? = w.heap[g]?
  size : w.heap.size ≤ w'.heap.size

theorem Keeps.block {w w' : World} {v v' : Value} (h : Keeps w w' v v') {g : Nat} {o : Obj} (hg : w.heap[g]? = some o) (ha : v.ownBlock ≠ some g) : w'.heap[g]? = some o ∧ v'.ownBlock ≠ some g := by
  have hlt : g < w.heap.size := by
    by_cases hh : g < w.heap.size
    · exact hh
    · rw [Array.getElem?_eq_none (by omega)] at hg; cases hg
  refine ⟨(h.other g hlt (Ne.symm ha)).trans hg, ?_⟩
  rcases h.place with e | e
  · rw [e]; exact ha
  · rw [e]; intro e2; have := Option.some.inj e2; omega

theorem heap_drew (w : World) (g : Nat) : (w.drew).heap[g]? = w.heap[g]? := rfl
theorem heap_alloc_some {w : World} {g : Nat} {o : Obj} (h : w.heap[g]? = some o) (x : Obj) : (w.alloc x).heap[g]? = some o := by
  have hlt : g < w.heap.size := by
    by_cases hh : g < w.heap.size
    · exact hh
    · rw [Array.getElem?_eq_none (by omega)] at h; cases h
  rw [Below.heap_alloc w x g hlt, h]

theorem run_append_bytes {w0 w : World} (ty : TypeId) (B : Nat) (v : Value) (l : List UInt8) (hb : Buf B w0 w v l)
    (ad : Addr) (news : List UInt8) (c : Nat) (hnews : ∀ j u, (bytesV news)[j]? = some u → w.cell? (ad.add j) = some u)
    (hlen : l.length + news.length ≤ 140737488355328) :
    ∃ v' w', (Builtin.append_ #[102, 102] ty #[v, .slice (some ad) news.length c]).run Try.prog w = .ok v' w' ∧ Buf B w0 w' v' (l ++ news) ∧ Keeps w w' v v' := by
  obtain ⟨i0, hi, hz0, hz1, hz2⟩ := info_parts Try.info_u8
  obtain ⟨v', w', h1, h2, h3, _, h5⟩ := run_append_own_at (P := Try.prog) w B 102 ty 5 i0 (.int .u8 0) 1 1 Try.underlying102 hi hz0 hz1 hz2 rfl (by decide) v l.length (bytesV l) hb.own ad news.length c (bytesV news) (by simp [bytesV]) hnews
    (by intro u hu; simp only [bytesV, List.mem_map] at hu; obtain ⟨c, _, rfl⟩ := hu; rfl) (by unfold maxLen; omega) (by omega) hb.le
  have e1 : (l ++ news).length = l.length + news.length := by simp
  have e2 : bytesV (l ++ news) = bytesV l ++ bytesV news := by simp [bytesV]
  exact ⟨v', w', h1, ⟨by rw [e1, e2]; exact h2, hb.bel.grown h3 hb.le (fun k hk => (hb.own.lt k hk).1), Nat.le_trans hb.le h3.size⟩, ⟨h5, fun g hg hne => h3.block g hg hne, h3.size⟩⟩

theorem wp_append_bytes {w0 w : World} {o : Oper} {a : Act} {K : Act → World → Prop} {Q : Exit → Act → World → Prop} (s x : Operand)
    (ho : o.op = .call { callee := .builtin .append, args := #[s, x], argTypes := #[102, 102] })
    (B : Nat) (v : Value) (l : List UInt8) (hs : a.eval s = v) (hb : Buf B w0 w v l)
    (ad : Addr) (news : List UInt8) (c : Nat) (hx : a.eval x = .slice (some ad) news.length c)
    (hnews : ∀ j u, (bytesV news)[j]? = some u → w.cell? (ad.add j) = some u)
    (hlen : l.length + news.length ≤ 140737488355328)
    (h : ∀ v' w', Buf B w0 w' v' (l ++ news) → Keeps w w' v v' → K (a.put o.dst v') w') : o.wp Try.prog a w K Q := by
  obtain ⟨v', w', hr, h2, h3⟩ := run_append_bytes o.type B v l hb ad news c hnews hlen
  unfold Oper.wp execOp
  simp only [ho, resolve, invoke, builtin, Sem.run_bind, Sem.run_pure, Result.andThen_ok, List.map_toArray, List.map_cons, List.map_nil, hs, hx, hr]
  exact h v' w' h2 h3

/-- The same at a list of operations that goes in its own order. -/
theorem wpList_append_kept {w0 w : World} {ops : Array Oper} {rest : List Oper} {o : Oper} {a : Act} {Q : Exit → Act → World → Prop} (hgd : o.guard = none) (s x : Operand)
    (ho : o.op = .call { callee := .builtin .append, args := #[s, x], argTypes := #[102, 102] })
    (B : Nat) (v : Value) (l : List UInt8) (hs : a.eval s = v) (hb : Buf B w0 w v l)
    (ad : Addr) (news : List UInt8) (c : Nat) (hx : a.eval x = .slice (some ad) news.length c)
    (hnews : ∀ j u, (bytesV news)[j]? = some u → w.cell? (ad.add j) = some u)
    (hlen : l.length + news.length ≤ 140737488355328)
    (h : ∀ v' w', Buf B w0 w' v' (l ++ news) → Keeps w w' v v' → wpList Try.prog ops Q rest (a.put o.dst v') w') : wpList Try.prog ops Q (o :: rest) a w :=
  wpList_plain hgd fun _ hK => wp_append_bytes s x ho B v l hs hb ad news c hx hnews hlen fun v' w' h2 h3 => hK _ _ (h v' w' h2 h3)

/-- The same at a step of a region that draws its order. -/
theorem step_append_bytes {w0 w : World} {ops : Array Oper} {o : Oper} {a : Act} {K : Act → World → Prop} {Q : Exit → Act → World → Prop} {E : Prop} (hgd : o.guard = none) (s x : Operand)
    (ho : o.op = .call { callee := .builtin .append, args := #[s, x], argTypes := #[102, 102] })
    (B : Nat) (v : Value) (l : List UInt8) (hs : a.eval s = v) (hb : Buf B w0 w v l)
    (ad : Addr) (news : List UInt8) (c : Nat) (hx : a.eval x = .slice (some ad) news.length c)
    (hnews : ∀ j u, (bytesV news)[j]? = some u → w.cell? (ad.add j) = some u)
    (hlen : l.length + news.length ≤ 140737488355328)
    (h : ∀ v' w', Buf B w0 w' v' (l ++ news) → Keeps w w' v v' → K (a.put o.dst v') w') :
    if Region.wanted o (yielded ops a.tmps) = true then Oper.wp Try.prog o a w K Q else E := by
  have hw : Region.wanted o (yielded ops a.tmps) = true := by simp [Region.wanted, hgd]
  rw [if_pos hw]
  exact wp_append_bytes s x ho B v l hs hb ad news c hx hnews hlen h

/-- Two cells of a new block, as an append asks for them; behind a draw. -/
theorem two_new (w : World) (x y : Int) (b c : UInt8) (hx : x = (b.toNat : Int)) (hy : y = (c.toNat : Int)) :
    ∀ j u, (bytesV [b, c])[j]? = some u → ((w.alloc (.cells #[.int .u8 x, .int .u8 y] 5)).drew).cell? ((⟨w.heap.size, 0, none⟩ : Addr).add j) = some u := by
  subst hx hy
  intro j u hj
  match j, hj with
  | 0, hj => simp [bytesV] at hj; subst hj; simp [Addr.add]
  | 1, hj => simp [bytesV] at hj; subst hj; simp [Addr.add]
  | j + 2, hj => simp [bytesV] at hj

/-- The row that []byte(s) lays: its block is there, whatever is laid behind it. -/
theorem bytes_block (w : World) (s : ByteArray) : ∃ o : Obj, (Lib.bytesWorld w 5 s).heap[w.heap.size]? = some o ∧
    ∀ wx : World, wx.heap[w.heap.size]? = some o → ∀ j (hj : j < s.size), wx.cell? ⟨w.heap.size, j, none⟩ = some (.int .u8 (s[j].toNat : Int)) := by
  refine ⟨_, Lib.bytesWorld_at_new w 5 s, fun wx hx j hj => ?_⟩
  have h1 := Lib.bytesWorld_cell w 5 s j hj
  rw [World.cell?_of_block (w := Lib.bytesWorld w 5 s) (a := ⟨w.heap.size, j, none⟩) (by rw [hx, Lib.bytesWorld_at_new]), h1]
  have : s.data.toList.getD j 0 = s[j] := by
    rw [List.getD_eq_getElem?_getD, List.getElem?_eq_getElem (by simpa using hj)]; rfl
  rw [this]

theorem Buf.bytesWorld {B : Nat} {w0 w : World} {v : Value} {l : List UInt8} (h : Buf B w0 w v l) (s : ByteArray) : Buf B w0 (Lib.bytesWorld w 5 s) v l := by
  have hg : w.grownBy (Lib.bytesWorld w 5 s) none := ⟨rfl, rfl, rfl, by rw [Lib.bytesWorld_size]; omega, fun k hk _ => Lib.bytesWorld_at_old w 5 s k hk⟩
  refine ⟨h.own.kept hg ?_, h.bel.grown hg h.le (fun k hk => by cases hk), Nat.le_trans h.le hg.size⟩
  cases hv : v.ownBlock with
  | none => exact .inl rfl
  | some k => exact .inr (by simp)

/-- make([]byte, 0, n). -/
theorem wpList_make_bytes {w : World} {ops : Array Oper} {rest : List Oper} {o : Oper} {a : Act} {Q : Exit → Act → World → Prop} (hg : o.guard = none) (l c : Operand) (hop : o.op = Op.makeSlice 102 l c)
    (kl kc : IntKind) (C : Int) (n : Nat) (hl : a.eval l = .int kl 0) (hc : a.eval c = .int kc C) (hC : C = (n : Int)) (hn : n ≤ 281474976710656)
    (h : ∀ w' g, Buf w.heap.size w w' (.slice (some ⟨g, 0, none⟩) 0 n) [] → g < w'.heap.size → wpList Try.prog ops Q rest (a.put o.dst (.slice (some ⟨g, 0, none⟩) 0 n)) w') : wpList Try.prog ops Q (o :: rest) a w := by
  obtain ⟨i0, hi, hz0, hz1, hz2⟩ := info_parts Try.info_u8
  refine wpList_make_own w hg l c 102 hop w.heap.size 5 i0 (.int .u8 0) 1 Try.underlying102 hi hz0 hz1 kl kc C n hl hc hC (by rw [hz2]; omega) (by unfold maxLen; omega) (Nat.le_refl _) ?_
  intro w' hown hgrow
  exact h w' w.heap.size ⟨hown, (Below.refl _ _).grown hgrow (Nat.le_refl _) (fun k hk => by cases hk), hgrow.size⟩ (hown.lt w.heap.size rfl).2

theorem Buf.form {B : Nat} {w0 w : World} {v : Value} {l : List UInt8} (h : Buf B w0 w v l) : ∃ (a : Option Addr) (cap : Nat), v = .slice a l.length cap := by
  rcases h.own.2 with ⟨rfl, h0⟩ | ⟨g, cap, cur, rfl, _⟩
  · exact ⟨none, 0, by rw [h0]⟩
  · exact ⟨_, _, rfl⟩

/-- Where something is held, it lies at the head of a row of the call's own, and each byte is in its cell. -/
theorem Buf.at {B : Nat} {w0 w : World} {v : Value} {l : List UInt8} (h : Buf B w0 w v l) (hl : l ≠ []) : ∃ g cap : Nat, v = .slice (some ⟨g, 0, none⟩) l.length cap ∧ l.length ≤ cap ∧ B ≤ g ∧ g < w.heap.size ∧
    ∀ j b, l[j]? = some b → w.cell? ⟨g, j, none⟩ = some (.int .u8 (b.toNat : Int)) := by
  rcases h.own.2 with ⟨rfl, h0⟩ | ⟨g, cap, cur, rfl, hg, hh, hnc, hcp, hcs, htake⟩
  · exact absurd (List.length_eq_zero_iff.1 h0) hl
  · refine ⟨g, cap, rfl, hnc, hg, (h.own.lt g rfl).2, fun j b hj => ?_⟩
    have hlt : j < l.length := (List.getElem?_eq_some_iff.1 hj).1
    rw [h.own.cellAt j (by omega)]
    simp [bytesV, hj]

end Go.Proofs.Ytmbmbnjbeofmaaa

/- One figure: what spec.l01Figure hands back. -/
namespace Go.Proofs.Ytmbmbnjbeofmaaa
open Go.RowKit



end Go.Proofs.Ytmbmbnjbeofmaaa

/- The figures of a number: what spec.Decimal hands back. -/
namespace Go.Proofs.Ytmbmbnjbeofmaaa
open Go.RowKit

theorem fig_figD {x : Nat} (h : x < 10) : fig x = figD x := by
  rw [fig, if_pos h, figD]

theorem one_string (w : World) (X : Int) (b : UInt8) (h : X = (b.toNat : Int)) :
    (convert 102 9 (.slice (some ⟨w.heap.size, 0, none⟩) 1 1)).run Try.prog (w.alloc (.cells #[.int .u8 X] 5)) = .ok (.string ⟨[b].toArray⟩) (w.alloc (.cells #[.int .u8 X] 5)) := by
  subst h
  refine run_convert_bytes_back (P := Try.prog) _ 102 9 5 ⟨w.heap.size, 0, none⟩ 1 [b] Try.underlying102 Try.underlying5 Try.underlying9 fun j hj => ?_
  have hj0 : j = 0 := by simpa using hj
  subst hj0
  simp [Addr.add]

theorem string_push (b : UInt8) (acc : List UInt8) (h : acc.length + 1 ≤ 9223372036854775807) (wx : World) :
    (Op.stringOp .add ⟨[b].toArray⟩ ⟨acc.toArray⟩).run Try.prog wx = .ok (.string ⟨(b :: acc).toArray⟩) wx := by
  rw [run_string_add_sum (P := Try.prog) (w := wx) ⟨[b].toArray⟩ ⟨acc.toArray⟩ (by simp [ByteArray.size]; omega), ByteArray.mk_append_mk]
  rfl


end Go.Proofs.Ytmbmbnjbeofmaaa

/- What a list of texts is that a call builds in memory of its own, and the laws by which it grows, is read and is written. -/
namespace Go.Proofs.Ytmbmbnjbeofmaaa
open Go.RowKit

theorem Try.info_str : (Try.prog.info? 9).map (fun i => (i.zero, i.size, i.bytes)) = some (some (.string ⟨#[]⟩), 1, 16) := by kernel_rfl

def strV (l : List ByteArray) : List Value := l.map fun c => .string c
theorem strV_length (l : List ByteArray) : (strV l).length = l.length := by simp [strV]

/-- The slice v holds the texts l in memory that the call made itself (blocks from B on); below B all is as it was in w0. -/
structure SBuf (B : Nat) (w0 w : World) (v : Value) (l : List ByteArray) : Prop where
  own : w.ownsRow B 9 1 v l.length (strV l)
  bel : Below B w0 w
  le : B ≤ w.heap.size

theorem SBuf.alloc {B : Nat} {w0 w : World} {v : Value} {l : List ByteArray} (h : SBuf B w0 w v l) (o : Obj) : SBuf B w0 (w.alloc o) v l :=
  ⟨h.own.alloc o, h.bel.alloc h.le o, by have := h.le; simp; omega⟩
theorem SBuf.drew {B : Nat} {w0 w : World} {v : Value} {l : List ByteArray} (h : SBuf B w0 w v l) : SBuf B w0 w.drew v l :=
  ⟨h.own.drew, h.bel.drew, h.le⟩
theorem SBuf.fresh (w : World) : SBuf w.heap.size w (w.alloc (.cells #[] 9)) (.slice (some ⟨w.heap.size, 0, none⟩) 0 0) [] :=
  ⟨World.ownsRow_made w #[] 0 (Nat.le_refl _) (by decide) rfl, (Below.refl _ _).alloc (Nat.le_refl _) _, by simp⟩

/-- What is laid behind the heap's end, and nothing else, leaves the texts where they are. -/
theorem SBuf.later {B : Nat} {w0 w w' : World} {v : Value} {l : List ByteArray} (h : SBuf B w0 w v l) (hb : Below w.heap.size w w') : SBuf B w0 w' v l := by
  have hg : w.grownBy w' none := ⟨hb.os, hb.tape, hb.output, hb.size, fun k hk _ => hb.block k hk⟩
  refine ⟨h.own.kept hg ?_, h.bel.trans (hb.mono h.le), Nat.le_trans h.le hb.size⟩
  cases hv : v.ownBlock with
  | none => exact .inl rfl
  | some k => exact .inr (by simp)

theorem wpList_append_str {w0 w : World} {ops : Array Oper} {rest : List Oper} {o : Oper} {a : Act} {Q : Exit → Act → World → Prop} (hgd : o.guard = none) (s x : Operand)
    (ho : o.op = .call { callee := .builtin .append, args := #[s, x], argTypes := #[45, 45] })
    (B : Nat) (v : Value) (l : List ByteArray) (hs : a.eval s = v) (hb : SBuf B w0 w v l)
    (ad : Addr) (t : ByteArray) (hx : a.eval x = .slice (some ad) 1 1)
    (hnews : ∀ j u, [Value.string t][j]? = some u → w.cell? (ad.add j) = some u)
    (hlen : l.length + 1 ≤ 8796093022208)
    (h : ∀ v' w', SBuf B w0 w' v' (l ++ [t]) → wpList Try.prog ops Q rest (a.put o.dst v') w') : wpList Try.prog ops Q (o :: rest) a w := by
  obtain ⟨i0, hi, hz0, hz1, hz2⟩ := info_parts Try.info_str
  refine wpList_append_own _ hgd s x 45 ho B 9 i0 (.string ⟨#[]⟩) 1 16 Try.underlying45 hi hz0 hz1 hz2 rfl (by decide) v l.length (strV l) hs hb.own ad 1 1 [.string t] hx (by simp) hnews ?_ (by unfold maxLen; omega) (by omega) hb.le ?_
  · intro u hu
    simp at hu
    subst hu
    rfl
  · intro v' w' hown hgrow _
    refine h v' w' ⟨?_, hb.bel.grown hgrow hb.le (fun k hk => (hb.own.lt k hk).1), Nat.le_trans hb.le hgrow.size⟩
    have e1 : (l ++ [t]).length = l.length + 1 := by simp
    have e2 : strV (l ++ [t]) = strV l ++ [.string t] := by simp [strV]
    rw [e1, e2]
    exact hown

theorem SBuf.form {B : Nat} {w0 w : World} {v : Value} {l : List ByteArray} (h : SBuf B w0 w v l) : ∃ (a : Option Addr) (cap : Nat), v = .slice a l.length cap := by
  rcases h.own.2 with ⟨rfl, h0⟩ | ⟨g, cap, cur, rfl, _⟩
  · exact ⟨none, 0, by rw [h0]⟩
  · exact ⟨_, _, rfl⟩

/-- Texts that can be read: each in its cell of a row; nothing where there is none. -/
def Strs (w : World) (v : Value) (l : List ByteArray) : Prop :=
  (l = [] ∧ ∃ (a : Option Addr) (cap : Nat), v = .slice a 0 cap) ∨
  ∃ g cap : Nat, v = .slice (some ⟨g, 0, none⟩) l.length cap ∧ l.length ≤ cap ∧ g < w.heap.size ∧ ∀ j b, l[j]? = some b → w.cell? ⟨g, j, none⟩ = some (.string b)

theorem SBuf.strs {B : Nat} {w0 w : World} {v : Value} {l : List ByteArray} (h : SBuf B w0 w v l) : Strs w v l := by
  rcases h.own.2 with ⟨rfl, h0⟩ | ⟨g, cap, cur, rfl, hg, hh, hnc, hcp, hcs, htake⟩
  · exact .inl ⟨List.length_eq_zero_iff.1 h0, _, _, rfl⟩
  · refine .inr ⟨g, cap, rfl, hnc, (h.own.lt g rfl).2, fun j b hj => ?_⟩
    have hlt : j < l.length := (List.getElem?_eq_some_iff.1 hj).1
    rw [h.own.cellAt j (by omega)]
    simp [strV, hj]

theorem Strs.later {w w' : World} {v : Value} {l : List ByteArray} (h : Strs w v l) (hb : Below w.heap.size w w') : Strs w' v l := by
  rcases h with h | ⟨g, cap, hv, hc, hg, hcl⟩
  · exact .inl h
  · exact .inr ⟨g, cap, hv, hc, Nat.lt_of_lt_of_le hg hb.size, fun j b hj => (hb.cell (p := ⟨g, j, none⟩) hg).trans (hcl j b hj)⟩

/-- A store into the row. -/
theorem SBuf.stored {B : Nat} {w0 w : World} {g cap : Nat} {l : List ByteArray} (h : SBuf B w0 w (.slice (some ⟨g, 0, none⟩) l.length cap) l) (j : Nat) (t : ByteArray) :
    SBuf B w0 (w.setCell ⟨g, j, none⟩ (.string t)) (.slice (some ⟨g, 0, none⟩) l.length cap) (l.set j t) := by
  have hst := h.own.stored j (.string t)
  have e : strV (l.set j t) = (strV l).set j (.string t) := by simp [strV, List.map_set]
  refine ⟨?_, h.bel.setCell (h.own.lt g rfl).1 _, by have := h.le; simpa using this⟩
  have hl : (l.set j t).length = l.length := by simp
  rw [hl, e]
  exact hst.1

theorem SBuf.under {w0 w1 w : World} {v : Value} {l : List ByteArray} (hb : Below w0.heap.size w0 w1) (h : SBuf w1.heap.size w1 w v l) : SBuf w0.heap.size w0 w v l := by
  refine ⟨⟨h.own.1, ?_⟩, hb.trans (h.bel.mono hb.size), Nat.le_trans hb.size h.le⟩
  rcases h.own.2 with h1 | ⟨g, cap, cur, h1, h2, h3⟩
  · exact .inl h1
  · exact .inr ⟨g, cap, cur, h1, Nat.le_trans hb.size h2, h3⟩

end Go.Proofs.Ytmbmbnjbeofmaaa

/- The marks by which a law tells whose memory a list of texts is: what laws.markText, eqStringS, markStringS and heldStringS hand back. -/
namespace Go.Proofs.Ytmbmbnjbeofmaaa
open Go.RowKit

/-- The k-th mark. -/
def mark (k : Nat) : ByteArray := ⟨(109 :: digs k).toArray⟩

theorem Strs.ways {w : World} {v : Value} {l : List ByteArray} (h : Strs w v l) : (l = [] ∧ ∃ (a : Option Addr) (cap : Nat), v = .slice a 0 cap) ∨
    (l ≠ [] ∧ ∃ g cap : Nat, v = .slice (some ⟨g, 0, none⟩) l.length cap ∧ l.length ≤ cap ∧ g < w.heap.size ∧ ∀ j b, l[j]? = some b → w.cell? ⟨g, j, none⟩ = some (.string b)) := by
  by_cases hl : l = []
  · subst hl
    rcases h with h | ⟨g, cap, hv, _⟩
    · exact .inl h
    · exact .inl ⟨rfl, _, _, hv⟩
  · rcases h with ⟨h, _⟩ | h
    · exact absurd h hl
    · exact .inr ⟨hl, h⟩

end Go.Proofs.Ytmbmbnjbeofmaaa

/- A list of texts marked and looked at again: what laws.markStringS and laws.heldStringS hand back. -/
namespace Go.Proofs.Ytmbmbnjbeofmaaa
open Go.RowKit

/-- The first i texts of l marked, from the k-th mark on. -/
def markTo (k : Nat) (l : List ByteArray) (i : Nat) : List ByteArray := (List.range i).map (fun j => mark (k + j)) ++ l.drop i

theorem markTo_length {k i : Nat} {l : List ByteArray} (h : i ≤ l.length) : (markTo k l i).length = l.length := by
  simp [markTo]; omega

theorem markTo_set {k i : Nat} {l : List ByteArray} (h : i < l.length) : (markTo k l i).set i (mark (k + i)) = markTo k l (i + 1) := by
  unfold markTo
  rw [List.set_append_right _ _ (by simp)]
  simp only [List.length_map, List.length_range, Nat.sub_self]
  rw [List.drop_eq_getElem_cons h, List.set_cons_zero, List.range_succ, List.map_append, List.append_assoc]
  rfl

theorem markTo_zero (k : Nat) (l : List ByteArray) : markTo k l 0 = l := by simp [markTo]

/-- All marked. -/
def marksOf (k n : Nat) : List ByteArray := (List.range n).map (fun j => mark (k + j))
theorem markTo_all (k : Nat) (l : List ByteArray) : markTo k l l.length = marksOf k l.length := by simp [markTo, marksOf]
theorem marksOf_length (k n : Nat) : (marksOf k n).length = n := by simp [marksOf]
theorem marksOf_at {k n i : Nat} (h : i < n) : (marksOf k n)[i]? = some (mark (k + i)) := by simp [marksOf, h]

end Go.Proofs.Ytmbmbnjbeofmaaa

/- What a list is that a call builds in memory of its own, whatever its elements are (each of so many cells), and the laws by which it grows, is read and is written; and a list that can be read. -/
namespace Go.Proofs.Ytmbmbnjbeofmaaa
open Go.RowKit

/-- How an element lies in memory. -/
structure Enc (α : Type) where
  ty : TypeId
  sty : TypeId
  sz : Nat
  bytes : Nat
  zero : Value
  f : α → List Value
  len : ∀ a, (f a).length = sz
  pos : 0 < sz
  one : ∀ a, ∀ u ∈ f a, u.oneCell' = true
  und : Try.prog.underlying sty = some (.slice ty)
  info : (Try.prog.info? ty).map (fun i => (i.zero, i.size, i.bytes)) = some (some zero, sz, bytes)
  zc : zero.cells.size = sz
  z0 : α
  zf : f z0 = zero.cells.toList

variable {α : Type}

def Enc.row (E : Enc α) (l : List α) : List Value := l.flatMap E.f

theorem Enc.row_length (E : Enc α) (l : List α) : (E.row l).length = l.length * E.sz := by
  induction l with
  | nil => simp [Enc.row]
  | cons x l ih =>
    have : E.row (x :: l) = E.f x ++ E.row l := rfl
    rw [this, List.length_append, ih, E.len, List.length_cons, Nat.succ_mul, Nat.add_comm]

theorem Enc.row_append (E : Enc α) (l m : List α) : E.row (l ++ m) = E.row l ++ E.row m := by simp [Enc.row]

theorem Enc.row_one (E : Enc α) (x : α) : E.row [x] = E.f x := by simp [Enc.row]

theorem Enc.row_at (E : Enc α) (l : List α) (j : Nat) (x : α) (hj : l[j]? = some x) (k : Nat) (hk : k < E.sz) : (E.row l)[j * E.sz + k]? = (E.f x)[k]? := by
  induction l generalizing j with
  | nil => simp at hj
  | cons y l ih =>
    have e : E.row (y :: l) = E.f y ++ E.row l := rfl
    rw [e]
    cases j with
    | zero =>
      have : y = x := by simpa using hj
      subst this
      rw [Nat.zero_mul, Nat.zero_add, List.getElem?_append_left (by rw [E.len]; exact hk)]
    | succ j =>
      have hj' : l[j]? = some x := by simpa using hj
      rw [List.getElem?_append_right (by rw [E.len, Nat.succ_mul]; omega), E.len]
      have : (j + 1) * E.sz + k - E.sz = j * E.sz + k := by rw [Nat.succ_mul]; omega
      rw [this]
      exact ih j hj'

theorem Enc.row_set (E : Enc α) (l : List α) (j : Nat) (x y : α) (hj : l[j]? = some x) (k : Nat) (hk : k < E.sz) (u : Value) (hy : E.f y = (E.f x).set k u) : E.row (l.set j y) = (E.row l).set (j * E.sz + k) u := by
  induction l generalizing j with
  | nil => simp at hj
  | cons z l ih =>
    have e : E.row (z :: l) = E.f z ++ E.row l := rfl
    rw [e]
    cases j with
    | zero =>
      have : z = x := by simpa using hj
      subst this
      have e2 : E.row ((z :: l).set 0 y) = E.f y ++ E.row l := rfl
      rw [e2, hy, Nat.zero_mul, Nat.zero_add, List.set_append_left _ _ (by rw [E.len]; exact hk)]
    | succ j =>
      have hj' : l[j]? = some x := by simpa using hj
      have e2 : E.row ((z :: l).set (j + 1) y) = E.f z ++ E.row (l.set j y) := rfl
      rw [e2, List.set_append_right _ _ (by rw [E.len, Nat.succ_mul]; omega), E.len]
      have : (j + 1) * E.sz + k - E.sz = j * E.sz + k := by rw [Nat.succ_mul]; omega
      rw [this, ih j hj']

theorem Enc.row_one' (E : Enc α) (l : List α) : ∀ u ∈ E.row l, u.oneCell' = true := by
  intro u hu
  simp only [Enc.row, List.mem_flatMap] at hu
  obtain ⟨a, _, ha⟩ := hu
  exact E.one a u ha

/-- The slice v holds the elements l in memory that the call made itself (blocks from B on); below B all is as it was in w0. -/
structure RBuf (E : Enc α) (B : Nat) (w0 w : World) (v : Value) (l : List α) : Prop where
  own : w.ownsRow B E.ty E.sz v l.length (E.row l)
  bel : Below B w0 w
  le : B ≤ w.heap.size

variable {E : Enc α} {B : Nat} {w0 w : World} {v : Value} {l : List α}

theorem RBuf.alloc (h : RBuf E B w0 w v l) (o : Obj) : RBuf E B w0 (w.alloc o) v l :=
  ⟨h.own.alloc o, h.bel.alloc h.le o, by have := h.le; simp; omega⟩
theorem RBuf.drew (h : RBuf E B w0 w v l) : RBuf E B w0 w.drew v l := ⟨h.own.drew, h.bel.drew, h.le⟩
theorem RBuf.here (h : RBuf E B w0 w v l) : RBuf E B w w v l := ⟨h.own, Below.refl _ _, h.le⟩

theorem RBuf.nil (E : Enc α) (w : World) : RBuf E w.heap.size w w (.slice none 0 0) [] :=
  ⟨World.ownsRow_nil _ _ _ _, Below.refl _ _, Nat.le_refl _⟩

theorem RBuf.fresh (E : Enc α) (w : World) : RBuf E w.heap.size w (w.alloc (.cells #[] E.ty)) (.slice (some ⟨w.heap.size, 0, none⟩) 0 0) [] :=
  ⟨World.ownsRow_made w #[] 0 (Nat.le_refl _) (by decide) (by simp), (Below.refl _ _).alloc (Nat.le_refl _) _, by simp⟩

/-- What leaves the row's own block alone leaves the list as it is. -/
theorem RBuf.grown (h : RBuf E B w0 w v l) {w' : World} {r : Option Nat} (hg : w.grownBy w' r) (hne : v.ownBlock = none ∨ v.ownBlock ≠ r) (hb : ∀ k, r = some k → B ≤ k) : RBuf E B w0 w' v l :=
  ⟨h.own.kept hg hne, h.bel.grown hg h.le hb, Nat.le_trans h.le hg.size⟩

theorem RBuf.later (h : RBuf E B w0 w v l) {w' : World} (hb : Below w.heap.size w w') : RBuf E B w0 w' v l := by
  have hg : w.grownBy w' none := ⟨hb.os, hb.tape, hb.output, hb.size, fun k hk _ => hb.block k hk⟩
  refine ⟨h.own.kept hg ?_, h.bel.trans (hb.mono h.le), Nat.le_trans h.le hb.size⟩
  cases hv : v.ownBlock with
  | none => exact .inl rfl
  | some k => exact .inr (by simp)

/-- The same list under a lower base. -/
theorem RBuf.down {B0 : Nat} {w1 : World} (h : RBuf E B w1 w v l) (hb : Below B0 w0 w) (hB : B0 ≤ B) : RBuf E B0 w0 w v l := by
  refine ⟨⟨h.own.1, ?_⟩, hb, Nat.le_trans hB h.le⟩
  rcases h.own.2 with h1 | ⟨g, cap, cur, h1, h2, h3⟩
  · exact .inl h1
  · exact .inr ⟨g, cap, cur, h1, Nat.le_trans hB h2, h3⟩

theorem RBuf.form (h : RBuf E B w0 w v l) : ∃ (a : Option Addr) (cap : Nat), v = .slice a l.length cap := by
  rcases h.own.2 with ⟨rfl, h0⟩ | ⟨g, cap, cur, rfl, _⟩
  · exact ⟨none, 0, by rw [h0]⟩
  · exact ⟨_, _, rfl⟩

/-- An append of elements that lie at ad. -/
theorem wpList_append_row {ops : Array Oper} {rest : List Oper} {o : Oper} {a : Act} {Q : Exit → Act → World → Prop} (hgd : o.guard = none) (s x : Operand)
    (E : Enc α) (ho : o.op = .call { callee := .builtin .append, args := #[s, x], argTypes := #[E.sty, E.sty] })
    (B : Nat) (v : Value) (l : List α) (hs : a.eval s = v) (hb : RBuf E B w0 w v l)
    (ad : Addr) (news : List α) (c : Nat) (hx : a.eval x = .slice (some ad) news.length c)
    (hnews : ∀ j u, (E.row news)[j]? = some u → w.cell? (ad.add j) = some u)
    (hlen : (l.length + news.length) * (E.bytes + 1) ≤ 140737488355328)
    (h : ∀ v' w', RBuf E B w0 w' v' (l ++ news) → w.grownBy w' v.ownBlock → (v'.ownBlock = v.ownBlock ∨ v'.ownBlock = some w.heap.size) → wpList Try.prog ops Q rest (a.put o.dst v') w') : wpList Try.prog ops Q (o :: rest) a w := by
  obtain ⟨i0, hi, hz0, hz1, hz2⟩ := info_parts E.info
  have e0 : (l.length + news.length) * (E.bytes + 1) = (l.length + news.length) * E.bytes + (l.length + news.length) := Nat.mul_succ _ _
  refine wpList_append_own_at _ hgd s x E.sty ho B E.ty i0 E.zero E.sz E.bytes E.und hi hz0 hz1 hz2 E.zc E.pos v l.length (E.row l) hs hb.own ad news.length c (E.row news) hx (E.row_length news) hnews (E.row_one' news) (by unfold maxLen; omega) (by omega) hb.le ?_
  intro v' w' hown hgrow _ hat
  refine h v' w' ⟨?_, hb.bel.grown hgrow hb.le (fun k hk => (hb.own.lt k hk).1), Nat.le_trans hb.le hgrow.size⟩ hgrow hat
  have e1 : (l ++ news).length = l.length + news.length := by simp
  rw [e1, E.row_append]
  exact hown

/-- Elements that can be read: each in its cells of a row; nothing where there is none. -/
def Rows' (E : Enc α) (w : World) (v : Value) (l : List α) : Prop :=
  (l = [] ∧ ∃ (a : Option Addr) (cap : Nat), v = .slice a 0 cap) ∨
  ∃ g off cap : Nat, v = .slice (some ⟨g, off, none⟩) l.length cap ∧ l.length ≤ cap ∧ g < w.heap.size ∧
    ∀ j x, l[j]? = some x → ∀ k u, (E.f x)[k]? = some u → w.cell? ⟨g, off + j * E.sz + k, none⟩ = some u

theorem RBuf.cell (h : RBuf E B w0 w v l) {g cap : Nat} (hv : v = .slice (some ⟨g, 0, none⟩) l.length cap) (j : Nat) (x : α) (hj : l[j]? = some x) (k : Nat) (u : Value) (hk : (E.f x)[k]? = some u) : w.cell? ⟨g, j * E.sz + k, none⟩ = some u := by
  subst hv
  have hlt : j < l.length := (List.getElem?_eq_some_iff.1 hj).1
  have hks : k < E.sz := by rw [← E.len x]; exact (List.getElem?_eq_some_iff.1 hk).1
  have : j * E.sz + k < l.length * E.sz := by
    have : (j + 1) * E.sz ≤ l.length * E.sz := Nat.mul_le_mul_right _ hlt
    rw [Nat.succ_mul] at this; omega
  rw [h.own.cellAt _ this, E.row_at l j x hj k hks, hk]

theorem RBuf.rows (h : RBuf E B w0 w v l) : Rows' E w v l := by
  rcases h.own.2 with ⟨rfl, h0⟩ | ⟨g, cap, cur, rfl, hg, hh, hnc, hcp, hcs, htake⟩
  · exact .inl ⟨List.length_eq_zero_iff.1 h0, _, _, rfl⟩
  · refine .inr ⟨g, 0, cap, rfl, hnc, (h.own.lt g rfl).2, fun j x hj k u hk => ?_⟩
    rw [Nat.zero_add]
    exact h.cell rfl j x hj k u hk

theorem Rows'.later (h : Rows' E w v l) {w' : World} (hb : Below w.heap.size w w') : Rows' E w' v l := by
  rcases h with h | ⟨g, off, cap, hv, hc, hg, hcl⟩
  · exact .inl h
  · exact .inr ⟨g, off, cap, hv, hc, Nat.lt_of_lt_of_le hg hb.size, fun j x hj k u hk => (hb.cell (p := ⟨g, off + j * E.sz + k, none⟩) hg).trans (hcl j x hj k u hk)⟩

/-- A store into one cell of an element. -/
theorem RBuf.stored {g cap : Nat} (h : RBuf E B w0 w (.slice (some ⟨g, 0, none⟩) l.length cap) l) (j : Nat) (x y : α) (hj : l[j]? = some x) (k : Nat) (hk : k < E.sz) (u : Value) (hy : E.f y = (E.f x).set k u) :
    RBuf E B w0 (w.setCell ⟨g, j * E.sz + k, none⟩ u) (.slice (some ⟨g, 0, none⟩) l.length cap) (l.set j y) := by
  have hst := h.own.stored (j * E.sz + k) u
  refine ⟨?_, h.bel.setCell (h.own.lt g rfl).1 _, by have := h.le; simpa using this⟩
  have hl : (l.set j y).length = l.length := by simp
  rw [hl, E.row_set l j x y hj k hk u hy]
  exact hst.1

theorem RBuf.loose {g cap : Nat} (h : RBuf E B w0 w (.slice (some ⟨g, 0, none⟩) l.length cap) l) (j : Nat) : w.frozen? ⟨g, j, none⟩ = false := h.own.frozenAt j

theorem Enc.row_made (E : Enc α) (n : Nat) : (madeCells E.zero.cells (n * E.sz)).toList = E.row (List.replicate n E.z0) := by
  apply List.ext_getElem?
  intro i
  have hl : (E.row (List.replicate n E.z0)).length = n * E.sz := by rw [E.row_length, List.length_replicate]
  by_cases hi : i < n * E.sz
  · have hdm : i / E.sz * E.sz + i % E.sz = i := Nat.div_add_mod' i E.sz
    have hj : i / E.sz < n := (Nat.div_lt_iff_lt_mul E.pos).2 hi
    have hk : i % E.sz < E.sz := Nat.mod_lt _ E.pos
    have h1 : (List.replicate n E.z0)[i / E.sz]? = some E.z0 := by rw [List.getElem?_replicate, if_pos hj]
    have h2 := E.row_at _ _ _ h1 _ hk
    rw [hdm] at h2
    rw [h2, E.zf]
    have hz : i % E.sz < E.zero.cells.size := by rw [E.zc]; exact hk
    simp [madeCells, hi, E.zc]
    rw [getElem!_pos E.zero.cells (i % E.sz) hz, Array.getElem?_eq_getElem hz]
  · rw [List.getElem?_eq_none (by simp [madeCells]; omega), List.getElem?_eq_none (by omega)]

/-- make([]T, n). -/
theorem wpList_make_rows {ops : Array Oper} {rest : List Oper} {o : Oper} {a : Act} {Q : Exit → Act → World → Prop} (hg : o.guard = none) (x c : Operand) (E : Enc α) (hop : o.op = Op.makeSlice E.sty x c)
    (kl kc : IntKind) (L C : Int) (n : Nat) (hl : a.eval x = .int kl L) (hc : a.eval c = .int kc C) (hL : L = (n : Int)) (hC : C = (n : Int)) (hn : (E.bytes + 1) * n ≤ 281474976710656)
    (h : ∀ w', RBuf E w.heap.size w w' (.slice (some ⟨w.heap.size, 0, none⟩) n n) (List.replicate n E.z0) → w.heap.size < w'.heap.size → wpList Try.prog ops Q rest (a.put o.dst (.slice (some ⟨w.heap.size, 0, none⟩) n n)) w') : wpList Try.prog ops Q (o :: rest) a w := by
  obtain ⟨i0, hi, hz0, hz1, hz2⟩ := info_parts E.info
  have e0 : (E.bytes + 1) * n = E.bytes * n + n := Nat.succ_mul _ _
  refine wpList_make_full w hg x c E.sty hop w.heap.size E.ty i0 E.zero E.sz E.und hi hz0 hz1 kl kc L C n hl hc hL hC (by rw [hz2]; omega) (by unfold maxLen; omega) (Nat.le_refl _) ?_
  intro w' hown hgrow
  rw [E.row_made] at hown
  refine h w' ⟨?_, (Below.refl _ _).grown hgrow (Nat.le_refl _) (fun k hk => by cases hk), hgrow.size⟩ (hown.lt w.heap.size rfl).2
  rw [List.length_replicate]
  exact hown

end Go.Proofs.Ytmbmbnjbeofmaaa

/- Appends of one list of the call's own to another, at an operation, in a list of operations and in a region that draws its order. -/
namespace Go.Proofs.Ytmbmbnjbeofmaaa
open Go.RowKit

variable {α : Type} {E : Enc α}

theorem RBuf.shift {B : Nat} {w w' : World} {v : Value} {l : List α} {r : Option Nat} (h : RBuf E B w w v l) (hg : w.grownBy w' r) (hne : v.ownBlock = none ∨ v.ownBlock ≠ r) : RBuf E B w' w' v l :=
  ⟨h.own.kept hg hne, Below.refl _ _, Nat.le_trans h.le hg.size⟩

theorem RBuf.lower {B B0 : Nat} {w : World} {v : Value} {l : List α} (h : RBuf E B w w v l) (hB : B0 ≤ B) : RBuf E B0 w w v l := h.down (Below.refl _ _) hB

/-- What is appended: a list of whoever's own. -/
theorem run_append_rows {w : World} (ty : TypeId) (B : Nat) (v : Value) (l : List α) (hb : RBuf E B w w v l) (Bx : Nat) (vx : Value) (m : List α) (hx : RBuf E Bx w w vx m)
    (hlen : (l.length + m.length) * (E.bytes + 1) ≤ 140737488355328) :
    ∃ v' w', (Builtin.append_ #[E.sty, E.sty] ty #[v, vx]).run Try.prog w = .ok v' w' ∧ RBuf E B w' w' v' (l ++ m) ∧ w.grownBy w' v.ownBlock ∧ (v'.ownBlock = v.ownBlock ∨ v'.ownBlock = some w.heap.size) := by
  obtain ⟨i0, hi, hz0, hz1, hz2⟩ := info_parts E.info
  have e0 : (l.length + m.length) * (E.bytes + 1) = (l.length + m.length) * E.bytes + (l.length + m.length) := Nat.mul_succ _ _
  rcases hx.own.2 with ⟨rfl, h0⟩ | ⟨g, cap, cur, rfl, hg, hh, hnc, hcp, hcs, htake⟩
  · obtain rfl := List.length_eq_zero_iff.1 h0
    refine ⟨v, w, run_append_owned_none (P := Try.prog) w B E.sty ty E.ty i0 E.sz E.und hi v l.length (E.row l) hb.own, by simpa using hb, World.grownBy.refl _ _, .inl rfl⟩
  · obtain ⟨v', w', h1, h2, h3, _, h5⟩ := run_append_own_at (P := Try.prog) w B E.sty ty E.ty i0 E.zero E.sz E.bytes E.und hi hz0 hz1 hz2 E.zc E.pos v l.length (E.row l) hb.own ⟨g, 0, none⟩ m.length cap (E.row m) (E.row_length m)
      (fun j u hu => by
        have hjl : j < m.length * E.sz := by have := (List.getElem?_eq_some_iff.1 hu).1; rwa [E.row_length] at this
        rw [Addr.add_lit, Nat.zero_add, hx.own.cellAt j hjl]; exact hu) (E.row_one' m) (by unfold maxLen; omega) (by omega) hb.le
    refine ⟨v', w', h1, ⟨?_, Below.refl _ _, Nat.le_trans hb.le h3.size⟩, h3, h5⟩
    rw [List.length_append, E.row_append]
    exact h2

theorem wp_append_rows {w : World} {o : Oper} {a : Act} {K : Act → World → Prop} {Q : Exit → Act → World → Prop} (s x : Operand) (E : Enc α)
    (ho : o.op = .call { callee := .builtin .append, args := #[s, x], argTypes := #[E.sty, E.sty] })
    (B : Nat) (v : Value) (l : List α) (hs : a.eval s = v) (hb : RBuf E B w w v l) (Bx : Nat) (vx : Value) (m : List α) (hxv : a.eval x = vx) (hx : RBuf E Bx w w vx m)
    (hlen : (l.length + m.length) * (E.bytes + 1) ≤ 140737488355328)
    (h : ∀ v' w', RBuf E B w' w' v' (l ++ m) → w.grownBy w' v.ownBlock → (v'.ownBlock = v.ownBlock ∨ v'.ownBlock = some w.heap.size) → K (a.put o.dst v') w') : o.wp Try.prog a w K Q := by
  obtain ⟨v', w', hr, h2, h3, h4⟩ := run_append_rows o.type B v l hb Bx vx m hx hlen
  unfold Oper.wp execOp
  simp only [ho, resolve, invoke, builtin, Sem.run_bind, Sem.run_pure, Result.andThen_ok, List.map_toArray, List.map_cons, List.map_nil, hs, hxv, hr]
  exact h v' w' h2 h3 h4

theorem wpList_append_rows {w : World} {ops : Array Oper} {rest : List Oper} {o : Oper} {a : Act} {Q : Exit → Act → World → Prop} (hgd : o.guard = none) (s x : Operand) (E : Enc α)
    (ho : o.op = .call { callee := .builtin .append, args := #[s, x], argTypes := #[E.sty, E.sty] })
    (B : Nat) (v : Value) (l : List α) (hs : a.eval s = v) (hb : RBuf E B w w v l) (Bx : Nat) (vx : Value) (m : List α) (hxv : a.eval x = vx) (hx : RBuf E Bx w w vx m)
    (hlen : (l.length + m.length) * (E.bytes + 1) ≤ 140737488355328)
    (h : ∀ v' w', RBuf E B w' w' v' (l ++ m) → w.grownBy w' v.ownBlock → (v'.ownBlock = v.ownBlock ∨ v'.ownBlock = some w.heap.size) → wpList Try.prog ops Q rest (a.put o.dst v') w') : wpList Try.prog ops Q (o :: rest) a w :=
  wpList_plain hgd fun _ hK => wp_append_rows s x E ho B v l hs hb Bx vx m hxv hx hlen fun v' w' h2 h3 h4 => hK _ _ (h v' w' h2 h3 h4)

theorem step_append_rows {w : World} {ops : Array Oper} {o : Oper} {a : Act} {K : Act → World → Prop} {Q : Exit → Act → World → Prop} {X : Prop} (hgd : o.guard = none) (s x : Operand) (E : Enc α)
    (ho : o.op = .call { callee := .builtin .append, args := #[s, x], argTypes := #[E.sty, E.sty] })
    (B : Nat) (v : Value) (l : List α) (hs : a.eval s = v) (hb : RBuf E B w w v l) (Bx : Nat) (vx : Value) (m : List α) (hxv : a.eval x = vx) (hx : RBuf E Bx w w vx m)
    (hlen : (l.length + m.length) * (E.bytes + 1) ≤ 140737488355328)
    (h : ∀ v' w', RBuf E B w' w' v' (l ++ m) → w.grownBy w' v.ownBlock → (v'.ownBlock = v.ownBlock ∨ v'.ownBlock = some w.heap.size) → (∀ k, v.ownBlock = some k → B ≤ k ∧ k < w.heap.size) → K (a.put o.dst v') w') :
    if Region.wanted o (yielded ops a.tmps) = true then Oper.wp Try.prog o a w K Q else X := by
  have hw : Region.wanted o (yielded ops a.tmps) = true := by simp [Region.wanted, hgd]
  rw [if_pos hw]
  exact wp_append_rows s x E ho B v l hs hb Bx vx m hxv hx hlen fun v' w' h2 h3 h4 => h v' w' h2 h3 h4 (fun k hk => hb.own.lt k hk)

/-- One element in a new row, as an append asks for it. -/
theorem RBuf.lit1 (E : Enc α) (w : World) (x : α) : RBuf E w.heap.size (w.alloc (.cells (E.f x).toArray E.ty)) (w.alloc (.cells (E.f x).toArray E.ty)) (.slice (some ⟨w.heap.size, 0, none⟩) 1 1) [x] := by
  refine ⟨?_, Below.refl _ _, by simp⟩
  have := World.ownsRow_lit (base := w.heap.size) (e := E.ty) (size := E.sz) w (E.f x).toArray 1 (Nat.le_refl _) (by decide) (by simp [E.len])
  simpa [E.row_one] using this

end Go.Proofs.Ytmbmbnjbeofmaaa

/- Plain facts on the bytes of a number, with no program in them: the groups of seven bits of a number, the lowest first. -/
namespace Go.Proofs.Ytmbmbnjbeofmaaa

/-- A byte that more follows: the lowest seven bits of m, and 128. -/
def hiByte (m : Nat) : UInt8 := UInt8.ofNat (m % 128 + 128)
/-- The last byte. -/
def loByte (m : Nat) : UInt8 := UInt8.ofNat m

theorem hiByte_toNat (m : Nat) : (hiByte m).toNat = m % 128 + 128 := by
  rw [hiByte, UInt8.toNat_ofNat']
  omega

theorem loByte_toNat {m : Nat} (h : m < 256) : (loByte m).toNat = m := by
  rw [loByte, UInt8.toNat_ofNat']
  omega

def vtF : Nat → Nat → List UInt8
  | 0, n => [loByte n]
  | f + 1, n => if 127 < n then hiByte n :: vtF f (n / 128) else [loByte n]

def vt (n : Nat) : List UInt8 := vtF n n

theorem vtF_more : ∀ (f g n : Nat), n ≤ f → n ≤ g → vtF f n = vtF g n := by
  intro f
  induction f with
  | zero =>
    intro g n hf hg
    obtain rfl : n = 0 := by omega
    cases g <;> simp [vtF]
  | succ f ih =>
    intro g n hf hg
    cases g with
    | zero => obtain rfl : n = 0 := by omega
              simp [vtF]
    | succ g =>
      simp only [vtF]
      split
      · rw [ih g (n / 128) (by omega) (by omega)]
      · rfl

theorem vt_big {n : Nat} (h : 127 < n) : vt n = hiByte n :: vt (n / 128) := by
  unfold vt
  cases n with
  | zero => omega
  | succ n =>
    rw [vtF, if_pos h, vtF_more n ((n + 1) / 128) ((n + 1) / 128) (by omega) (Nat.le_refl _)]

theorem vt_small {n : Nat} (h : n ≤ 127) : vt n = [loByte n] := by
  unfold vt
  cases n with
  | zero => rfl
  | succ n => rw [vtF, if_neg (by omega)]

theorem vtF_len : ∀ (f n : Nat), (vtF f n).length ≤ f + 1 := by
  intro f
  induction f with
  | zero => intro n; simp [vtF]
  | succ f ih =>
    intro n
    simp only [vtF]
    split
    · simp; exact ih _
    · simp

theorem vt_len (n : Nat) : (vt n).length ≤ n + 1 := vtF_len n n

/-- What has been written and what is still to be written are together what is asked for. -/
theorem vt_step {acc : List UInt8} {m n : Nat} (h : acc ++ vt m = vt n) (hm : 127 < m) : (acc ++ [hiByte m]) ++ vt (m / 128) = vt n := by
  rw [vt_big hm] at h
  simpa using h

theorem vt_end {acc : List UInt8} {m n : Nat} (h : acc ++ vt m = vt n) (hm : m ≤ 127) : acc ++ [loByte m] = vt n := by
  rw [vt_small hm] at h
  exact h

theorem vt_acc {acc : List UInt8} {m n : Nat} (h : acc ++ vt m = vt n) : acc.length ≤ n + 1 := by
  have h1 := congrArg List.length h
  have h2 := vt_len n
  simp at h1
  omega

end Go.Proofs.Ytmbmbnjbeofmaaa

/- Plain facts on reading a number in groups of seven bits, with no program in them. -/
namespace Go.Proofs.Ytmbmbnjbeofmaaa

/-- The groups from the first byte of a list on, the i-th of them next: the number, and how many bytes there were. -/
def rg : Nat → List UInt8 → Nat → Nat → Option (Nat × Nat)
  | 0, _, _, _ => none
  | _ + 1, [], _, _ => none
  | f + 1, c :: cs, i, n => if c.toNat < 128 then some (n + c.toNat % 128 * 128 ^ i, i + 1) else rg f cs (i + 1) (n + c.toNat % 128 * 128 ^ i)

theorem rg_lo {l : List UInt8} {k i n : Nat} (hi : i < 5) (hlt : k + i < l.length) (hc : l[k + i].toNat < 128) :
    rg (5 - i) (l.drop (k + i)) i n = some (n + l[k + i].toNat % 128 * 128 ^ i, i + 1) := by
  rw [List.drop_eq_getElem_cons hlt, show 5 - i = (4 - i) + 1 by omega, rg, if_pos hc]

theorem rg_hi {l : List UInt8} {k i n : Nat} (hi : i < 5) (hlt : k + i < l.length) (hc : ¬ l[k + i].toNat < 128) :
    rg (5 - i) (l.drop (k + i)) i n = rg (5 - (i + 1)) (l.drop (k + (i + 1))) (i + 1) (n + l[k + i].toNat % 128 * 128 ^ i) := by
  rw [List.drop_eq_getElem_cons hlt, show 5 - i = (4 - i) + 1 by omega, rg, if_neg hc, show 5 - (i + 1) = 4 - i by omega, show k + (i + 1) = k + i + 1 by omega]

theorem rg_out {l : List UInt8} {k i n : Nat} (h : ¬ (i < 5 ∧ k + i < l.length)) : rg (5 - i) (l.drop (k + i)) i n = none := by
  by_cases hi : i < 5
  · have : l.drop (k + i) = [] := by apply List.drop_eq_nil_of_le; omega
    rw [this, show 5 - i = (4 - i) + 1 by omega, rg]
  · rw [show 5 - i = 0 by omega, rg]

theorem rg_bound : ∀ (f : Nat) (l : List UInt8) (i n m c : Nat), rg f l i n = some (m, c) → n < 128 ^ i → m < 128 ^ (i + f) ∧ i < c ∧ c ≤ i + f ∧ c ≤ i + l.length := by
  intro f
  induction f with
  | zero => intro l i n m c h; simp [rg] at h
  | succ f ih =>
    intro l i n m c h hn
    cases l with
    | nil => simp [rg] at h
    | cons b bs =>
      have hb : b.toNat % 128 * 128 ^ i ≤ 127 * 128 ^ i := Nat.mul_le_mul_right _ (by omega)
      have hp : 128 ^ (i + 1) = 128 * 128 ^ i := by rw [Nat.pow_succ, Nat.mul_comm]
      rw [rg] at h
      split at h
      · simp at h
        obtain ⟨rfl, rfl⟩ := h
        have hq : 128 ^ (i + 1) ≤ 128 ^ (i + (f + 1)) := Nat.pow_le_pow_right (by omega) (by omega)
        simp
        omega
      · obtain ⟨h1, h2, h3, h4⟩ := ih bs (i + 1) _ m c h (by omega)
        rw [show i + 1 + f = i + (f + 1) by omega] at h1
        simp
        omega

/-- The number whose bytes stand in l from k on, and the place behind it. -/
def rv (l : List UInt8) (k : Nat) : Option (Nat × Nat) :=
  match rg 5 (l.drop k) 0 0 with
  | some (n, c) => if n ≤ 1000000000 ∧ vt n = (l.drop k).take c then some (n, k + c) else none
  | none => none

theorem rv_none {l : List UInt8} {k : Nat} (h : rg 5 (l.drop k) 0 0 = none) : rv l k = none := by rw [rv, h]
theorem rv_yes {l : List UInt8} {k n c : Nat} (h : rg 5 (l.drop k) 0 0 = some (n, c)) (h1 : n ≤ 1000000000) (h2 : vt n = (l.drop k).take c) : rv l k = some (n, k + c) := by rw [rv, h]; simp [h1, h2]
theorem rv_no {l : List UInt8} {k n c : Nat} (h : rg 5 (l.drop k) 0 0 = some (n, c)) (h1 : ¬ (n ≤ 1000000000 ∧ vt n = (l.drop k).take c)) : rv l k = none := by rw [rv, h]; simp only [if_neg h1]

theorem rv_le {l : List UInt8} {k n b : Nat} (hk : k ≤ l.length) (h : rv l k = some (n, b)) : n ≤ 1000000000 ∧ k < b ∧ b ≤ l.length := by
  unfold rv at h
  split at h
  · rename_i m c hR
    split at h
    · rename_i h2
      simp at h
      obtain ⟨rfl, rfl⟩ := h
      obtain ⟨_, b2, _, b4⟩ := rg_bound 5 _ 0 0 _ _ hR (by decide)
      simp at b4
      omega
    · simp at h
  · simp at h

end Go.Proofs.Ytmbmbnjbeofmaaa

/- Plain facts on rows of bytes. -/
namespace Go.Proofs.Ytmbmbnjbeofmaaa

theorem extract_data (s : ByteArray) (i j : Nat) : (s.extract i j).data.toList = (s.data.toList.drop i).take (j - i) := by
  obtain ⟨⟨l⟩⟩ := s
  have := ByteArray.extract_mk l i j
  rw [this]

theorem ba_ext {a b : ByteArray} (h : a.data.toList = b.data.toList) : a = b := by
  obtain ⟨⟨a⟩⟩ := a
  obtain ⟨⟨b⟩⟩ := b
  simp at h
  rw [h]

theorem ba_len (s : ByteArray) : s.data.toList.length = s.size := by rw [Array.length_toList]; rfl

theorem ba_append_list (a b : ByteArray) : (a ++ b).data.toList = a.data.toList ++ b.data.toList := by simp

theorem extract_join (s : ByteArray) {i j k : Nat} (h1 : i ≤ j) (h2 : j ≤ k) : s.extract i j ++ s.extract j k = s.extract i k := by
  apply ba_ext
  rw [ba_append_list, extract_data, extract_data, extract_data]
  have e : k - i = (j - i) + (k - j) := by omega
  have e2 : j = i + (j - i) := by omega
  rw [e, List.take_add, List.drop_drop, ← e2]

theorem extract_all (s : ByteArray) : s.extract 0 s.size = s := by
  apply ba_ext
  rw [extract_data, List.drop_zero, Nat.sub_zero, ← ba_len, List.take_length]

theorem ba_nil : (⟨#[]⟩ : ByteArray) = ByteArray.empty := rfl

end Go.Proofs.Ytmbmbnjbeofmaaa
