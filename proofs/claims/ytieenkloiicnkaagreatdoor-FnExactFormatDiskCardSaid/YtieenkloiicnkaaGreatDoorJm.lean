/- Texts of our own, joined. -/
import Derived.Test.YtieenkloiicnkaaGreatDoorJf
import Derived.Test.YtieenkloiicnkaaGreatDoorJg
import Derived.Test.YtieenkloiicnkaaGreatDoorJb
import Derived.Great.BuildSlice
/- What is flushed is right. -/
namespace Go.Proofs.YtieenkloiicnkaaGreatDoor
open Go.RowKit

theorem flush_32 (c : List Wr) : ∀ sec : List ByteArray, (∀ s ∈ sec, s.size = 32) → (∀ x ∈ c, x.text.size = 32) → ∀ s ∈ flush sec c, s.size = 32 := by
  induction c with
  | nil => intro sec h _; exact h
  | cons x c ih =>
    intro sec h hc
    have e : flush sec (x :: c) = flush (sec.set x.at_.toNat x.text) c := rfl
    rw [e]
    refine ih _ (fun s hs => ?_) (fun y hy => hc y (by simp [hy]))
    rcases List.mem_or_eq_of_mem_set hs with h1 | h1
    · exact h s h1
    · rw [h1]; exact hc x (by simp)
theorem flD_ok {d : Dk} (h : d.ok) : (flD d).ok ∧ (flD d).sec.length = d.sec.length ∧ (flD d).cache = [] := by
  unfold flD
  rw [if_pos h]
  obtain ⟨h1, h2, h3, h4, h5⟩ := h
  have hl := flush_length d.sec d.cache
  exact ⟨⟨by show 1 ≤ (flush d.sec d.cache).length; omega, by show (flush d.sec d.cache).length ≤ 100; omega, by simp, flush_32 _ _ h4 (fun x hx => (h5 x hx).2.2), by simp⟩, hl, rfl⟩

end Go.Proofs.YtieenkloiicnkaaGreatDoor

/- Rows of sectors: how they lie in memory, and the texts of them. -/
namespace Go.Proofs.YtieenkloiicnkaaGreatDoor
open Go.RowKit

def secE : Enc Sec where
  ty := 170
  sty := 144
  sz := 32
  bytes := 32
  zero := .agg z32
  f := fun s => bytesV s.1
  len := fun s => by rw [bytesV_length, s.2]
  pos := by decide
  one := fun s => bytesV_one _
  und := Tryz.underlying144
  info := by kernel_rfl
  zc := rfl
  z0 := ⟨List.replicate 32 0, rfl⟩
  zf := rfl

set_option maxRecDepth 100000 in
theorem wpList_build_sec {w : World} {ops : Array Oper} {rest : List Oper} {o : Oper} {a : Act} {Q : Exit → Act → World → Prop} (hgd : o.guard = none) (x : Operand) (ho : o.op = .buildSlice 144 1 #[(0, x)]) (s : Sec) (hx : a.eval x = s.v)
    (h : wpList Tryz.prog ops Q rest (a.put o.dst (.slice (some ⟨w.heap.size, 0, none⟩) 1 1)) (w.alloc (.cells (bytesV s.1).toArray 170))) : wpList Tryz.prog ops Q (o :: rest) a w := by
  obtain ⟨i0, hi, hz0, hz1, hz2⟩ := info_parts secE.info
  have hz1' : i0.size = 32 := hz1
  refine wpList_buildSlice hgd _ _ 1 _ ho (bytesV s.1).toArray i0 secE.zero secE.und hi hz0 (by rw [hz1']; decide) (by rw [hz1']; decide) ?_ h
  have := Great.fill_whole (s := 32) (by decide) [s.v] ((Array.range (1 * 32)).map (secE.zero.cells[· % secE.zero.cells.size]!)) (fun v hv => by simp at hv; subst hv; exact s.size) (by simp)
  rw [hz1']
  have e1 : (#[(0, x)].map fun (i, y) => (i, a.eval y)).toList = ([s.v].zipIdx 0).map fun x => (x.2, x.1) := by simp [hx]
  rw [e1, this]
  congr 1
  simp [Sec.v, Value.cells]

def Sec.str (s : Sec) : ByteArray := ⟨s.1.toArray⟩
theorem wpList_make_room {α : Type} {w : World} {ops : Array Oper} {rest : List Oper} {o : Oper} {a : Act} {Q : Exit → Act → World → Prop} (hg : o.guard = none) (x c : Operand) (E : Enc α) (hop : o.op = Op.makeSlice E.sty x c)
    (kl kc : IntKind) (C : Int) (n : Nat) (hl : a.eval x = .int kl 0) (hc : a.eval c = .int kc C) (hC : C = (n : Int)) (hn : (E.bytes + 1) * n ≤ 281474976710656)
    (h : ∀ w', RBuf E w.heap.size w w' (.slice (some ⟨w.heap.size, 0, none⟩) 0 n) [] → wpList Tryz.prog ops Q rest (a.put o.dst (.slice (some ⟨w.heap.size, 0, none⟩) 0 n)) w') : wpList Tryz.prog ops Q (o :: rest) a w := by
  obtain ⟨i0, hi, hz0, hz1, hz2⟩ := info_parts E.info
  have e0 : (E.bytes + 1) * n = E.bytes * n + n := Nat.succ_mul _ _
  refine wpList_make_own w hg x c E.sty hop w.heap.size E.ty i0 E.zero E.sz E.und hi hz0 hz1 kl kc C n hl hc hC (by rw [hz2]; omega) (by unfold maxLen; omega) (Nat.le_refl _) ?_
  intro w' hown hgrow
  exact h w' ⟨hown, (Below.refl _ _).grown hgrow (Nat.le_refl _) (fun k hk => by cases hk), hgrow.size⟩

theorem RBuf.range {B : Nat} {w0 w : World} {g cap : Nat} {l : List Sec} (h : RBuf secE B w0 w (.slice (some ⟨g, 0, none⟩) l.length cap) l) (i : Nat) (s : Sec) (hi : l[i]? = some s) : w.rangeAt g (i * 32) (bytesV s.1) :=
  fun j v hv => h.cell rfl i s hi j v hv

set_option maxRecDepth 100000 in
set_option maxHeartbeats 2000000 in
theorem sectorTexts_any (l : List Sec) (v : Value) (B : Nat) (w : World) (h : RBuf secE B w w v l) (hl : l.length ≤ 1048576) :
    Calls Tryz.prog 101 #[v] w fun e w' => ∃ v', e = .returned v' ∧ RBuf strE w.heap.size w w' v' (l.map Sec.str) := by
  obtain ⟨av, cv, rfl⟩ := h.form
  have H := Lib.hid h
  clear h
  go_enter Tryz.func101, Tryz.ntmps101
  go_wp2_with (at_make; refine wpList_make_room rfl _ _ strE rfl .i64 .i64 _ l.length rfl rfl rfl (by show 17 * l.length ≤ _; omega) ?_; intro w1 hr1)
  have HR1 := Lib.hid hr1
  clear hr1
  go_loopw [3, 11] (fun tv iv wr => ∃ i : Nat, i ≤ l.length ∧ iv = .int .i64 (i : Int) ∧ RBuf strE w.heap.size w wr tv ((l.take i).map Sec.str)) (fun _ iv _ => l.length - (intOf iv).toNat)
  case atStart => exact ⟨0, by omega, rfl, HR1.out⟩
  case round =>
    obtain ⟨i, hi, rfl, hr⟩ := hrel
    obtain ⟨pt, ct, rfl⟩ := hr.form
    by_cases hlt : i < l.length
    · have hlen : ((l.take i).map Sec.str).length = i := by simp; omega
      rw [hlen] at hr ⊢
      have hat := List.getElem?_eq_getElem hlt
      have hs := Lib.hid (H.out.later hr.bel)
      obtain ⟨g, rfl⟩ : ∃ g : Nat, av = some ⟨g, 0, none⟩ := by
        rcases H.out.own.2 with ⟨_, e⟩ | ⟨g, cap, cur, e, _⟩
        · omega
        · simp only [Value.slice.injEq] at e; exact ⟨g, e.1⟩
      have rg := hs.out.range i _ hat
      have htk := Lib.hid (List.take_succ_eq_append_getElem hlt)
      clear hat
      generalize l[i] = s at *
      have hi0 : (0 : Int) ≤ (i : Int) := by omega
      have hi1 : (i : Int) < (l.length : Int) := by omega
      have HR := Lib.hid hr
      have ne : (Value.slice pt i ct).ownBlock ≠ some wr.heap.size := fun e => by have := (hr.own.lt _ e).2; omega
      have NE := Lib.hid ne
      have SW : Hid (w.heap.size ≤ wr.heap.size) := hr.le
      have hcp : ((l.take i).map Sec.str).length + [s.str].length ≤ 1048577 := by simp; omega
      clear hr hlen ne
      go_wp2_with (first
        | ((with_reducible refine wpList_load_mid_sec rfl _ rfl g (i * 32) ?_ s rg ?_); exact rfl)
        | ((with_reducible refine wpList_store_sec rfl _ _ rfl wr.heap.size s ?_ ?_ _ _ (Box.new wr _ _) ?_ ?_); exact rfl; exact rfl; exact rfl; intro w3 x3 g3)
        | ((with_reducible refine wpList_load_sec rfl _ rfl wr.heap.size ?_ s _ x3 ?_); exact rfl)
        | (go_at_call 130; refine (text_any s _).mono ?_; rintro e w4 ⟨rfl, k4⟩; have r4 := (((HR.out.alloc _).grown g3 (.inr NE.out) (fun k hk => by have : wr.heap.size = k := Option.some.inj hk; have := SW.out; omega)).later k4); have R4 := Lib.hid r4; have R5 := Lib.hid ((r4.alloc (.cells #[.string s.str] 9)).here); clear r4)
        | (at_builtin; refine wpList_append_rows rfl _ _ strE rfl w.heap.size _ _ rfl R5.out w4.heap.size _ [s.str] rfl (RBuf.lit1 strE w4 s.str) (by show _ * 17 ≤ _; omega) ?_; intro v6 w6 r6 g6 at6; obtain ⟨a6, q6, rfl⟩ := r6.form))
      have e6 : ((l.take i).map Sec.str ++ [s.str]).length = i + 1 := by simp; omega
      rw [e6] at r6
      have b6 : Below w.heap.size w w6 := (R4.out.alloc (.cells #[.string s.str] 9)).bel.grown g6 (R4.out.alloc (.cells #[.string s.str] 9)).le (fun k hk => (R4.out.own.lt k hk).1)
      have f6 : RBuf strE w.heap.size w w6 (.slice a6 (i + 1) q6) ((l.take (i + 1)).map Sec.str) := by
        rw [htk.out, List.map_append]
        exact ⟨r6.own, b6, r6.le⟩
      go_roundw
      case rel => exact ⟨i + 1, by omega, by go_num, f6⟩
      case measure => simp [intOf]; omega
    · have hfin : Hid (l.take i = l) := List.take_of_length_le (by omega)
      rw [hfin.out] at hr ⊢
      have HR := Lib.hid hr
      clear hr
      go_wp2
      go_ret
      exact ⟨_, rfl, HR.out⟩

end Go.Proofs.YtieenkloiicnkaaGreatDoor
