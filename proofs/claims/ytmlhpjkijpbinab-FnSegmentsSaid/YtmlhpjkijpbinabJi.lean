/- Texts of our own, joined. -/
import Derived.Test.YtmlhpjkijpbinabJd
import Derived.Great.BuildSlice
import Derived.Test.YtmlhpjkijpbinabJe
import Derived.Test.YtmlhpjkijpbinabJa
import Derived.Deep.RegionLaw
import Derived.Test.YtmlhpjkijpbinabJb
import Derived.Deep.Cut
import Derived.Lib.Hide
import Derived.Test.YtmlhpjkijpbinabJg
import Derived.WalkKit
import Derived.Laws.Bits128
/- Rows of sectors: how they lie in memory, and the texts of them. -/
namespace Go.Proofs.Ytmlhpjkijpbinab
open Go.RowKit

def secE : Enc Sec where
  ty := 82
  sty := 68
  sz := 32
  bytes := 32
  zero := .agg z32
  f := fun s => bytesV s.1
  len := fun s => by rw [bytesV_length, s.2]
  pos := by decide
  one := fun s => bytesV_one _
  und := Try.underlying68
  info := by kernel_rfl
  zc := rfl
  z0 := ⟨List.replicate 32 0, rfl⟩
  zf := rfl

/-- One sector in a new row, as an append asks for it. -/
theorem wpList_build_sec {w : World} {ops : Array Oper} {rest : List Oper} {o : Oper} {a : Act} {Q : Exit → Act → World → Prop} (hgd : o.guard = none) (x : Operand) (ho : o.op = .buildSlice 68 1 #[(0, x)]) (s : Sec) (hx : a.eval x = s.v)
    (h : wpList Try.prog ops Q rest (a.put o.dst (.slice (some ⟨w.heap.size, 0, none⟩) 1 1)) (w.alloc (.cells (bytesV s.1).toArray 82))) : wpList Try.prog ops Q (o :: rest) a w := by
  obtain ⟨i0, hi, hz0, hz1, hz2⟩ := info_parts secE.info
  have hz1' : i0.size = 32 := hz1
  refine wpList_buildSlice hgd _ _ 1 _ ho (bytesV s.1).toArray i0 secE.zero secE.und hi hz0 (by rw [hz1']; decide) (by rw [hz1']; decide) ?_ h
  have := Great.fill_whole (s := 32) (by decide) [s.v] ((Array.range (1 * 32)).map (secE.zero.cells[· % secE.zero.cells.size]!)) (fun v hv => by simp at hv; subst hv; exact s.size) (by simp)
  rw [hz1']
  have e1 : (#[(0, x)].map fun (i, y) => (i, a.eval y)).toList = ([s.v].zipIdx 0).map fun x => (x.2, x.1) := by simp [hx]
  rw [e1, this]
  congr 1
  simp [Sec.v, Value.cells]

/-- The text of a sector. -/
def Sec.str (s : Sec) : ByteArray := ⟨s.1.toArray⟩
theorem Sec.str_size (s : Sec) : s.str.size = 32 := by show s.1.toArray.size = 32; rw [List.size_toArray, s.2]

/-- make([]T, 0, n). -/
theorem wpList_make_room {α : Type} {w : World} {ops : Array Oper} {rest : List Oper} {o : Oper} {a : Act} {Q : Exit → Act → World → Prop} (hg : o.guard = none) (x c : Operand) (E : Enc α) (hop : o.op = Op.makeSlice E.sty x c)
    (kl kc : IntKind) (C : Int) (n : Nat) (hl : a.eval x = .int kl 0) (hc : a.eval c = .int kc C) (hC : C = (n : Int)) (hn : (E.bytes + 1) * n ≤ 281474976710656)
    (h : ∀ w', RBuf E w.heap.size w w' (.slice (some ⟨w.heap.size, 0, none⟩) 0 n) [] → wpList Try.prog ops Q rest (a.put o.dst (.slice (some ⟨w.heap.size, 0, none⟩) 0 n)) w') : wpList Try.prog ops Q (o :: rest) a w := by
  obtain ⟨i0, hi, hz0, hz1, hz2⟩ := info_parts E.info
  have e0 : (E.bytes + 1) * n = E.bytes * n + n := Nat.succ_mul _ _
  refine wpList_make_own w hg x c E.sty hop w.heap.size E.ty i0 E.zero E.sz E.und hi hz0 hz1 kl kc C n hl hc hC (by rw [hz2]; omega) (by unfold maxLen; omega) (Nat.le_refl _) ?_
  intro w' hown hgrow
  exact h w' ⟨hown, (Below.refl _ _).grown hgrow (Nat.le_refl _) (fun k hk => by cases hk), hgrow.size⟩

theorem RBuf.range {B : Nat} {w0 w : World} {g cap : Nat} {l : List Sec} (h : RBuf secE B w0 w (.slice (some ⟨g, 0, none⟩) l.length cap) l) (i : Nat) (s : Sec) (hi : l[i]? = some s) : w.rangeAt g (i * 32) (bytesV s.1) :=
  fun j v hv => h.cell rfl i s hi j v hv

set_option maxRecDepth 100000 in
set_option maxHeartbeats 2000000 in
theorem sectorTexts_any (l : List Sec) (v : Value) (B : Nat) (w : World) (h : RBuf secE B w w v l) (hl : l.length ≤ 1048576) :
    Calls Try.prog 36 #[v] w fun e w' => ∃ v', e = .returned v' ∧ RBuf strE w.heap.size w w' v' (l.map Sec.str) := by
  obtain ⟨av, cv, rfl⟩ := h.form
  have H := Lib.hid h
  clear h
  go_enter Try.func36, Try.ntmps36
  go_wp2_with (at_make; refine wpList_make_room rfl _ _ strE rfl .i64 .i64 _ l.length rfl rfl rfl (by show 17 * l.length ≤ _; omega) ?_; intro w1 hr1)
  have HR1 := Lib.hid hr1
  clear hr1
  go_loopw [3, 11] (fun tv iv wr => ∃ i : Nat, i ≤ l.length ∧ iv = .int .i64 (i : Int) ∧ RBuf strE w.heap.size w wr tv ((l.take i).map Sec.str)) (fun _ iv _ => l.length - (intOf iv).toNat)
  case atStart => exact ⟨0, by omega, rfl, HR1.out⟩
  case round =>
    obtain ⟨i, hi, rfl, hr⟩ := hrel
    obtain ⟨pt, ct, rfl⟩ := hr.form
    by_cases hlt : i < l.length
    · have hlen : ((l.take i).map Sec.str).length = i := by simp; omega
      rw [hlen] at hr ⊢
      have hat := List.getElem?_eq_getElem hlt
      have hs := Lib.hid (H.out.later hr.bel)
      obtain ⟨g, rfl⟩ : ∃ g : Nat, av = some ⟨g, 0, none⟩ := by
        rcases H.out.own.2 with ⟨_, e⟩ | ⟨g, cap, cur, e, _⟩
        · omega
        · simp only [Value.slice.injEq] at e; exact ⟨g, e.1⟩
      have rg := hs.out.range i _ hat
      have htk := Lib.hid (List.take_succ_eq_append_getElem hlt)
      clear hat
      generalize l[i] = s at *
      have hi0 : (0 : Int) ≤ (i : Int) := by omega
      have hi1 : (i : Int) < (l.length : Int) := by omega
      have HR := Lib.hid hr
      have ne : (Value.slice pt i ct).ownBlock ≠ some wr.heap.size := fun e => by have := (hr.own.lt _ e).2; omega
      have NE := Lib.hid ne
      have SW : Hid (w.heap.size ≤ wr.heap.size) := hr.le
      have hcp : ((l.take i).map Sec.str).length + [s.str].length ≤ 1048577 := by simp; omega
      clear hr hlen ne
      go_wp2_with (first
        | ((with_reducible refine wpList_load_mid_sec rfl _ rfl g (i * 32) ?_ s rg ?_); exact rfl)
        | ((with_reducible refine wpList_store_sec rfl _ _ rfl wr.heap.size s ?_ ?_ _ _ (Box.new wr _ _) ?_ ?_); exact rfl; exact rfl; exact rfl; intro w3 x3 g3)
        | ((with_reducible refine wpList_load_sec rfl _ rfl wr.heap.size ?_ s _ x3 ?_); exact rfl)
        | (go_at_call 57; refine (text_any s _).mono ?_; rintro e w4 ⟨rfl, k4⟩; have r4 := (((HR.out.alloc _).grown g3 (.inr NE.out) (fun k hk => by have : wr.heap.size = k := Option.some.inj hk; have := SW.out; omega)).later k4); have R4 := Lib.hid r4; have R5 := Lib.hid ((r4.alloc (.cells #[.string s.str] 9)).here); clear r4)
        | (at_builtin; refine wpList_append_rows rfl _ _ strE rfl w.heap.size _ _ rfl R5.out w4.heap.size _ [s.str] rfl (RBuf.lit1 strE w4 s.str) (by show _ * 17 ≤ _; omega) ?_; intro v6 w6 r6 g6 at6; obtain ⟨a6, q6, rfl⟩ := r6.form))
      have e6 : ((l.take i).map Sec.str ++ [s.str]).length = i + 1 := by simp; omega
      rw [e6] at r6
      have b6 : Below w.heap.size w w6 := (R4.out.alloc (.cells #[.string s.str] 9)).bel.grown g6 (R4.out.alloc (.cells #[.string s.str] 9)).le (fun k hk => (R4.out.own.lt k hk).1)
      have f6 : RBuf strE w.heap.size w w6 (.slice a6 (i + 1) q6) ((l.take (i + 1)).map Sec.str) := by
        rw [htk.out, List.map_append]
        exact ⟨r6.own, b6, r6.le⟩
      go_roundw
      case rel => exact ⟨i + 1, by omega, by go_num, f6⟩
      case measure => simp [intOf]; omega
    · have hfin : Hid (l.take i = l) := List.take_of_length_le (by omega)
      rw [hfin.out] at hr ⊢
      have HR := Lib.hid hr
      clear hr
      go_wp2
      go_ret
      exact ⟨_, rfl, HR.out⟩

end Go.Proofs.Ytmlhpjkijpbinab

/- What DiskNew hands back, the model's and the program's. -/
namespace Go.Proofs.Ytmlhpjkijpbinab
open Go.RowKit

def zero32 : ByteArray := ⟨(List.replicate 32 0).toArray⟩
def newD (n : Int) : Dk := if 1 ≤ n ∧ n ≤ 100 then ⟨List.replicate n.toNat zero32, []⟩ else ⟨[], []⟩

theorem zero_any (w : World) : Calls Try.prog 52 #[] w fun e w' => e = .returned (.string zero32) ∧ Below w.heap.size w w' := by
  go_enter Try.func52, Try.ntmps52
  go_wp2_with (go_at_call 51; refine (long_any 32 0 _ (by omega)).mono ?_; rintro e w1 ⟨rfl, k1⟩)
  go_ret
  exact ⟨rfl, k1⟩

theorem nilOwn {α : Type} {E : Enc α} {B T : Nat} {w : World} (hB : B ≤ w.heap.size) (hT : T ≤ w.heap.size) : LOwn E B T w (.slice none 0 0) [] := ⟨⟨World.ownsRow_nil _ _ _ _, Below.refl _ _, hB⟩, hT, fun k hk => by cases hk⟩
theorem apNil (v : Value) : v.ownBlock = none ∨ v.ownBlock ≠ (Value.slice none 0 0).ownBlock := by
  cases hv : v.ownBlock with
  | none => exact .inl rfl
  | some k => exact .inr (by simp [Value.ownBlock])

set_option maxHeartbeats 1000000 in
theorem implDiskNew_any (n : Int) (w : World) : Calls Try.prog 13 #[.int .i64 n] w fun e w' => DiskR (newD n) (decide (1 ≤ n ∧ n ≤ 100)) w e w' := by
  have hx := Box.new w #[.slice none 0 0, .slice none 0 0] 27
  have b0 : Below w.heap.size w (w.alloc (.cells #[.slice none 0 0, .slice none 0 0] 27)) := (Below.refl _ _).alloc (Nat.le_refl _) _
  have hsz : (w.alloc (.cells #[.slice none 0 0, .slice none 0 0] 27)).heap.size = w.heap.size + 1 := by simp
  by_cases hin : 1 ≤ n ∧ n ≤ 100
  · obtain ⟨k, rfl⟩ := Int.eq_ofNat_of_zero_le (show 0 ≤ n by omega)
    have E2 := Lib.hid (show newD (k : Int) = ⟨List.replicate k zero32, []⟩ from by unfold newD; rw [if_pos hin, Int.toNat_natCast])
    have hk1 : 1 ≤ k := by omega
    have hk2 : k ≤ 100 := by omega
    have HD := Lib.hid (decide_eq_true hin)
    have HB := Lib.hid b0
    have HX := Lib.hid hx
    have HSZ := Lib.hid hsz
    clear hx b0 hsz
    go_enter Try.func13, Try.ntmps13
    go_wp2_with (first
      | (at_make; refine wpList_make_rows rfl _ _ secE rfl .i64 .i64 _ _ k rfl rfl rfl rfl (by show 33 * k ≤ _; omega) ?_; intro w1 r1 z1; have R1 := Lib.hid r1; have r1' := r1.here; rw [HSZ.out] at r1'; have R1' := Lib.hid r1'; clear r1 r1' z1)
      | (go_at_call 36; refine (sectorTexts_any (List.replicate k secE.z0) _ _ _ R1'.out (by simp; omega)).mono ?_; rintro e w2 ⟨v2, rfl, r2⟩; have hll : ((List.replicate k secE.z0).map Sec.str).length = k := by simp
         obtain ⟨a2, q2, rfl⟩ := r2.form; rw [hll] at r2 ⊢; have x2 := ((HX.out.later R1.out.bel).later r2.bel); have r0 := x2.cell 0 (.slice none 0 0) rfl; have r3 := x2.cell 1 (.slice none 0 0) rfl; have f0 := x2.loose 0; have f1 := x2.loose 1))
    have bW := HB.out.trans (R1.out.bel.mono HB.out.size)
    have bF := bW.trans (r2.bel.mono bW.size)
    have hl : w.heap.size < w1.heap.size := by have := R1.out.bel.size; have := HSZ.out; omega
    refine bodyPost_ret (v := .tuple #[.agg #[.slice a2 k q2, .slice none 0 0], .bool true]) (by simp [results, Try.results13, go_sem, r0, r3]) rfl ?_
    rw [E2.out, HD.out]
    have hmap : (List.replicate k secE.z0).map Sec.str = List.replicate k zero32 := by rw [List.map_replicate]; rfl
    rw [hmap] at r2
    have q := (r2.lown.store w.heap.size 0 (.slice a2 k q2) hl).store w.heap.size 1 (.slice none 0 0) hl
    have bE := (bF.setCell (p := ⟨w.heap.size, 0, none⟩) (Nat.le_refl _) (.slice a2 k q2)).setCell (p := ⟨w.heap.size, 1, none⟩) (Nat.le_refl _) (.slice none 0 0)
    refine ⟨_, rfl, ⟨_, _, rfl, (q.deeper (Nat.le_of_lt hl)).wider (by simp) (Nat.le_refl _), nilOwn bE.size (Nat.le_refl _), apNil _⟩, bE⟩
  · have E2 := Lib.hid (show newD n = ⟨[], []⟩ from if_neg hin)
    have HD := Lib.hid (decide_eq_false hin)
    go_enter Try.func13, Try.ntmps13
    go_wp2
    all_goals
      refine bodyPost_ret (v := .tuple #[.agg #[.slice none 0 0, .slice none 0 0], .bool false]) (by simp [results, Try.results13, go_sem]) rfl ?_
      rw [E2.out]
      try rw [HD.out]
      exact ⟨_, rfl, ⟨_, _, rfl, nilOwn b0.size (Nat.le_refl _), nilOwn b0.size (Nat.le_refl _), apNil _⟩, b0⟩

set_option maxRecDepth 100000 in
set_option maxHeartbeats 2000000 in
theorem specDiskNew_any (n : Int) (w : World) : Calls Try.prog 59 #[.int .i64 n] w fun e w' => DiskR (newD n) (decide (1 ≤ n ∧ n ≤ 100)) w e w' := by
  have b00 : Below w.heap.size w (w.alloc (.cells #[.slice none 0 0, .slice none 0 0] 27)) := (Below.refl _ _).alloc (Nat.le_refl _) _
  by_cases hin : 1 ≤ n ∧ n ≤ 100
  · obtain ⟨k, rfl⟩ := Int.eq_ofNat_of_zero_le (show 0 ≤ n by omega)
    have E2 := Lib.hid (show newD (k : Int) = ⟨List.replicate k zero32, []⟩ from by unfold newD; rw [if_pos hin, Int.toNat_natCast])
    have hk1 : 1 ≤ k := by omega
    have hk2 : k ≤ 100 := by omega
    have HD := Lib.hid (decide_eq_true hin)
    obtain ⟨hx0, hx1, b0, hsz⟩ := two_boxes w #[.slice none 0 0, .slice none 0 0] #[.slice none 0 0, .slice none 0 0] 27 27
    clear b00
    go_enter Try.func59, Try.ntmps59
    go_wp2_with (go_at_call 32; refine (in_yes _ _ _ _ (by omega) (by omega)).mono ?_; rintro e w5 ⟨rfl, rfl⟩)
    generalize ((w.alloc (.cells #[.slice none 0 0, .slice none 0 0] 27)).alloc (.cells #[.slice none 0 0, .slice none 0 0] 27)) = W at hx0 hx1 b0 hsz ⊢
    have X0 := Lib.hid hx0
    have X1 := Lib.hid hx1
    have HSZ := Lib.hid hsz
    have B0 := Lib.hid b0
    clear hx0 hx1 hsz b0
    go_loopw [5] (fun iv wr => ∃ i : Nat, i ≤ k ∧ iv = .int .i64 (i : Int) ∧ ∃ (a : Option Addr) (q : Nat), Box wr (w.heap.size + 1) #[.slice a i q, .slice none 0 0] 27 ∧ RBuf strE W.heap.size wr wr (.slice a i q) (List.replicate i zero32) ∧ Box wr w.heap.size #[.slice none 0 0, .slice none 0 0] 27 ∧ Below w.heap.size w wr) (fun iv _ => k - (intOf iv).toNat)
    case atStart => exact ⟨0, by omega, rfl, none, 0, X1.out, ⟨World.ownsRow_nil _ _ _ _, Below.refl _ _, Nat.le_refl _⟩, X0.out, B0.out⟩
    case round =>
      obtain ⟨i, hi, rfl, a, q, bx, rb, by0, bel⟩ := hrel
      have hW : w.heap.size + 1 < W.heap.size := by have := HSZ.out; omega
      by_cases hlt : i < k
      · have c0 := bx.cell 0 (.slice a i q) rfl
        have hlr : (List.replicate i zero32).length = i := List.length_replicate
        have HC : Hid (∀ (x : World) (o : Obj), Below wr.drew.heap.size wr.drew x → RBuf strE W.heap.size (x.alloc o) (x.alloc o) (.slice a i q) (List.replicate i zero32) ∧ x.cell? ⟨w.heap.size + 1, 0, none⟩ = some (.slice a i q) ∧ (x.alloc o).cell? ⟨w.heap.size + 1, 0, none⟩ = some (.slice a i q)) := by
          intro x o hx
          have hx2 : Below wr.heap.size wr x := ((Below.refl _ _).drew).trans hx
          exact ⟨((rb.later hx2).alloc o).here, (bx.later hx2).cell 0 _ rfl, ((bx.later hx2).later ((Below.refl _ _).alloc (Nat.le_refl _) _)).cell 0 _ rfl⟩
        have HC6 : Hid (∀ (x y : World) (o : Obj), Below wr.drew.heap.size wr.drew x → (x.alloc o).grownBy y (Value.slice a i q).ownBlock → Box y (w.heap.size + 1) #[.slice a i q, .slice none 0 0] 27 ∧ Box y w.heap.size #[.slice none 0 0, .slice none 0 0] 27 ∧ Below w.heap.size w y) := by
          intro x y o hx hg
          have hx2 : Below wr.heap.size wr x := ((Below.refl _ _).drew).trans hx
          have hxo : Below wr.heap.size wr (x.alloc o) := hx2.trans (((Below.refl x.heap.size x).alloc (Nat.le_refl _) o).mono hx2.size)
          have bo := bx.later hxo
          have bo0 := by0.later hxo
          have hb := bel.trans (hxo.mono bel.size)
          refine ⟨(hg.block _ bo.lt (fun e => by have := (rb.own.lt _ e.symm).1; omega)).trans bo, (hg.block _ bo0.lt (fun e => by have := (rb.own.lt _ e.symm).1; omega)).trans bo0, hb.grown hg hb.size (fun j hj => by have := (rb.own.lt j hj).1; omega)⟩
        clear bx rb by0 bel
        go_wp2
        go_region_law (first
          | (go_simp; go_at_call 52; refine (zero_any _).mono ?_; rintro e w5 ⟨rfl, k5⟩; have c5 := (HC.out _ (.cells #[] 0) k5).2.1; have d5 := (HC.out _ (.cells #[.string zero32] 9) k5).2.2; dsimp only)
          | (refine step_append_rows (by rfl) _ _ strE (by rfl) W.heap.size _ (List.replicate i zero32) (by rfl) (HC.out _ _ k5).1 w5.heap.size _ [zero32] (by rfl) (RBuf.lit1 strE w5 zero32) (by simp [strE]; omega) ?_; intro v6 w6 hr6 hg6 at6 lt6; obtain ⟨a6, q6, rfl⟩ := hr6.form; obtain ⟨bx6, by6, bel6⟩ := HC6.out _ _ _ k5 hg6; have z1 := bx6.cell 0 (.slice a i q) rfl; have f1 := bx6.loose 0))
        all_goals
          have e6 : (List.replicate i zero32 ++ [zero32]).length = i + 1 := by simp
          have e7 : List.replicate i zero32 ++ [zero32] = List.replicate (i + 1) zero32 := List.replicate_succ'.symm
          rw [e7, List.length_replicate] at hr6
          have g1 := bx6.set 0 (.slice a6 (i + 1) q6)
          have g2 := by6.other (g := w.heap.size + 1) (by omega) 0 (.slice a6 (i + 1) q6)
          have nO : (Value.slice a6 (i + 1) q6).ownBlock ≠ some (w.heap.size + 1) := fun e => by have := (hr6.own.lt _ e).1; omega
          have g3 := (hr6.lown.grown (stored_grown w6 (w.heap.size + 1) 0 (.slice a6 (i + 1) q6)) (.inr nO)).1
          have g4 := bel6.setCell (p := ⟨w.heap.size + 1, 0, none⟩) (by simp) (.slice a6 (i + 1) q6)
          have G := Lib.hid (show Box (w6.setCell ⟨w.heap.size + 1, 0, none⟩ (.slice a6 (i + 1) q6)) (w.heap.size + 1) #[.slice a6 (i + 1) q6, .slice none 0 0] 27 ∧ _ ∧ _ ∧ _ from ⟨by simpa using g1, g3, g2, g4⟩)
          clear g1 g2 g3 g4 bx6 by6 bel6 hr6 hg6 at6 lt6 nO HC HC6 e6 e7
          go_wp2
          go_roundw
          case rel => exact ⟨i + 1, by omega, by go_num, a6, q6, G.out⟩
          case measure => simp [intOf]; omega
      · have hie : i = k := by omega
        subst hie
        have m0 := bx.cell 0 (.slice a i q) rfl
        have m1 := bx.cell 1 (.slice none 0 0) rfl
        have r0 := by0.cell 0 (.slice none 0 0) rfl
        have r1 := by0.cell 1 (.slice none 0 0) rfl
        have f0 := by0.loose 0
        have f1 := by0.loose 1
        have RB := Lib.hid rb
        have BL := Lib.hid bel
        clear bx rb by0 bel
        go_wp2
        refine bodyPost_ret (v := .tuple #[.agg #[.slice a i q, .slice none 0 0], .bool true]) (by simp [results, Try.results59, go_sem, r0, r1]) rfl ?_
        rw [E2.out, HD.out]
        have q1 := (RB.out.lown.store w.heap.size 0 (.slice a i q) (by omega)).store w.heap.size 1 (.slice none 0 0) (by omega)
        have bE := (BL.out.setCell (p := ⟨w.heap.size, 0, none⟩) (Nat.le_refl _) (.slice a i q)).setCell (p := ⟨w.heap.size, 1, none⟩) (Nat.le_refl _) (.slice none 0 0)
        exact ⟨_, rfl, ⟨_, _, rfl, (q1.deeper (by omega)).wider (by simp) (Nat.le_refl _), nilOwn bE.size (Nat.le_refl _), apNil _⟩, bE⟩
  · have E2 := Lib.hid (show newD n = ⟨[], []⟩ from if_neg hin)
    have HD := Lib.hid (decide_eq_false hin)
    go_enter Try.func59, Try.ntmps59
    go_wp2_with (go_at_call 32; refine (in_no _ _ _ _ hin).mono ?_; rintro e w5 ⟨rfl, rfl⟩)
    refine bodyPost_ret (v := .tuple #[.agg #[.slice none 0 0, .slice none 0 0], .bool false]) (by simp [results, Try.results59, go_sem]) rfl ?_
    rw [E2.out, HD.out]
    exact ⟨_, rfl, ⟨_, _, rfl, nilOwn b00.size (Nat.le_refl _), nilOwn b00.size (Nat.le_refl _), apNil _⟩, b00⟩

end Go.Proofs.Ytmlhpjkijpbinab

/- What every drawn law stands on: numbers picked, places, stores into what is new, and the cursor beside what was there before. -/
namespace Go.Proofs.Ytmlhpjkijpbinab
open Go.RowKit

theorem ints_cell' (w : World) (zs : List Int) (t : TypeId) (j : Nat) (hj : j < zs.length) : (w.alloc (.cells (zs.map (Value.int .i64)).toArray t)).cell? ⟨w.heap.size, j, none⟩ = some (.int .i64 zs[j]) := by
  rw [Joins.cell_of_block (heap_alloc_new w _)]
  simp [hj]

/-- One of a list of numbers that was just laid. -/
theorem pickLit_any (zs : List Int) (n pc : Nat) (a : Option Addr) (len cap : Nat) (w : World) (hc : Cur w pc a len cap) (hl : zs.length = n) (h0 : 0 < n) (h1 : n ≤ 1048576) :
    Calls Try.prog 33 #[.pointer (some ⟨pc, 0, none⟩), .slice (some ⟨w.heap.size, 0, none⟩) n n] (w.alloc (.cells (zs.map (Value.int .i64)).toArray 3)) fun e w' => ∃ x : Int, x ∈ zs ∧ e = .returned (.int .i64 x) ∧ Cur w' pc a len cap ∧ w.grownBy w' (some pc) := by
  have hbel : Below w.heap.size w (w.alloc (.cells (zs.map (Value.int .i64)).toArray 3)) := (Below.refl _ _).alloc (Nat.le_refl _) _
  have hpc := hc.lt
  refine (pickInt_any w.heap.size n n pc a len cap _ (hc.below hbel hpc hc.codeLt) h0 (Nat.le_refl _) h1 (by omega) (fun j hj => ⟨_, ints_cell' w zs 3 j (by rw [hl]; exact hj)⟩)).mono ?_
  rintro e w2 ⟨j, x, hj, hx, rfl, hc2, hg2⟩
  rw [ints_cell' w zs 3 j (by rw [hl]; exact hj)] at hx
  simp only [Option.some.injEq, Value.int.injEq, true_and] at hx
  exact ⟨x, by rw [← hx]; exact List.getElem_mem _, rfl, hc2, (grownBy_below (World.grownBy.refl w (some pc)) hbel (Nat.le_refl _)).trans hg2⟩

/-- A store into what is new changes nothing that was there. -/
theorem grownBy_new {w X : World} {r : Option Nat} (h : w.grownBy X r) {b : Nat} (hb : w.heap.size ≤ b) (i : Nat) (v : Value) : w.grownBy (X.setCell ⟨b, i, none⟩ v) r :=
  have g := stored_grown X b i v
  ⟨g.os.trans h.os, g.tape.trans h.tape, g.output.trans h.output, Nat.le_trans h.size g.size, fun k hk hne => (g.block k (Nat.lt_of_lt_of_le hk h.size) (fun e => by have := Option.some.inj e; omega)).trans (h.block k hk hne)⟩
theorem grownBy_new3 {w X : World} {r : Option Nat} (h : w.grownBy X r) {b : Nat} (hb : w.heap.size ≤ b) (v0 v1 v2 : Value) : w.grownBy (set3 X b v0 v1 v2) r :=
  grownBy_new (grownBy_new (grownBy_new h hb 0 v0) hb 1 v1) hb 2 v2
theorem Cur.new {w X : World} {pc : Nat} {a : Option Addr} {len cap : Nat} (h : Cur X pc a len cap) (hw : Cur w pc a len cap) {b : Nat} (hb : w.heap.size ≤ b) (i : Nat) (v : Value) : Cur (X.setCell ⟨b, i, none⟩ v) pc a len cap :=
  h.below ((Below.refl w.heap.size X).setCell (p := ⟨b, i, none⟩) hb v) hw.lt hw.codeLt
theorem Cur.new3 {w X : World} {pc : Nat} {a : Option Addr} {len cap : Nat} (h : Cur X pc a len cap) (hw : Cur w pc a len cap) {b : Nat} (hb : w.heap.size ≤ b) (v0 v1 v2 : Value) : Cur (set3 X b v0 v1 v2) pc a len cap :=
  ((h.new hw hb 0 v0).new hw hb 1 v1).new hw hb 2 v2
theorem Cur.alloc {w : World} {pc : Nat} {a : Option Addr} {len cap : Nat} (h : Cur w pc a len cap) (o : Obj) : Cur (w.alloc o) pc a len cap := h.below ((Below.refl _ _).alloc (Nat.le_refl _) o) h.lt h.codeLt
theorem Box.cur {w X : World} {b pc : Nat} {cs : Array Value} {t : TypeId} (h : Box w b cs t) (hg : w.grownBy X (some pc)) (hne : b ≠ pc) : Box X b cs t := (hg.block b h.lt (fun e => hne (Option.some.inj e))).trans h

set_option maxRecDepth 100000 in
theorem place_any (n : Int) (pc : Nat) (a : Option Addr) (len cap : Nat) (w : World) (hc : Cur w pc a len cap) (h0 : 0 ≤ n) (hn : n ≤ 1000000) :
    Calls Try.prog 29 #[.pointer (some ⟨pc, 0, none⟩), .int .i64 n] w fun e w' => ∃ x : Int, e = .returned (.int .i64 x) ∧ Cur w' pc a len cap ∧ w.grownBy w' (some pc) := by
  go_enter Try.func29, Try.ntmps29
  go_wp2_with fail
  refine (once_any 15 pc a len cap _ hc (by omega)).mono ?_
  rintro e w1 ⟨he, hc1, hg1⟩
  rcases he with rfl | rfl
  · go_wp2_with fail
    refine (pickLit_any [-1, n, n + 1, 9223372036854775807, -9223372036854775808] 5 pc a len cap _ hc1 rfl (by omega) (by omega)).mono ?_
    rintro e w2 ⟨y, _, rfl, hc2, hg2⟩
    go_wp2
    go_ret
    exact ⟨y, rfl, hc2, hg1.trans hg2⟩
  · go_wp2_with fail
    refine (below_any n pc a len cap _ hc1 (by omega)).mono ?_
    rintro e w2 ⟨y, _, _, rfl, hc2, hg2⟩
    go_wp2
    go_ret
    exact ⟨_, rfl, hc2, hg1.trans hg2⟩

theorem below_of_new2 {w w1 w2 : World} {pc : Nat} (hb : Below w.heap.size w w1) (hp : w.heap.size ≤ pc) (hg : w1.grownBy w2 (some pc)) : Below w.heap.size w w2 :=
  hb.grown hg hb.size (fun k hk => by have := Option.some.inj hk; omega)

/-- The cursor of a draw, and what was there before. -/
structure Drw (w : World) (pc : Nat) (a : Option Addr) (len cap : Nat) (X : World) : Prop where
  cur : Cur X pc a len cap
  bel : Below w.heap.size w X
  le : w.heap.size ≤ pc

theorem Drw.step {w : World} {pc : Nat} {a : Option Addr} {len cap : Nat} {X Y : World} (h : Drw w pc a len cap X) (hc : Cur Y pc a len cap) (hg : X.grownBy Y (some pc)) : Drw w pc a len cap Y := ⟨hc, below_of_new2 h.bel h.le hg, h.le⟩
theorem Drw.later {w : World} {pc : Nat} {a : Option Addr} {len cap : Nat} {X Y : World} (h : Drw w pc a len cap X) (hb : Below X.heap.size X Y) : Drw w pc a len cap Y := ⟨h.cur.below hb h.cur.lt h.cur.codeLt, h.bel.trans (hb.mono h.bel.size), h.le⟩

end Go.Proofs.Ytmlhpjkijpbinab

/- What is drawn for the chapter on sectors: a right disk that was written on. -/
namespace Go.Proofs.Ytmlhpjkijpbinab
open Go.RowKit

theorem DOwn.cursor {B T pc : Nat} {w w' : World} {v : Value} {d : Dk} (h : DOwn B T w v d) (hg : w.grownBy w' (some pc)) (hp : pc < B) : DOwn B T w' v d := by
  obtain ⟨va, vb, hv, h1, h2, h3⟩ := h
  have ne : ∀ {α : Type} {E : Enc α} {x : Value} {l : List α}, LOwn E B T w x l → (x.ownBlock = none ∨ x.ownBlock ≠ some pc) := by
    intro α E x l hx
    cases hv : x.ownBlock with
    | none => exact .inl rfl
    | some k => exact .inr (by intro e; have := (hx.1.own.lt k hv).1; have := Option.some.inj e; omega)
  exact ⟨va, vb, hv, h1.grown hg (ne h1), h2.grown hg (ne h2), h3⟩

/-- What is known while a disk is drawn: the cursor, the answer's box, and the disk's box. -/
structure LdI (w : World) (pc : Nat) (a : Option Addr) (len cap b : Nat) (va vb : Value) (d : Dk) (X : World) : Prop where
  cur : Cur X pc a len cap
  grown : w.grownBy X (some pc)
  res : Box X w.heap.size #[.slice none 0 0, .slice none 0 0] 27
  box : Box X b #[va, vb] 27
  dsk : DOwn w.heap.size X.heap.size X (.agg #[va, vb]) d
  lt : w.heap.size < b
  pcl : pc < w.heap.size

section
variable {w : World} {pc : Nat} {a : Option Addr} {len cap b : Nat} {va vb : Value} {d : Dk} {X Y : World}

theorem LdI.step (h : LdI w pc a len cap b va vb d X) (hc : Cur Y pc a len cap) (hg : X.grownBy Y (some pc)) : LdI w pc a len cap b va vb d Y :=
  ⟨hc, h.grown.trans hg, h.res.cur hg (by have := h.pcl; omega), h.box.cur hg (by have := h.pcl; have := h.lt; omega), (h.dsk.cursor hg h.pcl).top, h.lt, h.pcl⟩
theorem LdI.later (h : LdI w pc a len cap b va vb d X) (hb : Below X.heap.size X Y) : LdI w pc a len cap b va vb d Y :=
  h.step (h.cur.below hb h.cur.lt h.cur.codeLt) (grownBy_below (World.grownBy.refl _ _) hb (Nat.le_refl _))
theorem LdI.drew (h : LdI w pc a len cap b va vb d X) : LdI w pc a len cap b va vb d X.drew := h.later ((Below.refl _ _).drew)
theorem LdI.cells {s1 s2 : Option Addr} {c1 c2 n1 n2 : Nat} (h : LdI w pc a len cap b (.slice s1 n1 c1) (.slice s2 n2 c2) d X) : X.cell? ⟨b, 0, none⟩ = some (.slice s1 n1 c1) ∧ X.cell? ⟨b, 1, none⟩ = some (.slice s2 n2 c2) ∧ X.frozen? ⟨b, 0, none⟩ = false ∧ X.frozen? ⟨b, 1, none⟩ = false :=
  ⟨h.box.cell 0 _ rfl, h.box.cell 1 _ rfl, h.box.loose 0, h.box.loose 1⟩
/-- Another disk is put into the box. -/
theorem LdI.put {ua ub : Value} {d2 : Dk} {B : Nat} (h : LdI w pc a len cap b va vb d X) (hw : Cur w pc a len cap) (h2 : DOwn B X.heap.size X (.agg #[ua, ub]) d2) (hB : w.heap.size ≤ B) : LdI w pc a len cap b ua ub d2 ((X.setCell ⟨b, 0, none⟩ ua).setCell ⟨b, 1, none⟩ ub) := by
  have hlt := h.lt
  have o1 := h.box.set 0 ua
  refine ⟨(h.cur.new hw (by omega) 0 ua).new hw (by omega) 1 ub, grownBy_new (grownBy_new h.grown (by omega) 0 ua) (by omega) 1 ub, (h.res.other (by omega) _ _).other (by omega) _ _, o1.set 1 ub, ?_, hlt, h.pcl⟩
  exact (((h2.base hB).boxStore h.box 0 ua).boxStore o1 1 ub).top
end

theorem flush_32 (c : List Wr) : ∀ sec : List ByteArray, (∀ s ∈ sec, s.size = 32) → (∀ x ∈ c, x.text.size = 32) → ∀ s ∈ flush sec c, s.size = 32 := by
  induction c with
  | nil => intro sec h _; exact h
  | cons x c ih =>
    intro sec h hc
    have e : flush sec (x :: c) = flush (sec.set x.at_.toNat x.text) c := rfl
    rw [e]
    refine ih _ (fun s hs => ?_) (fun y hy => hc y (by simp [hy]))
    rcases List.mem_or_eq_of_mem_set hs with h1 | h1
    · exact h s h1
    · rw [h1]; exact hc x (by simp)
theorem flD_ok {d : Dk} (h : d.ok) : (flD d).ok ∧ (flD d).sec.length = d.sec.length ∧ (flD d).cache = [] := by
  unfold flD
  rw [if_pos h]
  obtain ⟨h1, h2, h3, h4, h5⟩ := h
  have hl := flush_length d.sec d.cache
  exact ⟨⟨by show 1 ≤ (flush d.sec d.cache).length; omega, by show (flush d.sec d.cache).length ≤ 100; omega, by simp, flush_32 _ _ h4 (fun x hx => (h5 x hx).2.2), by simp⟩, hl, rfl⟩

/-- A drawn disk. -/
def DkR (w : World) (pc : Nat) (a : Option Addr) (len cap : Nat) (e : Ending) (w' : World) : Prop :=
  ∃ (d : Dk) (v : Value), d.ok ∧ d.cache.length ≤ 24 ∧ e = .returned v ∧ DOwn w.heap.size w'.heap.size w' v d ∧ Cur w' pc a len cap ∧ w.grownBy w' (some pc)

set_option maxRecDepth 100000 in
set_option maxHeartbeats 1500000 in
theorem disk_any (pc : Nat) (a : Option Addr) (len cap : Nat) (w : World) (hc : Cur w pc a len cap) :
    Calls Try.prog 50 #[.pointer (some ⟨pc, 0, none⟩)] w fun e w' => DkR w pc a len cap e w' := by
  have hx := Box.new w #[.slice none 0 0, .slice none 0 0] 27
  have hg0 : w.grownBy (w.alloc (.cells #[.slice none 0 0, .slice none 0 0] 27)) (some pc) := World.grownBy_alloc _ _ _
  have hc0 := hc.alloc (.cells #[.slice none 0 0, .slice none 0 0] 27)
  have hpc := hc.lt
  have hz0 : w.heap.size < (w.alloc (.cells #[.slice none 0 0, .slice none 0 0] 27)).heap.size := by simp
  go_enter Try.func50, Try.ntmps50
  go_wp2_with fail
  generalize w.alloc (.cells #[.slice none 0 0, .slice none 0 0] 27) = W at *
  refine (below_any 6 pc a len cap _ hc0 (by omega)).mono ?_
  rintro e w1 ⟨x, hx1, _, rfl, hc1, hg1⟩
  have hx6 := hx1 (by omega)
  clear hx1
  go_wp2_with fail
  refine (specDiskNew_any _ _).mono ?_
  rintro e w2 ⟨v2, rfl, o2, k2⟩
  have hin : 1 ≤ 1 + (x : Int) ∧ 1 + (x : Int) ≤ 100 := by omega
  have hnew : newD (1 + (x : Int)) = ⟨List.replicate (x + 1) zero32, []⟩ := by
    rw [newD, if_pos hin, show (1 + (x : Int)).toNat = x + 1 by omega]
  rw [hnew] at o2
  have hok0 : (⟨List.replicate (x + 1) zero32, []⟩ : Dk).ok := by
    refine ⟨by simp, by simp; omega, by simp, ?_, by simp⟩
    intro s hs
    simp only [List.mem_replicate] at hs
    rw [hs.2]
    rfl
  have hcd0 : (⟨List.replicate (x + 1) zero32, []⟩ : Dk).cache.length ≤ 3 * 0 := by simp
  clear hnew
  generalize (⟨List.replicate (x + 1) zero32, []⟩ : Dk) = d0 at o2 hok0 hcd0
  obtain ⟨a1, a2, q1, q2, rfl⟩ := o2.form
  have hz1 := hg1.size
  have hz2 := k2.size
  have k3 : Below w2.heap.size w2 (w2.alloc (.cells #[.slice a1 d0.sec.length q1, .slice a2 d0.cache.length q2] 27)) := belAlloc _ _
  have kk := k2.trans (k3.mono k2.size)
  have I3 : LdI w pc a len cap w2.heap.size (.slice a1 d0.sec.length q1) (.slice a2 d0.cache.length q2) d0 (w2.alloc (.cells #[.slice a1 d0.sec.length q1, .slice a2 d0.cache.length q2] 27)) :=
    ⟨hc1.below kk hc1.lt hc1.codeLt, (hg0.trans hg1).trans (grownBy_below (World.grownBy.refl _ _) kk (Nat.le_refl _)), (hx.cur hg1 (by omega)).later kk, Box.new w2 _ _, ((o2.later k3).base (by omega)).top, by omega, hpc⟩
  go_upto_region 2 with fail
  generalize w2.alloc (.cells #[.slice a1 d0.sec.length q1, .slice a2 d0.cache.length q2] 27) = w3 at I3 ⊢
  clear hx hg0 hc0 hg1 hc1 o2 k2 k3 kk
  have HC := Lib.hid hc
  clear hc
  go_wp2
  go_loopw [5] (fun iv wr => ∃ (i : Nat) (d : Dk) (va vb : Value), i ≤ 8 ∧ iv = .int .i64 (i : Int) ∧ d.ok ∧ d.cache.length ≤ 3 * i ∧ LdI w pc a len cap w2.heap.size va vb d wr) (fun iv _ => (9 - intOf iv).toNat)
  case atStart => exact ⟨0, d0, _, _, by omega, rfl, hok0, hcd0, I3⟩
  case round =>
    clear I3
    obtain ⟨i, d, va, vb, hi, rfl, hok, hcd, I⟩ := hrel
    obtain ⟨s1, s2, c1, c2, hv⟩ := I.dsk.form
    simp only [Value.agg.injEq, Array.mk.injEq, List.cons.injEq, and_true] at hv
    obtain ⟨rfl, rfl⟩ := hv
    obtain ⟨hsm, hts, htu⟩ := Dk.ok_small hok
    have hl1 := hok.1
    have hl100 := hok.2.1
    go_wp2_with fail
    refine (below_any 9 pc a len cap _ I.cur (by omega)).mono ?_
    rintro e w4 ⟨y, hy, _, rfl, hc4, hg4⟩
    have hy2 := hy (by omega)
    have I4 := I.step hc4 hg4
    clear I hc4 hg4 hy
    by_cases hlt : (i : Int) < (y : Int)
    · go_upto_region 5 with fail
      go_cut [] from 20 to 34 (fun wx => ∃ (d2 : Dk) (ua ub : Value), d2.ok ∧ d2.cache.length ≤ 3 * (i + 1) ∧ LdI w pc a len cap w2.heap.size ua ub d2 wx)
      case first =>
        have I0 := Lib.hid I4.drew
        obtain ⟨m0, m1, f0, f1⟩ := I0.out.cells
        clear I4
        go_region_law (first
          | (go_simp; go_at_call 66; refine (specWriteBytes_ok d _ x1 x2 t w.heap.size w8.heap.size _ I8.out.dsk hok (by omega) (by omega) (by omega)).mono ?_; rintro e w9 ⟨d2, f2, hok2, hl2, hm2, v2, rfl, o9, k9⟩; have hcd2 : Hid (d2.cache.length ≤ 3 * (i + 1)) := (by show _ ≤ _; omega); clear hl2 hm2; have I9 := Lib.hid (I8.out.later k9); obtain ⟨m0, m1, f0, f1⟩ := I9.out.cells; obtain ⟨u1, u2, p1, p2, rfl⟩ := o9.form; have hz9 : w.heap.size ≤ w8.heap.size := I8.out.grown.size; dsimp only)
          | (go_simp; go_at_call 67; refine (dtext_any (x3 : Int) pc a len cap _ I7.out.cur (by omega)).mono ?_; rintro e w8 ⟨t, t1, t2, rfl, hc8, hg8⟩; have I8 := Lib.hid (I7.out.step hc8 hg8); obtain ⟨m0, m1, f0, f1⟩ := I8.out.cells; have h1' := h1 (by omega); have h2' := h2 (by omega); dsimp only)
          | (go_simp; go_at_call 44; refine (below_any 50 pc a len cap _ I6.out.cur (by omega)).mono ?_; rintro e w7 ⟨x3, h3, _, rfl, hc7, hg7⟩; have I7 := Lib.hid (I6.out.step hc7 hg7); obtain ⟨m0, m1, f0, f1⟩ := I7.out.cells; have h3' := h3 (by omega); dsimp only)
          | (go_simp; go_at_call 44; refine (below_any 40 pc a len cap _ I5.out.cur (by omega)).mono ?_; rintro e w6 ⟨x2, h2, _, rfl, hc6, hg6⟩; have I6 := Lib.hid (I5.out.step hc6 hg6); obtain ⟨m0, m1, f0, f1⟩ := I6.out.cells; dsimp only)
          | (go_simp; go_at_call 44; refine (below_any (d.sec.length : Int) pc a len cap _ I0.out.cur (by omega)).mono ?_; rintro e w5 ⟨x1, h1, _, rfl, hc5, hg5⟩; have I5 := Lib.hid (I0.out.step hc5 hg5); obtain ⟨m0, m1, f0, f1⟩ := I5.out.cells; dsimp only))
        all_goals
          go_wp2_with fail
          go_meet
          exact ⟨d2, _, _, hok2, hcd2.out, I9.out.put HC.out o9 hz9⟩
      case rest =>
        obtain ⟨d2, ua, ub, hok2, hcd2, I5⟩ := hcut
        obtain ⟨t1, t2, r1, r2, hv⟩ := I5.dsk.form
        simp only [Value.agg.injEq, Array.mk.injEq, List.cons.injEq, and_true] at hv
        obtain ⟨rfl, rfl⟩ := hv
        obtain ⟨hsm2, hts2, htu2⟩ := Dk.ok_small hok2
        clear I4 hsm hts htu hl1 hl100
        go_wp2_with fail
        refine (once_any 4 pc a len cap _ I5.cur (by omega)).mono ?_
        rintro e w6 ⟨he, hc6, hg6⟩
        have I6 := I5.step hc6 hg6
        clear hc6 hg6 I5
        rcases he with rfl | rfl
        · obtain ⟨m0, m1, f0, f1⟩ := I6.cells
          go_wp2_with fail
          refine (specFlushDisk_any d2 _ w.heap.size w6.heap.size _ I6.dsk hsm2 hts2 htu2).mono ?_
          rintro e w7 ⟨v7, rfl, o7, k7⟩
          have hfl := flD_ok hok2
          have HFL := Lib.hid hfl
          clear hfl
          generalize flD d2 = d3 at o7 HFL
          obtain ⟨u1, u2, p1, p2, rfl⟩ := o7.form
          have I7 := I6.later k7
          have hz6 : w.heap.size ≤ w6.heap.size := I6.grown.size
          have I8 := Lib.hid (I7.put HC.out o7 hz6)
          clear m0 m1 f0 f1
          obtain ⟨m0, m1, f0, f1⟩ := I7.cells
          clear I6 I7 o7 k7
          go_wp2
          go_roundw
          case rel => exact ⟨i + 1, d3, _, _, by omega, by go_num, HFL.out.1, by rw [HFL.out.2.2]; exact Nat.zero_le _, I8.out⟩
          case measure => simp [intOf]; omega
        · go_wp2
          go_roundw
          case rel => exact ⟨i + 1, d2, _, _, by omega, by go_num, hok2, hcd2, I6⟩
          case measure => simp [intOf]; omega
    · obtain ⟨m0, m1, _, _⟩ := I4.cells
      have x0 := I4.res.cell 0 (.slice none 0 0) rfl
      have x1 := I4.res.cell 1 (.slice none 0 0) rfl
      have f0 := I4.res.loose 0
      have f1 := I4.res.loose 1
      have rX := (I4.res.set 0 (.slice s1 d.sec.length c1)).set 1 (.slice s2 d.cache.length c2)
      have q0 := rX.cell 0 (.slice s1 d.sec.length c1) rfl
      have q1 := rX.cell 1 (.slice s2 d.cache.length c2) rfl
      have HR : Hid (DkR w pc a len cap (.returned (.agg #[.slice s1 d.sec.length c1, .slice s2 d.cache.length c2])) ((w4.setCell ⟨w.heap.size, 0, none⟩ (.slice s1 d.sec.length c1)).setCell ⟨w.heap.size, 1, none⟩ (.slice s2 d.cache.length c2))) :=
        ⟨d, _, hok, by omega, rfl, ((I4.dsk.boxStore I4.res 0 _).boxStore (I4.res.set 0 _) 1 _).top, (I4.cur.new HC.out (Nat.le_refl _) 0 _).new HC.out (Nat.le_refl _) 1 _, grownBy_new (grownBy_new I4.grown (Nat.le_refl _) 0 _) (Nat.le_refl _) 1 _⟩
      clear I4 rX
      go_wp2
      refine bodyPost_ret (v := .agg #[.slice s1 d.sec.length c1, .slice s2 d.cache.length c2]) (by simp [results, Try.results50, go_sem, q0, q1]) rfl ?_
      exact HR.out


end Go.Proofs.Ytmlhpjkijpbinab

/- Plain facts on the bytes of a number, with no program in them: the groups of seven bits of a number, the lowest first. -/
namespace Go.Proofs.Ytmlhpjkijpbinab

/-- A byte that more follows: the lowest seven bits of m, and 128. -/
def hiByte (m : Nat) : UInt8 := UInt8.ofNat (m % 128 + 128)
/-- The last byte. -/
def loByte (m : Nat) : UInt8 := UInt8.ofNat m

theorem hiByte_toNat (m : Nat) : (hiByte m).toNat = m % 128 + 128 := by
  rw [hiByte, UInt8.toNat_ofNat']
  omega

theorem loByte_toNat {m : Nat} (h : m < 256) : (loByte m).toNat = m := by
  rw [loByte, UInt8.toNat_ofNat']
  omega

def vtF : Nat → Nat → List UInt8
  | 0, n => [loByte n]
  | f + 1, n => if 127 < n then hiByte n :: vtF f (n / 128) else [loByte n]

def vt (n : Nat) : List UInt8 := vtF n n

theorem vtF_more : ∀ (f g n : Nat), n ≤ f → n ≤ g → vtF f n = vtF g n := by
  intro f
  induction f with
  | zero =>
    intro g n hf hg
    obtain rfl : n = 0 := by omega
    cases g <;> simp [vtF]
  | succ f ih =>
    intro g n hf hg
    cases g with
    | zero => obtain rfl : n = 0 := by omega
              simp [vtF]
    | succ g =>
      simp only [vtF]
      split
      · rw [ih g (n / 128) (by omega) (by omega)]
      · rfl

theorem vt_big {n : Nat} (h : 127 < n) : vt n = hiByte n :: vt (n / 128) := by
  unfold vt
  cases n with
  | zero => omega
  | succ n =>
    rw [vtF, if_pos h, vtF_more n ((n + 1) / 128) ((n + 1) / 128) (by omega) (Nat.le_refl _)]

theorem vt_small {n : Nat} (h : n ≤ 127) : vt n = [loByte n] := by
  unfold vt
  cases n with
  | zero => rfl
  | succ n => rw [vtF, if_neg (by omega)]

theorem vtF_len : ∀ (f n : Nat), (vtF f n).length ≤ f + 1 := by
  intro f
  induction f with
  | zero => intro n; simp [vtF]
  | succ f ih =>
    intro n
    simp only [vtF]
    split
    · simp; exact ih _
    · simp

theorem vt_len (n : Nat) : (vt n).length ≤ n + 1 := vtF_len n n

/-- What has been written and what is still to be written are together what is asked for. -/
theorem vt_step {acc : List UInt8} {m n : Nat} (h : acc ++ vt m = vt n) (hm : 127 < m) : (acc ++ [hiByte m]) ++ vt (m / 128) = vt n := by
  rw [vt_big hm] at h
  simpa using h

theorem vt_end {acc : List UInt8} {m n : Nat} (h : acc ++ vt m = vt n) (hm : m ≤ 127) : acc ++ [loByte m] = vt n := by
  rw [vt_small hm] at h
  exact h

theorem vt_acc {acc : List UInt8} {m n : Nat} (h : acc ++ vt m = vt n) : acc.length ≤ n + 1 := by
  have h1 := congrArg List.length h
  have h2 := vt_len n
  simp at h1
  omega

end Go.Proofs.Ytmlhpjkijpbinab

/- Plain facts on reading a number in groups of seven bits, with no program in them. -/
namespace Go.Proofs.Ytmlhpjkijpbinab

/-- The groups from the first byte of a list on, the i-th of them next: the number, and how many bytes there were. -/
def rg : Nat → List UInt8 → Nat → Nat → Option (Nat × Nat)
  | 0, _, _, _ => none
  | _ + 1, [], _, _ => none
  | f + 1, c :: cs, i, n => if c.toNat < 128 then some (n + c.toNat % 128 * 128 ^ i, i + 1) else rg f cs (i + 1) (n + c.toNat % 128 * 128 ^ i)

theorem rg_lo {l : List UInt8} {k i n : Nat} (hi : i < 5) (hlt : k + i < l.length) (hc : l[k + i].toNat < 128) :
    rg (5 - i) (l.drop (k + i)) i n = some (n + l[k + i].toNat % 128 * 128 ^ i, i + 1) := by
  rw [List.drop_eq_getElem_cons hlt, show 5 - i = (4 - i) + 1 by omega, rg, if_pos hc]

theorem rg_hi {l : List UInt8} {k i n : Nat} (hi : i < 5) (hlt : k + i < l.length) (hc : ¬ l[k + i].toNat < 128) :
    rg (5 - i) (l.drop (k + i)) i n = rg (5 - (i + 1)) (l.drop (k + (i + 1))) (i + 1) (n + l[k + i].toNat % 128 * 128 ^ i) := by
  rw [List.drop_eq_getElem_cons hlt, show 5 - i = (4 - i) + 1 by omega, rg, if_neg hc, show 5 - (i + 1) = 4 - i by omega, show k + (i + 1) = k + i + 1 by omega]

theorem rg_out {l : List UInt8} {k i n : Nat} (h : ¬ (i < 5 ∧ k + i < l.length)) : rg (5 - i) (l.drop (k + i)) i n = none := by
  by_cases hi : i < 5
  · have : l.drop (k + i) = [] := by apply List.drop_eq_nil_of_le; omega
    rw [this, show 5 - i = (4 - i) + 1 by omega, rg]
  · rw [show 5 - i = 0 by omega, rg]

theorem rg_bound : ∀ (f : Nat) (l : List UInt8) (i n m c : Nat), rg f l i n = some (m, c) → n < 128 ^ i → m < 128 ^ (i + f) ∧ i < c ∧ c ≤ i + f ∧ c ≤ i + l.length := by
  intro f
  induction f with
  | zero => intro l i n m c h; simp [rg] at h
  | succ f ih =>
    intro l i n m c h hn
    cases l with
    | nil => simp [rg] at h
    | cons b bs =>
      have hb : b.toNat % 128 * 128 ^ i ≤ 127 * 128 ^ i := Nat.mul_le_mul_right _ (by omega)
      have hp : 128 ^ (i + 1) = 128 * 128 ^ i := by rw [Nat.pow_succ, Nat.mul_comm]
      rw [rg] at h
      split at h
      · simp at h
        obtain ⟨rfl, rfl⟩ := h
        have hq : 128 ^ (i + 1) ≤ 128 ^ (i + (f + 1)) := Nat.pow_le_pow_right (by omega) (by omega)
        simp
        omega
      · obtain ⟨h1, h2, h3, h4⟩ := ih bs (i + 1) _ m c h (by omega)
        rw [show i + 1 + f = i + (f + 1) by omega] at h1
        simp
        omega

/-- The number whose bytes stand in l from k on, and the place behind it. -/
def rv (l : List UInt8) (k : Nat) : Option (Nat × Nat) :=
  match rg 5 (l.drop k) 0 0 with
  | some (n, c) => if n ≤ 1000000000 ∧ vt n = (l.drop k).take c then some (n, k + c) else none
  | none => none

theorem rv_none {l : List UInt8} {k : Nat} (h : rg 5 (l.drop k) 0 0 = none) : rv l k = none := by rw [rv, h]
theorem rv_yes {l : List UInt8} {k n c : Nat} (h : rg 5 (l.drop k) 0 0 = some (n, c)) (h1 : n ≤ 1000000000) (h2 : vt n = (l.drop k).take c) : rv l k = some (n, k + c) := by rw [rv, h]; simp [h1, h2]
theorem rv_no {l : List UInt8} {k n c : Nat} (h : rg 5 (l.drop k) 0 0 = some (n, c)) (h1 : ¬ (n ≤ 1000000000 ∧ vt n = (l.drop k).take c)) : rv l k = none := by rw [rv, h]; simp only [if_neg h1]

theorem rv_le {l : List UInt8} {k n b : Nat} (hk : k ≤ l.length) (h : rv l k = some (n, b)) : n ≤ 1000000000 ∧ k < b ∧ b ≤ l.length := by
  unfold rv at h
  split at h
  · rename_i m c hR
    split at h
    · rename_i h2
      simp at h
      obtain ⟨rfl, rfl⟩ := h
      obtain ⟨_, b2, _, b4⟩ := rg_bound 5 _ 0 0 _ _ hR (by decide)
      simp at b4
      omega
    · simp at h
  · simp at h

end Go.Proofs.Ytmlhpjkijpbinab

/- Plain facts on rows of bytes. -/
namespace Go.Proofs.Ytmlhpjkijpbinab

theorem extract_data (s : ByteArray) (i j : Nat) : (s.extract i j).data.toList = (s.data.toList.drop i).take (j - i) := by
  obtain ⟨⟨l⟩⟩ := s
  have := ByteArray.extract_mk l i j
  rw [this]

theorem ba_ext {a b : ByteArray} (h : a.data.toList = b.data.toList) : a = b := by
  obtain ⟨⟨a⟩⟩ := a
  obtain ⟨⟨b⟩⟩ := b
  simp at h
  rw [h]

theorem ba_len (s : ByteArray) : s.data.toList.length = s.size := by rw [Array.length_toList]; rfl

theorem ba_append_list (a b : ByteArray) : (a ++ b).data.toList = a.data.toList ++ b.data.toList := by simp

theorem extract_join (s : ByteArray) {i j k : Nat} (h1 : i ≤ j) (h2 : j ≤ k) : s.extract i j ++ s.extract j k = s.extract i k := by
  apply ba_ext
  rw [ba_append_list, extract_data, extract_data, extract_data]
  have e : k - i = (j - i) + (k - j) := by omega
  have e2 : j = i + (j - i) := by omega
  rw [e, List.take_add, List.drop_drop, ← e2]

theorem extract_all (s : ByteArray) : s.extract 0 s.size = s := by
  apply ba_ext
  rw [extract_data, List.drop_zero, Nat.sub_zero, ← ba_len, List.take_length]

theorem ba_nil : (⟨#[]⟩ : ByteArray) = ByteArray.empty := rfl

end Go.Proofs.Ytmlhpjkijpbinab

/- Plain facts, with no program in them: frames, their texts, and what is read of a text. -/
namespace Go.Proofs.Ytmlhpjkijpbinab

theorem vt_short : ∀ (k n : Nat), n < 128 ^ (k + 1) → (vt n).length ≤ k + 1 := by
  intro k
  induction k with
  | zero =>
    intro n h
    rw [vt_small (by simpa using Nat.le_of_lt_succ h)]
    simp
  | succ k ih =>
    intro n h
    by_cases hn : n ≤ 127
    · rw [vt_small hn]; simp
    · rw [vt_big (by omega)]
      have := ih (n / 128) (by rw [Nat.pow_succ] at h; omega)
      simpa using this

theorem vt_five {n : Nat} (h : n ≤ 1000000000) : (vt n).length ≤ 5 := vt_short 4 n (by omega)
theorem vt_two {n : Nat} (h : n ≤ 180) : (vt n).length ≤ 2 := vt_short 1 n (by omega)

/-- The bytes of a number. -/
def vtB (n : Nat) : ByteArray := ⟨(vt n).toArray⟩
theorem vtB_size (n : Nat) : (vtB n).size = (vt n).length := by simp [vtB, ByteArray.size]
theorem vtB_list (n : Nat) : (vtB n).data.toList = vt n := by simp [vtB]

structure Fr where
  gen : Int
  seq : Int
  body : ByteArray

def Fr.ok (f : Fr) : Prop := (1 ≤ f.gen ∧ f.gen ≤ 1000000000) ∧ (1 ≤ f.seq ∧ f.seq ≤ 1000000000) ∧ 1 ≤ f.body.size ∧ f.body.size ≤ 180
instance decFrOk (f : Fr) : Decidable f.ok := by unfold Fr.ok; infer_instance

/-- What is sealed of a frame. -/
def Fr.raw (f : Fr) : ByteArray := vtB f.gen.toNat ++ vtB f.seq.toNat ++ (vtB f.body.size ++ f.body)
/-- Its text, of whatever sum. -/
def Fr.text (f : Fr) (four : ByteArray → ByteArray) : ByteArray := f.raw ++ four f.raw

theorem Fr.raw_size {f : Fr} (h : f.ok) : f.raw.size ≤ 192 := by
  obtain ⟨h1, h2, h3, h4⟩ := h
  have a := vt_five (n := f.gen.toNat) (by omega)
  have b := vt_five (n := f.seq.toNat) (by omega)
  have c := vt_two h4
  simp only [Fr.raw, ByteArray.size_append, vtB_size]
  omega

/-- What a number is read from is its bytes. -/
theorem rv_bytes {s : ByteArray} {k n b : Nat} (h : rv s.data.toList k = some (n, b)) (hk : k ≤ s.size) : n ≤ 1000000000 ∧ k < b ∧ b ≤ s.size ∧ s.extract k b = vtB n := by
  have h0 : k ≤ s.data.toList.length := by rw [ba_len]; exact hk
  obtain ⟨h1, h2, h3⟩ := rv_le h0 h
  rw [ba_len] at h3
  refine ⟨h1, h2, h3, ?_⟩
  apply ba_ext
  rw [extract_data, vtB_list]
  unfold rv at h
  split at h
  · split at h
    · rename_i m c hR h4
      simp at h
      obtain ⟨rfl, rfl⟩ := h
      rw [h4.2]
      congr 1
      omega
    · simp at h
  · simp at h

/-- What lies ahead of a frame's sum, and the place behind it. -/
def ru (s : ByteArray) (k : Nat) : Option (Fr × Nat) :=
  match rv s.data.toList k with
  | none => none
  | some (g, a) =>
    match rv s.data.toList a with
    | none => none
    | some (q, b) =>
      match rv s.data.toList b with
      | none => none
      | some (n, c) => if n ≤ 20000 ∧ n + c ≤ s.size then some (⟨g, q, s.extract c (c + n)⟩, c + n) else none

theorem ru_no1 {s : ByteArray} {k : Nat} (h : rv s.data.toList k = none) : ru s k = none := by rw [ru, h]
theorem ru_no2 {s : ByteArray} {k g a : Nat} (h : rv s.data.toList k = some (g, a)) (h2 : rv s.data.toList a = none) : ru s k = none := by rw [ru, h]; simp only [h2]
theorem ru_no3 {s : ByteArray} {k g a q b : Nat} (h : rv s.data.toList k = some (g, a)) (h2 : rv s.data.toList a = some (q, b)) (h3 : rv s.data.toList b = none) : ru s k = none := by rw [ru, h]; simp only [h2, h3]
theorem ru_no4 {s : ByteArray} {k g a q b n c : Nat} (h : rv s.data.toList k = some (g, a)) (h2 : rv s.data.toList a = some (q, b)) (h3 : rv s.data.toList b = some (n, c)) (h4 : ¬ (n ≤ 20000 ∧ n + c ≤ s.size)) : ru s k = none := by rw [ru, h]; simp only [h2, h3, if_neg h4]
theorem ru_yes {s : ByteArray} {k g a q b n c : Nat} (h : rv s.data.toList k = some (g, a)) (h2 : rv s.data.toList a = some (q, b)) (h3 : rv s.data.toList b = some (n, c)) (h4 : n ≤ 20000 ∧ n + c ≤ s.size) : ru s k = some (⟨g, q, s.extract c (c + n)⟩, c + n) := by rw [ru, h]; simp only [h2, h3, if_pos h4]

theorem ru_ways {s : ByteArray} {k e : Nat} {f : Fr} (h : ru s k = some (f, e)) : ∃ g a q b n c : Nat, rv s.data.toList k = some (g, a) ∧ rv s.data.toList a = some (q, b) ∧ rv s.data.toList b = some (n, c) ∧ n ≤ 20000 ∧ n + c ≤ s.size ∧ f = ⟨g, q, s.extract c (c + n)⟩ ∧ e = c + n := by
  unfold ru at h
  split at h
  · simp at h
  · rename_i g a h1
    split at h
    · simp at h
    · rename_i q b h2
      split at h
      · simp at h
      · rename_i n c h3
        split at h
        · rename_i h4
          simp at h
          exact ⟨g, a, q, b, n, c, h1, h2, h3, h4.1, h4.2, h.1.symm, h.2.symm⟩
        · simp at h

theorem ru_raw {s : ByteArray} {k e : Nat} {f : Fr} (h : ru s k = some (f, e)) (hk : k ≤ s.size) : f.raw = s.extract k e ∧ k + 3 ≤ e ∧ e ≤ s.size ∧ (0 ≤ f.gen ∧ f.gen ≤ 1000000000) ∧ (0 ≤ f.seq ∧ f.seq ≤ 1000000000) ∧ f.body.size ≤ 20000 := by
  obtain ⟨g, a, q, b, n, c, h1, h2, h3, h4, h5, rfl, rfl⟩ := ru_ways h
  obtain ⟨g1, g2, g3, g4⟩ := rv_bytes h1 hk
  obtain ⟨q1, q2, q3, q4⟩ := rv_bytes h2 g3
  obtain ⟨n1, n2, n3, n4⟩ := rv_bytes h3 q3
  have hsz : (s.extract c (c + n)).size = n := by rw [ByteArray.size_extract]; omega
  refine ⟨?_, by omega, by omega, by simp only; omega, by simp only; omega, by rw [hsz]; exact h4⟩
  simp only [Fr.raw, hsz, Int.toNat_natCast]
  rw [← g4, ← q4, ← n4, extract_join s (by omega) (by omega), extract_join s (by omega) (by omega), extract_join s (by omega) (by omega)]

/-- The frame whose text stands in s from k on, and the place behind it. -/
def rf (four : ByteArray → ByteArray) (s : ByteArray) (k : Nat) : Option (Fr × Nat) :=
  match ru s k with
  | some (f, e) => if f.ok ∧ e + 4 ≤ s.size ∧ f.text four = s.extract k (e + 4) then some (f, e + 4) else none
  | none => none

variable {four : ByteArray → ByteArray}

theorem rf_none {s : ByteArray} {k : Nat} (h : ru s k = none) : rf four s k = none := by rw [rf, h]
theorem rf_no {s : ByteArray} {k e : Nat} {f : Fr} (h : ru s k = some (f, e)) (h2 : ¬ (f.ok ∧ e + 4 ≤ s.size ∧ f.text four = s.extract k (e + 4))) : rf four s k = none := by rw [rf, h]; simp only [if_neg h2]
theorem rf_yes {s : ByteArray} {k e : Nat} {f : Fr} (h : ru s k = some (f, e)) (h2 : f.ok ∧ e + 4 ≤ s.size ∧ f.text four = s.extract k (e + 4)) : rf four s k = some (f, e + 4) := by rw [rf, h]; simp only [if_pos h2]

theorem rf_some {s : ByteArray} {k e : Nat} {f : Fr} (h : rf four s k = some (f, e)) (hk : k ≤ s.size) : f.ok ∧ k < e ∧ e ≤ s.size ∧ f.text four = s.extract k e := by
  unfold rf at h
  split at h
  · rename_i f' e' hu
    split at h
    · rename_i h2
      simp at h
      obtain ⟨rfl, rfl⟩ := h
      have := (ru_raw hu hk).2.1
      exact ⟨h2.1, by omega, h2.2.1, h2.2.2⟩
    · simp at h
  · simp at h

/-- Frames of a Gen, one behind the other, each with the place behind it. -/
def sqF (four : ByteArray → ByteArray) : Nat → ByteArray → Int → Nat → List (Fr × Nat)
  | 0, _, _, _ => []
  | n + 1, s, g, k =>
    match rf four s k with
    | some (f, e) => if f.gen = g then (f, e) :: sqF four n s g e else []
    | none => []
def sq (four : ByteArray → ByteArray) (s : ByteArray) (g : Int) (k : Nat) : List (Fr × Nat) := sqF four (s.size + 1 - k) s g k

theorem sqF_more : ∀ (n m : Nat) (s : ByteArray) (g : Int) (k : Nat), k ≤ s.size → s.size < n + k → s.size < m + k → sqF four n s g k = sqF four m s g k := by
  intro n
  induction n with
  | zero => intro m s g k h0 h1; omega
  | succ n ih =>
    intro m s g k h0 h1 h2
    cases m with
    | zero => omega
    | succ m =>
      rw [sqF, sqF]
      split
      · rename_i f e hr
        obtain ⟨_, h3, h4, _⟩ := rf_some hr h0
        rw [ih m s g e h4 (by omega) (by omega)]
      · rfl

theorem sq_yes {s : ByteArray} {g : Int} {k e : Nat} {f : Fr} (hk : k ≤ s.size) (h : rf four s k = some (f, e)) (hg : f.gen = g) : sq four s g k = (f, e) :: sq four s g e := by
  obtain ⟨_, h3, h4, _⟩ := rf_some h hk
  rw [sq, show s.size + 1 - k = (s.size - k) + 1 by omega, sqF, h]
  simp only [if_pos hg]
  rw [sq, sqF_more (s.size - k) (s.size + 1 - e) s g e h4 (by omega) (by omega)]
theorem sq_no {s : ByteArray} {g : Int} {k e : Nat} {f : Fr} (h : rf four s k = some (f, e)) (hg : ¬ f.gen = g) : sq four s g k = [] := by
  rw [sq]
  cases s.size + 1 - k with
  | zero => rfl
  | succ n => rw [sqF, h]; simp only [if_neg hg]
theorem sq_none {s : ByteArray} {g : Int} {k : Nat} (h : rf four s k = none) : sq four s g k = [] := by
  rw [sq]
  cases s.size + 1 - k with
  | zero => rfl
  | succ n => rw [sqF, h]

/-- The place behind the last one. -/
def behind : Nat → List (Fr × Nat) → Nat
  | k, [] => k
  | _, x :: l => behind x.2 l

theorem behind_append : ∀ (l m : List (Fr × Nat)) (k : Nat), behind k (l ++ m) = behind (behind k l) m := by
  intro l
  induction l with
  | nil => intro m k; rfl
  | cons x l ih => intro m k; exact ih m x.2
theorem behind_snoc (l : List (Fr × Nat)) (x : Fr × Nat) (k : Nat) : behind k (l ++ [x]) = x.2 := by rw [behind_append]; rfl

/-- Every one of them is right, and short; and there are no more than bytes. -/
theorem sqF_all : ∀ (n : Nat) (s : ByteArray) (g : Int) (k : Nat), k ≤ s.size → (∀ x ∈ sqF four n s g k, x.1.ok ∧ x.2 ≤ s.size) ∧ (sqF four n s g k).length + k ≤ s.size ∧ behind k (sqF four n s g k) ≤ s.size := by
  intro n
  induction n with
  | zero => intro s g k hk; exact ⟨by simp [sqF], by simpa [sqF] using hk, by simpa [sqF, behind] using hk⟩
  | succ n ih =>
    intro s g k hk
    rw [sqF]
    split
    · rename_i f e hr
      obtain ⟨h1, h3, h4, _⟩ := rf_some hr hk
      split
      · obtain ⟨i1, i2, i3⟩ := ih s g e h4
        refine ⟨?_, by simp; omega, i3⟩
        intro x hx
        rcases List.mem_cons.1 hx with rfl | hx
        · exact ⟨h1, h4⟩
        · exact i1 x hx
      · exact ⟨by simp, by simpa using hk, hk⟩
    · exact ⟨by simp, by simpa using hk, hk⟩

theorem sq_all {s : ByteArray} {g : Int} {k : Nat} (hk : k ≤ s.size) : (∀ x ∈ sq four s g k, x.1.ok ∧ x.2 ≤ s.size) ∧ (sq four s g k).length + k ≤ s.size ∧ behind k (sq four s g k) ≤ s.size := sqF_all _ s g k hk

end Go.Proofs.Ytmlhpjkijpbinab

/- The bytes of a number: what spec.l01Var, spec.VarText and impl.VarText hand back. -/
namespace Go.Proofs.Ytmlhpjkijpbinab
open Go.RowKit

set_option maxHeartbeats 400000 in
theorem l01Var_any (n : Nat) (w : World) (hn : n ≤ 1000000000) :
    Calls Try.prog 71 #[.int .i64 n] w fun e w' => e = .returned (.string ⟨(vt n).toArray⟩) ∧ Below w.heap.size w w' := by
  have hst := Buf.fresh w #[] 0 rfl (by decide)
  go_enter Try.func71, Try.ntmps71
  go_wp2
  go_loopw [0, 3] (fun nv v wr => ∃ (m : Nat) (acc : List UInt8), m ≤ n ∧ nv = .int .i64 m ∧ acc ++ vt m = vt n ∧ Buf w.heap.size w wr v acc) (fun nv _ _ => (intOf nv).toNat)
  case atStart => exact ⟨n, [], Nat.le_refl _, rfl, rfl, hst⟩
  case round =>
    obtain ⟨m, acc, hm, rfl, hv0, hb⟩ := hrel
    have hv : Hid (acc ++ vt m = vt n) := hv0
    have hacc := vt_acc hv0
    clear hv0
    by_cases hlt : 127 < m
    · go_wp2_with (at_builtin; refine wpList_append_bytes rfl _ _ rfl _ _ acc rfl (hb.alloc _) ⟨wr.heap.size, 0, none⟩ [hiByte m] 1 rfl ?c1 ?c2 ?_)
      case c1 => exact one_new _ _ _ (by rw [hiByte_toNat]; omega)
      case c2 => simp; omega
      intro v' w1 hb'
      go_wp2
      go_roundw
      case rel => exact ⟨m / 128, acc ++ [hiByte m], by omega, by go_num, vt_step hv.out hlt, hb'⟩
      case measure => simp [intOf]; omega
    · go_wp2_with (at_builtin; refine wpList_append_bytes rfl _ _ rfl _ _ acc rfl (hb.alloc _) ⟨wr.heap.size, 0, none⟩ [loByte m] 1 rfl ?d1 ?d2 ?_)
      case d1 => exact one_new _ _ _ (by rw [loByte_toNat (by omega)])
      case d2 => simp; omega
      intro v' w1 hb'
      have hcv := hb'.toString
      go_wp2
      go_ret
      exact ⟨by rw [vt_end hv.out (by omega)]; rfl, hb'.bel⟩

theorem l01In_any (x a b : Int) (w : World) :
    Calls Try.prog 32 #[.int .i64 x, .int .i64 a, .int .i64 b] w fun e w' => e = .returned (.bool (decide (a ≤ x) && decide (x ≤ b))) ∧ w' = w := by
  by_cases h1 : a ≤ x
  · by_cases h2 : x ≤ b
    all_goals
      go_enter Try.func32, Try.ntmps32
      go_wp2
      go_ret
      exact ⟨by simp [h1, h2], rfl⟩
  · have h3 : decide (a ≤ x) = false := decide_eq_false h1
    go_enter Try.func32, Try.ntmps32
    go_wp2
    go_ret
    exact ⟨by simp, rfl⟩

/-- What VarText hands back, of every number. -/
def varT (n : Int) : Value := if 0 ≤ n ∧ n ≤ 1000000000 then .tuple #[.string ⟨(vt n.toNat).toArray⟩, .bool true] else .tuple #[.string ⟨#[]⟩, .bool false]

theorem varT_yes {n : Int} (h : 0 ≤ n ∧ n ≤ 1000000000) : varT n = .tuple #[.string ⟨(vt n.toNat).toArray⟩, .bool true] := by rw [varT, if_pos h]
theorem varT_no {n : Int} (h : ¬ (0 ≤ n ∧ n ≤ 1000000000)) : varT n = .tuple #[.string ⟨#[]⟩, .bool false] := by rw [varT, if_neg h]



end Go.Proofs.Ytmlhpjkijpbinab
