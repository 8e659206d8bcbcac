/- What is drawn for a crash: a disk, what was chosen, and where the last one is torn. -/
import Derived.Test.YtmmgnpjhlmiafaaDrawAny
namespace Go.Proofs.Ytmmgnpjhlmiafaa
open Go.RowKit

theorem LOwn.cursor {α : Type} {E : Enc α} {B T pc : Nat} {w w' : World} {v : Value} {l : List α} (h : LOwn E B T w v l) (hg : w.grownBy w' (some pc)) (hp : pc < B) : LOwn E B T w' v l := by
  refine h.grown hg ?_
  cases hv : v.ownBlock with
  | none => exact .inl rfl
  | some k => exact .inr (by intro e; have := (h.1.own.lt k hv).1; have := Option.some.inj e; omega)

/-- What was chosen, as it is drawn. -/
structure KpI (w : World) (pc : Nat) (a : Option Addr) (len cap : Nat) (v : Value) (l : List Int) (X : World) : Prop where
  cur : Cur X pc a len cap
  grown : w.grownBy X (some pc)
  row : LOwn intE w.heap.size X.heap.size X v l
  pcl : pc < w.heap.size

section
variable {w : World} {pc : Nat} {a : Option Addr} {len cap : Nat} {v : Value} {l : List Int} {X Y : World}
theorem KpI.step (h : KpI w pc a len cap v l X) (hc : Cur Y pc a len cap) (hg : X.grownBy Y (some pc)) : KpI w pc a len cap v l Y :=
  ⟨hc, h.grown.trans hg, (h.row.cursor hg h.pcl).wider hg.size (Nat.le_refl _), h.pcl⟩
theorem KpI.rowA (h : KpI w pc a len cap v l X) (o : Obj) : RBuf intE w.heap.size (X.alloc o) (X.alloc o) v l := (h.row.1.alloc o).here
theorem KpI.push (h : KpI w pc a len cap v l X) (hw : Cur w pc a len cap) {o : Obj} {v' : Value} {l' : List Int} (hr : RBuf intE w.heap.size Y Y v' l') (hg : (X.alloc o).grownBy Y v.ownBlock) : KpI w pc a len cap v' l' Y := by
  have hB := h.row.1.le
  have h1 : Below X.heap.size X (X.alloc o) := belAlloc _ _
  have hb : Below w.heap.size X Y := (h1.mono hB).grown hg (by simp; omega) (fun k hk => (h.row.1.own.lt k hk).1)
  exact ⟨h.cur.below hb hw.lt hw.codeLt, grownBy_below h.grown hb (Nat.le_refl _), hr.lown, h.pcl⟩
end

set_option maxRecDepth 100000 in
set_option maxHeartbeats 1000000 in
theorem keep_any (pc : Nat) (a : Option Addr) (len cap : Nat) (w : World) (hc : Cur w pc a len cap) :
    Calls Try.prog 31 #[.pointer (some ⟨pc, 0, none⟩)] w fun e w' => ∃ (l : List Int) (v : Value), l.length ≤ 14 ∧ e = .returned v ∧ KpI w pc a len cap v l w' := by
  have hpc := hc.lt
  have K0 : KpI w pc a len cap (.slice (some ⟨w.heap.size, 0, none⟩) 0 0) [] (w.alloc (.cells #[] 3)) :=
    ⟨hc.alloc _, World.grownBy_alloc _ _ _, (RBuf.fresh intE w).lown, hpc⟩
  have HC := Lib.hid hc
  clear hc
  go_enter Try.func31, Try.ntmps31
  go_wp2
  go_loopw [3, 4] (fun v iv wr => ∃ (l : List Int) (s : Option Addr) (c : Nat), l.length ≤ 14 ∧ v = .slice s l.length c ∧ iv = .int .i64 (l.length : Int) ∧ KpI w pc a len cap v l wr) (fun _ iv _ => 14 - (intOf iv).toNat)
  case atStart => exact ⟨[], _, _, by simp, rfl, rfl, K0⟩
  case round =>
    clear K0
    obtain ⟨l, s, c, hl, rfl, rfl, K⟩ := hrel
    go_wp2_with fail
    refine (below_any 14 pc a len cap _ K.cur (by omega)).mono ?_
    rintro e w4 ⟨y, hy, _, rfl, hc4, hg4⟩
    have hy2 := hy (by omega)
    have K4 := K.step hc4 hg4
    clear K hc4 hg4 hy
    by_cases hlt : (l.length : Int) < (y : Int)
    · go_wp2_with fail
      refine (below_any 3 pc a len cap _ K4.cur (by omega)).mono ?_
      rintro e w5 ⟨z, hz, _, rfl, hc5, hg5⟩
      have hz3 := hz (by omega)
      have K5 := K4.step hc5 hg5
      have hwz : IntKind.i64.wrap ((z : Int) - 1) = (z : Int) - 1 := IntWalk.i64_in _ ⟨by omega, by omega⟩
      have HB := Lib.hid (K5.rowA (.cells #[.int .i64 ((z : Int) - 1)] 3))
      have HX := Lib.hid (RBuf.lit1 intE w5 ((z : Int) - 1))
      have HK := Lib.hid K5
      clear K4 K5 hc5 hg5 hz
      go_wp2_with (at_builtin; refine wpList_append_rows rfl _ _ intE rfl w.heap.size _ l rfl HB.out w5.heap.size _ [(z : Int) - 1] rfl HX.out (by simp [intE]; omega) ?_; intro v6 w6 hr6 hg6 at6; obtain ⟨a6, q6, hv6⟩ := hr6.form; simp only [List.length_append, List.length_cons, List.length_nil, Nat.zero_add] at hv6; subst hv6; have K6 := Lib.hid (HK.out.push HC.out hr6 hg6); clear hr6 hg6 at6)
      go_roundw
      case rel => exact ⟨l ++ [(z : Int) - 1], a6, q6, by simp; omega, by simp, by simp, K6.out⟩
      case measure => simp [intOf]; omega
    · have HK := Lib.hid K4
      clear K4
      go_wp2
      go_ret
      exact ⟨l, _, hl, rfl, HK.out⟩

/-- What is drawn for a crash. -/
def CrR (w : World) (e : Ending) (w' : World) : Prop :=
  ∃ (d : Dk) (v vk : Value) (l : List Int) (z : Int), d.drawn ∧ l.length ≤ 14 ∧ e = .returned (.tuple #[v, vk, .int .i64 z]) ∧ DOwn w.heap.size w'.heap.size w' v d ∧ Rows' intE w' vk l ∧ Below w.heap.size w w'

set_option maxRecDepth 100000 in
set_option maxHeartbeats 1000000 in
theorem drawCrash_any (a : Option Addr) (len cap : Nat) (w : World) (hcode : CodeIn w a len) (hs : len ≤ 1048576) :
    Calls Try.prog 15 #[.slice a len cap] w fun e w' => CrR w e w' := by
  have hx := Box.new w #[.slice none 0 0, .slice none 0 0] 27
  have b0 : Below w.heap.size w (w.alloc (.cells #[.slice none 0 0, .slice none 0 0] 27)) := belAlloc _ _
  have hc0 := hcode.later b0
  have hz0 : w.heap.size < (w.alloc (.cells #[.slice none 0 0, .slice none 0 0] 27)).heap.size := by simp
  go_enter Try.func15, Try.ntmps15
  go_wp2_with fail
  generalize w.alloc (.cells #[.slice none 0 0, .slice none 0 0] 27) = W at *
  refine (new_any a len cap _ hc0 hs).mono ?_
  rintro e w1 ⟨pc, hp, rfl, hc1, hb1⟩
  have hz1 := hb1.size
  go_wp2_with fail
  refine (keep_any pc a len cap _ hc1).mono ?_
  rintro e w2 ⟨l, vk, hl, rfl, K2⟩
  go_wp2_with fail
  refine (pickLit_any [0, 1, 17, 32, 33, -1, 9223372036854775807] 7 pc a len cap _ K2.cur rfl (by omega) (by omega)).mono ?_
  rintro e w3 ⟨z, _, rfl, hc3, hg3⟩
  have K3 := K2.step hc3 hg3
  go_wp2_with fail
  refine (any_any pc a len cap _ K3.cur).mono ?_
  rintro e w4 ⟨d, v, hdr, rfl, o4, hc4, hg4⟩
  have K4 := K3.step hc4 hg4
  have hz3 := K3.grown.size
  have x4 := (hx.later hb1).cur K4.grown (by omega)
  have b4 : Below w.heap.size w w4 := (b0.trans (hb1.mono b0.size)).grown K4.grown (Nat.le_trans b0.size hb1.size) (fun k hk => by have := Option.some.inj hk; omega)
  obtain ⟨s1, s2, c1, c2, rfl⟩ := o4.form
  have d0 := x4.cell 0 (.slice none 0 0) rfl
  have d1 := x4.cell 1 (.slice none 0 0) rfl
  have f0 := x4.loose 0
  have f1 := x4.loose 1
  have rX := (x4.set 0 (.slice s1 d.sec.length c1)).set 1 (.slice s2 d.cache.length c2)
  have q0 := rX.cell 0 (.slice s1 d.sec.length c1) rfl
  have q1 := rX.cell 1 (.slice s2 d.cache.length c2) rfl
  have hrow := (K4.row.store w.heap.size 0 (.slice s1 d.sec.length c1) (by omega)).store w.heap.size 1 (.slice s2 d.cache.length c2) (by omega)
  have HR : Hid (CrR w (.returned (.tuple #[.agg #[.slice s1 d.sec.length c1, .slice s2 d.cache.length c2], vk, .int .i64 z])) ((w4.setCell ⟨w.heap.size, 0, none⟩ (.slice s1 d.sec.length c1)).setCell ⟨w.heap.size, 1, none⟩ (.slice s2 d.cache.length c2))) :=
    ⟨d, _, _, l, z, hdr, hl, rfl, (((o4.base (by omega)).boxStore x4 0 _).boxStore (x4.set 0 _) 1 _).top, hrow.rows, (b4.setCell (p := ⟨w.heap.size, 0, none⟩) (Nat.le_refl _) _).setCell (p := ⟨w.heap.size, 1, none⟩) (Nat.le_refl _) _⟩
  clear rX x4 o4 hrow K2 K3 K4
  go_wp2
  refine bodyPost_ret (v := .tuple #[.agg #[.slice s1 d.sec.length c1, .slice s2 d.cache.length c2], vk, .int .i64 z]) (by simp [results, Try.results15, go_sem, q0, q1]) rfl ?_
  exact HR.out

end Go.Proofs.Ytmmgnpjhlmiafaa
