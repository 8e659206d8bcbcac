/- Texts of our own, joined. -/
import Derived.Test.YtmlhpjkijpbinabJf
import Derived.Test.YtmlhpjkijpbinabJg
import Derived.Deep.DeepCutAuto
import Derived.Test.YtmlhpjkijpbinabJd
import Derived.Deep.Cut
import Derived.Test.YtmlhpjkijpbinabJa
import Derived.Deep.RegionLaw
/- Disks: what the program's WriteBytes hands back, within a disk. -/
namespace Go.Proofs.Ytmlhpjkijpbinab
open Go.RowKit

theorem rdT_O (d : Dk) (a : Int) : ∃ b : Bool, rdT d a = .tuple #[.string ((rdO d a).getD ⟨#[]⟩), .bool b] := by
  cases h : rdO d a with
  | none => exact ⟨false, rdT_none h⟩
  | some t => exact ⟨true, rdT_some h⟩

/-- What is left of a text. -/
def szOf (v : Value) : Nat := match v with | .string t => t.size | _ => 0
theorem szOf_string (t : ByteArray) : szOf (.string t) = t.size := rfl

/-- What is held while a sector is written: its bytes lie there, and below all is as it was. -/
theorem rng_next {W x y : World} {g : Nat} {cs : List Value} (hg : g < W.heap.size) (h : x.rangeAt g 0 cs ∧ Below W.heap.size W x) (hb : Below x.heap.size x y) : y.rangeAt g 0 cs ∧ Below W.heap.size W y :=
  ⟨fun j v hv => (hb.cell (p := ⟨g, 0 + j, none⟩) (Nat.lt_of_lt_of_le hg h.2.size)).trans (h.1 j v hv), h.2.trans (hb.mono h.2.size)⟩
theorem rng_set {W x : World} {g g' : Nat} {cs : List Value} {u v : Value} (hg : g < W.heap.size) (hg' : W.heap.size ≤ g') (h : x.rangeAt g 0 cs ∧ Below W.heap.size W x) : ((x.setCell ⟨g', 0, none⟩ u).setCell ⟨g', 1, none⟩ v).rangeAt g 0 cs ∧ Below W.heap.size W ((x.setCell ⟨g', 0, none⟩ u).setCell ⟨g', 1, none⟩ v) := by
  refine ⟨fun j y hy => ?_, (h.2.setCell (p := ⟨g', 0, none⟩) hg' u).setCell (p := ⟨g', 1, none⟩) hg' v⟩
  rw [World.cell?_setCell_other _ _ _ _ (by simp <;> omega), World.cell?_setCell_other _ _ _ _ (by simp <;> omega)]
  exact h.1 j y hy

theorem extract_rest (t : ByteArray) (n : Nat) : (t.extract n t.size).data.toList = t.data.toList.drop n := by
  rw [ByteArray.data_extract, Array.toList_extract, List.extract_eq_take_drop]
  rw [List.take_of_length_le]
  rw [List.length_drop, Array.length_toList]
  exact Nat.le_refl _

/-- A store into a block that no disk has. -/
theorem DOwn.block {B T : Nat} {w w' : World} {v : Value} {d : Dk} {g : Nat} {cs : Array Value} {t : TypeId} (h : DOwn B T w v d) (hg : w.grownBy w' (some g)) (hb : Box w g cs t) (h1 : (9 : TypeId) ≠ t) (h2 : (55 : TypeId) ≠ t) : DOwn B T w' v d := by
  obtain ⟨va, vb, hv, l1, l2, l3⟩ := h
  exact ⟨va, vb, hv, l1.grown hg (.inr (hb.notRow l1.1 h1)), l2.grown hg (.inr (hb.notRow l2.1 h2)), l3⟩

theorem Box.ne {w : World} {b g : Nat} {cs cs' : Array Value} {t t' : TypeId} (h : Box w b cs t) (h' : Box w g cs' t') (hne : t ≠ t') : b ≠ g := by
  rintro rfl
  have e : some (Obj.cells cs t (0, 0)) = some (Obj.cells cs' t' (0, 0)) := h.symm.trans h'
  simp only [Option.some.injEq, Obj.cells.injEq] at e
  exact hne e.2.1

theorem WbI.block {w : World} {v1 v2 : Value} {b2 : Nat} {va vb : Value} {d d' : Dk} {B T : Nat} {X Y : World} {g : Nat} {cs : Array Value} (h : WbI w v1 v2 b2 va vb d d' B T X) (hg : X.grownBy Y (some g)) (hb : Box X g cs 82) (hgw : w.heap.size ≤ g) : WbI w v1 v2 b2 va vb d d' B T Y := by
  have n1 := h.inn.ne hb (by decide)
  have n2 := h.res.ne hb (by decide)
  have n3 := h.out.ne hb (by decide)
  have kp : ∀ {b : Nat} {cs : Array Value} {t : TypeId}, Box X b cs t → b ≠ g → Box Y b cs t := fun hx hn => (hg.block _ hx.lt (fun e => hn (Option.some.inj e))).trans hx
  exact ⟨h.bel.grown hg h.bel.size (fun k hk => by have := Option.some.inj hk; omega), kp h.inn n1, kp h.res n2, kp h.out n3, (h.dsk.block hg hb (by decide) (by decide)).top, h.was.block hg hb (by decide) (by decide), h.lt⟩

theorem run_sec_from (g fr : Nat) (hf : fr < 32) (wx : World) : (Instr.sliceAt 82 (.pointer (some ⟨g, 0, none⟩)) (some (.int .i64 (fr : Int))) none none).run Try.prog wx = .ok (.slice (some ⟨g, fr, none⟩) (32 - fr) (32 - fr)) wx := by
  have hl : Try.prog.arrayLen 82 = 32 := by kernel_rfl
  have he : Try.prog.elem 82 = 5 := by kernel_rfl
  rw [run_sliceAt_array_l wx 82 ⟨g, 0, none⟩ (by rw [hl, he]; exact Try.underlying82) .i64 (fr : Int) (by omega) (by rw [hl]; omega), hl, he, Try.sizeOf5]
  simp only [Result.andThen, slicedAt, Int.toNat_natCast, Nat.mul_one]
  rw [if_neg (by omega), Addr.add_lit, Nat.zero_add]

set_option maxRecDepth 100000 in
set_option maxHeartbeats 4000000 in
theorem implWriteBytes_in (d : Dk) (v : Value) (se A : Nat) (t : ByteArray) (B T : Nat) (w : World) (h : DOwn B T w v d) (hsm : d.small) (hts : ∀ s ∈ d.sec, s.size ≤ 1099511627776) (htu : ∀ x ∈ d.cache, x.text.size ≤ 1099511627776) (hcl : d.cache.length < 1073741824) (hse : se < d.sec.length) (hA : A ≤ 3200) (htz : t.size ≤ 1099511627776) :
    Calls Try.prog 48 #[v, .int .i64 (se : Int), .int .i64 (A : Int), .string t] w fun e w' => DiskR ((wbL d (se + A / 32) (A % 32) t.data.toList).getD d) (wbL d (se + A / 32) (A % 32) t.data.toList).isSome w e w' := by
  obtain ⟨aa, ab, ca, cb, rfl⟩ := h.form
  obtain ⟨hx0, hx1, b0, hsz⟩ := two_boxes w #[.slice aa d.sec.length ca, .slice ab d.cache.length cb] #[.slice none 0 0, .slice none 0 0] 27 27
  have h' := h.later b0
  have c0 := hx0.cell 0 (.slice aa d.sec.length ca) rfl
  have c1 := hx0.cell 1 (.slice ab d.cache.length cb) rfl
  have hlen : d.sec.length ≤ 1073741824 := hsm.1
  have g1 : ¬ (A : Int) < 0 := by omega
  have g2 : ¬ (3200 : Int) < (A : Int) := by omega
  have g3 : ¬ (se : Int) < 0 := by omega
  have g4 : (se : Int) < (d.sec.length : Int) := by omega
  obtain ⟨R, hR⟩ : ∃ R, wbL d (se + A / 32) (A % 32) t.data.toList = R := ⟨_, rfl⟩
  rw [hR]
  have HR := Lib.hid hR
  clear hR
  go_enter Try.func48, Try.ntmps48
  go_wp2_with fail
  generalize ((w.alloc (.cells #[.slice aa d.sec.length ca, .slice ab d.cache.length cb] 27)).alloc (.cells #[.slice none 0 0, .slice none 0 0] 27)) = W at hx0 hx1 b0 hsz h' c0 c1 ⊢
  refine (copyDisk_any d _ B T _ h' hsm hts htu).mono ?_
  rintro e w2 ⟨v2, rfl, o2, k2⟩
  obtain ⟨a1, a2, q1, q2, rfl⟩ := o2.form
  have k3 : Below w2.heap.size w2 (w2.alloc (.cells #[.slice a1 d.sec.length q1, .slice a2 d.cache.length q2] 27)) := belAlloc _ _
  have j3 := k2.trans (k3.mono k2.size)
  have hz2 := k2.size
  have I3 : WbI w (.slice aa d.sec.length ca) (.slice ab d.cache.length cb) w2.heap.size (.slice a1 d.sec.length q1) (.slice a2 d.cache.length q2) d d B T (w2.alloc (.cells #[.slice a1 d.sec.length q1, .slice a2 d.cache.length q2] 27)) :=
    ⟨b0.trans (j3.mono b0.size), hx0.later j3, hx1.later j3, Box.new w2 _ _, ((o2.later k3).base (by omega)).top, h'.later j3, by omega⟩
  go_upto_region 4 with fail
  generalize w2.alloc (.cells #[.slice a1 d.sec.length q1, .slice a2 d.cache.length q2] 27) = w3 at I3 ⊢
  clear hx0 hx1 b0 h' h k3 j3 o2 c0 c1 g1 g2 g3 g4
  have HCP : Hid (d.small ∧ (∀ s ∈ d.sec, s.size ≤ 1099511627776) ∧ ∀ x ∈ d.cache, x.text.size ≤ 1099511627776) := ⟨hsm, hts, htu⟩
  obtain ⟨K, hK⟩ : ∃ K : Nat, (se : Int) + (A : Int) / 32 = (K : Int) := ⟨se + A / 32, by omega⟩
  obtain ⟨F, hF⟩ : ∃ F : Nat, (A : Int) % 32 = (F : Int) := ⟨A % 32, by omega⟩
  have hK0 : Hid (K = se + A / 32 ∧ F = A % 32) := ⟨by omega, by omega⟩
  have hKl : K ≤ 1073742000 := by omega
  have hF32 : F < 32 := by omega
  have HI0 : Hid (d.small ∧ ((∀ s ∈ d.sec, s.size ≤ 1099511627776) ∧ ∀ x ∈ d.cache, x.text.size ≤ 1099511627776) ∧ d.cache.length < 1073741824) := ⟨hsm, ⟨hts, htu⟩, hcl⟩
  clear hsm hts htu
  have HFF := Lib.hid hF
  go_wp2
  clear hK hF
  go_loopw [3, 11, 12] (fun tv pv fv wr => ∃ (t' : ByteArray) (k fr : Nat) (d' : Dk) (va vb : Value), tv = .string t' ∧ pv = .int .i64 (k : Int) ∧ fv = .int .i64 (fr : Int) ∧ fr < 32 ∧ k ≤ 1073742000 ∧ t'.size ≤ 1099511627776 ∧ (d'.small ∧ ((∀ s ∈ d'.sec, s.size ≤ 1099511627776) ∧ ∀ x ∈ d'.cache, x.text.size ≤ 1099511627776) ∧ d'.cache.length < 1073741824) ∧ wbL d' k fr t'.data.toList = R ∧ WbI w (.slice aa d.sec.length ca) (.slice ab d.cache.length cb) w2.heap.size va vb d d' B T wr) (fun tv _ _ _ => szOf tv)
  case atStart => exact ⟨t, K, F, d, _, _, rfl, rfl, by first | rfl | exact congrArg (Value.int .i64) HFF.out, hF32, hKl, htz, HI0.out, by rw [hK0.out.1, hK0.out.2]; exact HR.out, I3⟩
  case round =>
    clear I3 HI0 hK0 hKl hF32 HR
    obtain ⟨t', k, fr, d', va, vb, rfl, rfl, rfl, hfr, hk, htz', ⟨hsm', hbd', hcl'⟩, hR', I⟩ := hrel
    have HR := Lib.hid hR'
    have HB := Lib.hid hbd'
    clear hR' hbd'
    obtain ⟨a5, a6, c5, c6, hv5⟩ := I.dsk.form
    simp only [Value.agg.injEq, Array.mk.injEq, List.cons.injEq, and_true] at hv5
    obtain ⟨rfl, rfl⟩ := hv5
    have m0 := I.out.cell 0 (.slice a5 d'.sec.length c5) rfl
    have m1 := I.out.cell 1 (.slice a6 d'.cache.length c6) rfl
    by_cases he : t' = ⟨#[]⟩
    · subst he
      have x0 := I.res.cell 0 (.slice none 0 0) rfl
      have x1 := I.res.cell 1 (.slice none 0 0) rfl
      have f0 := I.res.loose 0
      have f1 := I.res.loose 1
      have r2 := (I.res.set 0 (.slice a5 d'.sec.length c5)).set 1 (.slice a6 d'.cache.length c6)
      have HD : Hid (DiskR d' true w (.returned (.tuple #[.agg #[.slice a5 d'.sec.length c5, .slice a6 d'.cache.length c6], .bool true])) ((wr.setCell ⟨w.heap.size + 1, 0, none⟩ (.slice a5 d'.sec.length c5)).setCell ⟨w.heap.size + 1, 1, none⟩ (.slice a6 d'.cache.length c6))) := by
        refine ⟨_, rfl, ?_, (I.bel.setCell (p := ⟨w.heap.size + 1, 0, none⟩) (by simp) _).setCell (p := ⟨w.heap.size + 1, 1, none⟩) (by simp) _⟩
        have := (I.dsk.boxStore I.res 0 (.slice a5 d'.sec.length c5)).boxStore (I.res.set 0 (.slice a5 d'.sec.length c5)) 1 (.slice a6 d'.cache.length c6)
        simpa using this
      have q0 := r2.cell 0 (.slice a5 d'.sec.length c5) rfl
      have q1 := r2.cell 1 (.slice a6 d'.cache.length c6) rfl
      have HRR : Hid (R = some d') := show R = some d' from by rw [← HR.out]; exact wbL_nil _ _ _
      clear I r2
      go_wp2
      refine bodyPost_ret (v := .tuple #[.agg #[.slice a5 d'.sec.length c5, .slice a6 d'.cache.length c6], .bool true]) (by simp [results, Try.results48, go_sem, q0, q1]) rfl ?_
      rw [HRR.out]; exact HD.out
    · have hne : ¬ t'.data.toList = [] := fun e => he (by obtain ⟨⟨l⟩⟩ := t'; simp at e; rw [e])
      have hne2 : (t'.toList == []) = false := by rw [Go.ByteArray.toList_eq]; exact beq_eq_false_iff_ne.2 hne
      obtain ⟨bb, hrd⟩ := rdT_O d' (k : Int)
      obtain ⟨o, ho⟩ : ∃ o, (rdO d' (k : Int)).getD ⟨#[]⟩ = o := ⟨_, rfl⟩
      rw [ho] at hrd
      have HRD := Lib.hid hrd
      have HO := Lib.hid ho
      clear hrd ho
      go_wp2_with fail
      refine (implReadSector_any d' _ (k : Int) _ I.dsk.rd hsm' HB.out.1 HB.out.2).mono ?_
      rintro e w5 ⟨rfl, k5⟩
      rw [HRD.out]
      have I5 := I.later k5
      clear m0 m1 k5 I
      go_wp2_with fail
      refine (sectorOf_any o _).mono ?_
      rintro e w6 ⟨rfl, k6⟩
      have I6 := I5.later k6
      have y0 := Box.new w6 #[.int .u8 0, .int .u8 0, .int .u8 0, .int .u8 0, .int .u8 0, .int .u8 0, .int .u8 0, .int .u8 0, .int .u8 0, .int .u8 0, .int .u8 0, .int .u8 0, .int .u8 0, .int .u8 0, .int .u8 0, .int .u8 0, .int .u8 0, .int .u8 0, .int .u8 0, .int .u8 0, .int .u8 0, .int .u8 0, .int .u8 0, .int .u8 0, .int .u8 0, .int .u8 0, .int .u8 0, .int .u8 0, .int .u8 0, .int .u8 0, .int .u8 0, .int .u8 0] 82
      have hz : (#[.int .u8 0, .int .u8 0, .int .u8 0, .int .u8 0, .int .u8 0, .int .u8 0, .int .u8 0, .int .u8 0, .int .u8 0, .int .u8 0, .int .u8 0, .int .u8 0, .int .u8 0, .int .u8 0, .int .u8 0, .int .u8 0, .int .u8 0, .int .u8 0, .int .u8 0, .int .u8 0, .int .u8 0, .int .u8 0, .int .u8 0, .int .u8 0, .int .u8 0, .int .u8 0, .int .u8 0, .int .u8 0, .int .u8 0, .int .u8 0, .int .u8 0, .int .u8 0] : Array Value).size = 32 := rfl
      have b7 : Below w6.heap.size w6 (w6.alloc (.cells #[.int .u8 0, .int .u8 0, .int .u8 0, .int .u8 0, .int .u8 0, .int .u8 0, .int .u8 0, .int .u8 0, .int .u8 0, .int .u8 0, .int .u8 0, .int .u8 0, .int .u8 0, .int .u8 0, .int .u8 0, .int .u8 0, .int .u8 0, .int .u8 0, .int .u8 0, .int .u8 0, .int .u8 0, .int .u8 0, .int .u8 0, .int .u8 0, .int .u8 0, .int .u8 0, .int .u8 0, .int .u8 0, .int .u8 0, .int .u8 0, .int .u8 0, .int .u8 0] 82)) := belAlloc _ _
      have I7 := I6.later b7
      clear I5 k6
      go_wp2_with ((with_reducible refine wpList_store_sec rfl _ _ rfl w6.heap.size (secOf o) ?_ ?_ _ _ y0 hz ?_); exact rfl; exact rfl; intro w8 x8 g8)
      have I8a : WbI w (.slice aa d.sec.length ca) (.slice ab d.cache.length cb) w2.heap.size (.slice a5 d'.sec.length c5) (.slice a6 d'.cache.length c6) d d' B T w8 := I7.block g8 y0 (by have := I6.bel.size; omega)
      have hf0 : (0 : Int) ≤ (fr : Int) := by omega
      have hf1 : (fr : Int) ≤ 32 := by omega
      have hf2 : ¬ 32 = fr := by omega
      have I6z : w.heap.size ≤ w6.heap.size := I6.bel.size
      clear I6 I7 y0 g8 b7
      go_wp2_with fail
      rw [run_sec_from _ fr hfr]
      simp only [Result.andThen]
      rw [Oper.upon_value]
      go_wp2_with fail
      refine upon_copy_text 22 9 3 5 w6.heap.size fr (32 - fr) (32 - fr) t' (secL o) 82 Try.underlying22 (by kernel_rfl) x8 (by rw [secL_length]; omega) ?_
      intro w9 x9 g9
      have I9 := I8a.block g9 x8 (by have := I8a.bel.size; have := x8.lt; have := I6z; omega)
      clear I8a x8 g9
      obtain ⟨n, hn⟩ : ∃ n : Nat, Nat.min t'.size (32 - fr) = n := ⟨_, rfl⟩
      have hn2 : n = min t'.size (32 - fr) := hn.symm
      rw [hn]
      clear hn
      have hnt : n ≤ t'.size := by omega
      have htp : 0 < t'.size := Nat.pos_of_ne_zero (fun e => hne (List.length_eq_zero_iff.1 (by rw [Array.length_toList]; exact e)))
      have hn0 : 0 < n := by omega
      have HN2 := Lib.hid hn2
      clear hn2
      have hl32 : (splice (secL o) fr (t'.data.toList.take (32 - fr))).length = 32 := by rw [length_splice _ _ _ (by rw [secL_length, List.length_take]; omega), secL_length]
      obtain ⟨S, hS⟩ : ∃ S : Sec, S.1 = splice (secL o) fr (t'.data.toList.take (32 - fr)) := ⟨⟨_, hl32⟩, rfl⟩
      clear hl32
      rw [← hS] at x9
      have HSW : Hid (⟨S.1.toArray⟩ = wbS d' k fr t'.data.toList) := show _ = _ by unfold wbS; rw [HO.out, hS]
      clear hS
      obtain ⟨ST, hST⟩ : ∃ ST : ByteArray, (⟨S.1.toArray⟩ : ByteArray) = ST := ⟨_, rfl⟩
      have HST := Lib.hid hST
      rw [hST] at HSW
      have hST32 : ST.size = 32 := by rw [← hST]; show S.1.toArray.size = 32; rw [List.size_toArray]; exact S.2
      clear hST
      obtain ⟨D, hD⟩ : ∃ D, wrD d' (k : Int) ST = D := ⟨_, rfl⟩
      obtain ⟨F2, hF2⟩ : ∃ F2, decide (wrOk d' (k : Int) ST) = F2 := ⟨_, rfl⟩
      have HDF : Hid (wrD d' (k : Int) ST = D ∧ decide (wrOk d' (k : Int) ST) = F2) := ⟨hD, hF2⟩
      clear hD hF2
      have hz9 : w.heap.size ≤ w9.heap.size := I9.bel.size
      have hb29 : w2.heap.size < w9.heap.size := I9.out.lt
      go_upto_region 9 with fail
      have hund := Try.underlying82
      have hinf : (Try.prog.info? 82).map (·.size) = some (bytesV S.1).length := by rw [bytesV_length, S.2]; exact Try.secInfo
      have hg69 : w6.heap.size < w9.heap.size := x9.lt
      have HK0 : Hid (w9.drew.rangeAt w6.heap.size 0 (bytesV S.1) ∧ Below w9.heap.size w9 w9.drew) := ⟨fun j u hu => by rw [Nat.zero_add]; exact x9.cell j u (by simpa using hu), (Below.refl _ _).drew⟩
      have cO0 : ∀ x, Below w9.heap.size w9 x → x.cell? ⟨w2.heap.size, 0, none⟩ = some (.slice a5 d'.sec.length c5) := fun x hb => (I9.out.later hb).cell 0 _ rfl
      have cO1 : ∀ x, Below w9.heap.size w9 x → x.cell? ⟨w2.heap.size, 1, none⟩ = some (.slice a6 d'.cache.length c6) := fun x hb => (I9.out.later hb).cell 1 _ rfl
      have HDS : Hid (∀ x, (x.rangeAt w6.heap.size 0 (bytesV S.1) ∧ Below w9.heap.size w9 x) → DOwn w.heap.size w9.heap.size x (.agg #[.slice a5 d'.sec.length c5, .slice a6 d'.cache.length c6]) d') := fun x hb => I9.dsk.later hb.2
      go_cut [17, 18] (fun p q wx => ∃ (g : Nat) (e1 e2 : Option Addr) (e3 e4 : Nat), p = .pointer (some ⟨g, 0, none⟩) ∧ q = .bool F2 ∧ w9.heap.size ≤ g ∧ Box wx g #[.slice e1 D.sec.length e3, .slice e2 D.cache.length e4] 27 ∧ DOwn w9.heap.size wx.heap.size wx (.agg #[.slice e1 D.sec.length e3, .slice e2 D.cache.length e4]) D ∧ Below w9.heap.size w9 wx)
      case first =>
        have HB0 : Hid (Box (w9.alloc (.cells #[.slice none 0 0, .slice none 0 0] 27)).drew w9.heap.size #[.slice none 0 0, .slice none 0 0] 27) := Box.new w9 _ _
        clear I9 x9
        go_region_held3 (fun x => x.rangeAt w6.heap.size 0 (bytesV S.1) ∧ Below w9.heap.size w9 x)
          (first | exact HK0.out | exact rng_next hg69 (by assumption) (belAlloc _ _) | exact rng_next hg69 (by assumption) kT | exact rng_next hg69 (by assumption) kS | exact rng_next hg69 hTT.out (belAlloc _ _) | exact rng_next hg69 hSS.out (belAlloc _ _) | exact rng_set hg69 (Nat.le_refl _) (by assumption) | exact rng_set hg69 tT (by assumption) | exact rng_set hg69 tS (by assumption))
          (first
            | (go_at_call 57; refine (text_any S _).mono ?_; rintro e wT ⟨rfl, kT⟩; rw [HST.out]; have hTT := Lib.hid (rng_next hg69 (by assumption) kT); have tT : w9.heap.size ≤ wT.heap.size := hTT.out.2.size; try (have q1 : Box wT w9.heap.size #[.slice none 0 0, .slice none 0 0] 27 := HB0.out.later kT))
            | (go_at_call 65; refine (implWriteSector_any d' _ (k : Int) ST w.heap.size w9.heap.size _ (HDS.out _ (by assumption)) hsm' HB.out.1 HB.out.2 (by omega) hcl').mono ?_; rintro e wS ⟨vS, rfl, oS, kS⟩; rw [HDF.out.1] at oS; rw [HDF.out.2]; have hSS := Lib.hid (rng_next hg69 (by assumption) kS); have tS : w9.heap.size ≤ wS.heap.size := hSS.out.2.size; obtain ⟨e1, e2, e3, e4, rfl⟩ := oS.form; (first | (have bx : Box wS w9.heap.size #[.slice none 0 0, .slice none 0 0] 27 := q1.later kS; have z0 := bx.cell 0 _ rfl; have z1 := bx.cell 1 _ rfl; have f0 := bx.loose 0; have f1 := bx.loose 1) | (have bx : Box wS wT.heap.size #[.slice none 0 0, .slice none 0 0] 27 := (Box.new wT _ _).later kS; have z0 := bx.cell 0 _ rfl; have z1 := bx.cell 1 _ rfl; have f0 := bx.loose 0; have f1 := bx.loose 1) | skip)))
        all_goals
          go_wp2_with fail
          go_meet
          first
            | exact ⟨_, e1, e2, e3, e4, rfl, rfl, tS, Box.new wS _ _, ((oS.later (belAlloc _ _)).base tT).top, hSS.out.2.alloc tS _⟩
            | exact ⟨_, e1, e2, e3, e4, rfl, rfl, tT, (bx.set 0 _).set 1 _, (((oS.base (by simp; omega)).boxStore bx 0 _).boxStore (bx.set 0 _) 1 _).top, (hSS.out.2.setCell (p := ⟨wT.heap.size, 0, none⟩) tT _).setCell (p := ⟨wT.heap.size, 1, none⟩) tT _⟩
            | exact ⟨_, e1, e2, e3, e4, rfl, rfl, Nat.le_refl _, (bx.set 0 _).set 1 _, (((oS.base tT).boxStore bx 0 _).boxStore (bx.set 0 _) 1 _).top, (hSS.out.2.setCell (p := ⟨w9.heap.size, 0, none⟩) (Nat.le_refl _) _).setCell (p := ⟨w9.heap.size, 1, none⟩) (Nat.le_refl _) _⟩
      case rest =>
        obtain ⟨g, e1, e2, e3, e4, rfl, rfl, hgle, bxc, oD, kD⟩ := hcut
        have IK := I9.later kD
        clear I9 x9 HK0 cO0 cO1 HDS hund hinf
        cases F2 with
        | false =>
          have HRN : Hid (R = none) := show R = none from by
            rw [← HR.out]
            refine wbL_stop hne (fun hw => ?_)
            rw [← HSW.out] at hw
            have := HDF.out.2
            rw [decide_eq_true hw] at this
            cases this
          have c0 := IK.inn.cell 0 (.slice aa d.sec.length ca) rfl
          have c1 := IK.inn.cell 1 (.slice ab d.cache.length cb) rfl
          clear bxc oD
          go_wp2_with fail
          refine (copyDisk_any d _ B T _ IK.was HCP.out.1 HCP.out.2.1 HCP.out.2.2).mono ?_
          rintro e wX ⟨vX, rfl, oX, kX⟩
          obtain ⟨p1, p2, r1, r2, rfl⟩ := oX.form
          have IX := IK.later kX
          have x0 := IX.res.cell 0 (.slice none 0 0) rfl
          have x1 := IX.res.cell 1 (.slice none 0 0) rfl
          have f0 := IX.res.loose 0
          have f1 := IX.res.loose 1
          have rX := (IX.res.set 0 (.slice p1 d.sec.length r1)).set 1 (.slice p2 d.cache.length r2)
          have HD : Hid (DiskR d false w (.returned (.tuple #[.agg #[.slice p1 d.sec.length r1, .slice p2 d.cache.length r2], .bool false])) ((wX.setCell ⟨w.heap.size + 1, 0, none⟩ (.slice p1 d.sec.length r1)).setCell ⟨w.heap.size + 1, 1, none⟩ (.slice p2 d.cache.length r2))) := by
            refine ⟨_, rfl, ?_, (IX.bel.setCell (p := ⟨w.heap.size + 1, 0, none⟩) (by simp) _).setCell (p := ⟨w.heap.size + 1, 1, none⟩) (by simp) _⟩
            have := ((oX.base (IK.bel.size)).boxStore IX.res 0 (.slice p1 d.sec.length r1)).boxStore (IX.res.set 0 (.slice p1 d.sec.length r1)) 1 (.slice p2 d.cache.length r2)
            simpa using this
          have q0 := rX.cell 0 (.slice p1 d.sec.length r1) rfl
          have q1 := rX.cell 1 (.slice p2 d.cache.length r2) rfl
          clear IK IX rX oX kX c0 c1
          go_wp2
          refine bodyPost_ret (v := .tuple #[.agg #[.slice p1 d.sec.length r1, .slice p2 d.cache.length r2], .bool false]) (by simp [results, Try.results48, go_sem, q0, q1]) rfl ?_
          rw [HRN.out]; exact HD.out
        | true =>
          have hw : wrOk d' (k : Int) ST := of_decide_eq_true HDF.out.2
          have HDK : Hid (D.ok) := show D.ok from by
            rw [← HDF.out.1, show wrD d' (k : Int) ST = ⟨d'.sec, d'.cache ++ [⟨(k : Int), ST⟩]⟩ from if_pos hw]
            exact (wrOk_iff d' _ _).2 hw
          have hkl : k + 1 ≤ 1073742000 := by have := hw.2.1.2; have := hsm'.1; omega
          have HRN : Hid (wbL D (k + 1) 0 (t'.extract n t'.size).data.toList = R) := show _ = R from by
            rw [extract_rest, ← HR.out, wbL_go hne hfr (by rw [← HSW.out]; exact hw), ← HSW.out, HDF.out.1]
            congr 1
            rw [HN2.out]
            by_cases hm : t'.size ≤ 32 - fr
            · rw [Nat.min_eq_left hm, List.drop_of_length_le (by rw [Array.length_toList]; exact Nat.le_refl _), List.drop_of_length_le (by rw [Array.length_toList]; exact hm)]
            · rw [Nat.min_eq_right (by omega)]
          have hbg : w2.heap.size ≠ g := by omega
          have hxs : (t'.extract n t'.size).size = t'.size - n := by rw [ByteArray.size_extract]; omega
          have sl : ∀ wx, (Instr.slice 9 (.string t') (some (.int .i64 (n : Int))) none none).run Try.prog wx = .ok (.string (t'.extract n t'.size)) wx := fun wx => by
            have := run_slice_string_from_if (P := Try.prog) (w := wx) 9 t' .i64 (n : Int) Try.underlying9
            rw [this, if_pos ⟨by omega, by omega⟩]
            congr 3
          generalize t'.extract n t'.size = t2 at sl hxs HRN
          have IN : Hid (∀ X, Below wc.heap.size wc X → WbI w (.slice aa d.sec.length ca) (.slice ab d.cache.length cb) w2.heap.size (.slice e1 D.sec.length e3) (.slice e2 D.cache.length e4) d D B T ((X.setCell ⟨w2.heap.size, 0, none⟩ (.slice e1 D.sec.length e3)).setCell ⟨w2.heap.size, 1, none⟩ (.slice e2 D.cache.length e4))) := by
            intro X hX
            have JK := IK.later hX
            have hblt := JK.lt
            have o1 := JK.out.set 0 (.slice e1 D.sec.length e3)
            refine ⟨(JK.bel.setCell (p := ⟨w2.heap.size, 0, none⟩) (by show w.heap.size ≤ w2.heap.size; omega) _).setCell (p := ⟨w2.heap.size, 1, none⟩) (by show w.heap.size ≤ w2.heap.size; omega) _, (JK.inn.other (by omega) _ _).other (by omega) _ _, (JK.res.other (by omega) _ _).other (by omega) _ _, o1.set 1 _, ?_, (JK.was.boxStore JK.out 0 _).boxStore o1 1 _, hblt⟩
            exact ((((oD.later hX).base hz9).boxStore JK.out 0 (.slice e1 D.sec.length e3)).boxStore o1 1 (.slice e2 D.cache.length e4)).top
          have bD : Below wc.heap.size wc wc.drew := (Below.refl _ _).drew
          have I1 := IN.out _ (Below.refl _ _)
          have I2 := IN.out _ bD
          have I1d := I1.later ((Below.refl _ _).drew)
          have x0 := (bxc.later bD).cell 0 (.slice e1 D.sec.length e3) rfl
          have x1 := (bxc.later bD).cell 1 (.slice e2 D.cache.length e4) rfl
          have IKd := IK.later bD
          have y0 := IKd.out.cell 0 (.slice a5 d'.sec.length c5) rfl
          have y1 := IKd.out.cell 1 (.slice a6 d'.cache.length c6) rfl
          have f0 := IKd.out.loose 0
          have f1 := IKd.out.loose 1
          have ou1 := IK.out.set 0 (.slice e1 D.sec.length e3)
          have ou2 := IKd.out.set 0 (.slice e1 D.sec.length e3)
          have n1 := ou1.cell 1 (.slice a6 d'.cache.length c6) rfl
          have n2 := ou1.loose 1
          have n3 := ou2.cell 1 (.slice a6 d'.cache.length c6) rfl
          have n4 := ou2.loose 1
          have n5 := (ou1.later (Below.refl _ _).drew).cell 1 (.slice a6 d'.cache.length c6) rfl
          have n6 := (ou1.later (Below.refl _ _).drew).loose 1
          clear ou1 ou2
          have JJ : Hid (WbI w (.slice aa d.sec.length ca) (.slice ab d.cache.length cb) w2.heap.size (.slice e1 D.sec.length e3) (.slice e2 D.cache.length e4) d D B T _ ∧ WbI w (.slice aa d.sec.length ca) (.slice ab d.cache.length cb) w2.heap.size (.slice e1 D.sec.length e3) (.slice e2 D.cache.length e4) d D B T _ ∧ WbI w (.slice aa d.sec.length ca) (.slice ab d.cache.length cb) w2.heap.size (.slice e1 D.sec.length e3) (.slice e2 D.cache.length e4) d D B T _) := ⟨I1, I2, I1d⟩
          clear IK IKd bxc oD kD IN I1 I2 I1d bD hw
          go_upto_region 12 with fail
          go_region_law (first | fail)
          all_goals
            go_wp2
            go_roundw
            case rel => exact ⟨t2, k + 1, 0, D, _, _, rfl, by go_num, rfl, by omega, hkl, by omega, ⟨(Dk.ok_small HDK.out).1, (Dk.ok_small HDK.out).2, by have := HDK.out.2.2.1; omega⟩, HRN.out, by first | exact JJ.out.1 | exact JJ.out.2.1 | exact JJ.out.2.2⟩
            case measure => simp only [szOf_string]; omega

end Go.Proofs.Ytmlhpjkijpbinab

/- Segments: where they lie, and their texts: SegFirst, SegText, the model's and the program's. -/
namespace Go.Proofs.Ytmlhpjkijpbinab
open Go.RowKit

/-- The first sector of a segment. -/
def sgF (s : Int) : Int := if 0 ≤ s ∧ s ≤ 10 then 8 + 8 * s else 0
theorem sgF_yes {s : Int} (h : 0 ≤ s ∧ s ≤ 10) : sgF s = 8 + 8 * s := if_pos h
theorem sgF_no {s : Int} (h : ¬ (0 ≤ s ∧ s ≤ 10)) : sgF s = 0 := if_neg h

/-- The text of a segment. -/
def sgT (d : Dk) (s : Int) : ByteArray := if 0 ≤ s ∧ s ≤ 10 then (match stL d (8 + 8 * s) 8 with
  | some l => ⟨l.toArray⟩
  | none => ⟨#[]⟩) else ⟨#[]⟩
theorem sgT_no {d : Dk} {s : Int} (h : ¬ (0 ≤ s ∧ s ≤ 10)) : sgT d s = ⟨#[]⟩ := if_neg h
theorem sgT_yes {d : Dk} {s : Int} (h : 0 ≤ s ∧ s ≤ 10) : ∃ f : Bool, stT d (8 + 8 * s) 8 = .tuple #[.string (sgT d s), .bool f] := by
  unfold sgT
  rw [if_pos h]
  cases hl : stL d (8 + 8 * s) 8 with
  | some l => exact ⟨true, stT_some (n := 8) (by omega) hl⟩
  | none => exact ⟨false, stT_none (n := 8) hl⟩

theorem rdO_sizeM {d : Dk} {a : Int} {t : ByteArray} {M : Nat} (h : rdO d a = some t) (ht : ∀ s ∈ d.sec, s.size ≤ M) (hu : ∀ x ∈ d.cache, x.text.size ≤ M) : t.size ≤ M := by
  have hin := rdO_in h
  unfold rdO at h
  rw [if_pos hin] at h
  cases hl : lastAt d.cache a with
  | some u =>
    rw [hl] at h
    obtain ⟨x, hx, e⟩ := lastAt_mem hl
    cases h
    rw [← e]; exact hu x hx
  | none =>
    rw [hl] at h
    have hk : a.toNat < d.sec.length := by omega
    simp [List.getD_eq_getElem?_getD, List.getElem?_eq_getElem hk] at h
    rw [← h]; exact ht _ (List.getElem_mem hk)

theorem stL_size {d : Dk} {a : Int} {M : Nat} (ht : ∀ s ∈ d.sec, s.size ≤ M) (hu : ∀ x ∈ d.cache, x.text.size ≤ M) : ∀ (n : Nat) (l : List UInt8), stL d a n = some l → l.length ≤ n * M := by
  intro n
  induction n with
  | zero => intro l h; unfold stL at h; cases h; simp
  | succ n ih =>
    intro l h
    unfold stL at h
    cases hl : stL d a n with
    | none => rw [hl] at h; cases h
    | some l0 =>
      rw [hl] at h
      cases hr : rdO d (a + (n : Int)) with
      | none => simp only [hr] at h; cases h
      | some t =>
        simp only [hr] at h
        cases h
        have h1 := ih l0 hl
        have h2 := rdO_sizeM hr ht hu
        have h3 : t.data.toList.length = t.size := by rw [Array.length_toList]; rfl
        rw [List.length_append, Nat.succ_mul]; omega

theorem sgT_size {d : Dk} {M : Nat} (ht : ∀ s ∈ d.sec, s.size ≤ M) (hu : ∀ x ∈ d.cache, x.text.size ≤ M) (s : Int) : (sgT d s).size ≤ 8 * M := by
  unfold sgT
  split
  · cases hl : stL d (8 + 8 * s) 8 with
    | some l => exact stL_size ht hu 8 l hl
    | none => exact Nat.zero_le _
  · exact Nat.zero_le _

theorem segNumberOk_any (s : Int) (w : World) :
    Calls Try.prog 45 #[.int .i64 s] w fun e w' => e = .returned (.bool (decide (0 ≤ s ∧ s ≤ 10))) ∧ w = w' := by
  by_cases h1 : 0 ≤ s
  · have g2 : decide (s < 11) = decide (0 ≤ s ∧ s ≤ 10) := decide_eq_decide.2 ⟨fun h => ⟨h1, by omega⟩, fun h => by omega⟩
    rw [← g2]
    clear g2
    go_enter Try.func45, Try.ntmps45
    go_wp2
    go_ret
    exact ⟨rfl, rfl⟩
  · rw [decide_eq_false (show ¬ (0 ≤ s ∧ s ≤ 10) by omega)]
    go_enter Try.func45, Try.ntmps45
    go_wp2
    go_ret
    exact ⟨rfl, rfl⟩

theorem implSegFirst_any (s : Int) (w : World) :
    Calls Try.prog 26 #[.int .i64 s] w fun e w' => e = .returned (.int .i64 (sgF s)) ∧ w = w' := by
  by_cases h : 0 ≤ s ∧ s ≤ 10
  · rw [sgF_yes h]
    have hd := decide_eq_true h
    go_enter Try.func26, Try.ntmps26
    go_wp2_with (go_at_call 45; refine (segNumberOk_any _ _).mono ?_; rintro e w1 ⟨rfl, rfl⟩; rw [hd])
    go_ret
    exact ⟨rfl, rfl⟩
  · rw [sgF_no h]
    have hd := decide_eq_false h
    go_enter Try.func26, Try.ntmps26
    go_wp2_with (go_at_call 45; refine (segNumberOk_any _ _).mono ?_; rintro e w1 ⟨rfl, rfl⟩; rw [hd])
    go_ret
    exact ⟨rfl, rfl⟩

theorem specSegFirst_any (s : Int) (w : World) :
    Calls Try.prog 49 #[.int .i64 s] w fun e w' => e = .returned (.int .i64 (sgF s)) ∧ w = w' := by
  by_cases h : 0 ≤ s ∧ s ≤ 10
  · rw [sgF_yes h]
    go_enter Try.func49, Try.ntmps49
    go_wp2_with (go_at_call 32; refine (in_yes _ _ _ _ (by omega) (by omega)).mono ?_; rintro e w5 ⟨rfl, rfl⟩)
    go_ret
    exact ⟨congrArg (fun z => Ending.returned (.int .i64 z)) (by omega), rfl⟩
  · rw [sgF_no h]
    go_enter Try.func49, Try.ntmps49
    go_wp2_with (go_at_call 32; refine (in_no _ _ _ _ h).mono ?_; rintro e w5 ⟨rfl, rfl⟩)
    go_ret
    exact ⟨rfl, rfl⟩

set_option maxRecDepth 100000 in
set_option maxHeartbeats 1000000 in
theorem implSegText_any (d : Dk) (v : Value) (s : Int) (w : World) (h : DRd w v d) (hs : d.small) (ht : ∀ s ∈ d.sec, s.size ≤ 1099511627776) (hu : ∀ x ∈ d.cache, x.text.size ≤ 1099511627776) :
    Calls Try.prog 24 #[v, .int .i64 s] w fun e w' => e = .returned (.string (sgT d s)) ∧ Below w.heap.size w w' := by
  obtain ⟨aa, ab, ca, cb, rfl, _, _⟩ := h.form
  have hx := Box.new w #[.slice aa d.sec.length ca, .slice ab d.cache.length cb] 27
  have b0 : Below w.heap.size w (w.alloc (.cells #[.slice aa d.sec.length ca, .slice ab d.cache.length cb] 27)) := (Below.refl _ _).alloc (Nat.le_refl _) _
  have h' := h.later b0
  by_cases hin : 0 ≤ s ∧ s ≤ 10
  · have hd := decide_eq_true hin
    obtain ⟨f, hf⟩ := sgT_yes (d := d) hin
    have HF := Lib.hid hf
    have hsf := sgF_yes hin
    clear hf h
    go_enter Try.func24, Try.ntmps24
    go_upto_region 3 with (go_at_call 45; refine (segNumberOk_any _ _).mono ?_; rintro e w1 ⟨rfl, rfl⟩; rw [hd])
    generalize w.alloc (.cells #[.slice aa d.sec.length ca, .slice ab d.cache.length cb] 27) = W at hx b0 h' ⊢
    have hD := h'.later ((Below.refl W.heap.size W).drew)
    have c0 := hx.cell 0 (.slice aa d.sec.length ca) rfl
    have c1 := hx.cell 1 (.slice ab d.cache.length cb) rfl
    have HS : Hid (∀ x, Below W.drew.heap.size W.drew x → x.cell? ⟨w.heap.size, 0, none⟩ = some (.slice aa d.sec.length ca) ∧ x.cell? ⟨w.heap.size, 1, none⟩ = some (.slice ab d.cache.length cb) ∧ Below w.heap.size w x) := by
      intro x hb
      have hb2 : Below W.heap.size W x := ((Below.refl W.heap.size W).drew).trans hb
      exact ⟨(hx.later hb2).cell 0 _ rfl, (hx.later hb2).cell 1 _ rfl, b0.trans (hb2.mono b0.size)⟩
    clear hx h'
    go_region_held3 (fun x => x.cell? ⟨w.heap.size, 0, none⟩ = some (.slice aa d.sec.length ca) ∧ x.cell? ⟨w.heap.size, 1, none⟩ = some (.slice ab d.cache.length cb))
      (first | go_keep | exact ⟨(HS.out _ k2).1, (HS.out _ k2).2.1⟩)
      (first
        | (go_at_call 26; refine (implSegFirst_any _ _).mono ?_; rintro e w1 ⟨rfl, rfl⟩; rw [hsf])
        | (go_at_call 11; refine (implSectorText_any d _ (8 + 8 * s) 8 _ hD hs ht hu (by omega)).mono ?_; rintro e w2 ⟨rfl, k2⟩; rw [HF.out]))
    all_goals
      go_wp2
      go_ret
      exact ⟨rfl, (HS.out _ k2).2.2⟩
  · rw [sgT_no hin]
    have hd := decide_eq_false hin
    clear h h'
    go_enter Try.func24, Try.ntmps24
    go_wp2_with (go_at_call 45; refine (segNumberOk_any _ _).mono ?_; rintro e w1 ⟨rfl, rfl⟩; rw [hd])
    go_ret
    exact ⟨rfl, b0⟩

set_option maxRecDepth 100000 in
set_option maxHeartbeats 1000000 in
theorem specSegText_any (d : Dk) (v : Value) (s : Int) (w : World) (h : DRd w v d) (hs : d.small) (ht : ∀ s ∈ d.sec, s.size ≤ 1099511627776) (hu : ∀ x ∈ d.cache, x.text.size ≤ 1099511627776) :
    Calls Try.prog 23 #[v, .int .i64 s] w fun e w' => e = .returned (.string (sgT d s)) ∧ Below w.heap.size w w' := by
  obtain ⟨aa, ab, ca, cb, rfl, _, _⟩ := h.form
  have hx := Box.new w #[.slice aa d.sec.length ca, .slice ab d.cache.length cb] 27
  have b0 : Below w.heap.size w (w.alloc (.cells #[.slice aa d.sec.length ca, .slice ab d.cache.length cb] 27)) := (Below.refl _ _).alloc (Nat.le_refl _) _
  have h' := h.later b0
  by_cases hin : 0 ≤ s ∧ s ≤ 10
  · obtain ⟨f, hf⟩ := sgT_yes (d := d) hin
    have HF := Lib.hid hf
    have hsf := sgF_yes hin
    clear hf h
    go_enter Try.func23, Try.ntmps23
    go_upto_region 3 with (go_at_call 32; refine (in_yes _ _ _ _ (by omega) (by omega)).mono ?_; rintro e w5 ⟨rfl, rfl⟩)
    generalize w.alloc (.cells #[.slice aa d.sec.length ca, .slice ab d.cache.length cb] 27) = W at hx b0 h' ⊢
    have hD := h'.later ((Below.refl W.heap.size W).drew)
    have c0 := hx.cell 0 (.slice aa d.sec.length ca) rfl
    have c1 := hx.cell 1 (.slice ab d.cache.length cb) rfl
    have HS : Hid (∀ x, Below W.drew.heap.size W.drew x → x.cell? ⟨w.heap.size, 0, none⟩ = some (.slice aa d.sec.length ca) ∧ x.cell? ⟨w.heap.size, 1, none⟩ = some (.slice ab d.cache.length cb) ∧ Below w.heap.size w x) := by
      intro x hb
      have hb2 : Below W.heap.size W x := ((Below.refl W.heap.size W).drew).trans hb
      exact ⟨(hx.later hb2).cell 0 _ rfl, (hx.later hb2).cell 1 _ rfl, b0.trans (hb2.mono b0.size)⟩
    clear hx h'
    go_region_held3 (fun x => x.cell? ⟨w.heap.size, 0, none⟩ = some (.slice aa d.sec.length ca) ∧ x.cell? ⟨w.heap.size, 1, none⟩ = some (.slice ab d.cache.length cb))
      (first | go_keep | exact ⟨(HS.out _ k2).1, (HS.out _ k2).2.1⟩)
      (first
        | (go_at_call 49; refine (specSegFirst_any _ _).mono ?_; rintro e w1 ⟨rfl, rfl⟩; rw [hsf])
        | (go_at_call 12; refine (specSectorText_any d _ (8 + 8 * s) 8 _ hD hs ht hu).mono ?_; rintro e w2 ⟨rfl, k2⟩; rw [HF.out]))
    all_goals
      go_wp2
      go_ret
      exact ⟨rfl, (HS.out _ k2).2.2⟩
  · rw [sgT_no hin]
    clear h h'
    go_enter Try.func23, Try.ntmps23
    go_wp2_with (go_at_call 32; refine (in_no _ _ _ _ hin).mono ?_; rintro e w5 ⟨rfl, rfl⟩)
    go_ret
    exact ⟨rfl, b0⟩

end Go.Proofs.Ytmlhpjkijpbinab

/- Segments: what the program's SegWrite hands back, within a disk. -/
namespace Go.Proofs.Ytmlhpjkijpbinab
open Go.RowKit

theorem take_text (t : ByteArray) (m : Nat) : (⟨(t.data.toList.take m).toArray⟩ : ByteArray).size = min m t.size := by
  show (t.data.toList.take m).toArray.size = _
  rw [List.size_toArray, List.length_take, Array.length_toList]; rfl
theorem take_all {t : ByteArray} {m : Nat} (h : t.size ≤ m) : (⟨(t.data.toList.take m).toArray⟩ : ByteArray) = t := by
  rw [List.take_of_length_le (by rw [Array.length_toList]; exact h)]

/-- A row of bytes, whole. -/
theorem Buf.box {B : Nat} {w0 w : World} {g n : Nat} {l : List UInt8} (h : Buf B w0 w (.slice (some ⟨g, 0, none⟩) n n) l) (hl : l.length = n) : Box w g (bytesV l).toArray 5 := by
  rcases h.own.2 with ⟨e, _⟩ | ⟨g', cap, cur, e, _, hh, hnc, hcp, hcs, htake⟩
  · cases e
  · simp only [Value.slice.injEq, Option.some.injEq, Addr.mk.injEq, and_true] at e
    obtain ⟨rfl, _, rfl⟩ := e
    have : cur = (bytesV l).toArray := by
      have h1 : cur.toList = bytesV l := by
        rw [← htake, List.take_of_length_le]
        rw [Array.length_toList, hcs, hl]
        exact Nat.le_refl _
      rw [← h1]
    rw [this] at hh
    exact hh

set_option maxRecDepth 100000 in
set_option maxHeartbeats 1000000 in
theorem cut_any (A : Nat) (t : ByteArray) (w : World) (hA : A ≤ 256) (_htz : t.size ≤ 1099511627776) :
    Calls Try.prog 47 #[.int .i64 (A : Int), .string t] w fun e w' => e = .returned (.string ⟨(t.data.toList.take (256 - A)).toArray⟩) ∧ Below w.heap.size w w' := by
  have hA0 : (0 : Int) ≤ (A : Int) := by omega
  have hA1 : (A : Int) ≤ 256 := by omega
  by_cases h6 : A = 256
  · subst h6
    rw [Nat.sub_self, List.take_zero]
    go_enter Try.func47, Try.ntmps47
    go_wp2_with (at_make; refine wpList_make_zeros rfl _ _ rfl .i64 .i64 _ _ 256 rfl rfl rfl rfl (by omega) ?_; intro w1 g hb1)
    have bx := hb1.box (by simp)
    refine upon_copy_text 22 9 3 5 g 0 0 0 t (List.replicate 256 0) 5 Try.underlying22 (by kernel_rfl) bx (by simp) ?_
    intro w2 x2 g2
    have hrun := run_convert_bytes_back (P := Try.prog) w2 22 9 5 ⟨g, 0, none⟩ 0 [] Try.underlying22 Try.underlying5 Try.underlying9 (fun j hj => by simp at hj)
    rw [List.length_nil] at hrun
    rw [show Nat.min t.size 0 = 0 from Nat.min_zero _]
    have hgB : w.heap.size ≤ g := (hb1.own.lt g rfl).1
    have bF := hb1.bel.grown g2 hb1.le (fun k hk => by have := Option.some.inj hk; omega)
    clear x2 g2 bx hb1
    go_wp2
    go_ret
    exact ⟨rfl, bF⟩
  · have h6' : ¬ 256 = A := fun e => h6 e.symm
    go_enter Try.func47, Try.ntmps47
    go_wp2_with (at_make; refine wpList_make_zeros rfl _ _ rfl .i64 .i64 _ _ 256 rfl rfl rfl rfl (by omega) ?_; intro w1 g hb1)
    have bx := hb1.box (by simp)
    have hgB : w.heap.size ≤ g := (hb1.own.lt g rfl).1
    refine upon_copy_text 22 9 3 5 g A (256 - A) (256 - A) t (List.replicate 256 0) 5 Try.underlying22 (by kernel_rfl) bx (by simp; omega) ?_
    intro w2 x2 g2
    obtain ⟨l, hl⟩ : ∃ l, t.data.toList.take (256 - A) = l := ⟨_, rfl⟩
    have hll : l.length = Nat.min t.size (256 - A) := by
      rw [← hl, List.length_take, Array.length_toList]
      exact Nat.min_comm _ _
    rw [hl] at x2
    have HL := Lib.hid hl
    clear hl
    have hlA : l.length ≤ 256 - A := by rw [hll]; exact Nat.min_le_right _ _
    have hrun := run_convert_bytes_back (P := Try.prog) w2 22 9 5 ⟨g, A, none⟩ (256 - A) l Try.underlying22 Try.underlying5 Try.underlying9 (fun j hj => by
      rw [Addr.add_lit]
      refine x2.cell (A + j) _ ?_
      have hs := splice_get (l := List.replicate 256 (0 : UInt8)) (m := l) (o := A) (by simp; omega) (A + j)
      rw [if_pos ⟨by omega, by omega⟩, show A + j - A = j by omega, List.getElem?_eq_getElem hj] at hs
      rw [List.getElem?_toArray, bytesV, List.getElem?_map, hs]; rfl)
    rw [← hll]
    have bF := hb1.bel.grown g2 hb1.le (fun k hk => by have := Option.some.inj hk; omega)
    have hl0 : (0 : Int) ≤ (l.length : Int) := by omega
    have hl1 : (l.length : Int) ≤ ((256 - A : Nat) : Int) := by omega
    have hl2 : ¬ 256 - A = 0 := by omega
    clear x2 g2 bx hb1 hll
    go_wp2
    go_ret
    exact ⟨by rw [HL.out]; rfl, bF⟩

set_option maxRecDepth 100000 in
set_option maxHeartbeats 2000000 in
theorem implSegWrite_in (d : Dk) (v : Value) (s A : Nat) (t : ByteArray) (B T : Nat) (w : World) (h : DOwn B T w v d) (hsm : d.small) (hts : ∀ s ∈ d.sec, s.size ≤ 1099511627776) (htu : ∀ x ∈ d.cache, x.text.size ≤ 1099511627776) (hcl : d.cache.length < 1073741824) (hs : s ≤ 10) (hse : 8 + 8 * s < d.sec.length) (hA : A ≤ 256) (hfit : t.size ≤ 256 - A) :
    Calls Try.prog 22 #[v, .int .i64 (s : Int), .int .i64 (A : Int), .string t] w fun e w' => DiskR ((wbL d (8 + 8 * s + A / 32) (A % 32) t.data.toList).getD d) (wbL d (8 + 8 * s + A / 32) (A % 32) t.data.toList).isSome w e w' := by
  obtain ⟨aa, ab, ca, cb, rfl⟩ := h.form
  obtain ⟨hx0, hx1, b0, hsz⟩ := two_boxes w #[.slice aa d.sec.length ca, .slice ab d.cache.length cb] #[.slice none 0 0, .slice none 0 0] 27 27
  have h' := h.later b0
  have hin : 0 ≤ (s : Int) ∧ (s : Int) ≤ 10 := by omega
  have hd := decide_eq_true hin
  have hsf : sgF (s : Int) = ((8 + 8 * s : Nat) : Int) := by rw [sgF_yes hin]; omega
  have hcut := take_all hfit
  have g1 : ¬ (A : Int) < 0 := by omega
  have g2 : ¬ (256 : Int) < (A : Int) := by omega
  obtain ⟨R, hR⟩ : ∃ R, wbL d (8 + 8 * s + A / 32) (A % 32) t.data.toList = R := ⟨_, rfl⟩
  rw [hR]
  obtain ⟨d2, hd2⟩ : ∃ d2, R.getD d = d2 := ⟨_, rfl⟩
  obtain ⟨f2, hf2⟩ : ∃ f2, R.isSome = f2 := ⟨_, rfl⟩
  rw [hd2, hf2]
  have HD2 : Hid (R.getD d = d2 ∧ R.isSome = f2) := ⟨hd2, hf2⟩
  clear hd2 hf2
  have HR := Lib.hid hR
  have HCUT := Lib.hid hcut
  have HSF := Lib.hid hsf
  have HDD := Lib.hid hd
  clear hR hcut hsf hd
  go_enter Try.func22, Try.ntmps22
  go_upto_region 6 with (first
    | (go_at_call 45; refine (segNumberOk_any _ _).mono ?_; rintro e w5 ⟨rfl, rfl⟩; rw [HDD.out])
    | (go_at_call 47; refine (cut_any A t _ hA (by omega)).mono ?_; rintro e w5 ⟨rfl, k5⟩; rw [HCUT.out]))
  generalize ((w.alloc (.cells #[.slice aa d.sec.length ca, .slice ab d.cache.length cb] 27)).alloc (.cells #[.slice none 0 0, .slice none 0 0] 27)) = W at hx0 hx1 b0 hsz h' k5
  have b5 := b0.trans (k5.mono b0.size)
  have bD : Below w5.heap.size w5 w5.drew := (Below.refl _ _).drew
  have m0 := ((hx0.later k5).later bD).cell 0 (.slice aa d.sec.length ca) rfl
  have m1 := ((hx0.later k5).later bD).cell 1 (.slice ab d.cache.length cb) rfl
  have HD := Lib.hid ((h'.later k5).later bD)
  have HX : Hid (∀ x, Below w5.drew.heap.size w5.drew x → Box x (w.heap.size + 1) #[.slice none 0 0, .slice none 0 0] 27 ∧ Below w.heap.size w x) := by
    intro x hb
    have hb2 : Below w5.heap.size w5 x := bD.trans hb
    exact ⟨(hx1.later k5).later hb2, b5.trans (hb2.mono b5.size)⟩
  have hzW : w.heap.size ≤ w5.drew.heap.size := b5.size
  clear hx0 hx1 h' bD k5 b0 b5
  go_region_law (first
    | (go_simp; go_at_call 26; refine (implSegFirst_any _ _).mono ?_; rintro e w6 ⟨rfl, rfl⟩; rw [HSF.out]; dsimp only)
    | (go_simp; go_at_call 48; refine (implWriteBytes_in d _ (8 + 8 * s) A t B T _ HD.out hsm hts htu hcl hse (by omega) (by omega)).mono ?_; intro e w6 hres; rw [HR.out, HD2.out.1, HD2.out.2] at hres; obtain ⟨v2, rfl, o6, k6⟩ := hres; obtain ⟨u1, u2, p1, p2, rfl⟩ := o6.form; obtain ⟨xX, bX⟩ := HX.out _ k6; have x0 := xX.cell 0 (.slice none 0 0) rfl; have x1 := xX.cell 1 (.slice none 0 0) rfl; have f0 := xX.loose 0; have f1 := xX.loose 1; dsimp only))
  all_goals
    have rX := (xX.set 0 (.slice u1 d2.sec.length p1)).set 1 (.slice u2 d2.cache.length p2)
    have q0 := rX.cell 0 (.slice u1 d2.sec.length p1) rfl
    have q1 := rX.cell 1 (.slice u2 d2.cache.length p2) rfl
    have HRR : Hid (DiskR d2 f2 w (.returned (.tuple #[.agg #[.slice u1 d2.sec.length p1, .slice u2 d2.cache.length p2], .bool f2])) ((w6.setCell ⟨w.heap.size + 1, 0, none⟩ (.slice u1 d2.sec.length p1)).setCell ⟨w.heap.size + 1, 1, none⟩ (.slice u2 d2.cache.length p2))) := by
      refine ⟨_, rfl, ?_, (bX.setCell (p := ⟨w.heap.size + 1, 0, none⟩) (by simp) _).setCell (p := ⟨w.heap.size + 1, 1, none⟩) (by simp) _⟩
      have := ((o6.base hzW).boxStore xX 0 (.slice u1 d2.sec.length p1)).boxStore (xX.set 0 (.slice u1 d2.sec.length p1)) 1 (.slice u2 d2.cache.length p2)
      simpa using this
    clear rX xX o6
    go_wp2
    refine bodyPost_ret (v := .tuple #[.agg #[.slice u1 d2.sec.length p1, .slice u2 d2.cache.length p2], .bool f2]) (by simp [results, Try.results22, go_sem, q0, q1]) rfl ?_
    exact HRR.out

set_option maxRecDepth 100000 in
set_option maxHeartbeats 2000000 in
theorem implSegWrite_far (d : Dk) (v : Value) (s A : Nat) (t : ByteArray) (B T : Nat) (w : World) (h : DOwn B T w v d) (hsm : d.small) (hts : ∀ s ∈ d.sec, s.size ≤ 1099511627776) (htu : ∀ x ∈ d.cache, x.text.size ≤ 1099511627776) (hs : s ≤ 10) (hA : A ≤ 256) (hfar : 256 - A < t.size) (htz : t.size ≤ 1099511627776) :
    Calls Try.prog 22 #[v, .int .i64 (s : Int), .int .i64 (A : Int), .string t] w fun e w' => DiskR d false w e w' := by
  obtain ⟨aa, ab, ca, cb, rfl⟩ := h.form
  obtain ⟨hx0, hx1, b0, hsz⟩ := two_boxes w #[.slice aa d.sec.length ca, .slice ab d.cache.length cb] #[.slice none 0 0, .slice none 0 0] 27 27
  have h' := h.later b0
  have hin : 0 ≤ (s : Int) ∧ (s : Int) ≤ 10 := by omega
  have HDD := Lib.hid (decide_eq_true hin)
  have g1 : ¬ (A : Int) < 0 := by omega
  have g2 : ¬ (256 : Int) < (A : Int) := by omega
  obtain ⟨t2, ht2⟩ : ∃ t2, (⟨(t.data.toList.take (256 - A)).toArray⟩ : ByteArray) = t2 := ⟨_, rfl⟩
  have hz2 : (t2.size : Int) < (t.size : Int) := by rw [← ht2, take_text]; omega
  have HCUT := Lib.hid ht2
  clear ht2
  go_enter Try.func22, Try.ntmps22
  go_upto_region 5 with (first
    | (go_at_call 45; refine (segNumberOk_any _ _).mono ?_; rintro e w5 ⟨rfl, rfl⟩; rw [HDD.out])
    | (go_at_call 47; refine (cut_any A t _ hA (by omega)).mono ?_; rintro e w5 ⟨rfl, k5⟩; rw [HCUT.out]))
  generalize ((w.alloc (.cells #[.slice aa d.sec.length ca, .slice ab d.cache.length cb] 27)).alloc (.cells #[.slice none 0 0, .slice none 0 0] 27)) = W at hx0 hx1 b0 hsz h' k5
  have b5 := b0.trans (k5.mono b0.size)
  have m0 := (hx0.later k5).cell 0 (.slice aa d.sec.length ca) rfl
  have m1 := (hx0.later k5).cell 1 (.slice ab d.cache.length cb) rfl
  have x5 := hx1.later k5
  have h5 := h'.later k5
  clear hx0 hx1 h' k5
  go_wp2_with fail
  refine (copyDisk_any d _ B T _ h5 hsm hts htu).mono ?_
  rintro e wX ⟨vX, rfl, oX, kX⟩
  obtain ⟨p1, p2, r1, r2, rfl⟩ := oX.form
  have xX := x5.later kX
  have bX := b5.trans (kX.mono b5.size)
  have x0 := xX.cell 0 (.slice none 0 0) rfl
  have x1 := xX.cell 1 (.slice none 0 0) rfl
  have f0 := xX.loose 0
  have f1 := xX.loose 1
  have rX := (xX.set 0 (.slice p1 d.sec.length r1)).set 1 (.slice p2 d.cache.length r2)
  have HR : Hid (DiskR d false w (.returned (.tuple #[.agg #[.slice p1 d.sec.length r1, .slice p2 d.cache.length r2], .bool false])) ((wX.setCell ⟨w.heap.size + 1, 0, none⟩ (.slice p1 d.sec.length r1)).setCell ⟨w.heap.size + 1, 1, none⟩ (.slice p2 d.cache.length r2))) := by
    refine ⟨_, rfl, ?_, (bX.setCell (p := ⟨w.heap.size + 1, 0, none⟩) (by simp) _).setCell (p := ⟨w.heap.size + 1, 1, none⟩) (by simp) _⟩
    have := ((oX.base b5.size).boxStore xX 0 (.slice p1 d.sec.length r1)).boxStore (xX.set 0 (.slice p1 d.sec.length r1)) 1 (.slice p2 d.cache.length r2)
    simpa using this
  have q0 := rX.cell 0 (.slice p1 d.sec.length r1) rfl
  have q1 := rX.cell 1 (.slice p2 d.cache.length r2) rfl
  clear rX oX kX m0 m1 xX x5 h5
  go_wp2
  refine bodyPost_ret (v := .tuple #[.agg #[.slice p1 d.sec.length r1, .slice p2 d.cache.length r2], .bool false]) (by simp [results, Try.results22, go_sem, q0, q1]) rfl ?_
  exact HR.out

end Go.Proofs.Ytmlhpjkijpbinab

/- Plain facts on segments: what is written in one stands there, and nowhere else. -/
namespace Go.Proofs.Ytmlhpjkijpbinab
open Go.RowKit

theorem ba_ext' {a b : ByteArray} (h : a.data.toList = b.data.toList) : a = b := by
  obtain ⟨⟨x⟩⟩ := a
  obtain ⟨⟨y⟩⟩ := b
  simp at h
  rw [h]

/-- The text of a segment, byte by byte. -/
theorem seg_bytes {d : Dk} (h : d.ok) {i : Nat} (hi : i ≤ 10) (hl : 16 + 8 * i ≤ d.sec.length) : (sgT d (i : Int)).data.toList.length = 256 ∧ ∀ P, P < 256 → (sgT d (i : Int)).data.toList[P]? = bt d (32 * (8 + 8 * i) + P) := by
  obtain ⟨l, h1, h2, h3⟩ := stL_ok h (8 + 8 * i) 8 (by omega)
  have e : sgT d (i : Int) = ⟨l.toArray⟩ := by
    unfold sgT
    rw [if_pos ⟨by omega, by omega⟩, show (8 + 8 * (i : Int)) = ((8 + 8 * i : Nat) : Int) by omega, h1]
  rw [e]
  exact ⟨h2, fun P hP => h3 P hP⟩

theorem seg_size {d : Dk} (h : d.ok) {i : Nat} (hi : i ≤ 10) (hl : 16 + 8 * i ≤ d.sec.length) : (sgT d (i : Int)).size = 256 := by
  have := (seg_bytes h hi hl).1
  rw [Array.length_toList] at this
  exact this

/-- Bytes written in the segment s: what is read of every segment. -/
theorem seg_wrote {d d' : Dk} (h : d.ok) (h' : d'.ok) (hs : d'.sec = d.sec) {s A : Nat} {t : ByteArray} (hA : A + t.size ≤ 256)
    (hb : ∀ P, bt d' P = if 32 * (8 + 8 * s) + A ≤ P ∧ P < 32 * (8 + 8 * s) + A + t.data.toList.length then t.data.toList[P - (32 * (8 + 8 * s) + A)]? else bt d P) {i : Nat} (hi : i ≤ 10) (hl : 16 + 8 * i ≤ d.sec.length) :
    sgT d' (i : Int) = if i = s then (sgT d (i : Int)).extract 0 A ++ t ++ (sgT d (i : Int)).extract (A + t.size) (sgT d (i : Int)).size else sgT d (i : Int) := by
  obtain ⟨l1, p1⟩ := seg_bytes h hi hl
  obtain ⟨l2, p2⟩ := seg_bytes h' hi (by rw [hs]; exact hl)
  have htl : t.data.toList.length = t.size := by rw [Array.length_toList]; rfl
  have hsz := seg_size h hi hl
  by_cases e : i = s
  · subst e
    rw [if_pos rfl]
    apply ba_ext'
    have e1 : ((sgT d (i : Int)).extract 0 A ++ t ++ (sgT d (i : Int)).extract (A + t.size) (sgT d (i : Int)).size).data.toList = (sgT d (i : Int)).data.toList.take A ++ t.data.toList ++ (sgT d (i : Int)).data.toList.drop (A + t.size) := by
      rw [ByteArray.data_append, ByteArray.data_append, Array.toList_append, Array.toList_append, ByteArray.data_extract, ByteArray.data_extract, Array.toList_extract, Array.toList_extract, List.extract_eq_take_drop, List.extract_eq_take_drop, hsz]
      rw [List.drop_zero, Nat.sub_zero]
      congr 1
      rw [List.take_of_length_le]
      rw [List.length_drop, l1]
      exact Nat.le_refl _
    rw [e1]
    apply List.ext_getElem?
    intro P
    have hAl : ((sgT d (i : Int)).data.toList.take A).length = A := by rw [List.length_take, l1]; omega
    by_cases hP : P < 256
    · rw [p2 P hP, hb, htl]
      by_cases c1 : P < A
      · rw [if_neg (by omega), List.append_assoc, List.getElem?_append_left (by omega), List.getElem?_take, if_pos c1, p1 P hP]
      · by_cases c2 : P < A + t.size
        · rw [if_pos (by omega), List.append_assoc, List.getElem?_append_right (by omega), hAl, List.getElem?_append_left (by omega)]
          congr 1
          omega
        · rw [if_neg (by omega), List.getElem?_append_right (by rw [List.length_append, hAl]; omega), List.length_append, hAl, htl, List.getElem?_drop, ← p1 P hP]
          congr 1
          omega
    · rw [List.getElem?_eq_none (by omega), List.getElem?_eq_none]
      rw [List.length_append, List.length_append, hAl, List.length_drop, l1]
      omega
  · rw [if_neg e]
    apply ba_ext'
    apply List.ext_getElem?
    intro P
    by_cases hP : P < 256
    · rw [p2 P hP, p1 P hP, hb, htl, if_neg (by omega)]
    · rw [List.getElem?_eq_none (by omega), List.getElem?_eq_none (by omega)]

end Go.Proofs.Ytmlhpjkijpbinab

/- Segments: what the model's SegWrite hands back of a right disk: a right disk of as many sectors. -/
namespace Go.Proofs.Ytmlhpjkijpbinab
open Go.RowKit

set_option maxRecDepth 100000 in
set_option maxHeartbeats 2000000 in
theorem specSegWrite_ok (d : Dk) (v : Value) (s A : Nat) (t : ByteArray) (B T : Nat) (w : World) (h : DOwn B T w v d) (hok : d.ok) (hs : s ≤ 10) (hse : 8 + 8 * s < d.sec.length) (hA : A ≤ 256) (htz : t.size ≤ 1000000) :
    Calls Try.prog 62 #[v, .int .i64 (s : Int), .int .i64 (A : Int), .string t] w fun e w' => ∃ (d' : Dk) (f : Bool), d'.ok ∧ d'.sec.length = d.sec.length ∧ DiskR d' f w e w' := by
  obtain ⟨aa, ab, ca, cb, rfl⟩ := h.form
  obtain ⟨hsm, hts, htu⟩ := Dk.ok_small hok
  obtain ⟨hx0, hx1, b0, hsz⟩ := two_boxes w #[.slice aa d.sec.length ca, .slice ab d.cache.length cb] #[.slice none 0 0, .slice none 0 0] 27 27
  have h' := h.later b0
  have c0 := hx0.cell 0 (.slice aa d.sec.length ca) rfl
  have c1 := hx0.cell 1 (.slice ab d.cache.length cb) rfl
  by_cases hfit : (256 : Int) - (A : Int) < (t.size : Int)
  · go_enter Try.func62, Try.ntmps62
    go_wp2_with (first | (go_at_call 32; refine (in_yes _ _ _ _ (by omega) (by omega)).mono ?_; rintro e w5 ⟨rfl, rfl⟩))
    generalize ((w.alloc (.cells #[.slice aa d.sec.length ca, .slice ab d.cache.length cb] 27)).alloc (.cells #[.slice none 0 0, .slice none 0 0] 27)) = W at hx0 hx1 b0 hsz h' c0 c1 ⊢
    refine (specCopy_any d _ B T _ h' hsm).mono ?_
    rintro e wX ⟨vX, rfl, oX, kX⟩
    obtain ⟨p1, p2, r1, r2, rfl⟩ := oX.form
    have xX := hx1.later kX
    have bX := b0.trans (kX.mono b0.size)
    have x0 := xX.cell 0 (.slice none 0 0) rfl
    have x1 := xX.cell 1 (.slice none 0 0) rfl
    have f0 := xX.loose 0
    have f1 := xX.loose 1
    have rX := (xX.set 0 (.slice p1 d.sec.length r1)).set 1 (.slice p2 d.cache.length r2)
    have HR : Hid (DiskR d false w (.returned (.tuple #[.agg #[.slice p1 d.sec.length r1, .slice p2 d.cache.length r2], .bool false])) ((wX.setCell ⟨w.heap.size + 1, 0, none⟩ (.slice p1 d.sec.length r1)).setCell ⟨w.heap.size + 1, 1, none⟩ (.slice p2 d.cache.length r2))) := by
      refine ⟨_, rfl, ?_, (bX.setCell (p := ⟨w.heap.size + 1, 0, none⟩) (by simp) _).setCell (p := ⟨w.heap.size + 1, 1, none⟩) (by simp) _⟩
      have := ((oX.base b0.size).boxStore xX 0 (.slice p1 d.sec.length r1)).boxStore (xX.set 0 (.slice p1 d.sec.length r1)) 1 (.slice p2 d.cache.length r2)
      simpa using this
    have q0 := rX.cell 0 (.slice p1 d.sec.length r1) rfl
    have q1 := rX.cell 1 (.slice p2 d.cache.length r2) rfl
    clear rX oX kX c0 c1 xX
    go_wp2
    refine bodyPost_ret (v := .tuple #[.agg #[.slice p1 d.sec.length r1, .slice p2 d.cache.length r2], .bool false]) (by simp [results, Try.results62, go_sem, q0, q1]) rfl ?_
    exact ⟨d, false, hok, rfl, HR.out⟩
  · have hfit2 : ¬ (256 : Int) - (A : Int) < (t.size : Int) := hfit
    have hsf : sgF (s : Int) = ((8 + 8 * s : Nat) : Int) := by rw [sgF_yes ⟨by omega, by omega⟩]; omega
    go_enter Try.func62, Try.ntmps62
    go_upto_region 3 with (first | (go_at_call 32; refine (in_yes _ _ _ _ (by omega) (by omega)).mono ?_; rintro e w5 ⟨rfl, rfl⟩))
    generalize ((w.alloc (.cells #[.slice aa d.sec.length ca, .slice ab d.cache.length cb] 27)).alloc (.cells #[.slice none 0 0, .slice none 0 0] 27)) = W at hx0 hx1 b0 hsz h' c0 c1 ⊢
    have bD : Below W.heap.size W W.drew := (Below.refl _ _).drew
    have m0 := (hx0.later bD).cell 0 (.slice aa d.sec.length ca) rfl
    have m1 := (hx0.later bD).cell 1 (.slice ab d.cache.length cb) rfl
    have HD := Lib.hid (h'.later bD)
    have HX : Hid (∀ x, Below W.drew.heap.size W.drew x → Box x (w.heap.size + 1) #[.slice none 0 0, .slice none 0 0] 27 ∧ Below w.heap.size w x) := by
      intro x hb
      have hb2 : Below W.heap.size W x := bD.trans hb
      exact ⟨hx1.later hb2, b0.trans (hb2.mono b0.size)⟩
    have hzW : w.heap.size ≤ W.drew.heap.size := b0.size
    clear hx0 hx1 h' c0 c1 bD
    go_region_law (first
      | (go_simp; go_at_call 49; refine (specSegFirst_any _ _).mono ?_; rintro e w5 ⟨rfl, rfl⟩; rw [hsf]; dsimp only)
      | (go_simp; go_at_call 66; refine (specWriteBytes_ok d _ (8 + 8 * s) A t B T _ HD.out hok hse (by omega) htz).mono ?_; rintro e w6 ⟨d2, f2, hok2, hl2, hm2, v2, rfl, o6, k6⟩; have HL2 := Lib.hid hl2; clear hl2 hm2; obtain ⟨u1, u2, p1, p2, rfl⟩ := o6.form; obtain ⟨xX, bX⟩ := HX.out _ k6; have x0 := xX.cell 0 (.slice none 0 0) rfl; have x1 := xX.cell 1 (.slice none 0 0) rfl; have f0 := xX.loose 0; have f1 := xX.loose 1; dsimp only))
    all_goals
      have rX := (xX.set 0 (.slice u1 d2.sec.length p1)).set 1 (.slice u2 d2.cache.length p2)
      have q0 := rX.cell 0 (.slice u1 d2.sec.length p1) rfl
      have q1 := rX.cell 1 (.slice u2 d2.cache.length p2) rfl
      have HR : Hid (DiskR d2 f2 w (.returned (.tuple #[.agg #[.slice u1 d2.sec.length p1, .slice u2 d2.cache.length p2], .bool f2])) ((w6.setCell ⟨w.heap.size + 1, 0, none⟩ (.slice u1 d2.sec.length p1)).setCell ⟨w.heap.size + 1, 1, none⟩ (.slice u2 d2.cache.length p2))) := by
        refine ⟨_, rfl, ?_, (bX.setCell (p := ⟨w.heap.size + 1, 0, none⟩) (by simp) _).setCell (p := ⟨w.heap.size + 1, 1, none⟩) (by simp) _⟩
        have := ((o6.base hzW).boxStore xX 0 (.slice u1 d2.sec.length p1)).boxStore (xX.set 0 (.slice u1 d2.sec.length p1)) 1 (.slice u2 d2.cache.length p2)
        simpa using this
      clear rX xX o6
      go_wp2
      refine bodyPost_ret (v := .tuple #[.agg #[.slice u1 d2.sec.length p1, .slice u2 d2.cache.length p2], .bool f2]) (by simp [results, Try.results62, go_sem, q0, q1]) rfl ?_
      exact ⟨d2, f2, hok2, HL2.out, HR.out⟩

end Go.Proofs.Ytmlhpjkijpbinab
