/- Texts of our own, joined. -/
import Derived.Test.YtgcnebepklelpaaGreatDoorJk
import Derived.Test.YtgcnebepklelpaaGreatDoorJq
import Derived.Test.YtgcnebepklelpaaGreatDoorJl
import Derived.Test.YtgcnebepklelpaaGreatDoorJp
/- WriteCheck of the program. -/
namespace Go.Proofs.YtgcnebepklelpaaGreatDoor
open Go.RowKit

set_option maxRecDepth 100000 in
set_option maxHeartbeats 2000000 in
theorem implWriteBytes_far (d : Dk) (v : Value) (se : Nat) (t : ByteArray) (B T : Nat) (w : World) (h : DOwn B T w v d) (hsm : d.small) (hts : ∀ s ∈ d.sec, s.size ≤ 1099511627776) (htu : ∀ x ∈ d.cache, x.text.size ≤ 1099511627776) (hse : ¬ se < d.sec.length) :
    Calls Tryz.prog 73 #[v, .int .i64 (se : Int), .int .i64 0, .string t] w fun e w' => DiskR d false w e w' := by
  obtain ⟨aa, ab, ca, cb, rfl⟩ := h.form
  obtain ⟨hx0, hx1, b0, hsz⟩ := two_boxes w #[.slice aa d.sec.length ca, .slice ab d.cache.length cb] #[.slice none 0 0, .slice none 0 0] 25 25
  have h' := h.later b0
  have g3 : ¬ (se : Int) < 0 := by omega
  have g4 : ¬ (se : Int) < (d.sec.length : Int) := by omega
  have g5 : (d.sec.length : Int) ≤ (se : Int) := by omega
  have m0 := hx0.cell 0 (.slice aa d.sec.length ca) rfl
  have m1 := hx0.cell 1 (.slice ab d.cache.length cb) rfl
  clear hse
  go_enter Tryz.func73, Tryz.ntmps73
  go_wp2_with fail
  generalize ((w.alloc (.cells #[.slice aa d.sec.length ca, .slice ab d.cache.length cb] 25)).alloc (.cells #[.slice none 0 0, .slice none 0 0] 25)) = W at hx0 hx1 b0 hsz h' m0 m1 ⊢
  refine (copyDisk_any d _ B T _ h' hsm hts htu).mono ?_
  rintro e wX ⟨vX, rfl, oX, kX⟩
  obtain ⟨p1, p2, r1, r2, rfl⟩ := oX.form
  have xX := hx1.later kX
  have bX := b0.trans (kX.mono b0.size)
  have x0 := xX.cell 0 (.slice none 0 0) rfl
  have x1 := xX.cell 1 (.slice none 0 0) rfl
  have f0 := xX.loose 0
  have f1 := xX.loose 1
  have rX := (xX.set 0 (.slice p1 d.sec.length r1)).set 1 (.slice p2 d.cache.length r2)
  have HR : Hid (DiskR d false w (.returned (.tuple #[.agg #[.slice p1 d.sec.length r1, .slice p2 d.cache.length r2], .bool false])) ((wX.setCell ⟨w.heap.size + 1, 0, none⟩ (.slice p1 d.sec.length r1)).setCell ⟨w.heap.size + 1, 1, none⟩ (.slice p2 d.cache.length r2))) := by
    refine ⟨_, rfl, ?_, (bX.setCell (p := ⟨w.heap.size + 1, 0, none⟩) (by simp) _).setCell (p := ⟨w.heap.size + 1, 1, none⟩) (by simp) _⟩
    have := ((oX.base b0.size).boxStore xX 0 (.slice p1 d.sec.length r1)).boxStore (xX.set 0 (.slice p1 d.sec.length r1)) 1 (.slice p2 d.cache.length r2)
    simpa using this
  have q0 := rX.cell 0 (.slice p1 d.sec.length r1) rfl
  have q1 := rX.cell 1 (.slice p2 d.cache.length r2) rfl
  clear rX oX kX m0 m1 xX h' hx0 hx1
  go_wp2
  refine bodyPost_ret (v := .tuple #[.agg #[.slice p1 d.sec.length r1, .slice p2 d.cache.length r2], .bool false]) (by simp [results, Tryz.results73, go_sem, q0, q1]) rfl ?_
  exact HR.out

set_option maxRecDepth 100000 in
theorem regionFirst_any (n : Nat) (w : World) (hn : n ≤ 1) : Calls Tryz.prog 74 #[.int .i64 (n : Int)] w fun e w' => e = .returned (.int .i64 ((4 * n : Nat) : Int)) ∧ w = w' := by
  have h1 : IntKind.i64.wrap (4 * (n : Int)) = ((4 * n : Nat) : Int) := by rw [IntWalk.i64_in _ ⟨by omega, by omega⟩]; omega
  go_enter Tryz.func74, Tryz.ntmps74
  go_wp2
  go_ret
  first | exact ⟨rfl, rfl⟩ | exact ⟨by go_num, rfl⟩ | exact ⟨by simp, rfl⟩

theorem implWriteBytes_at (d : Dk) (v : Value) (c : Ck) (hc : (ckTx c).size ≤ 1000000) (B T : Nat) (w : World) (h : DOwn B T w v d) (hsm : d.small) (hts : ∀ s ∈ d.sec, s.size ≤ 1099511627776) (htu : ∀ x ∈ d.cache, x.text.size ≤ 1099511627776) (hcl : d.cache.length < 1073741824) :
    Calls Tryz.prog 73 #[v, .int .i64 (regN c : Int), .int .i64 0, .string (ckTx c)] w fun e w' => ∃ (d' : Dk) (f : Bool), (f = true → regN c < d.sec.length ∧ wbL d (regN c) 0 (ckTx c).data.toList = some d') ∧ (f = false → ¬ regN c < d.sec.length ∨ wbL d (regN c) 0 (ckTx c).data.toList = none) ∧ DiskR d' f w e w' := by
  by_cases hse : regN c < d.sec.length
  · refine (implWriteBytes_in d v (regN c) 0 (ckTx c) B T w h hsm hts htu hcl hse (by omega) (by omega)).mono ?_
    intro e w' hr
    simp only [Nat.zero_div, Nat.add_zero, Nat.zero_mod] at hr
    cases hw : wbL d (regN c) 0 (ckTx c).data.toList with
    | none => rw [hw] at hr; exact ⟨d, false, (fun e => by cases e), fun _ => .inr rfl, hr⟩
    | some d' => rw [hw] at hr; exact ⟨d', true, fun _ => ⟨hse, rfl⟩, (fun e => by cases e), hr⟩
  · exact (implWriteBytes_far d v (regN c) (ckTx c) B T w h hsm hts htu hse).mono fun e w' hr => ⟨d, false, (fun e => by cases e), fun _ => .inl hse, hr⟩

set_option maxRecDepth 100000 in
set_option maxHeartbeats 8000000 in
theorem withCheck_any (d : Dk) (c : Ck) (v : Value) (a : Option Addr) (cap B T : Nat) (w : World) (h : DOwn B T w v d) (hsm : d.small) (hts : ∀ s ∈ d.sec, s.size ≤ 1099511627776) (htu : ∀ x ∈ d.cache, x.text.size ≤ 1099511627776) (hcl : d.cache.length < 1073741824) (hr : Rows' rfE w (.slice a c.refs.length cap) c.refs) (hl : c.refs.length ≤ 1048576) (ht : SumTab w) :
    Calls Tryz.prog 48 #[v, .agg #[.int .i64 c.st, .int .i64 c.ng, .int .i64 c.ns, .int .i64 c.nv, .slice a c.refs.length cap]] w fun e w' => WcR d c 90 w e w' := by
  obtain ⟨aa, ab, ca, cb, rfl⟩ := h.form
  obtain ⟨X0, X1, X2, b0, hsz⟩ := three_boxes w #[.slice aa d.sec.length ca, .slice ab d.cache.length cb] #[.int .i64 c.st, .int .i64 c.ng, .int .i64 c.ns, .int .i64 c.nv, .slice a c.refs.length cap] #[.slice none 0 0, .slice none 0 0] 25 51 25
  have h' := h.later b0
  have HTX := Lib.hid (textOfCheck_any c a cap _ (ht.later b0) (hr.later b0) hl)
  have HWB := Lib.hid (fun (x : World) (hx : DOwn B T x (.agg #[.slice aa d.sec.length ca, .slice ab d.cache.length cb]) d) (hc : (ckTx c).size ≤ 1000000) => implWriteBytes_at d _ c hc B T x hx hsm hts htu hcl)
  have HRN : Hid (c.ok → (IntKind.i64.wrap (Int.tmod c.st 2) = ((c.st % 2).toNat : Int) ∧ Int.tmod c.st 2 = ((c.st % 2).toNat : Int)) ∧ (c.st % 2).toNat ≤ 1 ∧ regN c = 4 * (c.st % 2).toNat ∧ (ckTx c).size ≤ 1000000) := fun hok => by
    have hst : 1 ≤ c.st := hok.1.1.1
    have e1 : Int.tmod c.st 2 = c.st % 2 := Int.tmod_eq_emod_of_nonneg (by omega)
    have := (ckSe_len hok).2.2
    refine ⟨⟨?_, by rw [e1]; omega⟩, by omega, rfl, by omega⟩
    rw [e1, IntWalk.i64_in _ ⟨by omega, by omega⟩]; omega
  have HOKB : Hid (c.ok → ckB c = true) := ckB_yes
  have HNOB : Hid (¬ c.ok → ckB c = false) := fun hn => by
    cases e : ckB c with
    | false => rfl
    | true => exact absurd (ckB_iff.1 e) hn
  clear h hr ht hl
  obtain ⟨n, hn⟩ : ∃ n, c.refs.length = n := ⟨_, rfl⟩
  rw [hn] at X1 HTX X0 X2 b0 hsz h' ⊢
  clear hn
  obtain ⟨y0, y1, y2, y3, y4⟩ := X1.fiveW
  go_enter Tryz.func48, Tryz.ntmps48
  go_wp2_with fail
  clear y0 y1 y2 y3 y4
  generalize (((w.alloc (.cells #[.slice aa d.sec.length ca, .slice ab d.cache.length cb] 25)).alloc (.cells #[.int .i64 c.st, .int .i64 c.ng, .int .i64 c.ns, .int .i64 c.nv, .slice a n cap] 51)).alloc (.cells #[.slice none 0 0, .slice none 0 0] 25)) = W at X0 X1 X2 b0 hsz h' HTX ⊢
  refine HTX.out.mono ?_
  rintro e w1 ⟨hT, k1⟩
  clear HTX
  replace X0 := X0.later k1
  replace X1 := X1.later k1
  replace X2 := X2.later k1
  replace h' := h'.later k1
  have b1 := b0.trans (k1.mono b0.size)
  have hsz1 : Hid (w.heap.size + 3 ≤ w1.heap.size) := by show _ ≤ _; have := k1.size; omega
  clear b0 hsz k1
  rcases hT with ⟨hok, rfl⟩ | ⟨hno, k, hk, rfl⟩
  case inr =>
    have HB := Lib.hid (wcO_bad (d := d) (HNOB.out hno))
    clear h' X0 X1 HWB HRN HOKB HNOB hno
    obtain ⟨x0, x1, f0, f1⟩ : _ ∧ _ ∧ _ ∧ _ := ⟨X2.cell 0 _ rfl, X2.cell 1 _ rfl, X2.loose 0, X2.loose 1⟩
    have rX := (X2.set 0 (.slice none 0 0)).set 1 (.slice none 0 0)
    have q0 := rX.cell 0 (.slice none 0 0) rfl
    have q1 := rX.cell 1 (.slice none 0 0) rfl
    have bX := (b1.setCell (p := ⟨w.heap.size + 2, 0, none⟩) (by simp) (.slice none 0 0)).setCell (p := ⟨w.heap.size + 2, 1, none⟩) (by simp) (.slice none 0 0)
    have HBX := Lib.hid bX
    clear rX X2 bX
    go_wp2
    refine bodyPost_ret (v := .tuple #[.agg #[.slice none 0 0, .slice none 0 0], .iface 90 (.agg #[.int .i64 k])]) (by simp [results, Tryz.results48, go_sem, q0, q1]) rfl ?_
    exact .inr ⟨HB.out, k, by omega, rfl, by first | exact HBX.out | exact b1⟩
  obtain ⟨⟨hm1, hm2⟩, hr1, hr2, hcz⟩ := HRN.out hok
  have HKB := Lib.hid (HOKB.out hok)
  have HCZ := Lib.hid hcz
  obtain ⟨tx, htx⟩ : ∃ tx, ckTx c = tx := ⟨_, rfl⟩
  have HTX := Lib.hid htx
  obtain ⟨rg, hrg⟩ : ∃ rg, (c.st % 2).toNat = rg := ⟨_, rfl⟩
  rw [hrg] at hm1 hm2 hr1 hr2
  obtain ⟨rN, hrN⟩ : ∃ rN, regN c = rN := ⟨_, rfl⟩
  have HRN2 := Lib.hid hrN
  rw [htx] at HCZ
  rw [htx, hrN] at HWB
  rw [htx]
  have HRF : Hid (∀ x, Calls Tryz.prog 74 #[.int .i64 (rg : Int)] x fun e w' => e = .returned (.int .i64 (rN : Int)) ∧ x = w') := fun x => by rw [← hrN, hr2]; exact regionFirst_any rg x hr1
  clear htx hrg hrN hr1 hr2 HRN HOKB HNOB hcz
  have HK0 : Hid (w1.drew.cell? ⟨w.heap.size, 0, none⟩ = some (.slice aa d.sec.length ca) ∧ w1.drew.cell? ⟨w.heap.size, 1, none⟩ = some (.slice ab d.cache.length cb) ∧ w1.drew.cell? ⟨w.heap.size + 1, 0, none⟩ = some (.int .i64 c.st) ∧ Below w1.heap.size w1 w1.drew) := ⟨X0.cell 0 _ rfl, X0.cell 1 _ rfl, X1.cell 0 _ rfl, (Below.refl _ _).drew⟩
  have HK1 : Hid ((w1.alloc (.cells #[.slice none 0 0, .slice none 0 0] 25)).drew.cell? ⟨w.heap.size, 0, none⟩ = some (.slice aa d.sec.length ca) ∧ (w1.alloc (.cells #[.slice none 0 0, .slice none 0 0] 25)).drew.cell? ⟨w.heap.size, 1, none⟩ = some (.slice ab d.cache.length cb) ∧ (w1.alloc (.cells #[.slice none 0 0, .slice none 0 0] 25)).drew.cell? ⟨w.heap.size + 1, 0, none⟩ = some (.int .i64 c.st) ∧ Below w1.heap.size w1 (w1.alloc (.cells #[.slice none 0 0, .slice none 0 0] 25)).drew) := ⟨(X0.later (belNew w1 _)).cell 0 _ rfl, (X0.later (belNew w1 _)).cell 1 _ rfl, (X1.later (belNew w1 _)).cell 0 _ rfl, (belAlloc w1 _).drew⟩
  have hl0 : w.heap.size < w1.heap.size := by have := hsz1.out; omega
  have hl1 : w.heap.size + 1 < w1.heap.size := by have := hsz1.out; omega
  have HS : Hid (∀ x : World, (x.cell? ⟨w.heap.size, 0, none⟩ = some (.slice aa d.sec.length ca) ∧ x.cell? ⟨w.heap.size, 1, none⟩ = some (.slice ab d.cache.length cb) ∧ x.cell? ⟨w.heap.size + 1, 0, none⟩ = some (.int .i64 c.st) ∧ Below w1.heap.size w1 x) → DOwn B T x (.agg #[.slice aa d.sec.length ca, .slice ab d.cache.length cb]) d) := fun x hx => h'.later hx.2.2.2
  have HB0 : Hid (Box (w1.alloc (.cells #[.slice none 0 0, .slice none 0 0] 25)).drew w1.heap.size #[.slice none 0 0, .slice none 0 0] 25) := Box.new w1 _ _
  have HB1 := Lib.hid b1
  have HX2 : Hid (∀ x, Below w1.heap.size w1 x → Box x (w.heap.size + 2) #[.slice none 0 0, .slice none 0 0] 25) := fun x hx => X2.later hx
  obtain ⟨st, hst⟩ : ∃ st, c.st = st := ⟨_, rfl⟩
  rw [hst] at HK0 HK1 HS hm1 hm2
  clear X0 X1 X2 h' b1 hst
  go_upto_region 4 with fail
  go_cut [8, 9] (fun p f wx => ∃ (g : Nat) (D : Dk) (F : Bool) (e1 e2 : Option Addr) (e3 e4 : Nat), p = .pointer (some ⟨g, 0, none⟩) ∧ f = .bool F ∧ w1.heap.size ≤ g ∧ (F = true → rN < d.sec.length ∧ wbL d rN 0 tx.data.toList = some D) ∧ (F = false → ¬ rN < d.sec.length ∨ wbL d rN 0 tx.data.toList = none) ∧ Box wx g #[.slice e1 D.sec.length e3, .slice e2 D.cache.length e4] 25 ∧ DOwn w1.heap.size wx.heap.size wx (.agg #[.slice e1 D.sec.length e3, .slice e2 D.cache.length e4]) D ∧ Below w1.heap.size w1 wx)
  case first =>
    clear HX2 HB1 HKB HTX HRN2
    go_region_held3 (fun x => x.cell? ⟨w.heap.size, 0, none⟩ = some (.slice aa d.sec.length ca) ∧ x.cell? ⟨w.heap.size, 1, none⟩ = some (.slice ab d.cache.length cb) ∧ x.cell? ⟨w.heap.size + 1, 0, none⟩ = some (.int .i64 st) ∧ Below w1.heap.size w1 x)
      (first | exact HK0.out | exact HK1.out | exact keep3 (by assumption) (belAlloc _ _) | exact keep3 (by assumption) kS | exact keep3 hSS.out (belAlloc _ _) | exact keep3s hl0 hl1 (Nat.le_refl _) (by assumption) | exact keep3s hl0 hl1 tS (by assumption))
      (first
        | (go_at_call 74; refine (HRF.out _).mono ?_; rintro e wR ⟨rfl, rfl⟩)
        | (go_at_call 73; refine (HWB.out _ (HS.out _ (by assumption)) HCZ.out).mono ?_; rintro e wS ⟨D, F, hF1, hF2, vS, rfl, oS, kS⟩; have HF1 := Lib.hid hF1; have HF2 := Lib.hid hF2; clear hF1 hF2; have hSS := Lib.hid (keep3 (by assumption) kS); have tS : w1.heap.size ≤ wS.heap.size := hSS.out.2.2.2.size; obtain ⟨e1, e2, e3, e4, rfl⟩ := oS.form; (first | (have bx : Box wS w1.heap.size #[.slice none 0 0, .slice none 0 0] 25 := HB0.out.later kS; have x0 := bx.cell 0 _ rfl; have x1 := bx.cell 1 _ rfl; have f0 := bx.loose 0; have f1 := bx.loose 1) | skip)))
    all_goals
      go_wp2_with fail
      go_meet
      first
        | exact ⟨_, D, F, e1, e2, e3, e4, rfl, rfl, tS, HF1.out, HF2.out, Box.new wS _ _, ((oS.later (belAlloc _ _)).base hSS.out.2.2.2.size).top, hSS.out.2.2.2.alloc tS _⟩
        | exact ⟨_, D, F, e1, e2, e3, e4, rfl, rfl, tS, HF1.out, HF2.out, Box.new wS _ _, ((oS.later (belAlloc _ _)).base (Nat.le_refl _)).top, hSS.out.2.2.2.alloc tS _⟩
        | exact ⟨_, D, F, e1, e2, e3, e4, rfl, rfl, Nat.le_refl _, HF1.out, HF2.out, (bx.set 0 _).set 1 _, (((oS.base (by simp)).boxStore bx 0 _).boxStore (bx.set 0 _) 1 _).top, (hSS.out.2.2.2.setCell (p := ⟨w1.heap.size, 0, none⟩) (Nat.le_refl _) _).setCell (p := ⟨w1.heap.size, 1, none⟩) (Nat.le_refl _) _⟩
  case rest =>
    obtain ⟨g, D, F, e1, e2, e3, e4, rfl, rfl, hg, hF1, hF2, bxc, oD, kD⟩ := hcut
    have X2 := HX2.out _ kD
    have b2 := HB1.out.trans (kD.mono HB1.out.size)
    clear HX2 HK0 HK1 HS HB0 HWB HRF hm1 hm2
    cases F with
    | false =>
      have HB : Hid (wcO d c = none) := by
        show wcO d c = none
        rcases hF2 rfl with hx | hx
        · exact wcO_far (by rw [HRN2.out]; exact hx)
        · exact wcO_none (by rw [HRN2.out, HTX.out]; exact hx)
      obtain ⟨x0, x1, f0, f1⟩ : _ ∧ _ ∧ _ ∧ _ := ⟨X2.cell 0 _ rfl, X2.cell 1 _ rfl, X2.loose 0, X2.loose 1⟩
      have rX := (X2.set 0 (.slice none 0 0)).set 1 (.slice none 0 0)
      have q0 := rX.cell 0 (.slice none 0 0) rfl
      have q1 := rX.cell 1 (.slice none 0 0) rfl
      have bX := (b2.setCell (p := ⟨w.heap.size + 2, 0, none⟩) (by simp) (.slice none 0 0)).setCell (p := ⟨w.heap.size + 2, 1, none⟩) (by simp) (.slice none 0 0)
      have HBX := Lib.hid bX
      clear rX X2 bX hF1 hF2 bxc oD
      go_wp2
      refine bodyPost_ret (v := .tuple #[.agg #[.slice none 0 0, .slice none 0 0], .iface 90 (.agg #[.int .i64 4])]) (by simp [results, Tryz.results48, go_sem, q0, q1]) rfl ?_
      exact .inr ⟨HB.out, 4, by omega, rfl, by first | exact HBX.out | exact b2⟩
    | true =>
      obtain ⟨hlt, hwb⟩ := hF1 rfl
      have hdok : d.ok := by
        by_cases hc : d.ok
        · exact hc
        · have h1 := wbL_not (k := regN c) (fr := 0) (ckTx_ne c) hc
          rw [HRN2.out, HTX.out, hwb] at h1
          cases h1
      have HDS : Hid (wcO d c = some (flD D)) := wcO_some HKB.out (by rw [HRN2.out]; exact hlt) (by rw [HRN2.out, HTX.out]; exact hwb)
      have hDok := (wbL_ok _ _ (Nat.le_refl _) d D _ _ (by omega) hdok hwb).1
      obtain ⟨hsD, htD, huD⟩ := Dk.ok_small hDok
      have HFL := Lib.hid (implFlushDisk_any D _ _ _ _ oD hsD (by have := hDok.2.2.1; omega) htD huD)
      obtain ⟨z0, z1⟩ : _ ∧ _ := ⟨bxc.cell 0 _ rfl, bxc.cell 1 _ rfl⟩
      clear hF1 hF2 hwb hlt hDok hsD htD huD oD bxc
      go_wp2_with fail
      clear z0 z1
      refine HFL.out.mono ?_
      rintro e wX ⟨vX, rfl, oX, kX⟩
      generalize flD D = E at HDS oX
      obtain ⟨p1, p2, r1, r2, rfl⟩ := oX.form
      have xX := X2.later kX
      have bX := b2.trans (kX.mono b2.size)
      obtain ⟨x0, x1, f0, f1⟩ : _ ∧ _ ∧ _ ∧ _ := ⟨xX.cell 0 _ rfl, xX.cell 1 _ rfl, xX.loose 0, xX.loose 1⟩
      have rX := (xX.set 0 (.slice p1 E.sec.length r1)).set 1 (.slice p2 E.cache.length r2)
      have HR : Hid (DOwn w.heap.size ((wX.setCell ⟨w.heap.size + 2, 0, none⟩ (.slice p1 E.sec.length r1)).setCell ⟨w.heap.size + 2, 1, none⟩ (.slice p2 E.cache.length r2)).heap.size ((wX.setCell ⟨w.heap.size + 2, 0, none⟩ (.slice p1 E.sec.length r1)).setCell ⟨w.heap.size + 2, 1, none⟩ (.slice p2 E.cache.length r2)) (.agg #[.slice p1 E.sec.length r1, .slice p2 E.cache.length r2]) E ∧ Below w.heap.size w ((wX.setCell ⟨w.heap.size + 2, 0, none⟩ (.slice p1 E.sec.length r1)).setCell ⟨w.heap.size + 2, 1, none⟩ (.slice p2 E.cache.length r2))) := by
        refine ⟨?_, (bX.setCell (p := ⟨w.heap.size + 2, 0, none⟩) (by simp) _).setCell (p := ⟨w.heap.size + 2, 1, none⟩) (by simp) _⟩
        have := ((oX.base b2.size).boxStore xX 0 (.slice p1 E.sec.length r1)).boxStore (xX.set 0 (.slice p1 E.sec.length r1)) 1 (.slice p2 E.cache.length r2)
        simpa using this
      have q0 := rX.cell 0 (.slice p1 E.sec.length r1) rfl
      have q1 := rX.cell 1 (.slice p2 E.cache.length r2) rfl
      clear rX oX kX xX X2
      go_wp2
      refine bodyPost_ret (v := .tuple #[.agg #[.slice p1 E.sec.length r1, .slice p2 E.cache.length r2], .nilIface]) (by simp [results, Tryz.results48, go_sem, q0, q1]) rfl ?_
      exact .inl ⟨E, HDS.out, _, rfl, HR.out.1, HR.out.2⟩


end Go.Proofs.YtgcnebepklelpaaGreatDoor

/- CheckOf of the program. -/
namespace Go.Proofs.YtgcnebepklelpaaGreatDoor
open Go.RowKit

set_option maxRecDepth 100000 in
set_option maxHeartbeats 4000000 in
theorem implCheckOf_any (L : Lg) (v : Value) (w : World) (h : LRd w v L) (hl : L.used.length ≤ 1048576) :
    Calls Tryz.prog 47 #[v] w fun e w' => ∃ (a : Option Addr) (cap : Nat), e = .returned (.agg #[.int .i64 (ckOf L).st, .int .i64 (ckOf L).ng, .int .i64 (ckOf L).ns, .int .i64 (ckOf L).nv, .slice a (ckOf L).refs.length cap]) ∧ RBuf rfE w.heap.size w w' (.slice a (ckOf L).refs.length cap) (ckOf L).refs := by
  obtain ⟨va, vb, vu, rfl, _, hu⟩ := h
  obtain ⟨ad, cap, rfl, hrow⟩ := hu.segs
  have HR : Hid _ := hrow
  clear hu hrow
  have HF : Hid (ckOf L = ⟨IntKind.i64.wrap (L.st + 1), L.ng, L.ns, L.nv, (L.used.take L.used.length).map (fun s => (s.no, s.gen))⟩) := by show _ = _; rw [List.take_length]; rfl
  obtain ⟨d, segs, us, ng, ns, st, nv⟩ := L
  generalize ckOf ⟨d, segs, us, ng, ns, st, nv⟩ = C at HF ⊢
  simp only at HR HF hl ⊢
  obtain ⟨n, hn⟩ : ∃ n, us.length = n := ⟨_, rfl⟩
  rw [hn] at hl HF ⊢
  have HN := Lib.hid hn
  clear hn
  obtain ⟨S, hS⟩ : ∃ S, IntKind.i64.wrap (st + 1) = S := ⟨_, rfl⟩
  have hS2 := hS
  rw [hS] at HF
  have X1 := Box.new w #[va, vb, .int .i64 segs, .slice ad n cap, .int .i64 ng, .int .i64 ns, .int .i64 st, .int .i64 nv] 28
  have k1 := belNew w (.cells #[va, vb, .int .i64 segs, .slice ad n cap, .int .i64 ng, .int .i64 ns, .int .i64 st, .int .i64 nv] 28)
  obtain ⟨w1, hw1⟩ : ∃ y, w.alloc (.cells #[va, vb, .int .i64 segs, .slice ad n cap, .int .i64 ng, .int .i64 ns, .int .i64 st, .int .i64 nv] 28) = y := ⟨_, rfl⟩
  have z1 : w1.heap.size = w.heap.size + 1 := by rw [← hw1]; simp
  have X2 := Box.new w1 #[.int .i64 0, .int .i64 0, .int .i64 0, .int .i64 0, .slice none 0 0] 51
  have k2 := belNew w1 (.cells #[.int .i64 0, .int .i64 0, .int .i64 0, .int .i64 0, .slice none 0 0] 51)
  obtain ⟨w2, hw2⟩ : ∃ y, w1.alloc (.cells #[.int .i64 0, .int .i64 0, .int .i64 0, .int .i64 0, .slice none 0 0] 51) = y := ⟨_, rfl⟩
  have z2 : w2.heap.size = w.heap.size + 2 := by rw [← hw2]; simp; omega
  have X3 := Box.new w2 #[.int .i64 S, .int .i64 ng, .int .i64 ns, .int .i64 nv, .slice none 0 0] 51
  have k3 := belNew w2 (.cells #[.int .i64 S, .int .i64 ng, .int .i64 ns, .int .i64 nv, .slice none 0 0] 51)
  obtain ⟨w3, hw3⟩ : ∃ y, w2.alloc (.cells #[.int .i64 S, .int .i64 ng, .int .i64 ns, .int .i64 nv, .slice none 0 0] 51) = y := ⟨_, rfl⟩
  have z3 : w3.heap.size = w.heap.size + 3 := by rw [← hw3]; simp; omega
  rw [hw1] at k1 X1
  rw [hw2] at k2 X2
  rw [hw3] at k3 X3
  rw [z1] at X2
  rw [z2] at X3
  have I0 : CkL w w3.heap.size w.heap.size (w.heap.size + 1) (w.heap.size + 2) 28 51 #[va, vb, .int .i64 segs, .slice ad n cap, .int .i64 ng, .int .i64 ns, .int .i64 st, .int .i64 nv] S ng ns nv w3 none 0 0 [] :=
    ⟨(X1.later k2).later k3, X2.later k3, X3, RBuf.nil rfE w3, (k1.trans (k2.mono k1.size)).trans (k3.mono (k1.trans (k2.mono k1.size)).size), ⟨by omega, by omega⟩, ⟨by omega, by omega, by omega⟩⟩
  have HI0 := Lib.hid I0
  have HB : Hid (w.heap.size ≤ w3.heap.size) := by show _ ≤ _; omega
  obtain ⟨B, hB⟩ : ∃ B, w3.heap.size = B := ⟨_, rfl⟩
  rw [hB] at HI0 HB
  have HW : Hid (((w.alloc (.cells #[va, vb, .int .i64 segs, .slice ad n cap, .int .i64 ng, .int .i64 ns, .int .i64 st, .int .i64 nv] 28)).alloc (.cells #[.int .i64 0, .int .i64 0, .int .i64 0, .int .i64 0, .slice none 0 0] 51)).alloc (.cells #[.int .i64 S, .int .i64 ng, .int .i64 ns, .int .i64 nv, .slice none 0 0] 51) = w3) := by show _ = _; rw [hw1, hw2, hw3]
  clear X1 X2 X3 k1 k2 k3 z1 z2 z3 hw1 hw2 hw3 I0 hB hS
  go_enter Tryz.func47, Tryz.ntmps47
  go_wp2_with fail
  rw [HW.out]
  clear HW hS2
  go_loopw [19] (fun iv wr => ∃ (i : Nat) (a : Option Addr) (c : Nat), i ≤ n ∧ iv = .int .i64 (i : Int) ∧ CkL w B w.heap.size (w.heap.size + 1) (w.heap.size + 2) 28 51 #[va, vb, .int .i64 segs, .slice ad n cap, .int .i64 ng, .int .i64 ns, .int .i64 st, .int .i64 nv] S ng ns nv wr a i c ((us.take i).map (fun s => (s.no, s.gen)))) (fun iv _ => n - (intOf iv).toNat)
  case atStart => exact ⟨0, none, 0, by omega, rfl, HI0.out⟩
  case round =>
    clear HI0
    obtain ⟨i, a, c, hi, rfl, I⟩ := hrel
    by_cases hlt : i < n
    · obtain ⟨s, hgs⟩ : ∃ s, us[i]? = some s := ⟨_, List.getElem?_eq_getElem (by rw [HN.out]; exact hlt)⟩
      obtain ⟨gp, op, am, nm, cm, rfl, p0, p1, p2, p3, _⟩ := HR.out _ I.bel i _ hgs
      have HT : Hid ((us.take (i + 1)).map (fun s => (s.no, s.gen)) = (us.take i).map (fun s => (s.no, s.gen)) ++ [(s.no, s.gen)]) := refs_take hgs
      obtain ⟨rs, hrs⟩ : ∃ rs, (us.take i).map (fun s => (s.no, s.gen)) = rs := ⟨_, rfl⟩
      have hln : rs.length = i := by rw [← hrs, List.length_map, List.length_take, HN.out]; omega
      have HLN := Lib.hid hln
      rw [hrs] at I HT
      clear hrs hgs hln
      obtain ⟨no, gen, ende, its⟩ := s
      simp only at p0 p1 p2 p3 HT
      have hi0 : (0 : Int) ≤ (i : Int) := by omega
      have hi1 : (i : Int) < (n : Int) := by omega
      have XS := Box.new wr #[.int .i64 no, .int .i64 gen, .int .i64 ende, .slice am nm cm] 76
      have kS := belNew wr (.cells #[.int .i64 no, .int .i64 gen, .int .i64 ende, .slice am nm cm] 76)
      have I1 := I.later kS
      clear I kS
      go_upto_region 5 with fail
      clear p0 p1 p2 p3
      generalize wr.alloc (.cells #[.int .i64 no, .int .i64 gen, .int .i64 ende, .slice am nm cm] 76) = wS at XS I1 ⊢
      obtain ⟨gS, hgS⟩ : ∃ gS, wr.heap.size = gS := ⟨_, rfl⟩
      rw [hgS] at XS ⊢
      clear hgS
      have s0 := XS.cell 0 _ rfl
      have s1 := XS.cell 1 _ rfl
      have c4 := I1.chk.cell 4 _ rfl
      have kL := belNew wS (.cells #[.int .i64 no, .int .i64 gen] 80)
      have I2 := Lib.hid (I1.later kL)
      have HL := Lib.hid (RBuf.lit1 rfE wS (no, gen))
      clear XS I1 kL
      go_wp2_with (at_builtin; refine wpList_append_rows rfl _ _ rfE rfl B _ rs rfl I2.out.refs wS.heap.size _ [(no, gen)] rfl HL.out (by show _ * 17 ≤ _; simp only [List.length_cons, List.length_nil]; have := HLN.out; omega) ?_; intro v8 w8 r8 g8 at8; obtain ⟨a8, c8, e8⟩ := r8.form; simp only [List.length_append, List.length_cons, List.length_nil, Nat.zero_add] at e8; rw [HLN.out] at e8; subst e8; obtain ⟨d4, f4⟩ := I2.out.cells g8; have I9 := Lib.hid (I2.out.push a8 _ c8 r8 g8))
      exact ⟨⟨i + 1, a8, c8, by omega, by simp, by rw [HT.out]; exact I9.out⟩, by first | omega | (simp [intOf]; omega)⟩
    · have hin : i = n := by omega
      have HE : Hid ((us.take n).map (fun s => (s.no, s.gen)) = (us.take i).map (fun s => (s.no, s.gen))) := by show _ = _; rw [hin]
      have HLN : Hid (((us.take i).map (fun s => (s.no, s.gen))).length = i) := by show _ = _; rw [List.length_map, List.length_take, HN.out]; omega
      obtain ⟨rs, hrs⟩ : ∃ rs, (us.take i).map (fun s => (s.no, s.gen)) = rs := ⟨_, rfl⟩
      rw [hrs] at I HE HLN
      clear hrs hin
      rw [HE.out] at HF
      obtain ⟨x0, x1, x2, x3, x4, _⟩ := I.chk.fiveC
      obtain ⟨y0, y1, y2, y3, y4, f0, f1, f2, f3, f4⟩ := I.res.fiveC
      have R5 := I.res.set5C (.int .i64 S) (.int .i64 ng) (.int .i64 ns) (.int .i64 nv) (.slice a i c)
      obtain ⟨u0, u1, u2, u3, u4, _⟩ := R5.fiveC
      have HD := Lib.hid (I.refs.set5C (g := w.heap.size + 1) I.bel HB.out (by have := I.lt; omega) (by omega) (.int .i64 S) (.int .i64 ng) (.int .i64 ns) (.int .i64 nv) (.slice a i c))
      have hge : ¬ (i : Int) < (n : Int) := by omega
      clear I R5 HE
      go_wp2
      refine bodyPost_ret (v := .agg #[.int .i64 S, .int .i64 ng, .int .i64 ns, .int .i64 nv, .slice a i c]) (by simp [results, Tryz.results47, go_sem, u0, u1, u2, u3, u4]) rfl ?_
      refine ⟨a, c, by rw [HF.out]; simp only; rw [HLN.out], ?_⟩
      rw [HF.out]
      simp only
      rw [HLN.out]
      exact HD.out

end Go.Proofs.YtgcnebepklelpaaGreatDoor

/- The log with a check of it on its disk: fixedLog of the program. -/
namespace Go.Proofs.YtgcnebepklelpaaGreatDoor
open Go.RowKit

def FlR (L : Lg) (au : Option Addr) (cu : Nat) (w : World) (e : Ending) (w' : World) : Prop :=
  Below w.heap.size w w' ∧ ((wcO L.d (ckOf L) = none ∧ ∃ k : Int, k ≠ 0 ∧ e = .returned (.tuple #[.agg #[.slice none 0 0, .slice none 0 0, .int .i64 0, .slice none 0 0, .int .i64 0, .int .i64 0, .int .i64 0, .int .i64 0], .iface 90 (.agg #[.int .i64 k])])) ∨
   ∃ (D : Dk) (p1 p2 : Option Addr) (r1 r2 : Nat), wcO L.d (ckOf L) = some D ∧ e = .returned (.tuple #[.agg #[.slice p1 D.sec.length r1, .slice p2 D.cache.length r2, .int .i64 L.segs, .slice au L.used.length cu, .int .i64 L.ng, .int .i64 L.ns, .int .i64 (ckOf L).st, .int .i64 L.nv], .nilIface]) ∧ DOwn w.heap.size w'.heap.size w' (.agg #[.slice p1 D.sec.length r1, .slice p2 D.cache.length r2]) D)

set_option maxRecDepth 100000 in
set_option maxHeartbeats 8000000 in
theorem fixedLog_any (L : Lg) (aa ab au : Option Addr) (ca cb cu B T : Nat) (hs : List SgH) (w : World) (hp : LgP B T w (.slice aa L.d.sec.length ca) (.slice ab L.d.cache.length cb) (.slice au L.used.length cu) L hs) (hok : L.d.ok) (hl : L.used.length ≤ 1048576) (ht : SumTab w) :
    Calls Tryz.prog 25 #[.agg #[.slice aa L.d.sec.length ca, .slice ab L.d.cache.length cb, .int .i64 L.segs, .slice au L.used.length cu, .int .i64 L.ng, .int .i64 L.ns, .int .i64 L.st, .int .i64 L.nv]] w fun e w' => FlR L au cu w e w' := by
  obtain ⟨hsm, hts, htu⟩ := Dk.ok_small hok
  obtain ⟨X0, X1, b0, hsz⟩ := two_boxes w #[.slice aa L.d.sec.length ca, .slice ab L.d.cache.length cb, .int .i64 L.segs, .slice au L.used.length cu, .int .i64 L.ng, .int .i64 L.ns, .int .i64 L.st, .int .i64 L.nv] #[.slice none 0 0, .slice none 0 0, .int .i64 0, .slice none 0 0, .int .i64 0, .int .i64 0, .int .i64 0, .int .i64 0] 28 28
  have HP := Lib.hid hp
  have HT : Hid (∀ x, Below w.heap.size w x → SumTab x) := fun x hx => ht.later hx
  have HCO := Lib.hid (fun x (hx : Below w.heap.size w x) => implCheckOf_any L (.agg #[.slice aa L.d.sec.length ca, .slice ab L.d.cache.length cb, .int .i64 L.segs, .slice au L.used.length cu, .int .i64 L.ng, .int .i64 L.ns, .int .i64 L.st, .int .i64 L.nv]) x ⟨_, _, _, rfl, (HP.out.later hx).down.rd, (HP.out.later hx).use.own.rd⟩ hl)
  have HRL : Hid ((ckOf L).refs.length ≤ 1048576) := by show (L.used.map _).length ≤ _; rw [List.length_map]; exact hl
  have HWC := Lib.hid (fun x (hx : Below w.heap.size w x) ac cc hr => withCheck_any L.d (ckOf L) (.agg #[.slice aa L.d.sec.length ca, .slice ab L.d.cache.length cb]) ac cc B T x (HP.out.later hx).down hsm hts htu (by have := hok.2.2.1; omega) hr HRL.out (HT.out x hx))
  have HEND : Hid (∀ e w', Below w.heap.size w w' → ((wcO L.d (ckOf L) = none ∧ ∃ k : Int, k ≠ 0 ∧ e = .returned (.tuple #[.agg #[.slice none 0 0, .slice none 0 0, .int .i64 0, .slice none 0 0, .int .i64 0, .int .i64 0, .int .i64 0, .int .i64 0], .iface 90 (.agg #[.int .i64 k])])) ∨
   ∃ (D : Dk) (p1 p2 : Option Addr) (r1 r2 : Nat), wcO L.d (ckOf L) = some D ∧ e = .returned (.tuple #[.agg #[.slice p1 D.sec.length r1, .slice p2 D.cache.length r2, .int .i64 L.segs, .slice au L.used.length cu, .int .i64 L.ng, .int .i64 L.ns, .int .i64 (ckOf L).st, .int .i64 L.nv], .nilIface]) ∧ DOwn w.heap.size w'.heap.size w' (.agg #[.slice p1 D.sec.length r1, .slice p2 D.cache.length r2]) D) → FlR L au cu w e w') := fun e w' h1 h2 => ⟨h1, h2⟩
  clear hp ht hsm hts htu hl hok
  obtain ⟨x0, x1, x2, x3, x4, x5, x6, x7⟩ := X0.eightO
  go_enter Tryz.func25, Tryz.ntmps25
  go_wp2_with fail
  clear x0 x1 x2 x3 x4 x5 x6 x7
  generalize (w.alloc (.cells #[.slice aa L.d.sec.length ca, .slice ab L.d.cache.length cb, .int .i64 L.segs, .slice au L.used.length cu, .int .i64 L.ng, .int .i64 L.ns, .int .i64 L.st, .int .i64 L.nv] 28)).alloc (.cells #[.slice none 0 0, .slice none 0 0, .int .i64 0, .slice none 0 0, .int .i64 0, .int .i64 0, .int .i64 0, .int .i64 0] 28) = W at X0 X1 b0 hsz ⊢
  refine (HCO.out _ b0).mono ?_
  rintro e w1 ⟨ac, cc, rfl, rc⟩
  have k1 := rc.bel
  have k2 := belNew w1 (.cells #[.int .i64 (ckOf L).st, .int .i64 (ckOf L).ng, .int .i64 (ckOf L).ns, .int .i64 (ckOf L).nv, .slice ac (ckOf L).refs.length cc] 51)
  have BC := Box.new w1 #[.int .i64 (ckOf L).st, .int .i64 (ckOf L).ng, .int .i64 (ckOf L).ns, .int .i64 (ckOf L).nv, .slice ac (ckOf L).refs.length cc] 51
  have j2 := k1.trans (k2.mono k1.size)
  have b2 := b0.trans (j2.mono b0.size)
  have rr := rc.rows.later k2
  replace X0 := X0.later j2
  replace X1 := X1.later j2
  have hgc : Hid (w.heap.size + 2 ≤ w1.heap.size) := by show _ ≤ _; have := k1.size; omega
  obtain ⟨x0, x1⟩ : _ ∧ _ := ⟨X0.cell 0 _ rfl, X0.cell 1 _ rfl⟩
  obtain ⟨y0, y1, y2, y3, y4⟩ := BC.fiveW
  clear rc k1 k2 j2 HCO b0 hsz
  go_upto_region 2 with fail
  generalize w1.alloc (.cells #[.int .i64 (ckOf L).st, .int .i64 (ckOf L).ng, .int .i64 (ckOf L).ns, .int .i64 (ckOf L).nv, .slice ac (ckOf L).refs.length cc] 51) = w2 at BC b2 rr X0 X1 x0 x1 y0 y1 y2 y3 y4 ⊢
  generalize w1.heap.size = gc at BC hgc y0 y1 y2 y3 y4 ⊢
  have hgc2 : Hid (gc < w2.heap.size) := BC.lt
  go_wp2_with fail
  clear x0 x1 y0 y1 y2 y3 y4
  refine (HWC.out _ b2 ac cc rr).mono ?_
  clear HWC rr
  rintro e w3 (⟨E, hE, v3, rfl, o3, k3⟩ | ⟨hN, k, hk, rfl, k3⟩)
  case inr =>
    have k4 := belNew w3 (.cells #[.slice none 0 0, .slice none 0 0] 25)
    have j4 := k3.trans (k4.mono k3.size)
    have b4 := b2.trans (j4.mono b2.size)
    replace X1 := X1.later j4
    have HN := Lib.hid hN
    clear X0 BC k3 k4 j4 b2 hN
    go_upto_region 3 with fail
    generalize w3.alloc (.cells #[.slice none 0 0, .slice none 0 0] 25) = w4 at X1 b4 ⊢
    obtain ⟨r0, r1, r2, r3, r4, r5, r6, r7, f0, f1, f2, f3, f4, f5, f6, f7⟩ := X1.eightL
    have RX := X1.set8L (.slice none 0 0) (.slice none 0 0) (.int .i64 0) (.slice none 0 0) (.int .i64 0) (.int .i64 0) (.int .i64 0) (.int .i64 0)
    have BXX := below_set8L b4 (show w.heap.size ≤ w.heap.size + 1 by omega) (.slice none 0 0) (.slice none 0 0) (.int .i64 0) (.slice none 0 0) (.int .i64 0) (.int .i64 0) (.int .i64 0) (.int .i64 0)
    obtain ⟨u0, u1, u2, u3, u4, u5, u6, u7⟩ := RX.eightO
    have HFIN := Lib.hid (HEND.out (.returned (.tuple #[.agg #[.slice none 0 0, .slice none 0 0, .int .i64 0, .slice none 0 0, .int .i64 0, .int .i64 0, .int .i64 0, .int .i64 0], .iface 90 (.agg #[.int .i64 k])])) _ BXX (.inl ⟨HN.out, k, hk, rfl⟩))
    unfold set8L at u0 u1 u2 u3 u4 u5 u6 u7 HFIN
    clear RX BXX X1 b4
    go_wp2
    refine bodyPost_ret (v := .tuple #[.agg #[.slice none 0 0, .slice none 0 0, .int .i64 0, .slice none 0 0, .int .i64 0, .int .i64 0, .int .i64 0, .int .i64 0], .iface 90 (.agg #[.int .i64 k])]) (by simp [results, Tryz.results25, go_sem, u0, u1, u2, u3, u4, u5, u6, u7]) rfl ?_
    exact HFIN.out
  obtain ⟨p1, p2, r1, r2, rfl⟩ := o3.form
  have k4 := belNew w3 (.cells #[.slice p1 E.sec.length r1, .slice p2 E.cache.length r2] 25)
  have BD := Box.new w3 #[.slice p1 E.sec.length r1, .slice p2 E.cache.length r2] 25
  have j4 := k3.trans (k4.mono k3.size)
  have b4 := b2.trans (j4.mono b2.size)
  have o4 := o3.later k4
  replace X0 := X0.later j4
  replace X1 := X1.later j4
  replace BC := BC.later j4
  have hgd : Hid (w.heap.size + 2 ≤ w2.heap.size ∧ w2.heap.size ≤ w3.heap.size) := ⟨by have := hgc2.out; have := hgc.out; omega, k3.size⟩
  have HEN := Lib.hid hE
  clear k3 k4 j4 b2 o3 hE
  obtain ⟨d0, d1⟩ : _ ∧ _ := ⟨BD.cell 0 _ rfl, BD.cell 1 _ rfl⟩
  have y0 := BC.cell 0 _ rfl
  obtain ⟨x0, x1, x2, x3, x4, x5, x6, x7, f0, f1, f2, f3, f4, f5, f6, f7⟩ := X0.eightL
  go_upto_region 5 with fail
  generalize w3.alloc (.cells #[.slice p1 E.sec.length r1, .slice p2 E.cache.length r2] 25) = w4 at BD b4 o4 X0 X1 BC d0 d1 y0 x0 x1 x2 x3 x4 x5 x6 x7 f0 f1 f2 f3 f4 f5 f6 f7 ⊢
  generalize hgdd : w3.heap.size = gd at BD hgd o4 d0 d1 ⊢
  clear hgdd
  have n1 : ¬ gd = w.heap.size := by have := hgd.out; omega
  have n2 : ¬ gc = w.heap.size := by have := hgc.out; omega
  have n3 : ¬ w.heap.size = gd := by have := hgd.out; omega
  have n4 : ¬ w.heap.size = gc := by have := hgc.out; omega
  have X5 : Box (((w4.setCell ⟨w.heap.size, 0, none⟩ (.slice p1 E.sec.length r1)).setCell ⟨w.heap.size, 1, none⟩ (.slice p2 E.cache.length r2)).setCell ⟨w.heap.size, 6, none⟩ (.int .i64 (ckOf L).st)) w.heap.size #[.slice p1 E.sec.length r1, .slice p2 E.cache.length r2, .int .i64 L.segs, .slice au L.used.length cu, .int .i64 L.ng, .int .i64 L.ns, .int .i64 (ckOf L).st, .int .i64 L.nv] 28 := ((X0.set 0 _).set 1 _).set 6 _
  have X15 : Box (((w4.setCell ⟨w.heap.size, 0, none⟩ (.slice p1 E.sec.length r1)).setCell ⟨w.heap.size, 1, none⟩ (.slice p2 E.cache.length r2)).setCell ⟨w.heap.size, 6, none⟩ (.int .i64 (ckOf L).st)) (w.heap.size + 1) #[.slice none 0 0, .slice none 0 0, .int .i64 0, .slice none 0 0, .int .i64 0, .int .i64 0, .int .i64 0, .int .i64 0] 28 := ((X1.other (by omega) _ _).other (by omega) _ _).other (by omega) _ _
  have b5 : Below w.heap.size w (((w4.setCell ⟨w.heap.size, 0, none⟩ (.slice p1 E.sec.length r1)).setCell ⟨w.heap.size, 1, none⟩ (.slice p2 E.cache.length r2)).setCell ⟨w.heap.size, 6, none⟩ (.int .i64 (ckOf L).st)) := ((b4.setCell (p := ⟨w.heap.size, 0, none⟩) (Nat.le_refl _) _).setCell (p := ⟨w.heap.size, 1, none⟩) (Nat.le_refl _) _).setCell (p := ⟨w.heap.size, 6, none⟩) (Nat.le_refl _) _
  have o5 : DOwn w2.heap.size gd (((w4.setCell ⟨w.heap.size, 0, none⟩ (.slice p1 E.sec.length r1)).setCell ⟨w.heap.size, 1, none⟩ (.slice p2 E.cache.length r2)).setCell ⟨w.heap.size, 6, none⟩ (.int .i64 (ckOf L).st)) (.agg #[.slice p1 E.sec.length r1, .slice p2 E.cache.length r2]) E := by
    have g9 : w4.grownBy (((w4.setCell ⟨w.heap.size, 0, none⟩ (.slice p1 E.sec.length r1)).setCell ⟨w.heap.size, 1, none⟩ (.slice p2 E.cache.length r2)).setCell ⟨w.heap.size, 6, none⟩ (.int .i64 (ckOf L).st)) (some w.heap.size) := grownBy_storeO (grownBy_storeO (stored_grown w4 w.heap.size 0 _) 1 _) 6 _
    exact o4.stayO g9.size (fun q h1 h2 => g9.block q (by have := BD.lt; omega) (fun e => by have := Option.some.inj e; have := hgd.out; omega))
  have HGD : Hid (gd < w4.heap.size) := BD.lt
  generalize hcs : (ckOf L).st = cs at y0 X5 X15 b5 o5 HEND BC
  clear X0 X1 BD BC o4
  go_region
  clear d0 d1 y0 x0 x1 x2 x3 x4 x5 x6 x7 f0 f1 f2 f3 f4 f5 f6 f7 b4 n1 n2 n3 n4
  replace X5 : Box (((w4.setCell ⟨w.heap.size, 0, none⟩ (.slice p1 E.sec.length r1)).setCell ⟨w.heap.size, 1, none⟩ (.slice p2 E.cache.length r2)).setCell ⟨w.heap.size, 6, none⟩ (.int .i64 cs)).drew _ _ _ := X5
  replace X15 : Box (((w4.setCell ⟨w.heap.size, 0, none⟩ (.slice p1 E.sec.length r1)).setCell ⟨w.heap.size, 1, none⟩ (.slice p2 E.cache.length r2)).setCell ⟨w.heap.size, 6, none⟩ (.int .i64 cs)).drew _ _ _ := X15
  replace b5 := b5.drew
  replace o5 := o5.later (belDrewF _)
  generalize (((w4.setCell ⟨w.heap.size, 0, none⟩ (.slice p1 E.sec.length r1)).setCell ⟨w.heap.size, 1, none⟩ (.slice p2 E.cache.length r2)).setCell ⟨w.heap.size, 6, none⟩ (.int .i64 cs)).drew = w6 at X5 X15 b5 o5 ⊢
  obtain ⟨s0, s1, s2, s3, s4, s5, s6, s7⟩ := X5.eightO
  obtain ⟨r0, r1', r2', r3, r4, r5, r6, r7, f0, f1, f2, f3, f4, f5, f6, f7⟩ := X15.eightL
  have RX := X15.set8L (.slice p1 E.sec.length r1) (.slice p2 E.cache.length r2) (.int .i64 L.segs) (.slice au L.used.length cu) (.int .i64 L.ng) (.int .i64 L.ns) (.int .i64 cs) (.int .i64 L.nv)
  have BXX := below_set8L b5 (show w.heap.size ≤ w.heap.size + 1 by omega) (.slice p1 E.sec.length r1) (.slice p2 E.cache.length r2) (.int .i64 L.segs) (.slice au L.used.length cu) (.int .i64 L.ng) (.int .i64 L.ns) (.int .i64 cs) (.int .i64 L.nv)
  obtain ⟨u0, u1, u2, u3, u4, u5, u6, u7⟩ := RX.eightO
  have HFIN : Hid (FlR L au cu w (.returned (.tuple #[.agg #[.slice p1 E.sec.length r1, .slice p2 E.cache.length r2, .int .i64 L.segs, .slice au L.used.length cu, .int .i64 L.ng, .int .i64 L.ns, .int .i64 cs, .int .i64 L.nv], .nilIface])) (set8L w6 (w.heap.size + 1) (.slice p1 E.sec.length r1) (.slice p2 E.cache.length r2) (.int .i64 L.segs) (.slice au L.used.length cu) (.int .i64 L.ng) (.int .i64 L.ns) (.int .i64 cs) (.int .i64 L.nv))) := by
    refine HEND.out _ _ BXX (.inr ⟨E, p1, p2, r1, r2, HEN.out, rfl, ?_⟩)
    have g9 := grown_set8L w6 (w.heap.size + 1) (.slice p1 E.sec.length r1) (.slice p2 E.cache.length r2) (.int .i64 L.segs) (.slice au L.used.length cu) (.int .i64 L.ng) (.int .i64 L.ns) (.int .i64 cs) (.int .i64 L.nv)
    have o6 := o5.stayO g9.size (fun q h1 h2 => g9.block q (by have := o5; have := X15.lt; exact Nat.lt_of_lt_of_le h2 (by obtain ⟨_, _, _, l1, _, _⟩ := o5; exact l1.2.1)) (fun e => by have := Option.some.inj e; have := hgd.out; omega))
    obtain ⟨qa, qb, qe, l1, l2, l3⟩ := o6
    exact ⟨qa, qb, qe, (l1.deeper (by have := hgd.out; omega)).wider l1.2.1 (Nat.le_refl _), (l2.deeper (by have := hgd.out; omega)).wider l2.2.1 (Nat.le_refl _), l3⟩
  unfold set8L at u0 u1 u2 u3 u4 u5 u6 u7 HFIN
  clear RX BXX X5 X15 b5 o5
  go_wp2
  refine bodyPost_ret (v := .tuple #[.agg #[.slice p1 E.sec.length r1, .slice p2 E.cache.length r2, .int .i64 L.segs, .slice au L.used.length cu, .int .i64 L.ng, .int .i64 L.ns, .int .i64 cs, .int .i64 L.nv], .nilIface]) (by simp [results, Tryz.results25, go_sem, u0, u1, u2, u3, u4, u5, u6, u7]) rfl ?_
  exact HFIN.out

end Go.Proofs.YtgcnebepklelpaaGreatDoor
