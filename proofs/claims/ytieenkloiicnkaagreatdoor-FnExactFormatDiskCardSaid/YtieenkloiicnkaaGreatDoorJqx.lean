/- Texts of our own, joined. -/
import Derived.Test.YtieenkloiicnkaaGreatDoorJt
import Derived.Test.YtieenkloiicnkaaGreatDoorJpx
/- WriteCheck of the program. -/
namespace Go.Proofs.YtieenkloiicnkaaGreatDoor
open Go.RowKit

set_option maxRecDepth 100000 in
set_option maxHeartbeats 2000000 in
theorem implWriteBytes_far (d : Dk) (v : Value) (se : Nat) (t : ByteArray) (B T : Nat) (w : World) (h : DOwn B T w v d) (hsm : d.small) (hts : ∀ s ∈ d.sec, s.size ≤ 1099511627776) (htu : ∀ x ∈ d.cache, x.text.size ≤ 1099511627776) (hse : ¬ se < d.sec.length) :
    Calls Tryz.prog 89 #[v, .int .i64 (se : Int), .int .i64 0, .string t] w fun e w' => DiskR d false w e w' := by
  obtain ⟨aa, ab, ca, cb, rfl⟩ := h.form
  obtain ⟨hx0, hx1, b0, hsz⟩ := two_boxes w #[.slice aa d.sec.length ca, .slice ab d.cache.length cb] #[.slice none 0 0, .slice none 0 0] 33 33
  have h' := h.later b0
  have g3 : ¬ (se : Int) < 0 := by omega
  have g4 : ¬ (se : Int) < (d.sec.length : Int) := by omega
  have g5 : (d.sec.length : Int) ≤ (se : Int) := by omega
  have m0 := hx0.cell 0 (.slice aa d.sec.length ca) rfl
  have m1 := hx0.cell 1 (.slice ab d.cache.length cb) rfl
  clear hse
  go_enter Tryz.func89, Tryz.ntmps89
  go_wp2_with fail
  generalize ((w.alloc (.cells #[.slice aa d.sec.length ca, .slice ab d.cache.length cb] 33)).alloc (.cells #[.slice none 0 0, .slice none 0 0] 33)) = W at hx0 hx1 b0 hsz h' m0 m1 ⊢
  refine (copyDisk_any d _ B T _ h' hsm hts htu).mono ?_
  rintro e wX ⟨vX, rfl, oX, kX⟩
  obtain ⟨p1, p2, r1, r2, rfl⟩ := oX.form
  have xX := hx1.later kX
  have bX := b0.trans (kX.mono b0.size)
  have x0 := xX.cell 0 (.slice none 0 0) rfl
  have x1 := xX.cell 1 (.slice none 0 0) rfl
  have f0 := xX.loose 0
  have f1 := xX.loose 1
  have rX := (xX.set 0 (.slice p1 d.sec.length r1)).set 1 (.slice p2 d.cache.length r2)
  have HR : Hid (DiskR d false w (.returned (.tuple #[.agg #[.slice p1 d.sec.length r1, .slice p2 d.cache.length r2], .bool false])) ((wX.setCell ⟨w.heap.size + 1, 0, none⟩ (.slice p1 d.sec.length r1)).setCell ⟨w.heap.size + 1, 1, none⟩ (.slice p2 d.cache.length r2))) := by
    refine ⟨_, rfl, ?_, (bX.setCell (p := ⟨w.heap.size + 1, 0, none⟩) (by simp) _).setCell (p := ⟨w.heap.size + 1, 1, none⟩) (by simp) _⟩
    have := ((oX.base b0.size).boxStore xX 0 (.slice p1 d.sec.length r1)).boxStore (xX.set 0 (.slice p1 d.sec.length r1)) 1 (.slice p2 d.cache.length r2)
    simpa using this
  have q0 := rX.cell 0 (.slice p1 d.sec.length r1) rfl
  have q1 := rX.cell 1 (.slice p2 d.cache.length r2) rfl
  clear rX oX kX m0 m1 xX h' hx0 hx1
  go_wp2
  refine bodyPost_ret (v := .tuple #[.agg #[.slice p1 d.sec.length r1, .slice p2 d.cache.length r2], .bool false]) (by simp [results, Tryz.results89, go_sem, q0, q1]) rfl ?_
  exact HR.out

set_option maxRecDepth 100000 in
theorem regionFirst_any (n : Nat) (w : World) (hn : n ≤ 1) : Calls Tryz.prog 90 #[.int .i64 (n : Int)] w fun e w' => e = .returned (.int .i64 ((4 * n : Nat) : Int)) ∧ w = w' := by
  have h1 : IntKind.i64.wrap (4 * (n : Int)) = ((4 * n : Nat) : Int) := by rw [IntWalk.i64_in _ ⟨by omega, by omega⟩]; omega
  go_enter Tryz.func90, Tryz.ntmps90
  go_wp2
  go_ret
  first | exact ⟨rfl, rfl⟩ | exact ⟨by go_num, rfl⟩ | exact ⟨by simp, rfl⟩

theorem implWriteBytes_at (d : Dk) (v : Value) (c : Ck) (hc : (ckTx c).size ≤ 1000000) (B T : Nat) (w : World) (h : DOwn B T w v d) (hsm : d.small) (hts : ∀ s ∈ d.sec, s.size ≤ 1099511627776) (htu : ∀ x ∈ d.cache, x.text.size ≤ 1099511627776) (hcl : d.cache.length < 1073741824) :
    Calls Tryz.prog 89 #[v, .int .i64 (regN c : Int), .int .i64 0, .string (ckTx c)] w fun e w' => ∃ (d' : Dk) (f : Bool), (f = true → regN c < d.sec.length ∧ wbL d (regN c) 0 (ckTx c).data.toList = some d') ∧ (f = false → ¬ regN c < d.sec.length ∨ wbL d (regN c) 0 (ckTx c).data.toList = none) ∧ DiskR d' f w e w' := by
  by_cases hse : regN c < d.sec.length
  · refine (implWriteBytes_in d v (regN c) 0 (ckTx c) B T w h hsm hts htu hcl hse (by omega) (by omega)).mono ?_
    intro e w' hr
    simp only [Nat.zero_div, Nat.add_zero, Nat.zero_mod] at hr
    cases hw : wbL d (regN c) 0 (ckTx c).data.toList with
    | none => rw [hw] at hr; exact ⟨d, false, (fun e => by cases e), fun _ => .inr rfl, hr⟩
    | some d' => rw [hw] at hr; exact ⟨d', true, fun _ => ⟨hse, rfl⟩, (fun e => by cases e), hr⟩
  · exact (implWriteBytes_far d v (regN c) (ckTx c) B T w h hsm hts htu hse).mono fun e w' hr => ⟨d, false, (fun e => by cases e), fun _ => .inl hse, hr⟩

set_option maxRecDepth 100000 in
set_option maxHeartbeats 8000000 in
theorem withCheck_any (d : Dk) (c : Ck) (v : Value) (a : Option Addr) (cap B T : Nat) (w : World) (h : DOwn B T w v d) (hsm : d.small) (hts : ∀ s ∈ d.sec, s.size ≤ 1099511627776) (htu : ∀ x ∈ d.cache, x.text.size ≤ 1099511627776) (hcl : d.cache.length < 1073741824) (hr : Rows' rfE w (.slice a c.refs.length cap) c.refs) (hl : c.refs.length ≤ 1048576) (ht : SumTab w) :
    Calls Tryz.prog 49 #[v, .agg #[.int .i64 c.st, .int .i64 c.ng, .int .i64 c.ns, .int .i64 c.nv, .slice a c.refs.length cap]] w fun e w' => WcR d c 134 w e w' := by
  obtain ⟨aa, ab, ca, cb, rfl⟩ := h.form
  obtain ⟨X0, X1, X2, b0, hsz⟩ := three_boxes w #[.slice aa d.sec.length ca, .slice ab d.cache.length cb] #[.int .i64 c.st, .int .i64 c.ng, .int .i64 c.ns, .int .i64 c.nv, .slice a c.refs.length cap] #[.slice none 0 0, .slice none 0 0] 33 48 33
  have h' := h.later b0
  have HTX := Lib.hid (textOfCheck_any c a cap _ (ht.later b0) (hr.later b0) hl)
  have HWB := Lib.hid (fun (x : World) (hx : DOwn B T x (.agg #[.slice aa d.sec.length ca, .slice ab d.cache.length cb]) d) (hc : (ckTx c).size ≤ 1000000) => implWriteBytes_at d _ c hc B T x hx hsm hts htu hcl)
  have HRN : Hid (c.ok → (IntKind.i64.wrap (Int.tmod c.st 2) = ((c.st % 2).toNat : Int) ∧ Int.tmod c.st 2 = ((c.st % 2).toNat : Int)) ∧ (c.st % 2).toNat ≤ 1 ∧ regN c = 4 * (c.st % 2).toNat ∧ (ckTx c).size ≤ 1000000) := fun hok => by
    have hst : 1 ≤ c.st := hok.1.1.1
    have e1 : Int.tmod c.st 2 = c.st % 2 := Int.tmod_eq_emod_of_nonneg (by omega)
    have := (ckSe_len hok).2.2
    refine ⟨⟨?_, by rw [e1]; omega⟩, by omega, rfl, by omega⟩
    rw [e1, IntWalk.i64_in _ ⟨by omega, by omega⟩]; omega
  have HOKB : Hid (c.ok → ckB c = true) := ckB_yes
  have HNOB : Hid (¬ c.ok → ckB c = false) := fun hn => by
    cases e : ckB c with
    | false => rfl
    | true => exact absurd (ckB_iff.1 e) hn
  clear h hr ht hl
  obtain ⟨n, hn⟩ : ∃ n, c.refs.length = n := ⟨_, rfl⟩
  rw [hn] at X1 HTX X0 X2 b0 hsz h' ⊢
  clear hn
  obtain ⟨y0, y1, y2, y3, y4⟩ := X1.fiveW
  go_enter Tryz.func49, Tryz.ntmps49
  go_wp2_with fail
  clear y0 y1 y2 y3 y4
  generalize (((w.alloc (.cells #[.slice aa d.sec.length ca, .slice ab d.cache.length cb] 33)).alloc (.cells #[.int .i64 c.st, .int .i64 c.ng, .int .i64 c.ns, .int .i64 c.nv, .slice a n cap] 48)).alloc (.cells #[.slice none 0 0, .slice none 0 0] 33)) = W at X0 X1 X2 b0 hsz h' HTX ⊢
  refine HTX.out.mono ?_
  rintro e w1 ⟨hT, k1⟩
  clear HTX
  replace X0 := X0.later k1
  replace X1 := X1.later k1
  replace X2 := X2.later k1
  replace h' := h'.later k1
  have b1 := b0.trans (k1.mono b0.size)
  have hsz1 : Hid (w.heap.size + 3 ≤ w1.heap.size) := by show _ ≤ _; have := k1.size; omega
  clear b0 hsz k1
  rcases hT with ⟨hok, rfl⟩ | ⟨hno, k, hk, rfl⟩
  case inr =>
    have HB := Lib.hid (wcO_bad (d := d) (HNOB.out hno))
    clear h' X0 X1 HWB HRN HOKB HNOB hno
    obtain ⟨x0, x1, f0, f1⟩ : _ ∧ _ ∧ _ ∧ _ := ⟨X2.cell 0 _ rfl, X2.cell 1 _ rfl, X2.loose 0, X2.loose 1⟩
    have rX := (X2.set 0 (.slice none 0 0)).set 1 (.slice none 0 0)
    have q0 := rX.cell 0 (.slice none 0 0) rfl
    have q1 := rX.cell 1 (.slice none 0 0) rfl
    have bX := (b1.setCell (p := ⟨w.heap.size + 2, 0, none⟩) (by simp) (.slice none 0 0)).setCell (p := ⟨w.heap.size + 2, 1, none⟩) (by simp) (.slice none 0 0)
    have HBX := Lib.hid bX
    clear rX X2 bX
    go_wp2
    refine bodyPost_ret (v := .tuple #[.agg #[.slice none 0 0, .slice none 0 0], .iface 134 (.agg #[.int .i64 k])]) (by simp [results, Tryz.results49, go_sem, q0, q1]) rfl ?_
    exact .inr ⟨HB.out, k, by omega, rfl, by first | exact HBX.out | exact b1⟩
  obtain ⟨⟨hm1, hm2⟩, hr1, hr2, hcz⟩ := HRN.out hok
  have HKB := Lib.hid (HOKB.out hok)
  have HCZ := Lib.hid hcz
  obtain ⟨tx, htx⟩ : ∃ tx, ckTx c = tx := ⟨_, rfl⟩
  have HTX := Lib.hid htx
  obtain ⟨rg, hrg⟩ : ∃ rg, (c.st % 2).toNat = rg := ⟨_, rfl⟩
  rw [hrg] at hm1 hm2 hr1 hr2
  obtain ⟨rN, hrN⟩ : ∃ rN, regN c = rN := ⟨_, rfl⟩
  have HRN2 := Lib.hid hrN
  rw [htx] at HCZ
  rw [htx, hrN] at HWB
  rw [htx]
  have HRF : Hid (∀ x, Calls Tryz.prog 90 #[.int .i64 (rg : Int)] x fun e w' => e = .returned (.int .i64 (rN : Int)) ∧ x = w') := fun x => by rw [← hrN, hr2]; exact regionFirst_any rg x hr1
  clear htx hrg hrN hr1 hr2 HRN HOKB HNOB hcz
  have HK0 : Hid (w1.drew.cell? ⟨w.heap.size, 0, none⟩ = some (.slice aa d.sec.length ca) ∧ w1.drew.cell? ⟨w.heap.size, 1, none⟩ = some (.slice ab d.cache.length cb) ∧ w1.drew.cell? ⟨w.heap.size + 1, 0, none⟩ = some (.int .i64 c.st) ∧ Below w1.heap.size w1 w1.drew) := ⟨X0.cell 0 _ rfl, X0.cell 1 _ rfl, X1.cell 0 _ rfl, (Below.refl _ _).drew⟩
  have HK1 : Hid ((w1.alloc (.cells #[.slice none 0 0, .slice none 0 0] 33)).drew.cell? ⟨w.heap.size, 0, none⟩ = some (.slice aa d.sec.length ca) ∧ (w1.alloc (.cells #[.slice none 0 0, .slice none 0 0] 33)).drew.cell? ⟨w.heap.size, 1, none⟩ = some (.slice ab d.cache.length cb) ∧ (w1.alloc (.cells #[.slice none 0 0, .slice none 0 0] 33)).drew.cell? ⟨w.heap.size + 1, 0, none⟩ = some (.int .i64 c.st) ∧ Below w1.heap.size w1 (w1.alloc (.cells #[.slice none 0 0, .slice none 0 0] 33)).drew) := ⟨(X0.later (belNew w1 _)).cell 0 _ rfl, (X0.later (belNew w1 _)).cell 1 _ rfl, (X1.later (belNew w1 _)).cell 0 _ rfl, (belAlloc w1 _).drew⟩
  have hl0 : w.heap.size < w1.heap.size := by have := hsz1.out; omega
  have hl1 : w.heap.size + 1 < w1.heap.size := by have := hsz1.out; omega
  have HS : Hid (∀ x : World, (x.cell? ⟨w.heap.size, 0, none⟩ = some (.slice aa d.sec.length ca) ∧ x.cell? ⟨w.heap.size, 1, none⟩ = some (.slice ab d.cache.length cb) ∧ x.cell? ⟨w.heap.size + 1, 0, none⟩ = some (.int .i64 c.st) ∧ Below w1.heap.size w1 x) → DOwn B T x (.agg #[.slice aa d.sec.length ca, .slice ab d.cache.length cb]) d) := fun x hx => h'.later hx.2.2.2
  have HB0 : Hid (Box (w1.alloc (.cells #[.slice none 0 0, .slice none 0 0] 33)).drew w1.heap.size #[.slice none 0 0, .slice none 0 0] 33) := Box.new w1 _ _
  have HB1 := Lib.hid b1
  have HX2 : Hid (∀ x, Below w1.heap.size w1 x → Box x (w.heap.size + 2) #[.slice none 0 0, .slice none 0 0] 33) := fun x hx => X2.later hx
  obtain ⟨st, hst⟩ : ∃ st, c.st = st := ⟨_, rfl⟩
  rw [hst] at HK0 HK1 HS hm1 hm2
  clear X0 X1 X2 h' b1 hst
  go_upto_region 4 with fail
  go_cut [8, 9] (fun p f wx => ∃ (g : Nat) (D : Dk) (F : Bool) (e1 e2 : Option Addr) (e3 e4 : Nat), p = .pointer (some ⟨g, 0, none⟩) ∧ f = .bool F ∧ w1.heap.size ≤ g ∧ (F = true → rN < d.sec.length ∧ wbL d rN 0 tx.data.toList = some D) ∧ (F = false → ¬ rN < d.sec.length ∨ wbL d rN 0 tx.data.toList = none) ∧ Box wx g #[.slice e1 D.sec.length e3, .slice e2 D.cache.length e4] 33 ∧ DOwn w1.heap.size wx.heap.size wx (.agg #[.slice e1 D.sec.length e3, .slice e2 D.cache.length e4]) D ∧ Below w1.heap.size w1 wx)
  case first =>
    clear HX2 HB1 HKB HTX HRN2
    go_region_held3 (fun x => x.cell? ⟨w.heap.size, 0, none⟩ = some (.slice aa d.sec.length ca) ∧ x.cell? ⟨w.heap.size, 1, none⟩ = some (.slice ab d.cache.length cb) ∧ x.cell? ⟨w.heap.size + 1, 0, none⟩ = some (.int .i64 st) ∧ Below w1.heap.size w1 x)
      (first | exact HK0.out | exact HK1.out | exact keep3 (by assumption) (belAlloc _ _) | exact keep3 (by assumption) kS | exact keep3 hSS.out (belAlloc _ _) | exact keep3s hl0 hl1 (Nat.le_refl _) (by assumption) | exact keep3s hl0 hl1 tS (by assumption))
      (first
        | (go_at_call 90; refine (HRF.out _).mono ?_; rintro e wR ⟨rfl, rfl⟩)
        | (go_at_call 89; refine (HWB.out _ (HS.out _ (by assumption)) HCZ.out).mono ?_; rintro e wS ⟨D, F, hF1, hF2, vS, rfl, oS, kS⟩; have HF1 := Lib.hid hF1; have HF2 := Lib.hid hF2; clear hF1 hF2; have hSS := Lib.hid (keep3 (by assumption) kS); have tS : w1.heap.size ≤ wS.heap.size := hSS.out.2.2.2.size; obtain ⟨e1, e2, e3, e4, rfl⟩ := oS.form; (first | (have bx : Box wS w1.heap.size #[.slice none 0 0, .slice none 0 0] 33 := HB0.out.later kS; have x0 := bx.cell 0 _ rfl; have x1 := bx.cell 1 _ rfl; have f0 := bx.loose 0; have f1 := bx.loose 1) | skip)))
    all_goals
      go_wp2_with fail
      go_meet
      first
        | exact ⟨_, D, F, e1, e2, e3, e4, rfl, rfl, tS, HF1.out, HF2.out, Box.new wS _ _, ((oS.later (belAlloc _ _)).base hSS.out.2.2.2.size).top, hSS.out.2.2.2.alloc tS _⟩
        | exact ⟨_, D, F, e1, e2, e3, e4, rfl, rfl, tS, HF1.out, HF2.out, Box.new wS _ _, ((oS.later (belAlloc _ _)).base (Nat.le_refl _)).top, hSS.out.2.2.2.alloc tS _⟩
        | exact ⟨_, D, F, e1, e2, e3, e4, rfl, rfl, Nat.le_refl _, HF1.out, HF2.out, (bx.set 0 _).set 1 _, (((oS.base (by simp)).boxStore bx 0 _).boxStore (bx.set 0 _) 1 _).top, (hSS.out.2.2.2.setCell (p := ⟨w1.heap.size, 0, none⟩) (Nat.le_refl _) _).setCell (p := ⟨w1.heap.size, 1, none⟩) (Nat.le_refl _) _⟩
  case rest =>
    obtain ⟨g, D, F, e1, e2, e3, e4, rfl, rfl, hg, hF1, hF2, bxc, oD, kD⟩ := hcut
    have X2 := HX2.out _ kD
    have b2 := HB1.out.trans (kD.mono HB1.out.size)
    clear HX2 HK0 HK1 HS HB0 HWB HRF hm1 hm2
    cases F with
    | false =>
      have HB : Hid (wcO d c = none) := by
        show wcO d c = none
        rcases hF2 rfl with hx | hx
        · exact wcO_far (by rw [HRN2.out]; exact hx)
        · exact wcO_none (by rw [HRN2.out, HTX.out]; exact hx)
      obtain ⟨x0, x1, f0, f1⟩ : _ ∧ _ ∧ _ ∧ _ := ⟨X2.cell 0 _ rfl, X2.cell 1 _ rfl, X2.loose 0, X2.loose 1⟩
      have rX := (X2.set 0 (.slice none 0 0)).set 1 (.slice none 0 0)
      have q0 := rX.cell 0 (.slice none 0 0) rfl
      have q1 := rX.cell 1 (.slice none 0 0) rfl
      have bX := (b2.setCell (p := ⟨w.heap.size + 2, 0, none⟩) (by simp) (.slice none 0 0)).setCell (p := ⟨w.heap.size + 2, 1, none⟩) (by simp) (.slice none 0 0)
      have HBX := Lib.hid bX
      clear rX X2 bX hF1 hF2 bxc oD
      go_wp2
      refine bodyPost_ret (v := .tuple #[.agg #[.slice none 0 0, .slice none 0 0], .iface 134 (.agg #[.int .i64 4])]) (by simp [results, Tryz.results49, go_sem, q0, q1]) rfl ?_
      exact .inr ⟨HB.out, 4, by omega, rfl, by first | exact HBX.out | exact b2⟩
    | true =>
      obtain ⟨hlt, hwb⟩ := hF1 rfl
      have hdok : d.ok := by
        by_cases hc : d.ok
        · exact hc
        · have h1 := wbL_not (k := regN c) (fr := 0) (ckTx_ne c) hc
          rw [HRN2.out, HTX.out, hwb] at h1
          cases h1
      have HDS : Hid (wcO d c = some (flD D)) := wcO_some HKB.out (by rw [HRN2.out]; exact hlt) (by rw [HRN2.out, HTX.out]; exact hwb)
      have hDok := (wbL_ok _ _ (Nat.le_refl _) d D _ _ (by omega) hdok hwb).1
      obtain ⟨hsD, htD, huD⟩ := Dk.ok_small hDok
      have HFL := Lib.hid (implFlushDisk_any D _ _ _ _ oD hsD (by have := hDok.2.2.1; omega) htD huD)
      obtain ⟨z0, z1⟩ : _ ∧ _ := ⟨bxc.cell 0 _ rfl, bxc.cell 1 _ rfl⟩
      clear hF1 hF2 hwb hlt hDok hsD htD huD oD bxc
      go_wp2_with fail
      clear z0 z1
      refine HFL.out.mono ?_
      rintro e wX ⟨vX, rfl, oX, kX⟩
      generalize flD D = E at HDS oX
      obtain ⟨p1, p2, r1, r2, rfl⟩ := oX.form
      have xX := X2.later kX
      have bX := b2.trans (kX.mono b2.size)
      obtain ⟨x0, x1, f0, f1⟩ : _ ∧ _ ∧ _ ∧ _ := ⟨xX.cell 0 _ rfl, xX.cell 1 _ rfl, xX.loose 0, xX.loose 1⟩
      have rX := (xX.set 0 (.slice p1 E.sec.length r1)).set 1 (.slice p2 E.cache.length r2)
      have HR : Hid (DOwn w.heap.size ((wX.setCell ⟨w.heap.size + 2, 0, none⟩ (.slice p1 E.sec.length r1)).setCell ⟨w.heap.size + 2, 1, none⟩ (.slice p2 E.cache.length r2)).heap.size ((wX.setCell ⟨w.heap.size + 2, 0, none⟩ (.slice p1 E.sec.length r1)).setCell ⟨w.heap.size + 2, 1, none⟩ (.slice p2 E.cache.length r2)) (.agg #[.slice p1 E.sec.length r1, .slice p2 E.cache.length r2]) E ∧ Below w.heap.size w ((wX.setCell ⟨w.heap.size + 2, 0, none⟩ (.slice p1 E.sec.length r1)).setCell ⟨w.heap.size + 2, 1, none⟩ (.slice p2 E.cache.length r2))) := by
        refine ⟨?_, (bX.setCell (p := ⟨w.heap.size + 2, 0, none⟩) (by simp) _).setCell (p := ⟨w.heap.size + 2, 1, none⟩) (by simp) _⟩
        have := ((oX.base b2.size).boxStore xX 0 (.slice p1 E.sec.length r1)).boxStore (xX.set 0 (.slice p1 E.sec.length r1)) 1 (.slice p2 E.cache.length r2)
        simpa using this
      have q0 := rX.cell 0 (.slice p1 E.sec.length r1) rfl
      have q1 := rX.cell 1 (.slice p2 E.cache.length r2) rfl
      clear rX oX kX xX X2
      go_wp2
      refine bodyPost_ret (v := .tuple #[.agg #[.slice p1 E.sec.length r1, .slice p2 E.cache.length r2], .nilIface]) (by simp [results, Tryz.results49, go_sem, q0, q1]) rfl ?_
      exact .inl ⟨E, HDS.out, _, rfl, HR.out.1, HR.out.2⟩

end Go.Proofs.YtieenkloiicnkaaGreatDoor
