/- Texts of our own, joined. -/
import Derived.Test.YtieenkloiicnkaaGreatDoorJm
import Derived.Test.YtieenkloiicnkaaGreatDoorJo
import Derived.Test.YtieenkloiicnkaaGreatDoorJk
import Derived.Deep.DeepCutAuto
import Derived.Deep.QuietTactic
import Derived.BigQuiet
import Derived.WalkSmall
import Derived.Test.YtieenkloiicnkaaGreatDoorJl
import Derived.Deep.RegionHeld3
import Derived.Laws.Concat
/- WriteCheck of the program. -/
namespace Go.Proofs.YtieenkloiicnkaaGreatDoor
open Go.RowKit

set_option maxRecDepth 100000 in
set_option maxHeartbeats 2000000 in
theorem implWriteBytes_far (d : Dk) (v : Value) (se : Nat) (t : ByteArray) (B T : Nat) (w : World) (h : DOwn B T w v d) (hsm : d.small) (hts : ∀ s ∈ d.sec, s.size ≤ 1099511627776) (htu : ∀ x ∈ d.cache, x.text.size ≤ 1099511627776) (hse : ¬ se < d.sec.length) :
    Calls Tryz.prog 89 #[v, .int .i64 (se : Int), .int .i64 0, .string t] w fun e w' => DiskR d false w e w' := by
  obtain ⟨aa, ab, ca, cb, rfl⟩ := h.form
  obtain ⟨hx0, hx1, b0, hsz⟩ := two_boxes w #[.slice aa d.sec.length ca, .slice ab d.cache.length cb] #[.slice none 0 0, .slice none 0 0] 33 33
  have h' := h.later b0
  have g3 : ¬ (se : Int) < 0 := by omega
  have g4 : ¬ (se : Int) < (d.sec.length : Int) := by omega
  have g5 : (d.sec.length : Int) ≤ (se : Int) := by omega
  have m0 := hx0.cell 0 (.slice aa d.sec.length ca) rfl
  have m1 := hx0.cell 1 (.slice ab d.cache.length cb) rfl
  clear hse
  go_enter Tryz.func89, Tryz.ntmps89
  go_wp2_with fail
  generalize ((w.alloc (.cells #[.slice aa d.sec.length ca, .slice ab d.cache.length cb] 33)).alloc (.cells #[.slice none 0 0, .slice none 0 0] 33)) = W at hx0 hx1 b0 hsz h' m0 m1 ⊢
  refine (copyDisk_any d _ B T _ h' hsm hts htu).mono ?_
  rintro e wX ⟨vX, rfl, oX, kX⟩
  obtain ⟨p1, p2, r1, r2, rfl⟩ := oX.form
  have xX := hx1.later kX
  have bX := b0.trans (kX.mono b0.size)
  have x0 := xX.cell 0 (.slice none 0 0) rfl
  have x1 := xX.cell 1 (.slice none 0 0) rfl
  have f0 := xX.loose 0
  have f1 := xX.loose 1
  have rX := (xX.set 0 (.slice p1 d.sec.length r1)).set 1 (.slice p2 d.cache.length r2)
  have HR : Hid (DiskR d false w (.returned (.tuple #[.agg #[.slice p1 d.sec.length r1, .slice p2 d.cache.length r2], .bool false])) ((wX.setCell ⟨w.heap.size + 1, 0, none⟩ (.slice p1 d.sec.length r1)).setCell ⟨w.heap.size + 1, 1, none⟩ (.slice p2 d.cache.length r2))) := by
    refine ⟨_, rfl, ?_, (bX.setCell (p := ⟨w.heap.size + 1, 0, none⟩) (by simp) _).setCell (p := ⟨w.heap.size + 1, 1, none⟩) (by simp) _⟩
    have := ((oX.base b0.size).boxStore xX 0 (.slice p1 d.sec.length r1)).boxStore (xX.set 0 (.slice p1 d.sec.length r1)) 1 (.slice p2 d.cache.length r2)
    simpa using this
  have q0 := rX.cell 0 (.slice p1 d.sec.length r1) rfl
  have q1 := rX.cell 1 (.slice p2 d.cache.length r2) rfl
  clear rX oX kX m0 m1 xX h' hx0 hx1
  go_wp2
  refine bodyPost_ret (v := .tuple #[.agg #[.slice p1 d.sec.length r1, .slice p2 d.cache.length r2], .bool false]) (by simp [results, Tryz.results89, go_sem, q0, q1]) rfl ?_
  exact HR.out

set_option maxRecDepth 100000 in
theorem regionFirst_any (n : Nat) (w : World) (hn : n ≤ 1) : Calls Tryz.prog 90 #[.int .i64 (n : Int)] w fun e w' => e = .returned (.int .i64 ((4 * n : Nat) : Int)) ∧ w = w' := by
  have h1 : IntKind.i64.wrap (4 * (n : Int)) = ((4 * n : Nat) : Int) := by rw [IntWalk.i64_in _ ⟨by omega, by omega⟩]; omega
  go_enter Tryz.func90, Tryz.ntmps90
  go_wp2
  go_ret
  first | exact ⟨rfl, rfl⟩ | exact ⟨by go_num, rfl⟩ | exact ⟨by simp, rfl⟩

/-- WriteBytes of the program at a region's first sector, whatever the disk. -/
theorem implWriteBytes_at (d : Dk) (v : Value) (c : Ck) (hc : (ckTx c).size ≤ 1000000) (B T : Nat) (w : World) (h : DOwn B T w v d) (hsm : d.small) (hts : ∀ s ∈ d.sec, s.size ≤ 1099511627776) (htu : ∀ x ∈ d.cache, x.text.size ≤ 1099511627776) (hcl : d.cache.length < 1073741824) :
    Calls Tryz.prog 89 #[v, .int .i64 (regN c : Int), .int .i64 0, .string (ckTx c)] w fun e w' => ∃ (d' : Dk) (f : Bool), (f = true → regN c < d.sec.length ∧ wbL d (regN c) 0 (ckTx c).data.toList = some d') ∧ (f = false → ¬ regN c < d.sec.length ∨ wbL d (regN c) 0 (ckTx c).data.toList = none) ∧ DiskR d' f w e w' := by
  by_cases hse : regN c < d.sec.length
  · refine (implWriteBytes_in d v (regN c) 0 (ckTx c) B T w h hsm hts htu hcl hse (by omega) (by omega)).mono ?_
    intro e w' hr
    simp only [Nat.zero_div, Nat.add_zero, Nat.zero_mod] at hr
    cases hw : wbL d (regN c) 0 (ckTx c).data.toList with
    | none => rw [hw] at hr; exact ⟨d, false, (fun e => by cases e), fun _ => .inr rfl, hr⟩
    | some d' => rw [hw] at hr; exact ⟨d', true, fun _ => ⟨hse, rfl⟩, (fun e => by cases e), hr⟩
  · exact (implWriteBytes_far d v (regN c) (ckTx c) B T w h hsm hts htu hse).mono fun e w' hr => ⟨d, false, (fun e => by cases e), fun _ => .inl hse, hr⟩

set_option maxRecDepth 100000 in
set_option maxHeartbeats 8000000 in
theorem withCheck_any (d : Dk) (c : Ck) (v : Value) (a : Option Addr) (cap B T : Nat) (w : World) (h : DOwn B T w v d) (hsm : d.small) (hts : ∀ s ∈ d.sec, s.size ≤ 1099511627776) (htu : ∀ x ∈ d.cache, x.text.size ≤ 1099511627776) (hcl : d.cache.length < 1073741824) (hr : Rows' rfE w (.slice a c.refs.length cap) c.refs) (hl : c.refs.length ≤ 1048576) (ht : SumTab w) :
    Calls Tryz.prog 49 #[v, .agg #[.int .i64 c.st, .int .i64 c.ng, .int .i64 c.ns, .int .i64 c.nv, .slice a c.refs.length cap]] w fun e w' => WcR d c 134 w e w' := by
  obtain ⟨aa, ab, ca, cb, rfl⟩ := h.form
  obtain ⟨X0, X1, X2, b0, hsz⟩ := three_boxes w #[.slice aa d.sec.length ca, .slice ab d.cache.length cb] #[.int .i64 c.st, .int .i64 c.ng, .int .i64 c.ns, .int .i64 c.nv, .slice a c.refs.length cap] #[.slice none 0 0, .slice none 0 0] 33 48 33
  have h' := h.later b0
  have HTX := Lib.hid (textOfCheck_any c a cap _ (ht.later b0) (hr.later b0) hl)
  have HWB := Lib.hid (fun (x : World) (hx : DOwn B T x (.agg #[.slice aa d.sec.length ca, .slice ab d.cache.length cb]) d) (hc : (ckTx c).size ≤ 1000000) => implWriteBytes_at d _ c hc B T x hx hsm hts htu hcl)
  have HRN : Hid (c.ok → (IntKind.i64.wrap (Int.tmod c.st 2) = ((c.st % 2).toNat : Int) ∧ Int.tmod c.st 2 = ((c.st % 2).toNat : Int)) ∧ (c.st % 2).toNat ≤ 1 ∧ regN c = 4 * (c.st % 2).toNat ∧ (ckTx c).size ≤ 1000000) := fun hok => by
    have hst : 1 ≤ c.st := hok.1.1.1
    have e1 : Int.tmod c.st 2 = c.st % 2 := Int.tmod_eq_emod_of_nonneg (by omega)
    have := (ckSe_len hok).2.2
    refine ⟨⟨?_, by rw [e1]; omega⟩, by omega, rfl, by omega⟩
    rw [e1, IntWalk.i64_in _ ⟨by omega, by omega⟩]; omega
  have HOKB : Hid (c.ok → ckB c = true) := ckB_yes
  have HNOB : Hid (¬ c.ok → ckB c = false) := fun hn => by
    cases e : ckB c with
    | false => rfl
    | true => exact absurd (ckB_iff.1 e) hn
  clear h hr ht hl
  obtain ⟨n, hn⟩ : ∃ n, c.refs.length = n := ⟨_, rfl⟩
  rw [hn] at X1 HTX X0 X2 b0 hsz h' ⊢
  clear hn
  obtain ⟨y0, y1, y2, y3, y4⟩ := X1.fiveW
  go_enter Tryz.func49, Tryz.ntmps49
  go_wp2_with fail
  clear y0 y1 y2 y3 y4
  generalize (((w.alloc (.cells #[.slice aa d.sec.length ca, .slice ab d.cache.length cb] 33)).alloc (.cells #[.int .i64 c.st, .int .i64 c.ng, .int .i64 c.ns, .int .i64 c.nv, .slice a n cap] 48)).alloc (.cells #[.slice none 0 0, .slice none 0 0] 33)) = W at X0 X1 X2 b0 hsz h' HTX ⊢
  refine HTX.out.mono ?_
  rintro e w1 ⟨hT, k1⟩
  clear HTX
  replace X0 := X0.later k1
  replace X1 := X1.later k1
  replace X2 := X2.later k1
  replace h' := h'.later k1
  have b1 := b0.trans (k1.mono b0.size)
  have hsz1 : Hid (w.heap.size + 3 ≤ w1.heap.size) := by show _ ≤ _; have := k1.size; omega
  clear b0 hsz k1
  rcases hT with ⟨hok, rfl⟩ | ⟨hno, k, hk, rfl⟩
  case inr =>
    have HB := Lib.hid (wcO_bad (d := d) (HNOB.out hno))
    clear h' X0 X1 HWB HRN HOKB HNOB hno
    obtain ⟨x0, x1, f0, f1⟩ : _ ∧ _ ∧ _ ∧ _ := ⟨X2.cell 0 _ rfl, X2.cell 1 _ rfl, X2.loose 0, X2.loose 1⟩
    have rX := (X2.set 0 (.slice none 0 0)).set 1 (.slice none 0 0)
    have q0 := rX.cell 0 (.slice none 0 0) rfl
    have q1 := rX.cell 1 (.slice none 0 0) rfl
    have bX := (b1.setCell (p := ⟨w.heap.size + 2, 0, none⟩) (by simp) (.slice none 0 0)).setCell (p := ⟨w.heap.size + 2, 1, none⟩) (by simp) (.slice none 0 0)
    have HBX := Lib.hid bX
    clear rX X2 bX
    go_wp2
    refine bodyPost_ret (v := .tuple #[.agg #[.slice none 0 0, .slice none 0 0], .iface 134 (.agg #[.int .i64 k])]) (by simp [results, Tryz.results49, go_sem, q0, q1]) rfl ?_
    exact .inr ⟨HB.out, k, by omega, rfl, by first | exact HBX.out | exact b1⟩
  obtain ⟨⟨hm1, hm2⟩, hr1, hr2, hcz⟩ := HRN.out hok
  have HKB := Lib.hid (HOKB.out hok)
  have HCZ := Lib.hid hcz
  obtain ⟨tx, htx⟩ : ∃ tx, ckTx c = tx := ⟨_, rfl⟩
  have HTX := Lib.hid htx
  obtain ⟨rg, hrg⟩ : ∃ rg, (c.st % 2).toNat = rg := ⟨_, rfl⟩
  rw [hrg] at hm1 hm2 hr1 hr2
  obtain ⟨rN, hrN⟩ : ∃ rN, regN c = rN := ⟨_, rfl⟩
  have HRN2 := Lib.hid hrN
  rw [htx] at HCZ
  rw [htx, hrN] at HWB
  rw [htx]
  have HRF : Hid (∀ x, Calls Tryz.prog 90 #[.int .i64 (rg : Int)] x fun e w' => e = .returned (.int .i64 (rN : Int)) ∧ x = w') := fun x => by rw [← hrN, hr2]; exact regionFirst_any rg x hr1
  clear htx hrg hrN hr1 hr2 HRN HOKB HNOB hcz
  have HK0 : Hid (w1.drew.cell? ⟨w.heap.size, 0, none⟩ = some (.slice aa d.sec.length ca) ∧ w1.drew.cell? ⟨w.heap.size, 1, none⟩ = some (.slice ab d.cache.length cb) ∧ w1.drew.cell? ⟨w.heap.size + 1, 0, none⟩ = some (.int .i64 c.st) ∧ Below w1.heap.size w1 w1.drew) := ⟨X0.cell 0 _ rfl, X0.cell 1 _ rfl, X1.cell 0 _ rfl, (Below.refl _ _).drew⟩
  have HK1 : Hid ((w1.alloc (.cells #[.slice none 0 0, .slice none 0 0] 33)).drew.cell? ⟨w.heap.size, 0, none⟩ = some (.slice aa d.sec.length ca) ∧ (w1.alloc (.cells #[.slice none 0 0, .slice none 0 0] 33)).drew.cell? ⟨w.heap.size, 1, none⟩ = some (.slice ab d.cache.length cb) ∧ (w1.alloc (.cells #[.slice none 0 0, .slice none 0 0] 33)).drew.cell? ⟨w.heap.size + 1, 0, none⟩ = some (.int .i64 c.st) ∧ Below w1.heap.size w1 (w1.alloc (.cells #[.slice none 0 0, .slice none 0 0] 33)).drew) := ⟨(X0.later (belNew w1 _)).cell 0 _ rfl, (X0.later (belNew w1 _)).cell 1 _ rfl, (X1.later (belNew w1 _)).cell 0 _ rfl, (belAlloc w1 _).drew⟩
  have hl0 : w.heap.size < w1.heap.size := by have := hsz1.out; omega
  have hl1 : w.heap.size + 1 < w1.heap.size := by have := hsz1.out; omega
  have HS : Hid (∀ x : World, (x.cell? ⟨w.heap.size, 0, none⟩ = some (.slice aa d.sec.length ca) ∧ x.cell? ⟨w.heap.size, 1, none⟩ = some (.slice ab d.cache.length cb) ∧ x.cell? ⟨w.heap.size + 1, 0, none⟩ = some (.int .i64 c.st) ∧ Below w1.heap.size w1 x) → DOwn B T x (.agg #[.slice aa d.sec.length ca, .slice ab d.cache.length cb]) d) := fun x hx => h'.later hx.2.2.2
  have HB0 : Hid (Box (w1.alloc (.cells #[.slice none 0 0, .slice none 0 0] 33)).drew w1.heap.size #[.slice none 0 0, .slice none 0 0] 33) := Box.new w1 _ _
  have HB1 := Lib.hid b1
  have HX2 : Hid (∀ x, Below w1.heap.size w1 x → Box x (w.heap.size + 2) #[.slice none 0 0, .slice none 0 0] 33) := fun x hx => X2.later hx
  obtain ⟨st, hst⟩ : ∃ st, c.st = st := ⟨_, rfl⟩
  rw [hst] at HK0 HK1 HS hm1 hm2
  clear X0 X1 X2 h' b1 hst
  go_upto_region 4 with fail
  go_cut [8, 9] (fun p f wx => ∃ (g : Nat) (D : Dk) (F : Bool) (e1 e2 : Option Addr) (e3 e4 : Nat), p = .pointer (some ⟨g, 0, none⟩) ∧ f = .bool F ∧ w1.heap.size ≤ g ∧ (F = true → rN < d.sec.length ∧ wbL d rN 0 tx.data.toList = some D) ∧ (F = false → ¬ rN < d.sec.length ∨ wbL d rN 0 tx.data.toList = none) ∧ Box wx g #[.slice e1 D.sec.length e3, .slice e2 D.cache.length e4] 33 ∧ DOwn w1.heap.size wx.heap.size wx (.agg #[.slice e1 D.sec.length e3, .slice e2 D.cache.length e4]) D ∧ Below w1.heap.size w1 wx)
  case first =>
    clear HX2 HB1 HKB HTX HRN2
    go_region_held3 (fun x => x.cell? ⟨w.heap.size, 0, none⟩ = some (.slice aa d.sec.length ca) ∧ x.cell? ⟨w.heap.size, 1, none⟩ = some (.slice ab d.cache.length cb) ∧ x.cell? ⟨w.heap.size + 1, 0, none⟩ = some (.int .i64 st) ∧ Below w1.heap.size w1 x)
      (first | exact HK0.out | exact HK1.out | exact keep3 (by assumption) (belAlloc _ _) | exact keep3 (by assumption) kS | exact keep3 hSS.out (belAlloc _ _) | exact keep3s hl0 hl1 (Nat.le_refl _) (by assumption) | exact keep3s hl0 hl1 tS (by assumption))
      (first
        | (go_at_call 90; refine (HRF.out _).mono ?_; rintro e wR ⟨rfl, rfl⟩)
        | (go_at_call 89; refine (HWB.out _ (HS.out _ (by assumption)) HCZ.out).mono ?_; rintro e wS ⟨D, F, hF1, hF2, vS, rfl, oS, kS⟩; have HF1 := Lib.hid hF1; have HF2 := Lib.hid hF2; clear hF1 hF2; have hSS := Lib.hid (keep3 (by assumption) kS); have tS : w1.heap.size ≤ wS.heap.size := hSS.out.2.2.2.size; obtain ⟨e1, e2, e3, e4, rfl⟩ := oS.form; (first | (have bx : Box wS w1.heap.size #[.slice none 0 0, .slice none 0 0] 33 := HB0.out.later kS; have x0 := bx.cell 0 _ rfl; have x1 := bx.cell 1 _ rfl; have f0 := bx.loose 0; have f1 := bx.loose 1) | skip)))
    all_goals
      go_wp2_with fail
      go_meet
      first
        | exact ⟨_, D, F, e1, e2, e3, e4, rfl, rfl, tS, HF1.out, HF2.out, Box.new wS _ _, ((oS.later (belAlloc _ _)).base hSS.out.2.2.2.size).top, hSS.out.2.2.2.alloc tS _⟩
        | exact ⟨_, D, F, e1, e2, e3, e4, rfl, rfl, tS, HF1.out, HF2.out, Box.new wS _ _, ((oS.later (belAlloc _ _)).base (Nat.le_refl _)).top, hSS.out.2.2.2.alloc tS _⟩
        | exact ⟨_, D, F, e1, e2, e3, e4, rfl, rfl, Nat.le_refl _, HF1.out, HF2.out, (bx.set 0 _).set 1 _, (((oS.base (by simp)).boxStore bx 0 _).boxStore (bx.set 0 _) 1 _).top, (hSS.out.2.2.2.setCell (p := ⟨w1.heap.size, 0, none⟩) (Nat.le_refl _) _).setCell (p := ⟨w1.heap.size, 1, none⟩) (Nat.le_refl _) _⟩
  case rest =>
    obtain ⟨g, D, F, e1, e2, e3, e4, rfl, rfl, hg, hF1, hF2, bxc, oD, kD⟩ := hcut
    have X2 := HX2.out _ kD
    have b2 := HB1.out.trans (kD.mono HB1.out.size)
    clear HX2 HK0 HK1 HS HB0 HWB HRF hm1 hm2
    cases F with
    | false =>
      have HB : Hid (wcO d c = none) := by
        show wcO d c = none
        rcases hF2 rfl with hx | hx
        · exact wcO_far (by rw [HRN2.out]; exact hx)
        · exact wcO_none (by rw [HRN2.out, HTX.out]; exact hx)
      obtain ⟨x0, x1, f0, f1⟩ : _ ∧ _ ∧ _ ∧ _ := ⟨X2.cell 0 _ rfl, X2.cell 1 _ rfl, X2.loose 0, X2.loose 1⟩
      have rX := (X2.set 0 (.slice none 0 0)).set 1 (.slice none 0 0)
      have q0 := rX.cell 0 (.slice none 0 0) rfl
      have q1 := rX.cell 1 (.slice none 0 0) rfl
      have bX := (b2.setCell (p := ⟨w.heap.size + 2, 0, none⟩) (by simp) (.slice none 0 0)).setCell (p := ⟨w.heap.size + 2, 1, none⟩) (by simp) (.slice none 0 0)
      have HBX := Lib.hid bX
      clear rX X2 bX hF1 hF2 bxc oD
      go_wp2
      refine bodyPost_ret (v := .tuple #[.agg #[.slice none 0 0, .slice none 0 0], .iface 134 (.agg #[.int .i64 4])]) (by simp [results, Tryz.results49, go_sem, q0, q1]) rfl ?_
      exact .inr ⟨HB.out, 4, by omega, rfl, by first | exact HBX.out | exact b2⟩
    | true =>
      obtain ⟨hlt, hwb⟩ := hF1 rfl
      have hdok : d.ok := by
        by_cases hc : d.ok
        · exact hc
        · have h1 := wbL_not (k := regN c) (fr := 0) (ckTx_ne c) hc
          rw [HRN2.out, HTX.out, hwb] at h1
          cases h1
      have HDS : Hid (wcO d c = some (flD D)) := wcO_some HKB.out (by rw [HRN2.out]; exact hlt) (by rw [HRN2.out, HTX.out]; exact hwb)
      have hDok := (wbL_ok _ _ (Nat.le_refl _) d D _ _ (by omega) hdok hwb).1
      obtain ⟨hsD, htD, huD⟩ := Dk.ok_small hDok
      have HFL := Lib.hid (implFlushDisk_any D _ _ _ _ oD hsD (by have := hDok.2.2.1; omega) htD huD)
      obtain ⟨z0, z1⟩ : _ ∧ _ := ⟨bxc.cell 0 _ rfl, bxc.cell 1 _ rfl⟩
      clear hF1 hF2 hwb hlt hDok hsD htD huD oD bxc
      go_wp2_with fail
      clear z0 z1
      refine HFL.out.mono ?_
      rintro e wX ⟨vX, rfl, oX, kX⟩
      generalize flD D = E at HDS oX
      obtain ⟨p1, p2, r1, r2, rfl⟩ := oX.form
      have xX := X2.later kX
      have bX := b2.trans (kX.mono b2.size)
      obtain ⟨x0, x1, f0, f1⟩ : _ ∧ _ ∧ _ ∧ _ := ⟨xX.cell 0 _ rfl, xX.cell 1 _ rfl, xX.loose 0, xX.loose 1⟩
      have rX := (xX.set 0 (.slice p1 E.sec.length r1)).set 1 (.slice p2 E.cache.length r2)
      have HR : Hid (DOwn w.heap.size ((wX.setCell ⟨w.heap.size + 2, 0, none⟩ (.slice p1 E.sec.length r1)).setCell ⟨w.heap.size + 2, 1, none⟩ (.slice p2 E.cache.length r2)).heap.size ((wX.setCell ⟨w.heap.size + 2, 0, none⟩ (.slice p1 E.sec.length r1)).setCell ⟨w.heap.size + 2, 1, none⟩ (.slice p2 E.cache.length r2)) (.agg #[.slice p1 E.sec.length r1, .slice p2 E.cache.length r2]) E ∧ Below w.heap.size w ((wX.setCell ⟨w.heap.size + 2, 0, none⟩ (.slice p1 E.sec.length r1)).setCell ⟨w.heap.size + 2, 1, none⟩ (.slice p2 E.cache.length r2))) := by
        refine ⟨?_, (bX.setCell (p := ⟨w.heap.size + 2, 0, none⟩) (by simp) _).setCell (p := ⟨w.heap.size + 2, 1, none⟩) (by simp) _⟩
        have := ((oX.base b2.size).boxStore xX 0 (.slice p1 E.sec.length r1)).boxStore (xX.set 0 (.slice p1 E.sec.length r1)) 1 (.slice p2 E.cache.length r2)
        simpa using this
      have q0 := rX.cell 0 (.slice p1 E.sec.length r1) rfl
      have q1 := rX.cell 1 (.slice p2 E.cache.length r2) rfl
      clear rX oX kX xX X2
      go_wp2
      refine bodyPost_ret (v := .tuple #[.agg #[.slice p1 E.sec.length r1, .slice p2 E.cache.length r2], .nilIface]) (by simp [results, Tryz.results49, go_sem, q0, q1]) rfl ?_
      exact .inl ⟨E, HDS.out, _, rfl, HR.out.1, HR.out.2⟩

set_option maxRecDepth 100000 in
set_option maxHeartbeats 4000000 in
theorem implWriteCheck_any (d : Dk) (c : Ck) (v : Value) (a : Option Addr) (cap B T : Nat) (w : World) (h : DOwn B T w v d) (hsm : d.small) (hts : ∀ s ∈ d.sec, s.size ≤ 1099511627776) (htu : ∀ x ∈ d.cache, x.text.size ≤ 1099511627776) (hcl : d.cache.length < 1073741824) (hr : Rows' rfE w (.slice a c.refs.length cap) c.refs) (hl : c.refs.length ≤ 1048576) (ht : SumTab w) (he : ErrTab w) :
    Calls Tryz.prog 18 #[v, .agg #[.int .i64 c.st, .int .i64 c.ng, .int .i64 c.ns, .int .i64 c.nv, .slice a c.refs.length cap]] w fun e w' => DiskR ((wcO d c).getD d) (wcO d c).isSome w e w' := by
  obtain ⟨aa, ab, ca, cb, rfl⟩ := h.form
  obtain ⟨X0, X1, X2, b0, hsz⟩ := three_boxes w #[.slice aa d.sec.length ca, .slice ab d.cache.length cb] #[.int .i64 c.st, .int .i64 c.ng, .int .i64 c.ns, .int .i64 c.nv, .slice a c.refs.length cap] #[.slice none 0 0, .slice none 0 0] 33 48 33
  have h' := h.later b0
  have HWC := Lib.hid (withCheck_any d c _ a cap B T _ h' hsm hts htu hcl (hr.later b0) hl (ht.later b0))
  have HE : Hid (∀ x, Below w.heap.size w x → ErrTab x) := fun x hx => (hx.cell (p := ⟨0, 0, none⟩) (World.block_lt_of_cell? _ _ he)).trans he
  clear h hr ht hl he
  obtain ⟨O, hO⟩ : ∃ O, wcO d c = O := ⟨_, rfl⟩
  have HO := Lib.hid hO
  rw [hO]
  clear hO
  obtain ⟨n, hn⟩ : ∃ n, c.refs.length = n := ⟨_, rfl⟩
  rw [hn] at X1 HWC X0 X2 b0 hsz h' ⊢
  clear hn
  obtain ⟨y0, y1, y2, y3, y4⟩ := X1.fiveW
  obtain ⟨m0, m1⟩ : _ ∧ _ := ⟨X0.cell 0 _ rfl, X0.cell 1 _ rfl⟩
  go_enter Tryz.func18, Tryz.ntmps18
  go_wp2_with fail
  clear y0 y1 y2 y3 y4 m0 m1
  generalize (((w.alloc (.cells #[.slice aa d.sec.length ca, .slice ab d.cache.length cb] 33)).alloc (.cells #[.int .i64 c.st, .int .i64 c.ng, .int .i64 c.ns, .int .i64 c.nv, .slice a n cap] 48)).alloc (.cells #[.slice none 0 0, .slice none 0 0] 33)) = W at X0 X1 X2 b0 hsz h' HWC ⊢
  refine HWC.out.mono ?_
  clear HWC X1
  rintro e w1 (⟨D, hD, v1, rfl, o1, k1⟩ | ⟨hN, k, hk, rfl, k1⟩)
  · have HOO : Hid (O = some D) := HO.out.symm.trans hD
    clear hD
    obtain ⟨p1, p2, r1, r2, rfl⟩ := o1.form
    have k2 := belNew w1 (.cells #[.slice p1 D.sec.length r1, .slice p2 D.cache.length r2] 33)
    have XF := Box.new w1 #[.slice p1 D.sec.length r1, .slice p2 D.cache.length r2] 33
    have j2 := k1.trans (k2.mono k1.size)
    replace X2 := X2.later j2
    have o2 := o1.later k2
    have b2 := b0.trans (j2.mono b0.size)
    have hzW := b0.size
    clear o1 k1 k2 j2 h' X0
    go_upto_region 2 with fail
    generalize w1.alloc (.cells #[.slice p1 D.sec.length r1, .slice p2 D.cache.length r2] 33) = w2 at XF X2 o2 b2 ⊢
    generalize w1.heap.size = g1 at XF o2 ⊢
    go_wp2_with fail
    refine (codeOf_nil _).mono ?_
    rintro e w3 ⟨rfl, k3⟩
    replace XF := XF.later k3
    replace X2 := X2.later k3
    replace o2 := o2.later k3
    replace b2 := b2.trans (k3.mono b2.size)
    obtain ⟨z0, z1⟩ : _ ∧ _ := ⟨XF.cell 0 _ rfl, XF.cell 1 _ rfl⟩
    obtain ⟨x0, x1, f0, f1⟩ : _ ∧ _ ∧ _ ∧ _ := ⟨X2.cell 0 _ rfl, X2.cell 1 _ rfl, X2.loose 0, X2.loose 1⟩
    have rX := (X2.set 0 (.slice p1 D.sec.length r1)).set 1 (.slice p2 D.cache.length r2)
    have HR : Hid (DiskR D true w (.returned (.tuple #[.agg #[.slice p1 D.sec.length r1, .slice p2 D.cache.length r2], .bool true])) ((w3.setCell ⟨w.heap.size + 2, 0, none⟩ (.slice p1 D.sec.length r1)).setCell ⟨w.heap.size + 2, 1, none⟩ (.slice p2 D.cache.length r2))) := by
      refine ⟨_, rfl, ?_, (b2.setCell (p := ⟨w.heap.size + 2, 0, none⟩) (by simp) _).setCell (p := ⟨w.heap.size + 2, 1, none⟩) (by simp) _⟩
      have := (((o2.base hzW).boxStore X2 0 (.slice p1 D.sec.length r1)).boxStore (X2.set 0 (.slice p1 D.sec.length r1)) 1 (.slice p2 D.cache.length r2)).top
      simpa using this
    have q0 := rX.cell 0 (.slice p1 D.sec.length r1) rfl
    have q1 := rX.cell 1 (.slice p2 D.cache.length r2) rfl
    clear rX XF X2 o2 k3 b2
    go_wp2
    refine bodyPost_ret (v := .tuple #[.agg #[.slice p1 D.sec.length r1, .slice p2 D.cache.length r2], .bool true]) (by simp [results, Tryz.results18, go_sem, q0, q1]) rfl ?_
    rw [HOO.out]; exact HR.out
  · have HOO : Hid (O = none) := HO.out.symm.trans hN
    clear hN
    have k2 := belNew w1 (.cells #[.slice none 0 0, .slice none 0 0] 33)
    have j2 := k1.trans (k2.mono k1.size)
    replace X2 := X2.later j2
    replace X0 := X0.later j2
    replace h' := h'.later j2
    have b2 := b0.trans (j2.mono b0.size)
    clear k1 k2 j2
    go_upto_region 2 with fail
    generalize w1.alloc (.cells #[.slice none 0 0, .slice none 0 0] 33) = w2 at X0 X2 h' b2 ⊢
    go_wp2_with fail
    refine (codeOf_fault k _ (HE.out _ b2)).mono ?_
    rintro e w3 ⟨rfl, k3⟩
    replace X0 := X0.later k3
    replace X2 := X2.later k3
    replace h' := h'.later k3
    replace b2 := b2.trans (k3.mono b2.size)
    obtain ⟨m0, m1⟩ : _ ∧ _ := ⟨X0.cell 0 _ rfl, X0.cell 1 _ rfl⟩
    clear k3 X0
    go_wp2_with fail
    clear m0 m1
    refine (copyDisk_any d _ B T _ h' hsm hts htu).mono ?_
    rintro e wX ⟨vX, rfl, oX, kX⟩
    obtain ⟨p1, p2, r1, r2, rfl⟩ := oX.form
    have xX := X2.later kX
    have bX := b2.trans (kX.mono b2.size)
    obtain ⟨x0, x1, f0, f1⟩ : _ ∧ _ ∧ _ ∧ _ := ⟨xX.cell 0 _ rfl, xX.cell 1 _ rfl, xX.loose 0, xX.loose 1⟩
    have rX := (xX.set 0 (.slice p1 d.sec.length r1)).set 1 (.slice p2 d.cache.length r2)
    have HR : Hid (DiskR d false w (.returned (.tuple #[.agg #[.slice p1 d.sec.length r1, .slice p2 d.cache.length r2], .bool false])) ((wX.setCell ⟨w.heap.size + 2, 0, none⟩ (.slice p1 d.sec.length r1)).setCell ⟨w.heap.size + 2, 1, none⟩ (.slice p2 d.cache.length r2))) := by
      refine ⟨_, rfl, ?_, (bX.setCell (p := ⟨w.heap.size + 2, 0, none⟩) (by simp) _).setCell (p := ⟨w.heap.size + 2, 1, none⟩) (by simp) _⟩
      have := ((oX.base b2.size).boxStore xX 0 (.slice p1 d.sec.length r1)).boxStore (xX.set 0 (.slice p1 d.sec.length r1)) 1 (.slice p2 d.cache.length r2)
      simpa using this
    have q0 := rX.cell 0 (.slice p1 d.sec.length r1) rfl
    have q1 := rX.cell 1 (.slice p2 d.cache.length r2) rfl
    clear rX oX kX xX X2 h'
    go_wp2
    refine bodyPost_ret (v := .tuple #[.agg #[.slice p1 d.sec.length r1, .slice p2 d.cache.length r2], .bool false]) (by simp [results, Tryz.results18, go_sem, q0, q1]) rfl ?_
    rw [HOO.out]; exact HR.out

end Go.Proofs.YtieenkloiicnkaaGreatDoor

/- CheckOk of the model. -/
namespace Go.Proofs.YtieenkloiicnkaaGreatDoor
open Go.RowKit

theorem inC_yes (n lo hi : Int) (w : World) (h1 : lo ≤ n) (h2 : n ≤ hi) : Calls Tryz.prog 56 #[.int .i64 n, .int .i64 lo, .int .i64 hi] w fun e w' => e = .returned (.bool true) ∧ w' = w :=
  (l01In_yes n lo hi w h1 h2).mono fun _ _ h => ⟨h.1, h.2.symm⟩
theorem inC_no (n lo hi : Int) (w : World) (h : ¬ (lo ≤ n ∧ n ≤ hi)) : Calls Tryz.prog 56 #[.int .i64 n, .int .i64 lo, .int .i64 hi] w fun e w' => e = .returned (.bool false) ∧ w' = w :=
  (l01In_no n lo hi w h).mono fun _ _ h => ⟨h.1, h.2.symm⟩

set_option maxRecDepth 100000 in
set_option maxHeartbeats 4000000 in
theorem specCheckOk_any (c : Ck) (a : Option Addr) (cap : Nat) (w : World) (h : Rows' rfE w (.slice a c.refs.length cap) c.refs) (hl : c.refs.length ≤ 1048576) :
    Calls Tryz.prog 81 #[.agg #[.int .i64 c.st, .int .i64 c.ng, .int .i64 c.ns, .int .i64 c.nv, .slice a c.refs.length cap]] w fun e w' => e = .returned (.bool (ckB c)) ∧ Below w.heap.size w w' := by
  obtain ⟨_, _, hv, hrow⟩ := h.refs
  cases hv
  have HR := Lib.hid hrow
  clear h hrow
  have HYES := Lib.hid (fun h => @ckB_yes c h)
  have HNO := Lib.hid (fun h => @ckB_no c h)
  obtain ⟨st, ng, ns, nv, rs⟩ := c
  generalize ckB ⟨st, ng, ns, nv, rs⟩ = A at HYES HNO ⊢
  replace HYES : Hid (((numIn st ∧ numIn ng ∧ numIn ns ∧ numIn nv) ∧ (1 ≤ rs.length ∧ rs.length ≤ 11) ∧ ∀ (i : Nat) (r : Rf), rs[i]? = some r → rfAt ng rs i r) → A = true) := HYES
  replace HNO : Hid (¬ ((numIn st ∧ numIn ng ∧ numIn ns ∧ numIn nv) ∧ (1 ≤ rs.length ∧ rs.length ≤ 11) ∧ ∀ (i : Nat) (r : Rf), rs[i]? = some r → rfAt ng rs i r) → A = false) := HNO
  simp only at hl HR ⊢
  obtain ⟨n, hn⟩ : ∃ n, rs.length = n := ⟨_, rfl⟩
  rw [hn] at hl HYES HNO ⊢
  have HN := Lib.hid hn
  clear hn
  have X0 := Box.new w #[.int .i64 st, .int .i64 ng, .int .i64 ns, .int .i64 nv, .slice a n cap] 48
  have b0 := belNew w (.cells #[.int .i64 st, .int .i64 ng, .int .i64 ns, .int .i64 nv, .slice a n cap] 48)
  have HC : Hid (∀ x, Below (w.alloc (.cells #[.int .i64 st, .int .i64 ng, .int .i64 ns, .int .i64 nv, .slice a n cap] 48)).heap.size (w.alloc (.cells #[.int .i64 st, .int .i64 ng, .int .i64 ns, .int .i64 nv, .slice a n cap] 48)) x → (x.cell? ⟨w.heap.size, 0, none⟩ = some (.int .i64 st) ∧ x.cell? ⟨w.heap.size, 1, none⟩ = some (.int .i64 ng) ∧ x.cell? ⟨w.heap.size, 2, none⟩ = some (.int .i64 ns) ∧ x.cell? ⟨w.heap.size, 3, none⟩ = some (.int .i64 nv) ∧ x.cell? ⟨w.heap.size, 4, none⟩ = some (.slice a n cap)) ∧ Below w.heap.size w x) := fun x hx => by
    obtain ⟨x0, x1, x2, x3, x4, _⟩ := (X0.later hx).fiveC
    exact ⟨⟨x0, x1, x2, x3, x4⟩, b0.trans (hx.mono b0.size)⟩
  clear X0 b0
  go_enter Tryz.func81, Tryz.ntmps81
  go_upto_region 1 with fail
  generalize w.alloc (.cells #[.int .i64 st, .int .i64 ng, .int .i64 ns, .int .i64 nv, .slice a n cap] 48) = W at HC ⊢
  obtain ⟨g, hg⟩ : ∃ g, w.heap.size = g := ⟨_, rfl⟩
  rw [hg] at HC ⊢
  obtain ⟨⟨c0, c1, c2, c3, c4⟩, bW⟩ := HC.out _ (Below.refl _ _)
  rw [← hg] at bW
  by_cases h1 : 1 ≤ st ∧ st ≤ 1000000000
  rotate_left
  · have HE : Hid (A = false) := HNO.out (fun c => h1 c.1.1)
    go_wp2_with (go_at_call 56; first | (refine (l01In_yes _ _ _ _ (by omega) (by omega)).mono ?_; rintro e w1 ⟨rfl, rfl⟩) | (refine (l01In_no _ _ _ _ (by omega)).mono ?_; rintro e w1 ⟨rfl, rfl⟩))
    go_ret
    exact ⟨by rw [HE.out]; rfl, by first | exact bW | (rw [← hg]; exact bW)⟩
  by_cases h2 : 1 ≤ ng ∧ ng ≤ 1000000000
  rotate_left
  · have HE : Hid (A = false) := HNO.out (fun c => h2 c.1.2.1)
    go_wp2_with (go_at_call 56; first | (refine (l01In_yes _ _ _ _ (by omega) (by omega)).mono ?_; rintro e w1 ⟨rfl, rfl⟩) | (refine (l01In_no _ _ _ _ (by omega)).mono ?_; rintro e w1 ⟨rfl, rfl⟩))
    go_ret
    exact ⟨by rw [HE.out]; rfl, by first | exact bW | (rw [← hg]; exact bW)⟩
  by_cases h3 : 1 ≤ ns ∧ ns ≤ 1000000000
  rotate_left
  · have HE : Hid (A = false) := HNO.out (fun c => h3 c.1.2.2.1)
    go_wp2_with (go_at_call 56; first | (refine (l01In_yes _ _ _ _ (by omega) (by omega)).mono ?_; rintro e w1 ⟨rfl, rfl⟩) | (refine (l01In_no _ _ _ _ (by omega)).mono ?_; rintro e w1 ⟨rfl, rfl⟩))
    go_ret
    exact ⟨by rw [HE.out]; rfl, by first | exact bW | (rw [← hg]; exact bW)⟩
  by_cases h4 : 1 ≤ nv ∧ nv ≤ 1000000000
  rotate_left
  · have HE : Hid (A = false) := HNO.out (fun c => h4 c.1.2.2.2)
    go_wp2_with (go_at_call 56; first | (refine (l01In_yes _ _ _ _ (by omega) (by omega)).mono ?_; rintro e w1 ⟨rfl, rfl⟩) | (refine (l01In_no _ _ _ _ (by omega)).mono ?_; rintro e w1 ⟨rfl, rfl⟩))
    go_ret
    exact ⟨by rw [HE.out]; rfl, by first | exact bW | (rw [← hg]; exact bW)⟩
  by_cases h5 : 1 ≤ n ∧ n ≤ 11
  rotate_left
  · have HE : Hid (A = false) := HNO.out (fun c => h5 c.2.1)
    go_wp2_with (go_at_call 56; first | (refine (l01In_yes _ _ _ _ (by omega) (by omega)).mono ?_; rintro e w1 ⟨rfl, rfl⟩) | (refine (l01In_no _ _ _ _ (by omega)).mono ?_; rintro e w1 ⟨rfl, rfl⟩))
    go_ret
    exact ⟨by rw [HE.out]; rfl, by first | exact bW | (rw [← hg]; exact bW)⟩
  have HBAD : Hid (∀ (i : Nat) (r : Rf), rs[i]? = some r → ¬ rfAt ng rs i r → A = false) := fun i r hr hb => HNO.out (fun c => hb (c.2.2 i r hr))
  have HGOOD : Hid ((∀ (i : Nat) (r : Rf), rs[i]? = some r → rfAt ng rs i r) → A = true) := fun hb => HYES.out ⟨⟨h1, h2, h3, h4⟩, h5, hb⟩
  clear HYES HNO bW
  go_wp2_with (go_at_call 56; first | (refine (l01In_yes _ _ _ _ (by omega) (by omega)).mono ?_; rintro e w1 ⟨rfl, rfl⟩) | (refine (l01In_no _ _ _ _ (by omega)).mono ?_; rintro e w1 ⟨rfl, rfl⟩))
  clear c0 c1 c2 c3 c4
  go_loopw [3] (fun iv wr => ∃ i : Nat, i ≤ n ∧ iv = .int .i64 (i : Int) ∧ Hid (∀ (k : Nat) (r : Rf), k < i → rs[k]? = some r → rfAt ng rs k r) ∧ Below W.heap.size W wr) (fun iv _ => n - (intOf iv).toNat)
  case atStart => exact ⟨0, by omega, rfl, fun k r hk => by omega, Below.refl _ _⟩
  case round =>
    obtain ⟨i, hi, rfl, HOK, bq⟩ := hrel
    obtain ⟨⟨c0, c1, c2, c3, c4⟩, bw⟩ := HC.out _ bq
    rw [← hg] at bw
    by_cases hlt : i < n
    · obtain ⟨r, hgr⟩ : ∃ r, rs[i]? = some r := ⟨_, List.getElem?_eq_getElem (by rw [HN.out]; exact hlt)⟩
      obtain ⟨gp, op, rfl, p0, p1⟩ := HR.out _ bw i _ hgr
      have HGR := Lib.hid hgr
      clear hgr
      obtain ⟨rN, rG⟩ := r
      simp only at p0 p1
      have hi0 : (0 : Int) ≤ (i : Int) := by omega
      have hi1 : (i : Int) < (n : Int) := by omega
      have XB := Box.new wr #[.int .i64 rN, .int .i64 rG] 124
      have k9 := belNew wr (.cells #[.int .i64 rN, .int .i64 rG] 124)
      have b9 := bq.trans (k9.mono bq.size)
      clear bq bw
      go_upto_region 7 with fail
      clear p0 p1 c0 c1 c2 c3 c4
      generalize wr.alloc (.cells #[.int .i64 rN, .int .i64 rG] 124) = w9 at XB b9 ⊢
      obtain ⟨g9, hg9⟩ : ∃ g9, wr.heap.size = g9 := ⟨_, rfl⟩
      rw [hg9] at XB ⊢
      clear hg9 k9
      have H9 : Hid (∀ x, Below w9.heap.size w9 x → (x.cell? ⟨g9, 0, none⟩ = some (.int .i64 rN) ∧ x.cell? ⟨g9, 1, none⟩ = some (.int .i64 rG)) ∧ (x.cell? ⟨g, 0, none⟩ = some (.int .i64 st) ∧ x.cell? ⟨g, 1, none⟩ = some (.int .i64 ng) ∧ x.cell? ⟨g, 2, none⟩ = some (.int .i64 ns) ∧ x.cell? ⟨g, 3, none⟩ = some (.int .i64 nv) ∧ x.cell? ⟨g, 4, none⟩ = some (.slice (some ⟨gp, op, none⟩) n cap)) ∧ Below w.heap.size w x ∧ Below W.heap.size W x) := fun x hx =>
        have hb := b9.trans (hx.mono b9.size)
        ⟨⟨(XB.later hx).cell 0 _ rfl, (XB.later hx).cell 1 _ rfl⟩, (HC.out _ hb).1, by have := (HC.out _ hb).2; rw [← hg] at this; exact this, hb⟩
      clear XB b9
      obtain ⟨F, hF0⟩ := someC (¬ ((0 ≤ rN ∧ rN ≤ 10) ∧ (1 ≤ rG ∧ rG ≤ ng - 1) ∧ ∀ p : Rf, 0 < i → rs[i - 1]? = some p → p.2 < rG))
      have hF := Lib.hid hF0
      clear hF0
      have hng : IntKind.i64.wrap (ng - 1) = ng - 1 := IntWalk.i64_in _ ⟨by omega, by omega⟩
      go_cut [75] (fun c wx => c = .bool F ∧ Below w9.heap.size w9 wx)
      case first =>
        obtain ⟨⟨d0, d1⟩, ⟨_, c1, _, _, c4⟩, bw, _⟩ := H9.out _ (Below.refl _ _)
        by_cases hv : 0 ≤ rN ∧ rN ≤ 10
        rotate_left
        · have HE : Hid (F = true) := hF.out.2 (fun c => hv c.1)
          clear hF HR HN HC HBAD HGOOD HOK HGR H9 bw
          go_quiet (first | (go_at_call 56; first | exact Calls.quiet_of_same (inC_yes _ _ _ _ (by omega) (by omega)) | exact Calls.quiet_of_same (inC_no _ _ _ _ (by omega))))
          go_wp2_with fail
          go_meet
          exact ⟨by rw [HE.out], below_drewN (Below.refl _ _) _⟩
        by_cases hu : 1 ≤ rG ∧ rG ≤ ng - 1
        rotate_left
        · have HE : Hid (F = true) := hF.out.2 (fun c => hu c.2.1)
          clear hF HR HN HC HBAD HGOOD HOK HGR H9 bw
          go_quiet (first | (go_at_call 56; first | exact Calls.quiet_of_same (inC_yes _ _ _ _ (by omega) (by omega)) | exact Calls.quiet_of_same (inC_no _ _ _ _ (by omega))))
          go_wp2_with fail
          go_meet
          exact ⟨by rw [HE.out], below_drewN (Below.refl _ _) _⟩
        rcases (show i = 0 ∨ ∃ j, i = j + 1 by cases i with | zero => exact .inl rfl | succ j => exact .inr ⟨j, rfl⟩) with rfl | ⟨j, rfl⟩
        · have hz : ¬ ((0 : Int) < ((0 : Nat) : Int)) := by omega
          have HE : Hid (F = false) := Bool.eq_false_iff.2 (fun h => hF.out.1 h ⟨hv, hu, fun p h => absurd h (Nat.lt_irrefl 0)⟩)
          clear hF HR HN HC HBAD HGOOD HOK HGR H9 bw
          go_quiet (first | (go_at_call 56; first | exact Calls.quiet_of_same (inC_yes _ _ _ _ (by omega) (by omega)) | exact Calls.quiet_of_same (inC_no _ _ _ _ (by omega))))
          go_wp2_with fail
          go_meet
          exact ⟨by rw [HE.out], below_drewN (Below.refl _ _) _⟩
        · obtain ⟨p, hgp⟩ : ∃ p, rs[j]? = some p := ⟨_, List.getElem?_eq_getElem (by rw [HN.out]; omega)⟩
          have hpos : (0 : Int) < (j : Int) + 1 := by omega
          have hj1 : (j : Int) < (n : Int) := by omega
          have hj0 : (0 : Int) ≤ (j : Int) := by omega
          obtain ⟨_, _, e0, _, t1⟩ := HR.out _ bw j _ hgp
          cases e0
          have HGP := Lib.hid hgp
          clear hgp
          obtain ⟨pN, pG⟩ := p
          simp only at t1
          have hwr : IntKind.i64.wrap ((j : Int) + 1 - 1) = (j : Int) := by rw [show (j : Int) + 1 - 1 = (j : Int) by omega]; exact IntWalk.i64_in _ ⟨by omega, by omega⟩
          have hwr2 : IntKind.i64.wrap (j : Int) = (j : Int) := IntWalk.i64_in _ ⟨by omega, by omega⟩
          by_cases hup : rG ≤ pG
          · have HE : Hid (F = true) := hF.out.2 (fun c => by have h1 := c.2.2 _ (Nat.succ_pos j) HGP.out; simp only at h1; omega)
            clear hF HR HN HC HBAD HGOOD HOK HGR H9 bw HGP
            go_quiet (first | (go_at_call 56; first | exact Calls.quiet_of_same (inC_yes _ _ _ _ (by omega) (by omega)) | exact Calls.quiet_of_same (inC_no _ _ _ _ (by omega))))
            go_wp2_with fail
            go_meet
            exact ⟨by rw [HE.out], below_drewN (Below.refl _ _) _⟩
          · have HE : Hid (F = false) := Bool.eq_false_iff.2 (fun h => hF.out.1 h ⟨hv, hu, fun p _ h => by have e := Option.some.inj (h.symm.trans HGP.out); rw [e]; simp only; omega⟩)
            clear hF HR HN HC HBAD HGOOD HOK HGR H9 bw HGP
            go_quiet (first | (go_at_call 56; first | exact Calls.quiet_of_same (inC_yes _ _ _ _ (by omega) (by omega)) | exact Calls.quiet_of_same (inC_no _ _ _ _ (by omega))))
            go_wp2_with fail
            go_meet
            exact ⟨by rw [HE.out], below_drewN (Below.refl _ _) _⟩
      case rest =>
        obtain ⟨rfl, k10⟩ := hcut
        cases F with
        | true =>
          have HE : Hid (A = false) := HBAD.out i _ HGR.out (fun c => hF.out.1 rfl ⟨c.1, c.2.1, c.2.2.1⟩)
          have bE := (H9.out _ k10).2.2.1
          go_wp2
          go_ret
          exact ⟨by rw [HE.out]; rfl, by first | exact bE | (rw [← hg]; exact bE)⟩
        | false =>
          have HP : Hid ((0 ≤ rN ∧ rN ≤ 10) ∧ (1 ≤ rG ∧ rG ≤ ng - 1) ∧ ∀ p : Rf, 0 < i → rs[i - 1]? = some p → p.2 < rG) := Classical.byContradiction (fun c => by have := hF.out.2 c; cases this)
          clear hF
          go_wp2
          go_loopw [5] (fun kv wq => ∃ k : Nat, k ≤ i ∧ kv = .int .i64 (k : Int) ∧ Hid (∀ (q : Nat) (y : Rf), q < k → rs[q]? = some y → y.1 ≠ rN) ∧ Below w9.heap.size w9 wq) (fun kv _ => i - (intOf kv).toNat)
          case atStart => exact ⟨0, by omega, rfl, fun q y hq => by omega, k10⟩
          case round =>
            clear k10
            obtain ⟨k, hk, rfl, HNOS, bq⟩ := hrel
            obtain ⟨⟨d0, d1⟩, ⟨_, _, _, _, c4⟩, bw, bWx⟩ := H9.out _ bq
            by_cases hlk : k < i
            · obtain ⟨y, hgy⟩ : ∃ y, rs[k]? = some y := ⟨_, List.getElem?_eq_getElem (by rw [HN.out]; omega)⟩
              obtain ⟨_, _, e0, t0, _⟩ := HR.out _ bw k _ hgy
              cases e0
              have HGY := Lib.hid hgy
              clear hgy
              obtain ⟨yN, yG⟩ := y
              simp only at t0
              have hk0 : (0 : Int) ≤ (k : Int) := by omega
              have hk1 : (k : Int) < (n : Int) := by omega
              have hk2 : (k : Int) < (i : Int) := by omega
              by_cases he : yN = rN
              · subst he
                have HE : Hid (A = false) := HBAD.out i _ HGR.out (fun c => c.2.2.2 k _ hlk HGY.out rfl)
                clear HNOS HGY HR HN HC HBAD HGOOD HOK HGR H9 HP
                go_wp2
                go_quiet (fail)
                go_wp2
                go_ret
                exact ⟨by rw [HE.out]; rfl, by first | exact below_drewN bw _ | (rw [← hg]; exact below_drewN bw _)⟩
              · have he' : (yN == rN) = false := beq_eq_false_iff_ne.2 he
                have HS : Hid (∀ (q : Nat) (y : Rf), q < k + 1 → rs[q]? = some y → y.1 ≠ rN) := fun q y hq hy => by
                  rcases Nat.lt_succ_iff_lt_or_eq.1 hq with h | rfl
                  · exact HNOS.out q y h hy
                  · have e := Option.some.inj (hy.symm.trans HGY.out); rw [e]; exact he
                clear HNOS HGY bw bWx
                go_wp2
                go_quiet (fail)
                go_wp2
                go_roundw
                case rel => exact ⟨k + 1, by omega, by go_num, HS, below_drewN bq _⟩
                case measure => simp [intOf]; omega
            · have hki : Hid (i = k) := by show i = k; omega
              have HNB : Hid (∀ (q : Nat) (y : Rf), q < i → rs[q]? = some y → y.1 ≠ rN) := by rw [hki.out]; exact HNOS.out
              have hk2 : ¬ (k : Int) < (i : Int) := by omega
              have HS : Hid (∀ (k : Nat) (r : Rf), k < i + 1 → rs[k]? = some r → rfAt ng rs k r) := fun q y hq hy => by
                rcases Nat.lt_succ_iff_lt_or_eq.1 hq with h | rfl
                · exact HOK.out q y h hy
                · have e := Option.some.inj (hy.symm.trans HGR.out); rw [e]; exact ⟨HP.out.1, HP.out.2.1, HP.out.2.2, HNB.out⟩
              clear HNOS hki d0 d1 c4 bw
              go_wp2
              go_roundw
              case rel => exact ⟨i + 1, by omega, by go_num, HS, bWx⟩
              case measure => simp [intOf]; omega
    · have hge : ¬ (i : Int) < (n : Int) := by omega
      have HE : Hid (A = true) := HGOOD.out (fun k r hr => HOK.out k r (by have := (List.getElem?_eq_some_iff.1 hr).1; rw [HN.out] at this; omega) hr)
      go_wp2
      go_ret
      exact ⟨by rw [HE.out]; rfl, by first | exact bw | (rw [← hg]; exact bw)⟩

end Go.Proofs.YtieenkloiicnkaaGreatDoor

/- CheckText of the model. -/
namespace Go.Proofs.YtieenkloiicnkaaGreatDoor
open Go.RowKit

set_option maxRecDepth 100000 in
set_option maxHeartbeats 8000000 in
theorem specCheckText_any (c : Ck) (a : Option Addr) (cap : Nat) (w : World) (h : Rows' rfE w (.slice a c.refs.length cap) c.refs) (hl : c.refs.length ≤ 1048576) :
    Calls Tryz.prog 43 #[.agg #[.int .i64 c.st, .int .i64 c.ng, .int .i64 c.ns, .int .i64 c.nv, .slice a c.refs.length cap]] w fun e w' => e = .returned (ctT c) ∧ Below w.heap.size w w' := by
  have HOKW := Lib.hid (fun (x : World) (hx : Below w.heap.size w x) => specCheckOk_any c a cap x (h.later hx) hl)
  obtain ⟨_, _, hv, hrow⟩ := h.refs
  cases hv
  have HR := Lib.hid hrow
  clear h hrow
  have HYES := Lib.hid (fun (e : ckB c = true) => And.intro (ctT_yes e) (ckB_iff.1 e))
  have HNO := Lib.hid (fun (e : ckB c = false) => ctT_no e)
  have HBD := Lib.hid (fun (e : c.ok) => ckBd_len e)
  have HSE := Lib.hid (fun (e : c.ok) => ckSe_len e)
  have HIN := Lib.hid (fun (e : c.ok) (i : Nat) (r : Rf) (hr : c.refs[i]? = some r) => c.ref_in e hr)
  have HST := Lib.hid (fun (i : Nat) (r : Rf) (hr : c.refs[i]? = some r) => ckBd_step hr)
  have HZ := Lib.hid (ckBd_zero c)
  have HDE : Hid (ckSe c = ckBd c c.refs.length ++ fourOf (ckBd c c.refs.length) ∧ ckTx c = shB (ckSe c)) := ⟨rfl, rfl⟩
  have HNU : Hid (c.ok → (numIn c.st ∧ numIn c.ng ∧ numIn c.ns ∧ numIn c.nv) ∧ c.refs.length ≤ 11) := fun e => ⟨e.1, e.2.1.2⟩
  obtain ⟨Q, hQ⟩ : ∃ Q, c.ok = Q := ⟨_, rfl⟩
  obtain ⟨D, hD⟩ : ∃ D, ckB c = D := ⟨_, rfl⟩
  obtain ⟨TT, hTT⟩ : ∃ TT, ctT c = TT := ⟨_, rfl⟩
  obtain ⟨TX, hTX⟩ : ∃ TX, ckTx c = TX := ⟨_, rfl⟩
  obtain ⟨SE, hSE⟩ : ∃ SE, ckSe c = SE := ⟨_, rfl⟩
  obtain ⟨BD, hBD⟩ : ∃ BD, ckBd c = BD := ⟨_, rfl⟩
  rw [hQ, hD, hTT, hTX] at HYES
  rw [hD, hTT] at HNO
  rw [hQ, hBD] at HBD
  rw [hQ, hBD, hSE, hTX] at HSE
  rw [hQ] at HIN HNU
  rw [hBD] at HST HZ
  rw [hBD, hSE, hTX] at HDE
  rw [hD] at HOKW
  rw [hTT]
  clear hQ hD hTT hTX hSE hBD
  obtain ⟨st, ng, ns, nv, rs⟩ := c
  simp only at HOKW HR HBD HSE HIN HST HZ HDE HNU hl ⊢
  obtain ⟨n, hn⟩ : ∃ n, rs.length = n := ⟨_, rfl⟩
  rw [hn] at hl HOKW HBD HSE HZ HDE HNU ⊢
  have HN := Lib.hid hn
  clear hn
  have X0 := Box.new w #[.int .i64 st, .int .i64 ng, .int .i64 ns, .int .i64 nv, .slice a n cap] 48
  have b0 := belNew w (.cells #[.int .i64 st, .int .i64 ng, .int .i64 ns, .int .i64 nv, .slice a n cap] 48)
  have HC : Hid (∀ x, Below (w.alloc (.cells #[.int .i64 st, .int .i64 ng, .int .i64 ns, .int .i64 nv, .slice a n cap] 48)).heap.size (w.alloc (.cells #[.int .i64 st, .int .i64 ng, .int .i64 ns, .int .i64 nv, .slice a n cap] 48)) x → (x.cell? ⟨w.heap.size, 0, none⟩ = some (.int .i64 st) ∧ x.cell? ⟨w.heap.size, 1, none⟩ = some (.int .i64 ng) ∧ x.cell? ⟨w.heap.size, 2, none⟩ = some (.int .i64 ns) ∧ x.cell? ⟨w.heap.size, 3, none⟩ = some (.int .i64 nv) ∧ x.cell? ⟨w.heap.size, 4, none⟩ = some (.slice a n cap)) ∧ Below w.heap.size w x) := fun x hx => by
    obtain ⟨x0, x1, x2, x3, x4, _⟩ := (X0.later hx).fiveC
    exact ⟨⟨x0, x1, x2, x3, x4⟩, b0.trans (hx.mono b0.size)⟩
  obtain ⟨x0, x1, x2, x3, x4, _⟩ := X0.fiveC
  clear X0 b0
  go_enter Tryz.func43, Tryz.ntmps43
  go_wp2_with fail
  clear x0 x1 x2 x3 x4
  generalize w.alloc (.cells #[.int .i64 st, .int .i64 ng, .int .i64 ns, .int .i64 nv, .slice a n cap] 48) = W at HC ⊢
  obtain ⟨g, hg⟩ : ∃ g, w.heap.size = g := ⟨_, rfl⟩
  replace HC : Hid (∀ x, Below W.heap.size W x → (x.cell? ⟨g, 0, none⟩ = some (.int .i64 st) ∧ x.cell? ⟨g, 1, none⟩ = some (.int .i64 ng) ∧ x.cell? ⟨g, 2, none⟩ = some (.int .i64 ns) ∧ x.cell? ⟨g, 3, none⟩ = some (.int .i64 nv) ∧ x.cell? ⟨g, 4, none⟩ = some (.slice a n cap)) ∧ Below w.heap.size w x) := by rw [hg] at HC ⊢; exact HC
  simp only [hg]
  have HG := Lib.hid hg
  clear hg
  refine (HOKW.out _ (HC.out _ (Below.refl _ _)).2).mono ?_
  rintro e w1 ⟨rfl, k1⟩
  clear HOKW
  cases D with
  | false =>
    have HE := Lib.hid (HNO.out rfl)
    have bE := (HC.out _ k1).2
    go_wp2
    go_ret2
    exact ⟨by rw [HE.out]; rfl, by first | exact bE | (rw [← HG.out]; exact bE)⟩
  | true =>
    have HOK := Lib.hid (HYES.out rfl).2
    have HE := Lib.hid (HYES.out rfl).1
    obtain ⟨⟨h1, h2, h3, h4⟩, h5⟩ := HNU.out HOK.out
    unfold numIn at h1 h2 h3 h4
    have HL1 := Lib.hid (fun x => l01VarZ_any st x (by omega) (by omega))
    have HL2 := Lib.hid (fun x => l01VarZ_any ng x (by omega) (by omega))
    have HL3 := Lib.hid (fun x => l01VarZ_any ns x (by omega) (by omega))
    have HL4 := Lib.hid (fun x => l01VarZ_any nv x (by omega) (by omega))
    have HL5 := Lib.hid (fun x => l01VarZ_any (n : Int) x (by omega) (by omega))
    have z1 := vtB_five (n := st.toNat) (by omega)
    have z2 := vtB_five (n := ng.toNat) (by omega)
    have z3 := vtB_five (n := ns.toNat) (by omega)
    have z4 := vtB_five (n := nv.toNat) (by omega)
    have z5 := vtB_five (n := n) (by omega)
    rw [Int.toNat_natCast] at HL5
    obtain ⟨V1, hV1⟩ : ∃ V, vtB st.toNat = V := ⟨_, rfl⟩
    obtain ⟨V2, hV2⟩ : ∃ V, vtB ng.toNat = V := ⟨_, rfl⟩
    obtain ⟨V3, hV3⟩ : ∃ V, vtB ns.toNat = V := ⟨_, rfl⟩
    obtain ⟨V4, hV4⟩ : ∃ V, vtB nv.toNat = V := ⟨_, rfl⟩
    obtain ⟨V5, hV5⟩ : ∃ V, vtB n = V := ⟨_, rfl⟩
    rw [hV1] at HL1 z1 HZ
    rw [hV2] at HL2 z2 HZ
    rw [hV3] at HL3 z3 HZ
    rw [hV4] at HL4 z4 HZ
    rw [hV5] at HL5 z5 HZ
    clear hV1 hV2 hV3 hV4 hV5 HYES HNO HNU
    have ad1 := fun wx => run_string_add_sum (P := Tryz.prog) (w := wx) V1 V2 (by omega)
    have y1 : (V1 ++ V2).size ≤ 10 := by rw [ByteArray.size_append]; omega
    obtain ⟨U1, hU1⟩ : ∃ U, V1 ++ V2 = U := ⟨_, rfl⟩
    rw [hU1] at ad1 y1 HZ
    have ad2 := fun wx => run_string_add_sum (P := Tryz.prog) (w := wx) U1 V3 (by omega)
    have y2 : (U1 ++ V3).size ≤ 15 := by rw [ByteArray.size_append]; omega
    obtain ⟨U2, hU2⟩ : ∃ U, U1 ++ V3 = U := ⟨_, rfl⟩
    rw [hU2] at ad2 y2 HZ
    have ad3 := fun wx => run_string_add_sum (P := Tryz.prog) (w := wx) U2 V4 (by omega)
    have y3 : (U2 ++ V4).size ≤ 20 := by rw [ByteArray.size_append]; omega
    obtain ⟨U3, hU3⟩ : ∃ U, U2 ++ V4 = U := ⟨_, rfl⟩
    rw [hU3] at ad3 y3 HZ
    have ad4 := fun wx => run_string_add_sum (P := Tryz.prog) (w := wx) U3 V5 (by omega)
    obtain ⟨U4, hU4⟩ : ∃ U, U3 ++ V5 = U := ⟨_, rfl⟩
    rw [hU4] at ad4 HZ
    clear hU1 hU2 hU3 hU4 y1 y2 y3 z1 z2 z3 z4 z5
    have kk : Below W.heap.size W w1.drew := k1.drew
    obtain ⟨c0, c1, c2, c3, c4⟩ := (HC.out _ kk).1
    go_upto_region 3 with fail
    go_cut [4] (fun c wx => c = .string (BD 0) ∧ Below W.heap.size W wx)
    case first =>
      clear k1 HIN HST HBD HSE HDE HR
      go_region_held3 (fun x => x.cell? ⟨g, 0, none⟩ = some (.int .i64 st) ∧ x.cell? ⟨g, 1, none⟩ = some (.int .i64 ng) ∧ x.cell? ⟨g, 2, none⟩ = some (.int .i64 ns) ∧ x.cell? ⟨g, 3, none⟩ = some (.int .i64 nv) ∧ x.cell? ⟨g, 4, none⟩ = some (.slice a n cap))
        (first | exact (HC.out _ kk).1)
        (first
          | (go_at_call 82; first
            | (with_reducible refine (HL1.out _).mono ?_; rintro e wX ⟨rfl, kX⟩; have kk := kk.trans (kX.mono kk.size); clear kX)
            | (with_reducible refine (HL2.out _).mono ?_; rintro e wX ⟨rfl, kX⟩; have kk := kk.trans (kX.mono kk.size); clear kX)
            | (with_reducible refine (HL3.out _).mono ?_; rintro e wX ⟨rfl, kX⟩; have kk := kk.trans (kX.mono kk.size); clear kX)
            | (with_reducible refine (HL4.out _).mono ?_; rintro e wX ⟨rfl, kX⟩; have kk := kk.trans (kX.mono kk.size); clear kX)
            | (with_reducible refine (HL5.out _).mono ?_; rintro e wX ⟨rfl, kX⟩; have kk := kk.trans (kX.mono kk.size); clear kX)))
      all_goals
        go_wp2_with fail
        go_meet
        exact ⟨by rw [HZ.out], kk⟩
    case rest =>
      obtain ⟨rfl, k2⟩ := hcut
      clear c0 c1 c2 c3 c4 ad1 ad2 ad3 ad4 HL1 HL2 HL3 HL4 HL5 kk k1
      go_wp2_with fail
      go_loopw [4, 5] (fun sv iv wr => ∃ i : Nat, i ≤ n ∧ iv = .int .i64 (i : Int) ∧ sv = .string (BD i) ∧ Below W.heap.size W wr) (fun _ iv _ => n - (intOf iv).toNat)
      case atStart => exact ⟨0, by omega, rfl, rfl, k2⟩
      case round =>
        clear k2
        obtain ⟨i, hi, rfl, rfl, bq⟩ := hrel
        obtain ⟨⟨c0, c1, c2, c3, c4⟩, bw⟩ := HC.out _ bq
        by_cases hlt : i < n
        · obtain ⟨r, hgr⟩ : ∃ r, rs[i]? = some r := ⟨_, List.getElem?_eq_getElem (by rw [HN.out]; exact hlt)⟩
          have hin := HIN.out HOK.out i r hgr
          have HS := Lib.hid (HST.out i r hgr)
          have hbl := HBD.out HOK.out i (by omega)
          have HROW : Hid (∀ X, Below w.heap.size w X → ∃ g off, a = some ⟨g, off, none⟩ ∧ X.cell? ⟨g, off + i * 2, none⟩ = some (.int .i64 r.1) ∧ X.cell? ⟨g, off + i * 2 + 1, none⟩ = some (.int .i64 r.2)) := fun X hX => HR.out X hX i r hgr
          clear hgr
          obtain ⟨rN, rG⟩ := r
          simp only at hin HS HROW
          have HL1 := Lib.hid (fun x => l01VarZ_any rN x (by omega) (by omega))
          have HL2 := Lib.hid (fun x => l01VarZ_any rG x (by omega) (by omega))
          have z1 := vtB_five (n := rN.toNat) (by omega)
          have z2 := vtB_five (n := rG.toNat) (by omega)
          obtain ⟨V1, hV1⟩ : ∃ V, vtB rN.toNat = V := ⟨_, rfl⟩
          obtain ⟨V2, hV2⟩ : ∃ V, vtB rG.toNat = V := ⟨_, rfl⟩
          rw [hV1] at HL1 z1 HS
          rw [hV2] at HL2 z2 HS
          clear hV1 hV2
          obtain ⟨B1, hB1⟩ : ∃ B, BD (i + 1) = B := ⟨_, rfl⟩
          rw [hB1] at HS
          have HB1 := Lib.hid hB1
          clear hB1
          generalize BD i = B0 at HS hbl
          have ad1 := fun wx => run_string_add_sum (P := Tryz.prog) (w := wx) B0 V1 (by omega)
          have y1 : (B0 ++ V1).size ≤ 1000 := by rw [ByteArray.size_append]; omega
          obtain ⟨U1, hU1⟩ : ∃ U, B0 ++ V1 = U := ⟨_, rfl⟩
          rw [hU1] at ad1 y1 HS
          have ad2 := fun wx => run_string_add_sum (P := Tryz.prog) (w := wx) U1 V2 (by omega)
          obtain ⟨U2, hU2⟩ : ∃ U, U1 ++ V2 = U := ⟨_, rfl⟩
          rw [hU2] at ad2 HS
          clear hU1 hU2 y1 z1 z2
          have hi0 : (0 : Int) ≤ (i : Int) := by omega
          have hi1 : (i : Int) < (n : Int) := by omega
          have kk : Below W.heap.size W wr.drew := bq.drew
          obtain ⟨gp, op, rfl, _, _⟩ := HROW.out _ bw
          have HX : Hid (∀ X, Below W.heap.size W X → (X.cell? ⟨g, 4, none⟩ = some (.slice (some ⟨gp, op, none⟩) n cap) ∧ X.cell? ⟨gp, op + i * 2, none⟩ = some (.int .i64 rN) ∧ X.cell? ⟨gp, op + i * 2 + 1, none⟩ = some (.int .i64 rG))) := fun X hX => by
            obtain ⟨⟨_, _, _, _, e4⟩, bX⟩ := HC.out X hX
            obtain ⟨_, _, e0, q0, q1⟩ := HROW.out X bX
            cases e0
            exact ⟨e4, q0, q1⟩
          obtain ⟨d0, d1, d2⟩ := HX.out _ kk
          go_upto_region 7 with fail
          clear HR HIN HST HBD HSE HDE HROW HZ HE c0 c1 c2 c3 c4 bq bw
          go_region_held3 (fun X => X.cell? ⟨g, 4, none⟩ = some (.slice (some ⟨gp, op, none⟩) n cap) ∧ X.cell? ⟨gp, op + i * 2, none⟩ = some (.int .i64 rN) ∧ X.cell? ⟨gp, op + i * 2 + 1, none⟩ = some (.int .i64 rG))
            (first | exact HX.out _ kk)
            (first
              | (go_at_call 82; first
                | (with_reducible refine (HL1.out _).mono ?_; rintro e wX ⟨rfl, kX⟩; have kk := kk.trans (kX.mono kk.size); clear kX)
                | (with_reducible refine (HL2.out _).mono ?_; rintro e wX ⟨rfl, kX⟩; have kk := kk.trans (kX.mono kk.size); clear kX)))
          all_goals
            clear d0 d1 d2
            go_wp2_with fail
            go_roundw
            case rel => exact ⟨i + 1, by omega, by go_num, by rw [HB1.out, HS.out], kk⟩
            case measure => simp [intOf]; omega
        · have hge : ¬ (i : Int) < (n : Int) := by omega
          have hin : i = n := by omega
          obtain ⟨s1, s2, s3⟩ := HSE.out HOK.out
          rw [hin] at hge ⊢
          obtain ⟨hd1, hd2⟩ := HDE.out
          obtain ⟨BN, hBN⟩ : ∃ B, BD n = B := ⟨_, rfl⟩
          rw [hBN] at s1 hd1 ⊢
          have HSEL := Lib.hid (seT_yes (s := BN) (by omega))
          rw [← hd1] at HSEL
          have HSS := Lib.hid (fun x => specSealed_any BN x (by omega))
          have HSH := Lib.hid (fun x => specShortB_any SE x (by omega))
          rw [← hd2] at HSH
          have h128 : ¬ (128 : Int) < (TX.size : Int) := by omega
          have HBW := Lib.hid bw
          clear hd1 hd2 hBN bq bw s1 s2 hin HSE HDE HBD HIN HST HZ
          go_wp2_with (first
            | (go_at_call 83; refine (HSS.out _).mono ?_; rintro e w8 ⟨rfl, k8⟩; rw [HSEL.out])
            | (go_at_call 84; refine (HSH.out _).mono ?_; rintro e w9 ⟨rfl, k9⟩))
          go_ret2
          have bE := (HBW.out.trans (k8.mono HBW.out.size)).trans (k9.mono (HBW.out.trans (k8.mono HBW.out.size)).size)
          exact ⟨by rw [HE.out]; rfl, by first | exact bE | (rw [← HG.out]; exact bE)⟩

end Go.Proofs.YtieenkloiicnkaaGreatDoor

/- WriteBytes of the model beyond the disk. -/
namespace Go.Proofs.YtieenkloiicnkaaGreatDoor
open Go.RowKit

set_option maxRecDepth 100000 in
set_option maxHeartbeats 600000 in
theorem specWriteBytes_far (d : Dk) (v : Value) (se : Nat) (t : ByteArray) (B T : Nat) (w : World) (h : DOwn B T w v d) (hok : d.ok) (hse : ¬ se < d.sec.length) :
    Calls Tryz.prog 46 #[v, .int .i64 (se : Int), .int .i64 0, .string t] w fun e w' => DiskR d false w e w' := by
  obtain ⟨aa, ab, ca, cb, rfl⟩ := h.form
  obtain ⟨hsm, hts, htu⟩ := Dk.ok_small hok
  obtain ⟨hx0, hx1, b0, hsz⟩ := two_boxes w #[.slice aa d.sec.length ca, .slice ab d.cache.length cb] #[.slice none 0 0, .slice none 0 0] 33 33
  have h' := h.later b0
  have hl100 := hok.2.1
  have g4 : ¬ ((0 : Int) ≤ (se : Int) ∧ (se : Int) ≤ (d.sec.length : Int) - 1) := by omega
  go_enter Tryz.func46, Tryz.ntmps46
  go_wp2_with fail
  generalize ((w.alloc (.cells #[.slice aa d.sec.length ca, .slice ab d.cache.length cb] 33)).alloc (.cells #[.slice none 0 0, .slice none 0 0] 33)) = W at hx0 hx1 b0 hsz h' ⊢
  refine (specCopy_any d _ B T _ h' hsm).mono ?_
  rintro e w2 ⟨v2, rfl, o2, k2⟩
  obtain ⟨a1, a2, q1, q2, rfl⟩ := o2.form
  have k3 := belNew w2 (.cells #[.slice a1 d.sec.length q1, .slice a2 d.cache.length q2] 33)
  have XO := Box.new w2 #[.slice a1 d.sec.length q1, .slice a2 d.cache.length q2] 33
  have j3 := k2.trans (k3.mono k2.size)
  have hzW := b0.size
  replace hx0 := hx0.later j3
  replace hx1 := hx1.later j3
  have o3 := o2.later k3
  have b3 := b0.trans (j3.mono b0.size)
  go_upto_region 2 with fail
  generalize w2.alloc (.cells #[.slice a1 d.sec.length q1, .slice a2 d.cache.length q2] 33) = w3 at hx0 hx1 XO o3 b3 ⊢
  clear k3 j3 o2 k2 h' h
  generalize w2.heap.size = g2 at XO o3 ⊢
  have c0 := hx0.cell 0 (.slice aa d.sec.length ca) rfl
  obtain ⟨z0, z1⟩ : _ ∧ _ := ⟨XO.cell 0 _ rfl, XO.cell 1 _ rfl⟩
  obtain ⟨x0, x1, f0, f1⟩ : _ ∧ _ ∧ _ ∧ _ := ⟨hx1.cell 0 _ rfl, hx1.cell 1 _ rfl, hx1.loose 0, hx1.loose 1⟩
  have rX := (hx1.set 0 (.slice a1 d.sec.length q1)).set 1 (.slice a2 d.cache.length q2)
  have HR : Hid (DiskR d false w (.returned (.tuple #[.agg #[.slice a1 d.sec.length q1, .slice a2 d.cache.length q2], .bool false])) ((w3.setCell ⟨w.heap.size + 1, 0, none⟩ (.slice a1 d.sec.length q1)).setCell ⟨w.heap.size + 1, 1, none⟩ (.slice a2 d.cache.length q2))) := by
    refine ⟨_, rfl, ?_, (b3.setCell (p := ⟨w.heap.size + 1, 0, none⟩) (by simp) _).setCell (p := ⟨w.heap.size + 1, 1, none⟩) (by simp) _⟩
    have := (((o3.base hzW).boxStore hx1 0 (.slice a1 d.sec.length q1)).boxStore (hx1.set 0 (.slice a1 d.sec.length q1)) 1 (.slice a2 d.cache.length q2)).top
    simpa using this
  have q0 := rX.cell 0 (.slice a1 d.sec.length q1) rfl
  have q3 := rX.cell 1 (.slice a2 d.cache.length q2) rfl
  clear rX o3 hx0 hx1 XO b3
  go_wp2_with (first
    | (go_at_call 56; refine (in_yes _ _ _ _ (by omega) (by omega)).mono ?_; rintro e w5 ⟨rfl, rfl⟩)
    | (go_at_call 56; refine (in_no _ _ _ _ (by omega)).mono ?_; rintro e w5 ⟨rfl, rfl⟩))
  refine bodyPost_ret (v := .tuple #[.agg #[.slice a1 d.sec.length q1, .slice a2 d.cache.length q2], .bool false]) (by simp [results, Tryz.results46, go_sem, q0, q3]) rfl ?_
  exact HR.out


end Go.Proofs.YtieenkloiicnkaaGreatDoor
