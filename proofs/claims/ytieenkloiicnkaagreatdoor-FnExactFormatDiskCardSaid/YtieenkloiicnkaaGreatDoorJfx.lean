/- Texts of our own, joined. -/
import Derived.Test.YtieenkloiicnkaaGreatDoorJt
import Derived.Test.YtieenkloiicnkaaGreatDoorJdx
import Derived.Test.YtieenkloiicnkaaGreatDoorJex
/- WriteCheck of the model. -/
namespace Go.Proofs.YtieenkloiicnkaaGreatDoor
open Go.RowKit

theorem specWriteBytes_at (d : Dk) (v : Value) (c : Ck) (hc : (ckTx c).size ≤ 1000000) (B T : Nat) (w : World) (h : DOwn B T w v d) (hok : d.ok) :
    Calls Tryz.prog 46 #[v, .int .i64 (regN c : Int), .int .i64 0, .string (ckTx c)] w fun e w' => ∃ (d' : Dk) (f : Bool), (f = true → regN c < d.sec.length ∧ wbL d (regN c) 0 (ckTx c).data.toList = some d') ∧ (f = false → ¬ regN c < d.sec.length ∨ wbL d (regN c) 0 (ckTx c).data.toList = none) ∧ DiskR d' f w e w' := by
  by_cases hse : regN c < d.sec.length
  · refine (specWriteBytes_wb d v (regN c) 0 (ckTx c) B T w h hok hse (by omega) hc).mono ?_
    rintro e w' ⟨d', f, _, _, _, h1, _, hr⟩
    simp only [Nat.zero_div, Nat.add_zero, Nat.zero_mod] at h1
    cases f with
    | false => exact ⟨d', false, (fun e => by cases e), fun _ => .inr (by simpa using h1), hr⟩
    | true => exact ⟨d', true, fun _ => ⟨hse, by simpa using h1⟩, (fun e => by cases e), hr⟩
  · exact (specWriteBytes_far d v (regN c) (ckTx c) B T w h hok hse).mono fun e w' hr => ⟨d, false, (fun e => by cases e), fun _ => .inl hse, hr⟩

set_option maxRecDepth 100000 in
set_option maxHeartbeats 2000000 in
theorem specWriteCheck_any (d : Dk) (c : Ck) (v : Value) (a : Option Addr) (cap B T : Nat) (w : World) (h : DOwn B T w v d) (hsm : d.small) (hts : ∀ s ∈ d.sec, s.size ≤ 1099511627776) (htu : ∀ x ∈ d.cache, x.text.size ≤ 1099511627776) (hr : Rows' rfE w (.slice a c.refs.length cap) c.refs) (hl : c.refs.length ≤ 1048576) :
    Calls Tryz.prog 16 #[v, .agg #[.int .i64 c.st, .int .i64 c.ng, .int .i64 c.ns, .int .i64 c.nv, .slice a c.refs.length cap]] w fun e w' => DiskR ((wcO d c).getD d) (wcO d c).isSome w e w' := by
  obtain ⟨aa, ab, ca, cb, rfl⟩ := h.form
  obtain ⟨X0, X1, X2, b0, hsz⟩ := three_boxes w #[.slice aa d.sec.length ca, .slice ab d.cache.length cb] #[.int .i64 c.st, .int .i64 c.ng, .int .i64 c.ns, .int .i64 c.nv, .slice a c.refs.length cap] #[.slice none 0 0, .slice none 0 0] 33 48 33
  have h' := h.later b0
  have HTX := Lib.hid (specCheckText_any c a cap _ (hr.later b0) hl)
  have HOKS : Hid (ckB c = true → (IntKind.i64.wrap (Int.tmod c.st 2) = ((c.st % 2).toNat : Int) ∧ Int.tmod c.st 2 = ((c.st % 2).toNat : Int)) ∧ IntKind.i64.wrap (4 * ((c.st % 2).toNat : Int)) = (regN c : Int) ∧ 4 * ((c.st % 2).toNat : Int) = (regN c : Int) ∧ (ckTx c).size ≤ 1000000) := fun hb => by
    have hok := ckB_iff.1 hb
    have hst : 1 ≤ c.st := hok.1.1.1
    have e1 : Int.tmod c.st 2 = c.st % 2 := Int.tmod_eq_emod_of_nonneg (by omega)
    have := (ckSe_len hok).2.2
    refine ⟨⟨?_, by rw [e1]; omega⟩, ?_, by unfold regN; omega, by omega⟩
    · rw [e1, IntWalk.i64_in _ ⟨by omega, by omega⟩]; omega
    · rw [IntWalk.i64_in _ ⟨by omega, by omega⟩]; unfold regN; omega
  clear h hr hl
  obtain ⟨O, hO⟩ : ∃ O, wcO d c = O := ⟨_, rfl⟩
  have HO := Lib.hid hO
  rw [hO]
  clear hO
  obtain ⟨n, hn⟩ : ∃ n, c.refs.length = n := ⟨_, rfl⟩
  rw [hn] at X1 HTX X0 X2 b0 hsz h' ⊢
  clear hn
  obtain ⟨y0, y1, y2, y3, y4⟩ := X1.fiveW
  go_enter Tryz.func16, Tryz.ntmps16
  go_wp2_with fail
  clear y0 y1 y2 y3 y4
  generalize (((w.alloc (.cells #[.slice aa d.sec.length ca, .slice ab d.cache.length cb] 33)).alloc (.cells #[.int .i64 c.st, .int .i64 c.ng, .int .i64 c.ns, .int .i64 c.nv, .slice a n cap] 48)).alloc (.cells #[.slice none 0 0, .slice none 0 0] 33)) = W at X0 X1 X2 b0 hsz h' HTX ⊢
  refine HTX.out.mono ?_
  rintro e w1 ⟨rfl, k1⟩
  clear HTX
  replace X0 := X0.later k1
  replace X1 := X1.later k1
  replace X2 := X2.later k1
  replace h' := h'.later k1
  have b1 := b0.trans (k1.mono b0.size)
  clear b0 hsz k1
  have HCOPY : Hid (∀ (x : World), Below w1.heap.size w1 x → Box x w.heap.size #[.slice aa d.sec.length ca, .slice ab d.cache.length cb] 33 ∧ Box x (w.heap.size + 2) #[.slice none 0 0, .slice none 0 0] 33 ∧ Box x (w.heap.size + 1) #[.int .i64 c.st, .int .i64 c.ng, .int .i64 c.ns, .int .i64 c.nv, .slice a n cap] 48 ∧ DOwn B T x (.agg #[.slice aa d.sec.length ca, .slice ab d.cache.length cb]) d ∧ Below w.heap.size w x) := fun x hx => ⟨X0.later hx, X2.later hx, X1.later hx, h'.later hx, b1.trans (hx.mono b1.size)⟩
  have HEND : Hid (∀ (E : Dk) (f : Bool) (p1 p2 : Option Addr) (r1 r2 C : Nat) (x : World), w.heap.size ≤ C → Box x (w.heap.size + 2) #[.slice none 0 0, .slice none 0 0] 33 → Below w.heap.size w x → DOwn C x.heap.size x (.agg #[.slice p1 E.sec.length r1, .slice p2 E.cache.length r2]) E → DiskR E f w (.returned (.tuple #[.agg #[.slice p1 E.sec.length r1, .slice p2 E.cache.length r2], .bool f])) ((x.setCell ⟨w.heap.size + 2, 0, none⟩ (.slice p1 E.sec.length r1)).setCell ⟨w.heap.size + 2, 1, none⟩ (.slice p2 E.cache.length r2))) := by
    intro E f p1 p2 r1 r2 C x hC xX bX oX
    refine ⟨_, rfl, ?_, (bX.setCell (p := ⟨w.heap.size + 2, 0, none⟩) (by simp) _).setCell (p := ⟨w.heap.size + 2, 1, none⟩) (by simp) _⟩
    have := ((oX.base hC).boxStore xX 0 (.slice p1 E.sec.length r1)).boxStore (xX.set 0 (.slice p1 E.sec.length r1)) 1 (.slice p2 E.cache.length r2)
    simpa using this
  cases hcb : ckB c with
  | false =>
    have HOO : Hid (O = none) := HO.out.symm.trans (wcO_bad (d := d) hcb)
    rw [ctT_no hcb]
    clear hcb HOKS X1
    obtain ⟨m0, m1⟩ : _ ∧ _ := ⟨X0.cell 0 _ rfl, X0.cell 1 _ rfl⟩
    clear X0 X2
    go_wp2_with fail
    clear m0 m1
    refine (specCopy_any d _ B T _ h' hsm).mono ?_
    rintro e wX ⟨vX, rfl, oX, kX⟩
    obtain ⟨p1, p2, r1, r2, rfl⟩ := oX.form
    obtain ⟨_, xX, _, _, bX⟩ := HCOPY.out _ kX
    obtain ⟨x0, x1, f0, f1⟩ : _ ∧ _ ∧ _ ∧ _ := ⟨xX.cell 0 _ rfl, xX.cell 1 _ rfl, xX.loose 0, xX.loose 1⟩
    have rX := (xX.set 0 (.slice p1 d.sec.length r1)).set 1 (.slice p2 d.cache.length r2)
    have HR := Lib.hid (HEND.out d false p1 p2 r1 r2 _ wX b1.size xX bX oX)
    have q0 := rX.cell 0 (.slice p1 d.sec.length r1) rfl
    have q1 := rX.cell 1 (.slice p2 d.cache.length r2) rfl
    clear rX oX kX xX h' HEND HCOPY bX
    go_wp2
    refine bodyPost_ret (v := .tuple #[.agg #[.slice p1 d.sec.length r1, .slice p2 d.cache.length r2], .bool false]) (by simp [results, Tryz.results16, go_sem, q0, q1]) rfl ?_
    rw [HOO.out]; exact HR.out
  | true =>
    rw [ctT_yes hcb]
    obtain ⟨⟨hm1, hm2⟩, hm3, hm4, hcz⟩ := HOKS.out hcb
    have HCB := Lib.hid hcb
    have HDO := Lib.hid (specDiskOk_any d _ _ h'.rd hsm hts htu)
    obtain ⟨m0, m1⟩ : _ ∧ _ := ⟨X0.cell 0 _ rfl, X0.cell 1 _ rfl⟩
    clear X0 X1 X2 hcb HOKS
    by_cases hok : d.ok
    case neg =>
      have HOO : Hid (O = none) := HO.out.symm.trans (wcO_not (c := c) hok)
      rw [decide_eq_false hok] at HDO
      clear hok
      go_wp2_with fail
      clear m0 m1
      refine HDO.out.mono ?_
      rintro e w2 ⟨rfl, k2⟩
      clear HDO
      obtain ⟨X0, _, _, h2, b2⟩ := HCOPY.out _ k2
      obtain ⟨m0, m1⟩ : _ ∧ _ := ⟨X0.cell 0 _ rfl, X0.cell 1 _ rfl⟩
      clear X0
      go_wp2_with fail
      clear m0 m1
      refine (specCopy_any d _ B T _ h2 hsm).mono ?_
      rintro e wX ⟨vX, rfl, oX, kX⟩
      obtain ⟨p1, p2, r1, r2, rfl⟩ := oX.form
      obtain ⟨_, xX, _, _, bX⟩ := HCOPY.out _ (k2.trans (kX.mono k2.size))
      obtain ⟨x0, x1, f0, f1⟩ : _ ∧ _ ∧ _ ∧ _ := ⟨xX.cell 0 _ rfl, xX.cell 1 _ rfl, xX.loose 0, xX.loose 1⟩
      have rX := (xX.set 0 (.slice p1 d.sec.length r1)).set 1 (.slice p2 d.cache.length r2)
      have HR := Lib.hid (HEND.out d false p1 p2 r1 r2 _ wX b2.size xX bX oX)
      have q0 := rX.cell 0 (.slice p1 d.sec.length r1) rfl
      have q1 := rX.cell 1 (.slice p2 d.cache.length r2) rfl
      clear rX oX kX xX h' HEND HCOPY bX h2
      go_wp2
      refine bodyPost_ret (v := .tuple #[.agg #[.slice p1 d.sec.length r1, .slice p2 d.cache.length r2], .bool false]) (by simp [results, Tryz.results16, go_sem, q0, q1]) rfl ?_
      rw [HOO.out]; exact HR.out
    rw [decide_eq_true hok] at HDO
    have HWB := Lib.hid (fun (x : World) (hx : DOwn B T x (.agg #[.slice aa d.sec.length ca, .slice ab d.cache.length cb]) d) => specWriteBytes_at d _ c hcz B T x hx hok)
    obtain ⟨tx, htx⟩ : ∃ tx, ckTx c = tx := ⟨_, rfl⟩
    have HTX := Lib.hid htx
    obtain ⟨rN, hrN⟩ : ∃ rN, regN c = rN := ⟨_, rfl⟩
    have HRN := Lib.hid hrN
    obtain ⟨st, hst⟩ : ∃ st, c.st = st := ⟨_, rfl⟩
    rw [htx, hrN] at HWB
    rw [hrN] at hm3 hm4
    rw [hst] at HCOPY hm1 hm2 hm3 hm4
    rw [htx]
    generalize (((st % 2).toNat : Nat) : Int) = rgi at hm1 hm2 hm3 hm4
    have hrb : rN ≤ 4 := by rw [← HRN.out]; unfold regN; omega
    have hm5 : wrap64 (rN : Int) = (rN : Int) := by unfold wrap64; omega
    clear hrb
    have HOK := Lib.hid hok
    clear htx hrN hst hcz hok
    go_wp2_with fail
    clear m0 m1
    refine HDO.out.mono ?_
    rintro e w2 ⟨rfl, k2⟩
    clear HDO
    obtain ⟨X0, _, X1, h2, b2⟩ := HCOPY.out _ k2
    obtain ⟨m0, m1⟩ : _ ∧ _ := ⟨X0.cell 0 _ rfl, X0.cell 1 _ rfl⟩
    have y0 := X1.cell 0 _ rfl
    clear X0 X1
    go_wp2_with fail
    clear m0 m1 y0
    refine (HWB.out _ h2).mono ?_
    rintro e w3 ⟨D, F, hF1, hF2, v3, rfl, o3, k3⟩
    obtain ⟨e1, e2, e3, e4, rfl⟩ := o3.form
    have k4 := belNew w3 (.cells #[.slice e1 D.sec.length e3, .slice e2 D.cache.length e4] 33)
    have XO := Box.new w3 #[.slice e1 D.sec.length e3, .slice e2 D.cache.length e4] 33
    have k23 := k2.trans (k3.mono k2.size)
    have j4 := k23.trans (k4.mono k23.size)
    have o4 := o3.later k4
    clear HWB k3 k4 o3 h2 hm1 hm2 hm3 hm4 hm5 k23
    cases F with
    | false =>
      have HB : wcO d c = none := by
        rcases hF2 rfl with hx | hx
        · exact wcO_far (by rw [HRN.out]; exact hx)
        · exact wcO_none (by rw [HRN.out, HTX.out]; exact hx)
      have HOO : Hid (O = none) := HO.out.symm.trans HB
      clear HB hF1 hF2 XO o4
      obtain ⟨X0, _, _, h2, b4⟩ := HCOPY.out _ j4
      obtain ⟨m0, m1⟩ : _ ∧ _ := ⟨X0.cell 0 _ rfl, X0.cell 1 _ rfl⟩
      clear X0
      go_upto_region 5 with fail
      generalize w3.alloc (.cells #[.slice e1 D.sec.length e3, .slice e2 D.cache.length e4] 33) = w4 at j4 h2 b4 m0 m1 ⊢
      go_wp2_with fail
      clear m0 m1
      refine (specCopy_any d _ B T _ h2 hsm).mono ?_
      rintro e wX ⟨vX, rfl, oX, kX⟩
      obtain ⟨p1, p2, r1, r2, rfl⟩ := oX.form
      obtain ⟨_, xX, _, _, bX⟩ := HCOPY.out _ (j4.trans (kX.mono j4.size))
      obtain ⟨x0, x1, f0, f1⟩ : _ ∧ _ ∧ _ ∧ _ := ⟨xX.cell 0 _ rfl, xX.cell 1 _ rfl, xX.loose 0, xX.loose 1⟩
      have rX := (xX.set 0 (.slice p1 d.sec.length r1)).set 1 (.slice p2 d.cache.length r2)
      have HR := Lib.hid (HEND.out d false p1 p2 r1 r2 _ wX b4.size xX bX oX)
      have q0 := rX.cell 0 (.slice p1 d.sec.length r1) rfl
      have q1 := rX.cell 1 (.slice p2 d.cache.length r2) rfl
      clear rX oX kX xX h' HEND HCOPY bX h2
      go_wp2
      refine bodyPost_ret (v := .tuple #[.agg #[.slice p1 d.sec.length r1, .slice p2 d.cache.length r2], .bool false]) (by simp [results, Tryz.results16, go_sem, q0, q1]) rfl ?_
      rw [HOO.out]; exact HR.out
    | true =>
      obtain ⟨hlt, hwb⟩ := hF1 rfl
      have HDS : wcO d c = some (flD D) := wcO_some HCB.out (by rw [HRN.out]; exact hlt) (by rw [HRN.out, HTX.out]; exact hwb)
      have HOO : Hid (O = some (flD D)) := HO.out.symm.trans HDS
      have hDok := (wbL_ok _ _ (Nat.le_refl _) d D _ _ (by omega) HOK.out hwb).1
      obtain ⟨hsD, htD, huD⟩ := Dk.ok_small hDok
      have HFL := Lib.hid (specFlushDisk_any D _ _ _ _ o4 hsD htD huD)
      obtain ⟨z0, z1⟩ : _ ∧ _ := ⟨XO.cell 0 _ rfl, XO.cell 1 _ rfl⟩
      obtain ⟨_, _, _, _, b4⟩ := HCOPY.out _ j4
      clear hF1 hF2 hwb hlt hDok hsD htD huD o4 XO HDS
      generalize flD D = E at HFL HOO
      go_upto_region 5 with fail
      generalize w3.alloc (.cells #[.slice e1 D.sec.length e3, .slice e2 D.cache.length e4] 33) = w4 at j4 HFL b4 z0 z1 ⊢
      generalize w3.heap.size = g3 at z0 z1 ⊢
      go_wp2_with fail
      clear z0 z1
      refine HFL.out.mono ?_
      rintro e wX ⟨vX, rfl, oX, kX⟩
      obtain ⟨p1, p2, r1, r2, rfl⟩ := oX.form
      obtain ⟨_, xX, _, _, bX⟩ := HCOPY.out _ (j4.trans (kX.mono j4.size))
      obtain ⟨x0, x1, f0, f1⟩ : _ ∧ _ ∧ _ ∧ _ := ⟨xX.cell 0 _ rfl, xX.cell 1 _ rfl, xX.loose 0, xX.loose 1⟩
      have rX := (xX.set 0 (.slice p1 E.sec.length r1)).set 1 (.slice p2 E.cache.length r2)
      have HR := Lib.hid (HEND.out E true p1 p2 r1 r2 _ wX b4.size xX bX oX)
      have q0 := rX.cell 0 (.slice p1 E.sec.length r1) rfl
      have q1 := rX.cell 1 (.slice p2 E.cache.length r2) rfl
      clear rX oX kX xX h' HEND HCOPY bX
      go_wp2
      refine bodyPost_ret (v := .tuple #[.agg #[.slice p1 E.sec.length r1, .slice p2 E.cache.length r2], .bool true]) (by simp [results, Tryz.results16, go_sem, q0, q1]) rfl ?_
      rw [HOO.out]; exact HR.out

end Go.Proofs.YtieenkloiicnkaaGreatDoor
