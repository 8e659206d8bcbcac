/- Texts of our own, joined. -/
import Derived.Test.YtieenkloiicnkaaGreatDoorJm
import Derived.Test.YtieenkloiicnkaaGreatDoorJp
import Derived.Test.YtieenkloiicnkaaGreatDoorJb
import Derived.Deep.Slices
import Derived.Lib.SmallJoins
import Derived.ProofKit
import Derived.Deep.SlicePairs
import Derived.Test.YtieenkloiicnkaaGreatDoorJf
import Derived.LaidMore
import Derived.Test.YtieenkloiicnkaaGreatDoorJn
import Derived.Test.YtieenkloiicnkaaGreatDoorRows
import Derived.LaidLaws
import Derived.LaidHandle
/- WriteCheck of the model. -/
namespace Go.Proofs.YtieenkloiicnkaaGreatDoor
open Go.RowKit

/-- WriteBytes of the model at a region's first sector, on right disks. -/
theorem specWriteBytes_at (d : Dk) (v : Value) (c : Ck) (hc : (ckTx c).size ≤ 1000000) (B T : Nat) (w : World) (h : DOwn B T w v d) (hok : d.ok) :
    Calls Tryz.prog 46 #[v, .int .i64 (regN c : Int), .int .i64 0, .string (ckTx c)] w fun e w' => ∃ (d' : Dk) (f : Bool), (f = true → regN c < d.sec.length ∧ wbL d (regN c) 0 (ckTx c).data.toList = some d') ∧ (f = false → ¬ regN c < d.sec.length ∨ wbL d (regN c) 0 (ckTx c).data.toList = none) ∧ DiskR d' f w e w' := by
  by_cases hse : regN c < d.sec.length
  · refine (specWriteBytes_wb d v (regN c) 0 (ckTx c) B T w h hok hse (by omega) hc).mono ?_
    rintro e w' ⟨d', f, _, _, _, h1, _, hr⟩
    simp only [Nat.zero_div, Nat.add_zero, Nat.zero_mod] at h1
    cases f with
    | false => exact ⟨d', false, (fun e => by cases e), fun _ => .inr (by simpa using h1), hr⟩
    | true => exact ⟨d', true, fun _ => ⟨hse, by simpa using h1⟩, (fun e => by cases e), hr⟩
  · exact (specWriteBytes_far d v (regN c) (ckTx c) B T w h hok hse).mono fun e w' hr => ⟨d, false, (fun e => by cases e), fun _ => .inl hse, hr⟩

set_option maxRecDepth 100000 in
set_option maxHeartbeats 2000000 in
theorem specWriteCheck_any (d : Dk) (c : Ck) (v : Value) (a : Option Addr) (cap B T : Nat) (w : World) (h : DOwn B T w v d) (hsm : d.small) (hts : ∀ s ∈ d.sec, s.size ≤ 1099511627776) (htu : ∀ x ∈ d.cache, x.text.size ≤ 1099511627776) (hr : Rows' rfE w (.slice a c.refs.length cap) c.refs) (hl : c.refs.length ≤ 1048576) :
    Calls Tryz.prog 16 #[v, .agg #[.int .i64 c.st, .int .i64 c.ng, .int .i64 c.ns, .int .i64 c.nv, .slice a c.refs.length cap]] w fun e w' => DiskR ((wcO d c).getD d) (wcO d c).isSome w e w' := by
  obtain ⟨aa, ab, ca, cb, rfl⟩ := h.form
  obtain ⟨X0, X1, X2, b0, hsz⟩ := three_boxes w #[.slice aa d.sec.length ca, .slice ab d.cache.length cb] #[.int .i64 c.st, .int .i64 c.ng, .int .i64 c.ns, .int .i64 c.nv, .slice a c.refs.length cap] #[.slice none 0 0, .slice none 0 0] 33 48 33
  have h' := h.later b0
  have HTX := Lib.hid (specCheckText_any c a cap _ (hr.later b0) hl)
  have HOKS : Hid (ckB c = true → (IntKind.i64.wrap (Int.tmod c.st 2) = ((c.st % 2).toNat : Int) ∧ Int.tmod c.st 2 = ((c.st % 2).toNat : Int)) ∧ IntKind.i64.wrap (4 * ((c.st % 2).toNat : Int)) = (regN c : Int) ∧ 4 * ((c.st % 2).toNat : Int) = (regN c : Int) ∧ (ckTx c).size ≤ 1000000) := fun hb => by
    have hok := ckB_iff.1 hb
    have hst : 1 ≤ c.st := hok.1.1.1
    have e1 : Int.tmod c.st 2 = c.st % 2 := Int.tmod_eq_emod_of_nonneg (by omega)
    have := (ckSe_len hok).2.2
    refine ⟨⟨?_, by rw [e1]; omega⟩, ?_, by unfold regN; omega, by omega⟩
    · rw [e1, IntWalk.i64_in _ ⟨by omega, by omega⟩]; omega
    · rw [IntWalk.i64_in _ ⟨by omega, by omega⟩]; unfold regN; omega
  clear h hr hl
  obtain ⟨O, hO⟩ : ∃ O, wcO d c = O := ⟨_, rfl⟩
  have HO := Lib.hid hO
  rw [hO]
  clear hO
  obtain ⟨n, hn⟩ : ∃ n, c.refs.length = n := ⟨_, rfl⟩
  rw [hn] at X1 HTX X0 X2 b0 hsz h' ⊢
  clear hn
  obtain ⟨y0, y1, y2, y3, y4⟩ := X1.fiveW
  go_enter Tryz.func16, Tryz.ntmps16
  go_wp2_with fail
  clear y0 y1 y2 y3 y4
  generalize (((w.alloc (.cells #[.slice aa d.sec.length ca, .slice ab d.cache.length cb] 33)).alloc (.cells #[.int .i64 c.st, .int .i64 c.ng, .int .i64 c.ns, .int .i64 c.nv, .slice a n cap] 48)).alloc (.cells #[.slice none 0 0, .slice none 0 0] 33)) = W at X0 X1 X2 b0 hsz h' HTX ⊢
  refine HTX.out.mono ?_
  rintro e w1 ⟨rfl, k1⟩
  clear HTX
  replace X0 := X0.later k1
  replace X1 := X1.later k1
  replace X2 := X2.later k1
  replace h' := h'.later k1
  have b1 := b0.trans (k1.mono b0.size)
  clear b0 hsz k1
  have HCOPY : Hid (∀ (x : World), Below w1.heap.size w1 x → Box x w.heap.size #[.slice aa d.sec.length ca, .slice ab d.cache.length cb] 33 ∧ Box x (w.heap.size + 2) #[.slice none 0 0, .slice none 0 0] 33 ∧ Box x (w.heap.size + 1) #[.int .i64 c.st, .int .i64 c.ng, .int .i64 c.ns, .int .i64 c.nv, .slice a n cap] 48 ∧ DOwn B T x (.agg #[.slice aa d.sec.length ca, .slice ab d.cache.length cb]) d ∧ Below w.heap.size w x) := fun x hx => ⟨X0.later hx, X2.later hx, X1.later hx, h'.later hx, b1.trans (hx.mono b1.size)⟩
  have HEND : Hid (∀ (E : Dk) (f : Bool) (p1 p2 : Option Addr) (r1 r2 C : Nat) (x : World), w.heap.size ≤ C → Box x (w.heap.size + 2) #[.slice none 0 0, .slice none 0 0] 33 → Below w.heap.size w x → DOwn C x.heap.size x (.agg #[.slice p1 E.sec.length r1, .slice p2 E.cache.length r2]) E → DiskR E f w (.returned (.tuple #[.agg #[.slice p1 E.sec.length r1, .slice p2 E.cache.length r2], .bool f])) ((x.setCell ⟨w.heap.size + 2, 0, none⟩ (.slice p1 E.sec.length r1)).setCell ⟨w.heap.size + 2, 1, none⟩ (.slice p2 E.cache.length r2))) := by
    intro E f p1 p2 r1 r2 C x hC xX bX oX
    refine ⟨_, rfl, ?_, (bX.setCell (p := ⟨w.heap.size + 2, 0, none⟩) (by simp) _).setCell (p := ⟨w.heap.size + 2, 1, none⟩) (by simp) _⟩
    have := ((oX.base hC).boxStore xX 0 (.slice p1 E.sec.length r1)).boxStore (xX.set 0 (.slice p1 E.sec.length r1)) 1 (.slice p2 E.cache.length r2)
    simpa using this
  cases hcb : ckB c with
  | false =>
    have HOO : Hid (O = none) := HO.out.symm.trans (wcO_bad (d := d) hcb)
    rw [ctT_no hcb]
    clear hcb HOKS X1
    obtain ⟨m0, m1⟩ : _ ∧ _ := ⟨X0.cell 0 _ rfl, X0.cell 1 _ rfl⟩
    clear X0 X2
    go_wp2_with fail
    clear m0 m1
    refine (specCopy_any d _ B T _ h' hsm).mono ?_
    rintro e wX ⟨vX, rfl, oX, kX⟩
    obtain ⟨p1, p2, r1, r2, rfl⟩ := oX.form
    obtain ⟨_, xX, _, _, bX⟩ := HCOPY.out _ kX
    obtain ⟨x0, x1, f0, f1⟩ : _ ∧ _ ∧ _ ∧ _ := ⟨xX.cell 0 _ rfl, xX.cell 1 _ rfl, xX.loose 0, xX.loose 1⟩
    have rX := (xX.set 0 (.slice p1 d.sec.length r1)).set 1 (.slice p2 d.cache.length r2)
    have HR := Lib.hid (HEND.out d false p1 p2 r1 r2 _ wX b1.size xX bX oX)
    have q0 := rX.cell 0 (.slice p1 d.sec.length r1) rfl
    have q1 := rX.cell 1 (.slice p2 d.cache.length r2) rfl
    clear rX oX kX xX h' HEND HCOPY bX
    go_wp2
    refine bodyPost_ret (v := .tuple #[.agg #[.slice p1 d.sec.length r1, .slice p2 d.cache.length r2], .bool false]) (by simp [results, Tryz.results16, go_sem, q0, q1]) rfl ?_
    rw [HOO.out]; exact HR.out
  | true =>
    rw [ctT_yes hcb]
    obtain ⟨⟨hm1, hm2⟩, hm3, hm4, hcz⟩ := HOKS.out hcb
    have HCB := Lib.hid hcb
    have HDO := Lib.hid (specDiskOk_any d _ _ h'.rd hsm hts htu)
    obtain ⟨m0, m1⟩ : _ ∧ _ := ⟨X0.cell 0 _ rfl, X0.cell 1 _ rfl⟩
    clear X0 X1 X2 hcb HOKS
    by_cases hok : d.ok
    case neg =>
      have HOO : Hid (O = none) := HO.out.symm.trans (wcO_not (c := c) hok)
      rw [decide_eq_false hok] at HDO
      clear hok
      go_wp2_with fail
      clear m0 m1
      refine HDO.out.mono ?_
      rintro e w2 ⟨rfl, k2⟩
      clear HDO
      obtain ⟨X0, _, _, h2, b2⟩ := HCOPY.out _ k2
      obtain ⟨m0, m1⟩ : _ ∧ _ := ⟨X0.cell 0 _ rfl, X0.cell 1 _ rfl⟩
      clear X0
      go_wp2_with fail
      clear m0 m1
      refine (specCopy_any d _ B T _ h2 hsm).mono ?_
      rintro e wX ⟨vX, rfl, oX, kX⟩
      obtain ⟨p1, p2, r1, r2, rfl⟩ := oX.form
      obtain ⟨_, xX, _, _, bX⟩ := HCOPY.out _ (k2.trans (kX.mono k2.size))
      obtain ⟨x0, x1, f0, f1⟩ : _ ∧ _ ∧ _ ∧ _ := ⟨xX.cell 0 _ rfl, xX.cell 1 _ rfl, xX.loose 0, xX.loose 1⟩
      have rX := (xX.set 0 (.slice p1 d.sec.length r1)).set 1 (.slice p2 d.cache.length r2)
      have HR := Lib.hid (HEND.out d false p1 p2 r1 r2 _ wX b2.size xX bX oX)
      have q0 := rX.cell 0 (.slice p1 d.sec.length r1) rfl
      have q1 := rX.cell 1 (.slice p2 d.cache.length r2) rfl
      clear rX oX kX xX h' HEND HCOPY bX h2
      go_wp2
      refine bodyPost_ret (v := .tuple #[.agg #[.slice p1 d.sec.length r1, .slice p2 d.cache.length r2], .bool false]) (by simp [results, Tryz.results16, go_sem, q0, q1]) rfl ?_
      rw [HOO.out]; exact HR.out
    rw [decide_eq_true hok] at HDO
    have HWB := Lib.hid (fun (x : World) (hx : DOwn B T x (.agg #[.slice aa d.sec.length ca, .slice ab d.cache.length cb]) d) => specWriteBytes_at d _ c hcz B T x hx hok)
    obtain ⟨tx, htx⟩ : ∃ tx, ckTx c = tx := ⟨_, rfl⟩
    have HTX := Lib.hid htx
    obtain ⟨rN, hrN⟩ : ∃ rN, regN c = rN := ⟨_, rfl⟩
    have HRN := Lib.hid hrN
    obtain ⟨st, hst⟩ : ∃ st, c.st = st := ⟨_, rfl⟩
    rw [htx, hrN] at HWB
    rw [hrN] at hm3 hm4
    rw [hst] at HCOPY hm1 hm2 hm3 hm4
    rw [htx]
    generalize (((st % 2).toNat : Nat) : Int) = rgi at hm1 hm2 hm3 hm4
    have hrb : rN ≤ 4 := by rw [← HRN.out]; unfold regN; omega
    have hm5 : wrap64 (rN : Int) = (rN : Int) := by unfold wrap64; omega
    clear hrb
    have HOK := Lib.hid hok
    clear htx hrN hst hcz hok
    go_wp2_with fail
    clear m0 m1
    refine HDO.out.mono ?_
    rintro e w2 ⟨rfl, k2⟩
    clear HDO
    obtain ⟨X0, _, X1, h2, b2⟩ := HCOPY.out _ k2
    obtain ⟨m0, m1⟩ : _ ∧ _ := ⟨X0.cell 0 _ rfl, X0.cell 1 _ rfl⟩
    have y0 := X1.cell 0 _ rfl
    clear X0 X1
    go_wp2_with fail
    clear m0 m1 y0
    refine (HWB.out _ h2).mono ?_
    rintro e w3 ⟨D, F, hF1, hF2, v3, rfl, o3, k3⟩
    obtain ⟨e1, e2, e3, e4, rfl⟩ := o3.form
    have k4 := belNew w3 (.cells #[.slice e1 D.sec.length e3, .slice e2 D.cache.length e4] 33)
    have XO := Box.new w3 #[.slice e1 D.sec.length e3, .slice e2 D.cache.length e4] 33
    have k23 := k2.trans (k3.mono k2.size)
    have j4 := k23.trans (k4.mono k23.size)
    have o4 := o3.later k4
    clear HWB k3 k4 o3 h2 hm1 hm2 hm3 hm4 hm5 k23
    cases F with
    | false =>
      have HB : wcO d c = none := by
        rcases hF2 rfl with hx | hx
        · exact wcO_far (by rw [HRN.out]; exact hx)
        · exact wcO_none (by rw [HRN.out, HTX.out]; exact hx)
      have HOO : Hid (O = none) := HO.out.symm.trans HB
      clear HB hF1 hF2 XO o4
      obtain ⟨X0, _, _, h2, b4⟩ := HCOPY.out _ j4
      obtain ⟨m0, m1⟩ : _ ∧ _ := ⟨X0.cell 0 _ rfl, X0.cell 1 _ rfl⟩
      clear X0
      go_upto_region 5 with fail
      generalize w3.alloc (.cells #[.slice e1 D.sec.length e3, .slice e2 D.cache.length e4] 33) = w4 at j4 h2 b4 m0 m1 ⊢
      go_wp2_with fail
      clear m0 m1
      refine (specCopy_any d _ B T _ h2 hsm).mono ?_
      rintro e wX ⟨vX, rfl, oX, kX⟩
      obtain ⟨p1, p2, r1, r2, rfl⟩ := oX.form
      obtain ⟨_, xX, _, _, bX⟩ := HCOPY.out _ (j4.trans (kX.mono j4.size))
      obtain ⟨x0, x1, f0, f1⟩ : _ ∧ _ ∧ _ ∧ _ := ⟨xX.cell 0 _ rfl, xX.cell 1 _ rfl, xX.loose 0, xX.loose 1⟩
      have rX := (xX.set 0 (.slice p1 d.sec.length r1)).set 1 (.slice p2 d.cache.length r2)
      have HR := Lib.hid (HEND.out d false p1 p2 r1 r2 _ wX b4.size xX bX oX)
      have q0 := rX.cell 0 (.slice p1 d.sec.length r1) rfl
      have q1 := rX.cell 1 (.slice p2 d.cache.length r2) rfl
      clear rX oX kX xX h' HEND HCOPY bX h2
      go_wp2
      refine bodyPost_ret (v := .tuple #[.agg #[.slice p1 d.sec.length r1, .slice p2 d.cache.length r2], .bool false]) (by simp [results, Tryz.results16, go_sem, q0, q1]) rfl ?_
      rw [HOO.out]; exact HR.out
    | true =>
      obtain ⟨hlt, hwb⟩ := hF1 rfl
      have HDS : wcO d c = some (flD D) := wcO_some HCB.out (by rw [HRN.out]; exact hlt) (by rw [HRN.out, HTX.out]; exact hwb)
      have HOO : Hid (O = some (flD D)) := HO.out.symm.trans HDS
      have hDok := (wbL_ok _ _ (Nat.le_refl _) d D _ _ (by omega) HOK.out hwb).1
      obtain ⟨hsD, htD, huD⟩ := Dk.ok_small hDok
      have HFL := Lib.hid (specFlushDisk_any D _ _ _ _ o4 hsD htD huD)
      obtain ⟨z0, z1⟩ : _ ∧ _ := ⟨XO.cell 0 _ rfl, XO.cell 1 _ rfl⟩
      obtain ⟨_, _, _, _, b4⟩ := HCOPY.out _ j4
      clear hF1 hF2 hwb hlt hDok hsD htD huD o4 XO HDS
      generalize flD D = E at HFL HOO
      go_upto_region 5 with fail
      generalize w3.alloc (.cells #[.slice e1 D.sec.length e3, .slice e2 D.cache.length e4] 33) = w4 at j4 HFL b4 z0 z1 ⊢
      generalize w3.heap.size = g3 at z0 z1 ⊢
      go_wp2_with fail
      clear z0 z1
      refine HFL.out.mono ?_
      rintro e wX ⟨vX, rfl, oX, kX⟩
      obtain ⟨p1, p2, r1, r2, rfl⟩ := oX.form
      obtain ⟨_, xX, _, _, bX⟩ := HCOPY.out _ (j4.trans (kX.mono j4.size))
      obtain ⟨x0, x1, f0, f1⟩ : _ ∧ _ ∧ _ ∧ _ := ⟨xX.cell 0 _ rfl, xX.cell 1 _ rfl, xX.loose 0, xX.loose 1⟩
      have rX := (xX.set 0 (.slice p1 E.sec.length r1)).set 1 (.slice p2 E.cache.length r2)
      have HR := Lib.hid (HEND.out E true p1 p2 r1 r2 _ wX b4.size xX bX oX)
      have q0 := rX.cell 0 (.slice p1 E.sec.length r1) rfl
      have q1 := rX.cell 1 (.slice p2 E.cache.length r2) rfl
      clear rX oX kX xX h' HEND HCOPY bX
      go_wp2
      refine bodyPost_ret (v := .tuple #[.agg #[.slice p1 E.sec.length r1, .slice p2 E.cache.length r2], .bool true]) (by simp [results, Tryz.results16, go_sem, q0, q1]) rfl ?_
      rw [HOO.out]; exact HR.out

end Go.Proofs.YtieenkloiicnkaaGreatDoor

/- The helpers of the exact laws over checks that come in: their size, their copies; and how they come in. -/
namespace Go.Proofs.YtieenkloiicnkaaGreatDoor
open Go.RowKit Go.ChangeShapes Go.WideShapes Go.ChangeAt Go.Deep Go.Joins

instance : Inhabited Rf := ⟨(0, 0)⟩
theorem Box.fiveC' {w : World} {b : Nat} {u0 u1 u2 u3 u4 : Value} {t : TypeId} (h : Box w b #[u0, u1, u2, u3, u4] t) : w.cell? ⟨b, 0, none⟩ = some u0 ∧ w.cell? ⟨b, 1, none⟩ = some u1 ∧ w.cell? ⟨b, 2, none⟩ = some u2 ∧ w.cell? ⟨b, 3, none⟩ = some u3 ∧ w.cell? ⟨b, 4, none⟩ = some u4 :=
  ⟨h.cell 0 _ rfl, h.cell 1 _ rfl, h.cell 2 _ rfl, h.cell 3 _ rfl, h.cell 4 _ rfl⟩
theorem RBuf.asideC {α : Type} {E : Enc α} {B : Nat} {w : World} {v : Value} {l : List α} (h : RBuf E B w w v l) (g i : Nat) (u : Value) (hg : g < B) : RBuf E B (w.setCell ⟨g, i, none⟩ u) (w.setCell ⟨g, i, none⟩ u) v l :=
  h.shift (stored_grown w g i u) (.inr (fun e => by have := (h.own.lt g e).1; omega))
def set5C (w : World) (b : Nat) (v0 v1 v2 v3 v4 : Value) : World := ((((w.setCell ⟨b, 0, none⟩ v0).setCell ⟨b, 1, none⟩ v1).setCell ⟨b, 2, none⟩ v2).setCell ⟨b, 3, none⟩ v3).setCell ⟨b, 4, none⟩ v4

def lrfE : Enc Rf where
  ty := 130
  sty := 40
  sz := 2
  bytes := 16
  zero := .agg #[.int .i64 0, .int .i64 0]
  f := fun x => [.int .i64 x.1, .int .i64 x.2]
  len := fun _ => rfl
  pos := by decide
  one := fun _ u hu => by simp at hu; rcases hu with rfl | rfl <;> rfl
  und := Tryz.underlying40
  info := by kernel_rfl
  zc := rfl
  z0 := (0, 0)
  zf := rfl
theorem Rows'.lrefs {w : World} {v : Value} {l : List Rf} (h : Rows' lrfE w v l) : ∃ (ad : Option Addr) (cap : Nat), v = .slice ad l.length cap ∧ ∀ X, Below w.heap.size w X → ∀ (i : Nat) (x : Rf), l[i]? = some x → ∃ g off, ad = some ⟨g, off, none⟩ ∧ X.cell? ⟨g, off + i * 2, none⟩ = some (.int .i64 x.1) ∧ X.cell? ⟨g, off + i * 2 + 1, none⟩ = some (.int .i64 x.2) := by
  rcases h.ways with ⟨rfl, a, c, rfl⟩ | ⟨hne, g, off, c, rfl, hc, hg, hcl⟩
  · exact ⟨a, c, rfl, fun X _ i x hi => by cases hi⟩
  · exact ⟨_, c, rfl, fun X hb i x hi => ⟨g, off, rfl, (hb.cell (p := ⟨g, off + i * 2 + 0, none⟩) hg).trans (hcl i x hi 0 _ rfl), (hb.cell (p := ⟨g, off + i * 2 + 1, none⟩) hg).trans (hcl i x hi 1 _ rfl)⟩⟩
/-- A check that came in. -/
def CIn (W : World) (v : Value) (c : Ck) : Prop := ∃ (a : Option Addr) (cap : Nat), v = .agg #[.int .i64 c.st, .int .i64 c.ng, .int .i64 c.ns, .int .i64 c.nv, .slice a c.refs.length cap] ∧ Rows' lrfE W (.slice a c.refs.length cap) c.refs ∧ c.refs.length ≤ 9223372036854775807
theorem CIn.later {W X : World} {v : Value} {c : Ck} (h : CIn W v c) (hb : Below W.heap.size W X) : CIn X v c := by
  obtain ⟨a, cap, e, hr, hl⟩ := h
  exact ⟨a, cap, e, hr.later hb, hl⟩

set_option maxRecDepth 100000 in
theorem szRefS_any (l : List Rf) (a : Option Addr) (cap : Nat) (left : Int) (w : World) (h1 : 0 ≤ left) (h2 : left ≤ 1048576) (hl : l.length ≤ 9223372036854775807) :
    Calls Tryz.prog 42 #[.slice a l.length cap, .int .i64 left] w fun e w' => (∃ r : Int, e = .returned (.int .i64 r) ∧ (0 ≤ r → (l.length : Int) ≤ left) ∧ (r < 0 ∨ 0 ≤ r)) ∧ w = w' := by
  by_cases hz : left - (l.length : Int) < 0
  · have hw : IntKind.i64.wrap (left - (l.length : Int)) = left - (l.length : Int) := IntWalk.i64_in _ ⟨by omega, by omega⟩
    go_enter Tryz.func42, Tryz.ntmps42
    go_wp2
    go_ret
    exact ⟨⟨-1, rfl, fun h => by omega, by omega⟩, rfl⟩
  · have hw : IntKind.i64.wrap (left - (l.length : Int)) = left - (l.length : Int) := IntWalk.i64_in _ ⟨by omega, by omega⟩
    go_enter Tryz.func42, Tryz.ntmps42
    go_wp2
    go_ret
    exact ⟨⟨left - (l.length : Int), by first | rfl | (rw [hw]; rfl), fun h => by omega, by omega⟩, rfl⟩

set_option maxRecDepth 100000 in
set_option maxHeartbeats 1000000 in
theorem szCheck_any (c : Ck) (a : Option Addr) (cap : Nat) (w : World) (hl : c.refs.length ≤ 9223372036854775807) :
    Calls Tryz.prog 15 #[.agg #[.int .i64 c.st, .int .i64 c.ng, .int .i64 c.ns, .int .i64 c.nv, .slice a c.refs.length cap], .int .i64 1048576] w fun e w' => (∃ r : Int, e = .returned (.int .i64 r) ∧ (0 ≤ r → c.refs.length ≤ 1048576)) ∧ Below w.heap.size w w' := by
  have X0 := Box.new w #[.int .i64 c.st, .int .i64 c.ng, .int .i64 c.ns, .int .i64 c.nv, .slice a c.refs.length cap] 42
  have b0 := belNew w (.cells #[.int .i64 c.st, .int .i64 c.ng, .int .i64 c.ns, .int .i64 c.nv, .slice a c.refs.length cap] 42)
  obtain ⟨x0, x1, x2, x3, x4⟩ := X0.fiveC'
  clear X0
  go_enter Tryz.func15, Tryz.ntmps15
  go_wp2_with fail
  refine (szRefS_any c.refs a cap 1048576 _ (by omega) (by omega) hl).mono ?_
  rintro e w1 ⟨⟨r, rfl, hr, hs⟩, rfl⟩
  clear x0 x1 x2 x3 x4
  by_cases hn : r < 0
  · go_wp2
    go_ret
    exact ⟨⟨-1, rfl, fun h => by omega⟩, b0⟩
  · have HR := Lib.hid hr
    clear hr
    go_wp2
    go_ret
    exact ⟨⟨r, rfl, fun h => by have := HR.out h; omega⟩, b0⟩

set_option maxRecDepth 100000 in
set_option maxHeartbeats 1000000 in
theorem toRef_any (x y : Int) (w : World) : Calls Tryz.prog 87 #[.agg #[.int .i64 x, .int .i64 y]] w fun e w' => e = .returned (.agg #[.int .i64 x, .int .i64 y]) ∧ Below w.heap.size w w' := by
  go_enter Tryz.func87, Tryz.ntmps87
  go_wp2
  refine bodyPost_ret (v := .agg #[.int .i64 x, .int .i64 y]) (by simp [results, Tryz.results87, go_sem]) rfl ?_
  exact ⟨rfl, (((Below.refl _ _).alloc (Nat.le_refl _) _).alloc (by simp) _).alloc (by simp; omega) _⟩

theorem RBuf.putR {B : Nat} {w0 w : World} {g cap : Nat} {l : List Rf} (h : RBuf rfE B w0 w (.slice (some ⟨g, 0, none⟩) l.length cap) l) (i : Nat) (x : Rf) (hi : l[i]? = some x) (y1 y2 : Int) :
    RBuf rfE B w0 ((w.setCell ⟨g, i * 2, none⟩ (.int .i64 y1)).setCell ⟨g, i * 2 + 1, none⟩ (.int .i64 y2)) (.slice (some ⟨g, 0, none⟩) l.length cap) (l.set i (y1, y2)) := by
  have hlt : i < l.length := (List.getElem?_eq_some_iff.1 hi).1
  have hl1 : ∀ z : Rf, (l.set i z).length = l.length := fun z => by simp
  have ha1 : ∀ z : Rf, (l.set i z)[i]? = some z := fun z => List.getElem?_set_self hlt
  have s0 : RBuf rfE B w0 (w.setCell ⟨g, i * 2, none⟩ (.int .i64 y1)) (.slice (some ⟨g, 0, none⟩) l.length cap) (l.set i (y1, x.2)) := h.stored i _ (y1, x.2) hi 0 (by decide) (.int .i64 y1) rfl
  rw [← hl1 (y1, x.2)] at s0
  have s1 := s0.stored i _ (y1, y2) (ha1 _) 1 (by decide) (.int .i64 y2) rfl
  rw [List.set_set, hl1] at s1
  exact s1

set_option maxRecDepth 100000 in
set_option maxHeartbeats 2000000 in
theorem toRefS_any (l : List Rf) (v : Value) (w : World) (h : Rows' lrfE w v l) (hl : l.length ≤ 1048576) :
    Calls Tryz.prog 48 #[v] w fun e w' => ∃ v', e = .returned v' ∧ RBuf rfE w.heap.size w w' v' l := by
  obtain ⟨a, cap, rfl, hrow⟩ := h.lrefs
  have HR := Lib.hid hrow
  clear h hrow
  go_enter Tryz.func48, Tryz.ntmps48
  go_wp2_with (at_make; refine wpList_make_rows rfl _ _ rfE rfl .i64 .i64 _ _ l.length rfl rfl rfl rfl (by show 17 * l.length ≤ _; omega) ?_; intro w1 hr1 hs1)
  go_loopw [4] (fun iv wr => ∃ i : Nat, i ≤ l.length ∧ iv = .int .i64 (i : Int) ∧ RBuf rfE w.heap.size w wr (.slice (some ⟨w.heap.size, 0, none⟩) l.length l.length) (copyTo rfE.z0 l i)) (fun iv _ => l.length - (intOf iv).toNat)
  case atStart => exact ⟨0, by omega, rfl, by rw [copyTo_zero]; exact hr1⟩
  case round =>
    obtain ⟨i, hi, rfl, hbr⟩ := hrel
    by_cases hlt : i < l.length
    · have hgx : l[i]? = some l[i] := List.getElem?_eq_getElem hlt
      obtain ⟨ga, oa, rfl, a0, a1⟩ := HR.out _ hbr.bel i _ hgx
      have hi0 : (0 : Int) ≤ (i : Int) := by omega
      have hi1 : (i : Int) < (l.length : Int) := by omega
      have hml := copyTo_length (z := rfE.z0) hi
      have hms := copyTo_set (z := rfE.z0) hlt
      have hat := copyTo_at (z := rfE.z0) hlt
      rw [← hml] at hbr
      have HF : Hid (∀ w1, Below wr.heap.size wr w1 → (w1.cell? ⟨w.heap.size, i * 2, none⟩ = some (.int .i64 0) ∧ w1.frozen? ⟨w.heap.size, i * 2, none⟩ = false ∧ w1.cell? ⟨w.heap.size, i * 2 + 1, none⟩ = some (.int .i64 0) ∧ w1.frozen? ⟨w.heap.size, i * 2 + 1, none⟩ = false)) := by
        intro w1 hb1
        have h1 := hbr.later hb1
        exact ⟨h1.cell rfl i _ hat 0 _ rfl, h1.loose _, h1.cell rfl i _ hat 1 _ rfl, h1.loose _⟩
      generalize hx : l[i] = x at *
      obtain ⟨x1, x2⟩ := x
      simp only at a0 a1
      clear hgx
      go_wp2_with (go_at_call 87; refine (toRef_any x1 x2 _).mono ?_; rintro e w1 ⟨rfl, hb1⟩; obtain ⟨d0, f0, d1, f1⟩ := HF.out w1 hb1)
      have hp := (hbr.later hb1).putR i _ hat x1 x2
      rw [hms, hml] at hp
      go_roundw
      case rel => exact ⟨i + 1, by omega, by go_num, hp⟩
      case measure => simp [intOf]; omega
    · go_wp2
      go_ret
      rw [copyTo_all (by omega)] at hbr
      exact ⟨_, rfl, hbr⟩

set_option maxRecDepth 100000 in
set_option maxHeartbeats 2000000 in
theorem toCheck_any (b : Ck) (a : Option Addr) (n c : Nat) (w : World) (h : Rows' lrfE w (.slice a n c) b.refs) (hl : b.refs.length ≤ 1048576) :
    Calls Tryz.prog 17 #[.agg #[.int .i64 b.st, .int .i64 b.ng, .int .i64 b.ns, .int .i64 b.nv, .slice a n c]] w fun e w' => ∃ (p : Option Addr) (k q : Nat), e = .returned (.agg #[.int .i64 b.st, .int .i64 b.ng, .int .i64 b.ns, .int .i64 b.nv, .slice p k q]) ∧ RBuf rfE w.heap.size w' w' (.slice p k q) b.refs ∧ Below w.heap.size w w' := by
  have bA := belNew w (.cells #[.int .i64 b.st, .int .i64 b.ng, .int .i64 b.ns, .int .i64 b.nv, .slice a n c] 42)
  obtain ⟨wA, hwA⟩ : ∃ wA, wA = w.alloc (.cells #[.int .i64 b.st, .int .i64 b.ng, .int .i64 b.ns, .int .i64 b.nv, .slice a n c] 42) := ⟨_, rfl⟩
  have eA : wA.heap.size = w.heap.size + 1 := by rw [hwA]; simp
  rw [← hwA] at bA
  have hB := Box.new wA #[.int .i64 0, .int .i64 0, .int .i64 0, .int .i64 0, .slice none 0 0] 48
  have bB := bA.trans ((belNew wA (.cells #[.int .i64 0, .int .i64 0, .int .i64 0, .int .i64 0, .slice none 0 0] 48)).mono bA.size)
  obtain ⟨wB, hwB⟩ : ∃ wB, wB = wA.alloc (.cells #[.int .i64 0, .int .i64 0, .int .i64 0, .int .i64 0, .slice none 0 0] 48) := ⟨_, rfl⟩
  have eB : wB.heap.size = w.heap.size + 1 + 1 := by rw [hwB]; simp; omega
  rw [← hwB] at hB bB
  rw [eA] at hB
  have hC := Box.new wB #[.int .i64 b.st, .int .i64 b.ng, .int .i64 b.ns, .int .i64 b.nv, .slice none 0 0] 48
  have kC := belNew wB (.cells #[.int .i64 b.st, .int .i64 b.ng, .int .i64 b.ns, .int .i64 b.nv, .slice none 0 0] 48)
  have bC := bB.trans (kC.mono bB.size)
  obtain ⟨wC, hwC⟩ : ∃ wC, wC = wB.alloc (.cells #[.int .i64 b.st, .int .i64 b.ng, .int .i64 b.ns, .int .i64 b.nv, .slice none 0 0] 48) := ⟨_, rfl⟩
  have eC : wC.heap.size = w.heap.size + 1 + 1 + 1 := by rw [hwC]; simp; omega
  rw [← hwC] at hC kC bC
  rw [eB] at hC
  have hB' := hB.later kC
  have HT := Lib.hid (toRefS_any b.refs _ wC (h.later bC) hl)
  have HEC := Lib.hid eC
  have HWC : Hid (wC = ((w.alloc (.cells #[.int .i64 b.st, .int .i64 b.ng, .int .i64 b.ns, .int .i64 b.nv, .slice a n c] 42)).alloc (.cells #[.int .i64 0, .int .i64 0, .int .i64 0, .int .i64 0, .slice none 0 0] 48)).alloc (.cells #[.int .i64 b.st, .int .i64 b.ng, .int .i64 b.ns, .int .i64 b.nv, .slice none 0 0] 48)) := by rw [← hwA, ← hwB, ← hwC]; exact rfl
  clear h hB bB bA kC eA eB eC hwA hwB hwC
  go_enter Tryz.func17, Tryz.ntmps17
  go_wp2_with fail
  rw [← HWC.out]
  refine HT.out.mono ?_
  rintro e w1 ⟨v1, rfl, R1⟩
  obtain ⟨p, q, rfl⟩ := R1.form
  have B1 := hB'.later R1.bel
  have C1 := hC.later R1.bel
  have b1 := bC.trans (R1.bel.mono bC.size)
  obtain ⟨u0, u1, u2, u3, u4⟩ := B1.fiveC'
  obtain ⟨x0, x1, x2, x3, x4⟩ := C1.fiveC'
  have f0 := B1.loose 0
  have f1 := B1.loose 1
  have f2 := B1.loose 2
  have f3 := B1.loose 3
  have f4 := B1.loose 4
  have y4 := C1.loose 4
  have C2 : Box (w1.setCell ⟨w.heap.size + 1 + 1, 4, none⟩ (.slice p b.refs.length q)) (w.heap.size + 1 + 1) #[.int .i64 b.st, .int .i64 b.ng, .int .i64 b.ns, .int .i64 b.nv, .slice p b.refs.length q] 48 := C1.set 4 _
  have B2 : Box (w1.setCell ⟨w.heap.size + 1 + 1, 4, none⟩ (.slice p b.refs.length q)) (w.heap.size + 1) #[.int .i64 0, .int .i64 0, .int .i64 0, .int .i64 0, .slice none 0 0] 48 := B1.other (by omega) 4 _
  have hg1 : w.heap.size + 1 + 1 < wC.heap.size := by have := HEC.out; omega
  have R2 := Lib.hid (R1.here.asideC (w.heap.size + 1 + 1) 4 (.slice p b.refs.length q) hg1)
  have b2 := Lib.hid (b1.setCell (p := ⟨w.heap.size + 1 + 1, 4, none⟩) (show w.heap.size ≤ w.heap.size + 1 + 1 by omega) (.slice p b.refs.length q))
  have HG := Lib.hid hg1
  clear hB' hC bC HT HWC HEC B1 C1 b1 R1 hg1
  go_upto_region 7 with fail
  generalize w1.setCell ⟨w.heap.size + 1 + 1, 4, none⟩ (.slice p b.refs.length q) = w2 at C2 B2 R2 b2 ⊢
  clear u0 u1 u2 u3 u4 x0 x1 x2 x3 x4 f0 f1 f2 f3 f4 y4
  obtain ⟨u0, u1, u2, u3, u4⟩ := B2.fiveC'
  obtain ⟨x0, x1, x2, x3, x4⟩ := C2.fiveC'
  have f0 := B2.loose 0
  have f1 := B2.loose 1
  have f2 := B2.loose 2
  have f3 := B2.loose 3
  have f4 := B2.loose 4
  have L5 : Box (set5C w2 (w.heap.size + 1) (.int .i64 b.st) (.int .i64 b.ng) (.int .i64 b.ns) (.int .i64 b.nv) (.slice p b.refs.length q)) (w.heap.size + 1) #[.int .i64 b.st, .int .i64 b.ng, .int .i64 b.ns, .int .i64 b.nv, .slice p b.refs.length q] 48 := ((((B2.set 0 _).set 1 _).set 2 _).set 3 _).set 4 _
  unfold set5C at L5
  obtain ⟨z0, z1, z2, z3, z4⟩ := L5.fiveC'
  clear L5 B2 C2
  go_wp2
  refine bodyPost_ret (v := .agg #[.int .i64 b.st, .int .i64 b.ng, .int .i64 b.ns, .int .i64 b.nv, .slice p b.refs.length q]) (by simp [results, Tryz.results17, go_sem, z0, z1, z2, z3, z4]) rfl ⟨_, _, _, rfl, ?_, ?_⟩
  · have hl : w.heap.size + 1 < wC.heap.size := by have := HG.out; omega
    exact (((((R2.out.asideC _ 0 _ hl).asideC _ 1 _ hl).asideC _ 2 _ hl).asideC _ 3 _ hl).asideC _ 4 _ hl).lower (by omega)
  · exact ((((b2.out.setCell (p := ⟨w.heap.size + 1, 0, none⟩) (by simp) _).setCell (p := ⟨w.heap.size + 1, 1, none⟩) (by simp) _).setCell (p := ⟨w.heap.size + 1, 2, none⟩) (by simp) _).setCell (p := ⟨w.heap.size + 1, 3, none⟩) (by simp) _).setCell (p := ⟨w.heap.size + 1, 4, none⟩) (by simp) _

theorem list2C {α : Type} {l : List α} (h : l.length = 2) : ∃ v0 v1, l = [v0, v1] := by
  match l, h with
  | [v0, v1], _ => exact ⟨v0, v1, rfl⟩
theorem list5C {α : Type} {l : List α} (h : l.length = 5) : ∃ v0 v1 v2 v3 v4, l = [v0, v1, v2, v3, v4] := by
  match l, h with
  | [v0, v1, v2, v3, v4], _ => exact ⟨v0, v1, v2, v3, v4, rfl⟩

section
variable {H : Type} {enc : TypeId × Value → H} {P : Program} {w : World} {base : Nat} {spare : Nat → Bool} {held : Bool}
/-- The fields of a struct, each of one cell. -/
theorem trod_onesC {t : TypeId} {fs : Array Field} {fuel : Nat} {cs : List Value} {x : DataW H × List MemPlace} (hs : P.underlying t = some (.struct fs)) (hone : oneCellFields P fs = true)
    (h : DataW.trod enc P w base spare held fuel t cs = some x) :
    ∃ n : Nat, cs.length = P.cellsOf t ∧ ∀ (i : Nat) (f : Field) (v : Value), fs[i]? = some f → cs[i]? = some v → ∃ y, DataW.trod enc P w base spare held n f.type [v] = some y := by
  obtain ⟨xs, n, _, _, hl, hlen, hf⟩ := DataW.trod_struct hs h
  refine ⟨n, hl, fun i f v hi hv => ?_⟩
  obtain ⟨o, k⟩ := hone_of hone i f hi
  have hx := hf i f hi
  rw [o, k] at hx
  have e : (List.drop i cs).take 1 = [v] := by
    rw [List.take_one, List.head?_drop, hv]; rfl
  rw [e] at hx
  have hi' : i < xs.length := by
    rw [hlen]
    exact (Array.getElem?_eq_some_iff.1 hi).1
  exact ⟨xs[i], by first | (rw [hx]; exact List.getElem?_eq_getElem hi') | (rw [List.getElem?_eq_getElem hi'] at hx; exact hx) | simpa [hi'] using hx⟩
end

section
variable {H : Type} {enc : TypeId × Value → H} {W : World}
set_option maxRecDepth 100000 in
theorem ref_form {fuel : Nat} {l : List Value} {x : DataW H × List MemPlace} (hf : DataW.trod enc Tryz.prog W 0 (fun _ => true) true fuel 130 l = some x) : ∃ y : Rf, l = lrfE.f y := by
  have hC : Tryz.prog.cellsOf 130 = 2 := by kernel_rfl
  obtain ⟨n, hl, hx⟩ := trod_onesC Tryz.underlying130 (by kernel_rfl) hf
  obtain ⟨v0, v1, rfl⟩ := list2C (hl.trans hC)
  obtain ⟨y0, h0⟩ := hx 0 _ v0 rfl rfl
  obtain ⟨y1, h1⟩ := hx 1 _ v1 rfl rfl
  obtain ⟨k0, hk0, _, _⟩ := DataW.trod_int Tryz.underlying3 h0
  obtain ⟨k1, hk1, _, _⟩ := DataW.trod_int Tryz.underlying3 h1
  simp at hk0 hk1
  exact ⟨(k0, k1), by rw [hk0, hk1]; rfl⟩
set_option maxRecDepth 100000 in
theorem refs_of_trod {fuel : Nat} {v : Value} {x : DataW H × List MemPlace} (h : DataW.trod enc Tryz.prog W 0 (fun _ => true) true fuel 40 [v] = some x) : ∃ l : List Rf, Rows' lrfE W v l ∧ l.length ≤ 9223372036854775807 := by
  have hC : Tryz.prog.cellsOf 130 = 2 := by kernel_rfl
  have hml : maxLen ≤ 9223372036854775807 := by decide
  rcases open_slice Tryz.underlying40 h with ⟨hv, _⟩ | ⟨a, len, cap, m, n, D, Pl, hv, _, hl, hm, hmm, _, hc⟩
  · simp at hv; subst hv
    exact ⟨[], .inl ⟨rfl, _, _, rfl⟩, by simp⟩
  · simp at hv; subst hv
    have hm2 : m = cap := by simpa using hmm
    have hex : ∀ i, i < len → ∃ y : Rf, ∀ k u, (lrfE.f y)[k]? = some u → W.cell? (a.add (i * 2 + k)) = some u := by
      intro i hi
      obtain ⟨cs', h1, h2⟩ := hc i (by omega)
      rw [hC] at h1
      obtain ⟨_, hlen, hcell⟩ := World.cells?_some h1
      obtain ⟨y, hy⟩ := ref_form h2
      refine ⟨y, fun k u hu => ?_⟩
      have hk : k < 2 := by have h9 := (List.getElem?_eq_some_iff.1 hu).1; rw [lrfE.len y] at h9; exact h9
      have := hcell k hk
      rw [add_add] at this
      rw [this, hy]
      exact hu
    obtain ⟨l, hlen, hr, _⟩ := rows_of_cells lrfE hl (fun i hi => hex i hi) (fun _ => True) (fun i hi y hy => trivial)
    exact ⟨l, hr, by omega⟩
set_option maxRecDepth 100000 in
theorem open_Check {b0 : Nat} {r : Reach} {v : Value} {d : DataW H} {p : List MemPlace} (hv : Value.okWide Tryz.prog W r b0 42 v) (h : DataW.Trod enc Tryz.prog W 0 (fun _ => true) true 42 v d p) : ∃ c : Ck, CIn W v c := by
  obtain ⟨cs, rfl, hsz⟩ := okWide_struct Tryz.underlying42 hv
  obtain ⟨fuel, hf⟩ := h
  obtain ⟨l⟩ := cs
  have hC : Tryz.prog.cellsOf 42 = 5 := by kernel_rfl
  have hf' : DataW.trod enc Tryz.prog W 0 (fun _ => true) true fuel 42 l = some (d, p) := hf
  obtain ⟨n, hl, hx⟩ := trod_onesC Tryz.underlying42 (by kernel_rfl) hf'
  obtain ⟨v0, v1, v2, v3, v4, rfl⟩ := list5C (hl.trans hC)
  obtain ⟨y0, h0⟩ := hx 0 _ v0 rfl rfl
  obtain ⟨y1, h1⟩ := hx 1 _ v1 rfl rfl
  obtain ⟨y2, h2⟩ := hx 2 _ v2 rfl rfl
  obtain ⟨y3, h3⟩ := hx 3 _ v3 rfl rfl
  obtain ⟨y4, h4⟩ := hx 4 _ v4 rfl rfl
  obtain ⟨k0, hk0, _, _⟩ := DataW.trod_int Tryz.underlying3 h0
  obtain ⟨k1, hk1, _, _⟩ := DataW.trod_int Tryz.underlying3 h1
  obtain ⟨k2, hk2, _, _⟩ := DataW.trod_int Tryz.underlying3 h2
  obtain ⟨k3, hk3, _, _⟩ := DataW.trod_int Tryz.underlying3 h3
  obtain ⟨rs, hr, hn⟩ := refs_of_trod h4
  simp at hk0 hk1 hk2 hk3
  obtain ⟨a, c, rfl⟩ : ∃ ad cap, v4 = .slice ad rs.length cap := by
    obtain ⟨ad, cap, e, _⟩ := hr.lrefs
    exact ⟨ad, cap, e⟩
  exact ⟨⟨k0, k1, k2, k3, rs⟩, a, c, by rw [hk0, hk1, hk2, hk3], hr, hn⟩
end

end Go.Proofs.YtieenkloiicnkaaGreatDoor

/- What a disk is that comes in as an argument: its rows can be read. -/
namespace Go.Proofs.YtieenkloiicnkaaGreatDoor
open Go.RowKit Go.ChangeShapes Go.WideShapes Go.ChangeAt Go.Deep Go.Joins

section
variable {H : Type} {enc : TypeId × Value → H} {W : World}

set_option maxRecDepth 100000 in
theorem strs_of_trod {fuel : Nat} {v : Value} {x : DataW H × List MemPlace} (h : DataW.trod enc Tryz.prog W 0 (fun _ => true) true fuel 22 [v] = some x) :
    ∃ l : List ByteArray, Rows' strE W v l ∧ l.length ≤ maxLen ∧ ∀ s ∈ l, s.size ≤ maxLen := by
  rcases open_slice1 Tryz.underlying22 (by kernel_rfl) h with ⟨hv, _⟩ | ⟨a, len, cap, m, n, V, D, Pl, hv, _, hl, hm, hmm, _, hc⟩
  · simp at hv; subst hv
    exact ⟨[], .inl ⟨rfl, _, _, rfl⟩, by decide, by simp⟩
  · simp at hv; subst hv
    have hm2 : m = cap := by simpa using hmm
    have hex : ∀ i, i < len → ∃ s : ByteArray, W.cell? (a.add i) = some (.string s) ∧ s.size ≤ maxLen := by
      intro i hi
      obtain ⟨h1, h2⟩ := hc i (by omega)
      obtain ⟨s, hs, _, hsz⟩ := DataW.trod_string Tryz.underlying9 h2
      simp at hs
      exact ⟨s, by rw [h1, hs], hsz⟩
    obtain ⟨l, hlen, hr, hp⟩ := rows_of_cells strE hl (fun i hi => by
      obtain ⟨s, hs, _⟩ := hex i hi
      refine ⟨s, fun k u hu => ?_⟩
      match k, hu with
      | 0, hu => simp [strE] at hu; subst hu; rw [show strE.sz = 1 from rfl, Nat.mul_one, Nat.add_zero]; exact hs
      | k + 1, hu => simp [strE] at hu) (fun s => s.size ≤ maxLen) (fun i hi s hs => by
      obtain ⟨t, ht, hts⟩ := hex i hi
      have := hs 0 (.string s) rfl
      rw [show strE.sz = 1 from rfl, Nat.mul_one, Nat.add_zero, ht] at this
      simp at this
      subst this
      exact hts)
    exact ⟨l, hr, by omega, hp⟩

instance : Inhabited Wr := ⟨⟨0, ⟨#[]⟩⟩⟩

set_option maxRecDepth 100000 in
theorem writes_of_trod {fuel : Nat} {v : Value} {x : DataW H × List MemPlace} (h : DataW.trod enc Tryz.prog W 0 (fun _ => true) true fuel 23 [v] = some x) :
    ∃ l : List Wr, Rows' lwrE W v l ∧ l.length ≤ maxLen ∧ ∀ x ∈ l, x.text.size ≤ maxLen := by
  rcases open_slice_pairs Tryz.underlying23 Tryz.underlying110 (by kernel_rfl) rfl rfl (by kernel_rfl) (by kernel_rfl) h with ⟨hv, _⟩ | ⟨a, len, cap, m, n, V0, V1, D0, D1, P0, P1, hv, _, hl, hm, hmm, _, hc⟩
  · simp at hv; subst hv
    exact ⟨[], .inl ⟨rfl, _, _, rfl⟩, by decide, by simp⟩
  · simp at hv; subst hv
    have hm2 : m = cap := by simpa using hmm
    have hex : ∀ i, i < len → ∃ x : Wr, W.cell? (a.add (i * 2)) = some (.int .i64 x.at_) ∧ W.cell? (a.add (i * 2 + 1)) = some (.string x.text) ∧ x.text.size ≤ maxLen := by
      intro i hi
      obtain ⟨h1, h2, h3, h4⟩ := hc i (by omega)
      obtain ⟨s, hs, _, hsz⟩ := DataW.trod_string Tryz.underlying9 h4
      obtain ⟨k, hk, _, _⟩ := DataW.trod_int Tryz.underlying3 h3
      simp at hs hk
      exact ⟨⟨k, s⟩, by rw [h1, hk], by rw [h2, hs], hsz⟩
    obtain ⟨l, hlen, hr, hp⟩ := rows_of_cells lwrE hl (fun i hi => by
      obtain ⟨x, h0, h1, _⟩ := hex i hi
      refine ⟨x, fun k u hu => ?_⟩
      match k, hu with
      | 0, hu => simp [lwrE] at hu; subst hu; exact h0
      | 1, hu => simp [lwrE] at hu; subst hu; exact h1
      | k + 2, hu => simp [lwrE] at hu) (fun x => x.text.size ≤ maxLen) (fun i hi x hx => by
      obtain ⟨y, _, h1, hys⟩ := hex i hi
      have : W.cell? (a.add (i * 2 + 1)) = some (.string x.text) := hx 1 (.string x.text) rfl
      rw [h1] at this
      simp at this
      rw [← this]
      exact hys)
    exact ⟨l, hr, by omega, hp⟩

set_option maxRecDepth 100000 in
theorem open_Disk {b0 : Nat} {r : Reach} {v : Value} {d : DataW H} {p : List MemPlace} (hv : Value.okWide Tryz.prog W r b0 25 v) (h : DataW.Trod enc Tryz.prog W 0 (fun _ => true) true 25 v d p) : ∃ D : Dk, DIn W v D := by
  obtain ⟨va, vb, y0, y1, n, rfl, _, _, h0, h1⟩ := open_agg2 Tryz.underlying25 (by kernel_rfl) (by kernel_rfl) hv h
  obtain ⟨l, hl1, hl2, hl3⟩ := strs_of_trod h0
  obtain ⟨c, hc1, hc2, hc3⟩ := writes_of_trod h1
  have hml : maxLen ≤ 9223372036854775807 := by decide
  exact ⟨⟨l, c⟩, va, vb, rfl, hl1, hc1, Nat.le_trans hl2 hml, Nat.le_trans hc2 hml, fun s hs => Nat.le_trans (hl3 s hs) hml, fun x hx => Nat.le_trans (hc3 x hx) hml⟩
end

end Go.Proofs.YtieenkloiicnkaaGreatDoor

/- What the exact laws on disks carry from call to call: a disk of its own that stands in a box. -/
namespace Go.Proofs.YtieenkloiicnkaaGreatDoor
open Go.RowKit

/-- The box b holds the disk d, whose rows lie in the blocks B .. T-1. -/
def DB (x : World) (b B T : Nat) (s1 s2 : Value) (d : Dk) : Prop := Box x b #[s1, s2] 33 ∧ DOwn B T x (.agg #[s1, s2]) d

theorem DB.new {x : World} {B T : Nat} {s1 s2 : Value} {d : Dk} (h : DOwn B T x (.agg #[s1, s2]) d) : DB (x.alloc (.cells #[s1, s2] 33)) x.heap.size B T s1 s2 d :=
  ⟨Box.new x _ _, h.later ((Below.refl _ _).alloc (Nat.le_refl _) _)⟩
theorem DB.later {x y : World} {b B T : Nat} {s1 s2 : Value} {d : Dk} (h : DB x b B T s1 s2 d) (hb : Below x.heap.size x y) : DB y b B T s1 s2 d := ⟨h.1.later hb, h.2.later hb⟩
theorem DB.kept {x y : World} {b B T B' T' : Nat} {s1 s2 : Value} {d : Dk} (h : DB x b B T s1 s2 d) (hk : Kept B' T' x y) (hd : T ≤ B' ∨ T' ≤ B) (hb : b < B' ∨ T' ≤ b) : DB y b B T s1 s2 d := ⟨h.1.kept hk hb, h.2.kept hk hd⟩
theorem DB.marked {x y : World} {b B T : Nat} {s1 s2 : Value} {d d' : Dk} (h : DB x b B T s1 s2 d) (hk : Kept B T x y) (ho : DOwn B T y (.agg #[s1, s2]) d') (hb : b < B ∨ T ≤ b) : DB y b B T s1 s2 d' := ⟨h.1.kept hk hb, ho⟩
theorem DB.c0 {x : World} {b B T : Nat} {s1 s2 : Value} {d : Dk} (h : DB x b B T s1 s2 d) : x.cell? ⟨b, 0, none⟩ = some s1 := h.1.cell 0 s1 rfl
theorem DB.c1 {x : World} {b B T : Nat} {s1 s2 : Value} {d : Dk} (h : DB x b B T s1 s2 d) : x.cell? ⟨b, 1, none⟩ = some s2 := h.1.cell 1 s2 rfl

theorem drewBel (x : World) : Below x.heap.size x x.drew := (Below.refl _ _).drew

theorem Kept.belowW {B T : Nat} {W x y : World} (h : Kept B T x y) (hb : Below W.heap.size W x) (h0 : W.heap.size ≤ B) : Below W.heap.size W y := h.below hb h0 hb.size

end Go.Proofs.YtieenkloiicnkaaGreatDoor

/- The table of sixteen words, where the row lays it. -/
namespace Go.Proofs.YtieenkloiicnkaaGreatDoor
open Go.ChangeShapes Go.WideShapes Go.ChangeAt Go.RowKit
open Go.ChangeMaps (open_string shut_string)
set_option linter.unusedVariables false

theorem sumTabData : (Rows.laid_loop_example_g00287_impl_sumTable : DataW Unit) = Lib.tabData .u32 sumTabI := by rfl

theorem sumTab_of_laid {W : World} (h : laidMetH Tryz.prog [("loop.example/g00287/impl.sumTable", Rows.laid_loop_example_g00287_impl_sumTable)] W) : SumTab W := by
  rw [MakeChecks.laidMetH_plain _ _ _ (by kernel_rfl)] at h
  obtain ⟨ps, ⟨g0, t0, cs0, f0, p0, q0, hg0, ht0, hv0, hd0, _, _⟩, _⟩ := h
  have hg : Tryz.prog.globalNamed "loop.example/g00287/impl.sumTable" = some 1 := by kernel_rfl
  have ht : (Tryz.prog.globals[1]?).map (·.type) = some 254 := by kernel_rfl
  obtain rfl := Option.some.inj (hg.symm.trans hg0)
  obtain rfl := Option.some.inj (ht.symm.trans ht0)
  unfold SumTab Lib.TabIs
  rw [sumTabData] at hd0
  rw [hv0, ← Lib.cells_of_tab (P := Tryz.prog) Tryz.underlying254 Tryz.underlying159 (by kernel_rfl) (by kernel_rfl) hd0]

end Go.Proofs.YtieenkloiicnkaaGreatDoor

/- The handle of the type error, out of what the row lays. -/
namespace Go.Proofs.YtieenkloiicnkaaGreatDoor
open Go.RowKit

theorem err_et : Tryz.prog.globalNamed "errors.errorType" = some 0 := by kernel_rfl
theorem err_rt : (Tryz.prog.cutTypes.find? (·.1 == "internal/reflectlite.rtype")).map (·.2) = some 214 := by kernel_rfl
theorem err_oneRow : ((List.range 282).filter fun t => Tryz.prog.rowNamed t [101, 114, 114, 111, 114]) = [89] := by kernel_rfl
theorem err_size : Tryz.prog.types.size = 282 := by kernel_rfl

/-- From the handles that are met to the variable's one cell. -/
theorem errTab_of_handles {W : World} {l : List (String × DataW Unit)} (hm : ("errors.errorType", (.iface "internal/reflectlite.rtype" (.agg [.ptr (.lit (.string [101, 114, 114, 111, 114]))]) : DataW Unit)) ∈ l) (h : handlesMet Tryz.prog l W) : ErrTab W := by
  obtain ⟨name, u, ty, e1, e2, e3, e4, e5⟩ := h _ (by first | exact hm | exact List.mem_filter.2 ⟨hm, by kernel_rfl⟩)
  have en : name = [101, 114, 114, 111, 114] := (Option.some.inj e1).symm
  subst en
  obtain rfl := Option.some.inj (err_rt.symm.trans e2)
  have hm : ty ∈ (List.range 282).filter fun t => Tryz.prog.rowNamed t [101, 114, 114, 111, 114] := List.mem_filter.2 ⟨List.mem_range.2 (by rw [← err_size]; exact e3), e4⟩
  rw [err_oneRow] at hm
  obtain rfl := List.mem_singleton.1 hm
  have hh : typeHandle Tryz.prog 89 = .pointer (some ⟨2, 89, none⟩) := by kernel_rfl
  rw [hh] at e5
  unfold ErrTab
  simpa using World.var?_cell err_et e5 0

end Go.Proofs.YtieenkloiicnkaaGreatDoor
