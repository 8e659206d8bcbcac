/- Texts of our own, joined. -/
import Derived.Test.YtlifgcgoehkinaaGreatDoorJe
import Derived.Test.YtlifgcgoehkinaaGreatDoorJa
import Derived.Test.YtlifgcgoehkinaaGreatDoorJd
import Derived.Lib.Hide
/- Lists of items that come in: how great they are, copies of them, and that two alike are alike; items marked. -/
namespace Go.Proofs.YtlifgcgoehkinaaGreatDoor
open Go.RowKit

def litE : Enc Itm where
  ty := 131
  sty := 79
  sz := 9
  bytes := 96
  zero := .agg #[.int .i64 0, .int .i64 0, .int .i64 0, .int .i64 0, .int .i64 0, .int .i64 0, .string ⟨#[]⟩, .string ⟨#[]⟩, .string ⟨#[]⟩]
  f := fun x => [.int .i64 x.1, .int .i64 x.2.kind, .int .i64 x.2.valid, .int .i64 x.2.uid, .int .i64 x.2.next, .int .i64 x.2.flags, .string x.2.user, .string x.2.name, .string x.2.text]
  len := fun _ => rfl
  pos := by decide
  one := fun _ u hu => by simp at hu; rcases hu with rfl | rfl | rfl | rfl | rfl | rfl | rfl | rfl | rfl <;> rfl
  und := Tryz.underlying79
  info := by kernel_rfl
  zc := rfl
  z0 := (0, Rc.nil)
  zf := rfl

theorem Rows'.litems {w : World} {v : Value} {l : List Itm} (h : Rows' litE w v l) : ∃ (ad : Option Addr) (cap : Nat), v = .slice ad l.length cap ∧ ItRow w ad l := by
  rcases h.ways with ⟨rfl, a, c, rfl⟩ | ⟨hne, g, off, c, rfl, hc, hg, hcl⟩
  · exact ⟨a, c, rfl, fun X _ i x hi => by cases hi⟩
  · exact ⟨_, c, rfl, fun X hb i x hi => ⟨g, off, rfl, it_cells (fun j x hj k u hu => hcl j x hj k u hu) hg hb i x hi⟩⟩

theorem RBuf.put9 {B : Nat} {w0 w : World} {g cap : Nat} {l : List Itm} (h : RBuf itE B w0 w (.slice (some ⟨g, 0, none⟩) l.length cap) l) (i : Nat) (x : Itm) (hi : l[i]? = some x) (y : Itm) :
    RBuf itE B w0 (((((((((w.setCell ⟨g, i * 9, none⟩ (.int .i64 y.1)).setCell ⟨g, i * 9 + 1, none⟩ (.int .i64 y.2.kind)).setCell ⟨g, i * 9 + 2, none⟩ (.int .i64 y.2.valid)).setCell ⟨g, i * 9 + 3, none⟩ (.int .i64 y.2.uid)).setCell ⟨g, i * 9 + 4, none⟩ (.int .i64 y.2.next)).setCell ⟨g, i * 9 + 5, none⟩ (.int .i64 y.2.flags)).setCell ⟨g, i * 9 + 6, none⟩ (.string y.2.user)).setCell ⟨g, i * 9 + 7, none⟩ (.string y.2.name)).setCell ⟨g, i * 9 + 8, none⟩ (.string y.2.text)) (.slice (some ⟨g, 0, none⟩) l.length cap) (l.set i y) := by
  have hlt : i < l.length := (List.getElem?_eq_some_iff.1 hi).1
  have hl1 : ∀ z : Itm, (l.set i z).length = l.length := fun z => by simp
  have ha1 : ∀ z : Itm, (l.set i z)[i]? = some z := fun z => List.getElem?_set_self hlt
  have s0 : RBuf itE B w0 (w.setCell ⟨g, i * 9, none⟩ (.int .i64 y.1)) (.slice (some ⟨g, 0, none⟩) l.length cap) (l.set i (y.1, ⟨x.2.kind, x.2.valid, x.2.uid, x.2.next, x.2.flags, x.2.user, x.2.name, x.2.text⟩)) := h.stored i _ (y.1, ⟨x.2.kind, x.2.valid, x.2.uid, x.2.next, x.2.flags, x.2.user, x.2.name, x.2.text⟩) hi 0 (by decide) (.int .i64 y.1) rfl
  rw [← hl1 (y.1, ⟨x.2.kind, x.2.valid, x.2.uid, x.2.next, x.2.flags, x.2.user, x.2.name, x.2.text⟩)] at s0
  have s1 := s0.stored i _ (y.1, ⟨y.2.kind, x.2.valid, x.2.uid, x.2.next, x.2.flags, x.2.user, x.2.name, x.2.text⟩) (ha1 _) 1 (by decide) (.int .i64 y.2.kind) rfl
  rw [List.set_set, hl1] at s1
  rw [← hl1 (y.1, ⟨y.2.kind, x.2.valid, x.2.uid, x.2.next, x.2.flags, x.2.user, x.2.name, x.2.text⟩)] at s1
  have s2 := s1.stored i _ (y.1, ⟨y.2.kind, y.2.valid, x.2.uid, x.2.next, x.2.flags, x.2.user, x.2.name, x.2.text⟩) (ha1 _) 2 (by decide) (.int .i64 y.2.valid) rfl
  rw [List.set_set, hl1] at s2
  rw [← hl1 (y.1, ⟨y.2.kind, y.2.valid, x.2.uid, x.2.next, x.2.flags, x.2.user, x.2.name, x.2.text⟩)] at s2
  have s3 := s2.stored i _ (y.1, ⟨y.2.kind, y.2.valid, y.2.uid, x.2.next, x.2.flags, x.2.user, x.2.name, x.2.text⟩) (ha1 _) 3 (by decide) (.int .i64 y.2.uid) rfl
  rw [List.set_set, hl1] at s3
  rw [← hl1 (y.1, ⟨y.2.kind, y.2.valid, y.2.uid, x.2.next, x.2.flags, x.2.user, x.2.name, x.2.text⟩)] at s3
  have s4 := s3.stored i _ (y.1, ⟨y.2.kind, y.2.valid, y.2.uid, y.2.next, x.2.flags, x.2.user, x.2.name, x.2.text⟩) (ha1 _) 4 (by decide) (.int .i64 y.2.next) rfl
  rw [List.set_set, hl1] at s4
  rw [← hl1 (y.1, ⟨y.2.kind, y.2.valid, y.2.uid, y.2.next, x.2.flags, x.2.user, x.2.name, x.2.text⟩)] at s4
  have s5 := s4.stored i _ (y.1, ⟨y.2.kind, y.2.valid, y.2.uid, y.2.next, y.2.flags, x.2.user, x.2.name, x.2.text⟩) (ha1 _) 5 (by decide) (.int .i64 y.2.flags) rfl
  rw [List.set_set, hl1] at s5
  rw [← hl1 (y.1, ⟨y.2.kind, y.2.valid, y.2.uid, y.2.next, y.2.flags, x.2.user, x.2.name, x.2.text⟩)] at s5
  have s6 := s5.stored i _ (y.1, ⟨y.2.kind, y.2.valid, y.2.uid, y.2.next, y.2.flags, y.2.user, x.2.name, x.2.text⟩) (ha1 _) 6 (by decide) (.string y.2.user) rfl
  rw [List.set_set, hl1] at s6
  rw [← hl1 (y.1, ⟨y.2.kind, y.2.valid, y.2.uid, y.2.next, y.2.flags, y.2.user, x.2.name, x.2.text⟩)] at s6
  have s7 := s6.stored i _ (y.1, ⟨y.2.kind, y.2.valid, y.2.uid, y.2.next, y.2.flags, y.2.user, y.2.name, x.2.text⟩) (ha1 _) 7 (by decide) (.string y.2.name) rfl
  rw [List.set_set, hl1] at s7
  rw [← hl1 (y.1, ⟨y.2.kind, y.2.valid, y.2.uid, y.2.next, y.2.flags, y.2.user, y.2.name, x.2.text⟩)] at s7
  have s8 := s7.stored i _ (y.1, ⟨y.2.kind, y.2.valid, y.2.uid, y.2.next, y.2.flags, y.2.user, y.2.name, y.2.text⟩) (ha1 _) 8 (by decide) (.string y.2.text) rfl
  rw [List.set_set, hl1] at s8
  exact s8

set_option maxRecDepth 100000 in
set_option maxHeartbeats 2000000 in
theorem toItemS_any (l : List Itm) (v : Value) (w : World) (h : Rows' litE w v l) (hl : l.length ≤ 1048576) :
    Calls Tryz.prog 64 #[v] w fun e w' => ∃ v', e = .returned v' ∧ RBuf itE w.heap.size w w' v' l := by
  obtain ⟨a, cap, rfl, hrow⟩ := h.litems
  have HR := Lib.hid hrow
  clear h hrow
  go_enter Tryz.func64, Tryz.ntmps64
  go_wp2_with (at_make; refine wpList_make_rows rfl _ _ itE rfl .i64 .i64 _ _ l.length rfl rfl rfl rfl (by show 97 * l.length ≤ _; omega) ?_; intro w1 hr1 hs1)
  go_loopw [4] (fun iv wr => ∃ i : Nat, i ≤ l.length ∧ iv = .int .i64 (i : Int) ∧ RBuf itE w.heap.size w wr (.slice (some ⟨w.heap.size, 0, none⟩) l.length l.length) (copyTo itE.z0 l i)) (fun iv _ => l.length - (intOf iv).toNat)
  case atStart => exact ⟨0, by omega, rfl, by rw [copyTo_zero]; exact hr1⟩
  case round =>
    obtain ⟨i, hi, rfl, hbr⟩ := hrel
    by_cases hlt : i < l.length
    · have hgx : l[i]? = some l[i] := List.getElem?_eq_getElem hlt
      obtain ⟨ga, oa, rfl, a0, a1, a2, a3, a4, a5, a6, a7, a8⟩ := HR.out _ hbr.bel i _ hgx
      have hi0 : (0 : Int) ≤ (i : Int) := by omega
      have hi1 : (i : Int) < (l.length : Int) := by omega
      have hml := copyTo_length (z := itE.z0) hi
      have hms := copyTo_set (z := itE.z0) hlt
      have hat := copyTo_at (z := itE.z0) hlt
      rw [← hml] at hbr
      have HF : Hid (∀ w1, Below wr.heap.size wr w1 → (w1.cell? ⟨w.heap.size, i * 9, none⟩ = some (.int .i64 0) ∧ w1.frozen? ⟨w.heap.size, i * 9, none⟩ = false ∧ w1.cell? ⟨w.heap.size, i * 9 + 1, none⟩ = some (.int .i64 0) ∧ w1.frozen? ⟨w.heap.size, i * 9 + 1, none⟩ = false ∧ w1.cell? ⟨w.heap.size, i * 9 + 2, none⟩ = some (.int .i64 0) ∧ w1.frozen? ⟨w.heap.size, i * 9 + 2, none⟩ = false ∧ w1.cell? ⟨w.heap.size, i * 9 + 3, none⟩ = some (.int .i64 0) ∧ w1.frozen? ⟨w.heap.size, i * 9 + 3, none⟩ = false ∧ w1.cell? ⟨w.heap.size, i * 9 + 4, none⟩ = some (.int .i64 0) ∧ w1.frozen? ⟨w.heap.size, i * 9 + 4, none⟩ = false ∧ w1.cell? ⟨w.heap.size, i * 9 + 5, none⟩ = some (.int .i64 0) ∧ w1.frozen? ⟨w.heap.size, i * 9 + 5, none⟩ = false ∧ w1.cell? ⟨w.heap.size, i * 9 + 6, none⟩ = some (.string ⟨#[]⟩) ∧ w1.frozen? ⟨w.heap.size, i * 9 + 6, none⟩ = false ∧ w1.cell? ⟨w.heap.size, i * 9 + 7, none⟩ = some (.string ⟨#[]⟩) ∧ w1.frozen? ⟨w.heap.size, i * 9 + 7, none⟩ = false ∧ w1.cell? ⟨w.heap.size, i * 9 + 8, none⟩ = some (.string ⟨#[]⟩) ∧ w1.frozen? ⟨w.heap.size, i * 9 + 8, none⟩ = false)) := by
        intro w1 hb1
        have h1 := hbr.later hb1
        exact ⟨h1.cell rfl i _ hat 0 _ rfl, h1.loose _, h1.cell rfl i _ hat 1 _ rfl, h1.loose _, h1.cell rfl i _ hat 2 _ rfl, h1.loose _, h1.cell rfl i _ hat 3 _ rfl, h1.loose _, h1.cell rfl i _ hat 4 _ rfl, h1.loose _, h1.cell rfl i _ hat 5 _ rfl, h1.loose _, h1.cell rfl i _ hat 6 _ rfl, h1.loose _, h1.cell rfl i _ hat 7 _ rfl, h1.loose _, h1.cell rfl i _ hat 8 _ rfl, h1.loose _⟩
      generalize hx : l[i] = x at *
      have HT := Lib.hid (fun wx => toItem_any x.1 x.2 wx)
      obtain ⟨sq, K, V, U, N, FL, US, NM, TX⟩ := x
      unfold itV at HT
      simp only at a0 a1 a2 a3 a4 a5 a6 a7 a8 HT
      clear hgx
      go_wp2_with (go_at_call 82; refine (HT.out _).mono ?_; rintro e w1 ⟨rfl, hb1⟩; obtain ⟨d0, f0, d1, f1, d2, f2, d3, f3, d4, f4, d5, f5, d6, f6, d7, f7, d8, f8⟩ := HF.out w1 hb1)
      have hp := (hbr.later hb1).put9 i _ hat (sq, ⟨K, V, U, N, FL, US, NM, TX⟩)
      rw [hms, hml] at hp
      go_roundw
      case rel => exact ⟨i + 1, by omega, by go_num, hp⟩
      case measure => simp [intOf]; omega
    · go_wp2
      go_ret
      rw [copyTo_all (by omega)] at hbr
      exact ⟨_, rfl, hbr⟩

set_option maxRecDepth 100000 in
set_option maxHeartbeats 2000000 in
theorem eqItemS_same (l : List Itm) (va vb : Value) (w : World) (ha : Rows' itE w va l) (hb : Rows' itE w vb l) (hl : l.length ≤ 1099511627776) :
    Calls Tryz.prog 77 #[va, vb] w fun e w' => e = .returned (.bool true) ∧ Below w.heap.size w w' := by
  obtain ⟨ad, cap, rfl, hrowa⟩ := ha.items
  obtain ⟨ad2, cap2, rfl, hrowb⟩ := hb.items
  have HA := Lib.hid hrowa
  have HB := Lib.hid hrowb
  clear ha hb hrowa hrowb
  go_enter Tryz.func77, Tryz.ntmps77
  go_wp2
  go_loopw [5] (fun iv wr => ∃ i : Nat, i ≤ l.length ∧ iv = .int .i64 (i : Int) ∧ Below w.heap.size w wr) (fun iv _ => l.length - (intOf iv).toNat)
  case atStart => exact ⟨0, by omega, rfl, Below.refl _ _⟩
  case round =>
    obtain ⟨i, hi, rfl, hbel⟩ := hrel
    by_cases hlt : i < l.length
    · have hg : l[i]? = some l[i] := List.getElem?_eq_getElem hlt
      have hbd : Below w.heap.size w wr.drew := hbel.drew
      have HXA : Hid (∀ X, Below wr.drew.heap.size wr.drew X → ∃ ga oa gb ob, ad = some ⟨ga, oa, none⟩ ∧ ad2 = some ⟨gb, ob, none⟩ ∧ (X.cell? ⟨ga, oa + i * 9, none⟩ = some (.int .i64 l[i].1) ∧ X.cell? ⟨ga, oa + i * 9 + 1, none⟩ = some (.int .i64 l[i].2.kind) ∧ X.cell? ⟨ga, oa + i * 9 + 2, none⟩ = some (.int .i64 l[i].2.valid) ∧ X.cell? ⟨ga, oa + i * 9 + 3, none⟩ = some (.int .i64 l[i].2.uid) ∧ X.cell? ⟨ga, oa + i * 9 + 4, none⟩ = some (.int .i64 l[i].2.next) ∧ X.cell? ⟨ga, oa + i * 9 + 5, none⟩ = some (.int .i64 l[i].2.flags) ∧ X.cell? ⟨ga, oa + i * 9 + 6, none⟩ = some (.string l[i].2.user) ∧ X.cell? ⟨ga, oa + i * 9 + 7, none⟩ = some (.string l[i].2.name) ∧ X.cell? ⟨ga, oa + i * 9 + 8, none⟩ = some (.string l[i].2.text)) ∧ (X.cell? ⟨gb, ob + i * 9, none⟩ = some (.int .i64 l[i].1) ∧ X.cell? ⟨gb, ob + i * 9 + 1, none⟩ = some (.int .i64 l[i].2.kind) ∧ X.cell? ⟨gb, ob + i * 9 + 2, none⟩ = some (.int .i64 l[i].2.valid) ∧ X.cell? ⟨gb, ob + i * 9 + 3, none⟩ = some (.int .i64 l[i].2.uid) ∧ X.cell? ⟨gb, ob + i * 9 + 4, none⟩ = some (.int .i64 l[i].2.next) ∧ X.cell? ⟨gb, ob + i * 9 + 5, none⟩ = some (.int .i64 l[i].2.flags) ∧ X.cell? ⟨gb, ob + i * 9 + 6, none⟩ = some (.string l[i].2.user) ∧ X.cell? ⟨gb, ob + i * 9 + 7, none⟩ = some (.string l[i].2.name) ∧ X.cell? ⟨gb, ob + i * 9 + 8, none⟩ = some (.string l[i].2.text))) := fun X hX => by
        obtain ⟨ga, oa, e1, p⟩ := HA.out X (hbd.trans (hX.mono hbd.size)) i _ hg
        obtain ⟨gb, ob, e2, q⟩ := HB.out X (hbd.trans (hX.mono hbd.size)) i _ hg
        exact ⟨ga, oa, gb, ob, e1, e2, p, q⟩
      have HE := Lib.hid (fun wx => eqItem_same l[i].1 l[i].2 wx)
      generalize l[i] = x at *
      obtain ⟨sq, K, V, U, N, FL, US, NM, TX⟩ := x
      unfold itV at HE
      simp only at HXA HE
      obtain ⟨ga, oa, gb, ob, rfl, rfl, p0, q0⟩ := HXA.out _ (Below.refl _ _)
      have HS : Hid (∀ X, Below wr.drew.heap.size wr.drew X → (X.cell? ⟨ga, oa + i * 9, none⟩ = some (.int .i64 sq) ∧ X.cell? ⟨ga, oa + i * 9 + 1, none⟩ = some (.int .i64 K) ∧ X.cell? ⟨ga, oa + i * 9 + 2, none⟩ = some (.int .i64 V) ∧ X.cell? ⟨ga, oa + i * 9 + 3, none⟩ = some (.int .i64 U) ∧ X.cell? ⟨ga, oa + i * 9 + 4, none⟩ = some (.int .i64 N) ∧ X.cell? ⟨ga, oa + i * 9 + 5, none⟩ = some (.int .i64 FL) ∧ X.cell? ⟨ga, oa + i * 9 + 6, none⟩ = some (.string US) ∧ X.cell? ⟨ga, oa + i * 9 + 7, none⟩ = some (.string NM) ∧ X.cell? ⟨ga, oa + i * 9 + 8, none⟩ = some (.string TX)) ∧ (X.cell? ⟨gb, ob + i * 9, none⟩ = some (.int .i64 sq) ∧ X.cell? ⟨gb, ob + i * 9 + 1, none⟩ = some (.int .i64 K) ∧ X.cell? ⟨gb, ob + i * 9 + 2, none⟩ = some (.int .i64 V) ∧ X.cell? ⟨gb, ob + i * 9 + 3, none⟩ = some (.int .i64 U) ∧ X.cell? ⟨gb, ob + i * 9 + 4, none⟩ = some (.int .i64 N) ∧ X.cell? ⟨gb, ob + i * 9 + 5, none⟩ = some (.int .i64 FL) ∧ X.cell? ⟨gb, ob + i * 9 + 6, none⟩ = some (.string US) ∧ X.cell? ⟨gb, ob + i * 9 + 7, none⟩ = some (.string NM) ∧ X.cell? ⟨gb, ob + i * 9 + 8, none⟩ = some (.string TX))) := fun X hX => by
        obtain ⟨ga2, oa2, gb2, ob2, e1, e2, p, q⟩ := HXA.out X hX
        cases e1
        cases e2
        exact ⟨p, q⟩
      have hi0 : (0 : Int) ≤ (i : Int) := by omega
      have hi1 : (i : Int) < (l.length : Int) := by omega
      clear hg HXA p0 q0
      go_wp2
      go_region_held3 (fun X => (X.cell? ⟨ga, oa + i * 9, none⟩ = some (.int .i64 sq) ∧ X.cell? ⟨ga, oa + i * 9 + 1, none⟩ = some (.int .i64 K) ∧ X.cell? ⟨ga, oa + i * 9 + 2, none⟩ = some (.int .i64 V) ∧ X.cell? ⟨ga, oa + i * 9 + 3, none⟩ = some (.int .i64 U) ∧ X.cell? ⟨ga, oa + i * 9 + 4, none⟩ = some (.int .i64 N) ∧ X.cell? ⟨ga, oa + i * 9 + 5, none⟩ = some (.int .i64 FL) ∧ X.cell? ⟨ga, oa + i * 9 + 6, none⟩ = some (.string US) ∧ X.cell? ⟨ga, oa + i * 9 + 7, none⟩ = some (.string NM) ∧ X.cell? ⟨ga, oa + i * 9 + 8, none⟩ = some (.string TX)) ∧ (X.cell? ⟨gb, ob + i * 9, none⟩ = some (.int .i64 sq) ∧ X.cell? ⟨gb, ob + i * 9 + 1, none⟩ = some (.int .i64 K) ∧ X.cell? ⟨gb, ob + i * 9 + 2, none⟩ = some (.int .i64 V) ∧ X.cell? ⟨gb, ob + i * 9 + 3, none⟩ = some (.int .i64 U) ∧ X.cell? ⟨gb, ob + i * 9 + 4, none⟩ = some (.int .i64 N) ∧ X.cell? ⟨gb, ob + i * 9 + 5, none⟩ = some (.int .i64 FL) ∧ X.cell? ⟨gb, ob + i * 9 + 6, none⟩ = some (.string US) ∧ X.cell? ⟨gb, ob + i * 9 + 7, none⟩ = some (.string NM) ∧ X.cell? ⟨gb, ob + i * 9 + 8, none⟩ = some (.string TX)))
        (first | exact HS.out _ (Below.refl _ _) | exact HS.out _ hb1)
        (first | (go_at_call 98; refine (HE.out _).mono ?_; rintro e w1 ⟨rfl, hb1⟩))
      all_goals
        go_wp2
        go_roundw
        case rel => exact ⟨i + 1, by omega, by go_num, hbd.trans (hb1.mono hbd.size)⟩
        case measure => simp [intOf]; omega
    · go_wp2
      go_ret
      exact ⟨rfl, hbel⟩

def RItm (B : Nat) (X : World) (g n cap : Nat) : Prop := ∃ l : List Itm, l.length = n ∧ RBuf itE B X X (.slice (some ⟨g, 0, none⟩) n cap) l
theorem RItm.later {B : Nat} {X Y : World} {g n cap : Nat} (h : RItm B X g n cap) (hb : Below X.heap.size X Y) : RItm B Y g n cap := by
  obtain ⟨l, h1, h2⟩ := h
  exact ⟨l, h1, (h2.later hb).here⟩
theorem RItm.at6 {B : Nat} {X : World} {g n cap : Nat} (h : RItm B X g n cap) {i : Nat} (hi : i < n) : (∃ z : ByteArray, X.cell? ⟨g, i * 9 + 6, none⟩ = some (.string z)) ∧ X.frozen? ⟨g, i * 9 + 6, none⟩ = false ∧ ∀ z : ByteArray, RItm B (X.setCell ⟨g, i * 9 + 6, none⟩ (.string z)) g n cap := by
  obtain ⟨l, rfl, h2⟩ := h
  have hx : l[i]? = some l[i] := List.getElem?_eq_getElem hi
  generalize l[i] = x at hx
  exact ⟨⟨_, h2.cell rfl i x hx 6 _ rfl⟩, h2.loose _, fun z => ⟨l.set i (x.1, ⟨x.2.kind, x.2.valid, x.2.uid, x.2.next, x.2.flags, z, x.2.name, x.2.text⟩), by simp, (h2.stored i x (x.1, ⟨x.2.kind, x.2.valid, x.2.uid, x.2.next, x.2.flags, z, x.2.name, x.2.text⟩) hx 6 (by decide) (.string z) rfl).here⟩⟩
theorem RItm.at8 {B : Nat} {X : World} {g n cap : Nat} (h : RItm B X g n cap) {i : Nat} (hi : i < n) : (∃ z : ByteArray, X.cell? ⟨g, i * 9 + 8, none⟩ = some (.string z)) ∧ X.frozen? ⟨g, i * 9 + 8, none⟩ = false ∧ ∀ z : ByteArray, RItm B (X.setCell ⟨g, i * 9 + 8, none⟩ (.string z)) g n cap := by
  obtain ⟨l, rfl, h2⟩ := h
  have hx : l[i]? = some l[i] := List.getElem?_eq_getElem hi
  generalize l[i] = x at hx
  exact ⟨⟨_, h2.cell rfl i x hx 8 _ rfl⟩, h2.loose _, fun z => ⟨l.set i (x.1, ⟨x.2.kind, x.2.valid, x.2.uid, x.2.next, x.2.flags, x.2.user, x.2.name, z⟩), by simp, (h2.stored i x (x.1, ⟨x.2.kind, x.2.valid, x.2.uid, x.2.next, x.2.flags, x.2.user, x.2.name, z⟩) hx 8 (by decide) (.string z) rfl).here⟩⟩


end Go.Proofs.YtlifgcgoehkinaaGreatDoor

/- The helpers of the exact laws over lists of items: each is marked, and the marks are held. -/
namespace Go.Proofs.YtlifgcgoehkinaaGreatDoor
open Go.RowKit


def markI (k : Nat) (j : Nat) : Itm := (((k + 9 * j : Nat) : Int), ⟨((k + 9 * j + 1 : Nat) : Int), ((k + 9 * j + 2 : Nat) : Int), ((k + 9 * j + 3 : Nat) : Int), ((k + 9 * j + 4 : Nat) : Int), ((k + 9 * j + 5 : Nat) : Int), mark (k + 9 * j + 6), mark (k + 9 * j + 7), mark (k + 9 * j + 8)⟩)
def RMI (B : Nat) (w0 X : World) (g cap k : Nat) (l : List Itm) (i : Nat) (y : Itm) : Prop := RBuf itE B w0 X (.slice (some ⟨g, 0, none⟩) l.length cap) ((putTo (markI k) l i).set i y) ∧ i < l.length
theorem RMI.later {B : Nat} {w0 X Y : World} {g cap k i : Nat} {l : List Itm} {y : Itm} (h : RMI B w0 X g cap k l i y) (hb : Below X.heap.size X Y) : RMI B w0 Y g cap k l i y := ⟨h.1.later hb, h.2⟩
theorem RMI.done {B : Nat} {w0 X : World} {g cap k i : Nat} {l : List Itm} {y : Itm} (h : RMI B w0 X g cap k l i y) (hy : y = markI k i) : RBuf itE B w0 X (.slice (some ⟨g, 0, none⟩) l.length cap) (putTo (markI k) l (i + 1)) := by
  have h1 := h.1
  rw [hy, putTo_set h.2] at h1
  exact h1
theorem RMI.at6 {B : Nat} {w0 X : World} {g cap k i : Nat} {l : List Itm} {z0 z1 z2 z3 z4 z5 : Int} {z6 z7 z8 : ByteArray} (h : RMI B w0 X g cap k l i (z0, ⟨z1, z2, z3, z4, z5, z6, z7, z8⟩)) : X.cell? ⟨g, i * 9 + 6, none⟩ = some (.string (z6)) ∧ X.frozen? ⟨g, i * 9 + 6, none⟩ = false ∧ ∀ z : ByteArray, RMI B w0 (X.setCell ⟨g, i * 9 + 6, none⟩ (.string (z))) g cap k l i (z0, ⟨z1, z2, z3, z4, z5, z, z7, z8⟩) := by
  obtain ⟨h1, h2⟩ := h
  have hl : ((putTo (markI k) l i).set i (z0, ⟨z1, z2, z3, z4, z5, z6, z7, z8⟩)).length = l.length := by rw [List.length_set]; exact putTo_length (by omega)
  have hat : ((putTo (markI k) l i).set i (z0, ⟨z1, z2, z3, z4, z5, z6, z7, z8⟩))[i]? = some (z0, ⟨z1, z2, z3, z4, z5, z6, z7, z8⟩) := List.getElem?_set_self (by rw [putTo_length (by omega)]; exact h2)
  rw [← hl] at h1
  refine ⟨h1.cell rfl i _ hat 6 _ rfl, h1.loose _, fun z => ⟨?_, h2⟩⟩
  have st := h1.stored i _ (z0, ⟨z1, z2, z3, z4, z5, z, z7, z8⟩) hat 6 (by decide) (.string (z)) rfl
  rw [List.set_set, hl] at st
  exact st
theorem RMI.at8 {B : Nat} {w0 X : World} {g cap k i : Nat} {l : List Itm} {z0 z1 z2 z3 z4 z5 : Int} {z6 z7 z8 : ByteArray} (h : RMI B w0 X g cap k l i (z0, ⟨z1, z2, z3, z4, z5, z6, z7, z8⟩)) : X.cell? ⟨g, i * 9 + 8, none⟩ = some (.string (z8)) ∧ X.frozen? ⟨g, i * 9 + 8, none⟩ = false ∧ ∀ z : ByteArray, RMI B w0 (X.setCell ⟨g, i * 9 + 8, none⟩ (.string (z))) g cap k l i (z0, ⟨z1, z2, z3, z4, z5, z6, z7, z⟩) := by
  obtain ⟨h1, h2⟩ := h
  have hl : ((putTo (markI k) l i).set i (z0, ⟨z1, z2, z3, z4, z5, z6, z7, z8⟩)).length = l.length := by rw [List.length_set]; exact putTo_length (by omega)
  have hat : ((putTo (markI k) l i).set i (z0, ⟨z1, z2, z3, z4, z5, z6, z7, z8⟩))[i]? = some (z0, ⟨z1, z2, z3, z4, z5, z6, z7, z8⟩) := List.getElem?_set_self (by rw [putTo_length (by omega)]; exact h2)
  rw [← hl] at h1
  refine ⟨h1.cell rfl i _ hat 8 _ rfl, h1.loose _, fun z => ⟨?_, h2⟩⟩
  have st := h1.stored i _ (z0, ⟨z1, z2, z3, z4, z5, z6, z7, z⟩) hat 8 (by decide) (.string (z)) rfl
  rw [List.set_set, hl] at st
  exact st



end Go.Proofs.YtlifgcgoehkinaaGreatDoor

/- How segments lie in memory: a row of segments, each with a row of items of its own. -/
namespace Go.Proofs.YtlifgcgoehkinaaGreatDoor
open Go.RowKit

structure Sg where
  no : Int
  gen : Int
  ende : Int
  items : List Itm

structure SgH where
  no : Int
  gen : Int
  ende : Int
  a : Option Addr
  n : Nat
  c : Nat
def SgH.mv (h : SgH) : Value := .slice h.a h.n h.c

def sgE : Enc SgH where
  ty := 60
  sty := 37
  sz := 4
  bytes := 48
  zero := .agg #[.int .i64 0, .int .i64 0, .int .i64 0, .slice none 0 0]
  f := fun x => [.int .i64 x.no, .int .i64 x.gen, .int .i64 x.ende, .slice x.a x.n x.c]
  len := fun _ => rfl
  pos := by decide
  one := fun _ u hu => by simp at hu; rcases hu with rfl | rfl | rfl | rfl <;> rfl
  und := Tryz.underlying37
  info := by kernel_rfl
  zc := rfl
  z0 := ⟨0, 0, 0, none, 0, 0⟩
  zf := rfl

structure SgO (B : Nat) (w : World) (v : Value) (bs : List Sg) (hs : List SgH) : Prop where
  row : RBuf sgE B w w v hs
  len : hs.length = bs.length
  at' : ∀ (j : Nat) (h : SgH) (b : Sg), hs[j]? = some h → bs[j]? = some b → (h.no = b.no ∧ h.gen = b.gen ∧ h.ende = b.ende) ∧ RBuf itE B w w h.mv b.items
  far : ∀ (j : Nat) (h : SgH), hs[j]? = some h → ∀ k, h.mv.ownBlock = some k → v.ownBlock ≠ some k
  apart : ∀ (i j : Nat) (h h' : SgH), hs[i]? = some h → hs[j]? = some h' → i ≠ j → ∀ k, h.mv.ownBlock = some k → h'.mv.ownBlock ≠ some k

theorem RBuf.hereG {α : Type} {E : Enc α} {B : Nat} {w0 w w' : World} {v : Value} {l : List α} (h : RBuf E B w0 w v l) (hb : Below w.heap.size w w') : RBuf E B w' w' v l := (h.later hb).here
theorem SgO.later {B : Nat} {w w' : World} {v : Value} {bs : List Sg} {hs : List SgH} (h : SgO B w v bs hs) (hb : Below w.heap.size w w') : SgO B w' v bs hs :=
  ⟨h.row.hereG hb, h.len, fun j x b h1 h2 => ⟨(h.at' j x b h1 h2).1, (h.at' j x b h1 h2).2.hereG hb⟩, h.far, h.apart⟩
theorem SgO.nil (w : World) : SgO w.heap.size w (.slice none 0 0) [] [] :=
  ⟨RBuf.nil sgE w, rfl, fun j h b h1 => by simp at h1, fun j h h1 => by simp at h1, fun i j h h' h1 => by simp at h1⟩
theorem SgO.lt {B : Nat} {w : World} {v : Value} {bs : List Sg} {hs : List SgH} (h : SgO B w v bs hs) {j : Nat} {x : SgH} (hj : hs[j]? = some x) {k : Nat} (hk : x.mv.ownBlock = some k) : k < w.heap.size := by
  have hl : j < hs.length := (List.getElem?_eq_some_iff.1 hj).1
  have hb : bs[j]? = some (bs[j]'(by rw [← h.len]; exact hl)) := List.getElem?_eq_getElem _
  exact ((h.at' j x _ hj hb).2.own.lt k hk).2

theorem SgO.push {B : Nat} {w w' : World} {v v' : Value} {bs : List Sg} {hs : List SgH} (h : SgO B w v bs hs) (b : Sg) (x : SgH)
    (hx : x.no = b.no ∧ x.gen = b.gen ∧ x.ende = b.ende) (hm : RBuf itE B w w x.mv b.items)
    (hv : ∀ k, x.mv.ownBlock = some k → v.ownBlock ≠ some k) (ho : ∀ (j : Nat) (y : SgH), hs[j]? = some y → ∀ k, y.mv.ownBlock = some k → x.mv.ownBlock ≠ some k)
    (hr : RBuf sgE B w' w' v' (hs ++ [x])) (hg : w.grownBy w' v.ownBlock) (ha : v'.ownBlock = v.ownBlock ∨ v'.ownBlock = some w.heap.size) : SgO B w' v' (bs ++ [b]) (hs ++ [x]) := by
  have kept : ∀ (m : Value) (l : List Itm), RBuf itE B w w m l → (∀ k, m.ownBlock = some k → v.ownBlock ≠ some k) → RBuf itE B w' w' m l := fun m l hm hf => by
    refine hm.shift hg ?_
    cases hmb : m.ownBlock with
    | none => exact .inl rfl
    | some k => exact .inr (fun e => hf k hmb e.symm)
  have old : ∀ {j : Nat} {y : SgH}, (hs ++ [x])[j]? = some y → (hs[j]? = some y ∧ j < hs.length) ∨ (j = hs.length ∧ y = x) := fun {j y} hj => by
    by_cases c : j < hs.length
    · rw [List.getElem?_append_left c] at hj
      exact .inl ⟨hj, c⟩
    · rw [List.getElem?_append_right (by omega)] at hj
      have hj0 : j - hs.length = 0 := by
        have := (List.getElem?_eq_some_iff.1 hj).1
        simp at this; omega
      rw [hj0] at hj
      simp at hj
      exact .inr ⟨by omega, hj.symm⟩
  have hvlt : ∀ {k : Nat}, x.mv.ownBlock = some k → k < w.heap.size := fun {k} hk => (hm.own.lt k hk).2
  refine ⟨hr, by simp [h.len], fun j y c h1 h2 => ?_, fun j y h1 k hk => ?_, fun i j y z h1 h2 hij k hk => ?_⟩
  · rcases old h1 with ⟨h3, hl⟩ | ⟨rfl, rfl⟩
    · rw [List.getElem?_append_left (by rw [← h.len]; exact hl)] at h2
      exact ⟨(h.at' j y c h3 h2).1, kept _ _ (h.at' j y c h3 h2).2 (h.far j y h3)⟩
    · rw [List.getElem?_append_right (by rw [h.len]; omega), h.len] at h2
      simp at h2
      subst h2
      exact ⟨hx, kept _ _ hm hv⟩
  · rcases old h1 with ⟨h3, _⟩ | ⟨_, rfl⟩
    · rcases ha with e | e
      · rw [e]; exact h.far j y h3 k hk
      · rw [e]; intro e2; have := h.lt h3 hk; have := Option.some.inj e2; omega
    · rcases ha with e | e
      · rw [e]; exact hv k hk
      · rw [e]; intro e2; have := hvlt hk; have := Option.some.inj e2; omega
  · rcases old h1 with ⟨h3, hl3⟩ | ⟨ei, rfl⟩
    · rcases old h2 with ⟨h4, _⟩ | ⟨_, rfl⟩
      · exact h.apart i j y z h3 h4 hij k hk
      · exact ho i y h3 k hk
    · rcases old h2 with ⟨h4, _⟩ | ⟨ej, _⟩
      · intro e; exact ho j z h4 k e hk
      · omega
theorem SgO.shift {B : Nat} {w w' : World} {v : Value} {bs : List Sg} {hs : List SgH} {r : Option Nat} (h : SgO B w v bs hs) (hg : w.grownBy w' r) (h1 : ∀ k, r = some k → v.ownBlock ≠ some k ∧ ∀ (j : Nat) (x : SgH), hs[j]? = some x → x.mv.ownBlock ≠ some k) : SgO B w' v bs hs := by
  have sh : ∀ {α : Type} {E : Enc α} {m : Value} {l : List α}, RBuf E B w w m l → (∀ k, r = some k → m.ownBlock ≠ some k) → RBuf E B w' w' m l := fun {α E m l} hm hf => by
    refine hm.shift hg ?_
    cases hb : m.ownBlock with
    | none => exact .inl rfl
    | some k => exact .inr (fun e => hf k e.symm hb)
  exact ⟨sh h.row (fun k hk => (h1 k hk).1), h.len, fun j x b e1 e2 => ⟨(h.at' j x b e1 e2).1, sh (h.at' j x b e1 e2).2 (fun k hk => (h1 k hk).2 j x e1)⟩, h.far, h.apart⟩
theorem SgO.where' {B : Nat} {w : World} {v : Value} {bs : List Sg} {hs : List SgH} (h : SgO B w v bs hs) : (∀ k, v.ownBlock = some k → B ≤ k ∧ k < w.heap.size) ∧ ∀ (j : Nat) (x : SgH), hs[j]? = some x → ∀ k, x.mv.ownBlock = some k → B ≤ k ∧ k < w.heap.size := by
  refine ⟨fun k hk => h.row.own.lt k hk, fun j x hj k hk => ?_⟩
  have hl : j < hs.length := (List.getElem?_eq_some_iff.1 hj).1
  have hb : bs[j]? = some (bs[j]'(by rw [← h.len]; exact hl)) := List.getElem?_eq_getElem _
  exact (h.at' j x _ hj hb).2.own.lt k hk
theorem SgO.under {B C : Nat} {w w' : World} {v : Value} {bs : List Sg} {hs : List SgH} (h : SgO B w v bs hs) (hb : Below C w w') (h1 : ∀ k, v.ownBlock = some k → k < C) (h2 : ∀ (j : Nat) (x : SgH), hs[j]? = some x → ∀ k, x.mv.ownBlock = some k → k < C) : SgO B w' v bs hs := by
  have sh : ∀ {α : Type} {E : Enc α} {m : Value} {l : List α}, RBuf E B w w m l → (∀ k, m.ownBlock = some k → k < C) → RBuf E B w' w' m l := fun {α E m l} hm hf => by
    refine ⟨⟨hm.own.1, ?_⟩, Below.refl _ _, Nat.le_trans hm.le hb.size⟩
    rcases hm.own.2 with e | ⟨g, cap, cur, rfl, hg, hh, hrest⟩
    · exact .inl e
    · exact .inr ⟨g, cap, cur, rfl, hg, (hb.block g (hf g rfl)).trans hh, hrest⟩
  exact ⟨sh h.row h1, h.len, fun j x b e1 e2 => ⟨(h.at' j x b e1 e2).1, sh (h.at' j x b e1 e2).2 (h2 j x e1)⟩, h.far, h.apart⟩
theorem SgO.lower {B B0 : Nat} {w : World} {v : Value} {bs : List Sg} {hs : List SgH} (h : SgO B w v bs hs) (hB : B0 ≤ B) : SgO B0 w v bs hs :=
  ⟨h.row.lower hB, h.len, fun j x b h1 h2 => ⟨(h.at' j x b h1 h2).1, (h.at' j x b h1 h2).2.lower hB⟩, h.far, h.apart⟩

end Go.Proofs.YtlifgcgoehkinaaGreatDoor

/- The helpers of the exact laws over segments: two alike are alike. -/
namespace Go.Proofs.YtlifgcgoehkinaaGreatDoor
open Go.RowKit

def GRd (w : World) (v : Value) (bs : List Sg) : Prop := ∃ hs : List SgH, Rows' sgE w v hs ∧ hs.length = bs.length ∧
  ∀ (j : Nat) (h : SgH) (b : Sg), hs[j]? = some h → bs[j]? = some b → (h.no = b.no ∧ h.gen = b.gen ∧ h.ende = b.ende) ∧ Rows' itE w h.mv b.items
theorem SgO.rd {B : Nat} {w : World} {v : Value} {bs : List Sg} {hs : List SgH} (h : SgO B w v bs hs) : GRd w v bs :=
  ⟨hs, h.row.rows, h.len, fun j x b h1 h2 => ⟨(h.at' j x b h1 h2).1, (h.at' j x b h1 h2).2.rows⟩⟩
theorem GRd.later {w w' : World} {v : Value} {bs : List Sg} (h : GRd w v bs) (hb : Below w.heap.size w w') : GRd w' v bs := by
  obtain ⟨hs, h1, h2, h3⟩ := h
  exact ⟨hs, h1.later hb, h2, fun j x b e1 e2 => ⟨(h3 j x b e1 e2).1, (h3 j x b e1 e2).2.later hb⟩⟩
theorem GRd.segs {w : World} {v : Value} {bs : List Sg} (h : GRd w v bs) : ∃ (ad : Option Addr) (cap : Nat), v = .slice ad bs.length cap ∧ ∀ X, Below w.heap.size w X → ∀ (i : Nat) (b : Sg), bs[i]? = some b → ∃ (g off : Nat) (a : Option Addr) (n c : Nat), ad = some ⟨g, off, none⟩ ∧
    X.cell? ⟨g, off + i * 4, none⟩ = some (.int .i64 b.no) ∧ X.cell? ⟨g, off + i * 4 + 1, none⟩ = some (.int .i64 b.gen) ∧ X.cell? ⟨g, off + i * 4 + 2, none⟩ = some (.int .i64 b.ende) ∧ X.cell? ⟨g, off + i * 4 + 3, none⟩ = some (.slice a n c) ∧ Rows' itE w (.slice a n c) b.items := by
  obtain ⟨hs, h1, h2, h3⟩ := h
  rcases h1.ways with ⟨rfl, a, c, rfl⟩ | ⟨hne, g, off, c, rfl, hc, hg, hcl⟩
  · have : bs = [] := by rw [← List.length_eq_zero_iff, ← h2]; rfl
    subst this
    exact ⟨a, c, rfl, fun X _ i b hi => by cases hi⟩
  · refine ⟨_, c, by rw [h2], fun X hb i b hi => ?_⟩
    have hl : i < hs.length := by rw [h2]; exact (List.getElem?_eq_some_iff.1 hi).1
    have hx : hs[i]? = some hs[i] := List.getElem?_eq_getElem hl
    obtain ⟨⟨e1, e2, e3⟩, hm⟩ := h3 i _ b hx hi
    have hk : ∀ k u, (sgE.f hs[i])[k]? = some u → X.cell? ⟨g, off + i * 4 + k, none⟩ = some u := fun k u hu => (hb.cell (p := ⟨g, off + i * 4 + k, none⟩) hg).trans (hcl i _ hx k u hu)
    refine ⟨g, off, hs[i].a, hs[i].n, hs[i].c, rfl, ?_, ?_, ?_, hk 3 _ rfl, hm⟩
    · rw [← e1]; exact hk 0 _ rfl
    · rw [← e2]; exact hk 1 _ rfl
    · rw [← e3]; exact hk 2 _ rfl

set_option maxRecDepth 100000 in
set_option maxHeartbeats 1000000 in
theorem eqSeg_same (b : Sg) (a1 a2 : Option Addr) (n1 n2 c1 c2 : Nat) (w : World) (ha : Rows' itE w (.slice a1 n1 c1) b.items) (hb : Rows' itE w (.slice a2 n2 c2) b.items) (hl : b.items.length ≤ 1099511627776) :
    Calls Tryz.prog 51 #[.agg #[.int .i64 b.no, .int .i64 b.gen, .int .i64 b.ende, .slice a1 n1 c1], .agg #[.int .i64 b.no, .int .i64 b.gen, .int .i64 b.ende, .slice a2 n2 c2]] w fun e w' => e = .returned (.bool true) ∧ Below w.heap.size w w' := by
  have b1 : Below w.heap.size w ((w.alloc (.cells #[.int .i64 b.no, .int .i64 b.gen, .int .i64 b.ende, .slice a1 n1 c1] 60)).alloc (.cells #[.int .i64 b.no, .int .i64 b.gen, .int .i64 b.ende, .slice a2 n2 c2] 60)) := ((Below.refl _ _).alloc (Nat.le_refl _) _).alloc (by simp) _
  have HE := Lib.hid (fun wx (hx : Below w.heap.size w wx) => eqItemS_same b.items _ _ wx (ha.later hx) (hb.later hx) hl)
  clear ha hb
  go_enter Tryz.func51, Tryz.ntmps51
  go_wp2_with (go_at_call 77; refine (HE.out _ b1).mono ?_; rintro e w1 ⟨rfl, k1⟩)
  go_ret
  exact ⟨rfl, b1.trans (k1.mono b1.size)⟩

set_option maxRecDepth 100000 in
set_option maxHeartbeats 2000000 in
theorem eqSegS_same (bs : List Sg) (va vb : Value) (w : World) (ha : GRd w va bs) (hb : GRd w vb bs) (hl : bs.length ≤ 1099511627776) (hm : ∀ b ∈ bs, b.items.length ≤ 1099511627776) :
    Calls Tryz.prog 30 #[va, vb] w fun e w' => e = .returned (.bool true) ∧ Below w.heap.size w w' := by
  obtain ⟨ad, cap, rfl, hrowa⟩ := ha.segs
  obtain ⟨ad2, cap2, rfl, hrowb⟩ := hb.segs
  have HA := Lib.hid hrowa
  have HB := Lib.hid hrowb
  have HM := Lib.hid hm
  clear ha hb hrowa hrowb hm
  go_enter Tryz.func30, Tryz.ntmps30
  go_wp2
  go_loopw [5] (fun iv wr => ∃ i : Nat, i ≤ bs.length ∧ iv = .int .i64 (i : Int) ∧ Below w.heap.size w wr) (fun iv _ => bs.length - (intOf iv).toNat)
  case atStart => exact ⟨0, by omega, rfl, Below.refl _ _⟩
  case round =>
    obtain ⟨i, hi, rfl, hbel⟩ := hrel
    by_cases hlt : i < bs.length
    · have hg : bs[i]? = some bs[i] := List.getElem?_eq_getElem hlt
      have hbd : Below w.heap.size w wr.drew := hbel.drew
      obtain ⟨ga, oa, a1, n1, c1, rfl, p0, p1, p2, p3, ra⟩ := HA.out _ hbd i _ hg
      obtain ⟨gb, ob, a2, n2, c2, rfl, q0, q1, q2, q3, rb⟩ := HB.out _ hbd i _ hg
      have hml := HM.out bs[i] (List.getElem_mem hlt)
      have HS : Hid (∀ X, Below wr.drew.heap.size wr.drew X → X.cell? ⟨ga, oa + i * 4, none⟩ = some (.int .i64 bs[i].no) ∧ X.cell? ⟨ga, oa + i * 4 + 1, none⟩ = some (.int .i64 bs[i].gen) ∧ X.cell? ⟨ga, oa + i * 4 + 2, none⟩ = some (.int .i64 bs[i].ende) ∧ X.cell? ⟨ga, oa + i * 4 + 3, none⟩ = some (.slice a1 n1 c1) ∧
          X.cell? ⟨gb, ob + i * 4, none⟩ = some (.int .i64 bs[i].no) ∧ X.cell? ⟨gb, ob + i * 4 + 1, none⟩ = some (.int .i64 bs[i].gen) ∧ X.cell? ⟨gb, ob + i * 4 + 2, none⟩ = some (.int .i64 bs[i].ende) ∧ X.cell? ⟨gb, ob + i * 4 + 3, none⟩ = some (.slice a2 n2 c2)) := by
        intro X hX
        have cc : ∀ {g o : Nat} {u : Value}, wr.drew.cell? ⟨g, o, none⟩ = some u → X.cell? ⟨g, o, none⟩ = some u := fun {g o u} h => (hX.cell (p := ⟨g, o, none⟩) (World.block_lt_of_cell? _ _ h)).trans h
        exact ⟨cc p0, cc p1, cc p2, cc p3, cc q0, cc q1, cc q2, cc q3⟩
      have HE := Lib.hid (fun wx (hx : Below w.heap.size w wx) => eqSeg_same bs[i] a1 a2 n1 n2 c1 c2 wx (ra.later hx) (rb.later hx) hml)
      generalize bs[i] = b at *
      have hi0 : (0 : Int) ≤ (i : Int) := by omega
      have hi1 : (i : Int) < (bs.length : Int) := by omega
      clear hg ra rb hml
      go_wp2
      go_region_held3 (fun X => X.cell? ⟨ga, oa + i * 4, none⟩ = some (.int .i64 b.no) ∧ X.cell? ⟨ga, oa + i * 4 + 1, none⟩ = some (.int .i64 b.gen) ∧ X.cell? ⟨ga, oa + i * 4 + 2, none⟩ = some (.int .i64 b.ende) ∧ X.cell? ⟨ga, oa + i * 4 + 3, none⟩ = some (.slice a1 n1 c1) ∧
          X.cell? ⟨gb, ob + i * 4, none⟩ = some (.int .i64 b.no) ∧ X.cell? ⟨gb, ob + i * 4 + 1, none⟩ = some (.int .i64 b.gen) ∧ X.cell? ⟨gb, ob + i * 4 + 2, none⟩ = some (.int .i64 b.ende) ∧ X.cell? ⟨gb, ob + i * 4 + 3, none⟩ = some (.slice a2 n2 c2))
        (first | exact HS.out _ (Below.refl _ _) | exact HS.out _ hb1)
        (first | (go_at_call 51; refine (HE.out _ hbd).mono ?_; rintro e w1 ⟨rfl, hb1⟩))
      all_goals
        go_wp2
        go_roundw
        case rel => exact ⟨i + 1, by omega, by go_num, hbd.trans (hb1.mono hbd.size)⟩
        case measure => simp [intOf]; omega
    · go_wp2
      go_ret
      exact ⟨rfl, hbel⟩

end Go.Proofs.YtlifgcgoehkinaaGreatDoor

/- The helpers of the exact laws over segments: each is marked, and the marks are held. -/
namespace Go.Proofs.YtlifgcgoehkinaaGreatDoor
open Go.RowKit

def kG (k : Nat) (b : Sg) : Nat := k + 3 + 9 * b.items.length
def kF : Nat → List Sg → Nat
  | k, [] => k
  | k, b :: bs => kF (kG k b) bs
theorem set_waysG {α : Type} {l : List α} {i j : Nat} {y z : α} (h : (l.set i y)[j]? = some z) : (j = i ∧ z = y) ∨ (j ≠ i ∧ l[j]? = some z) := by
  by_cases c : j = i
  · subst c
    have hl : j < l.length := by have := (List.getElem?_eq_some_iff.1 h).1; simpa using this
    rw [List.getElem?_set_self hl] at h
    exact .inl ⟨rfl, (Option.some.inj h).symm⟩
  · rw [List.getElem?_set_ne (fun e => c e.symm)] at h
    exact .inr ⟨c, h⟩
theorem SgO.store {B : Nat} {w : World} {g n cap : Nat} {bs : List Sg} {hs : List SgH} (h : SgO B w (.slice (some ⟨g, 0, none⟩) n cap) bs hs) (hn : n = hs.length) {i : Nat} {x : SgH} (hx : hs[i]? = some x) {b : Sg} (hb : bs[i]? = some b)
    (c : Nat) (hc : c < 4) (u : Value) (x' : SgH) (hf : sgE.f x' = (sgE.f x).set c u) (hmv : x'.mv = x.mv) (b' : Sg) (hb' : x'.no = b'.no ∧ x'.gen = b'.gen ∧ x'.ende = b'.ende) (hm : b'.items = b.items) :
    SgO B (w.setCell ⟨g, i * 4 + c, none⟩ u) (.slice (some ⟨g, 0, none⟩) n cap) (bs.set i b') (hs.set i x') := by
  subst hn
  have hg := grownBy_store w g (i * 4 + c) u
  have kept : ∀ (m : Value) (l : List Itm), RBuf itE B w w m l → (∀ k, m.ownBlock = some k → (Value.slice (some ⟨g, 0, none⟩) hs.length cap).ownBlock ≠ some k) → RBuf itE B (w.setCell ⟨g, i * 4 + c, none⟩ u) (w.setCell ⟨g, i * 4 + c, none⟩ u) m l := fun m l hm hf => by
    refine hm.shift hg ?_
    cases hmb : m.ownBlock with
    | none => exact .inl rfl
    | some k => exact .inr (fun e => hf k hmb e.symm)
  have hmvs : ∀ {j : Nat} {y : SgH}, (hs.set i x')[j]? = some y → ∃ z, hs[j]? = some z ∧ y.mv = z.mv := fun {j y} hj => by
    rcases set_waysG hj with ⟨rfl, rfl⟩ | ⟨_, hj⟩
    · exact ⟨x, hx, hmv⟩
    · exact ⟨y, hj, rfl⟩
  refine ⟨(h.row.stored i x x' hx c hc u hf).here, by simp [h.len], fun j y d h1 h2 => ?_, fun j y h1 k hk => ?_, fun j k y z h1 h2 hjk q hq => ?_⟩
  · rcases set_waysG h1 with ⟨rfl, rfl⟩ | ⟨hne, h1⟩
    · rcases set_waysG h2 with ⟨_, rfl⟩ | ⟨hne, _⟩
      · refine ⟨hb', ?_⟩
        rw [hmv, hm]
        exact kept _ _ (h.at' j x b hx hb).2 (h.far j x hx)
      · exact absurd rfl hne
    · rcases set_waysG h2 with ⟨e, _⟩ | ⟨_, h2⟩
      · exact absurd e hne
      · exact ⟨(h.at' j y d h1 h2).1, kept _ _ (h.at' j y d h1 h2).2 (h.far j y h1)⟩
  · obtain ⟨z, hz, e⟩ := hmvs h1
    rw [e] at hk
    exact h.far j z hz k hk
  · obtain ⟨y0, hy0, e1⟩ := hmvs h1
    obtain ⟨z0, hz0, e2⟩ := hmvs h2
    rw [e1] at hq
    rw [e2]
    exact h.apart j k y0 z0 hy0 hz0 hjk q hq
theorem SgO.items {B : Nat} {w w' : World} {v : Value} {bs : List Sg} {hs : List SgH} (h : SgO B w v bs hs) {i : Nat} {x : SgH} (hx : hs[i]? = some x) {b : Sg} (hb : bs[i]? = some b) (ms : List Itm) (hr : RBuf itE B w' w' x.mv ms) (hg : w.grownBy w' x.mv.ownBlock) :
    SgO B w' v (bs.set i ⟨b.no, b.gen, b.ende, ms⟩) hs := by
  refine ⟨h.row.shift hg ?_, by simp [h.len], fun j y d h1 h2 => ?_, h.far, h.apart⟩
  · cases hv : x.mv.ownBlock with
    | none =>
      cases hv2 : v.ownBlock with
      | none => exact .inl rfl
      | some k => exact .inr (fun e => by cases e)
    | some k => exact .inr (fun e => h.far i x hx k hv e)
  · rcases set_waysG h2 with ⟨rfl, rfl⟩ | ⟨hne, h2⟩
    · rw [hx] at h1
      cases h1
      exact ⟨(h.at' j x b hx hb).1, hr⟩
    · refine ⟨(h.at' j y d h1 h2).1, (h.at' j y d h1 h2).2.shift hg ?_⟩
      cases hy : y.mv.ownBlock with
      | none => exact .inl rfl
      | some k => exact .inr (fun e => h.apart j i y x h1 hx hne k hy e.symm)
theorem SgO.cellAt {B : Nat} {w : World} {g n cap : Nat} {bs : List Sg} {hs : List SgH} (h : SgO B w (.slice (some ⟨g, 0, none⟩) n cap) bs hs) {i : Nat} {y : SgH} (hy : hs[i]? = some y) (hl : n = hs.length) (q : Nat) (u : Value) (hu : (sgE.f y)[q]? = some u) : w.cell? ⟨g, i * 4 + q, none⟩ = some u ∧ w.frozen? ⟨g, i * 4 + q, none⟩ = false := by
  subst hl
  exact ⟨h.row.cell rfl i y hy q u hu, h.row.loose _⟩



end Go.Proofs.YtlifgcgoehkinaaGreatDoor

/- Segments that come in: how great they are. -/
namespace Go.Proofs.YtlifgcgoehkinaaGreatDoor
open Go.RowKit

set_option maxRecDepth 100000 in
set_option maxHeartbeats 2000000 in
theorem szItemS_sum (l : List Itm) (v : Value) (left : Int) (w : World) (h : Rows' litE w v l) (h0 : 0 ≤ left) (h1 : left ≤ 1048576) (hl : l.length ≤ 9223372036854775807) (hz : ∀ x ∈ l, x.2.user.size ≤ 9223372036854775807 ∧ x.2.name.size ≤ 9223372036854775807 ∧ x.2.text.size ≤ 9223372036854775807) :
    Calls Tryz.prog 53 #[v, .int .i64 left] w fun e w' => (∃ r : Int, e = .returned (.int .i64 r) ∧ (r < 0 ∨ (r ≤ left - (l.length : Int) ∧ ∀ x ∈ l, (x.2.user.size : Int) + x.2.name.size + x.2.text.size ≤ left)) ∧ r ≤ left ∧ -1 ≤ r) ∧ Below w.heap.size w w' := by
  obtain ⟨ad, cap, rfl, hrow⟩ := h.litems
  have HR := Lib.hid hrow
  have HZ := Lib.hid hz
  clear h hrow hz
  by_cases hneg : left - (l.length : Int) < 0
  · go_enter Tryz.func53, Tryz.ntmps53
    go_wp2
    go_ret
    exact ⟨⟨-1, rfl, .inl (by omega), by omega, by omega⟩, Below.refl _ _⟩
  · go_enter Tryz.func53, Tryz.ntmps53
    go_wp2
    go_loopw [1, 5] (fun rv iv wr => ∃ (i : Nat) (r : Int), i ≤ l.length ∧ iv = .int .i64 (i : Int) ∧ rv = .int .i64 r ∧ 0 ≤ r ∧ r ≤ left - (l.length : Int) ∧ (∀ (j : Nat) (x : Itm), l[j]? = some x → j < i → (x.2.user.size : Int) + x.2.name.size + x.2.text.size ≤ left) ∧ Below w.heap.size w wr) (fun _ iv _ => l.length - (intOf iv).toNat)
    case atStart => exact ⟨0, left - (l.length : Int), by omega, rfl, by first | rfl | go_num, by omega, by omega, fun j x _ hj => by omega, Below.refl _ _⟩
    case round =>
      obtain ⟨i, r, hi, rfl, rfl, hr0, hr1, hall, hb⟩ := hrel
      have HA := Lib.hid hall
      clear hall
      by_cases hlt : i < l.length
      · have hgx : l[i]? = some l[i] := List.getElem?_eq_getElem hlt
        have hzx := HZ.out l[i] (List.getElem_mem hlt)
        obtain ⟨ga, oa, rfl, a0, a1, a2, a3, a4, a5, a6, a7, a8⟩ := HR.out _ hb i _ hgx
        generalize l[i] = x at *
        have HX := Lib.hid hgx
        have HS := Lib.hid (fun wx => szItem_any x.1 x.2 r wx hzx.1 hzx.2.1 hzx.2.2 hr0 (by omega))
        obtain ⟨sq, K, V, U, N, FL, US, NM, TX⟩ := x
        unfold itV at HS
        simp only at a0 a1 a2 a3 a4 a5 a6 a7 a8 HS
        have hi0 : (0 : Int) ≤ (i : Int) := by omega
        have hi1 : (i : Int) < (l.length : Int) := by omega
        clear hgx hzx
        go_wp2_with fail
        clear a0 a1 a2 a3 a4 a5 a6 a7 a8
        refine (HS.out _).mono ?_
        rintro e w1 ⟨⟨r1, rfl, hr, hr2, hr3⟩, k1⟩
        have b1 := hb.trans (k1.mono hb.size)
        by_cases hn : r1 < 0
        · go_wp2
          go_ret
          exact ⟨⟨-1, rfl, .inl (by omega), by omega, by omega⟩, b1⟩
        · have HU : Hid (∀ (j : Nat) (x : Itm), l[j]? = some x → j < i + 1 → (x.2.user.size : Int) + x.2.name.size + x.2.text.size ≤ left) := fun j x hj hji => by
            by_cases c : j = i
            · subst c
              have := HX.out
              rw [hj] at this
              cases this
              rcases hr with hr | hr
              · omega
              · simp only; omega
            · exact HA.out j x hj (by omega)
          go_wp2
          exact ⟨⟨i + 1, r1, by omega, by simp, rfl, by omega, by omega, HU.out, b1⟩, by first | omega | (simp [intOf]; omega)⟩
      · have hge : ¬ (i : Int) < (l.length : Int) := by omega
        have HE : Hid (∀ x ∈ l, (x.2.user.size : Int) + x.2.name.size + x.2.text.size ≤ left) := fun x hx => by
          obtain ⟨j, hj, rfl⟩ := List.getElem_of_mem hx
          exact HA.out j _ (List.getElem?_eq_getElem hj) (by omega)
        go_wp2
        go_ret
        exact ⟨⟨r, rfl, .inr ⟨hr1, fun a b hab => HE.out (a, b) hab⟩, by omega, by omega⟩, hb⟩

def lsgE : Enc SgH where
  ty := 81
  sty := 26
  sz := 4
  bytes := 48
  zero := .agg #[.int .i64 0, .int .i64 0, .int .i64 0, .slice none 0 0]
  f := fun x => [.int .i64 x.no, .int .i64 x.gen, .int .i64 x.ende, .slice x.a x.n x.c]
  len := fun _ => rfl
  pos := by decide
  one := fun _ u hu => by simp at hu; rcases hu with rfl | rfl | rfl | rfl <;> rfl
  und := Tryz.underlying26
  info := by kernel_rfl
  zc := rfl
  z0 := ⟨0, 0, 0, none, 0, 0⟩
  zf := rfl
def LGRd (w : World) (v : Value) (bs : List Sg) : Prop := ∃ hs : List SgH, Rows' lsgE w v hs ∧ hs.length = bs.length ∧
  ∀ (j : Nat) (h : SgH) (b : Sg), hs[j]? = some h → bs[j]? = some b → (h.no = b.no ∧ h.gen = b.gen ∧ h.ende = b.ende) ∧ Rows' litE w h.mv b.items
theorem LGRd.later {w w' : World} {v : Value} {bs : List Sg} (h : LGRd w v bs) (hb : Below w.heap.size w w') : LGRd w' v bs := by
  obtain ⟨hs, h1, h2, h3⟩ := h
  exact ⟨hs, h1.later hb, h2, fun j x b e1 e2 => ⟨(h3 j x b e1 e2).1, (h3 j x b e1 e2).2.later hb⟩⟩
theorem LGRd.segs {w : World} {v : Value} {bs : List Sg} (h : LGRd w v bs) : ∃ (ad : Option Addr) (cap : Nat), v = .slice ad bs.length cap ∧ ∀ X, Below w.heap.size w X → ∀ (i : Nat) (b : Sg), bs[i]? = some b → ∃ (g off : Nat) (a : Option Addr) (n c : Nat), ad = some ⟨g, off, none⟩ ∧
    X.cell? ⟨g, off + i * 4, none⟩ = some (.int .i64 b.no) ∧ X.cell? ⟨g, off + i * 4 + 1, none⟩ = some (.int .i64 b.gen) ∧ X.cell? ⟨g, off + i * 4 + 2, none⟩ = some (.int .i64 b.ende) ∧ X.cell? ⟨g, off + i * 4 + 3, none⟩ = some (.slice a n c) ∧ Rows' litE w (.slice a n c) b.items := by
  obtain ⟨hs, h1, h2, h3⟩ := h
  rcases h1.ways with ⟨rfl, a, c, rfl⟩ | ⟨hne, g, off, c, rfl, hc, hg, hcl⟩
  · have : bs = [] := by rw [← List.length_eq_zero_iff, ← h2]; rfl
    subst this
    exact ⟨a, c, rfl, fun X _ i b hi => by cases hi⟩
  · refine ⟨_, c, by rw [h2], fun X hb i b hi => ?_⟩
    have hl : i < hs.length := by rw [h2]; exact (List.getElem?_eq_some_iff.1 hi).1
    have hx : hs[i]? = some hs[i] := List.getElem?_eq_getElem hl
    obtain ⟨⟨e1, e2, e3⟩, hm⟩ := h3 i _ b hx hi
    have hk : ∀ k u, (lsgE.f hs[i])[k]? = some u → X.cell? ⟨g, off + i * 4 + k, none⟩ = some u := fun k u hu => (hb.cell (p := ⟨g, off + i * 4 + k, none⟩) hg).trans (hcl i _ hx k u hu)
    refine ⟨g, off, hs[i].a, hs[i].n, hs[i].c, rfl, ?_, ?_, ?_, hk 3 _ rfl, hm⟩
    · rw [← e1]; exact hk 0 _ rfl
    · rw [← e2]; exact hk 1 _ rfl
    · rw [← e3]; exact hk 2 _ rfl

def sgShort (b : Sg) : Prop := b.items.length ≤ 9223372036854775807 ∧ ∀ x ∈ b.items, x.2.user.size ≤ 9223372036854775807 ∧ x.2.name.size ≤ 9223372036854775807 ∧ x.2.text.size ≤ 9223372036854775807
def sgLean (left : Int) (b : Sg) : Prop := ∀ x ∈ b.items, (x.2.user.size : Int) + x.2.name.size + x.2.text.size ≤ left
theorem sgLean.mono {a b : Int} {s : Sg} (h : sgLean a s) (hab : a ≤ b) : sgLean b s := fun x hx => Int.le_trans (h x hx) hab
def gIts : List Sg → Nat
  | [] => 0
  | b :: bs => b.items.length + gIts bs
theorem gIts_append : ∀ (l m : List Sg), gIts (l ++ m) = gIts l + gIts m
  | [], m => by simp [gIts]
  | x :: l, m => by simp [gIts, gIts_append l m]; omega
theorem gIts_take {l : List Sg} {i : Nat} {b : Sg} (h : l[i]? = some b) : gIts (l.take (i + 1)) = gIts (l.take i) + b.items.length := by
  rw [List.take_add_one, h, gIts_append]; simp [gIts]
theorem gIts_mem : ∀ {l : List Sg} {b : Sg}, b ∈ l → b.items.length ≤ gIts l
  | x :: l, b, h => by
    rcases List.mem_cons.1 h with rfl | h
    · simp [gIts]
    · have := gIts_mem h; simp [gIts]; omega

set_option maxRecDepth 100000 in
set_option maxHeartbeats 2000000 in
theorem szSeg_any (b : Sg) (a : Option Addr) (n c : Nat) (left : Int) (w : World) (h : Rows' litE w (.slice a n c) b.items) (hz : sgShort b) (h0 : 0 ≤ left) (h1 : left ≤ 1048576) :
    Calls Tryz.prog 33 #[.agg #[.int .i64 b.no, .int .i64 b.gen, .int .i64 b.ende, .slice a n c], .int .i64 left] w fun e w' => (∃ r : Int, e = .returned (.int .i64 r) ∧ (r < 0 ∨ (r ≤ left - (b.items.length : Int) ∧ sgLean left b)) ∧ r ≤ left ∧ -1 ≤ r) ∧ Below w.heap.size w w' := by
  obtain ⟨z1, z2⟩ := hz
  have b0 := belNew w (.cells #[.int .i64 b.no, .int .i64 b.gen, .int .i64 b.ende, .slice a n c] 81)
  have HS := Lib.hid (szItemS_sum b.items _ left _ (h.later b0) h0 h1 z1 z2)
  clear h z2
  go_enter Tryz.func33, Tryz.ntmps33
  go_wp2_with fail
  refine HS.out.mono ?_
  rintro e w1 ⟨⟨r1, rfl, hr, hr2, hr3⟩, k1⟩
  have HW := Lib.hid hr
  have b1 := b0.trans (k1.mono b0.size)
  clear hr HS
  by_cases hn : r1 < 0
  · go_wp2
    go_ret
    exact ⟨⟨-1, rfl, .inl (by omega), by omega, by omega⟩, b1⟩
  · go_wp2
    go_ret
    exact ⟨⟨r1, rfl, HW.out, hr2, hr3⟩, b1⟩

set_option maxRecDepth 100000 in
set_option maxHeartbeats 2000000 in
theorem szSegS_any (l : List Sg) (v : Value) (left : Int) (w : World) (h : LGRd w v l) (h0 : 0 ≤ left) (h1 : left ≤ 1048576) (hl : l.length ≤ 9223372036854775807) (hz : ∀ b ∈ l, sgShort b) :
    Calls Tryz.prog 18 #[v, .int .i64 left] w fun e w' => (∃ r : Int, e = .returned (.int .i64 r) ∧ (r < 0 ∨ (((l.length + gIts l : Nat) : Int) ≤ left ∧ ∀ b ∈ l, sgLean left b)) ∧ r ≤ left ∧ -1 ≤ r) ∧ Below w.heap.size w w' := by
  obtain ⟨ad, cap, rfl, hrow⟩ := h.segs
  have HR := Lib.hid hrow
  have HZ := Lib.hid hz
  clear h hrow hz
  by_cases hneg : left - (l.length : Int) < 0
  · go_enter Tryz.func18, Tryz.ntmps18
    go_wp2
    go_ret
    exact ⟨⟨-1, rfl, .inl (by omega), by omega, by omega⟩, Below.refl _ _⟩
  · go_enter Tryz.func18, Tryz.ntmps18
    go_wp2
    go_loopw [1, 5] (fun rv iv wr => ∃ (i : Nat) (r : Int), i ≤ l.length ∧ iv = .int .i64 (i : Int) ∧ rv = .int .i64 r ∧ 0 ≤ r ∧ r ≤ left ∧ Hid (r ≤ left - ((l.length + gIts (l.take i) : Nat) : Int) ∧ ∀ (j : Nat) (b : Sg), l[j]? = some b → j < i → sgLean left b) ∧ Below w.heap.size w wr) (fun _ iv _ => l.length - (intOf iv).toNat)
    case atStart => exact ⟨0, left - (l.length : Int), by omega, rfl, by first | rfl | go_num, by omega, by omega, ⟨by simp [gIts], fun j b _ hj => by omega⟩, Below.refl _ _⟩
    case round =>
      obtain ⟨i, r, hi, rfl, rfl, hr0, hr1, HRE, hb⟩ := hrel
      by_cases hlt : i < l.length
      · have hgx : l[i]? = some l[i] := List.getElem?_eq_getElem hlt
        have hzx := HZ.out l[i] (List.getElem_mem hlt)
        obtain ⟨ga, oa, am, nm, cm, rfl, a0, a1, a2, a3, rm⟩ := HR.out _ hb i _ hgx
        generalize l[i] = x at *
        have HX := Lib.hid hgx
        have HS := Lib.hid (szSeg_any x am nm cm r wr (rm.later hb) hzx hr0 (by omega))
        have hi0 : (0 : Int) ≤ (i : Int) := by omega
        have hi1 : (i : Int) < (l.length : Int) := by omega
        clear hgx hzx rm
        go_wp2_with fail
        clear a0 a1 a2 a3
        refine HS.out.mono ?_
        rintro e w1 ⟨⟨r1, rfl, hr, hr2, hr3⟩, k1⟩
        have HW := Lib.hid hr
        have b1 := hb.trans (k1.mono hb.size)
        clear hr
        by_cases hn : r1 < 0
        · go_wp2
          go_ret
          exact ⟨⟨-1, rfl, .inl (by omega), by omega, by omega⟩, b1⟩
        · have HU : Hid (r1 ≤ left - ((l.length + gIts (l.take (i + 1)) : Nat) : Int) ∧ ∀ (j : Nat) (b : Sg), l[j]? = some b → j < i + 1 → sgLean left b) := by
            obtain ⟨h2, h4⟩ := HRE.out
            rcases HW.out with h3 | h3
            · exact absurd h3 hn
            · refine ⟨?_, fun j b hj hji => ?_⟩
              · rw [gIts_take HX.out]
                have := h3.1
                omega
              · by_cases c : j = i
                · subst c
                  have h5 := HX.out
                  rw [hj] at h5
                  cases h5
                  exact h3.2.mono hr1
                · exact h4 j b hj (by omega)
          go_wp2
          exact ⟨⟨i + 1, r1, by omega, by simp, rfl, by omega, by omega, HU.out, b1⟩, by first | omega | (simp [intOf]; omega)⟩
      · have hge : ¬ (i : Int) < (l.length : Int) := by omega
        have HE : Hid (((l.length + gIts l : Nat) : Int) ≤ left ∧ ∀ b ∈ l, sgLean left b) := by
          obtain ⟨h2, h4⟩ := HRE.out
          rw [List.take_of_length_le (by omega)] at h2
          refine ⟨by omega, fun b hb => ?_⟩
          obtain ⟨j, hj, rfl⟩ := List.getElem_of_mem hb
          exact h4 j _ (List.getElem?_eq_getElem hj) (by omega)
        go_wp2
        go_ret
        exact ⟨⟨r, rfl, .inr HE.out, hr1, by omega⟩, hb⟩

end Go.Proofs.YtlifgcgoehkinaaGreatDoor
