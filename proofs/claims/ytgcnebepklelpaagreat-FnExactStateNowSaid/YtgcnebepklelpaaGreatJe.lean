/- Texts of our own, joined. -/
import Derived.Test.YtgcnebepklelpaaGreatJc
import Derived.Test.YtgcnebepklelpaaGreatJd
import Derived.Test.YtgcnebepklelpaaGreatJa
/- Records and items: the helpers of the exact laws. -/
namespace Go.Proofs.YtgcnebepklelpaaGreat
open Go.RowKit

set_option maxRecDepth 100000 in
set_option maxHeartbeats 1000000 in
theorem szRec_any (r : Rc) (left : Int) (w : World) (s1 : r.user.size ≤ 9223372036854775807) (s2 : r.name.size ≤ 9223372036854775807) (s3 : r.text.size ≤ 9223372036854775807) (h0 : 0 ≤ left) (h1 : left ≤ 1099511627776) :
    Calls Tryz.prog 114 #[r.v, .int .i64 left] w fun e w' => (∃ x : Int, e = .returned (.int .i64 x) ∧ (x < 0 ∨ (r.user.size : Int) + r.name.size + r.text.size ≤ left) ∧ -1 ≤ x ∧ x ≤ left) ∧ Below w.heap.size w w' := by
  have b0 : Below w.heap.size w (w.alloc (.cells #[.int .i64 r.kind, .int .i64 r.valid, .int .i64 r.uid, .int .i64 r.next, .int .i64 r.flags, .string r.user, .string r.name, .string r.text] 166)) := belNew _ _
  unfold Rc.v
  by_cases hA : (r.user.size : Int) ≤ left
  · by_cases hB : (r.name.size : Int) ≤ left - r.user.size
    · by_cases hC : (r.text.size : Int) ≤ left - r.user.size - r.name.size
      · go_enter Tryz.func114, Tryz.ntmps114
        go_wp2
        go_ret
        exact ⟨⟨left - r.user.size - r.name.size - r.text.size, rfl, .inr (by omega), by omega, by omega⟩, b0⟩
      · go_enter Tryz.func114, Tryz.ntmps114
        go_wp2
        go_ret
        exact ⟨⟨-1, rfl, .inl (by omega), by omega, by omega⟩, b0⟩
    · go_enter Tryz.func114, Tryz.ntmps114
      go_wp2
      go_ret
      exact ⟨⟨-1, rfl, .inl (by omega), by omega, by omega⟩, b0⟩
  · go_enter Tryz.func114, Tryz.ntmps114
    go_wp2
    go_ret
    exact ⟨⟨-1, rfl, .inl (by omega), by omega, by omega⟩, b0⟩

set_option maxRecDepth 100000 in
set_option maxHeartbeats 1000000 in
theorem toRec_any (r : Rc) (w : World) : Calls Tryz.prog 115 #[r.v] w fun e w' => e = .returned r.v ∧ Below w.heap.size w w' := by
  unfold Rc.v
  go_enter Tryz.func115, Tryz.ntmps115
  go_wp2
  refine bodyPost_ret (v := .agg #[.int .i64 r.kind, .int .i64 r.valid, .int .i64 r.uid, .int .i64 r.next, .int .i64 r.flags, .string r.user, .string r.name, .string r.text]) (by simp [results, Tryz.results115, go_sem]) rfl ?_
  exact ⟨rfl, (((Below.refl _ _).alloc (Nat.le_refl _) _).alloc (by simp) _).alloc (by simp; omega) _⟩

set_option maxRecDepth 100000 in
set_option maxHeartbeats 1000000 in
theorem eqRec_same (r : Rc) (w : World) : Calls Tryz.prog 125 #[r.v, r.v] w fun e w' => e = .returned (.bool true) ∧ Below w.heap.size w w' := by
  unfold Rc.v
  go_enter Tryz.func125, Tryz.ntmps125
  go_wp2
  go_ret
  exact ⟨rfl, ((Below.refl _ _).alloc (Nat.le_refl _) _).alloc (by simp) _⟩

set_option maxRecDepth 100000 in
set_option maxHeartbeats 1000000 in
theorem szItem_any (seq : Int) (r : Rc) (left : Int) (w : World) (s1 : r.user.size ≤ 9223372036854775807) (s2 : r.name.size ≤ 9223372036854775807) (s3 : r.text.size ≤ 9223372036854775807) (h0 : 0 ≤ left) (h1 : left ≤ 1099511627776) :
    Calls Tryz.prog 104 #[itV seq r, .int .i64 left] w fun e w' => (∃ x : Int, e = .returned (.int .i64 x) ∧ (x < 0 ∨ (r.user.size : Int) + r.name.size + r.text.size ≤ left) ∧ -1 ≤ x ∧ x ≤ left) ∧ Below w.heap.size w w' := by
  have b0 : Below w.heap.size w (w.alloc (.cells #[.int .i64 seq, .int .i64 r.kind, .int .i64 r.valid, .int .i64 r.uid, .int .i64 r.next, .int .i64 r.flags, .string r.user, .string r.name, .string r.text] 168)) := belNew _ _
  have HS := Lib.hid (fun wx => szRec_any r left wx s1 s2 s3 h0 h1)
  unfold Rc.v at HS
  unfold itV
  go_enter Tryz.func104, Tryz.ntmps104
  go_wp2_with fail
  generalize w.alloc (.cells #[.int .i64 seq, .int .i64 r.kind, .int .i64 r.valid, .int .i64 r.uid, .int .i64 r.next, .int .i64 r.flags, .string r.user, .string r.name, .string r.text] 168) = W at b0 ⊢
  refine (HS.out _).mono ?_
  rintro e w1 ⟨⟨x, rfl, hx, hx1, hx2⟩, k1⟩
  have BB := Lib.hid (b0.trans (k1.mono b0.size))
  clear k1 b0 HS
  by_cases hn : x < 0
  · have HX := Lib.hid hx
    clear hx
    go_wp2
    go_ret
    exact ⟨⟨-1, rfl, .inl (by omega), by omega, by omega⟩, BB.out⟩
  · have HX := Lib.hid hx
    clear hx
    go_wp2
    go_ret
    exact ⟨⟨x, rfl, HX.out, hx1, hx2⟩, BB.out⟩

set_option maxRecDepth 100000 in
set_option maxHeartbeats 2000000 in
theorem toItem_any (seq : Int) (r : Rc) (w : World) : Calls Tryz.prog 105 #[itV seq r] w fun e w' => e = .returned (itV seq r) ∧ Below w.heap.size w w' := by
  have HT := Lib.hid (fun wx => toRec_any r wx)
  have hA := Box.new w #[.int .i64 seq, .int .i64 r.kind, .int .i64 r.valid, .int .i64 r.uid, .int .i64 r.next, .int .i64 r.flags, .string r.user, .string r.name, .string r.text] 168
  have bA := belNew w (.cells #[.int .i64 seq, .int .i64 r.kind, .int .i64 r.valid, .int .i64 r.uid, .int .i64 r.next, .int .i64 r.flags, .string r.user, .string r.name, .string r.text] 168)
  have hB := Box.new (w.alloc (.cells #[.int .i64 seq, .int .i64 r.kind, .int .i64 r.valid, .int .i64 r.uid, .int .i64 r.next, .int .i64 r.flags, .string r.user, .string r.name, .string r.text] 168)) #[.int .i64 0, .int .i64 0, .int .i64 0, .int .i64 0, .int .i64 0, .int .i64 0, .string ⟨#[]⟩, .string ⟨#[]⟩, .string ⟨#[]⟩] 69
  have bB := bA.trans ((belNew (w.alloc (.cells #[.int .i64 seq, .int .i64 r.kind, .int .i64 r.valid, .int .i64 r.uid, .int .i64 r.next, .int .i64 r.flags, .string r.user, .string r.name, .string r.text] 168)) (.cells #[.int .i64 0, .int .i64 0, .int .i64 0, .int .i64 0, .int .i64 0, .int .i64 0, .string ⟨#[]⟩, .string ⟨#[]⟩, .string ⟨#[]⟩] 69)).mono bA.size)
  have hC := Box.new ((w.alloc (.cells #[.int .i64 seq, .int .i64 r.kind, .int .i64 r.valid, .int .i64 r.uid, .int .i64 r.next, .int .i64 r.flags, .string r.user, .string r.name, .string r.text] 168)).alloc (.cells #[.int .i64 0, .int .i64 0, .int .i64 0, .int .i64 0, .int .i64 0, .int .i64 0, .string ⟨#[]⟩, .string ⟨#[]⟩, .string ⟨#[]⟩] 69)) #[.int .i64 seq, .int .i64 0, .int .i64 0, .int .i64 0, .int .i64 0, .int .i64 0, .string ⟨#[]⟩, .string ⟨#[]⟩, .string ⟨#[]⟩] 69
  have bC := bB.trans ((belNew ((w.alloc (.cells #[.int .i64 seq, .int .i64 r.kind, .int .i64 r.valid, .int .i64 r.uid, .int .i64 r.next, .int .i64 r.flags, .string r.user, .string r.name, .string r.text] 168)).alloc (.cells #[.int .i64 0, .int .i64 0, .int .i64 0, .int .i64 0, .int .i64 0, .int .i64 0, .string ⟨#[]⟩, .string ⟨#[]⟩, .string ⟨#[]⟩] 69)) (.cells #[.int .i64 seq, .int .i64 0, .int .i64 0, .int .i64 0, .int .i64 0, .int .i64 0, .string ⟨#[]⟩, .string ⟨#[]⟩, .string ⟨#[]⟩] 69)).mono bB.size)
  have hB' := hB.later (belNew _ (.cells #[.int .i64 seq, .int .i64 0, .int .i64 0, .int .i64 0, .int .i64 0, .int .i64 0, .string ⟨#[]⟩, .string ⟨#[]⟩, .string ⟨#[]⟩] 69))
  have e1 : (w.alloc (.cells #[.int .i64 seq, .int .i64 r.kind, .int .i64 r.valid, .int .i64 r.uid, .int .i64 r.next, .int .i64 r.flags, .string r.user, .string r.name, .string r.text] 168)).heap.size = w.heap.size + 1 := by simp
  have e2 : ((w.alloc (.cells #[.int .i64 seq, .int .i64 r.kind, .int .i64 r.valid, .int .i64 r.uid, .int .i64 r.next, .int .i64 r.flags, .string r.user, .string r.name, .string r.text] 168)).alloc (.cells #[.int .i64 0, .int .i64 0, .int .i64 0, .int .i64 0, .int .i64 0, .int .i64 0, .string ⟨#[]⟩, .string ⟨#[]⟩, .string ⟨#[]⟩] 69)).heap.size = w.heap.size + 1 + 1 := by simp
  rw [e1] at hB'
  rw [e2] at hC
  clear hA bA hB bB e1 e2
  unfold Rc.v at HT
  unfold itV
  go_enter Tryz.func105, Tryz.ntmps105
  go_wp2_with fail
  generalize ((w.alloc (.cells #[.int .i64 seq, .int .i64 r.kind, .int .i64 r.valid, .int .i64 r.uid, .int .i64 r.next, .int .i64 r.flags, .string r.user, .string r.name, .string r.text] 168)).alloc (.cells #[.int .i64 0, .int .i64 0, .int .i64 0, .int .i64 0, .int .i64 0, .int .i64 0, .string ⟨#[]⟩, .string ⟨#[]⟩, .string ⟨#[]⟩] 69)).alloc (.cells #[.int .i64 seq, .int .i64 0, .int .i64 0, .int .i64 0, .int .i64 0, .int .i64 0, .string ⟨#[]⟩, .string ⟨#[]⟩, .string ⟨#[]⟩] 69) = W at hB' hC bC ⊢
  refine (HT.out _).mono ?_
  rintro e w1 ⟨rfl, k1⟩
  obtain ⟨u0, u1, u2, u3, u4, u5, u6, u7, u8, v0, v1, v2, v3, v4, v5, v6, v7, v8⟩ := (hB'.later k1).nine
  obtain ⟨x0, x1, x2, x3, x4, x5, x6, x7, x8, y0, y1, y2, y3, y4, y5, y6, y7, y8⟩ := (hC.later k1).nine
  have BB := Lib.hid (bC.trans (k1.mono bC.size))
  clear hB' hC bC k1 HT
  go_wp2
  refine bodyPost_ret (v := .agg #[.int .i64 seq, .int .i64 r.kind, .int .i64 r.valid, .int .i64 r.uid, .int .i64 r.next, .int .i64 r.flags, .string r.user, .string r.name, .string r.text]) (by simp [results, Tryz.results105, go_sem, u0, u1, u2, u3, u4, u5, u6, u7, u8]) rfl ?_
  refine ⟨rfl, ?_⟩
  have l1 : w.heap.size ≤ w.heap.size + 1 := by omega
  have l2 : w.heap.size ≤ w.heap.size + 1 + 1 := by omega
  repeat' first | (with_reducible exact BB.out) | (with_reducible refine Below.setCell ?_ (by first | exact l1 | exact l2) _)

set_option maxRecDepth 100000 in
set_option maxHeartbeats 1000000 in
theorem eqItem_same (seq : Int) (r : Rc) (w : World) : Calls Tryz.prog 113 #[itV seq r, itV seq r] w fun e w' => e = .returned (.bool true) ∧ Below w.heap.size w w' := by
  have HT := Lib.hid (fun wx => eqRec_same r wx)
  have bA := belNew w (.cells #[.int .i64 seq, .int .i64 r.kind, .int .i64 r.valid, .int .i64 r.uid, .int .i64 r.next, .int .i64 r.flags, .string r.user, .string r.name, .string r.text] 69)
  have bB := bA.trans ((belNew (w.alloc (.cells #[.int .i64 seq, .int .i64 r.kind, .int .i64 r.valid, .int .i64 r.uid, .int .i64 r.next, .int .i64 r.flags, .string r.user, .string r.name, .string r.text] 69)) (.cells #[.int .i64 seq, .int .i64 r.kind, .int .i64 r.valid, .int .i64 r.uid, .int .i64 r.next, .int .i64 r.flags, .string r.user, .string r.name, .string r.text] 69)).mono bA.size)
  clear bA
  unfold Rc.v at HT
  unfold itV
  go_enter Tryz.func113, Tryz.ntmps113
  go_wp2_with fail
  generalize (w.alloc (.cells #[.int .i64 seq, .int .i64 r.kind, .int .i64 r.valid, .int .i64 r.uid, .int .i64 r.next, .int .i64 r.flags, .string r.user, .string r.name, .string r.text] 69)).alloc (.cells #[.int .i64 seq, .int .i64 r.kind, .int .i64 r.valid, .int .i64 r.uid, .int .i64 r.next, .int .i64 r.flags, .string r.user, .string r.name, .string r.text] 69) = W at bB ⊢
  refine (HT.out _).mono ?_
  rintro e w1 ⟨rfl, k1⟩
  have BB := Lib.hid (bB.trans (k1.mono bB.size))
  clear bB k1 HT
  go_wp2
  go_ret
  exact ⟨rfl, BB.out⟩

end Go.Proofs.YtgcnebepklelpaaGreat

/- Lists of items that come in: how great they are, copies of them, and that two alike are alike; items marked. -/
namespace Go.Proofs.YtgcnebepklelpaaGreat
open Go.RowKit

def litE : Enc Itm where
  ty := 168
  sty := 104
  sz := 9
  bytes := 96
  zero := .agg #[.int .i64 0, .int .i64 0, .int .i64 0, .int .i64 0, .int .i64 0, .int .i64 0, .string ⟨#[]⟩, .string ⟨#[]⟩, .string ⟨#[]⟩]
  f := fun x => [.int .i64 x.1, .int .i64 x.2.kind, .int .i64 x.2.valid, .int .i64 x.2.uid, .int .i64 x.2.next, .int .i64 x.2.flags, .string x.2.user, .string x.2.name, .string x.2.text]
  len := fun _ => rfl
  pos := by decide
  one := fun _ u hu => by simp at hu; rcases hu with rfl | rfl | rfl | rfl | rfl | rfl | rfl | rfl | rfl <;> rfl
  und := Tryz.underlying104
  info := by kernel_rfl
  zc := rfl
  z0 := (0, Rc.nil)
  zf := rfl

theorem Rows'.litems {w : World} {v : Value} {l : List Itm} (h : Rows' litE w v l) : ∃ (ad : Option Addr) (cap : Nat), v = .slice ad l.length cap ∧ ItRow w ad l := by
  rcases h.ways with ⟨rfl, a, c, rfl⟩ | ⟨hne, g, off, c, rfl, hc, hg, hcl⟩
  · exact ⟨a, c, rfl, fun X _ i x hi => by cases hi⟩
  · exact ⟨_, c, rfl, fun X hb i x hi => ⟨g, off, rfl, it_cells (fun j x hj k u hu => hcl j x hj k u hu) hg hb i x hi⟩⟩

theorem RBuf.put9 {B : Nat} {w0 w : World} {g cap : Nat} {l : List Itm} (h : RBuf itE B w0 w (.slice (some ⟨g, 0, none⟩) l.length cap) l) (i : Nat) (x : Itm) (hi : l[i]? = some x) (y : Itm) :
    RBuf itE B w0 (((((((((w.setCell ⟨g, i * 9, none⟩ (.int .i64 y.1)).setCell ⟨g, i * 9 + 1, none⟩ (.int .i64 y.2.kind)).setCell ⟨g, i * 9 + 2, none⟩ (.int .i64 y.2.valid)).setCell ⟨g, i * 9 + 3, none⟩ (.int .i64 y.2.uid)).setCell ⟨g, i * 9 + 4, none⟩ (.int .i64 y.2.next)).setCell ⟨g, i * 9 + 5, none⟩ (.int .i64 y.2.flags)).setCell ⟨g, i * 9 + 6, none⟩ (.string y.2.user)).setCell ⟨g, i * 9 + 7, none⟩ (.string y.2.name)).setCell ⟨g, i * 9 + 8, none⟩ (.string y.2.text)) (.slice (some ⟨g, 0, none⟩) l.length cap) (l.set i y) := by
  have hlt : i < l.length := (List.getElem?_eq_some_iff.1 hi).1
  have hl1 : ∀ z : Itm, (l.set i z).length = l.length := fun z => by simp
  have ha1 : ∀ z : Itm, (l.set i z)[i]? = some z := fun z => List.getElem?_set_self hlt
  have s0 : RBuf itE B w0 (w.setCell ⟨g, i * 9, none⟩ (.int .i64 y.1)) (.slice (some ⟨g, 0, none⟩) l.length cap) (l.set i (y.1, ⟨x.2.kind, x.2.valid, x.2.uid, x.2.next, x.2.flags, x.2.user, x.2.name, x.2.text⟩)) := h.stored i _ (y.1, ⟨x.2.kind, x.2.valid, x.2.uid, x.2.next, x.2.flags, x.2.user, x.2.name, x.2.text⟩) hi 0 (by decide) (.int .i64 y.1) rfl
  rw [← hl1 (y.1, ⟨x.2.kind, x.2.valid, x.2.uid, x.2.next, x.2.flags, x.2.user, x.2.name, x.2.text⟩)] at s0
  have s1 := s0.stored i _ (y.1, ⟨y.2.kind, x.2.valid, x.2.uid, x.2.next, x.2.flags, x.2.user, x.2.name, x.2.text⟩) (ha1 _) 1 (by decide) (.int .i64 y.2.kind) rfl
  rw [List.set_set, hl1] at s1
  rw [← hl1 (y.1, ⟨y.2.kind, x.2.valid, x.2.uid, x.2.next, x.2.flags, x.2.user, x.2.name, x.2.text⟩)] at s1
  have s2 := s1.stored i _ (y.1, ⟨y.2.kind, y.2.valid, x.2.uid, x.2.next, x.2.flags, x.2.user, x.2.name, x.2.text⟩) (ha1 _) 2 (by decide) (.int .i64 y.2.valid) rfl
  rw [List.set_set, hl1] at s2
  rw [← hl1 (y.1, ⟨y.2.kind, y.2.valid, x.2.uid, x.2.next, x.2.flags, x.2.user, x.2.name, x.2.text⟩)] at s2
  have s3 := s2.stored i _ (y.1, ⟨y.2.kind, y.2.valid, y.2.uid, x.2.next, x.2.flags, x.2.user, x.2.name, x.2.text⟩) (ha1 _) 3 (by decide) (.int .i64 y.2.uid) rfl
  rw [List.set_set, hl1] at s3
  rw [← hl1 (y.1, ⟨y.2.kind, y.2.valid, y.2.uid, x.2.next, x.2.flags, x.2.user, x.2.name, x.2.text⟩)] at s3
  have s4 := s3.stored i _ (y.1, ⟨y.2.kind, y.2.valid, y.2.uid, y.2.next, x.2.flags, x.2.user, x.2.name, x.2.text⟩) (ha1 _) 4 (by decide) (.int .i64 y.2.next) rfl
  rw [List.set_set, hl1] at s4
  rw [← hl1 (y.1, ⟨y.2.kind, y.2.valid, y.2.uid, y.2.next, x.2.flags, x.2.user, x.2.name, x.2.text⟩)] at s4
  have s5 := s4.stored i _ (y.1, ⟨y.2.kind, y.2.valid, y.2.uid, y.2.next, y.2.flags, x.2.user, x.2.name, x.2.text⟩) (ha1 _) 5 (by decide) (.int .i64 y.2.flags) rfl
  rw [List.set_set, hl1] at s5
  rw [← hl1 (y.1, ⟨y.2.kind, y.2.valid, y.2.uid, y.2.next, y.2.flags, x.2.user, x.2.name, x.2.text⟩)] at s5
  have s6 := s5.stored i _ (y.1, ⟨y.2.kind, y.2.valid, y.2.uid, y.2.next, y.2.flags, y.2.user, x.2.name, x.2.text⟩) (ha1 _) 6 (by decide) (.string y.2.user) rfl
  rw [List.set_set, hl1] at s6
  rw [← hl1 (y.1, ⟨y.2.kind, y.2.valid, y.2.uid, y.2.next, y.2.flags, y.2.user, x.2.name, x.2.text⟩)] at s6
  have s7 := s6.stored i _ (y.1, ⟨y.2.kind, y.2.valid, y.2.uid, y.2.next, y.2.flags, y.2.user, y.2.name, x.2.text⟩) (ha1 _) 7 (by decide) (.string y.2.name) rfl
  rw [List.set_set, hl1] at s7
  rw [← hl1 (y.1, ⟨y.2.kind, y.2.valid, y.2.uid, y.2.next, y.2.flags, y.2.user, y.2.name, x.2.text⟩)] at s7
  have s8 := s7.stored i _ (y.1, ⟨y.2.kind, y.2.valid, y.2.uid, y.2.next, y.2.flags, y.2.user, y.2.name, y.2.text⟩) (ha1 _) 8 (by decide) (.string y.2.text) rfl
  rw [List.set_set, hl1] at s8
  exact s8

set_option maxRecDepth 100000 in
set_option maxHeartbeats 2000000 in
theorem toItemS_any (l : List Itm) (v : Value) (w : World) (h : Rows' litE w v l) (hl : l.length ≤ 1048576) :
    Calls Tryz.prog 82 #[v] w fun e w' => ∃ v', e = .returned v' ∧ RBuf itE w.heap.size w w' v' l := by
  obtain ⟨a, cap, rfl, hrow⟩ := h.litems
  have HR := Lib.hid hrow
  clear h hrow
  go_enter Tryz.func82, Tryz.ntmps82
  go_wp2_with (at_make; refine wpList_make_rows rfl _ _ itE rfl .i64 .i64 _ _ l.length rfl rfl rfl rfl (by show 97 * l.length ≤ _; omega) ?_; intro w1 hr1 hs1)
  go_loopw [4] (fun iv wr => ∃ i : Nat, i ≤ l.length ∧ iv = .int .i64 (i : Int) ∧ RBuf itE w.heap.size w wr (.slice (some ⟨w.heap.size, 0, none⟩) l.length l.length) (copyTo itE.z0 l i)) (fun iv _ => l.length - (intOf iv).toNat)
  case atStart => exact ⟨0, by omega, rfl, by rw [copyTo_zero]; exact hr1⟩
  case round =>
    obtain ⟨i, hi, rfl, hbr⟩ := hrel
    by_cases hlt : i < l.length
    · have hgx : l[i]? = some l[i] := List.getElem?_eq_getElem hlt
      obtain ⟨ga, oa, rfl, a0, a1, a2, a3, a4, a5, a6, a7, a8⟩ := HR.out _ hbr.bel i _ hgx
      have hi0 : (0 : Int) ≤ (i : Int) := by omega
      have hi1 : (i : Int) < (l.length : Int) := by omega
      have hml := copyTo_length (z := itE.z0) hi
      have hms := copyTo_set (z := itE.z0) hlt
      have hat := copyTo_at (z := itE.z0) hlt
      rw [← hml] at hbr
      have HF : Hid (∀ w1, Below wr.heap.size wr w1 → (w1.cell? ⟨w.heap.size, i * 9, none⟩ = some (.int .i64 0) ∧ w1.frozen? ⟨w.heap.size, i * 9, none⟩ = false ∧ w1.cell? ⟨w.heap.size, i * 9 + 1, none⟩ = some (.int .i64 0) ∧ w1.frozen? ⟨w.heap.size, i * 9 + 1, none⟩ = false ∧ w1.cell? ⟨w.heap.size, i * 9 + 2, none⟩ = some (.int .i64 0) ∧ w1.frozen? ⟨w.heap.size, i * 9 + 2, none⟩ = false ∧ w1.cell? ⟨w.heap.size, i * 9 + 3, none⟩ = some (.int .i64 0) ∧ w1.frozen? ⟨w.heap.size, i * 9 + 3, none⟩ = false ∧ w1.cell? ⟨w.heap.size, i * 9 + 4, none⟩ = some (.int .i64 0) ∧ w1.frozen? ⟨w.heap.size, i * 9 + 4, none⟩ = false ∧ w1.cell? ⟨w.heap.size, i * 9 + 5, none⟩ = some (.int .i64 0) ∧ w1.frozen? ⟨w.heap.size, i * 9 + 5, none⟩ = false ∧ w1.cell? ⟨w.heap.size, i * 9 + 6, none⟩ = some (.string ⟨#[]⟩) ∧ w1.frozen? ⟨w.heap.size, i * 9 + 6, none⟩ = false ∧ w1.cell? ⟨w.heap.size, i * 9 + 7, none⟩ = some (.string ⟨#[]⟩) ∧ w1.frozen? ⟨w.heap.size, i * 9 + 7, none⟩ = false ∧ w1.cell? ⟨w.heap.size, i * 9 + 8, none⟩ = some (.string ⟨#[]⟩) ∧ w1.frozen? ⟨w.heap.size, i * 9 + 8, none⟩ = false)) := by
        intro w1 hb1
        have h1 := hbr.later hb1
        exact ⟨h1.cell rfl i _ hat 0 _ rfl, h1.loose _, h1.cell rfl i _ hat 1 _ rfl, h1.loose _, h1.cell rfl i _ hat 2 _ rfl, h1.loose _, h1.cell rfl i _ hat 3 _ rfl, h1.loose _, h1.cell rfl i _ hat 4 _ rfl, h1.loose _, h1.cell rfl i _ hat 5 _ rfl, h1.loose _, h1.cell rfl i _ hat 6 _ rfl, h1.loose _, h1.cell rfl i _ hat 7 _ rfl, h1.loose _, h1.cell rfl i _ hat 8 _ rfl, h1.loose _⟩
      generalize hx : l[i] = x at *
      have HT := Lib.hid (fun wx => toItem_any x.1 x.2 wx)
      obtain ⟨sq, K, V, U, N, FL, US, NM, TX⟩ := x
      unfold itV at HT
      simp only at a0 a1 a2 a3 a4 a5 a6 a7 a8 HT
      clear hgx
      go_wp2_with (go_at_call 105; refine (HT.out _).mono ?_; rintro e w1 ⟨rfl, hb1⟩; obtain ⟨d0, f0, d1, f1, d2, f2, d3, f3, d4, f4, d5, f5, d6, f6, d7, f7, d8, f8⟩ := HF.out w1 hb1)
      have hp := (hbr.later hb1).put9 i _ hat (sq, ⟨K, V, U, N, FL, US, NM, TX⟩)
      rw [hms, hml] at hp
      go_roundw
      case rel => exact ⟨i + 1, by omega, by go_num, hp⟩
      case measure => simp [intOf]; omega
    · go_wp2
      go_ret
      rw [copyTo_all (by omega)] at hbr
      exact ⟨_, rfl, hbr⟩

set_option maxRecDepth 100000 in
set_option maxHeartbeats 2000000 in
theorem eqItemS_same (l : List Itm) (va vb : Value) (w : World) (ha : Rows' itE w va l) (hb : Rows' itE w vb l) (hl : l.length ≤ 1099511627776) :
    Calls Tryz.prog 103 #[va, vb] w fun e w' => e = .returned (.bool true) ∧ Below w.heap.size w w' := by
  obtain ⟨ad, cap, rfl, hrowa⟩ := ha.items
  obtain ⟨ad2, cap2, rfl, hrowb⟩ := hb.items
  have HA := Lib.hid hrowa
  have HB := Lib.hid hrowb
  clear ha hb hrowa hrowb
  go_enter Tryz.func103, Tryz.ntmps103
  go_wp2
  go_loopw [5] (fun iv wr => ∃ i : Nat, i ≤ l.length ∧ iv = .int .i64 (i : Int) ∧ Below w.heap.size w wr) (fun iv _ => l.length - (intOf iv).toNat)
  case atStart => exact ⟨0, by omega, rfl, Below.refl _ _⟩
  case round =>
    obtain ⟨i, hi, rfl, hbel⟩ := hrel
    by_cases hlt : i < l.length
    · have hg : l[i]? = some l[i] := List.getElem?_eq_getElem hlt
      have hbd : Below w.heap.size w wr.drew := hbel.drew
      have HXA : Hid (∀ X, Below wr.drew.heap.size wr.drew X → ∃ ga oa gb ob, ad = some ⟨ga, oa, none⟩ ∧ ad2 = some ⟨gb, ob, none⟩ ∧ (X.cell? ⟨ga, oa + i * 9, none⟩ = some (.int .i64 l[i].1) ∧ X.cell? ⟨ga, oa + i * 9 + 1, none⟩ = some (.int .i64 l[i].2.kind) ∧ X.cell? ⟨ga, oa + i * 9 + 2, none⟩ = some (.int .i64 l[i].2.valid) ∧ X.cell? ⟨ga, oa + i * 9 + 3, none⟩ = some (.int .i64 l[i].2.uid) ∧ X.cell? ⟨ga, oa + i * 9 + 4, none⟩ = some (.int .i64 l[i].2.next) ∧ X.cell? ⟨ga, oa + i * 9 + 5, none⟩ = some (.int .i64 l[i].2.flags) ∧ X.cell? ⟨ga, oa + i * 9 + 6, none⟩ = some (.string l[i].2.user) ∧ X.cell? ⟨ga, oa + i * 9 + 7, none⟩ = some (.string l[i].2.name) ∧ X.cell? ⟨ga, oa + i * 9 + 8, none⟩ = some (.string l[i].2.text)) ∧ (X.cell? ⟨gb, ob + i * 9, none⟩ = some (.int .i64 l[i].1) ∧ X.cell? ⟨gb, ob + i * 9 + 1, none⟩ = some (.int .i64 l[i].2.kind) ∧ X.cell? ⟨gb, ob + i * 9 + 2, none⟩ = some (.int .i64 l[i].2.valid) ∧ X.cell? ⟨gb, ob + i * 9 + 3, none⟩ = some (.int .i64 l[i].2.uid) ∧ X.cell? ⟨gb, ob + i * 9 + 4, none⟩ = some (.int .i64 l[i].2.next) ∧ X.cell? ⟨gb, ob + i * 9 + 5, none⟩ = some (.int .i64 l[i].2.flags) ∧ X.cell? ⟨gb, ob + i * 9 + 6, none⟩ = some (.string l[i].2.user) ∧ X.cell? ⟨gb, ob + i * 9 + 7, none⟩ = some (.string l[i].2.name) ∧ X.cell? ⟨gb, ob + i * 9 + 8, none⟩ = some (.string l[i].2.text))) := fun X hX => by
        obtain ⟨ga, oa, e1, p⟩ := HA.out X (hbd.trans (hX.mono hbd.size)) i _ hg
        obtain ⟨gb, ob, e2, q⟩ := HB.out X (hbd.trans (hX.mono hbd.size)) i _ hg
        exact ⟨ga, oa, gb, ob, e1, e2, p, q⟩
      have HE := Lib.hid (fun wx => eqItem_same l[i].1 l[i].2 wx)
      generalize l[i] = x at *
      obtain ⟨sq, K, V, U, N, FL, US, NM, TX⟩ := x
      unfold itV at HE
      simp only at HXA HE
      obtain ⟨ga, oa, gb, ob, rfl, rfl, p0, q0⟩ := HXA.out _ (Below.refl _ _)
      have HS : Hid (∀ X, Below wr.drew.heap.size wr.drew X → (X.cell? ⟨ga, oa + i * 9, none⟩ = some (.int .i64 sq) ∧ X.cell? ⟨ga, oa + i * 9 + 1, none⟩ = some (.int .i64 K) ∧ X.cell? ⟨ga, oa + i * 9 + 2, none⟩ = some (.int .i64 V) ∧ X.cell? ⟨ga, oa + i * 9 + 3, none⟩ = some (.int .i64 U) ∧ X.cell? ⟨ga, oa + i * 9 + 4, none⟩ = some (.int .i64 N) ∧ X.cell? ⟨ga, oa + i * 9 + 5, none⟩ = some (.int .i64 FL) ∧ X.cell? ⟨ga, oa + i * 9 + 6, none⟩ = some (.string US) ∧ X.cell? ⟨ga, oa + i * 9 + 7, none⟩ = some (.string NM) ∧ X.cell? ⟨ga, oa + i * 9 + 8, none⟩ = some (.string TX)) ∧ (X.cell? ⟨gb, ob + i * 9, none⟩ = some (.int .i64 sq) ∧ X.cell? ⟨gb, ob + i * 9 + 1, none⟩ = some (.int .i64 K) ∧ X.cell? ⟨gb, ob + i * 9 + 2, none⟩ = some (.int .i64 V) ∧ X.cell? ⟨gb, ob + i * 9 + 3, none⟩ = some (.int .i64 U) ∧ X.cell? ⟨gb, ob + i * 9 + 4, none⟩ = some (.int .i64 N) ∧ X.cell? ⟨gb, ob + i * 9 + 5, none⟩ = some (.int .i64 FL) ∧ X.cell? ⟨gb, ob + i * 9 + 6, none⟩ = some (.string US) ∧ X.cell? ⟨gb, ob + i * 9 + 7, none⟩ = some (.string NM) ∧ X.cell? ⟨gb, ob + i * 9 + 8, none⟩ = some (.string TX))) := fun X hX => by
        obtain ⟨ga2, oa2, gb2, ob2, e1, e2, p, q⟩ := HXA.out X hX
        cases e1
        cases e2
        exact ⟨p, q⟩
      have hi0 : (0 : Int) ≤ (i : Int) := by omega
      have hi1 : (i : Int) < (l.length : Int) := by omega
      clear hg HXA p0 q0
      go_wp2
      go_region_held3 (fun X => (X.cell? ⟨ga, oa + i * 9, none⟩ = some (.int .i64 sq) ∧ X.cell? ⟨ga, oa + i * 9 + 1, none⟩ = some (.int .i64 K) ∧ X.cell? ⟨ga, oa + i * 9 + 2, none⟩ = some (.int .i64 V) ∧ X.cell? ⟨ga, oa + i * 9 + 3, none⟩ = some (.int .i64 U) ∧ X.cell? ⟨ga, oa + i * 9 + 4, none⟩ = some (.int .i64 N) ∧ X.cell? ⟨ga, oa + i * 9 + 5, none⟩ = some (.int .i64 FL) ∧ X.cell? ⟨ga, oa + i * 9 + 6, none⟩ = some (.string US) ∧ X.cell? ⟨ga, oa + i * 9 + 7, none⟩ = some (.string NM) ∧ X.cell? ⟨ga, oa + i * 9 + 8, none⟩ = some (.string TX)) ∧ (X.cell? ⟨gb, ob + i * 9, none⟩ = some (.int .i64 sq) ∧ X.cell? ⟨gb, ob + i * 9 + 1, none⟩ = some (.int .i64 K) ∧ X.cell? ⟨gb, ob + i * 9 + 2, none⟩ = some (.int .i64 V) ∧ X.cell? ⟨gb, ob + i * 9 + 3, none⟩ = some (.int .i64 U) ∧ X.cell? ⟨gb, ob + i * 9 + 4, none⟩ = some (.int .i64 N) ∧ X.cell? ⟨gb, ob + i * 9 + 5, none⟩ = some (.int .i64 FL) ∧ X.cell? ⟨gb, ob + i * 9 + 6, none⟩ = some (.string US) ∧ X.cell? ⟨gb, ob + i * 9 + 7, none⟩ = some (.string NM) ∧ X.cell? ⟨gb, ob + i * 9 + 8, none⟩ = some (.string TX)))
        (first | exact HS.out _ (Below.refl _ _) | exact HS.out _ hb1)
        (first | (go_at_call 113; refine (HE.out _).mono ?_; rintro e w1 ⟨rfl, hb1⟩))
      all_goals
        go_wp2
        go_roundw
        case rel => exact ⟨i + 1, by omega, by go_num, hbd.trans (hb1.mono hbd.size)⟩
        case measure => simp [intOf]; omega
    · go_wp2
      go_ret
      exact ⟨rfl, hbel⟩

def RItm (B : Nat) (X : World) (g n cap : Nat) : Prop := ∃ l : List Itm, l.length = n ∧ RBuf itE B X X (.slice (some ⟨g, 0, none⟩) n cap) l
theorem RItm.later {B : Nat} {X Y : World} {g n cap : Nat} (h : RItm B X g n cap) (hb : Below X.heap.size X Y) : RItm B Y g n cap := by
  obtain ⟨l, h1, h2⟩ := h
  exact ⟨l, h1, (h2.later hb).here⟩
theorem RItm.at0 {B : Nat} {X : World} {g n cap : Nat} (h : RItm B X g n cap) {i : Nat} (hi : i < n) : (∃ z : Int, X.cell? ⟨g, i * 9, none⟩ = some (.int .i64 z)) ∧ X.frozen? ⟨g, i * 9, none⟩ = false ∧ ∀ z : Int, RItm B (X.setCell ⟨g, i * 9, none⟩ (.int .i64 z)) g n cap := by
  obtain ⟨l, rfl, h2⟩ := h
  have hx : l[i]? = some l[i] := List.getElem?_eq_getElem hi
  generalize l[i] = x at hx
  exact ⟨⟨_, h2.cell rfl i x hx 0 _ rfl⟩, h2.loose _, fun z => ⟨l.set i (z, ⟨x.2.kind, x.2.valid, x.2.uid, x.2.next, x.2.flags, x.2.user, x.2.name, x.2.text⟩), by simp, (h2.stored i x (z, ⟨x.2.kind, x.2.valid, x.2.uid, x.2.next, x.2.flags, x.2.user, x.2.name, x.2.text⟩) hx 0 (by decide) (.int .i64 z) rfl).here⟩⟩
theorem RItm.at1 {B : Nat} {X : World} {g n cap : Nat} (h : RItm B X g n cap) {i : Nat} (hi : i < n) : (∃ z : Int, X.cell? ⟨g, i * 9 + 1, none⟩ = some (.int .i64 z)) ∧ X.frozen? ⟨g, i * 9 + 1, none⟩ = false ∧ ∀ z : Int, RItm B (X.setCell ⟨g, i * 9 + 1, none⟩ (.int .i64 z)) g n cap := by
  obtain ⟨l, rfl, h2⟩ := h
  have hx : l[i]? = some l[i] := List.getElem?_eq_getElem hi
  generalize l[i] = x at hx
  exact ⟨⟨_, h2.cell rfl i x hx 1 _ rfl⟩, h2.loose _, fun z => ⟨l.set i (x.1, ⟨z, x.2.valid, x.2.uid, x.2.next, x.2.flags, x.2.user, x.2.name, x.2.text⟩), by simp, (h2.stored i x (x.1, ⟨z, x.2.valid, x.2.uid, x.2.next, x.2.flags, x.2.user, x.2.name, x.2.text⟩) hx 1 (by decide) (.int .i64 z) rfl).here⟩⟩
theorem RItm.at2 {B : Nat} {X : World} {g n cap : Nat} (h : RItm B X g n cap) {i : Nat} (hi : i < n) : (∃ z : Int, X.cell? ⟨g, i * 9 + 2, none⟩ = some (.int .i64 z)) ∧ X.frozen? ⟨g, i * 9 + 2, none⟩ = false ∧ ∀ z : Int, RItm B (X.setCell ⟨g, i * 9 + 2, none⟩ (.int .i64 z)) g n cap := by
  obtain ⟨l, rfl, h2⟩ := h
  have hx : l[i]? = some l[i] := List.getElem?_eq_getElem hi
  generalize l[i] = x at hx
  exact ⟨⟨_, h2.cell rfl i x hx 2 _ rfl⟩, h2.loose _, fun z => ⟨l.set i (x.1, ⟨x.2.kind, z, x.2.uid, x.2.next, x.2.flags, x.2.user, x.2.name, x.2.text⟩), by simp, (h2.stored i x (x.1, ⟨x.2.kind, z, x.2.uid, x.2.next, x.2.flags, x.2.user, x.2.name, x.2.text⟩) hx 2 (by decide) (.int .i64 z) rfl).here⟩⟩
theorem RItm.at3 {B : Nat} {X : World} {g n cap : Nat} (h : RItm B X g n cap) {i : Nat} (hi : i < n) : (∃ z : Int, X.cell? ⟨g, i * 9 + 3, none⟩ = some (.int .i64 z)) ∧ X.frozen? ⟨g, i * 9 + 3, none⟩ = false ∧ ∀ z : Int, RItm B (X.setCell ⟨g, i * 9 + 3, none⟩ (.int .i64 z)) g n cap := by
  obtain ⟨l, rfl, h2⟩ := h
  have hx : l[i]? = some l[i] := List.getElem?_eq_getElem hi
  generalize l[i] = x at hx
  exact ⟨⟨_, h2.cell rfl i x hx 3 _ rfl⟩, h2.loose _, fun z => ⟨l.set i (x.1, ⟨x.2.kind, x.2.valid, z, x.2.next, x.2.flags, x.2.user, x.2.name, x.2.text⟩), by simp, (h2.stored i x (x.1, ⟨x.2.kind, x.2.valid, z, x.2.next, x.2.flags, x.2.user, x.2.name, x.2.text⟩) hx 3 (by decide) (.int .i64 z) rfl).here⟩⟩
theorem RItm.at4 {B : Nat} {X : World} {g n cap : Nat} (h : RItm B X g n cap) {i : Nat} (hi : i < n) : (∃ z : Int, X.cell? ⟨g, i * 9 + 4, none⟩ = some (.int .i64 z)) ∧ X.frozen? ⟨g, i * 9 + 4, none⟩ = false ∧ ∀ z : Int, RItm B (X.setCell ⟨g, i * 9 + 4, none⟩ (.int .i64 z)) g n cap := by
  obtain ⟨l, rfl, h2⟩ := h
  have hx : l[i]? = some l[i] := List.getElem?_eq_getElem hi
  generalize l[i] = x at hx
  exact ⟨⟨_, h2.cell rfl i x hx 4 _ rfl⟩, h2.loose _, fun z => ⟨l.set i (x.1, ⟨x.2.kind, x.2.valid, x.2.uid, z, x.2.flags, x.2.user, x.2.name, x.2.text⟩), by simp, (h2.stored i x (x.1, ⟨x.2.kind, x.2.valid, x.2.uid, z, x.2.flags, x.2.user, x.2.name, x.2.text⟩) hx 4 (by decide) (.int .i64 z) rfl).here⟩⟩
theorem RItm.at5 {B : Nat} {X : World} {g n cap : Nat} (h : RItm B X g n cap) {i : Nat} (hi : i < n) : (∃ z : Int, X.cell? ⟨g, i * 9 + 5, none⟩ = some (.int .i64 z)) ∧ X.frozen? ⟨g, i * 9 + 5, none⟩ = false ∧ ∀ z : Int, RItm B (X.setCell ⟨g, i * 9 + 5, none⟩ (.int .i64 z)) g n cap := by
  obtain ⟨l, rfl, h2⟩ := h
  have hx : l[i]? = some l[i] := List.getElem?_eq_getElem hi
  generalize l[i] = x at hx
  exact ⟨⟨_, h2.cell rfl i x hx 5 _ rfl⟩, h2.loose _, fun z => ⟨l.set i (x.1, ⟨x.2.kind, x.2.valid, x.2.uid, x.2.next, z, x.2.user, x.2.name, x.2.text⟩), by simp, (h2.stored i x (x.1, ⟨x.2.kind, x.2.valid, x.2.uid, x.2.next, z, x.2.user, x.2.name, x.2.text⟩) hx 5 (by decide) (.int .i64 z) rfl).here⟩⟩
theorem RItm.at6 {B : Nat} {X : World} {g n cap : Nat} (h : RItm B X g n cap) {i : Nat} (hi : i < n) : (∃ z : ByteArray, X.cell? ⟨g, i * 9 + 6, none⟩ = some (.string z)) ∧ X.frozen? ⟨g, i * 9 + 6, none⟩ = false ∧ ∀ z : ByteArray, RItm B (X.setCell ⟨g, i * 9 + 6, none⟩ (.string z)) g n cap := by
  obtain ⟨l, rfl, h2⟩ := h
  have hx : l[i]? = some l[i] := List.getElem?_eq_getElem hi
  generalize l[i] = x at hx
  exact ⟨⟨_, h2.cell rfl i x hx 6 _ rfl⟩, h2.loose _, fun z => ⟨l.set i (x.1, ⟨x.2.kind, x.2.valid, x.2.uid, x.2.next, x.2.flags, z, x.2.name, x.2.text⟩), by simp, (h2.stored i x (x.1, ⟨x.2.kind, x.2.valid, x.2.uid, x.2.next, x.2.flags, z, x.2.name, x.2.text⟩) hx 6 (by decide) (.string z) rfl).here⟩⟩
theorem RItm.at7 {B : Nat} {X : World} {g n cap : Nat} (h : RItm B X g n cap) {i : Nat} (hi : i < n) : (∃ z : ByteArray, X.cell? ⟨g, i * 9 + 7, none⟩ = some (.string z)) ∧ X.frozen? ⟨g, i * 9 + 7, none⟩ = false ∧ ∀ z : ByteArray, RItm B (X.setCell ⟨g, i * 9 + 7, none⟩ (.string z)) g n cap := by
  obtain ⟨l, rfl, h2⟩ := h
  have hx : l[i]? = some l[i] := List.getElem?_eq_getElem hi
  generalize l[i] = x at hx
  exact ⟨⟨_, h2.cell rfl i x hx 7 _ rfl⟩, h2.loose _, fun z => ⟨l.set i (x.1, ⟨x.2.kind, x.2.valid, x.2.uid, x.2.next, x.2.flags, x.2.user, z, x.2.text⟩), by simp, (h2.stored i x (x.1, ⟨x.2.kind, x.2.valid, x.2.uid, x.2.next, x.2.flags, x.2.user, z, x.2.text⟩) hx 7 (by decide) (.string z) rfl).here⟩⟩
theorem RItm.at8 {B : Nat} {X : World} {g n cap : Nat} (h : RItm B X g n cap) {i : Nat} (hi : i < n) : (∃ z : ByteArray, X.cell? ⟨g, i * 9 + 8, none⟩ = some (.string z)) ∧ X.frozen? ⟨g, i * 9 + 8, none⟩ = false ∧ ∀ z : ByteArray, RItm B (X.setCell ⟨g, i * 9 + 8, none⟩ (.string z)) g n cap := by
  obtain ⟨l, rfl, h2⟩ := h
  have hx : l[i]? = some l[i] := List.getElem?_eq_getElem hi
  generalize l[i] = x at hx
  exact ⟨⟨_, h2.cell rfl i x hx 8 _ rfl⟩, h2.loose _, fun z => ⟨l.set i (x.1, ⟨x.2.kind, x.2.valid, x.2.uid, x.2.next, x.2.flags, x.2.user, x.2.name, z⟩), by simp, (h2.stored i x (x.1, ⟨x.2.kind, x.2.valid, x.2.uid, x.2.next, x.2.flags, x.2.user, x.2.name, z⟩) hx 8 (by decide) (.string z) rfl).here⟩⟩

end Go.Proofs.YtgcnebepklelpaaGreat

/- The helpers of the exact laws over lists of items: each is marked, and the marks are held. -/
namespace Go.Proofs.YtgcnebepklelpaaGreat
open Go.RowKit


def markI (k : Nat) (j : Nat) : Itm := (((k + 9 * j : Nat) : Int), ⟨((k + 9 * j + 1 : Nat) : Int), ((k + 9 * j + 2 : Nat) : Int), ((k + 9 * j + 3 : Nat) : Int), ((k + 9 * j + 4 : Nat) : Int), ((k + 9 * j + 5 : Nat) : Int), mark (k + 9 * j + 6), mark (k + 9 * j + 7), mark (k + 9 * j + 8)⟩)
def marksI (k n : Nat) : List Itm := (List.range n).map (markI k)
def RMI (B : Nat) (w0 X : World) (g cap k : Nat) (l : List Itm) (i : Nat) (y : Itm) : Prop := RBuf itE B w0 X (.slice (some ⟨g, 0, none⟩) l.length cap) ((putTo (markI k) l i).set i y) ∧ i < l.length
theorem RMI.later {B : Nat} {w0 X Y : World} {g cap k i : Nat} {l : List Itm} {y : Itm} (h : RMI B w0 X g cap k l i y) (hb : Below X.heap.size X Y) : RMI B w0 Y g cap k l i y := ⟨h.1.later hb, h.2⟩
theorem RMI.start {B : Nat} {w0 X : World} {g cap k i : Nat} {l : List Itm} (h : RBuf itE B w0 X (.slice (some ⟨g, 0, none⟩) l.length cap) (putTo (markI k) l i)) (hi : i < l.length) : RMI B w0 X g cap k l i l[i] := by
  refine ⟨?_, hi⟩
  have e : (putTo (markI k) l i).set i l[i] = putTo (markI k) l i := by
    have h1 := putTo_at (m := markI k) hi
    obtain ⟨h2, h3⟩ := List.getElem?_eq_some_iff.1 h1
    rw [← h3]
    exact List.set_getElem_self h2
  rw [e]
  exact h
theorem RMI.done {B : Nat} {w0 X : World} {g cap k i : Nat} {l : List Itm} {y : Itm} (h : RMI B w0 X g cap k l i y) (hy : y = markI k i) : RBuf itE B w0 X (.slice (some ⟨g, 0, none⟩) l.length cap) (putTo (markI k) l (i + 1)) := by
  have h1 := h.1
  rw [hy, putTo_set h.2] at h1
  exact h1
theorem RMI.at0 {B : Nat} {w0 X : World} {g cap k i : Nat} {l : List Itm} {z0 z1 z2 z3 z4 z5 : Int} {z6 z7 z8 : ByteArray} (h : RMI B w0 X g cap k l i (z0, ⟨z1, z2, z3, z4, z5, z6, z7, z8⟩)) : X.cell? ⟨g, i * 9, none⟩ = some (.int .i64 (z0)) ∧ X.frozen? ⟨g, i * 9, none⟩ = false ∧ ∀ z : Int, RMI B w0 (X.setCell ⟨g, i * 9, none⟩ (.int .i64 (z))) g cap k l i (z, ⟨z1, z2, z3, z4, z5, z6, z7, z8⟩) := by
  obtain ⟨h1, h2⟩ := h
  have hl : ((putTo (markI k) l i).set i (z0, ⟨z1, z2, z3, z4, z5, z6, z7, z8⟩)).length = l.length := by rw [List.length_set]; exact putTo_length (by omega)
  have hat : ((putTo (markI k) l i).set i (z0, ⟨z1, z2, z3, z4, z5, z6, z7, z8⟩))[i]? = some (z0, ⟨z1, z2, z3, z4, z5, z6, z7, z8⟩) := List.getElem?_set_self (by rw [putTo_length (by omega)]; exact h2)
  rw [← hl] at h1
  refine ⟨h1.cell rfl i _ hat 0 _ rfl, h1.loose _, fun z => ⟨?_, h2⟩⟩
  have st := h1.stored i _ (z, ⟨z1, z2, z3, z4, z5, z6, z7, z8⟩) hat 0 (by decide) (.int .i64 (z)) rfl
  rw [List.set_set, hl] at st
  exact st
theorem RMI.at1 {B : Nat} {w0 X : World} {g cap k i : Nat} {l : List Itm} {z0 z1 z2 z3 z4 z5 : Int} {z6 z7 z8 : ByteArray} (h : RMI B w0 X g cap k l i (z0, ⟨z1, z2, z3, z4, z5, z6, z7, z8⟩)) : X.cell? ⟨g, i * 9 + 1, none⟩ = some (.int .i64 (z1)) ∧ X.frozen? ⟨g, i * 9 + 1, none⟩ = false ∧ ∀ z : Int, RMI B w0 (X.setCell ⟨g, i * 9 + 1, none⟩ (.int .i64 (z))) g cap k l i (z0, ⟨z, z2, z3, z4, z5, z6, z7, z8⟩) := by
  obtain ⟨h1, h2⟩ := h
  have hl : ((putTo (markI k) l i).set i (z0, ⟨z1, z2, z3, z4, z5, z6, z7, z8⟩)).length = l.length := by rw [List.length_set]; exact putTo_length (by omega)
  have hat : ((putTo (markI k) l i).set i (z0, ⟨z1, z2, z3, z4, z5, z6, z7, z8⟩))[i]? = some (z0, ⟨z1, z2, z3, z4, z5, z6, z7, z8⟩) := List.getElem?_set_self (by rw [putTo_length (by omega)]; exact h2)
  rw [← hl] at h1
  refine ⟨h1.cell rfl i _ hat 1 _ rfl, h1.loose _, fun z => ⟨?_, h2⟩⟩
  have st := h1.stored i _ (z0, ⟨z, z2, z3, z4, z5, z6, z7, z8⟩) hat 1 (by decide) (.int .i64 (z)) rfl
  rw [List.set_set, hl] at st
  exact st
theorem RMI.at2 {B : Nat} {w0 X : World} {g cap k i : Nat} {l : List Itm} {z0 z1 z2 z3 z4 z5 : Int} {z6 z7 z8 : ByteArray} (h : RMI B w0 X g cap k l i (z0, ⟨z1, z2, z3, z4, z5, z6, z7, z8⟩)) : X.cell? ⟨g, i * 9 + 2, none⟩ = some (.int .i64 (z2)) ∧ X.frozen? ⟨g, i * 9 + 2, none⟩ = false ∧ ∀ z : Int, RMI B w0 (X.setCell ⟨g, i * 9 + 2, none⟩ (.int .i64 (z))) g cap k l i (z0, ⟨z1, z, z3, z4, z5, z6, z7, z8⟩) := by
  obtain ⟨h1, h2⟩ := h
  have hl : ((putTo (markI k) l i).set i (z0, ⟨z1, z2, z3, z4, z5, z6, z7, z8⟩)).length = l.length := by rw [List.length_set]; exact putTo_length (by omega)
  have hat : ((putTo (markI k) l i).set i (z0, ⟨z1, z2, z3, z4, z5, z6, z7, z8⟩))[i]? = some (z0, ⟨z1, z2, z3, z4, z5, z6, z7, z8⟩) := List.getElem?_set_self (by rw [putTo_length (by omega)]; exact h2)
  rw [← hl] at h1
  refine ⟨h1.cell rfl i _ hat 2 _ rfl, h1.loose _, fun z => ⟨?_, h2⟩⟩
  have st := h1.stored i _ (z0, ⟨z1, z, z3, z4, z5, z6, z7, z8⟩) hat 2 (by decide) (.int .i64 (z)) rfl
  rw [List.set_set, hl] at st
  exact st
theorem RMI.at3 {B : Nat} {w0 X : World} {g cap k i : Nat} {l : List Itm} {z0 z1 z2 z3 z4 z5 : Int} {z6 z7 z8 : ByteArray} (h : RMI B w0 X g cap k l i (z0, ⟨z1, z2, z3, z4, z5, z6, z7, z8⟩)) : X.cell? ⟨g, i * 9 + 3, none⟩ = some (.int .i64 (z3)) ∧ X.frozen? ⟨g, i * 9 + 3, none⟩ = false ∧ ∀ z : Int, RMI B w0 (X.setCell ⟨g, i * 9 + 3, none⟩ (.int .i64 (z))) g cap k l i (z0, ⟨z1, z2, z, z4, z5, z6, z7, z8⟩) := by
  obtain ⟨h1, h2⟩ := h
  have hl : ((putTo (markI k) l i).set i (z0, ⟨z1, z2, z3, z4, z5, z6, z7, z8⟩)).length = l.length := by rw [List.length_set]; exact putTo_length (by omega)
  have hat : ((putTo (markI k) l i).set i (z0, ⟨z1, z2, z3, z4, z5, z6, z7, z8⟩))[i]? = some (z0, ⟨z1, z2, z3, z4, z5, z6, z7, z8⟩) := List.getElem?_set_self (by rw [putTo_length (by omega)]; exact h2)
  rw [← hl] at h1
  refine ⟨h1.cell rfl i _ hat 3 _ rfl, h1.loose _, fun z => ⟨?_, h2⟩⟩
  have st := h1.stored i _ (z0, ⟨z1, z2, z, z4, z5, z6, z7, z8⟩) hat 3 (by decide) (.int .i64 (z)) rfl
  rw [List.set_set, hl] at st
  exact st
theorem RMI.at4 {B : Nat} {w0 X : World} {g cap k i : Nat} {l : List Itm} {z0 z1 z2 z3 z4 z5 : Int} {z6 z7 z8 : ByteArray} (h : RMI B w0 X g cap k l i (z0, ⟨z1, z2, z3, z4, z5, z6, z7, z8⟩)) : X.cell? ⟨g, i * 9 + 4, none⟩ = some (.int .i64 (z4)) ∧ X.frozen? ⟨g, i * 9 + 4, none⟩ = false ∧ ∀ z : Int, RMI B w0 (X.setCell ⟨g, i * 9 + 4, none⟩ (.int .i64 (z))) g cap k l i (z0, ⟨z1, z2, z3, z, z5, z6, z7, z8⟩) := by
  obtain ⟨h1, h2⟩ := h
  have hl : ((putTo (markI k) l i).set i (z0, ⟨z1, z2, z3, z4, z5, z6, z7, z8⟩)).length = l.length := by rw [List.length_set]; exact putTo_length (by omega)
  have hat : ((putTo (markI k) l i).set i (z0, ⟨z1, z2, z3, z4, z5, z6, z7, z8⟩))[i]? = some (z0, ⟨z1, z2, z3, z4, z5, z6, z7, z8⟩) := List.getElem?_set_self (by rw [putTo_length (by omega)]; exact h2)
  rw [← hl] at h1
  refine ⟨h1.cell rfl i _ hat 4 _ rfl, h1.loose _, fun z => ⟨?_, h2⟩⟩
  have st := h1.stored i _ (z0, ⟨z1, z2, z3, z, z5, z6, z7, z8⟩) hat 4 (by decide) (.int .i64 (z)) rfl
  rw [List.set_set, hl] at st
  exact st
theorem RMI.at5 {B : Nat} {w0 X : World} {g cap k i : Nat} {l : List Itm} {z0 z1 z2 z3 z4 z5 : Int} {z6 z7 z8 : ByteArray} (h : RMI B w0 X g cap k l i (z0, ⟨z1, z2, z3, z4, z5, z6, z7, z8⟩)) : X.cell? ⟨g, i * 9 + 5, none⟩ = some (.int .i64 (z5)) ∧ X.frozen? ⟨g, i * 9 + 5, none⟩ = false ∧ ∀ z : Int, RMI B w0 (X.setCell ⟨g, i * 9 + 5, none⟩ (.int .i64 (z))) g cap k l i (z0, ⟨z1, z2, z3, z4, z, z6, z7, z8⟩) := by
  obtain ⟨h1, h2⟩ := h
  have hl : ((putTo (markI k) l i).set i (z0, ⟨z1, z2, z3, z4, z5, z6, z7, z8⟩)).length = l.length := by rw [List.length_set]; exact putTo_length (by omega)
  have hat : ((putTo (markI k) l i).set i (z0, ⟨z1, z2, z3, z4, z5, z6, z7, z8⟩))[i]? = some (z0, ⟨z1, z2, z3, z4, z5, z6, z7, z8⟩) := List.getElem?_set_self (by rw [putTo_length (by omega)]; exact h2)
  rw [← hl] at h1
  refine ⟨h1.cell rfl i _ hat 5 _ rfl, h1.loose _, fun z => ⟨?_, h2⟩⟩
  have st := h1.stored i _ (z0, ⟨z1, z2, z3, z4, z, z6, z7, z8⟩) hat 5 (by decide) (.int .i64 (z)) rfl
  rw [List.set_set, hl] at st
  exact st
theorem RMI.at6 {B : Nat} {w0 X : World} {g cap k i : Nat} {l : List Itm} {z0 z1 z2 z3 z4 z5 : Int} {z6 z7 z8 : ByteArray} (h : RMI B w0 X g cap k l i (z0, ⟨z1, z2, z3, z4, z5, z6, z7, z8⟩)) : X.cell? ⟨g, i * 9 + 6, none⟩ = some (.string (z6)) ∧ X.frozen? ⟨g, i * 9 + 6, none⟩ = false ∧ ∀ z : ByteArray, RMI B w0 (X.setCell ⟨g, i * 9 + 6, none⟩ (.string (z))) g cap k l i (z0, ⟨z1, z2, z3, z4, z5, z, z7, z8⟩) := by
  obtain ⟨h1, h2⟩ := h
  have hl : ((putTo (markI k) l i).set i (z0, ⟨z1, z2, z3, z4, z5, z6, z7, z8⟩)).length = l.length := by rw [List.length_set]; exact putTo_length (by omega)
  have hat : ((putTo (markI k) l i).set i (z0, ⟨z1, z2, z3, z4, z5, z6, z7, z8⟩))[i]? = some (z0, ⟨z1, z2, z3, z4, z5, z6, z7, z8⟩) := List.getElem?_set_self (by rw [putTo_length (by omega)]; exact h2)
  rw [← hl] at h1
  refine ⟨h1.cell rfl i _ hat 6 _ rfl, h1.loose _, fun z => ⟨?_, h2⟩⟩
  have st := h1.stored i _ (z0, ⟨z1, z2, z3, z4, z5, z, z7, z8⟩) hat 6 (by decide) (.string (z)) rfl
  rw [List.set_set, hl] at st
  exact st
theorem RMI.at7 {B : Nat} {w0 X : World} {g cap k i : Nat} {l : List Itm} {z0 z1 z2 z3 z4 z5 : Int} {z6 z7 z8 : ByteArray} (h : RMI B w0 X g cap k l i (z0, ⟨z1, z2, z3, z4, z5, z6, z7, z8⟩)) : X.cell? ⟨g, i * 9 + 7, none⟩ = some (.string (z7)) ∧ X.frozen? ⟨g, i * 9 + 7, none⟩ = false ∧ ∀ z : ByteArray, RMI B w0 (X.setCell ⟨g, i * 9 + 7, none⟩ (.string (z))) g cap k l i (z0, ⟨z1, z2, z3, z4, z5, z6, z, z8⟩) := by
  obtain ⟨h1, h2⟩ := h
  have hl : ((putTo (markI k) l i).set i (z0, ⟨z1, z2, z3, z4, z5, z6, z7, z8⟩)).length = l.length := by rw [List.length_set]; exact putTo_length (by omega)
  have hat : ((putTo (markI k) l i).set i (z0, ⟨z1, z2, z3, z4, z5, z6, z7, z8⟩))[i]? = some (z0, ⟨z1, z2, z3, z4, z5, z6, z7, z8⟩) := List.getElem?_set_self (by rw [putTo_length (by omega)]; exact h2)
  rw [← hl] at h1
  refine ⟨h1.cell rfl i _ hat 7 _ rfl, h1.loose _, fun z => ⟨?_, h2⟩⟩
  have st := h1.stored i _ (z0, ⟨z1, z2, z3, z4, z5, z6, z, z8⟩) hat 7 (by decide) (.string (z)) rfl
  rw [List.set_set, hl] at st
  exact st
theorem RMI.at8 {B : Nat} {w0 X : World} {g cap k i : Nat} {l : List Itm} {z0 z1 z2 z3 z4 z5 : Int} {z6 z7 z8 : ByteArray} (h : RMI B w0 X g cap k l i (z0, ⟨z1, z2, z3, z4, z5, z6, z7, z8⟩)) : X.cell? ⟨g, i * 9 + 8, none⟩ = some (.string (z8)) ∧ X.frozen? ⟨g, i * 9 + 8, none⟩ = false ∧ ∀ z : ByteArray, RMI B w0 (X.setCell ⟨g, i * 9 + 8, none⟩ (.string (z))) g cap k l i (z0, ⟨z1, z2, z3, z4, z5, z6, z7, z⟩) := by
  obtain ⟨h1, h2⟩ := h
  have hl : ((putTo (markI k) l i).set i (z0, ⟨z1, z2, z3, z4, z5, z6, z7, z8⟩)).length = l.length := by rw [List.length_set]; exact putTo_length (by omega)
  have hat : ((putTo (markI k) l i).set i (z0, ⟨z1, z2, z3, z4, z5, z6, z7, z8⟩))[i]? = some (z0, ⟨z1, z2, z3, z4, z5, z6, z7, z8⟩) := List.getElem?_set_self (by rw [putTo_length (by omega)]; exact h2)
  rw [← hl] at h1
  refine ⟨h1.cell rfl i _ hat 8 _ rfl, h1.loose _, fun z => ⟨?_, h2⟩⟩
  have st := h1.stored i _ (z0, ⟨z1, z2, z3, z4, z5, z6, z7, z⟩) hat 8 (by decide) (.string (z)) rfl
  rw [List.set_set, hl] at st
  exact st

set_option maxRecDepth 100000 in
set_option maxHeartbeats 4000000 in
theorem markItemS_put (l : List Itm) (v : Value) (k B : Nat) (w0 w : World) (h : RBuf itE B w0 w v l) (hk : 1 ≤ k) (hk2 : k + 9 * l.length ≤ 1099511627776) :
    Calls Tryz.prog 77 #[v, .int .i64 (k : Int)] w fun e w' => e = .returned (.int .i64 ((k + 9 * l.length : Nat) : Int)) ∧ RBuf itE B w0 w' v (marksI k l.length) ∧ w.grownBy w' v.ownBlock := by
  rcases h.own.2 with ⟨rfl, h0⟩ | ⟨g, cap, cur, rfl, hg, hh, hnc, hcp, hcs, htake⟩
  · obtain rfl := List.length_eq_zero_iff.1 h0
    go_enter Tryz.func77, Tryz.ntmps77
    go_wp2
    go_loop [1, 5] (fun kv iv => kv = .int .i64 (k : Int) ∧ iv = .int .i64 0) (fun _ _ => 0)
    case atStart => exact ⟨rfl, rfl⟩
    case round =>
      obtain ⟨rfl, rfl⟩ := hrel
      go_wp2
      go_ret
      exact ⟨rfl, h, World.grownBy.refl _ _⟩
  · clear hh hcs htake hcp
    have hle : l.length ≤ 1099511627776 := by omega
    go_enter Tryz.func77, Tryz.ntmps77
    go_wp2
    go_loopw [1, 5] (fun kv iv wr => ∃ i : Nat, i ≤ l.length ∧ iv = .int .i64 (i : Int) ∧ kv = .int .i64 ((k + 9 * i : Nat) : Int) ∧ RBuf itE B w0 wr (.slice (some ⟨g, 0, none⟩) l.length cap) (putTo (markI k) l i) ∧ w.grownBy wr (some g)) (fun _ iv _ => l.length - (intOf iv).toNat)
    case atStart => exact ⟨0, by omega, rfl, rfl, by rw [putTo_zero]; exact h, World.grownBy.refl _ _⟩
    case round =>
      obtain ⟨i, hi, rfl, rfl, hbr, hG⟩ := hrel
      by_cases hlt : i < l.length
      · have hi0 : (0 : Int) ≤ (i : Int) := by omega
        have hi1 : (i : Int) < (l.length : Int) := by omega
        obtain ⟨K, hK⟩ : ∃ K : Nat, K = k + 9 * i := ⟨_, rfl⟩
        have HK := Lib.hid hK
        rw [← hK]
        have hK1 : K + 9 ≤ 4611686018427387904 := by omega
        have hK2 : 1 ≤ K := by omega
        clear hK
        have R := RMI.start hbr hlt
        generalize l[i] = x at R
        obtain ⟨z0, z1, z2, z3, z4, z5, z6, z7, z8⟩ := x
        obtain ⟨c0, f0, R0⟩ := R.at0
        have R0' : RMI B w0 (wr.setCell ⟨g, i * 9, none⟩ (.int .i64 (K : Int))) g cap k l i ((K : Int), ⟨z1, z2, z3, z4, z5, z6, z7, z8⟩) := R0 _
        have G0 : w.grownBy (wr.setCell ⟨g, i * 9, none⟩ (.int .i64 (K : Int))) (some g) := hG.trans (grownBy_store _ g (i * 9) (.int .i64 (K : Int)))
        obtain ⟨c1, f1, R1⟩ := R0'.at1
        have R1' : RMI B w0 ((wr.setCell ⟨g, i * 9, none⟩ (.int .i64 (K : Int))).setCell ⟨g, i * 9 + 1, none⟩ (.int .i64 ((K : Int) + 1))) g cap k l i ((K : Int), ⟨((K : Int) + 1), z2, z3, z4, z5, z6, z7, z8⟩) := R1 _
        have G1 : w.grownBy ((wr.setCell ⟨g, i * 9, none⟩ (.int .i64 (K : Int))).setCell ⟨g, i * 9 + 1, none⟩ (.int .i64 ((K : Int) + 1))) (some g) := G0.trans (grownBy_store _ g (i * 9 + 1) (.int .i64 ((K : Int) + 1)))
        obtain ⟨c2, f2, R2⟩ := R1'.at2
        have R2' : RMI B w0 (((wr.setCell ⟨g, i * 9, none⟩ (.int .i64 (K : Int))).setCell ⟨g, i * 9 + 1, none⟩ (.int .i64 ((K : Int) + 1))).setCell ⟨g, i * 9 + 2, none⟩ (.int .i64 ((K : Int) + 1 + 1))) g cap k l i ((K : Int), ⟨((K : Int) + 1), ((K : Int) + 1 + 1), z3, z4, z5, z6, z7, z8⟩) := R2 _
        have G2 : w.grownBy (((wr.setCell ⟨g, i * 9, none⟩ (.int .i64 (K : Int))).setCell ⟨g, i * 9 + 1, none⟩ (.int .i64 ((K : Int) + 1))).setCell ⟨g, i * 9 + 2, none⟩ (.int .i64 ((K : Int) + 1 + 1))) (some g) := G1.trans (grownBy_store _ g (i * 9 + 2) (.int .i64 ((K : Int) + 1 + 1)))
        obtain ⟨c3, f3, R3⟩ := R2'.at3
        have R3' : RMI B w0 ((((wr.setCell ⟨g, i * 9, none⟩ (.int .i64 (K : Int))).setCell ⟨g, i * 9 + 1, none⟩ (.int .i64 ((K : Int) + 1))).setCell ⟨g, i * 9 + 2, none⟩ (.int .i64 ((K : Int) + 1 + 1))).setCell ⟨g, i * 9 + 3, none⟩ (.int .i64 ((K : Int) + 1 + 1 + 1))) g cap k l i ((K : Int), ⟨((K : Int) + 1), ((K : Int) + 1 + 1), ((K : Int) + 1 + 1 + 1), z4, z5, z6, z7, z8⟩) := R3 _
        have G3 : w.grownBy ((((wr.setCell ⟨g, i * 9, none⟩ (.int .i64 (K : Int))).setCell ⟨g, i * 9 + 1, none⟩ (.int .i64 ((K : Int) + 1))).setCell ⟨g, i * 9 + 2, none⟩ (.int .i64 ((K : Int) + 1 + 1))).setCell ⟨g, i * 9 + 3, none⟩ (.int .i64 ((K : Int) + 1 + 1 + 1))) (some g) := G2.trans (grownBy_store _ g (i * 9 + 3) (.int .i64 ((K : Int) + 1 + 1 + 1)))
        obtain ⟨c4, f4, R4⟩ := R3'.at4
        have R4' : RMI B w0 (((((wr.setCell ⟨g, i * 9, none⟩ (.int .i64 (K : Int))).setCell ⟨g, i * 9 + 1, none⟩ (.int .i64 ((K : Int) + 1))).setCell ⟨g, i * 9 + 2, none⟩ (.int .i64 ((K : Int) + 1 + 1))).setCell ⟨g, i * 9 + 3, none⟩ (.int .i64 ((K : Int) + 1 + 1 + 1))).setCell ⟨g, i * 9 + 4, none⟩ (.int .i64 ((K : Int) + 1 + 1 + 1 + 1))) g cap k l i ((K : Int), ⟨((K : Int) + 1), ((K : Int) + 1 + 1), ((K : Int) + 1 + 1 + 1), ((K : Int) + 1 + 1 + 1 + 1), z5, z6, z7, z8⟩) := R4 _
        have G4 : w.grownBy (((((wr.setCell ⟨g, i * 9, none⟩ (.int .i64 (K : Int))).setCell ⟨g, i * 9 + 1, none⟩ (.int .i64 ((K : Int) + 1))).setCell ⟨g, i * 9 + 2, none⟩ (.int .i64 ((K : Int) + 1 + 1))).setCell ⟨g, i * 9 + 3, none⟩ (.int .i64 ((K : Int) + 1 + 1 + 1))).setCell ⟨g, i * 9 + 4, none⟩ (.int .i64 ((K : Int) + 1 + 1 + 1 + 1))) (some g) := G3.trans (grownBy_store _ g (i * 9 + 4) (.int .i64 ((K : Int) + 1 + 1 + 1 + 1)))
        obtain ⟨c5, f5, R5⟩ := R4'.at5
        have R5' : RMI B w0 ((((((wr.setCell ⟨g, i * 9, none⟩ (.int .i64 (K : Int))).setCell ⟨g, i * 9 + 1, none⟩ (.int .i64 ((K : Int) + 1))).setCell ⟨g, i * 9 + 2, none⟩ (.int .i64 ((K : Int) + 1 + 1))).setCell ⟨g, i * 9 + 3, none⟩ (.int .i64 ((K : Int) + 1 + 1 + 1))).setCell ⟨g, i * 9 + 4, none⟩ (.int .i64 ((K : Int) + 1 + 1 + 1 + 1))).setCell ⟨g, i * 9 + 5, none⟩ (.int .i64 ((K : Int) + 1 + 1 + 1 + 1 + 1))) g cap k l i ((K : Int), ⟨((K : Int) + 1), ((K : Int) + 1 + 1), ((K : Int) + 1 + 1 + 1), ((K : Int) + 1 + 1 + 1 + 1), ((K : Int) + 1 + 1 + 1 + 1 + 1), z6, z7, z8⟩) := R5 _
        have G5 : w.grownBy ((((((wr.setCell ⟨g, i * 9, none⟩ (.int .i64 (K : Int))).setCell ⟨g, i * 9 + 1, none⟩ (.int .i64 ((K : Int) + 1))).setCell ⟨g, i * 9 + 2, none⟩ (.int .i64 ((K : Int) + 1 + 1))).setCell ⟨g, i * 9 + 3, none⟩ (.int .i64 ((K : Int) + 1 + 1 + 1))).setCell ⟨g, i * 9 + 4, none⟩ (.int .i64 ((K : Int) + 1 + 1 + 1 + 1))).setCell ⟨g, i * 9 + 5, none⟩ (.int .i64 ((K : Int) + 1 + 1 + 1 + 1 + 1))) (some g) := G4.trans (grownBy_store _ g (i * 9 + 5) (.int .i64 ((K : Int) + 1 + 1 + 1 + 1 + 1)))
        clear R0 R1 R2 R3 R4 R5 R0' R1' R2' R3' R4' G0 G1 G2 G3 G4 R hG hbr
        go_wp2_with fail
        clear c0 f0 c1 f1 c2 f2 c3 f3 c4 f4 c5 f5
        generalize ((((((wr.setCell ⟨g, i * 9, none⟩ (.int .i64 (K : Int))).setCell ⟨g, i * 9 + 1, none⟩ (.int .i64 ((K : Int) + 1))).setCell ⟨g, i * 9 + 2, none⟩ (.int .i64 ((K : Int) + 1 + 1))).setCell ⟨g, i * 9 + 3, none⟩ (.int .i64 ((K : Int) + 1 + 1 + 1))).setCell ⟨g, i * 9 + 4, none⟩ (.int .i64 ((K : Int) + 1 + 1 + 1 + 1))).setCell ⟨g, i * 9 + 5, none⟩ (.int .i64 ((K : Int) + 1 + 1 + 1 + 1 + 1))) = X5 at R5' G5 ⊢
        refine (markText_at _ (K + 6) _ (by omega) (by omega) (by omega)).mono ?_
        rintro e w6 ⟨rfl, k6⟩
        obtain ⟨c6, f6, R6⟩ := (R5'.later k6).at6
        have R6' := R6 (mark (K + 6))
        have G6 := (G5.trans (grownBy_of_below k6 (some g))).trans (grownBy_store w6 g (i * 9 + 6) (.string (mark (K + 6))))
        clear R5' G5 k6 R6
        go_wp2_with fail
        clear c6 f6
        generalize w6.setCell ⟨g, i * 9 + 6, none⟩ (.string (mark (K + 6))) = X6 at R6' G6 ⊢
        refine (markText_at _ (K + 7) _ (by omega) (by omega) (by omega)).mono ?_
        rintro e w7 ⟨rfl, k7⟩
        obtain ⟨c7, f7, R7⟩ := (R6'.later k7).at7
        have R7' := R7 (mark (K + 7))
        have G7 := (G6.trans (grownBy_of_below k7 (some g))).trans (grownBy_store w7 g (i * 9 + 7) (.string (mark (K + 7))))
        clear R6' G6 k7 R7
        go_wp2_with fail
        clear c7 f7
        generalize w7.setCell ⟨g, i * 9 + 7, none⟩ (.string (mark (K + 7))) = X7 at R7' G7 ⊢
        refine (markText_at _ (K + 8) _ (by omega) (by omega) (by omega)).mono ?_
        rintro e w8 ⟨rfl, k8⟩
        obtain ⟨c8, f8, R8⟩ := (R7'.later k8).at8
        have R8' := R8 (mark (K + 8))
        have G8 := (G7.trans (grownBy_of_below k8 (some g))).trans (grownBy_store w8 g (i * 9 + 8) (.string (mark (K + 8))))
        clear R7' G7 k8 R8
        have RF := Lib.hid (R8'.done (by rw [HK.out]; rfl))
        have GF := Lib.hid G8
        clear R8' G8
        go_wp2
        exact ⟨⟨i + 1, by omega, by simp, by rw [HK.out]; first | go_num | (congr 1; omega), RF.out, GF.out⟩, by first | omega | (simp [intOf]; omega)⟩
      · have hfin : Hid (i = l.length) := by show i = l.length; omega
        go_wp2
        go_ret
        refine ⟨?_, ?_, hG⟩
        · rw [← hfin.out]; rfl
        · have := hbr
          rw [hfin.out, putTo_all] at this
          exact this


end Go.Proofs.YtgcnebepklelpaaGreat
