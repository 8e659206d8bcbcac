/- Texts of our own, joined. -/
import Derived.Test.YtlifgcgoehkinaaGreatDoorJlx
import Derived.Test.YtlifgcgoehkinaaGreatDoorJd
/- Records: what the program's readAnyRec and ReadRec hand back. -/
namespace Go.Proofs.YtlifgcgoehkinaaGreatDoor
open Go.RowKit

end Go.Proofs.YtlifgcgoehkinaaGreatDoor

/- Records: what the program's ReadRec hands back. -/
namespace Go.Proofs.YtlifgcgoehkinaaGreatDoor
open Go.RowKit


end Go.Proofs.YtlifgcgoehkinaaGreatDoor

/- Items and frames: what the program's ItemFrame and FrameItem hand back. -/
namespace Go.Proofs.YtlifgcgoehkinaaGreatDoor
open Go.RowKit

set_option maxRecDepth 100000 in
set_option maxHeartbeats 1500000 in
theorem implItemFrame_any (seq : Int) (r : Rc) (gen : Int) (w : World) :
    Calls Tryz.prog 27 #[itV seq r, .int .i64 gen] w fun e w' => e = .returned (ifT seq r gen) ∧ Below w.heap.size w w' := by
  have hRT := fun wx => implRecText_any r wx
  have hFO : r.ok → ∀ wx, _ := fun hok wx => implFrameOk_any ⟨gen, seq, r.tx⟩ wx (by have := Rc.tx_le hok; simp only; omega)
  obtain ⟨bk, o, hT, hW⟩ : ∃ (bk : ByteArray) (o : Bool), rtT r = .tuple #[.string bk, .bool o] ∧ ((o = false ∧ ¬ r.ok) ∨ (o = true ∧ bk = r.tx ∧ r.ok)) := by
    by_cases h : r.ok
    · exact ⟨_, _, rtT_yes h, .inr ⟨rfl, rfl, h⟩⟩
    · exact ⟨_, _, rtT_no h, .inl ⟨rfl, h⟩⟩
  rw [hT] at hRT
  have b0 : Below w.heap.size w (w.alloc (.cells #[.int .i64 seq, .int .i64 r.kind, .int .i64 r.valid, .int .i64 r.uid, .int .i64 r.next, .int .i64 r.flags, .string r.user, .string r.name, .string r.text] 68)) := belNew _ _
  have b1 := b0.trans ((belNew (w.alloc (.cells #[.int .i64 seq, .int .i64 r.kind, .int .i64 r.valid, .int .i64 r.uid, .int .i64 r.next, .int .i64 r.flags, .string r.user, .string r.name, .string r.text] 68)) (.cells #[.int .i64 0, .int .i64 0, .string ⟨#[]⟩] 62)).mono b0.size)
  have hI := (Box.new w #[.int .i64 seq, .int .i64 r.kind, .int .i64 r.valid, .int .i64 r.uid, .int .i64 r.next, .int .i64 r.flags, .string r.user, .string r.name, .string r.text] 68).later (belNew _ (.cells #[.int .i64 0, .int .i64 0, .string ⟨#[]⟩] 62))
  have hF := Box.new (w.alloc (.cells #[.int .i64 seq, .int .i64 r.kind, .int .i64 r.valid, .int .i64 r.uid, .int .i64 r.next, .int .i64 r.flags, .string r.user, .string r.name, .string r.text] 68)) #[.int .i64 0, .int .i64 0, .string ⟨#[]⟩] 62
  have hg : (w.alloc (.cells #[.int .i64 seq, .int .i64 r.kind, .int .i64 r.valid, .int .i64 r.uid, .int .i64 r.next, .int .i64 r.flags, .string r.user, .string r.name, .string r.text] 68)).heap.size = w.heap.size + 1 := by simp
  rw [hg] at hF
  unfold Fr.v at hFO
  simp only at hFO
  have HRT := Lib.hid hRT
  have HFO := Lib.hid hFO
  have HW := Lib.hid hW
  have HI0 : Hid (∀ v : Value, ifT seq r gen = v → ifT seq r gen = v) := fun _ h => h
  obtain ⟨T, hTT⟩ : ∃ T, ifT seq r gen = T := ⟨_, rfl⟩
  have HTT := Lib.hid hTT
  rw [hTT]
  clear hRT hFO hW hT hTT HI0 b0 hg
  unfold Rc.v at HRT
  unfold itV
  go_enter Tryz.func27, Tryz.ntmps27
  go_wp2_with fail
  obtain ⟨g1, hg⟩ : ∃ g1, w.heap.size + 1 = g1 := ⟨_, rfl⟩
  rw [hg] at hF ⊢
  have hl : w.heap.size ≤ g1 := by omega
  clear hg
  generalize (w.alloc (.cells #[.int .i64 seq, .int .i64 r.kind, .int .i64 r.valid, .int .i64 r.uid, .int .i64 r.next, .int .i64 r.flags, .string r.user, .string r.name, .string r.text] 68)).alloc (.cells #[.int .i64 0, .int .i64 0, .string ⟨#[]⟩] 62) = W at hI hF b1 ⊢
  refine (HRT.out _).mono ?_
  rintro e w1 ⟨rfl, k1⟩
  have i0 := (hI.later k1).cell 0 _ rfl
  have hF1 := hF.later k1
  have b2 := b1.trans (k1.mono b1.size)
  clear hI hF b1 k1
  rcases HW.out with ⟨rfl, hno⟩ | ⟨rfl, rfl, hok⟩
  · have HE : Hid (T = .tuple #[.agg #[.int .i64 0, .int .i64 0, .string ⟨#[]⟩], .bool false]) := by rw [← HTT.out]; exact ifT_no (fun c => hno c.1)
    have hF2 := hF1.later (belNew w1 (.cells #[.int .i64 gen, .int .i64 seq, .string bk] 62))
    have b3 := b2.trans ((belNew w1 (.cells #[.int .i64 gen, .int .i64 seq, .string bk] 62)).mono b2.size)
    obtain ⟨z0, z1, z2, f0, f1, f2⟩ := hF2.three
    have BB := Lib.hid b3
    clear hno hF1 hF2 b2 b3
    go_wp2
    refine bodyPost_ret (v := .tuple #[.agg #[.int .i64 0, .int .i64 0, .string ⟨#[]⟩], .bool false]) (by simp [results, Tryz.results27, go_sem, z0, z1, z2]) rfl ?_
    exact ⟨by rw [HE.out], below_set3 BB.out hl _ _ _⟩
  · have hFO := HFO.out hok
    have hF2 := hF1.later (belNew w1 (.cells #[.int .i64 gen, .int .i64 seq, .string r.tx] 62))
    have hN2 := Box.new w1 #[.int .i64 gen, .int .i64 seq, .string r.tx] 62
    have b3 := b2.trans ((belNew w1 (.cells #[.int .i64 gen, .int .i64 seq, .string r.tx] 62)).mono b2.size)
    go_wp2_with fail
    generalize w1.alloc (.cells #[.int .i64 gen, .int .i64 seq, .string r.tx] 62) = X at hF2 hN2 b3 ⊢
    refine (hFO _).mono ?_
    rintro e w2 ⟨rfl, k2⟩
    obtain ⟨z0, z1, z2, f0, f1, f2⟩ := (hF2.later k2).three
    obtain ⟨y0, y1, y2, e0, e1, e2⟩ := (hN2.later k2).three
    have BB := Lib.hid (b3.trans (k2.mono b3.size))
    clear hFO hF1 hF2 hN2 b2 b3 k2 i0
    by_cases hf : (⟨gen, seq, r.tx⟩ : Fr).ok
    · have HE : Hid (T = .tuple #[(⟨gen, seq, r.tx⟩ : Fr).v, .bool true]) := by rw [← HTT.out]; exact ifT_yes hok hf
      rw [decide_eq_true hf]
      clear hok hf HW HTT HFO HRT
      go_wp2
      refine bodyPost_ret (v := .tuple #[.agg #[.int .i64 gen, .int .i64 seq, .string r.tx], .bool true]) (by simp [results, Tryz.results27, go_sem, z0, z1, z2]) rfl ?_
      exact ⟨by rw [HE.out]; rfl, below_set3 BB.out hl _ _ _⟩
    · have HE : Hid (T = .tuple #[.agg #[.int .i64 0, .int .i64 0, .string ⟨#[]⟩], .bool false]) := by rw [← HTT.out]; exact ifT_no (fun c => hf c.2)
      rw [decide_eq_false hf]
      clear hok hf HW HTT HFO HRT
      go_wp2
      refine bodyPost_ret (v := .tuple #[.agg #[.int .i64 0, .int .i64 0, .string ⟨#[]⟩], .bool false]) (by simp [results, Tryz.results27, go_sem, z0, z1, z2]) rfl ?_
      exact ⟨by rw [HE.out], below_set3 BB.out hl _ _ _⟩


end Go.Proofs.YtlifgcgoehkinaaGreatDoor
