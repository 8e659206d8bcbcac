/- Items and frames: what the program's ItemFrame and FrameItem hand back. -/
import Derived.Test.YthlbokfajiahpaaRecW
import Derived.Test.YthlbokfajiahpaaItemS
namespace Go.Proofs.Ythlbokfajiahpaa
open Go.RowKit

set_option maxRecDepth 100000 in
set_option maxHeartbeats 1500000 in
theorem implItemFrame_any (seq : Int) (r : Rc) (gen : Int) (w : World) :
    Calls Try.prog 17 #[itV seq r, .int .i64 gen] w fun e w' => e = .returned (ifT seq r gen) ∧ Below w.heap.size w w' := by
  have hRT := fun wx => implRecText_any r wx
  have hFO : r.ok → ∀ wx, _ := fun hok wx => implFrameOk_any ⟨gen, seq, r.tx⟩ wx (by have := Rc.tx_le hok; simp only; omega)
  obtain ⟨bk, o, hT, hW⟩ : ∃ (bk : ByteArray) (o : Bool), rtT r = .tuple #[.string bk, .bool o] ∧ ((o = false ∧ ¬ r.ok) ∨ (o = true ∧ bk = r.tx ∧ r.ok)) := by
    by_cases h : r.ok
    · exact ⟨_, _, rtT_yes h, .inr ⟨rfl, rfl, h⟩⟩
    · exact ⟨_, _, rtT_no h, .inl ⟨rfl, h⟩⟩
  rw [hT] at hRT
  have b0 : Below w.heap.size w (w.alloc (.cells #[.int .i64 seq, .int .i64 r.kind, .int .i64 r.valid, .int .i64 r.uid, .int .i64 r.next, .int .i64 r.flags, .string r.user, .string r.name, .string r.text] 34)) := belNew _ _
  have b1 := b0.trans ((belNew (w.alloc (.cells #[.int .i64 seq, .int .i64 r.kind, .int .i64 r.valid, .int .i64 r.uid, .int .i64 r.next, .int .i64 r.flags, .string r.user, .string r.name, .string r.text] 34)) (.cells #[.int .i64 0, .int .i64 0, .string ⟨#[]⟩] 36)).mono b0.size)
  have hI := (Box.new w #[.int .i64 seq, .int .i64 r.kind, .int .i64 r.valid, .int .i64 r.uid, .int .i64 r.next, .int .i64 r.flags, .string r.user, .string r.name, .string r.text] 34).later (belNew _ (.cells #[.int .i64 0, .int .i64 0, .string ⟨#[]⟩] 36))
  have hF := Box.new (w.alloc (.cells #[.int .i64 seq, .int .i64 r.kind, .int .i64 r.valid, .int .i64 r.uid, .int .i64 r.next, .int .i64 r.flags, .string r.user, .string r.name, .string r.text] 34)) #[.int .i64 0, .int .i64 0, .string ⟨#[]⟩] 36
  have hg : (w.alloc (.cells #[.int .i64 seq, .int .i64 r.kind, .int .i64 r.valid, .int .i64 r.uid, .int .i64 r.next, .int .i64 r.flags, .string r.user, .string r.name, .string r.text] 34)).heap.size = w.heap.size + 1 := by simp
  rw [hg] at hF
  unfold Fr.v at hFO
  simp only at hFO
  have HRT := Lib.hid hRT
  have HFO := Lib.hid hFO
  have HW := Lib.hid hW
  have HI0 : Hid (∀ v : Value, ifT seq r gen = v → ifT seq r gen = v) := fun _ h => h
  obtain ⟨T, hTT⟩ : ∃ T, ifT seq r gen = T := ⟨_, rfl⟩
  have HTT := Lib.hid hTT
  rw [hTT]
  clear hRT hFO hW hT hTT HI0 b0 hg
  unfold Rc.v at HRT
  unfold itV
  go_enter Try.func17, Try.ntmps17
  go_wp2_with fail
  obtain ⟨g1, hg⟩ : ∃ g1, w.heap.size + 1 = g1 := ⟨_, rfl⟩
  rw [hg] at hF ⊢
  have hl : w.heap.size ≤ g1 := by omega
  clear hg
  generalize (w.alloc (.cells #[.int .i64 seq, .int .i64 r.kind, .int .i64 r.valid, .int .i64 r.uid, .int .i64 r.next, .int .i64 r.flags, .string r.user, .string r.name, .string r.text] 34)).alloc (.cells #[.int .i64 0, .int .i64 0, .string ⟨#[]⟩] 36) = W at hI hF b1 ⊢
  refine (HRT.out _).mono ?_
  rintro e w1 ⟨rfl, k1⟩
  have i0 := (hI.later k1).cell 0 _ rfl
  have hF1 := hF.later k1
  have b2 := b1.trans (k1.mono b1.size)
  clear hI hF b1 k1
  rcases HW.out with ⟨rfl, hno⟩ | ⟨rfl, rfl, hok⟩
  · have HE : Hid (T = .tuple #[.agg #[.int .i64 0, .int .i64 0, .string ⟨#[]⟩], .bool false]) := by rw [← HTT.out]; exact ifT_no (fun c => hno c.1)
    have hF2 := hF1.later (belNew w1 (.cells #[.int .i64 gen, .int .i64 seq, .string bk] 36))
    have b3 := b2.trans ((belNew w1 (.cells #[.int .i64 gen, .int .i64 seq, .string bk] 36)).mono b2.size)
    obtain ⟨z0, z1, z2, f0, f1, f2⟩ := hF2.three
    have BB := Lib.hid b3
    clear hno hF1 hF2 b2 b3
    go_wp2
    refine bodyPost_ret (v := .tuple #[.agg #[.int .i64 0, .int .i64 0, .string ⟨#[]⟩], .bool false]) (by simp [results, Try.results17, go_sem, z0, z1, z2]) rfl ?_
    exact ⟨by rw [HE.out], below_set3 BB.out hl _ _ _⟩
  · have hFO := HFO.out hok
    have hF2 := hF1.later (belNew w1 (.cells #[.int .i64 gen, .int .i64 seq, .string r.tx] 36))
    have hN2 := Box.new w1 #[.int .i64 gen, .int .i64 seq, .string r.tx] 36
    have b3 := b2.trans ((belNew w1 (.cells #[.int .i64 gen, .int .i64 seq, .string r.tx] 36)).mono b2.size)
    go_wp2_with fail
    generalize w1.alloc (.cells #[.int .i64 gen, .int .i64 seq, .string r.tx] 36) = X at hF2 hN2 b3 ⊢
    refine (hFO _).mono ?_
    rintro e w2 ⟨rfl, k2⟩
    obtain ⟨z0, z1, z2, f0, f1, f2⟩ := (hF2.later k2).three
    obtain ⟨y0, y1, y2, e0, e1, e2⟩ := (hN2.later k2).three
    have BB := Lib.hid (b3.trans (k2.mono b3.size))
    clear hFO hF1 hF2 hN2 b2 b3 k2 i0
    by_cases hf : (⟨gen, seq, r.tx⟩ : Fr).ok
    · have HE : Hid (T = .tuple #[(⟨gen, seq, r.tx⟩ : Fr).v, .bool true]) := by rw [← HTT.out]; exact ifT_yes hok hf
      rw [decide_eq_true hf]
      clear hok hf HW HTT HFO HRT
      go_wp2
      refine bodyPost_ret (v := .tuple #[.agg #[.int .i64 gen, .int .i64 seq, .string r.tx], .bool true]) (by simp [results, Try.results17, go_sem, z0, z1, z2]) rfl ?_
      exact ⟨by rw [HE.out]; rfl, below_set3 BB.out hl _ _ _⟩
    · have HE : Hid (T = .tuple #[.agg #[.int .i64 0, .int .i64 0, .string ⟨#[]⟩], .bool false]) := by rw [← HTT.out]; exact ifT_no (fun c => hf c.2)
      rw [decide_eq_false hf]
      clear hok hf HW HTT HFO HRT
      go_wp2
      refine bodyPost_ret (v := .tuple #[.agg #[.int .i64 0, .int .i64 0, .string ⟨#[]⟩], .bool false]) (by simp [results, Try.results17, go_sem, z0, z1, z2]) rfl ?_
      exact ⟨by rw [HE.out], below_set3 BB.out hl _ _ _⟩

set_option maxRecDepth 100000 in
set_option maxHeartbeats 1500000 in
theorem implFrameItem_any (f : Fr) (w : World) (hs : f.body.size ≤ 1099511627776) :
    Calls Try.prog 18 #[f.v] w fun e w' => e = .returned (fiT f) ∧ Below w.heap.size w w' := by
  have hFO := fun wx => implFrameOk_any f wx hs
  have hRR := fun wx => implReadRec_any f.body wx hs
  obtain ⟨r, o, hT, hW⟩ : ∃ (r : Rc) (o : Bool), rrT f.body = .tuple #[r.v, .bool o] ∧ ((o = false ∧ rrO f.body = none) ∨ (o = true ∧ rrO f.body = some r)) := by
    rcases h : rrO f.body with _ | r
    · exact ⟨_, _, rrT_none h, .inl ⟨rfl, rfl⟩⟩
    · exact ⟨_, _, rrT_some h, .inr ⟨rfl, rfl⟩⟩
  rw [hT] at hRR
  obtain ⟨T, hTT⟩ : ∃ T, fiT f = T := ⟨_, rfl⟩
  have HTT := Lib.hid hTT
  have HW := Lib.hid hW
  rw [hTT]
  clear hTT hT hW
  obtain ⟨fo, hfo⟩ : ∃ fo, decide f.ok = fo := ⟨_, rfl⟩
  rw [hfo] at hFO
  have HFK := Lib.hid hfo
  obtain ⟨gen, seq, body⟩ := f
  obtain ⟨kind, valid, uid, next, flags, user, name, text⟩ := r
  unfold Rc.v at hRR
  unfold Fr.v at hFO ⊢
  simp only at hRR hFO hs ⊢
  have HRR := Lib.hid hRR
  have HFO := Lib.hid hFO
  clear hRR hFO hfo
  have b0 : Below w.heap.size w (w.alloc (.cells #[.int .i64 gen, .int .i64 seq, .string body] 36)) := belNew _ _
  have b1 := b0.trans ((belNew (w.alloc (.cells #[.int .i64 gen, .int .i64 seq, .string body] 36)) (.cells #[.int .i64 0, .int .i64 0, .int .i64 0, .int .i64 0, .int .i64 0, .int .i64 0, .string ⟨#[]⟩, .string ⟨#[]⟩, .string ⟨#[]⟩] 34)).mono b0.size)
  have hF := (Box.new w #[.int .i64 gen, .int .i64 seq, .string body] 36).later (belNew _ (.cells #[.int .i64 0, .int .i64 0, .int .i64 0, .int .i64 0, .int .i64 0, .int .i64 0, .string ⟨#[]⟩, .string ⟨#[]⟩, .string ⟨#[]⟩] 34))
  have hI := Box.new (w.alloc (.cells #[.int .i64 gen, .int .i64 seq, .string body] 36)) #[.int .i64 0, .int .i64 0, .int .i64 0, .int .i64 0, .int .i64 0, .int .i64 0, .string ⟨#[]⟩, .string ⟨#[]⟩, .string ⟨#[]⟩] 34
  have hg : (w.alloc (.cells #[.int .i64 gen, .int .i64 seq, .string body] 36)).heap.size = w.heap.size + 1 := by simp
  rw [hg] at hI
  clear b0 hg
  go_enter Try.func18, Try.ntmps18
  go_wp2_with fail
  obtain ⟨g1, hg⟩ : ∃ g1, w.heap.size + 1 = g1 := ⟨_, rfl⟩
  rw [hg] at hI ⊢
  have hl : w.heap.size ≤ g1 := by omega
  clear hg
  generalize (w.alloc (.cells #[.int .i64 gen, .int .i64 seq, .string body] 36)).alloc (.cells #[.int .i64 0, .int .i64 0, .int .i64 0, .int .i64 0, .int .i64 0, .int .i64 0, .string ⟨#[]⟩, .string ⟨#[]⟩, .string ⟨#[]⟩] 34) = W at hI hF b1 ⊢
  refine (HFO.out _).mono ?_
  rintro e w1 ⟨rfl, k1⟩
  have hF1 := hF.later k1
  have hI1 := hI.later k1
  have b2 := b1.trans (k1.mono b1.size)
  obtain ⟨c0, c1, c2, _, _, _⟩ := hF1.three
  clear hI hF b1 k1 HFO
  cases fo with
  | false =>
    have HE : Hid (T = .tuple #[itV 0 Rc.nil, .bool false]) := by rw [← HTT.out]; exact fiT_out (of_decide_eq_false HFK.out)
    obtain ⟨u0, u1, u2, u3, u4, u5, u6, u7, u8, v0, v1, v2, v3, v4, v5, v6, v7, v8⟩ := hI1.nine
    clear c0 c1 c2 hF1 hI1
    go_wp2
    refine bodyPost_ret (v := .tuple #[.agg #[.int .i64 0, .int .i64 0, .int .i64 0, .int .i64 0, .int .i64 0, .int .i64 0, .string ⟨#[]⟩, .string ⟨#[]⟩, .string ⟨#[]⟩], .bool false]) (by simp [results, Try.results18, go_sem, u0, u1, u2, u3, u4, u5, u6, u7, u8]) rfl ?_
    exact ⟨by rw [HE.out]; rfl, below_set9 b2 hl _ _ _ _ _ _ _ _ _⟩
  | true =>
    go_wp2_with fail
    clear c0 c1 c2
    refine (HRR.out _).mono ?_
    rintro e w2 ⟨rfl, k2⟩
    have hF2 := (hF1.later k2).later (belNew w2 (.cells #[.int .i64 kind, .int .i64 valid, .int .i64 uid, .int .i64 next, .int .i64 flags, .string user, .string name, .string text] 25))
    have hI2 := (hI1.later k2).later (belNew w2 (.cells #[.int .i64 kind, .int .i64 valid, .int .i64 uid, .int .i64 next, .int .i64 flags, .string user, .string name, .string text] 25))
    have hR2 := Box.new w2 #[.int .i64 kind, .int .i64 valid, .int .i64 uid, .int .i64 next, .int .i64 flags, .string user, .string name, .string text] 25
    have b3 := b2.trans (k2.mono b2.size)
    have b4 := b3.trans ((belNew w2 (.cells #[.int .i64 kind, .int .i64 valid, .int .i64 uid, .int .i64 next, .int .i64 flags, .string user, .string name, .string text] 25)).mono b3.size)
    obtain ⟨c0, c1, c2, _, _, _⟩ := hF2.three
    obtain ⟨y0, y1, y2, y3, y4, y5, y6, y7, _, _, _, _, _, _, _, _⟩ := hR2.eight
    obtain ⟨u0, u1, u2, u3, u4, u5, u6, u7, u8, v0, v1, v2, v3, v4, v5, v6, v7, v8⟩ := hI2.nine
    have BB := Lib.hid b4
    clear hF1 hI1 hF2 hI2 hR2 b2 b3 b4 k2 HRR
    rcases HW.out with ⟨rfl, hn⟩ | ⟨rfl, hy⟩
    · have HE : Hid (T = .tuple #[itV 0 Rc.nil, .bool false]) := by rw [← HTT.out]; exact fiT_none hn
      clear hn
      go_wp2
      refine bodyPost_ret (v := .tuple #[.agg #[.int .i64 0, .int .i64 0, .int .i64 0, .int .i64 0, .int .i64 0, .int .i64 0, .string ⟨#[]⟩, .string ⟨#[]⟩, .string ⟨#[]⟩], .bool false]) (by simp [results, Try.results18, go_sem, u0, u1, u2, u3, u4, u5, u6, u7, u8]) rfl ?_
      exact ⟨by rw [HE.out]; rfl, below_set9 BB.out hl _ _ _ _ _ _ _ _ _⟩
    · have HE : Hid (T = .tuple #[.agg #[.int .i64 seq, .int .i64 kind, .int .i64 valid, .int .i64 uid, .int .i64 next, .int .i64 flags, .string user, .string name, .string text], .bool true]) := by rw [← HTT.out]; exact fiT_some (of_decide_eq_true HFK.out) hy
      clear hy
      go_wp2
      refine bodyPost_ret (v := .tuple #[.agg #[.int .i64 seq, .int .i64 kind, .int .i64 valid, .int .i64 uid, .int .i64 next, .int .i64 flags, .string user, .string name, .string text], .bool true]) (by simp [results, Try.results18, go_sem, u0, u1, u2, u3, u4, u5, u6, u7, u8]) rfl ?_
      exact ⟨by rw [HE.out], below_set9 BB.out hl _ _ _ _ _ _ _ _ _⟩

end Go.Proofs.Ythlbokfajiahpaa
