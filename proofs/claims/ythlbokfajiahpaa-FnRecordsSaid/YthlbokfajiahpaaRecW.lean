/- Records: what the program's ReadRec hands back. -/
import Derived.Test.YthlbokfajiahpaaRecV
namespace Go.Proofs.Ythlbokfajiahpaa
open Go.RowKit

set_option maxRecDepth 100000 in
set_option maxHeartbeats 1500000 in
theorem implReadRec_any (t : ByteArray) (w : World) (hs : t.size ≤ 1099511627776) :
    Calls Try.prog 12 #[.string t] w fun e w' => e = .returned (rrT t) ∧ Below w.heap.size w w' := by
  have hRA := fun wx => readAnyRec_any t wx hs
  obtain ⟨T, hTT⟩ : ∃ T, rrT t = T := ⟨_, rfl⟩
  have HTT := Lib.hid hTT
  rw [hTT]
  clear hTT
  have b0 : Below w.heap.size w (w.alloc (.cells #[.int .i64 0, .int .i64 0, .int .i64 0, .int .i64 0, .int .i64 0, .string ⟨#[]⟩, .string ⟨#[]⟩, .string ⟨#[]⟩] 25)) := belNew _ _
  have hI := Box.new w #[.int .i64 0, .int .i64 0, .int .i64 0, .int .i64 0, .int .i64 0, .string ⟨#[]⟩, .string ⟨#[]⟩, .string ⟨#[]⟩] 25
  rcases hp : prs t with _ | r
  · have HE : Hid (T = .tuple #[Rc.nil.v, .bool false]) := by rw [← HTT.out]; exact rrT_none (rrO_bad hp)
    rw [raT_none hp] at hRA
    have HRA : Hid (∀ wx, Calls Try.prog 50 #[.string t] wx fun e w' => e = .returned (.tuple #[.agg #[.int .i64 0, .int .i64 0, .int .i64 0, .int .i64 0, .int .i64 0, .string ⟨#[]⟩, .string ⟨#[]⟩, .string ⟨#[]⟩], .bool false]) ∧ Below wx.heap.size wx w') := hRA
    clear hRA hp HTT
    go_enter Try.func12, Try.ntmps12
    go_wp2_with fail
    generalize w.alloc (.cells #[.int .i64 0, .int .i64 0, .int .i64 0, .int .i64 0, .int .i64 0, .string ⟨#[]⟩, .string ⟨#[]⟩, .string ⟨#[]⟩] 25) = W at hI b0 ⊢
    refine (HRA.out _).mono ?_
    rintro e w1 ⟨rfl, k1⟩
    have b1 := b0.trans (k1.mono b0.size)
    have b2 := b1.trans ((belNew w1 (.cells #[.int .i64 0, .int .i64 0, .int .i64 0, .int .i64 0, .int .i64 0, .string ⟨#[]⟩, .string ⟨#[]⟩, .string ⟨#[]⟩] 25)).mono b1.size)
    obtain ⟨u0, u1, u2, u3, u4, u5, u6, u7, v0, v1, v2, v3, v4, v5, v6, v7⟩ := ((hI.later k1).later (belNew w1 (.cells #[.int .i64 0, .int .i64 0, .int .i64 0, .int .i64 0, .int .i64 0, .string ⟨#[]⟩, .string ⟨#[]⟩, .string ⟨#[]⟩] 25))).eight
    clear hI b0 b1 k1 HRA
    go_wp2
    refine bodyPost_ret (v := .tuple #[.agg #[.int .i64 0, .int .i64 0, .int .i64 0, .int .i64 0, .int .i64 0, .string ⟨#[]⟩, .string ⟨#[]⟩, .string ⟨#[]⟩], .bool false]) (by simp [results, Try.results12, go_sem, u0, u1, u2, u3, u4, u5, u6, u7]) rfl ?_
    exact ⟨by rw [HE.out]; rfl, below_set8 b2 (Nat.le_refl _) _ _ _ _ _ _ _ _⟩
  · rw [raT_some hp] at hRA
    have hRT := fun wx => implRecText_any r wx
    obtain ⟨bk, o, hT, hE⟩ := rd_end (t := t) (r := r) (d := false) hp
    rw [hT] at hRT
    obtain ⟨eq, hq⟩ : ∃ eq, decide (bk = t) = eq := ⟨_, rfl⟩
    rw [hq] at hE
    have qb : (bk.toList == t.toList) = eq := by rw [ba_beq, hq]
    rw [HTT.out] at hE
    have HE := Lib.hid hE
    obtain ⟨kind, valid, uid, next, flags, user, name, text⟩ := r
    unfold Rc.v at hRA hRT
    simp only at hRA hRT
    have HRA := Lib.hid hRA
    have HRT := Lib.hid hRT
    clear hRA hRT hp hT hq hE HTT
    go_enter Try.func12, Try.ntmps12
    go_wp2_with fail
    generalize w.alloc (.cells #[.int .i64 0, .int .i64 0, .int .i64 0, .int .i64 0, .int .i64 0, .string ⟨#[]⟩, .string ⟨#[]⟩, .string ⟨#[]⟩] 25) = W at hI b0 ⊢
    refine (HRA.out _).mono ?_
    rintro e w1 ⟨rfl, k1⟩
    have b1 := b0.trans (k1.mono b0.size)
    have b2 := b1.trans ((belNew w1 (.cells #[.int .i64 kind, .int .i64 valid, .int .i64 uid, .int .i64 next, .int .i64 flags, .string user, .string name, .string text] 25)).mono b1.size)
    have hI2 := (hI.later k1).later (belNew w1 (.cells #[.int .i64 kind, .int .i64 valid, .int .i64 uid, .int .i64 next, .int .i64 flags, .string user, .string name, .string text] 25))
    have hR2 := Box.new w1 #[.int .i64 kind, .int .i64 valid, .int .i64 uid, .int .i64 next, .int .i64 flags, .string user, .string name, .string text] 25
    obtain ⟨y0, y1, y2, y3, y4, y5, y6, y7, _, _, _, _, _, _, _, _⟩ := hR2.eight
    clear hI b0 b1 k1 HRA
    go_wp2_with fail
    clear y0 y1 y2 y3 y4 y5 y6 y7
    generalize w1.alloc (.cells #[.int .i64 kind, .int .i64 valid, .int .i64 uid, .int .i64 next, .int .i64 flags, .string user, .string name, .string text] 25) = X at hI2 hR2 b2 ⊢
    refine (HRT.out _).mono ?_
    rintro e w2 ⟨rfl, k2⟩
    obtain ⟨y0, y1, y2, y3, y4, y5, y6, y7, _, _, _, _, _, _, _, _⟩ := (hR2.later k2).eight
    obtain ⟨u0, u1, u2, u3, u4, u5, u6, u7, v0, v1, v2, v3, v4, v5, v6, v7⟩ := (hI2.later k2).eight
    have BB := Lib.hid (b2.trans (k2.mono b2.size))
    clear hI2 hR2 b2 k2 HRT
    cases o with
    | false =>
      go_wp2
      refine bodyPost_ret (v := .tuple #[.agg #[.int .i64 0, .int .i64 0, .int .i64 0, .int .i64 0, .int .i64 0, .string ⟨#[]⟩, .string ⟨#[]⟩, .string ⟨#[]⟩], .bool false]) (by simp [results, Try.results12, go_sem, u0, u1, u2, u3, u4, u5, u6, u7]) rfl ?_
      exact ⟨by rw [HE.out]; rfl, below_set8 BB.out (Nat.le_refl _) _ _ _ _ _ _ _ _⟩
    | true =>
      cases eq with
      | false =>
        go_wp2
        refine bodyPost_ret (v := .tuple #[.agg #[.int .i64 0, .int .i64 0, .int .i64 0, .int .i64 0, .int .i64 0, .string ⟨#[]⟩, .string ⟨#[]⟩, .string ⟨#[]⟩], .bool false]) (by simp [results, Try.results12, go_sem, u0, u1, u2, u3, u4, u5, u6, u7]) rfl ?_
        exact ⟨by rw [HE.out]; rfl, below_set8 BB.out (Nat.le_refl _) _ _ _ _ _ _ _ _⟩
      | true =>
        go_wp2
        refine bodyPost_ret (v := .tuple #[.agg #[.int .i64 kind, .int .i64 valid, .int .i64 uid, .int .i64 next, .int .i64 flags, .string user, .string name, .string text], .bool true]) (by simp [results, Try.results12, go_sem, u0, u1, u2, u3, u4, u5, u6, u7]) rfl ?_
        exact ⟨by rw [HE.out]; rfl, below_set8 BB.out (Nat.le_refl _) _ _ _ _ _ _ _ _⟩

end Go.Proofs.Ythlbokfajiahpaa
