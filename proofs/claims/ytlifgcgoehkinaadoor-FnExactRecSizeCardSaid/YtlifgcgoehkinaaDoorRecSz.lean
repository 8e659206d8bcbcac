/- RecSize of the model and of the program. -/
import Derived.Test.YtlifgcgoehkinaaDoorItemI
import Derived.Test.YtlifgcgoehkinaaDoorFrameT
namespace Go.Proofs.YtlifgcgoehkinaaDoor
open Go.RowKit

/-- The frame that ItemFrame hands back, the empty one where there is none. -/
def rzF (r : Rc) : Fr := if r.ok ∧ (⟨1000000000, 1000000000, r.tx⟩ : Fr).ok then ⟨1000000000, 1000000000, r.tx⟩ else ⟨0, 0, ⟨#[]⟩⟩
def rzO (r : Rc) : Nat := fsz (rzF r)
theorem rzF_form (r : Rc) : ∃ b, ifT 1000000000 r 1000000000 = .tuple #[(rzF r).v, .bool b] ∧ (rzF r).body.size ≤ 1099511627776 ∧ (b = false → fsz (rzF r) = 0) := by
  unfold rzF ifT
  by_cases h : r.ok ∧ (⟨1000000000, 1000000000, r.tx⟩ : Fr).ok
  · rw [if_pos h, if_pos h]
    exact ⟨true, rfl, by have := Rc.tx_le h.1; simp only; omega, fun c => by cases c⟩
  · rw [if_neg h, if_neg h]
    exact ⟨false, rfl, by decide, fun _ => by unfold fsz; rw [if_neg]; intro c; have := c.1.1; simp at this⟩

set_option maxRecDepth 100000 in
set_option maxHeartbeats 1500000 in
theorem specRecSize_any (r : Rc) (w : World) (h1 : r.user.size ≤ 1099511627776) (h2 : r.name.size ≤ 1099511627776) (h3 : r.text.size ≤ 1099511627776) :
    Calls Tryd.prog 5 #[r.v] w fun e w' => e = .returned (.int .i64 (rzO r : Int)) ∧ Below w.heap.size w w' := by
  have HIF := Lib.hid (fun X => specItemFrame_any 1000000000 r 1000000000 X h1 h2 h3)
  obtain ⟨b, hb, hsz, hz⟩ := rzF_form r
  rw [hb] at HIF
  have HFS := Lib.hid (fun X => specFrameSize_any (rzF r) X hsz)
  have HZ := Lib.hid hz
  obtain ⟨N, hN⟩ : ∃ N, fsz (rzF r) = N := ⟨_, rfl⟩
  rw [hN] at HFS HZ
  have HN : Hid (rzO r = N) := hN
  rw [HN.out]
  obtain ⟨G, Q, B, hf⟩ : ∃ (G Q : Int) (B : ByteArray), rzF r = ⟨G, Q, B⟩ := ⟨_, _, _, rfl⟩
  rw [hf] at HIF HFS
  unfold Fr.v at HIF HFS
  simp only at HIF HFS
  unfold itV at HIF
  clear hb hsz hz hN hf h1 h2 h3
  have b0 := belNew w (.cells #[.int .i64 r.kind, .int .i64 r.valid, .int .i64 r.uid, .int .i64 r.next, .int .i64 r.flags, .string r.user, .string r.name, .string r.text] 26)
  unfold Rc.v
  go_enter Tryd.func5, Tryd.ntmps5
  go_wp2_with fail
  generalize w.alloc (.cells #[.int .i64 r.kind, .int .i64 r.valid, .int .i64 r.uid, .int .i64 r.next, .int .i64 r.flags, .string r.user, .string r.name, .string r.text] 26) = W at b0 ⊢
  refine (HIF.out _).mono ?_
  rintro e w1 ⟨rfl, k1⟩
  have b1 := b0.trans (k1.mono b0.size)
  have b2 := Lib.hid (b1.trans ((belNew w1 (.cells #[.int .i64 G, .int .i64 Q, .string B] 30)).mono b1.size))
  clear HIF b0 k1 b1
  cases b with
  | false =>
    have HZ0 : Hid (N = 0) := HZ.out rfl
    go_wp2_with fail
    trace_state
    go_ret
    exact ⟨by rw [HZ0.out]; first | done | rfl | simp, b2.out⟩
  | true =>
    go_wp2_with fail
    trace_state
    refine (HFS.out _).mono ?_
    rintro e w2 ⟨rfl, k2⟩
    have b3 := Lib.hid (b2.out.trans (k2.mono b2.out.size))
    go_wp2
    go_ret
    exact ⟨rfl, b3.out⟩

set_option maxRecDepth 100000 in
set_option maxHeartbeats 1500000 in
theorem implRecSize_any (r : Rc) (w : World) (ht : SumTab w) :
    Calls Tryd.prog 7 #[r.v] w fun e w' => e = .returned (.int .i64 (rzO r : Int)) ∧ Below w.heap.size w w' := by
  have HIF := Lib.hid (fun X => implItemFrame_any 1000000000 r 1000000000 X)
  obtain ⟨b, hb, hsz, hz⟩ := rzF_form r
  rw [hb] at HIF
  have HFS := Lib.hid (fun X => implFrameSize_any (rzF r) X hsz)
  obtain ⟨N, hN⟩ : ∃ N, fsz (rzF r) = N := ⟨_, rfl⟩
  rw [hN] at HFS
  have HN : Hid (rzO r = N) := hN
  rw [HN.out]
  obtain ⟨G, Q, B, hf⟩ : ∃ (G Q : Int) (B : ByteArray), rzF r = ⟨G, Q, B⟩ := ⟨_, _, _, rfl⟩
  rw [hf] at HIF HFS
  unfold Fr.v at HIF HFS
  simp only at HIF HFS
  unfold itV at HIF
  have HT : Hid (∀ x, Below w.heap.size w x → SumTab x) := fun x hx => ht.later hx
  clear hb hsz hz hN hf ht
  have b0 := belNew w (.cells #[.int .i64 r.kind, .int .i64 r.valid, .int .i64 r.uid, .int .i64 r.next, .int .i64 r.flags, .string r.user, .string r.name, .string r.text] 26)
  unfold Rc.v
  go_enter Tryd.func7, Tryd.ntmps7
  go_wp2_with fail
  generalize w.alloc (.cells #[.int .i64 r.kind, .int .i64 r.valid, .int .i64 r.uid, .int .i64 r.next, .int .i64 r.flags, .string r.user, .string r.name, .string r.text] 26) = W at b0 ⊢
  refine (HIF.out _).mono ?_
  rintro e w1 ⟨rfl, k1⟩
  have b1 := b0.trans (k1.mono b0.size)
  have b2 := Lib.hid (b1.trans ((belNew w1 (.cells #[.int .i64 G, .int .i64 Q, .string B] 30)).mono b1.size))
  clear HIF b0 k1 b1
  go_wp2_with fail
  trace_state
  refine (HFS.out _ (HT.out _ b2.out)).mono ?_
  rintro e w2 ⟨rfl, k2⟩
  have b3 := Lib.hid (b2.out.trans (k2.mono b2.out.size))
  go_wp2
  go_ret
  exact ⟨rfl, b3.out⟩

end Go.Proofs.YtlifgcgoehkinaaDoor
