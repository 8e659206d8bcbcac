/- The words of a line: WordsOf of the model. -/
import Derived.Test.YtnaaebbinmpjeaaParts
import Derived.Test.YtnaaebbinmpjeaaMarksW
import Derived.Test.YtnaaebbinmpjeaaKitR2
namespace Go.Proofs.Ytnaaebbinmpjeaa
open Go.RowKit

/-- What WordsOf hands back. -/
def WdR (s : ByteArray) (l : List ByteArray) : Prop := (isLine s ∧ l = partsOf s) ∨ (¬ isLine s ∧ l = [])
theorem WdR.one {s : ByteArray} {l l' : List ByteArray} (h : WdR s l) (h' : WdR s l') : l' = l := by
  rcases h with ⟨a, rfl⟩ | ⟨a, rfl⟩ <;> rcases h' with ⟨b, rfl⟩ | ⟨b, rfl⟩
  · rfl
  · exact absurd a b
  · exact absurd b a
  · rfl
theorem WdR.len {s : ByteArray} {l : List ByteArray} (h : WdR s l) : l.length ≤ 10 := by
  rcases h with ⟨a, rfl⟩ | ⟨_, rfl⟩
  · exact a.2.2
  · simp
theorem WdR.of {s : ByteArray} {l : List ByteArray} {f : Bool} (h : PoT s l f) : (f = true → WdR s l) ∧ (f = false → WdR s []) := by
  rcases h with ⟨a, rfl, rfl⟩ | ⟨a, rfl, rfl⟩
  · exact ⟨fun _ => .inl ⟨a, rfl⟩, fun h => absurd h (by simp)⟩
  · exact ⟨fun h => absurd h (by simp), fun _ => .inr ⟨a, rfl⟩⟩

set_option maxRecDepth 100000 in
set_option maxHeartbeats 1000000 in
theorem specWordsOf_any (s : ByteArray) (w : World) (hs : s.size ≤ 1099511627776) :
    Calls Try.prog 9 #[.string s] w fun e w' => ∃ v l, e = .returned v ∧ WdR s l ∧ SBuf w.heap.size w w' v l := by
  go_enter Try.func9, Try.ntmps9
  go_wp2_with fail
  refine (specPartsOf_any s _ hs).mono ?_
  rintro e w1 ⟨v1, l, f, rfl, hp, hb⟩
  have hl : l.length ≤ 10 := by
    rcases hp with ⟨a, rfl, _⟩ | ⟨_, rfl, _⟩
    · exact a.2.2
    · simp
  obtain ⟨hp1, hp2⟩ := WdR.of hp
  cases f with
  | false =>
    have HP := Lib.hid (hp2 rfl)
    have HF := Lib.hid ((SBuf.fresh w1).under hb.bel)
    clear hp1 hp2 hp hb
    go_wp2
    go_ret
    exact ⟨_, _, rfl, HP.out, HF.out⟩
  | true =>
    have HP := Lib.hid (hp1 rfl)
    have hx := hb.toR.here
    have hk : Below w1.heap.size w1 (w1.alloc (.cells #[] 9)) := (Below.refl _ _).alloc (Nat.le_refl _) _
    have HX := Lib.hid (hx.later hk).here
    have HW := Lib.hid (hb.bel)
    have HF := Lib.hid (RBuf.fresh strE w1)
    clear hp1 hp2 hp hb hx
    go_wp2_with (at_builtin; refine wpList_append_rows rfl _ _ strE rfl w1.heap.size _ [] rfl HF.out.here _ _ l rfl HX.out (by show _ * 17 ≤ _; simp only [List.length_nil]; omega) ?_; intro v' w2 hr hg ho)
    go_ret
    rw [List.nil_append] at hr
    have hb2 : Below w1.heap.size w1 w2 := hk.grown hg (by simp) (fun k e => by have h9 : w1.heap.size = k := Option.some.inj e; omega)
    exact ⟨_, _, rfl, HP.out, ((⟨hr.own, hb2, hr.le⟩ : RBuf strE w1.heap.size w1 w2 v' l).toS).under HW.out⟩

end Go.Proofs.Ytnaaebbinmpjeaa
