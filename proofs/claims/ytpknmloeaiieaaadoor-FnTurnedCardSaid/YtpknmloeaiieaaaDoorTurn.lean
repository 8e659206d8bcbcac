/- A sealed text is unsealed as it was; one byte turned, it is not. -/
import Derived.Test.YtpknmloeaiieaaaDoorUnseal
namespace Go.Proofs.YtpknmloeaiieaaaDoor
open Go.RowKit

/-- A sealed text as a list. -/
def sealL (l : List UInt8) : List UInt8 := l ++ four (sumL 4294967295 l)
theorem sealL_length (l : List UInt8) : (sealL l).length = l.length + 4 := by simp [sealL, four]

theorem seal_eq (s : ByteArray) : s ++ fourOf s = ⟨(sealL s.data.toList).toArray⟩ := by
  obtain ⟨⟨l⟩⟩ := s
  exact ByteArray.mk_append_mk l _

theorem unT_mk (t l m : List UInt8) (ht : t = l ++ m) (hm : m.length = 4) (hl : l.length ≤ 20000) :
    unT ⟨t.toArray⟩ = if four (sumL 4294967295 l) = m then .tuple #[.string ⟨l.toArray⟩, .bool true] else .tuple #[.string ⟨#[]⟩, .bool false] := by
  have hsz : (ByteArray.mk t.toArray).size = l.length + 4 := by simp [ByteArray.size, ht, hm]
  have e1 : (ByteArray.mk t.toArray).extract 0 (l.length + 4 - 4) = ⟨l.toArray⟩ := by
    rw [ByteArray.extract_mk, ht, show l.length + 4 - 4 - 0 = l.length by omega, List.drop_zero, List.take_left]
  have e2 : (ByteArray.mk t.toArray).extract (l.length + 4 - 4) (l.length + 4) = ⟨m.toArray⟩ := by
    rw [ByteArray.extract_mk, ht, show l.length + 4 - 4 = l.length by omega, show l.length + 4 - l.length = m.length by omega, List.drop_left, List.take_length]
  rw [unT, hsz, e1, e2]
  have e3 : fourOf ⟨l.toArray⟩ = ⟨(four (sumL 4294967295 l)).toArray⟩ := rfl
  rw [e3]
  by_cases h : four (sumL 4294967295 l) = m
  · rw [if_pos h, if_pos ⟨by omega, by omega, by rw [h]⟩]
  · rw [if_neg h, if_neg]
    intro ⟨_, _, h3⟩
    apply h
    have := congrArg (fun b : ByteArray => b.data.toList) h3
    simpa using this

theorem unT_back (s : ByteArray) (h : s.size ≤ 20000) : unT (s ++ fourOf s) = .tuple #[.string s, .bool true] := by
  rw [seal_eq, unT_mk (sealL s.data.toList) s.data.toList (four (sumL 4294967295 s.data.toList)) rfl (four_length _) (by simpa using h), if_pos rfl]

theorem unT_turned (l : List UInt8) (hl : l.length ≤ 20000) (i : Nat) (hi : i < (sealL l).length) (b : UInt8) (hb : b ≠ (sealL l)[i]) :
    unT ⟨((sealL l).set i b).toArray⟩ = .tuple #[.string ⟨#[]⟩, .bool false] := by
  have ht := turned l i hi b hb
  have hlen : ((sealL l).set i b).length = l.length + 4 := by rw [List.length_set, sealL_length]
  have hk : (((sealL l).set i b).take l.length).length = l.length := by rw [List.length_take, hlen]; omega
  rw [unT_mk _ (((sealL l).set i b).take l.length) (((sealL l).set i b).drop l.length) (List.take_append_drop _ _).symm (by rw [List.length_drop, hlen]; omega) (by rw [hk]; exact hl), if_neg]
  intro h
  exact ht h.symm

/-- A byte with something put upon it is another. -/
theorem xor_other (x z : Nat) (hx : x < 256) (hz : 0 < z) (hz2 : z < 256) : ∃ c : UInt8, c.toNat = x ^^^ z ∧ ∀ b : UInt8, b.toNat = x → c ≠ b := by
  have h1 : x ^^^ z < 2 ^ 8 := Nat.xor_lt_two_pow (n := 8) hx hz2
  refine ⟨UInt8.ofNat (x ^^^ z), ?_, ?_⟩
  · rw [UInt8.toNat_ofNat']; omega
  · intro b hb e
    have e2 : x ^^^ z = x := by
      have := congrArg UInt8.toNat e
      rw [UInt8.toNat_ofNat', hb] at this
      omega
    have e3 : x ^^^ z = x ^^^ 0 := by rw [e2, Nat.xor_zero]
    have := xor_left_inj e3
    omega

/-- The bytes l stand in the block g. -/
def BytesAt (w : World) (g : Nat) (l : List UInt8) : Prop := ∀ j b, l[j]? = some b → w.cell? ⟨g, j, none⟩ = some (.int .u8 (b.toNat : Int))

theorem BytesAt.set {w : World} {g : Nat} {l : List UInt8} (h : BytesAt w g l) (i : Nat) (hi : i < l.length) (c : UInt8) : BytesAt (w.setCell ⟨g, i, none⟩ (.int .u8 (c.toNat : Int))) g (l.set i c) := by
  intro j b hj
  by_cases hij : i = j
  · subst hij
    rw [List.getElem?_set_self hi] at hj
    rw [World.cell?_setCell_same _ _ _ (h i l[i] (List.getElem?_eq_getElem hi)), Option.some.inj hj]
  · rw [List.getElem?_set_ne hij] at hj
    rw [World.cell?_setCell_other _ _ _ _ (by intro e; exact hij (by injection e))]
    exact h j b hj

theorem BytesAt.toString {w : World} {g : Nat} {l : List UInt8} (h : BytesAt w g l) (cap : Nat) :
    (convert 22 9 (.slice (some ⟨g, 0, none⟩) l.length cap)).run Tryd.prog w = .ok (.string ⟨l.toArray⟩) w := by
  refine run_convert_bytes_back (P := Tryd.prog) w 22 9 5 ⟨g, 0, none⟩ cap l Tryd.underlying22 Tryd.underlying5 Tryd.underlying9 fun j hj => ?_
  rw [Addr.add_lit, Nat.zero_add]
  have := h j l[j] (List.getElem?_eq_getElem hj)
  simpa [hj] using this

/-- The bytes of a text, in the row that []byte makes of it. -/
theorem bytesAt_new (w : World) (l : List UInt8) : BytesAt (Lib.bytesWorld w 5 ⟨l.toArray⟩) w.heap.size l := by
  intro j b hj
  have hlt : j < l.length := (List.getElem?_eq_some_iff.1 hj).1
  have := Lib.bytesWorld_cell w 5 ⟨l.toArray⟩ j (by simpa [ByteArray.size] using hlt)
  rw [this]
  simp [List.getD, hj]

theorem bytes_loose (w : World) (s : ByteArray) (j : Nat) (hj : j < s.size) : (Lib.bytesWorld w 5 s).frozen? ⟨w.heap.size, j, none⟩ = false := by
  have h : j < (Lib.bytesCells w 5 s).size := by simp [Lib.bytesCells]; omega
  unfold World.frozen?
  rw [Lib.bytesWorld_at_new]
  simp
  omega

theorem below_bytes (w : World) (s : ByteArray) : Below w.heap.size w (Lib.bytesWorld w 5 s) :=
  (Below.refl _ _).grown (⟨rfl, rfl, rfl, by rw [Lib.bytesWorld_size]; omega, fun k hk _ => Lib.bytesWorld_at_old w 5 s k hk⟩ : w.grownBy (Lib.bytesWorld w 5 s) none) (Nat.le_refl _) (fun k hk => by cases hk)

end Go.Proofs.YtpknmloeaiieaaaDoor
