/- Lower letters: LowWord of the model. -/
import Derived.Test.YtichbcpidkkblaaLinP
import Derived.Lib.ConvBytes
import Derived.WalkSmall
import Derived.Deep.Cut
namespace Go.Proofs.Ytichbcpidkkblaa
open Go.RowKit

/-- The bytes l stand in the block g, and may be written. -/
def BtAt (w : World) (g : Nat) (l : List UInt8) : Prop := ∀ (j : Nat) (b : UInt8), l[j]? = some b → w.cell? ⟨g, j, none⟩ = some (.int .u8 (b.toNat : Int)) ∧ w.frozen? ⟨g, j, none⟩ = false

theorem BtAt.set {w : World} {g : Nat} {l : List UInt8} (h : BtAt w g l) (i : Nat) (hi : i < l.length) (c : UInt8) : BtAt (w.setCell ⟨g, i, none⟩ (.int .u8 (c.toNat : Int))) g (l.set i c) := by
  intro j b hj
  have hlt : j < l.length := by have := (List.getElem?_eq_some_iff.1 hj).1; rwa [List.length_set] at this
  have hfr := (h j l[j] (List.getElem?_eq_getElem hlt)).2
  refine ⟨?_, by rw [World.frozen?_setCell]; exact hfr⟩
  by_cases hij : i = j
  · subst hij
    rw [List.getElem?_set_self hi] at hj
    rw [World.cell?_setCell_same _ _ _ (h i l[i] (List.getElem?_eq_getElem hi)).1, Option.some.inj hj]
  · rw [List.getElem?_set_ne hij] at hj
    rw [World.cell?_setCell_other _ _ _ _ (by intro e; exact hij (by injection e))]
    exact (h j b hj).1

theorem BtAt.toString {w : World} {g : Nat} {l : List UInt8} (h : BtAt w g l) (cap n : Nat) (hn : l.length = n) :
    (convert 22 9 (.slice (some ⟨g, 0, none⟩) n cap)).run Try.prog w = .ok (.string ⟨l.toArray⟩) w := by
  subst hn
  refine run_convert_bytes_back (P := Try.prog) w 22 9 5 ⟨g, 0, none⟩ cap l Try.underlying22 Try.underlying5 Try.underlying9 fun j hj => ?_
  rw [Addr.add_lit, Nat.zero_add]
  have := (h j l[j] (List.getElem?_eq_getElem hj)).1
  simpa [hj] using this

theorem ba_self (s : ByteArray) : (⟨s.data.toList.toArray⟩ : ByteArray) = s := by obtain ⟨⟨l⟩⟩ := s; rfl

/-- The bytes of a text, in the row that []byte makes of it. -/
theorem btAt_new (w : World) (l : List UInt8) : BtAt (Lib.bytesWorld w 5 ⟨l.toArray⟩) w.heap.size l := by
  intro j b hj
  have hlt : j < l.length := (List.getElem?_eq_some_iff.1 hj).1
  refine ⟨?_, ?_⟩
  · have := Lib.bytesWorld_cell w 5 ⟨l.toArray⟩ j (by simpa [ByteArray.size] using hlt)
    rw [this]
    simp [List.getD, hj]
  · have h : j < (Lib.bytesCells w 5 ⟨l.toArray⟩).size := by simp [Lib.bytesCells, ByteArray.size]; omega
    unfold World.frozen?
    rw [Lib.bytesWorld_at_new]
    simp
    have h' := h
    simp [Lib.bytesCells, ByteArray.size] at h' ⊢
    omega

theorem below_bt (w : World) (s : ByteArray) : Below w.heap.size w (Lib.bytesWorld w 5 s) :=
  (Below.refl _ _).grown (⟨rfl, rfl, rfl, by rw [Lib.bytesWorld_size]; omega, fun k hk _ => Lib.bytesWorld_at_old w 5 s k hk⟩ : w.grownBy (Lib.bytesWorld w 5 s) none) (Nat.le_refl _) (fun k hk => by cases hk)

/-- So many bytes are lower letters already. -/
def lowL (l : List UInt8) (i : Nat) : List UInt8 := (l.take i).map lowB ++ l.drop i
theorem lowL_len (l : List UInt8) (i : Nat) (hi : i ≤ l.length) : (lowL l i).length = l.length := by simp [lowL]; omega
theorem lowL_at {l : List UInt8} {i : Nat} (hi : i < l.length) : (lowL l i)[i]? = some l[i] := by
  have h : ((l.take i).map lowB).length = i := by simp; omega
  unfold lowL
  rw [List.getElem?_append_right (by omega), h, Nat.sub_self, List.getElem?_drop, Nat.add_zero]
  exact List.getElem?_eq_getElem hi
theorem lowL_next {l : List UInt8} {i : Nat} (hi : i < l.length) : lowL l (i + 1) = (lowL l i).set i (lowB l[i]) := by
  have h : ((l.take i).map lowB).length = i := by simp; omega
  unfold lowL
  rw [List.set_append_right _ _ (by omega), h, Nat.sub_self, List.take_succ_eq_append_getElem hi, List.map_append, List.append_assoc, List.drop_eq_getElem_cons hi]
  rfl
theorem lowL_all (l : List UInt8) : lowL l l.length = l.map lowB := by simp [lowL]
theorem lowB_up {b : UInt8} (h1 : 65 ≤ b.toNat) (h2 : b.toNat ≤ 90) : ((lowB b).toNat : Int) = (b.toNat : Int) + 32 := by
  rw [lowB, if_pos ⟨h1, h2⟩, UInt8.toNat_add]
  have : (32 : UInt8).toNat = 32 := rfl
  omega

set_option maxRecDepth 100000 in
set_option maxHeartbeats 4000000 in
theorem specLowWord_any (s : ByteArray) (w : World) (hs : s.size ≤ 1099511627776) :
    Calls Try.prog 19 #[.string s] w fun e w' => e = .returned (.string (lowW s)) ∧ Below w.heap.size w w' := by
  have hconv : ∀ wx, (convert 9 22 (.string s)).run Try.prog wx = .ok (.slice (some ⟨wx.heap.size, 0, none⟩) s.size (grownCap wx s.size 0 5)) (Lib.bytesWorld wx 5 s) :=
    fun wx => Lib.run_convert_string_bytes (P := Try.prog) wx 9 22 5 s Try.underlying9 Try.underlying22 Try.underlying5
  have hb := below_bt w s
  have hat := btAt_new w s.data.toList
  rw [ba_self] at hat
  have hlen : s.data.toList.length = s.size := by rw [Array.length_toList]; rfl
  obtain ⟨l, hl⟩ : ∃ l, s.data.toList = l := ⟨_, rfl⟩
  have hlw : lowW s = ⟨(l.map lowB).toArray⟩ := by unfold lowW; rw [hl]
  rw [hlw]
  rw [hl] at hat hlen
  clear hl hlw
  go_enter Try.func19, Try.ntmps19
  go_upto_region 2 with fail
  clear hconv
  generalize grownCap w s.size 0 5 = C
  generalize Lib.bytesWorld w 5 s = w1 at *
  obtain ⟨g, hg⟩ : ∃ g, w.heap.size = g := ⟨_, rfl⟩
  have HG := Lib.hid hg
  rw [hg] at hat hb ⊢
  clear hg
  generalize s.size = n at *
  have HL := Lib.hid hlen
  go_wp2
  go_loopw [4] (fun iv wr => ∃ i : Nat, i ≤ n ∧ iv = .int .i64 (i : Int) ∧ BtAt wr g (lowL l i) ∧ Below g w wr) (fun iv _ => n - (intOf iv).toNat)
  case atStart => exact ⟨0, by omega, rfl, by simpa [lowL] using hat, hb⟩
  case round =>
    obtain ⟨i, hi, rfl, hA, hB⟩ := hrel
    have HA := Lib.hid hA
    have HB := Lib.hid hB
    clear hA hB hat hb
    by_cases hlt : i < n
    · have hi0 : (0 : Int) ≤ (i : Int) := by omega
      have hi1 : (i : Int) < (n : Int) := by omega
      have hil : i < l.length := by have := HL.out; omega
      obtain ⟨p0, f0⟩ := HA.out i _ (lowL_at hil)
      have HST : Hid (BtAt (wr.setCell ⟨g, i, none⟩ (.int .u8 ((lowB l[i]).toNat : Int))) g (lowL l (i + 1))) := by
        rw [lowL_next hil]
        exact HA.out.set i (by rw [lowL_len l i (by omega)]; exact hil) _
      have HNO : Hid (¬ (65 ≤ l[i].toNat ∧ l[i].toNat ≤ 90) → lowL l (i + 1) = lowL l i) := fun h => by
        rw [lowL_next hil, lowB, if_neg h]
        exact List.ext_getElem? fun j => by
          by_cases c : i = j
          · subst c; rw [List.getElem?_set_self (by rw [lowL_len l i (by omega)]; exact hil), lowL_at hil]
          · rw [List.getElem?_set_ne c]
      have HUP : Hid (65 ≤ l[i].toNat → l[i].toNat ≤ 90 → ((lowB l[i]).toNat : Int) = (l[i].toNat : Int) + 32) := fun a b => lowB_up a b
      have HLI := Lib.hid hil
      generalize l[i] = b at *
      generalize lowB b = c at *
      by_cases u1 : 65 ≤ b.toNat
      · have v1 : (65 : Int) ≤ (b.toNat : Int) := by omega
        by_cases u2 : b.toNat ≤ 90
        · have v2 : (b.toNat : Int) ≤ 90 := by omega
          have hc := HUP.out u1 u2
          rw [hc] at HST
          have hw : IntKind.u8.wrap ((b.toNat : Int) + 32) = (b.toNat : Int) + 32 := IntWalk.u8_in _ ⟨by omega, by omega⟩
          have HBS := Lib.hid (HB.out.setCell (p := ⟨g, i, none⟩) (Nat.le_refl _) (.int .u8 ((b.toNat : Int) + 32)))
          clear hc u1 u2 hil
          generalize (b.toNat : Int) = y at *
          go_wp2
          go_roundw
          case rel => exact ⟨i + 1, by omega, by go_num, HST.out, HBS.out⟩
          case measure => simp [intOf]; omega
        · have v2 : ¬ ((b.toNat : Int) ≤ 90) := by omega
          have HK : Hid (BtAt wr g (lowL l (i + 1))) := by show BtAt wr g (lowL l (i + 1)); rw [HNO.out (fun h => u2 h.2)]; exact HA.out
          clear u1 u2 hil
          generalize (b.toNat : Int) = y at *
          go_wp2
          go_roundw
          case rel => exact ⟨i + 1, by omega, by go_num, HK.out, HB.out⟩
          case measure => simp [intOf]; omega
      · have v1 : ¬ ((65 : Int) ≤ (b.toNat : Int)) := by omega
        have HK : Hid (BtAt wr g (lowL l (i + 1))) := by show BtAt wr g (lowL l (i + 1)); rw [HNO.out (fun h => u1 h.1)]; exact HA.out
        clear u1 hil
        generalize (b.toNat : Int) = y at *
        go_wp2
        go_roundw
        case rel => exact ⟨i + 1, by omega, by go_num, HK.out, HB.out⟩
        case measure => simp [intOf]; omega
    · have e : lowL l i = l.map lowB := by rw [← lowL_all, show i = l.length by have := HL.out; omega]
      have hcv := (HA.out.toString C n (by rw [lowL_len l i (by have := HL.out; omega)]; exact HL.out))
      rw [e] at hcv
      clear e
      go_wp2
      go_ret
      exact ⟨rfl, by rw [HG.out]; exact HB.out⟩

end Go.Proofs.Ytichbcpidkkblaa
