/- Texts of our own, joined. -/
import Derived.Test.YtklkhllkjnbhjaaGreatDoorJpx
import Derived.Test.YtklkhllkjnbhjaaGreatDoorJh
import Derived.Lib.AppendStr
/- Records: what the program's RecText hands back. -/
namespace Go.Proofs.YtklkhllkjnbhjaaGreatDoor
open Go.RowKit
set_option maxRecDepth 100000
set_option maxHeartbeats 8000000
theorem Buf.later {B : Nat} {w0 w w' : World} {v : Value} {l : List UInt8} (h : Buf B w0 w v l) (hb : Below w.heap.size w w') : Buf B w0 w' v l := by
  have hg : w.grownBy w' none := ⟨hb.os, hb.tape, hb.output, hb.size, fun k hk _ => hb.block k hk⟩; refine ⟨h.own.kept hg ?_, h.bel.trans (hb.mono h.le), Nat.le_trans h.le hb.size⟩; cases hv : v.ownBlock with
  | none => exact .inl rfl
  | some k => exact .inr (by simp)
theorem Buf.one (w : World) (x : Int) (b : UInt8) (h : x = (b.toNat : Int)) : Buf w.heap.size w (w.alloc (.cells #[.int .u8 x] 5)) (.slice (some ⟨w.heap.size, 0, none⟩) 1 1) [b] := by
  subst h; refine ⟨?_, (Below.refl _ _).alloc (Nat.le_refl _) _, by simp⟩; have := World.ownsRow_lit (base := w.heap.size) (e := 5) (size := 1) w #[.int .u8 (b.toNat : Int)] 1 (Nat.le_refl _) (by decide) (by simp); simpa [bytesV] using this
theorem wpList_append_text {w0 w : World} {ops : Array Oper} {rest : List Oper} {o : Oper} {a : Act} {Q : Exit → Act → World → Prop} (hgd : o.guard = none) (s x : Operand)
    (ho : o.op = .call { callee := .builtin .append, args := #[s, x], argTypes := #[22, 9] })
    (B : Nat) (v : Value) (l : List UInt8) (hs : a.eval s = v) (hb : Buf B w0 w v l) (t : ByteArray) (hx : a.eval x = .string t)
    (hlen : l.length + t.size ≤ 140737488355328)
    (h : ∀ v' w', Buf B w0 w' v' (l ++ t.data.toList) → wpList Tryz.prog ops Q rest (a.put o.dst v') w') : wpList Tryz.prog ops Q (o :: rest) a w := by
  obtain ⟨i0, hi, hz0, hz1, hz2⟩ := info_parts Tryz.info_u8; refine Lib.wpList_append_own_string (P := Tryz.prog) w hgd s x 22 9 ho B 5 i0 Tryz.underlying22 Tryz.underlying9 hi hz0 hz1 hz2 v l.length (bytesV l) hs hb.own t hx (by unfold maxLen; omega) hlen hb.le ?_; intro v' w' hown hgrow _; refine h v' w' ⟨?_, hb.bel.grown hgrow hb.le (fun k hk => (hb.own.lt k hk).1), Nat.le_trans hb.le hgrow.size⟩; have e1 : (l ++ t.data.toList).length = l.length + t.size := by rw [List.length_append, tl_len]
  have e2 : bytesV (l ++ t.data.toList) = bytesV l ++ Lib.strCells t := by simp [bytesV, Lib.strCells]
  rw [e1, e2]; exact hown
theorem ba_app (n : Nat) (t : ByteArray) : ((⟨(vt n).toArray⟩ : ByteArray) ++ t).data.toList = vt n ++ t.data.toList := by
  rw [ByteArray.data_append]; simp
def Rc.nAt (r : Rc) (k : Nat) : Int := [r.valid, r.uid, r.next, r.flags].getD k 0
def Rc.sAt (r : Rc) (k : Nat) : ByteArray := [r.user, r.name, r.text].getD k emp
def Rc.nt (r : Rc) (k : Nat) : List UInt8 := UInt8.ofNat r.kind.toNat :: (([r.valid, r.uid, r.next, r.flags].take k).flatMap fun n => vt n.toNat)
def Rc.st (r : Rc) (k : Nat) : List UInt8 := r.nt 4 ++ (([r.user, r.name, r.text].take k).flatMap fun s => vt s.size ++ s.data.toList)
theorem fourWays {k : Nat} (h : k < 4) : k = 0 ∨ k = 1 ∨ k = 2 ∨ k = 3 := by omega
theorem threeWays {k : Nat} (h : k < 3) : k = 0 ∨ k = 1 ∨ k = 2 := by omega
theorem Rc.nt_succ (r : Rc) {k : Nat} (h : k < 4) : r.nt (k + 1) = r.nt k ++ vt (r.nAt k).toNat := by
  rcases fourWays h with rfl | rfl | rfl | rfl <;> simp [Rc.nt, Rc.nAt]
theorem Rc.st_succ (r : Rc) {k : Nat} (h : k < 3) : r.st (k + 1) = r.st k ++ (vt (r.sAt k).size ++ (r.sAt k).data.toList) := by
  rcases threeWays h with rfl | rfl | rfl <;> simp [Rc.st, Rc.sAt]
theorem Rc.st_end (r : Rc) : r.st 3 = r.tl := by simp [Rc.st, Rc.nt, Rc.tl]
theorem Rc.nAt_le {r : Rc} (h : r.ok) {k : Nat} (hk : k < 4) : 0 ≤ r.nAt k ∧ r.nAt k ≤ 10000 := by
  obtain ⟨_, h2, h3, h4, h5, _⟩ := r.ok_small h; rcases fourWays hk with rfl | rfl | rfl | rfl <;> simp [Rc.nAt] <;> omega
theorem Rc.sAt_le {r : Rc} (h : r.ok) {k : Nat} (hk : k < 3) : (r.sAt k).size ≤ 100 := by
  obtain ⟨_, _, _, _, _, h6, h7, h8⟩ := r.ok_small h; rcases threeWays hk with rfl | rfl | rfl <;> simp [Rc.sAt] <;> omega
theorem Rc.nt_le {r : Rc} (h : r.ok) : ∀ k, k ≤ 4 → (r.nt k).length ≤ 1 + 2 * k
  | 0, _ => by simp [Rc.nt]
  | k + 1, hk => by
    have := Rc.nt_le h k (by omega)
    have h2 := Rc.nAt_le h (k := k) (by omega)
    have h3 := vt_two' (n := (r.nAt k).toNat) (by omega)
    rw [r.nt_succ (by omega), List.length_append]; omega
theorem Rc.st_le {r : Rc} (h : r.ok) : ∀ k, k ≤ 3 → (r.st k).length ≤ 9 + 102 * k
  | 0, _ => by have := Rc.nt_le h 4 (by omega); simp [Rc.st]; omega
  | k + 1, hk => by
    have := Rc.st_le h k (by omega)
    have h2 := Rc.sAt_le h (k := k) (by omega)
    have h3 := vt_two' (n := (r.sAt k).size) (by omega)
    rw [r.st_succ (by omega), List.length_append, List.length_append, tl_len]; omega
theorem index_n (r : Rc) (k : Nat) (h : k < 4) (w : World) : (Instr.index 89 (.agg #[.int .i64 r.valid, .int .i64 r.uid, .int .i64 r.next, .int .i64 r.flags]) (.int .i64 (k : Int))).run Tryz.prog w = .ok (.int .i64 (r.nAt k)) w := by
  rcases fourWays h with rfl | rfl | rfl | rfl <;> kernel_rfl
theorem index_s (r : Rc) (k : Nat) (h : k < 3) (w : World) : (Instr.index 170 (.agg #[.string r.user, .string r.name, .string r.text]) (.int .i64 (k : Int))).run Tryz.prog w = .ok (.string (r.sAt k)) w := by
  rcases threeWays h with rfl | rfl | rfl <;> kernel_rfl
theorem implRecText_any (r : Rc) (w : World) :
    Calls Tryz.prog 101 #[r.v] w fun e w' => e = .returned (rtT r) ∧ Below w.heap.size w w' := by
  have bx := Box.new w r.cs 33; have b0 : Below w.heap.size w (w.alloc (.cells r.cs 33)) := (Below.refl _ _).alloc (Nat.le_refl _) _; obtain ⟨c0, c1, c2, c3, c4, c5, c6, c7⟩ := bx.rec; have BX := Lib.hid bx; clear bx; have HO := Lib.hid (fun wx => implRecOk_any r wx); have hv : r.v = .agg #[.int .i64 r.kind, .int .i64 r.valid, .int .i64 r.uid, .int .i64 r.next, .int .i64 r.flags, .string r.user, .string r.name, .string r.text] := rfl; unfold Rc.cs at *; rw [hv]; go_enter Tryz.func101, Tryz.ntmps101
  go_wp2_with fail
  generalize w.alloc (.cells #[.int .i64 r.kind, .int .i64 r.valid, .int .i64 r.uid, .int .i64 r.next, .int .i64 r.flags, .string r.user, .string r.name, .string r.text] 33) = W at *; rw [← hv]; refine (HO.out _).mono ?_; rintro e w1 ⟨rfl, k1⟩; have b1 := b0.trans (k1.mono b0.size); have BX1 := BX.out.later k1; clear c0 c1 c2 c3 c4 c5 c6 c7 HO BX k1 b0; by_cases hok : r.ok
  · rw [decide_eq_true hok]
    have HT := Lib.hid (rtT_yes hok); have HOK := Lib.hid hok; obtain ⟨hk1, _⟩ := r.ok_small hok; have hkw := kind_wrap r.kind hk1.1 hk1.2; have hkb := kind_byte r.kind hk1.1 hk1.2; obtain ⟨c0, c1, c2, c3, c4, c5, c6, c7, _⟩ := BX1.eight; have hB := Buf.one w1 r.kind (UInt8.ofNat r.kind.toNat) hkb; have BX2 := BX1.later ((Below.refl w1.heap.size w1).alloc (Nat.le_refl _) (.cells #[.int .u8 r.kind] 5)); obtain ⟨d0, d1, d2, d3, d4, d5, d6, d7, _⟩ := BX2.eight; have HBX := Lib.hid BX1; clear BX1 BX2 hok hkb hk1; go_wp2; clear hkw c0 c1 c2 c3 c4 c5 c6 c7 d0 d1 d2 d3 d4 d5 d6 d7; go_loopw [4, 29] (fun v iv wr => ∃ k : Nat, k ≤ 4 ∧ iv = .int .i64 (k : Int) ∧ Buf w1.heap.size w1 wr v (r.nt k)) (fun _ iv _ => 4 - (intOf iv).toNat)
    case atStart => exact ⟨0, by omega, rfl, hB⟩
    case round =>
      obtain ⟨k, hk, rfl, hb⟩ := hrel; clear hB; by_cases hlt : k < 4
      · have hlt' : (k : Int) < 4 := by omega
        have hix := index_n r k hlt; have hn := Rc.nAt_le HOK.out hlt; have hl := Rc.nt_le HOK.out k hk; have HN := Lib.hid (r.nt_succ hlt); generalize r.nAt k = n at *; have h2 := vt_two' (n := n.toNat) (by omega); go_wp2_with (first | (go_at_call 124; refine (implVarText_any _ _).mono ?_; rintro e w2 ⟨rfl, hb2⟩; rw [varT_yes (by omega)]; have hbL := hb.later hb2) | (at_builtin; refine wpList_append_text rfl _ _ rfl _ _ _ rfl hbL _ rfl (by rw [← tl_len]; simp; omega) ?_; intro v' w3 hb3))
        go_roundw
        case rel => exact ⟨k + 1, by omega, by go_num, by rw [HN.out]; exact hb3⟩
        case measure => simp [intOf]; omega
      · have hk4 : k = 4 := by omega
        have hge : ¬ (k : Int) < 4 := (by omega); rw [hk4] at hb; clear hlt hk4 hk; obtain ⟨c0, c1, c2, c3, c4, c5, c6, c7, _⟩ := (HBX.out.under hb.bel HBX.out.lt).eight; go_wp2; clear c0 c1 c2 c3 c4 c5 c6 c7 hge; obtain ⟨wa, hwa⟩ : ∃ wa, wa = wr := ⟨_, rfl⟩; subst hwa; go_loopw [4, 48] (fun v iv wr => ∃ k : Nat, k ≤ 3 ∧ iv = .int .i64 (k : Int) ∧ Buf w1.heap.size w1 wr v (r.st k)) (fun _ iv _ => 3 - (intOf iv).toNat)
        case atStart => exact ⟨0, by omega, rfl, by have e : r.st 0 = r.nt 4 := by simp [Rc.st]
                                                    rw [e]; exact hb⟩
        case round =>
          obtain ⟨k, hk, rfl, hc⟩ := hrel; clear hb; by_cases hlt : k < 3
          · have hlt' : (k : Int) < 3 := by omega
            have hix := index_s r k hlt; have hn := Rc.sAt_le HOK.out hlt; have hl := Rc.st_le HOK.out k hk; have HN := Lib.hid (r.st_succ hlt); generalize r.sAt k = t at *; have h2 := vt_two' (n := t.size) (by omega); go_wp2_with (first | (go_at_call 125; refine (implShortText_any _ _ (by omega)).mono ?_; rintro e w2 ⟨rfl, hb2⟩; rw [shT_yes (by omega)]; have hbL := hc.later hb2) | (at_builtin; refine wpList_append_text rfl _ _ rfl _ _ _ rfl hbL _ rfl (by rw [← tl_len, ba_app]; simp; omega) ?_; intro v' w3 hb3))
            go_roundw
            case rel => exact ⟨k + 1, by omega, by go_num, by rw [HN.out]; rw [ba_app] at hb3; exact hb3⟩
            case measure => simp [intOf]; omega
          · obtain rfl : k = 3 := by omega
            clear hlt; have hcv := hc.toString; go_wp2; go_ret2
            exact ⟨by rw [HT.out, Rc.tx, ← r.st_end]; rfl, b1.trans (hc.bel.mono b1.size)⟩
  · rw [decide_eq_false hok]
    have HT := Lib.hid (rtT_no hok); clear BX1; go_wp2; go_ret2
    exact ⟨by rw [HT.out]; rfl, b1⟩
end Go.Proofs.YtklkhllkjnbhjaaGreatDoor
