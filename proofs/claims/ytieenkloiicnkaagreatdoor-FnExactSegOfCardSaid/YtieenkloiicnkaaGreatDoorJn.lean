/- Texts of our own, joined. -/
import Derived.Test.YtieenkloiicnkaaGreatDoorJm
import Derived.Test.YtieenkloiicnkaaGreatDoorJf
import Derived.Lib.AppendStr
import Derived.Test.YtieenkloiicnkaaGreatDoorJk
import Derived.Test.YtieenkloiicnkaaGreatDoorJl
/- Records: what the program's RecText hands back. -/
namespace Go.Proofs.YtieenkloiicnkaaGreatDoor
open Go.RowKit

theorem Buf.later {B : Nat} {w0 w w' : World} {v : Value} {l : List UInt8} (h : Buf B w0 w v l) (hb : Below w.heap.size w w') : Buf B w0 w' v l := by
  have hg : w.grownBy w' none := ⟨hb.os, hb.tape, hb.output, hb.size, fun k hk _ => hb.block k hk⟩
  refine ⟨h.own.kept hg ?_, h.bel.trans (hb.mono h.le), Nat.le_trans h.le hb.size⟩
  cases hv : v.ownBlock with
  | none => exact .inl rfl
  | some k => exact .inr (by simp)

/-- One byte in a new row. -/
theorem Buf.one (w : World) (x : Int) (b : UInt8) (h : x = (b.toNat : Int)) : Buf w.heap.size w (w.alloc (.cells #[.int .u8 x] 5)) (.slice (some ⟨w.heap.size, 0, none⟩) 1 1) [b] := by
  subst h
  refine ⟨?_, (Below.refl _ _).alloc (Nat.le_refl _) _, by simp⟩
  have := World.ownsRow_lit (base := w.heap.size) (e := 5) (size := 1) w #[.int .u8 (b.toNat : Int)] 1 (Nat.le_refl _) (by decide) (by simp)
  simpa [bytesV] using this

/-- An append of the bytes of a string. -/
theorem wpList_append_text {w0 w : World} {ops : Array Oper} {rest : List Oper} {o : Oper} {a : Act} {Q : Exit → Act → World → Prop} (hgd : o.guard = none) (s x : Operand)
    (ho : o.op = .call { callee := .builtin .append, args := #[s, x], argTypes := #[157, 9] })
    (B : Nat) (v : Value) (l : List UInt8) (hs : a.eval s = v) (hb : Buf B w0 w v l) (t : ByteArray) (hx : a.eval x = .string t)
    (hlen : l.length + t.size ≤ 140737488355328)
    (h : ∀ v' w', Buf B w0 w' v' (l ++ t.data.toList) → wpList Tryz.prog ops Q rest (a.put o.dst v') w') : wpList Tryz.prog ops Q (o :: rest) a w := by
  obtain ⟨i0, hi, hz0, hz1, hz2⟩ := info_parts Tryz.info_u8
  refine Lib.wpList_append_own_string (P := Tryz.prog) w hgd s x 157 9 ho B 5 i0 Tryz.underlying157 Tryz.underlying9 hi hz0 hz1 hz2 v l.length (bytesV l) hs hb.own t hx (by unfold maxLen; omega) hlen hb.le ?_
  intro v' w' hown hgrow _
  refine h v' w' ⟨?_, hb.bel.grown hgrow hb.le (fun k hk => (hb.own.lt k hk).1), Nat.le_trans hb.le hgrow.size⟩
  have e1 : (l ++ t.data.toList).length = l.length + t.size := by rw [List.length_append, tl_len]
  have e2 : bytesV (l ++ t.data.toList) = bytesV l ++ Lib.strCells t := by simp [bytesV, Lib.strCells]
  rw [e1, e2]
  exact hown

theorem ba_app (n : Nat) (t : ByteArray) : ((⟨(vt n).toArray⟩ : ByteArray) ++ t).data.toList = vt n ++ t.data.toList := by
  rw [ByteArray.data_append]; simp

/-- The numbers and the texts of a record in their order, and what is written of them. -/
def Rc.nAt (r : Rc) (k : Nat) : Int := [r.valid, r.uid, r.next, r.flags].getD k 0
def Rc.sAt (r : Rc) (k : Nat) : ByteArray := [r.user, r.name, r.text].getD k emp
def Rc.nt (r : Rc) (k : Nat) : List UInt8 := UInt8.ofNat r.kind.toNat :: (([r.valid, r.uid, r.next, r.flags].take k).flatMap fun n => vt n.toNat)
def Rc.st (r : Rc) (k : Nat) : List UInt8 := r.nt 4 ++ (([r.user, r.name, r.text].take k).flatMap fun s => vt s.size ++ s.data.toList)
theorem fourWays {k : Nat} (h : k < 4) : k = 0 ∨ k = 1 ∨ k = 2 ∨ k = 3 := by omega
theorem threeWays {k : Nat} (h : k < 3) : k = 0 ∨ k = 1 ∨ k = 2 := by omega
theorem Rc.nt_succ (r : Rc) {k : Nat} (h : k < 4) : r.nt (k + 1) = r.nt k ++ vt (r.nAt k).toNat := by
  rcases fourWays h with rfl | rfl | rfl | rfl <;> simp [Rc.nt, Rc.nAt]
theorem Rc.st_succ (r : Rc) {k : Nat} (h : k < 3) : r.st (k + 1) = r.st k ++ (vt (r.sAt k).size ++ (r.sAt k).data.toList) := by
  rcases threeWays h with rfl | rfl | rfl <;> simp [Rc.st, Rc.sAt]
theorem Rc.st_end (r : Rc) : r.st 3 = r.tl := by simp [Rc.st, Rc.nt, Rc.tl]
theorem Rc.nAt_le {r : Rc} (h : r.ok) {k : Nat} (hk : k < 4) : 0 ≤ r.nAt k ∧ r.nAt k ≤ 10000 := by
  obtain ⟨_, h2, h3, h4, h5, _⟩ := r.ok_small h
  rcases fourWays hk with rfl | rfl | rfl | rfl <;> simp [Rc.nAt] <;> omega
theorem Rc.sAt_le {r : Rc} (h : r.ok) {k : Nat} (hk : k < 3) : (r.sAt k).size ≤ 100 := by
  obtain ⟨_, _, _, _, _, h6, h7, h8⟩ := r.ok_small h
  rcases threeWays hk with rfl | rfl | rfl <;> simp [Rc.sAt] <;> omega
theorem Rc.nt_le {r : Rc} (h : r.ok) : ∀ k, k ≤ 4 → (r.nt k).length ≤ 1 + 2 * k
  | 0, _ => by simp [Rc.nt]
  | k + 1, hk => by
    have := Rc.nt_le h k (by omega)
    have h2 := Rc.nAt_le h (k := k) (by omega)
    have h3 := vt_two' (n := (r.nAt k).toNat) (by omega)
    rw [r.nt_succ (by omega), List.length_append]; omega
theorem Rc.st_le {r : Rc} (h : r.ok) : ∀ k, k ≤ 3 → (r.st k).length ≤ 9 + 102 * k
  | 0, _ => by have := Rc.nt_le h 4 (by omega); simp [Rc.st]; omega
  | k + 1, hk => by
    have := Rc.st_le h k (by omega)
    have h2 := Rc.sAt_le h (k := k) (by omega)
    have h3 := vt_two' (n := (r.sAt k).size) (by omega)
    rw [r.st_succ (by omega), List.length_append, List.length_append, tl_len]; omega

set_option maxRecDepth 100000 in
theorem index_n (r : Rc) (k : Nat) (h : k < 4) (w : World) : (Instr.index 202 (.agg #[.int .i64 r.valid, .int .i64 r.uid, .int .i64 r.next, .int .i64 r.flags]) (.int .i64 (k : Int))).run Tryz.prog w = .ok (.int .i64 (r.nAt k)) w := by
  rcases fourWays h with rfl | rfl | rfl | rfl <;> kernel_rfl
set_option maxRecDepth 100000 in
theorem index_s (r : Rc) (k : Nat) (h : k < 3) (w : World) : (Instr.index 203 (.agg #[.string r.user, .string r.name, .string r.text]) (.int .i64 (k : Int))).run Tryz.prog w = .ok (.string (r.sAt k)) w := by
  rcases threeWays h with rfl | rfl | rfl <;> kernel_rfl

set_option maxRecDepth 100000 in
set_option maxHeartbeats 2000000 in
theorem implRecText_any (r : Rc) (w : World) :
    Calls Tryz.prog 116 #[r.v] w fun e w' => e = .returned (rtT r) ∧ Below w.heap.size w w' := by
  have bx := Box.new w r.cs 71
  have b0 : Below w.heap.size w (w.alloc (.cells r.cs 71)) := (Below.refl _ _).alloc (Nat.le_refl _) _
  obtain ⟨c0, c1, c2, c3, c4, c5, c6, c7⟩ := bx.rec
  have BX := Lib.hid bx
  clear bx
  have HO := Lib.hid (fun wx => implRecOk_any r wx)
  have hv : r.v = .agg #[.int .i64 r.kind, .int .i64 r.valid, .int .i64 r.uid, .int .i64 r.next, .int .i64 r.flags, .string r.user, .string r.name, .string r.text] := rfl
  unfold Rc.cs at *
  rw [hv]
  go_enter Tryz.func116, Tryz.ntmps116
  go_wp2_with fail
  generalize w.alloc (.cells #[.int .i64 r.kind, .int .i64 r.valid, .int .i64 r.uid, .int .i64 r.next, .int .i64 r.flags, .string r.user, .string r.name, .string r.text] 71) = W at *
  rw [← hv]
  refine (HO.out _).mono ?_
  rintro e w1 ⟨rfl, k1⟩
  have b1 := b0.trans (k1.mono b0.size)
  have BX1 := BX.out.later k1
  clear c0 c1 c2 c3 c4 c5 c6 c7 HO BX k1 b0
  by_cases hok : r.ok
  · rw [decide_eq_true hok]
    have HT := Lib.hid (rtT_yes hok)
    have HOK := Lib.hid hok
    obtain ⟨hk1, _⟩ := r.ok_small hok
    have hkw := kind_wrap r.kind hk1.1 hk1.2
    have hkb := kind_byte r.kind hk1.1 hk1.2
    obtain ⟨c0, c1, c2, c3, c4, c5, c6, c7, _⟩ := BX1.eight
    have hB := Buf.one w1 r.kind (UInt8.ofNat r.kind.toNat) hkb
    have BX2 := BX1.later ((Below.refl w1.heap.size w1).alloc (Nat.le_refl _) (.cells #[.int .u8 r.kind] 5))
    obtain ⟨d0, d1, d2, d3, d4, d5, d6, d7, _⟩ := BX2.eight
    have HBX := Lib.hid BX1
    clear BX1 BX2 hok hkb hk1
    go_wp2
    clear hkw c0 c1 c2 c3 c4 c5 c6 c7 d0 d1 d2 d3 d4 d5 d6 d7
    go_loopw [4, 29] (fun v iv wr => ∃ k : Nat, k ≤ 4 ∧ iv = .int .i64 (k : Int) ∧ Buf w1.heap.size w1 wr v (r.nt k)) (fun _ iv _ => 4 - (intOf iv).toNat)
    case atStart => exact ⟨0, by omega, rfl, hB⟩
    case round =>
      obtain ⟨k, hk, rfl, hb⟩ := hrel
      clear hB
      by_cases hlt : k < 4
      · have hlt' : (k : Int) < 4 := by omega
        have hix := index_n r k hlt
        have hn := Rc.nAt_le HOK.out hlt
        have hl := Rc.nt_le HOK.out k hk
        have HN := Lib.hid (r.nt_succ hlt)
        generalize r.nAt k = n at *
        have h2 := vt_two' (n := n.toNat) (by omega)
        go_wp2_with (first | (go_at_call 122; refine (implVarText_any _ _).mono ?_; rintro e w2 ⟨rfl, hb2⟩; rw [varT_yes (by omega)]; have hbL := hb.later hb2) | (at_builtin; refine wpList_append_text rfl _ _ rfl _ _ _ rfl hbL _ rfl (by rw [← tl_len]; simp; omega) ?_; intro v' w3 hb3))
        go_roundw
        case rel => exact ⟨k + 1, by omega, by go_num, by rw [HN.out]; exact hb3⟩
        case measure => simp [intOf]; omega
      · have hk4 : k = 4 := by omega
        have hge : ¬ (k : Int) < 4 := by omega
        rw [hk4] at hb
        clear hlt hk4 hk
        obtain ⟨c0, c1, c2, c3, c4, c5, c6, c7, _⟩ := (HBX.out.under hb.bel HBX.out.lt).eight
        go_wp2
        clear c0 c1 c2 c3 c4 c5 c6 c7 hge
        obtain ⟨wa, hwa⟩ : ∃ wa, wa = wr := ⟨_, rfl⟩
        subst hwa
        go_loopw [4, 48] (fun v iv wr => ∃ k : Nat, k ≤ 3 ∧ iv = .int .i64 (k : Int) ∧ Buf w1.heap.size w1 wr v (r.st k)) (fun _ iv _ => 3 - (intOf iv).toNat)
        case atStart => exact ⟨0, by omega, rfl, by have e : r.st 0 = r.nt 4 := by simp [Rc.st]
                                                    rw [e]; exact hb⟩
        case round =>
          obtain ⟨k, hk, rfl, hc⟩ := hrel
          clear hb
          by_cases hlt : k < 3
          · have hlt' : (k : Int) < 3 := by omega
            have hix := index_s r k hlt
            have hn := Rc.sAt_le HOK.out hlt
            have hl := Rc.st_le HOK.out k hk
            have HN := Lib.hid (r.st_succ hlt)
            generalize r.sAt k = t at *
            have h2 := vt_two' (n := t.size) (by omega)
            go_wp2_with (first | (go_at_call 126; refine (implShortText_any _ _ (by omega)).mono ?_; rintro e w2 ⟨rfl, hb2⟩; rw [shT_yes (by omega)]; have hbL := hc.later hb2) | (at_builtin; refine wpList_append_text rfl _ _ rfl _ _ _ rfl hbL _ rfl (by rw [← tl_len, ba_app]; simp; omega) ?_; intro v' w3 hb3))
            go_roundw
            case rel => exact ⟨k + 1, by omega, by go_num, by rw [HN.out]; rw [ba_app] at hb3; exact hb3⟩
            case measure => simp [intOf]; omega
          · obtain rfl : k = 3 := by omega
            clear hlt
            have hcv := hc.toString
            go_wp2
            go_ret2
            exact ⟨by rw [HT.out, Rc.tx, ← r.st_end]; rfl, b1.trans (hc.bel.mono b1.size)⟩
  · rw [decide_eq_false hok]
    have HT := Lib.hid (rtT_no hok)
    clear BX1
    go_wp2
    go_ret2
    exact ⟨by rw [HT.out]; rfl, b1⟩

end Go.Proofs.YtieenkloiicnkaaGreatDoor

/- Records: what the program's readAnyRec and ReadRec hand back. -/
namespace Go.Proofs.YtieenkloiicnkaaGreatDoor
open Go.RowKit

/-- The numbers read one behind the other, and the texts. -/
def rdN (L : List UInt8) : Nat → Option (List Nat × Nat)
  | 0 => some ([], 1)
  | k + 1 => match rdN L k with
    | none => none
    | some (ns, p) => match rv L p with
      | none => none
      | some (n, q) => some (ns ++ [n], q)
def rdS (t : ByteArray) (d : Nat) : Nat → Option (List ByteArray × Nat)
  | 0 => some ([], d)
  | k + 1 => match rdS t d k with
    | none => none
    | some (xs, p) => match rsO t p with
      | none => none
      | some (x, q) => some (xs ++ [x], q)
theorem rdN_up {L : List UInt8} {k : Nat} (h : rdN L k = none) : ∀ m, rdN L (k + m) = none
  | 0 => h
  | m + 1 => by
    show rdN L (k + m + 1) = none
    rw [rdN, rdN_up h m]
theorem rdS_up {t : ByteArray} {d k : Nat} (h : rdS t d k = none) : ∀ m, rdS t d (k + m) = none
  | 0 => h
  | m + 1 => by
    show rdS t d (k + m + 1) = none
    rw [rdS, rdS_up h m]
theorem rdN_len {L : List UInt8} : ∀ {k : Nat} {ns : List Nat} {p : Nat}, rdN L k = some (ns, p) → ns.length = k
  | 0, ns, p, h => by cases h; rfl
  | k + 1, ns, p, h => by
    rw [rdN] at h
    split at h
    · cases h
    · rename_i ns' p' h'
      split at h
      · cases h
      · cases h
        have := rdN_len h'
        simp [this]
theorem rdS_len {t : ByteArray} {d : Nat} : ∀ {k : Nat} {xs : List ByteArray} {p : Nat}, rdS t d k = some (xs, p) → xs.length = k
  | 0, xs, p, h => by cases h; rfl
  | k + 1, xs, p, h => by
    rw [rdS] at h
    split at h
    · cases h
    · rename_i ns' p' h'
      split at h
      · cases h
      · cases h
        have := rdS_len h'
        simp [this]

/-- The fields that a text begins with, so read. -/
theorem prs_eq (t : ByteArray) (k : UInt8) (rest : List UInt8) (hk : t.data.toList = k :: rest) :
    prs t = match rdN t.data.toList 4 with
      | none => none
      | some (ns, d) => match rdS t d 3 with
        | none => none
        | some (xs, _) => some ⟨k.toNat, (ns.getD 0 0 : Nat), (ns.getD 1 0 : Nat), (ns.getD 2 0 : Nat), (ns.getD 3 0 : Nat), xs.getD 0 emp, xs.getD 1 emp, xs.getD 2 emp⟩ := by
  obtain ⟨L, hL⟩ : ∃ L, t.data.toList = L := ⟨_, rfl⟩
  unfold prs
  rw [hL]
  rw [hL] at hk
  rw [hk]
  simp only [rdN, rdS, ← hk]
  rcases h1 : rv L 1 with _ | ⟨v, a⟩
  · rfl
  simp only
  rcases h2 : rv L a with _ | ⟨u, b⟩
  · rfl
  simp only
  rcases h3 : rv L b with _ | ⟨n, c⟩
  · rfl
  simp only
  rcases h4 : rv L c with _ | ⟨f, d⟩
  · rfl
  simp only
  rcases h5 : rsO t d with _ | ⟨x, e⟩
  · rfl
  simp only
  rcases h6 : rsO t e with _ | ⟨y, g⟩
  · rfl
  simp only
  rcases h7 : rsO t g with _ | ⟨z, q⟩
  · rfl
  rfl

/-- The cells of the numbers and of the texts as far as they are read. -/
def numC (ns : List Nat) : Array Value := #[.int .i64 (ns.getD 0 0 : Nat), .int .i64 (ns.getD 1 0 : Nat), .int .i64 (ns.getD 2 0 : Nat), .int .i64 (ns.getD 3 0 : Nat)]
def txtC (xs : List ByteArray) : Array Value := #[.string (xs.getD 0 emp), .string (xs.getD 1 emp), .string (xs.getD 2 emp)]
theorem numC_put (ns : List Nat) (n : Nat) (h : ns.length < 4) : (numC ns).setIfInBounds ns.length (.int .i64 (n : Int)) = numC (ns ++ [n]) := by
  match ns, h with
  | [], _ => rfl
  | [a], _ => rfl
  | [a, b], _ => rfl
  | [a, b, c], _ => rfl
  | a :: b :: c :: d :: l, h => simp at h; omega
theorem txtC_put (xs : List ByteArray) (x : ByteArray) (h : xs.length < 3) : (txtC xs).setIfInBounds xs.length (.string x) = txtC (xs ++ [x]) := by
  match xs, h with
  | [], _ => rfl
  | [a], _ => rfl
  | [a, b], _ => rfl
  | a :: b :: c :: l, h => simp at h; omega
theorem numC_at (ns : List Nat) (k : Nat) (h : k < 4) : (numC ns)[k]? = some (.int .i64 (ns.getD k 0 : Nat)) := by
  rcases fourWays h with rfl | rfl | rfl | rfl <;> rfl
theorem txtC_at (xs : List ByteArray) (k : Nat) (h : k < 3) : (txtC xs)[k]? = some (.string (xs.getD k emp)) := by
  rcases threeWays h with rfl | rfl | rfl <;> rfl

/-- What readAnyRec hands back. -/
def raT (t : ByteArray) : Value := match prs t with
  | some r => .tuple #[r.v, .bool true]
  | none => .tuple #[Rc.nil.v, .bool false]
theorem raT_none {t : ByteArray} (h : prs t = none) : raT t = .tuple #[Rc.nil.v, .bool false] := by rw [raT, h]
theorem raT_some {t : ByteArray} {r : Rc} (h : prs t = some r) : raT t = .tuple #[r.v, .bool true] := by rw [raT, h]

theorem rs_way (t : ByteArray) (p : Nat) (hp : p ≤ t.size) :
    (rsO t p = none ∧ rsT t p = zeroS) ∨ ∃ (x : ByteArray) (q : Nat), rsO t p = some (x, q) ∧ rsT t p = .tuple #[.string x, .int .i64 q, .bool true] := by
  rcases h : rv t.data.toList p with _ | ⟨n, q⟩
  · exact .inl ⟨by simp [rsO, h], rsT_none hp h⟩
  · by_cases h2 : n ≤ 20000 ∧ n + q ≤ t.size
    · exact .inr ⟨t.extract q (q + n), q + n, by simp [rsO, h, h2], by rw [rsT_yes hp h h2, Int.natCast_add]⟩
    · exact .inl ⟨by simp [rsO, h, h2], rsT_no hp h h2⟩

set_option maxRecDepth 100000 in
set_option maxHeartbeats 4000000 in
theorem readAnyRec_any (t : ByteArray) (w : World) (hs : t.size ≤ 1099511627776) :
    Calls Tryz.prog 115 #[.string t] w fun e w' => e = .returned (raT t) ∧ Below w.heap.size w w' := by
  have b0 : Below w.heap.size w (w.alloc (.cells #[.int .i64 0, .int .i64 0, .int .i64 0, .int .i64 0, .int .i64 0, .string ⟨#[]⟩, .string ⟨#[]⟩, .string ⟨#[]⟩] 71)) := belNew _ _
  have y0 := Box.new w #[.int .i64 0, .int .i64 0, .int .i64 0, .int .i64 0, .int .i64 0, .string ⟨#[]⟩, .string ⟨#[]⟩, .string ⟨#[]⟩] 71
  rcases hL : t.data.toList with _ | ⟨k0, rest⟩
  · have he : t = ⟨#[]⟩ := by
      obtain ⟨⟨l⟩⟩ := t
      simp only at hL
      rw [hL]
    have HT := Lib.hid (raT_none (t := t) (by rw [prs, hL]))
    subst he
    clear hL
    obtain ⟨u0, u1, u2, u3, u4, u5, u6, u7, _⟩ := y0.eight
    go_enter Tryz.func115, Tryz.ntmps115
    go_wp2
    refine bodyPost_ret (v := .tuple #[.agg #[.int .i64 0, .int .i64 0, .int .i64 0, .int .i64 0, .int .i64 0, .string ⟨#[]⟩, .string ⟨#[]⟩, .string ⟨#[]⟩], .bool false]) (by simp [results, Tryz.results115, go_sem, u0, u1, u2, u3, u4, u5, u6, u7]) rfl ?_
    exact ⟨by rw [HT.out]; rfl, b0⟩
  · have hz : (t.toList == ([] : List UInt8)) = false := by
      rw [ByteArray.toList_eq, hL]; rfl
    have HP := Lib.hid (prs_eq t k0 rest hL)
    have hsz : 1 ≤ t.size := by rw [← tl_len, hL]; simp
    have hix : ∀ wx, (Instr.index 9 (.string t) (.int .i64 0)).run Tryz.prog wx = .ok (.int .u8 (k0.toNat : Int)) wx := by
      have e := index_atW t 0 (by omega)
      have h4 : t.data[0]? = some k0 := by rw [← Array.getElem?_toList, hL]; rfl
      obtain ⟨h5, h6⟩ := Array.getElem?_eq_some_iff.1 h4
      have e2 : t[0]'(by omega) = k0 := h6
      rw [e2] at e
      exact e
    have HIX := Lib.hid hix
    clear hix
    obtain ⟨L, hLL⟩ : ∃ L, t.data.toList = L := ⟨_, rfl⟩
    have HL := Lib.hid hLL
    have HP : Hid (prs t = match rdN L 4 with
      | none => none
      | some (ns, d) => match rdS t d 3 with
        | none => none
        | some (xs, _) => some ⟨k0.toNat, (ns.getD 0 0 : Nat), (ns.getD 1 0 : Nat), (ns.getD 2 0 : Nat), (ns.getD 3 0 : Nat), xs.getD 0 emp, xs.getD 1 emp, xs.getD 2 emp⟩) := by rw [← hLL]; exact HP.out
    have hLs : L.length = t.size := by rw [← hLL, tl_len]
    clear hL hLL
    have b1 := b0.trans ((belNew _ (.cells #[.int .i64 0, .int .i64 0, .int .i64 0, .int .i64 0] 202)).mono b0.size)
    have y1 := y0.later (belNew _ (.cells #[.int .i64 0, .int .i64 0, .int .i64 0, .int .i64 0] 202))
    have z1 := Box.new (w.alloc (.cells #[.int .i64 0, .int .i64 0, .int .i64 0, .int .i64 0, .int .i64 0, .string ⟨#[]⟩, .string ⟨#[]⟩, .string ⟨#[]⟩] 71)) #[.int .i64 0, .int .i64 0, .int .i64 0, .int .i64 0] 202
    have hg : (w.alloc (.cells #[.int .i64 0, .int .i64 0, .int .i64 0, .int .i64 0, .int .i64 0, .string ⟨#[]⟩, .string ⟨#[]⟩, .string ⟨#[]⟩] 71)).heap.size = w.heap.size + 1 := by simp
    rw [hg] at z1
    clear y0 b0 hg
    go_enter Tryz.func115, Tryz.ntmps115
    go_wp2
    clear hz
    obtain ⟨g5, hg5⟩ : ∃ g5, w.heap.size + 1 = g5 := ⟨_, rfl⟩
    have hl5 : w.heap.size < g5 := by omega
    rw [hg5] at z1 ⊢
    clear hg5
    generalize (w.alloc (.cells #[.int .i64 0, .int .i64 0, .int .i64 0, .int .i64 0, .int .i64 0, .string ⟨#[]⟩, .string ⟨#[]⟩, .string ⟨#[]⟩] 71)).alloc (.cells #[.int .i64 0, .int .i64 0, .int .i64 0, .int .i64 0] 202) = W1 at b1 y1 z1 ⊢
    go_loopw [4, 18] (fun av iv wr => ∃ (k p : Nat) (ns : List Nat), k ≤ 4 ∧ iv = .int .i64 (k : Int) ∧ av = .int .i64 (p : Int) ∧ p ≤ t.size ∧ rdN L k = some (ns, p) ∧ Box wr g5 (numC ns) 202 ∧ Box wr w.heap.size #[.int .i64 0, .int .i64 0, .int .i64 0, .int .i64 0, .int .i64 0, .string ⟨#[]⟩, .string ⟨#[]⟩, .string ⟨#[]⟩] 71 ∧ Below w.heap.size w wr) (fun _ iv _ => 4 - (intOf iv).toNat)
    case atStart => exact ⟨0, 1, [], by omega, rfl, rfl, hsz, rfl, z1, y1, b1⟩
    case round =>
      obtain ⟨k, p, ns, hk, rfl, rfl, hp, hrd, hz5, hy, hb⟩ := hrel
      clear b1 y1 z1
      have hlen := rdN_len hrd
      by_cases hlt : k < 4
      · have hlt' : (k : Int) < 4 := by omega
        rcases hv : rv L p with _ | ⟨n, q⟩
        · have hR : Hid (rvT t p = zeroT) := rvT_none hp (by rw [HL.out]; exact hv)
          have HT : Hid (raT t = .tuple #[Rc.nil.v, .bool false]) := by
            refine raT_none ?_
            have h1 : rdN L (k + 1) = none := by rw [rdN, hrd]; simp only [hv]
            have h4 := rdN_up h1 (3 - k)
            rw [show k + 1 + (3 - k) = 4 by omega] at h4
            rw [HP.out, h4]
          clear hv hrd HP hz5
          go_wp2_with (go_at_call 151; refine (implReadVar_any _ _ _ hs).mono ?_; rintro e w2 ⟨rfl, hb2⟩; rw [hR.out, zeroT]; obtain ⟨u0, u1, u2, u3, u4, u5, u6, u7, v0, v1, v2, v3, v4, v5, v6, v7⟩ := (hy.later hb2).eight)
          refine bodyPost_ret (v := .tuple #[.agg #[.int .i64 0, .int .i64 0, .int .i64 0, .int .i64 0, .int .i64 0, .string ⟨#[]⟩, .string ⟨#[]⟩, .string ⟨#[]⟩], .bool false]) (by simp [results, Tryz.results115, go_sem, u0, u1, u2, u3, u4, u5, u6, u7]) rfl ?_
          exact ⟨by rw [HT.out]; rfl, below_set8 (hb.trans (hb2.mono hb.size)) (Nat.le_refl _) _ _ _ _ _ _ _ _⟩
        · have hR : Hid (rvT t p = .tuple #[.int .i64 n, .int .i64 q, .bool true]) := rvT_some hp (by rw [HL.out]; exact hv)
          have hq := (rv_le (by omega) hv).2.2
          have HS : Hid (rdN L (k + 1) = some (ns ++ [n], q)) := by
            show rdN L (k + 1) = _
            rw [rdN, hrd]; simp only [hv]
          clear hv hrd HP
          go_wp2_with (go_at_call 151; refine (implReadVar_any _ _ _ hs).mono ?_; rintro e w2 ⟨rfl, hb2⟩; rw [hR.out]; have hc5 := (hz5.later hb2).cell k _ (numC_at ns k hlt); have hf5 := (hz5.later hb2).loose k)
          go_roundw
          case rel => exact ⟨k + 1, q, ns ++ [n], by omega, by go_num, rfl, by omega, HS.out, by rw [← numC_put ns n (by omega), hlen]; exact (hz5.later hb2).set k _, (hy.later hb2).other (by omega) _ _, (hb.trans (hb2.mono hb.size)).setCell (p := ⟨g5, k, none⟩) (Nat.le_of_lt hl5) _⟩
          case measure => simp [intOf]; omega
      · have hk4 : k = 4 := by omega
        have hge : ¬ (k : Int) < 4 := by omega
        rw [hk4] at hrd
        clear hlt hk4 hk hlen
        have HP2 : Hid (prs t = match rdS t p 3 with
          | none => none
          | some (xs, _) => some ⟨k0.toNat, (ns.getD 0 0 : Nat), (ns.getD 1 0 : Nat), (ns.getD 2 0 : Nat), (ns.getD 3 0 : Nat), xs.getD 0 emp, xs.getD 1 emp, xs.getD 2 emp⟩) := by
          show prs t = _
          rw [HP.out, hrd]
        clear hrd HP
        obtain ⟨wa, hwa⟩ : ∃ wa, wa = wr := ⟨_, rfl⟩
        subst hwa
        have b2 : Below w.heap.size w (wa.alloc (.cells #[.string ⟨#[]⟩, .string ⟨#[]⟩, .string ⟨#[]⟩] 203)) := hb.alloc hb.size _
        have y2 := hy.later (belNew wa (.cells #[.string ⟨#[]⟩, .string ⟨#[]⟩, .string ⟨#[]⟩] 203))
        have z2 := hz5.later (belNew wa (.cells #[.string ⟨#[]⟩, .string ⟨#[]⟩, .string ⟨#[]⟩] 203))
        have t2 := Box.new wa #[.string ⟨#[]⟩, .string ⟨#[]⟩, .string ⟨#[]⟩] 203
        have lT1 : g5 < wa.heap.size := hz5.lt
        go_wp2
        clear hge hb hy hz5
        generalize wa.alloc (.cells #[.string ⟨#[]⟩, .string ⟨#[]⟩, .string ⟨#[]⟩] 203) = W2 at b2 y2 z2 t2 ⊢
        generalize wa.heap.size = gT at lT1 t2 ⊢
        go_loopw [4, 36] (fun av iv wr => ∃ (j d : Nat) (xs : List ByteArray), j ≤ 3 ∧ iv = .int .i64 (j : Int) ∧ av = .int .i64 (d : Int) ∧ d ≤ t.size ∧ rdS t p j = some (xs, d) ∧ Box wr gT (txtC xs) 203 ∧ Box wr g5 (numC ns) 202 ∧ Box wr w.heap.size #[.int .i64 0, .int .i64 0, .int .i64 0, .int .i64 0, .int .i64 0, .string ⟨#[]⟩, .string ⟨#[]⟩, .string ⟨#[]⟩] 71 ∧ Below w.heap.size w wr) (fun _ iv _ => 3 - (intOf iv).toNat)
        case atStart => exact ⟨0, p, [], by omega, rfl, rfl, hp, rfl, t2, z2, y2, b2⟩
        case round =>
          obtain ⟨j, d, xs, hj, rfl, rfl, hd, hrd, hzT, hz5, hy, hb⟩ := hrel
          clear b2 y2 z2 t2
          have hlen := rdS_len hrd
          by_cases hlt : j < 3
          · have hlt' : (j : Int) < 3 := by omega
            rcases rs_way t d hd with ⟨hv, hR0⟩ | ⟨x, q, hv, hR0⟩
            · have hR := Lib.hid hR0
              have HT : Hid (raT t = .tuple #[Rc.nil.v, .bool false]) := by
                refine raT_none ?_
                have h1 : rdS t p (j + 1) = none := by rw [rdS, hrd]; simp only [hv]
                have h4 := rdS_up h1 (2 - j)
                rw [show j + 1 + (2 - j) = 3 by omega] at h4
                rw [HP2.out, h4]
              clear hv hR0 hrd HP2 hz5 hzT
              go_wp2_with (go_at_call 152; refine (implReadShort_any _ _ _ hs).mono ?_; rintro e w2 ⟨rfl, hb2⟩; rw [hR.out, zeroS]; obtain ⟨u0, u1, u2, u3, u4, u5, u6, u7, v0, v1, v2, v3, v4, v5, v6, v7⟩ := (hy.later hb2).eight)
              refine bodyPost_ret (v := .tuple #[.agg #[.int .i64 0, .int .i64 0, .int .i64 0, .int .i64 0, .int .i64 0, .string ⟨#[]⟩, .string ⟨#[]⟩, .string ⟨#[]⟩], .bool false]) (by simp [results, Tryz.results115, go_sem, u0, u1, u2, u3, u4, u5, u6, u7]) rfl ?_
              exact ⟨by rw [HT.out]; rfl, below_set8 (hb.trans (hb2.mono hb.size)) (Nat.le_refl _) _ _ _ _ _ _ _ _⟩
            · have hR := Lib.hid hR0
              have hq := (rsO_le hv).1
              have HS : Hid (rdS t p (j + 1) = some (xs ++ [x], q)) := by
                show rdS t p (j + 1) = _
                rw [rdS, hrd]; simp only [hv]
              clear hv hR0 hrd HP2
              go_wp2_with (go_at_call 152; refine (implReadShort_any _ _ _ hs).mono ?_; rintro e w2 ⟨rfl, hb2⟩; rw [hR.out]; have hc5 := (hzT.later hb2).cell j _ (txtC_at xs j hlt); have hf5 := (hzT.later hb2).loose j)
              go_roundw
              case rel => exact ⟨j + 1, q, xs ++ [x], by omega, by go_num, rfl, hq, HS.out, by rw [← txtC_put xs x (by omega), hlen]; exact (hzT.later hb2).set j _, (hz5.later hb2).other (by omega) _ _, (hy.later hb2).other (by omega) _ _, (hb.trans (hb2.mono hb.size)).setCell (p := ⟨gT, j, none⟩) (show w.heap.size ≤ gT by omega) _⟩
              case measure => simp [intOf]; omega
          · have hj3 : j = 3 := by omega
            have hge : ¬ (j : Int) < 3 := by omega
            rw [hj3] at hrd
            clear hlt hj3 hj hlen
            have HT : Hid (raT t = .tuple #[Rc.v ⟨k0.toNat, (ns.getD 0 0 : Nat), (ns.getD 1 0 : Nat), (ns.getD 2 0 : Nat), (ns.getD 3 0 : Nat), xs.getD 0 emp, xs.getD 1 emp, xs.getD 2 emp⟩, .bool true]) := by
              refine raT_some ?_
              rw [HP2.out, hrd]
            clear hrd HP2
            have hix := HIX.out
            unfold numC at hz5
            unfold txtC at hzT
            obtain ⟨u0, u1, u2, u3, u4, u5, u6, u7, v0, v1, v2, v3, v4, v5, v6, v7⟩ := hy.eight
            have n0 := hz5.cell 0 _ rfl
            have n1 := hz5.cell 1 _ rfl
            have n2 := hz5.cell 2 _ rfl
            have n3 := hz5.cell 3 _ rfl
            have x0 := hzT.cell 0 _ rfl
            have x1 := hzT.cell 1 _ rfl
            have x2 := hzT.cell 2 _ rfl
            have hk8 : IntKind.i64.wrap (k0.toNat : Int) = (k0.toNat : Int) := by
              have := UInt8.toNat_lt k0
              rw [IntKind.wrap_i64]; omega
            have hne5 : w.heap.size ≠ g5 := by omega
            have hneT : w.heap.size ≠ gT := by omega
            generalize ns.getD 0 0 = m0 at *
            generalize ns.getD 1 0 = m1 at *
            generalize ns.getD 2 0 = m2 at *
            generalize ns.getD 3 0 = m3 at *
            generalize xs.getD 0 emp = s0 at *
            generalize xs.getD 1 emp = s1 at *
            generalize xs.getD 2 emp = s2 at *
            go_wp2_with fail
            go_region_held3 (fun x => x.cell? ⟨g5, 0, none⟩ = some (.int .i64 (m0 : Int)) ∧ x.cell? ⟨g5, 1, none⟩ = some (.int .i64 (m1 : Int)) ∧ x.cell? ⟨g5, 2, none⟩ = some (.int .i64 (m2 : Int)) ∧ x.cell? ⟨g5, 3, none⟩ = some (.int .i64 (m3 : Int)) ∧ x.cell? ⟨gT, 0, none⟩ = some (.string s0) ∧ x.cell? ⟨gT, 1, none⟩ = some (.string s1) ∧ x.cell? ⟨gT, 2, none⟩ = some (.string s2))
              (go_keep) (fail)
            all_goals
              clear n0 n1 n2 n3 x0 x1 x2
              rename_i hHeld
              clear hHeld
              go_wp2
              refine bodyPost_ret (v := .tuple #[.agg #[.int .i64 (k0.toNat : Int), .int .i64 (m0 : Int), .int .i64 (m1 : Int), .int .i64 (m2 : Int), .int .i64 (m3 : Int), .string s0, .string s1, .string s2], .bool true]) (by simp [results, Tryz.results115, go_sem, u0, u1, u2, u3, u4, u5, u6, u7]) rfl ?_
              exact ⟨by rw [HT.out]; rfl, (below_set8 hb (Nat.le_refl _) _ _ _ _ _ _ _ _).drew⟩

end Go.Proofs.YtieenkloiicnkaaGreatDoor

/- Records: what the program's ReadRec hands back. -/
namespace Go.Proofs.YtieenkloiicnkaaGreatDoor
open Go.RowKit

set_option maxRecDepth 100000 in
set_option maxHeartbeats 1500000 in
theorem implReadRec_any (t : ByteArray) (w : World) (hs : t.size ≤ 1099511627776) :
    Calls Tryz.prog 77 #[.string t] w fun e w' => e = .returned (rrT t) ∧ Below w.heap.size w w' := by
  have hRA := fun wx => readAnyRec_any t wx hs
  obtain ⟨T, hTT⟩ : ∃ T, rrT t = T := ⟨_, rfl⟩
  have HTT := Lib.hid hTT
  rw [hTT]
  clear hTT
  have b0 : Below w.heap.size w (w.alloc (.cells #[.int .i64 0, .int .i64 0, .int .i64 0, .int .i64 0, .int .i64 0, .string ⟨#[]⟩, .string ⟨#[]⟩, .string ⟨#[]⟩] 71)) := belNew _ _
  have hI := Box.new w #[.int .i64 0, .int .i64 0, .int .i64 0, .int .i64 0, .int .i64 0, .string ⟨#[]⟩, .string ⟨#[]⟩, .string ⟨#[]⟩] 71
  rcases hp : prs t with _ | r
  · have HE : Hid (T = .tuple #[Rc.nil.v, .bool false]) := by rw [← HTT.out]; exact rrT_none (rrO_bad hp)
    rw [raT_none hp] at hRA
    have HRA : Hid (∀ wx, Calls Tryz.prog 115 #[.string t] wx fun e w' => e = .returned (.tuple #[.agg #[.int .i64 0, .int .i64 0, .int .i64 0, .int .i64 0, .int .i64 0, .string ⟨#[]⟩, .string ⟨#[]⟩, .string ⟨#[]⟩], .bool false]) ∧ Below wx.heap.size wx w') := hRA
    clear hRA hp HTT
    go_enter Tryz.func77, Tryz.ntmps77
    go_wp2_with fail
    generalize w.alloc (.cells #[.int .i64 0, .int .i64 0, .int .i64 0, .int .i64 0, .int .i64 0, .string ⟨#[]⟩, .string ⟨#[]⟩, .string ⟨#[]⟩] 71) = W at hI b0 ⊢
    refine (HRA.out _).mono ?_
    rintro e w1 ⟨rfl, k1⟩
    have b1 := b0.trans (k1.mono b0.size)
    have b2 := b1.trans ((belNew w1 (.cells #[.int .i64 0, .int .i64 0, .int .i64 0, .int .i64 0, .int .i64 0, .string ⟨#[]⟩, .string ⟨#[]⟩, .string ⟨#[]⟩] 71)).mono b1.size)
    obtain ⟨u0, u1, u2, u3, u4, u5, u6, u7, v0, v1, v2, v3, v4, v5, v6, v7⟩ := ((hI.later k1).later (belNew w1 (.cells #[.int .i64 0, .int .i64 0, .int .i64 0, .int .i64 0, .int .i64 0, .string ⟨#[]⟩, .string ⟨#[]⟩, .string ⟨#[]⟩] 71))).eight
    clear hI b0 b1 k1 HRA
    go_wp2
    refine bodyPost_ret (v := .tuple #[.agg #[.int .i64 0, .int .i64 0, .int .i64 0, .int .i64 0, .int .i64 0, .string ⟨#[]⟩, .string ⟨#[]⟩, .string ⟨#[]⟩], .bool false]) (by simp [results, Tryz.results77, go_sem, u0, u1, u2, u3, u4, u5, u6, u7]) rfl ?_
    exact ⟨by rw [HE.out]; rfl, below_set8 b2 (Nat.le_refl _) _ _ _ _ _ _ _ _⟩
  · rw [raT_some hp] at hRA
    have hRT := fun wx => implRecText_any r wx
    obtain ⟨bk, o, hT, hE⟩ := rd_end (t := t) (r := r) (d := false) hp
    rw [hT] at hRT
    obtain ⟨eq, hq⟩ : ∃ eq, decide (bk = t) = eq := ⟨_, rfl⟩
    rw [hq] at hE
    have qb : (bk.toList == t.toList) = eq := by rw [ba_beq, hq]
    rw [HTT.out] at hE
    have HE := Lib.hid hE
    obtain ⟨kind, valid, uid, next, flags, user, name, text⟩ := r
    unfold Rc.v at hRA hRT
    simp only at hRA hRT
    have HRA := Lib.hid hRA
    have HRT := Lib.hid hRT
    clear hRA hRT hp hT hq hE HTT
    go_enter Tryz.func77, Tryz.ntmps77
    go_wp2_with fail
    generalize w.alloc (.cells #[.int .i64 0, .int .i64 0, .int .i64 0, .int .i64 0, .int .i64 0, .string ⟨#[]⟩, .string ⟨#[]⟩, .string ⟨#[]⟩] 71) = W at hI b0 ⊢
    refine (HRA.out _).mono ?_
    rintro e w1 ⟨rfl, k1⟩
    have b1 := b0.trans (k1.mono b0.size)
    have b2 := b1.trans ((belNew w1 (.cells #[.int .i64 kind, .int .i64 valid, .int .i64 uid, .int .i64 next, .int .i64 flags, .string user, .string name, .string text] 71)).mono b1.size)
    have hI2 := (hI.later k1).later (belNew w1 (.cells #[.int .i64 kind, .int .i64 valid, .int .i64 uid, .int .i64 next, .int .i64 flags, .string user, .string name, .string text] 71))
    have hR2 := Box.new w1 #[.int .i64 kind, .int .i64 valid, .int .i64 uid, .int .i64 next, .int .i64 flags, .string user, .string name, .string text] 71
    obtain ⟨y0, y1, y2, y3, y4, y5, y6, y7, _, _, _, _, _, _, _, _⟩ := hR2.eight
    clear hI b0 b1 k1 HRA
    go_wp2_with fail
    clear y0 y1 y2 y3 y4 y5 y6 y7
    generalize w1.alloc (.cells #[.int .i64 kind, .int .i64 valid, .int .i64 uid, .int .i64 next, .int .i64 flags, .string user, .string name, .string text] 71) = X at hI2 hR2 b2 ⊢
    refine (HRT.out _).mono ?_
    rintro e w2 ⟨rfl, k2⟩
    obtain ⟨y0, y1, y2, y3, y4, y5, y6, y7, _, _, _, _, _, _, _, _⟩ := (hR2.later k2).eight
    obtain ⟨u0, u1, u2, u3, u4, u5, u6, u7, v0, v1, v2, v3, v4, v5, v6, v7⟩ := (hI2.later k2).eight
    have BB := Lib.hid (b2.trans (k2.mono b2.size))
    clear hI2 hR2 b2 k2 HRT
    cases o with
    | false =>
      go_wp2
      refine bodyPost_ret (v := .tuple #[.agg #[.int .i64 0, .int .i64 0, .int .i64 0, .int .i64 0, .int .i64 0, .string ⟨#[]⟩, .string ⟨#[]⟩, .string ⟨#[]⟩], .bool false]) (by simp [results, Tryz.results77, go_sem, u0, u1, u2, u3, u4, u5, u6, u7]) rfl ?_
      exact ⟨by rw [HE.out]; rfl, below_set8 BB.out (Nat.le_refl _) _ _ _ _ _ _ _ _⟩
    | true =>
      cases eq with
      | false =>
        go_wp2
        refine bodyPost_ret (v := .tuple #[.agg #[.int .i64 0, .int .i64 0, .int .i64 0, .int .i64 0, .int .i64 0, .string ⟨#[]⟩, .string ⟨#[]⟩, .string ⟨#[]⟩], .bool false]) (by simp [results, Tryz.results77, go_sem, u0, u1, u2, u3, u4, u5, u6, u7]) rfl ?_
        exact ⟨by rw [HE.out]; rfl, below_set8 BB.out (Nat.le_refl _) _ _ _ _ _ _ _ _⟩
      | true =>
        go_wp2
        refine bodyPost_ret (v := .tuple #[.agg #[.int .i64 kind, .int .i64 valid, .int .i64 uid, .int .i64 next, .int .i64 flags, .string user, .string name, .string text], .bool true]) (by simp [results, Tryz.results77, go_sem, u0, u1, u2, u3, u4, u5, u6, u7]) rfl ?_
        exact ⟨by rw [HE.out]; rfl, below_set8 BB.out (Nat.le_refl _) _ _ _ _ _ _ _ _⟩

end Go.Proofs.YtieenkloiicnkaaGreatDoor

/- Items and frames: what the program's ItemFrame and FrameItem hand back. -/
namespace Go.Proofs.YtieenkloiicnkaaGreatDoor
open Go.RowKit


set_option maxRecDepth 100000 in
set_option maxHeartbeats 1500000 in
theorem implFrameItem_any (f : Fr) (w : World) (hs : f.body.size ≤ 1099511627776) :
    Calls Tryz.prog 34 #[f.v] w fun e w' => e = .returned (fiT f) ∧ Below w.heap.size w w' := by
  have hFO := fun wx => implFrameOk_any f wx hs
  have hRR := fun wx => implReadRec_any f.body wx hs
  obtain ⟨r, o, hT, hW⟩ : ∃ (r : Rc) (o : Bool), rrT f.body = .tuple #[r.v, .bool o] ∧ ((o = false ∧ rrO f.body = none) ∨ (o = true ∧ rrO f.body = some r)) := by
    rcases h : rrO f.body with _ | r
    · exact ⟨_, _, rrT_none h, .inl ⟨rfl, rfl⟩⟩
    · exact ⟨_, _, rrT_some h, .inr ⟨rfl, rfl⟩⟩
  rw [hT] at hRR
  obtain ⟨T, hTT⟩ : ∃ T, fiT f = T := ⟨_, rfl⟩
  have HTT := Lib.hid hTT
  have HW := Lib.hid hW
  rw [hTT]
  clear hTT hT hW
  obtain ⟨fo, hfo⟩ : ∃ fo, decide f.ok = fo := ⟨_, rfl⟩
  rw [hfo] at hFO
  have HFK := Lib.hid hfo
  obtain ⟨gen, seq, body⟩ := f
  obtain ⟨kind, valid, uid, next, flags, user, name, text⟩ := r
  unfold Rc.v at hRR
  unfold Fr.v at hFO ⊢
  simp only at hRR hFO hs ⊢
  have HRR := Lib.hid hRR
  have HFO := Lib.hid hFO
  clear hRR hFO hfo
  have b0 : Below w.heap.size w (w.alloc (.cells #[.int .i64 gen, .int .i64 seq, .string body] 69)) := belNew _ _
  have b1 := b0.trans ((belNew (w.alloc (.cells #[.int .i64 gen, .int .i64 seq, .string body] 69)) (.cells #[.int .i64 0, .int .i64 0, .int .i64 0, .int .i64 0, .int .i64 0, .int .i64 0, .string ⟨#[]⟩, .string ⟨#[]⟩, .string ⟨#[]⟩] 73)).mono b0.size)
  have hF := (Box.new w #[.int .i64 gen, .int .i64 seq, .string body] 69).later (belNew _ (.cells #[.int .i64 0, .int .i64 0, .int .i64 0, .int .i64 0, .int .i64 0, .int .i64 0, .string ⟨#[]⟩, .string ⟨#[]⟩, .string ⟨#[]⟩] 73))
  have hI := Box.new (w.alloc (.cells #[.int .i64 gen, .int .i64 seq, .string body] 69)) #[.int .i64 0, .int .i64 0, .int .i64 0, .int .i64 0, .int .i64 0, .int .i64 0, .string ⟨#[]⟩, .string ⟨#[]⟩, .string ⟨#[]⟩] 73
  have hg : (w.alloc (.cells #[.int .i64 gen, .int .i64 seq, .string body] 69)).heap.size = w.heap.size + 1 := by simp
  rw [hg] at hI
  clear b0 hg
  go_enter Tryz.func34, Tryz.ntmps34
  go_wp2_with fail
  obtain ⟨g1, hg⟩ : ∃ g1, w.heap.size + 1 = g1 := ⟨_, rfl⟩
  rw [hg] at hI ⊢
  have hl : w.heap.size ≤ g1 := by omega
  clear hg
  generalize (w.alloc (.cells #[.int .i64 gen, .int .i64 seq, .string body] 69)).alloc (.cells #[.int .i64 0, .int .i64 0, .int .i64 0, .int .i64 0, .int .i64 0, .int .i64 0, .string ⟨#[]⟩, .string ⟨#[]⟩, .string ⟨#[]⟩] 73) = W at hI hF b1 ⊢
  refine (HFO.out _).mono ?_
  rintro e w1 ⟨rfl, k1⟩
  have hF1 := hF.later k1
  have hI1 := hI.later k1
  have b2 := b1.trans (k1.mono b1.size)
  obtain ⟨c0, c1, c2, _, _, _⟩ := hF1.three
  clear hI hF b1 k1 HFO
  cases fo with
  | false =>
    have HE : Hid (T = .tuple #[itV 0 Rc.nil, .bool false]) := by rw [← HTT.out]; exact fiT_out (of_decide_eq_false HFK.out)
    obtain ⟨u0, u1, u2, u3, u4, u5, u6, u7, u8, v0, v1, v2, v3, v4, v5, v6, v7, v8⟩ := hI1.nine
    clear c0 c1 c2 hF1 hI1
    go_wp2
    refine bodyPost_ret (v := .tuple #[.agg #[.int .i64 0, .int .i64 0, .int .i64 0, .int .i64 0, .int .i64 0, .int .i64 0, .string ⟨#[]⟩, .string ⟨#[]⟩, .string ⟨#[]⟩], .bool false]) (by simp [results, Tryz.results34, go_sem, u0, u1, u2, u3, u4, u5, u6, u7, u8]) rfl ?_
    exact ⟨by rw [HE.out]; rfl, below_set9 b2 hl _ _ _ _ _ _ _ _ _⟩
  | true =>
    go_wp2_with fail
    clear c0 c1 c2
    refine (HRR.out _).mono ?_
    rintro e w2 ⟨rfl, k2⟩
    have hF2 := (hF1.later k2).later (belNew w2 (.cells #[.int .i64 kind, .int .i64 valid, .int .i64 uid, .int .i64 next, .int .i64 flags, .string user, .string name, .string text] 71))
    have hI2 := (hI1.later k2).later (belNew w2 (.cells #[.int .i64 kind, .int .i64 valid, .int .i64 uid, .int .i64 next, .int .i64 flags, .string user, .string name, .string text] 71))
    have hR2 := Box.new w2 #[.int .i64 kind, .int .i64 valid, .int .i64 uid, .int .i64 next, .int .i64 flags, .string user, .string name, .string text] 71
    have b3 := b2.trans (k2.mono b2.size)
    have b4 := b3.trans ((belNew w2 (.cells #[.int .i64 kind, .int .i64 valid, .int .i64 uid, .int .i64 next, .int .i64 flags, .string user, .string name, .string text] 71)).mono b3.size)
    obtain ⟨c0, c1, c2, _, _, _⟩ := hF2.three
    obtain ⟨y0, y1, y2, y3, y4, y5, y6, y7, _, _, _, _, _, _, _, _⟩ := hR2.eight
    obtain ⟨u0, u1, u2, u3, u4, u5, u6, u7, u8, v0, v1, v2, v3, v4, v5, v6, v7, v8⟩ := hI2.nine
    have BB := Lib.hid b4
    clear hF1 hI1 hF2 hI2 hR2 b2 b3 b4 k2 HRR
    rcases HW.out with ⟨rfl, hn⟩ | ⟨rfl, hy⟩
    · have HE : Hid (T = .tuple #[itV 0 Rc.nil, .bool false]) := by rw [← HTT.out]; exact fiT_none hn
      clear hn
      go_wp2
      refine bodyPost_ret (v := .tuple #[.agg #[.int .i64 0, .int .i64 0, .int .i64 0, .int .i64 0, .int .i64 0, .int .i64 0, .string ⟨#[]⟩, .string ⟨#[]⟩, .string ⟨#[]⟩], .bool false]) (by simp [results, Tryz.results34, go_sem, u0, u1, u2, u3, u4, u5, u6, u7, u8]) rfl ?_
      exact ⟨by rw [HE.out]; rfl, below_set9 BB.out hl _ _ _ _ _ _ _ _ _⟩
    · have HE : Hid (T = .tuple #[.agg #[.int .i64 seq, .int .i64 kind, .int .i64 valid, .int .i64 uid, .int .i64 next, .int .i64 flags, .string user, .string name, .string text], .bool true]) := by rw [← HTT.out]; exact fiT_some (of_decide_eq_true HFK.out) hy
      clear hy
      go_wp2
      refine bodyPost_ret (v := .tuple #[.agg #[.int .i64 seq, .int .i64 kind, .int .i64 valid, .int .i64 uid, .int .i64 next, .int .i64 flags, .string user, .string name, .string text], .bool true]) (by simp [results, Tryz.results34, go_sem, u0, u1, u2, u3, u4, u5, u6, u7, u8]) rfl ?_
      exact ⟨by rw [HE.out], below_set9 BB.out hl _ _ _ _ _ _ _ _ _⟩

end Go.Proofs.YtieenkloiicnkaaGreatDoor

/- SegOf of the program: a segment as it is on a disk. -/
namespace Go.Proofs.YtieenkloiicnkaaGreatDoor
open Go.RowKit

set_option maxRecDepth 100000 in
set_option maxHeartbeats 4000000 in
theorem implSegOf_any (d : Dk) (v : Value) (s : Int) (w : World) (h : DRd w v d) (hs : d.small) (ht : ∀ s ∈ d.sec, s.size ≤ 137438953472) (hu : ∀ x ∈ d.cache, x.text.size ≤ 137438953472) (htab : SumTab w) :
    Calls Tryz.prog 9 #[v, .int .i64 s] w fun e w' => SoR (sgOf d s) w e w' := by
  obtain ⟨aa, ab, ca, cb, rfl, _, _⟩ := h.form
  have hz := sgT_size ht hu s
  have X1 := Box.new w #[.slice aa d.sec.length ca, .slice ab d.cache.length cb] 33
  have k1 := belNew w (.cells #[.slice aa d.sec.length ca, .slice ab d.cache.length cb] 33)
  obtain ⟨w1, hw1⟩ : ∃ y, w.alloc (.cells #[.slice aa d.sec.length ca, .slice ab d.cache.length cb] 33) = y := ⟨_, rfl⟩
  have z1 : w1.heap.size = w.heap.size + 1 := by rw [← hw1]; simp
  have X2 := Box.new w1 #[.int .i64 0, .int .i64 0, .int .i64 0, .slice none 0 0] 29
  have k2 := belNew w1 (.cells #[.int .i64 0, .int .i64 0, .int .i64 0, .slice none 0 0] 29)
  obtain ⟨w2, hw2⟩ : ∃ y, w1.alloc (.cells #[.int .i64 0, .int .i64 0, .int .i64 0, .slice none 0 0] 29) = y := ⟨_, rfl⟩
  have z2 : w2.heap.size = w.heap.size + 2 := by rw [← hw2]; simp; omega
  rw [hw1] at k1 X1
  rw [hw2] at k2 X2
  rw [z1] at X2
  replace X1 := X1.later k2
  have b2 : Below w.heap.size w w2 := k1.trans (k2.mono k1.size)
  have hr := h.later b2
  have HT : Hid (∀ x, Below w.heap.size w x → SumTab x) := fun x hb => htab.later hb
  obtain ⟨t, ht0⟩ : ∃ t, sgT d s = t := ⟨_, rfl⟩
  have HSG : Hid (∀ x (hx : Below w.heap.size w x), Calls Tryz.prog 33 #[.agg #[.slice aa d.sec.length ca, .slice ab d.cache.length cb], .int .i64 s] x fun e w' => e = .returned (.int .i64 (sgG t)) ∧ Below x.heap.size x w') := by
    intro x hx
    rw [← ht0]
    exact implSegGen_any d _ s _ (h.later hx) hs ht hu (HT.out _ hx)
  have HSF : Hid (Calls Tryz.prog 32 #[.agg #[.slice aa d.sec.length ca, .slice ab d.cache.length cb], .int .i64 s] w2 fun e w' => ∃ v, e = .returned (.tuple #[v, .int .i64 (sfE t : Int)]) ∧ Rows' frE w' v (sfL t) ∧ Below w2.heap.size w2 w') := by
    show Calls _ _ _ _ _
    refine (implSegFrames_any d _ s _ hr hs ht hu (HT.out _ b2)).mono ?_
    rintro e x ⟨v, e1, r1⟩
    rw [ht0] at e1 r1
    exact ⟨v, e1, r1.rows, r1.bel⟩
  have HE : Hid (sgOf d s = ⟨s, sgG t, (sfE t : Int), ((sfL t).take (sfL t).length).filterMap fiO⟩) := by show _ = _; unfold sgOf; rw [ht0, List.take_length]; rfl
  generalize sgOf d s = SO at HE ⊢
  have HOK : Hid (∀ f ∈ sfL t, f.ok) := sfL_ok t
  have hfl : (sfL t).length ≤ 1099511627776 := by have := sfL_le t; rw [ht0] at hz; omega
  have HW : Hid ((w.alloc (.cells #[.slice aa d.sec.length ca, .slice ab d.cache.length cb] 33)).alloc (.cells #[.int .i64 0, .int .i64 0, .int .i64 0, .slice none 0 0] 29) = w2) := by show _ = _; rw [hw1, hw2]
  have HB2 := Lib.hid b2
  generalize sgG t = gn at HSG HE ⊢
  generalize hen : (sfE t : Int) = en at HSF HE ⊢
  generalize sfL t = fs at HSF HE HOK hfl ⊢
  have HZ2 := Lib.hid z2
  clear ht0 hz h hr k1 k2 z1 z2 hw1 hw2 hs ht hu hen htab HT b2
  obtain ⟨g1, hg1⟩ : ∃ g1, w.heap.size + 1 = g1 := ⟨_, rfl⟩
  have HG1 := Lib.hid hg1
  obtain ⟨g0, hg0⟩ : ∃ g0, w.heap.size = g0 := ⟨_, rfl⟩
  have HG0 := Lib.hid hg0
  rw [hg1] at X2
  rw [hg0] at X1
  clear hg0 hg1
  go_enter Tryz.func9, Tryz.ntmps9
  go_upto_region 1 with fail
  rw [HW.out, HG1.out, HG0.out]
  obtain ⟨x0, x1⟩ : w2.cell? ⟨g0, 0, none⟩ = some (.slice aa d.sec.length ca) ∧ w2.cell? ⟨g0, 1, none⟩ = some (.slice ab d.cache.length cb) := ⟨X1.cell 0 _ rfl, X1.cell 1 _ rfl⟩
  go_wp2_with fail
  clear x0 x1
  refine HSF.out.mono ?_
  rintro e w3 ⟨vf, rfl, hrows, k3⟩
  obtain ⟨ad, cap, rfl, hrow⟩ := hrows.framesG
  have HR3 := Lib.hid hrow
  clear hrows hrow HSF
  replace X1 := X1.later k3
  replace X2 := X2.later k3
  obtain ⟨x0, x1⟩ : w3.cell? ⟨g0, 0, none⟩ = some (.slice aa d.sec.length ca) ∧ w3.cell? ⟨g0, 1, none⟩ = some (.slice ab d.cache.length cb) := ⟨X1.cell 0 _ rfl, X1.cell 1 _ rfl⟩
  have b3 : Below w.heap.size w w3 := HB2.out.trans (k3.mono HB2.out.size)
  have HB3 := Lib.hid b3
  have HK3 := Lib.hid k3
  clear b3 k3
  go_wp2_with fail
  clear x0 x1
  refine (HSG.out _ HB3.out).mono ?_
  rintro e w4 ⟨rfl, k4⟩
  replace X2 := X2.later k4
  have HB4 : Hid (Below w.heap.size w w4 ∧ w.heap.size + 2 ≤ w4.heap.size) := ⟨HB3.out.trans (k4.mono HB3.out.size), by have := HZ2.out; have := HK3.out.size; have := k4.size; omega⟩
  have HR4 : Hid (∀ X, Below w4.heap.size w4 X → ∀ (i : Nat) (f : Fr), fs[i]? = some f → ∃ g off : Nat, ad = some ⟨g, off, none⟩ ∧
    X.cell? ⟨g, off + i * 3, none⟩ = some (.int .i64 f.gen) ∧ X.cell? ⟨g, off + i * 3 + 1, none⟩ = some (.int .i64 f.seq) ∧ X.cell? ⟨g, off + i * 3 + 2, none⟩ = some (.string f.body)) := fun X hX => HR3.out X (k4.trans (hX.mono k4.size))
  clear HSG X1 k4 HR3 HB3 HK3
  have k5 := belNew w4 (.cells #[.int .i64 s, .int .i64 gn, .int .i64 en, .slice none 0 0] 29)
  have X5 := Box.new w4 #[.int .i64 s, .int .i64 gn, .int .i64 en, .slice none 0 0] 29
  have z5 : (w4.alloc (.cells #[.int .i64 s, .int .i64 gn, .int .i64 en, .slice none 0 0] 29)).heap.size = w4.heap.size + 1 := by simp
  have I0 : SgL w4 (w4.heap.size + 1) 29 s gn en (w4.alloc (.cells #[.int .i64 s, .int .i64 gn, .int .i64 en, .slice none 0 0] 29)) none 0 [] := ⟨X5, by rw [← z5]; exact RBuf.nil itE _, k5, by omega⟩
  have HI0 := Lib.hid I0
  have HX2 : Hid (∀ x, Below w4.heap.size w4 x → Box x g1 #[.int .i64 0, .int .i64 0, .int .i64 0, .slice none 0 0] 29) := fun x hx => X2.later hx
  clear I0 k5 X5 z5 X2
  generalize hB : w4.heap.size + 1 = B at HI0 ⊢
  have HBB := Lib.hid hB
  clear hB
  obtain ⟨m, hm⟩ : ∃ m, fs.length = m := ⟨_, rfl⟩
  have HM := Lib.hid hm
  rw [hm] at hfl HE ⊢
  clear hm
  go_upto_region 3 with fail
  generalize w4.alloc (.cells #[.int .i64 s, .int .i64 gn, .int .i64 en, .slice none 0 0] 29) = w5 at HI0 ⊢
  go_wp2_with fail
  go_loopw [26] (fun iv wr => ∃ (i : Nat) (a : Option Addr) (c : Nat), i ≤ m ∧ iv = .int .i64 (i : Int) ∧ SgL w4 B 29 s gn en wr a c ((fs.take i).filterMap fiO)) (fun iv _ => m - (intOf iv).toNat)
  case atStart => exact ⟨0, none, 0, by omega, rfl, HI0.out⟩
  case round =>
    clear HI0
    obtain ⟨i, a, c, hi, rfl, I⟩ := hrel
    by_cases hlt : i < m
    · obtain ⟨f, hgf⟩ : ∃ f, fs[i]? = some f := ⟨_, List.getElem?_eq_getElem (by rw [HM.out]; exact hlt)⟩
      obtain ⟨gp, op, rfl, p0, p1, p2⟩ := HR4.out _ I.bel i _ hgf
      have hi0 : (0 : Int) ≤ (i : Int) := by omega
      have hi1 : (i : Int) < (m : Int) := by omega
      have hle := items_take_le fs i
      have HFI := Lib.hid (fun x => implFrameItem_any f x (by have := (HOK.out f (List.mem_of_getElem? hgf)).2.2.2; omega))
      cases ho : fiO f with
      | none =>
        have HT1 : Hid ((fs.take (i + 1)).filterMap fiO = (fs.take i).filterMap fiO) := items_take_none hgf ho
        rw [fiT_none' ho] at HFI
        generalize (fs.take i).filterMap fiO = l at I HT1 hle
        clear ho hgf
        obtain ⟨gen, seq, body⟩ := f
        unfold Fr.v itV at HFI
        simp only at p0 p1 p2 HFI
        have I1 := I.later (belNew wr (.cells #[.int .i64 gen, .int .i64 seq, .string body] 69))
        have XF := Box.new wr #[.int .i64 gen, .int .i64 seq, .string body] 69
        obtain ⟨f0, f1, f2⟩ : _ ∧ _ ∧ _ := ⟨XF.cell 0 _ rfl, XF.cell 1 _ rfl, XF.cell 2 _ rfl⟩
        go_wp2_with fail
        clear f0 f1 f2
        refine (HFI.out _).mono ?_
        rintro e w6 ⟨rfl, k6⟩
        have I2 := (I1.later k6).later (belNew w6 (.cells #[.int .i64 0, .int .i64 Rc.nil.kind, .int .i64 Rc.nil.valid, .int .i64 Rc.nil.uid, .int .i64 Rc.nil.next, .int .i64 Rc.nil.flags, .string Rc.nil.user, .string Rc.nil.name, .string Rc.nil.text] 73))
        clear I I1 k6
        go_wp2
        exact ⟨⟨i + 1, a, c, by omega, by simp, by rw [HT1.out]; exact I2⟩, by first | omega | (simp [intOf]; omega)⟩
      | some x =>
        have HT1 : Hid ((fs.take (i + 1)).filterMap fiO = (fs.take i).filterMap fiO ++ [x]) := items_take_some hgf ho
        rw [fiT_some' ho] at HFI
        generalize (fs.take i).filterMap fiO = l at I HT1 hle
        clear ho hgf
        obtain ⟨gen, seq, body⟩ := f
        obtain ⟨sq, K, V, U, N, FL, US, NM, TX⟩ := x
        unfold Fr.v itV at HFI
        simp only at p0 p1 p2 HFI
        have I1 := I.later (belNew wr (.cells #[.int .i64 gen, .int .i64 seq, .string body] 69))
        have XF := Box.new wr #[.int .i64 gen, .int .i64 seq, .string body] 69
        obtain ⟨f0, f1, f2⟩ : _ ∧ _ ∧ _ := ⟨XF.cell 0 _ rfl, XF.cell 1 _ rfl, XF.cell 2 _ rfl⟩
        go_wp2_with fail
        clear f0 f1 f2
        refine (HFI.out _).mono ?_
        rintro e w6 ⟨rfl, k6⟩
        have I2 := (I1.later k6).later (belNew w6 (.cells #[.int .i64 sq, .int .i64 K, .int .i64 V, .int .i64 U, .int .i64 N, .int .i64 FL, .string US, .string NM, .string TX] 73))
        have XI := Box.new w6 #[.int .i64 sq, .int .i64 K, .int .i64 V, .int .i64 U, .int .i64 N, .int .i64 FL, .string US, .string NM, .string TX] 73
        clear I I1 k6 p0 p1 p2
        go_upto_region 8 with fail
        generalize w6.alloc (.cells #[.int .i64 sq, .int .i64 K, .int .i64 V, .int .i64 U, .int .i64 N, .int .i64 FL, .string US, .string NM, .string TX] 73) = w7 at XI I2 ⊢
        generalize w6.heap.size = gi at XI ⊢
        obtain ⟨q0, q1, q2, q3, q4, q5, q6, q7, q8⟩ := XI.nineG
        have c3 := I2.seg.cell 3 _ rfl
        have kL := belNew w7 (.cells #[.int .i64 sq, .int .i64 K, .int .i64 V, .int .i64 U, .int .i64 N, .int .i64 FL, .string US, .string NM, .string TX] 73)
        have I3 := Lib.hid (I2.later kL)
        have HL := Lib.hid (RBuf.lit1 itE w7 (sq, ⟨K, V, U, N, FL, US, NM, TX⟩))
        have HLE : Hid (l.length ≤ 1099511627776) := by show _ ≤ _; have := HM.out; omega
        clear XI I2 kL hle
        go_wp2_with (at_builtin; refine wpList_append_rows rfl _ _ itE rfl B _ l rfl I3.out.its w7.heap.size _ [(sq, ⟨K, V, U, N, FL, US, NM, TX⟩)] rfl HL.out (by show _ * 97 ≤ _; simp only [List.length_cons, List.length_nil]; have := HLE.out; omega) ?_; intro v8 w8 r8 g8 at8; obtain ⟨a8, c8, e8⟩ := r8.form; subst e8; obtain ⟨d4, f4⟩ := I3.out.cells g8; have I9 := Lib.hid (I3.out.push a8 c8 r8 g8))
        exact ⟨⟨i + 1, a8, c8, by omega, by simp, by rw [HT1.out]; have h9 := I9.out; simp only [List.length_append, List.length_cons, List.length_nil, Nat.zero_add] at h9; exact h9⟩, by first | omega | (simp [intOf]; omega)⟩
    · have hin : i = m := by omega
      have HF : Hid (SO = ⟨s, gn, en, (fs.take i).filterMap fiO⟩) := by show _ = _; rw [HE.out, hin]
      generalize (fs.take i).filterMap fiO = l at I HF
      clear hin
      obtain ⟨x0, x1, x2, x3, _⟩ := I.seg.fourG
      have XR := HX2.out _ I.bel
      obtain ⟨y0, y1, y2, y3, f0, f1, f2, f3⟩ := XR.fourG
      have R5 := XR.set4G (.int .i64 s) (.int .i64 gn) (.int .i64 en) (.slice a l.length c)
      obtain ⟨u0, u1, u2, u3, _⟩ := R5.fourG
      have HD := Lib.hid (I.its.set4G (g := g1) (HB4.out.1.trans (I.bel.mono HB4.out.1.size)) (by have := HBB.out; have := HB4.out.2; omega) (by have := HBB.out; have := HB4.out.2; have := HG1.out; omega) (by have := HG1.out; omega) (.int .i64 s) (.int .i64 gn) (.int .i64 en) (.slice a l.length c))
      have hge : ¬ (i : Int) < (m : Int) := by omega
      clear I R5 XR HX2
      go_wp2
      refine bodyPost_ret (v := .agg #[.int .i64 s, .int .i64 gn, .int .i64 en, .slice a l.length c]) (by simp [results, Tryz.results9, go_sem, u0, u1, u2, u3]) rfl ?_
      rw [HF.out]
      exact ⟨a, c, rfl, HD.out⟩

end Go.Proofs.YtieenkloiicnkaaGreatDoor
