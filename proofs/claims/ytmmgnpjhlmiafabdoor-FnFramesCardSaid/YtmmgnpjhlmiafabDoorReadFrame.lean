/- Frames: what ReadFrame hands back, of the model and of the program. -/
import Derived.Test.YtmmgnpjhlmiafabDoorFrameT
import Derived.Test.YtmmgnpjhlmiafabDoorBox
import Derived.Lib.SmallJoins
import Derived.Deep.Cut
namespace Go.Proofs.YtmmgnpjhlmiafabDoor
open Go.RowKit

def zeroFr : Fr := ⟨0, 0, ⟨#[]⟩⟩
/-- What lies ahead of a sum, at whatever place. -/
def ruA (s : ByteArray) (a : Int) : Option (Fr × Nat) := if 0 ≤ a ∧ a ≤ s.size then ru s a.toNat else none
def rfA (s : ByteArray) (a : Int) : Option (Fr × Nat) := if 0 ≤ a ∧ a ≤ s.size then rf fourOf s a.toNat else none
/-- What ReadFrame hands back. -/
def rfT (s : ByteArray) (a : Int) : Value :=
  match rfA s a with
  | some (f, e) => .tuple #[f.v, .int .i64 e, .bool true]
  | none => .tuple #[zeroFr.v, .int .i64 0, .bool false]
theorem rfT_some {s : ByteArray} {a : Int} {f : Fr} {e : Nat} (h : rfA s a = some (f, e)) : rfT s a = .tuple #[f.v, .int .i64 e, .bool true] := by rw [rfT, h]
theorem rfT_none {s : ByteArray} {a : Int} (h : rfA s a = none) : rfT s a = .tuple #[zeroFr.v, .int .i64 0, .bool false] := by rw [rfT, h]
theorem rfA_none {s : ByteArray} {a : Int} (h : ruA s a = none) : rfA s a = none := by
  unfold ruA at h
  unfold rfA
  split
  · rename_i h1
    rw [if_pos h1] at h
    exact rf_none h
  · rfl
theorem rfA_nat {s : ByteArray} {k : Nat} (h : k ≤ s.size) : rfA s (k : Int) = rf fourOf s k := by rw [rfA, if_pos (by omega), Int.toNat_natCast]
theorem ruA_some {s : ByteArray} {a : Int} {x : Fr × Nat} (h : ruA s a = some x) : ∃ k : Nat, a = (k : Int) ∧ k ≤ s.size ∧ ru s k = some x := by
  unfold ruA at h
  split at h
  · rename_i h1
    refine ⟨a.toNat, ?_, ?_, h⟩
    · rw [Int.toNat_of_nonneg h1.1]
    · omega
  · cases h
theorem rfA_some {s : ByteArray} {a : Int} {f : Fr} {e : Nat} (h : rfA s a = some (f, e)) : ∃ k : Nat, a = (k : Int) ∧ k ≤ s.size ∧ rf fourOf s k = some (f, e) := by
  unfold rfA at h
  split at h
  · rename_i h1
    refine ⟨a.toNat, ?_, ?_, h⟩
    · rw [Int.toNat_of_nonneg h1.1]
    · omega
  · cases h

theorem rv_ways (s : ByteArray) (a : Int) : (rvT s a = zeroT ∧ (¬ (0 ≤ a ∧ a ≤ s.size) ∨ rv s.data.toList a.toNat = none)) ∨
    (∃ n b : Nat, rvT s a = .tuple #[.int .i64 n, .int .i64 b, .bool true] ∧ (0 ≤ a ∧ a ≤ s.size) ∧ rv s.data.toList a.toNat = some (n, b)) := by
  by_cases h : 0 ≤ a ∧ a ≤ s.size
  · obtain ⟨k, rfl⟩ := Int.eq_ofNat_of_zero_le h.1
    have hk : k ≤ s.size := by omega
    cases hr : rv s.data.toList k with
    | none => exact .inl ⟨rvT_none hk hr, .inr (by simpa using hr)⟩
    | some x =>
      obtain ⟨n, b⟩ := x
      exact .inr ⟨n, b, rvT_some hk hr, h, by simpa using hr⟩
  · exact .inl ⟨rvT_out h, .inl h⟩

theorem rvT_form' (s : ByteArray) (a : Int) : ∃ (n b : Nat) (f : Bool), rvT s a = .tuple #[.int .i64 n, .int .i64 b, .bool f] := by
  rcases rv_ways s a with ⟨h, _⟩ | ⟨n, b, h, _⟩
  · exact ⟨0, 0, false, h⟩
  · exact ⟨n, b, true, h⟩
theorem rsT_form' (s : ByteArray) (a : Int) : ∃ (t : ByteArray) (b : Int) (f : Bool), rsT s a = .tuple #[.string t, .int .i64 b, .bool f] := rsT_form s a

/-- The ways of reading what lies ahead of a sum. -/
theorem ru_cases (s : ByteArray) (a : Int) : (rvT s a = zeroT ∧ ruA s a = none) ∨
    (∃ g a1 : Nat, rvT s a = .tuple #[.int .i64 g, .int .i64 a1, .bool true] ∧ rvT s a1 = zeroT ∧ ruA s a = none) ∨
    (∃ g a1 q b1 : Nat, rvT s a = .tuple #[.int .i64 g, .int .i64 a1, .bool true] ∧ rvT s a1 = .tuple #[.int .i64 q, .int .i64 b1, .bool true] ∧ rsT s b1 = zeroS ∧ ruA s a = none) ∨
    (∃ (g a1 q b1 : Nat) (t : ByteArray) (e : Nat), rvT s a = .tuple #[.int .i64 g, .int .i64 a1, .bool true] ∧ rvT s a1 = .tuple #[.int .i64 q, .int .i64 b1, .bool true] ∧ rsT s b1 = .tuple #[.string t, .int .i64 e, .bool true] ∧ ruA s a = some (⟨g, q, t⟩, e)) := by
  rcases rv_ways s a with ⟨h1, h2⟩ | ⟨g, a1, h1, hr, h2⟩
  · refine .inl ⟨h1, ?_⟩
    unfold ruA
    split
    · rename_i h
      rcases h2 with h2 | h2
      · exact absurd h h2
      · exact ru_no1 h2
    · rfl
  · obtain ⟨k, rfl⟩ := Int.eq_ofNat_of_zero_le hr.1
    rw [Int.toNat_natCast] at h2
    have hk : k ≤ s.size := by omega
    obtain ⟨_, _, hA, _⟩ := rv_bytes h2 hk
    have hru : ruA s k = ru s k := by rw [ruA, if_pos hr, Int.toNat_natCast]
    rw [hru]
    rcases rv_ways s (a1 : Int) with ⟨h3, h4⟩ | ⟨q, b1, h3, hr3, h4⟩
    · refine .inr (.inl ⟨g, a1, h1, h3, ?_⟩)
      rcases h4 with h4 | h4
      · omega
      · exact ru_no2 h2 (by simpa using h4)
    · rw [Int.toNat_natCast] at h4
      obtain ⟨_, _, hB, _⟩ := rv_bytes h4 hA
      rcases rv_ways s (b1 : Int) with ⟨h5, h6⟩ | ⟨n, c, h5, hr5, h6⟩
      · refine .inr (.inr (.inl ⟨g, a1, q, b1, h1, h3, ?_, ?_⟩))
        · rcases h6 with h6 | h6
          · omega
          · exact rsT_none hB (by simpa using h6)
        · rcases h6 with h6 | h6
          · omega
          · exact ru_no3 h2 h4 (by simpa using h6)
      · rw [Int.toNat_natCast] at h6
        by_cases hn : n ≤ 20000 ∧ n + c ≤ s.size
        · refine .inr (.inr (.inr ⟨g, a1, q, b1, s.extract c (c + n), c + n, h1, h3, ?_, ru_yes h2 h4 h6 hn⟩))
          rw [rsT_yes hB h6 hn, Int.natCast_add]
        · exact .inr (.inr (.inl ⟨g, a1, q, b1, h1, h3, rsT_no hB h6 hn, ru_no4 h2 h4 h6 hn⟩))

/-- Does p stand at the beginning of s? -/
def isPre (s p : ByteArray) : Bool := decide (p.size ≤ s.size ∧ s.extract 0 p.size = p)
theorem isPre_yes {s p : ByteArray} (h : p.size ≤ s.size) : isPre s p = ((s.extract 0 p.size).toList == p.toList) := by
  unfold isPre
  by_cases he : s.extract 0 p.size = p
  · simp [h, he]
  · have : ¬ (s.extract 0 p.size).toList = p.toList := fun e => he (by rw [ByteArray.toList_eq, ByteArray.toList_eq] at e; exact ba_ext e)
    rw [decide_eq_false (fun x => he x.2)]
    simp [this]
theorem isPre_no {s p : ByteArray} (h : ¬ p.size ≤ s.size) : isPre s p = false := decide_eq_false (fun x => h x.1)

theorem hasPrefix0_any (s p : ByteArray) (w : World) :
    Calls Tryd.prog 47 #[.string s, .string p] w fun e w' => e = .returned (.bool (isPre s p)) ∧ w = w' := by
  by_cases h : p.size ≤ s.size
  · have h2 : (p.size : Int) ≤ (s.size : Int) := by omega
    go_enter Tryd.func47, Tryd.ntmps47
    go_wp2
    go_ret
    exact ⟨by rw [isPre_yes h]; rfl, rfl⟩
  · go_enter Tryd.func47, Tryd.ntmps47
    go_wp2
    go_ret
    exact ⟨by rw [isPre_no h]; rfl, rfl⟩

theorem hasPrefix_any (s p : ByteArray) (w : World) :
    Calls Tryd.prog 30 #[.string s, .string p] w fun e w' => e = .returned (.bool (isPre s p)) ∧ w = w' := by
  go_enter Tryd.func30, Tryd.ntmps30
  go_wp2_with (go_at_call 47; refine (hasPrefix0_any _ _ _).mono ?_; rintro e w1 ⟨rfl, rfl⟩)
  go_ret
  exact ⟨rfl, rfl⟩

/-- What readUnsealedFrame hands back. -/
def RuR (s : ByteArray) (a : Int) (w : World) (e : Ending) (w' : World) : Prop :=
  ((∃ f p, ruA s a = some (f, p) ∧ e = .returned (.tuple #[f.v, .bool true])) ∨ (ruA s a = none ∧ ∃ f : Fr, e = .returned (.tuple #[f.v, .bool false]))) ∧ Below w.heap.size w w'

set_option maxRecDepth 100000 in
set_option maxHeartbeats 1000000 in
theorem readUnsealed_any (s : ByteArray) (a : Int) (w : World) (hs : s.size ≤ 1099511627776) :
    Calls Tryd.prog 29 #[.string s, .int .i64 a] w fun e w' => RuR s a w e w' := by
  have b0 : Below w.heap.size w (w.alloc (.cells #[.int .i64 0, .int .i64 0, .string ⟨#[]⟩] 30)) := (Below.refl _ _).alloc (Nat.le_refl _) _
  have hx := Box.new w #[.int .i64 0, .int .i64 0, .string ⟨#[]⟩] 30
  have HC : Hid (∀ x, Below (w.alloc (.cells #[.int .i64 0, .int .i64 0, .string ⟨#[]⟩] 30)).heap.size (w.alloc (.cells #[.int .i64 0, .int .i64 0, .string ⟨#[]⟩] 30)) x → Box x w.heap.size #[.int .i64 0, .int .i64 0, .string ⟨#[]⟩] 30 ∧ Below w.heap.size w x) :=
    fun x h => ⟨hx.later h, b0.trans (h.mono b0.size)⟩
  rcases ru_cases s a with ⟨h1, h2⟩ | ⟨g, a1, h1, h3, h2⟩ | ⟨g, a1, q, b1, h1, h3, h4, h2⟩ | ⟨g, a1, q, b1, t, e, h1, h3, h4, h2⟩
  · have H1 := Lib.hid h1
    have H2 := Lib.hid h2
    clear h1 h2 hx
    go_enter Tryd.func29, Tryd.ntmps29
    go_wp2_with fail
    generalize w.alloc (.cells #[.int .i64 0, .int .i64 0, .string ⟨#[]⟩] 30) = W at *
    refine (implReadVar_any _ _ _ hs).mono ?_
    rintro e' w1 ⟨rfl, k1⟩
    rw [H1.out, zeroT]
    obtain ⟨x1, b1⟩ := HC.out _ k1
    obtain ⟨c0, c1, c2, f0, f1, f2⟩ := x1.three
    go_wp2
    have y := x1.set3 (.int .i64 0) (.int .i64 0) (.string ⟨#[]⟩)
    obtain ⟨g0, g1, g2, _⟩ := y.three
    unfold set3 at g0 g1 g2
    refine bodyPost_ret (v := .tuple #[zeroFr.v, .bool false]) (by simp [results, Tryd.results29, go_sem, g0, g1, g2, Fr.v, zeroFr]) rfl ?_
    exact ⟨.inr ⟨H2.out, zeroFr, rfl⟩, below_set3 b1 (Nat.le_refl _) (.int .i64 0) (.int .i64 0) (.string ⟨#[]⟩)⟩
  · have H1 := Lib.hid h1
    have H2 := Lib.hid h2
    have H3 := Lib.hid h3
    clear h1 h2 hx h3
    go_enter Tryd.func29, Tryd.ntmps29
    go_wp2_with fail
    generalize w.alloc (.cells #[.int .i64 0, .int .i64 0, .string ⟨#[]⟩] 30) = W at *
    refine (implReadVar_any _ _ _ hs).mono ?_
    rintro e' w1 ⟨rfl, k1⟩
    rw [H1.out]
    go_wp2_with fail
    refine (implReadVar_any _ _ _ hs).mono ?_
    rintro e' w2 ⟨rfl, l2⟩
    rw [H3.out, zeroT]
    have k2 := k1.trans (l2.mono k1.size)
    obtain ⟨x2, b2⟩ := HC.out _ k2
    obtain ⟨c0, c1, c2, f0, f1, f2⟩ := x2.three
    go_wp2
    have y := x2.set3 (.int .i64 0) (.int .i64 0) (.string ⟨#[]⟩)
    obtain ⟨g0, g1, g2, _⟩ := y.three
    unfold set3 at g0 g1 g2
    refine bodyPost_ret (v := .tuple #[zeroFr.v, .bool false]) (by simp [results, Tryd.results29, go_sem, g0, g1, g2, Fr.v, zeroFr]) rfl ?_
    exact ⟨.inr ⟨H2.out, zeroFr, rfl⟩, below_set3 b2 (Nat.le_refl _) (.int .i64 0) (.int .i64 0) (.string ⟨#[]⟩)⟩
  · have H1 := Lib.hid h1
    have H2 := Lib.hid h2
    have H3 := Lib.hid h3
    have H4 := Lib.hid h4
    clear h1 h2 hx h3 h4
    go_enter Tryd.func29, Tryd.ntmps29
    go_wp2_with fail
    generalize w.alloc (.cells #[.int .i64 0, .int .i64 0, .string ⟨#[]⟩] 30) = W at *
    refine (implReadVar_any _ _ _ hs).mono ?_
    rintro e' w1 ⟨rfl, k1⟩
    rw [H1.out]
    go_wp2_with fail
    refine (implReadVar_any _ _ _ hs).mono ?_
    rintro e' w2 ⟨rfl, l2⟩
    rw [H3.out]
    have k2 := k1.trans (l2.mono k1.size)
    go_wp2_with fail
    refine (implReadShort_any _ _ _ hs).mono ?_
    rintro e' w3 ⟨rfl, l3⟩
    rw [H4.out, zeroS]
    have k3 := k2.trans (l3.mono k2.size)
    obtain ⟨x3, b3⟩ := HC.out _ k3
    obtain ⟨c0, c1, c2, f0, f1, f2⟩ := x3.three
    go_wp2
    have y := x3.set3 (.int .i64 (g : Int)) (.int .i64 (q : Int)) (.string ⟨#[]⟩)
    obtain ⟨g0, g1, g2, _⟩ := y.three
    unfold set3 at g0 g1 g2
    refine bodyPost_ret (v := .tuple #[Fr.v ⟨g, q, ⟨#[]⟩⟩, .bool false]) (by simp [results, Tryd.results29, go_sem, g0, g1, g2, Fr.v]) rfl ?_
    exact ⟨.inr ⟨H2.out, ⟨g, q, ⟨#[]⟩⟩, rfl⟩, below_set3 b3 (Nat.le_refl _) (.int .i64 (g : Int)) (.int .i64 (q : Int)) (.string ⟨#[]⟩)⟩
  · have H1 := Lib.hid h1
    have H2 := Lib.hid h2
    have H3 := Lib.hid h3
    have H4 := Lib.hid h4
    clear h1 h2 hx h3 h4
    go_enter Tryd.func29, Tryd.ntmps29
    go_wp2_with fail
    generalize w.alloc (.cells #[.int .i64 0, .int .i64 0, .string ⟨#[]⟩] 30) = W at *
    refine (implReadVar_any _ _ _ hs).mono ?_
    rintro e' w1 ⟨rfl, k1⟩
    rw [H1.out]
    go_wp2_with fail
    refine (implReadVar_any _ _ _ hs).mono ?_
    rintro e' w2 ⟨rfl, l2⟩
    rw [H3.out]
    have k2 := k1.trans (l2.mono k1.size)
    go_wp2_with fail
    refine (implReadShort_any _ _ _ hs).mono ?_
    rintro e' w3 ⟨rfl, l3⟩
    rw [H4.out]
    have k3 := k2.trans (l3.mono k2.size)
    obtain ⟨x3, b3⟩ := HC.out _ k3
    obtain ⟨c0, c1, c2, f0, f1, f2⟩ := x3.three
    go_wp2
    have y := x3.set3 (.int .i64 (g : Int)) (.int .i64 (q : Int)) (.string t)
    obtain ⟨g0, g1, g2, _⟩ := y.three
    unfold set3 at g0 g1 g2
    refine bodyPost_ret (v := .tuple #[Fr.v ⟨g, q, t⟩, .bool true]) (by simp [results, Tryd.results29, go_sem, g0, g1, g2, Fr.v]) rfl ?_
    exact ⟨.inl ⟨_, _, H2.out, rfl⟩, below_set3 b3 (Nat.le_refl _) (.int .i64 (g : Int)) (.int .i64 (q : Int)) (.string t)⟩

theorem pre_iff {s : ByteArray} {k e : Nat} {f : Fr} (h : ru s k = some (f, e)) (hk : k ≤ s.size) : isPre (s.extract k s.size) f.tx = decide (e + 4 ≤ s.size ∧ f.tx = s.extract k (e + 4)) := by
  obtain ⟨h1, h2, h3, _⟩ := ru_raw h hk
  have hsz : f.tx.size = e - k + 4 := by rw [Fr.tx_size, h1, ByteArray.size_extract]; omega
  unfold isPre
  apply decide_eq_decide.2
  rw [hsz, ByteArray.size_extract]
  have e1 : ∀ m, k + m ≤ s.size → (s.extract k s.size).extract 0 m = s.extract k (k + m) := by
    intro m hm
    apply ba_ext
    rw [extract_data, extract_data, extract_data, List.drop_zero, List.take_take]
    congr 1
    omega
  constructor
  · rintro ⟨a1, a2⟩
    rw [e1 _ (by omega)] at a2
    refine ⟨by omega, ?_⟩
    rw [show e + 4 = k + (e - k + 4) by omega]
    exact a2.symm
  · rintro ⟨a1, a2⟩
    refine ⟨by omega, ?_⟩
    rw [e1 _ (by omega), a2]
    congr 1
    omega

set_option maxRecDepth 100000 in
set_option maxHeartbeats 1000000 in
theorem implReadFrame_any (s : ByteArray) (a : Int) (w : World) (hs : s.size ≤ 1099511627776) (ht : SumTab w) :
    Calls Tryd.prog 13 #[.string s, .int .i64 a] w fun e w' => e = .returned (rfT s a) ∧ Below w.heap.size w w' := by
  have b0 : Below w.heap.size w (w.alloc (.cells #[.int .i64 0, .int .i64 0, .string ⟨#[]⟩] 30)) := (Below.refl _ _).alloc (Nat.le_refl _) _
  have hx := Box.new w #[.int .i64 0, .int .i64 0, .string ⟨#[]⟩] 30
  have HC : Hid (∀ x, Below (w.alloc (.cells #[.int .i64 0, .int .i64 0, .string ⟨#[]⟩] 30)).heap.size (w.alloc (.cells #[.int .i64 0, .int .i64 0, .string ⟨#[]⟩] 30)) x → Box x w.heap.size #[.int .i64 0, .int .i64 0, .string ⟨#[]⟩] 30 ∧ Below w.heap.size w x) :=
    fun x h => ⟨hx.later h, b0.trans (h.mono b0.size)⟩
  have HT : Hid (∀ x, Below w.heap.size w x → SumTab x) := fun x hb => ht.later hb
  clear hx ht
  go_enter Tryd.func13, Tryd.ntmps13
  go_wp2_with fail
  generalize w.alloc (.cells #[.int .i64 0, .int .i64 0, .string ⟨#[]⟩] 30) = W at *
  refine (readUnsealed_any s a _ hs).mono ?_
  rintro e w1 ⟨⟨f, p, hu, rfl⟩ | ⟨hu, f, rfl⟩, k1⟩
  · obtain ⟨k, rfl, hk, hru⟩ := ruA_some hu
    obtain ⟨r1, r2, r3, r4, r5, r6⟩ := ru_raw hru hk
    have hpre := Lib.hid (pre_iff hru hk)
    have hsz : f.tx.size = p - k + 4 := by rw [Fr.tx_size, r1, ByteArray.size_extract]; omega
    have hrf := Lib.hid (rfA_nat hk)
    have HU := Lib.hid hru
    have y2 := Box.new w1 #[.int .i64 f.gen, .int .i64 f.seq, .string f.body] 30
    have k2 : Below W.heap.size W (w1.alloc (.cells #[.int .i64 f.gen, .int .i64 f.seq, .string f.body] 30)) := k1.alloc k1.size _
    have hv : f.v = .agg #[.int .i64 f.gen, .int .i64 f.seq, .string f.body] := rfl
    clear r1 hu hru
    rw [hv]
    go_upto_region 2 with fail
    generalize w1.alloc (.cells #[.int .i64 f.gen, .int .i64 f.seq, .string f.body] 30) = w2 at y2 k2 ⊢
    obtain ⟨c0, c1, c2, _, _, _⟩ := y2.three
    obtain ⟨_, b2⟩ := HC.out _ k2
    go_wp2_with fail
    rw [← hv]
    refine (implFrameText_any f _ (by omega) (HT.out _ b2)).mono ?_
    rintro e w3 ⟨rfl, k3⟩
    clear c0 c1 c2
    have y3 := y2.later k3
    have j3 := k2.trans (k3.mono k2.size)
    obtain ⟨x3, b3⟩ := HC.out _ j3
    obtain ⟨c0, c1, c2, f0, f1, f2⟩ := x3.three
    by_cases hok : f.ok
    · rw [ftT_yes hok]
      have hle := Fr.tx_le hok
      have hks : (k : Int) ≤ (s.size : Int) := by omega
      by_cases hp : p + 4 ≤ s.size ∧ f.tx = s.extract k (p + 4)
      · have hpt : isPre (s.extract k s.size) f.tx = true := by rw [hpre.out]; exact decide_eq_true hp
        have HZ := Lib.hid (rfT_some (hrf.out.trans (rf_yes HU.out ⟨hok, hp.1, hp.2⟩)))
        have HP := Lib.hid hpt
        obtain ⟨g0, g1, g2, _, _, _⟩ := y3.three
        clear hp hpt hpre hok
        go_wp2_with (first | (go_at_call 30; refine (hasPrefix_any _ _ _).mono ?_; rintro e w4 ⟨rfl, rfl⟩; rw [HP.out]))
        have y := x3.set3 (.int .i64 f.gen) (.int .i64 f.seq) (.string f.body)
        obtain ⟨q0, q1, q2, _⟩ := y.three
        unfold set3 at q0 q1 q2
        refine bodyPost_ret (v := .tuple #[f.v, .int .i64 ((p + 4 : Nat) : Int), .bool true]) (by simp [results, Tryd.results13, go_sem, q0, q1, q2, Fr.v]; omega) rfl ?_
        exact ⟨by rw [HZ.out], below_set3 b3 (Nat.le_refl _) _ _ _⟩
      · have hpt : isPre (s.extract k s.size) f.tx = false := by rw [hpre.out]; exact decide_eq_false hp
        have HZ := Lib.hid (rfT_none (hrf.out.trans (rf_no HU.out (fun h => hp ⟨h.2.1, h.2.2⟩))))
        have HP := Lib.hid hpt
        clear hp hpt hpre hok
        go_wp2_with (first | (go_at_call 30; refine (hasPrefix_any _ _ _).mono ?_; rintro e w4 ⟨rfl, rfl⟩; rw [HP.out]))
        have y := x3.set3 (.int .i64 0) (.int .i64 0) (.string ⟨#[]⟩)
        obtain ⟨q0, q1, q2, _⟩ := y.three
        unfold set3 at q0 q1 q2
        refine bodyPost_ret (v := .tuple #[zeroFr.v, .int .i64 0, .bool false]) (by simp [results, Tryd.results13, go_sem, q0, q1, q2, Fr.v, zeroFr]) rfl ?_
        exact ⟨by rw [HZ.out], below_set3 b3 (Nat.le_refl _) _ _ _⟩
    · rw [ftT_no hok]
      have HZ := Lib.hid (rfT_none (hrf.out.trans (rf_no HU.out (fun h => hok h.1))))
      clear hok hpre
      go_wp2
      have y := x3.set3 (.int .i64 0) (.int .i64 0) (.string ⟨#[]⟩)
      obtain ⟨q0, q1, q2, _⟩ := y.three
      unfold set3 at q0 q1 q2
      refine bodyPost_ret (v := .tuple #[zeroFr.v, .int .i64 0, .bool false]) (by simp [results, Tryd.results13, go_sem, q0, q1, q2, Fr.v, zeroFr]) rfl ?_
      exact ⟨by rw [HZ.out], below_set3 b3 (Nat.le_refl _) _ _ _⟩
  · have HZ := Lib.hid (rfT_none (rfA_none hu))
    have y2 := Box.new w1 #[.int .i64 f.gen, .int .i64 f.seq, .string f.body] 30
    have k2 : Below W.heap.size W (w1.alloc (.cells #[.int .i64 f.gen, .int .i64 f.seq, .string f.body] 30)) := k1.alloc k1.size _
    clear hu
    unfold Fr.v
    go_upto_region 2 with fail
    generalize w1.alloc (.cells #[.int .i64 f.gen, .int .i64 f.seq, .string f.body] 30) = w2 at y2 k2 ⊢
    obtain ⟨x2, b2⟩ := HC.out _ k2
    obtain ⟨c0, c1, c2, f0, f1, f2⟩ := x2.three
    go_wp2
    have y := x2.set3 (.int .i64 0) (.int .i64 0) (.string ⟨#[]⟩)
    obtain ⟨q0, q1, q2, _⟩ := y.three
    unfold set3 at q0 q1 q2
    refine bodyPost_ret (v := .tuple #[zeroFr.v, .int .i64 0, .bool false]) (by simp [results, Tryd.results13, go_sem, q0, q1, q2, Fr.v, zeroFr]) rfl ?_
    exact ⟨by rw [HZ.out], below_set3 b2 (Nat.le_refl _) _ _ _⟩

end Go.Proofs.YtmmgnpjhlmiafabDoor
