/- Texts of our own, joined. -/
import Derived.Test.YtlifgcgoehkinaaGreatDoorJb
import Derived.Deep.Cut
/- Records: what the model's RecText hands back. -/
namespace Go.Proofs.YtlifgcgoehkinaaGreatDoor
open Go.RowKit

def rtT (r : Rc) : Value := if r.ok then .tuple #[.string r.tx, .bool true] else .tuple #[.string ⟨#[]⟩, .bool false]
theorem rtT_yes {r : Rc} (h : r.ok) : rtT r = .tuple #[.string r.tx, .bool true] := if_pos h
theorem rtT_no {r : Rc} (h : ¬ r.ok) : rtT r = .tuple #[.string ⟨#[]⟩, .bool false] := if_neg h

def shB (s : ByteArray) : ByteArray := vtB s.size ++ s

theorem l01VarZ_any (n : Int) (w : World) (h0 : 0 ≤ n) (hn : n ≤ 1000000000) :
    Calls Tryz.prog 60 #[.int .i64 n] w fun e w' => e = .returned (.string (vtB n.toNat)) ∧ Below w.heap.size w w' := by
  have := l01Var_any n.toNat w (by omega)
  rw [Int.toNat_of_nonneg h0] at this
  exact this

theorem specShortB_any (s : ByteArray) (w : World) (hs : s.size ≤ 1000000) :
    Calls Tryz.prog 61 #[.string s] w fun e w' => e = .returned (.string (shB s)) ∧ Below w.heap.size w w' := by
  have hv : (vtB s.size).size ≤ s.size + 1 := by rw [vtB_size]; exact vt_len _
  have hadd := fun wx => run_string_add_sum (P := Tryz.prog) (w := wx) (vtB s.size) s (by omega)
  obtain ⟨V, hV⟩ : ∃ V, vtB s.size = V := ⟨_, rfl⟩
  rw [hV] at hadd
  have HV := Lib.hid hV
  clear hV
  go_enter Tryz.func61, Tryz.ntmps61
  go_wp2_with (go_at_call 60; refine (l01VarZ_any _ _ (by omega) (by omega)).mono ?_; rintro e w1 ⟨rfl, k1⟩; rw [Int.toNat_natCast, HV.out])
  go_ret
  exact ⟨by unfold shB; rw [HV.out]; rfl, k1⟩

theorem tx_sum (r : Rc) : r.tx = (⟨#[UInt8.ofNat r.kind.toNat]⟩ : ByteArray) ++ vtB r.valid.toNat ++ vtB r.uid.toNat ++ vtB r.next.toNat ++ vtB r.flags.toNat ++ shB r.user ++ shB r.name ++ shB r.text := by
  obtain ⟨x, hx⟩ : ∃ x, (⟨#[UInt8.ofNat r.kind.toNat]⟩ : ByteArray) ++ vtB r.valid.toNat ++ vtB r.uid.toNat ++ vtB r.next.toNat ++ vtB r.flags.toNat ++ shB r.user ++ shB r.name ++ shB r.text = x := ⟨_, rfl⟩
  have : x.data.toList = r.tl := by
    rw [← hx]
    simp only [shB, ByteArray.data_append, Array.toList_append, vtB_list, Rc.tl, List.append_assoc]
    rfl
  rw [hx]
  obtain ⟨⟨y⟩⟩ := x
  simp only at this
  rw [this]; rfl

theorem vtB_five {n : Nat} (h : n ≤ 1000000000) : (vtB n).size ≤ 5 := by rw [vtB_size]; exact vt_five h
theorem belNew (x : World) (o : Obj) : Below x.heap.size x (x.alloc o) := (Below.refl _ _).alloc (Nat.le_refl _) _
theorem kind_byte (k : Int) (h1 : 1 ≤ k) (h2 : k ≤ 5) : k = ((UInt8.ofNat k.toNat).toNat : Int) := by
  have : (UInt8.ofNat k.toNat).toNat = k.toNat % 256 := UInt8.toNat_ofNat'
  rw [this]; omega
theorem kind_wrap (k : Int) (h1 : 1 ≤ k) (h2 : k ≤ 5) : IntKind.u8.wrap k = k := by
  have : k = 1 ∨ k = 2 ∨ k = 3 ∨ k = 4 ∨ k = 5 := by omega
  rcases this with rfl | rfl | rfl | rfl | rfl <;> decide
theorem below_next {W x y : World} (h : Below W.heap.size W x) (hb : Below x.heap.size x y) : Below W.heap.size W y := h.trans (hb.mono h.size)

theorem wpAnyH_sharper {P : Program} {md : Region.Mode} {ops : Array Oper} {Q : Exit → Act → World → Prop} {S S' : World → Prop} (h : ∀ w, S' w → S w) :
    ∀ {fuel : Nat} {listed : Array Bool} {a : Act} {w : World}, wpAnyH P md ops Q S' fuel listed a w → wpAnyH P md ops Q S fuel listed a w
  | 0, _, _, _, H => H
  | _ + 1, _, _, _, H => ⟨H.1, fun i hi => wpOp_mono (fun _ _ h' => ⟨h _ h'.1, wpAnyH_sharper h h'.2⟩) (H.2 i hi)⟩
theorem takeL {P : Program} {md : Region.Mode} {l : List Oper} {Q : Exit → Act → World → Prop} {S : World → Prop} {i : Nat} {oi : Oper} {v : Value} {fuel : Nat} {listed : Array Bool} {a : Act} {w : World} (hi : l[i]? = some oi)
    (hs : Region.noSelect l.toArray = true) (hf : Region.free md l.toArray listed i = true) (hr : (Region.ready md l.toArray listed).contains i = true)
    (hQ : ∀ c a w, Q (.panic c) (a.put oi.dst v) w → Q (.panic c) a w) (hy : YieldsIf P l.toArray S oi v a) (hS : S w)
    (h : wpAnyH P md l.toArray Q S fuel (listed.setIfInBounds i true) (a.put oi.dst v) w) : wpAnyH P md l.toArray Q S (fuel + 1) listed a w :=
  wpAnyH_take (by rw [List.getElem?_toArray]; exact hi) hs hf hr hQ hy hS h
theorem readyOne {P : Program} {md : Region.Mode} {l : List Oper} {Q : Exit → Act → World → Prop} {S : World → Prop} {i : Nat} {o : Oper} {fuel : Nat} {listed : Array Bool} {a : Act} {w : World} (hi : l[i]? = some o)
    (h : ∀ K' : Act → World → Prop, Shut (∀ a w, S w → (S w → wpAnyH P md l.toArray Q S fuel (listed.setIfInBounds i true) a w) → K' a w) → if Region.wanted o (yielded l.toArray a.tmps) = true then Oper.wp P o a w K' Q else K' (a.put o.dst undef) w) :
    AllReadyH P md l.toArray Q S fuel listed a w [i] :=
  AllReadyH.cons (by rw [List.getElem?_toArray]; exact hi) h AllReadyH.nil
theorem readyTwo {P : Program} {md : Region.Mode} {l : List Oper} {Q : Exit → Act → World → Prop} {S : World → Prop} {i j : Nat} {o o' : Oper} {fuel : Nat} {listed : Array Bool} {a : Act} {w : World} (hi : l[i]? = some o) (hj : l[j]? = some o')
    (h : ∀ K' : Act → World → Prop, Shut (∀ a w, S w → (S w → wpAnyH P md l.toArray Q S fuel (listed.setIfInBounds i true) a w) → K' a w) → if Region.wanted o (yielded l.toArray a.tmps) = true then Oper.wp P o a w K' Q else K' (a.put o.dst undef) w)
    (h' : ∀ K' : Act → World → Prop, Shut (∀ a w, S w → (S w → wpAnyH P md l.toArray Q S fuel (listed.setIfInBounds j true) a w) → K' a w) → if Region.wanted o' (yielded l.toArray a.tmps) = true then Oper.wp P o' a w K' Q else K' (a.put o'.dst undef) w) :
    AllReadyH P md l.toArray Q S fuel listed a w [i, j] :=
  AllReadyH.cons (by rw [List.getElem?_toArray]; exact hi) h (readyOne hj h')
theorem belNew0 (x : World) (o : Obj) : Below x.heap.size x (x.alloc o).drew := ((Below.refl _ _).alloc (Nat.le_refl _) _).drew
theorem keepS {W x y : World} {p : Addr} {v : Value} (h : Below W.heap.size W x ∧ x.cell? p = some v) (hb : Below x.heap.size x y) : Below W.heap.size W y ∧ y.cell? p = some v :=
  ⟨h.1.trans (hb.mono h.1.size), (hb.cell (World.block_lt_of_cell? _ _ h.2)).trans h.2⟩

set_option maxRecDepth 100000 in
set_option maxHeartbeats 8000000 in
theorem specRecText_any (r : Rc) (w : World) (h1 : r.user.size ≤ 1099511627776) (h2 : r.name.size ≤ 1099511627776) (h3 : r.text.size ≤ 1099511627776) :
    Calls Tryz.prog 36 #[r.v] w fun e w' => e = .returned (rtT r) ∧ Below w.heap.size w w' := by
  have b0 : Below w.heap.size w (w.alloc (.cells r.cs 66)) := (Below.refl _ _).alloc (Nat.le_refl _) _
  have hx := Box.new w r.cs 66
  obtain ⟨c0, c1, c2, c3, c4, c5, c6, c7⟩ := hx.rec
  by_cases hok : r.ok
  · have HRT := Lib.hid (rtT_yes hok)
    have htx := tx_sum r
    obtain ⟨g1, g2, g3, g4, g5, g6, g7, g8⟩ := r.ok_small hok
    have HOK := Lib.hid (decide_eq_true hok)
    obtain ⟨kind, valid, uid, next, flags, user, name, text⟩ := r
    unfold Rc.v
    unfold Rc.cs at c0 c1 c2 c3 c4 c5 c6 c7 b0 hx
    simp only at c0 c1 c2 c3 c4 c5 c6 c7 b0 hx g1 g2 g3 g4 g5 g6 g7 g8 htx h1 h2 h3 ⊢
    have hRO := fun wx => specRecOk_any ⟨kind, valid, uid, next, flags, user, name, text⟩ wx h1 h2 h3
    unfold Rc.v at hRO
    simp only at hRO
    have HRO := Lib.hid hRO
    clear hRO
    have s1 := vtB_five (n := valid.toNat) (by omega)
    have s2 := vtB_five (n := uid.toNat) (by omega)
    have s3 := vtB_five (n := next.toNat) (by omega)
    have s4 := vtB_five (n := flags.toNat) (by omega)
    have s5 : (shB user).size ≤ 1000 := by have := vtB_five (n := user.size) (by omega); unfold shB; rw [ByteArray.size_append]; omega
    have s6 : (shB name).size ≤ 1000 := by have := vtB_five (n := name.size) (by omega); unfold shB; rw [ByteArray.size_append]; omega
    have s7 : (shB text).size ≤ 1000 := by have := vtB_five (n := text.size) (by omega); unfold shB; rw [ByteArray.size_append]; omega
    have hkb := kind_byte kind g1.1 g1.2
    have hcv : ∀ (x : World) (g : Nat), x.cell? ⟨g, 0, none⟩ = some (.int .u8 kind) → (convert 106 9 (.slice (some ⟨g, 0, none⟩) 1 1)).run Tryz.prog x = .ok (.string ⟨#[UInt8.ofNat kind.toNat]⟩) x := by
      intro x g hx
      refine run_convert_bytes_back (P := Tryz.prog) _ 106 9 5 ⟨g, 0, none⟩ 1 [UInt8.ofNat kind.toNat] Tryz.underlying106 Tryz.underlying5 Tryz.underlying9 fun j hj => ?_
      have hj0 : j = 0 := by simpa using hj
      subst hj0
      show x.cell? ⟨g, 0, none⟩ = some (.int .u8 ((UInt8.ofNat kind.toNat).toNat : Int))
      rw [hx, ← hkb]
    have hwr := kind_wrap kind g1.1 g1.2
    obtain ⟨A0, hA0⟩ : ∃ A : ByteArray, (⟨#[UInt8.ofNat kind.toNat]⟩ : ByteArray) = A := ⟨_, rfl⟩
    have z0 : A0.size = 1 := by rw [← hA0]; rfl
    rw [hA0] at hcv htx
    obtain ⟨A1, hA1⟩ : ∃ A : ByteArray, A0 ++ vtB valid.toNat = A := ⟨_, rfl⟩
    have z1 : A1.size ≤ 100 := by rw [← hA1, ByteArray.size_append]; omega
    have ad1 := fun wx => run_string_add_sum (P := Tryz.prog) (w := wx) A0 (vtB valid.toNat) (by omega)
    rw [hA1] at ad1 htx
    obtain ⟨A2, hA2⟩ : ∃ A : ByteArray, A1 ++ vtB uid.toNat = A := ⟨_, rfl⟩
    have z2 : A2.size ≤ 200 := by rw [← hA2, ByteArray.size_append]; omega
    have ad2 := fun wx => run_string_add_sum (P := Tryz.prog) (w := wx) A1 (vtB uid.toNat) (by omega)
    rw [hA2] at ad2 htx
    obtain ⟨A3, hA3⟩ : ∃ A : ByteArray, A2 ++ vtB next.toNat = A := ⟨_, rfl⟩
    have z3 : A3.size ≤ 300 := by rw [← hA3, ByteArray.size_append]; omega
    have ad3 := fun wx => run_string_add_sum (P := Tryz.prog) (w := wx) A2 (vtB next.toNat) (by omega)
    rw [hA3] at ad3 htx
    obtain ⟨A4, hA4⟩ : ∃ A : ByteArray, A3 ++ vtB flags.toNat = A := ⟨_, rfl⟩
    have z4 : A4.size ≤ 400 := by rw [← hA4, ByteArray.size_append]; omega
    have ad4 := fun wx => run_string_add_sum (P := Tryz.prog) (w := wx) A3 (vtB flags.toNat) (by omega)
    rw [hA4] at ad4 htx
    obtain ⟨A5, hA5⟩ : ∃ A : ByteArray, A4 ++ shB user = A := ⟨_, rfl⟩
    have z5 : A5.size ≤ 1400 := by rw [← hA5, ByteArray.size_append]; omega
    have ad5 := fun wx => run_string_add_sum (P := Tryz.prog) (w := wx) A4 (shB user) (by omega)
    rw [hA5] at ad5 htx
    obtain ⟨A6, hA6⟩ : ∃ A : ByteArray, A5 ++ shB name = A := ⟨_, rfl⟩
    have z6 : A6.size ≤ 2400 := by rw [← hA6, ByteArray.size_append]; omega
    have ad6 := fun wx => run_string_add_sum (P := Tryz.prog) (w := wx) A5 (shB name) (by omega)
    rw [hA6] at ad6 htx
    obtain ⟨A7, hA7⟩ : ∃ A : ByteArray, A6 ++ shB text = A := ⟨_, rfl⟩
    have ad7 := fun wx => run_string_add_sum (P := Tryz.prog) (w := wx) A6 (shB text) (by omega)
    rw [hA7] at ad7 htx
    clear hA0 hA1 hA2 hA3 hA4 hA5 hA6 hA7 z0 z1 z2 z3 z4 z5 z6 s1 s2 s3 s4 s5 s6 s7 hkb
    have HCV := Lib.hid hcv
    clear hcv
    go_enter Tryz.func36, Tryz.ntmps36
    go_upto_region 3 with (go_at_call 55; refine (HRO.out _).mono ?_; rintro e w2 ⟨rfl, k2⟩; rw [HOK.out])
    generalize w.alloc (.cells #[.int .i64 kind, .int .i64 valid, .int .i64 uid, .int .i64 next, .int .i64 flags, .string user, .string name, .string text] 66) = W at hx b0 k2
    have b2 := Lib.hid (b0.trans (k2.mono b0.size))
    have x2 := hx.later k2
    have r0 : ∀ x, Below w2.heap.size w2 x → x.cell? ⟨w.heap.size, 0, none⟩ = some (.int .i64 kind) := fun x hb => (x2.later hb).cell 0 _ rfl
    have r1 : ∀ x, Below w2.heap.size w2 x → x.cell? ⟨w.heap.size, 1, none⟩ = some (.int .i64 valid) := fun x hb => (x2.later hb).cell 1 _ rfl
    have r2 : ∀ x, Below w2.heap.size w2 x → x.cell? ⟨w.heap.size, 2, none⟩ = some (.int .i64 uid) := fun x hb => (x2.later hb).cell 2 _ rfl
    have r3 : ∀ x, Below w2.heap.size w2 x → x.cell? ⟨w.heap.size, 3, none⟩ = some (.int .i64 next) := fun x hb => (x2.later hb).cell 3 _ rfl
    have r4 : ∀ x, Below w2.heap.size w2 x → x.cell? ⟨w.heap.size, 4, none⟩ = some (.int .i64 flags) := fun x hb => (x2.later hb).cell 4 _ rfl
    have r5 : ∀ x, Below w2.heap.size w2 x → x.cell? ⟨w.heap.size, 5, none⟩ = some (.string user) := fun x hb => (x2.later hb).cell 5 _ rfl
    have r6 : ∀ x, Below w2.heap.size w2 x → x.cell? ⟨w.heap.size, 6, none⟩ = some (.string name) := fun x hb => (x2.later hb).cell 6 _ rfl
    have r7 : ∀ x, Below w2.heap.size w2 x → x.cell? ⟨w.heap.size, 7, none⟩ = some (.string text) := fun x hb => (x2.later hb).cell 7 _ rfl
    have HK0 : Hid (Below w2.heap.size w2 w2.drew) := (Below.refl _ _).drew
    have HTX := Lib.hid htx
    clear htx c0 c1 c2 c3 c4 c5 c6 c7 hx x2 b0 k2 HRO HOK
    refine wp_region_held_drew (S := fun x => Below w2.heap.size w2 x) (by kernel_rfl) HK0.out (fun hHeld => ?_)
    refine takeL (i := 0) (v := .pointer (some ⟨w.heap.size, 0, none⟩)) rfl (by kernel_rfl) (by kernel_rfl) (by kernel_rfl) (fun _ _ _ h => h) (Or.inl ⟨by rfl, ?_⟩) (by assumption) ?_
    · intro x hSx; go_simp
    try simp only [Act.put, List.setIfInBounds_toArray, List.set_cons_zero, List.set_cons_succ]
    refine takeL (i := 1) (v := .int .i64 kind) rfl (by kernel_rfl) (by kernel_rfl) (by kernel_rfl) (fun _ _ _ h => h) (Or.inl ⟨by rfl, ?_⟩) (by assumption) ?_
    · intro x hSx; have rr := r0 x hSx; go_simp
    try simp only [Act.put, List.setIfInBounds_toArray, List.set_cons_zero, List.set_cons_succ]
    refine takeL (i := 2) (v := .int .u8 kind) rfl (by kernel_rfl) (by kernel_rfl) (by kernel_rfl) (fun _ _ _ h => h) (Or.inl ⟨by rfl, ?_⟩) (by assumption) ?_
    · intro x hSx; go_simp
    try simp only [Act.put, List.setIfInBounds_toArray, List.set_cons_zero, List.set_cons_succ]
    refine takeL (i := 5) (v := .pointer (some ⟨w.heap.size, 1, none⟩)) rfl (by kernel_rfl) (by kernel_rfl) (by kernel_rfl) (fun _ _ _ h => h) (Or.inl ⟨by rfl, ?_⟩) (by assumption) ?_
    · intro x hSx; go_simp
    try simp only [Act.put, List.setIfInBounds_toArray, List.set_cons_zero, List.set_cons_succ]
    refine takeL (i := 6) (v := .int .i64 valid) rfl (by kernel_rfl) (by kernel_rfl) (by kernel_rfl) (fun _ _ _ h => h) (Or.inl ⟨by rfl, ?_⟩) (by assumption) ?_
    · intro x hSx; have rr := r1 x hSx; go_simp
    try simp only [Act.put, List.setIfInBounds_toArray, List.set_cons_zero, List.set_cons_succ]
    refine takeL (i := 9) (v := .pointer (some ⟨w.heap.size, 2, none⟩)) rfl (by kernel_rfl) (by kernel_rfl) (by kernel_rfl) (fun _ _ _ h => h) (Or.inl ⟨by rfl, ?_⟩) (by assumption) ?_
    · intro x hSx; go_simp
    try simp only [Act.put, List.setIfInBounds_toArray, List.set_cons_zero, List.set_cons_succ]
    refine takeL (i := 10) (v := .int .i64 uid) rfl (by kernel_rfl) (by kernel_rfl) (by kernel_rfl) (fun _ _ _ h => h) (Or.inl ⟨by rfl, ?_⟩) (by assumption) ?_
    · intro x hSx; have rr := r2 x hSx; go_simp
    try simp only [Act.put, List.setIfInBounds_toArray, List.set_cons_zero, List.set_cons_succ]
    refine takeL (i := 13) (v := .pointer (some ⟨w.heap.size, 3, none⟩)) rfl (by kernel_rfl) (by kernel_rfl) (by kernel_rfl) (fun _ _ _ h => h) (Or.inl ⟨by rfl, ?_⟩) (by assumption) ?_
    · intro x hSx; go_simp
    try simp only [Act.put, List.setIfInBounds_toArray, List.set_cons_zero, List.set_cons_succ]
    refine takeL (i := 14) (v := .int .i64 next) rfl (by kernel_rfl) (by kernel_rfl) (by kernel_rfl) (fun _ _ _ h => h) (Or.inl ⟨by rfl, ?_⟩) (by assumption) ?_
    · intro x hSx; have rr := r3 x hSx; go_simp
    try simp only [Act.put, List.setIfInBounds_toArray, List.set_cons_zero, List.set_cons_succ]
    refine takeL (i := 17) (v := .pointer (some ⟨w.heap.size, 4, none⟩)) rfl (by kernel_rfl) (by kernel_rfl) (by kernel_rfl) (fun _ _ _ h => h) (Or.inl ⟨by rfl, ?_⟩) (by assumption) ?_
    · intro x hSx; go_simp
    try simp only [Act.put, List.setIfInBounds_toArray, List.set_cons_zero, List.set_cons_succ]
    refine takeL (i := 18) (v := .int .i64 flags) rfl (by kernel_rfl) (by kernel_rfl) (by kernel_rfl) (fun _ _ _ h => h) (Or.inl ⟨by rfl, ?_⟩) (by assumption) ?_
    · intro x hSx; have rr := r4 x hSx; go_simp
    try simp only [Act.put, List.setIfInBounds_toArray, List.set_cons_zero, List.set_cons_succ]
    refine takeL (i := 21) (v := .pointer (some ⟨w.heap.size, 5, none⟩)) rfl (by kernel_rfl) (by kernel_rfl) (by kernel_rfl) (fun _ _ _ h => h) (Or.inl ⟨by rfl, ?_⟩) (by assumption) ?_
    · intro x hSx; go_simp
    try simp only [Act.put, List.setIfInBounds_toArray, List.set_cons_zero, List.set_cons_succ]
    refine takeL (i := 22) (v := .string user) rfl (by kernel_rfl) (by kernel_rfl) (by kernel_rfl) (fun _ _ _ h => h) (Or.inl ⟨by rfl, ?_⟩) (by assumption) ?_
    · intro x hSx; have rr := r5 x hSx; go_simp
    try simp only [Act.put, List.setIfInBounds_toArray, List.set_cons_zero, List.set_cons_succ]
    refine takeL (i := 25) (v := .pointer (some ⟨w.heap.size, 6, none⟩)) rfl (by kernel_rfl) (by kernel_rfl) (by kernel_rfl) (fun _ _ _ h => h) (Or.inl ⟨by rfl, ?_⟩) (by assumption) ?_
    · intro x hSx; go_simp
    try simp only [Act.put, List.setIfInBounds_toArray, List.set_cons_zero, List.set_cons_succ]
    refine takeL (i := 26) (v := .string name) rfl (by kernel_rfl) (by kernel_rfl) (by kernel_rfl) (fun _ _ _ h => h) (Or.inl ⟨by rfl, ?_⟩) (by assumption) ?_
    · intro x hSx; have rr := r6 x hSx; go_simp
    try simp only [Act.put, List.setIfInBounds_toArray, List.set_cons_zero, List.set_cons_succ]
    refine takeL (i := 29) (v := .pointer (some ⟨w.heap.size, 7, none⟩)) rfl (by kernel_rfl) (by kernel_rfl) (by kernel_rfl) (fun _ _ _ h => h) (Or.inl ⟨by rfl, ?_⟩) (by assumption) ?_
    · intro x hSx; go_simp
    try simp only [Act.put, List.setIfInBounds_toArray, List.set_cons_zero, List.set_cons_succ]
    refine takeL (i := 30) (v := .string text) rfl (by kernel_rfl) (by kernel_rfl) (by kernel_rfl) (fun _ _ _ h => h) (Or.inl ⟨by rfl, ?_⟩) (by assumption) ?_
    · intro x hSx; have rr := r7 x hSx; go_simp
    try simp only [Act.put, List.setIfInBounds_toArray, List.set_cons_zero, List.set_cons_succ]
    refine wpAnyH_ready (rs := [3, 7]) (by kernel_rfl) (by simp) ?_
    refine readyTwo rfl rfl (fun K hK => ?_) (fun K hK => ?_)
    · go_simp
      refine hK.out _ _ (belNew0 _ _) (fun hHeld => ?_)
      clear hK K
      try simp only [Act.put, List.setIfInBounds_toArray, List.set_cons_zero, List.set_cons_succ]
      refine wpAnyH_sharper (S' := fun x => Below w2.heap.size w2 x ∧ x.cell? ⟨w2.heap.size, 0, none⟩ = some (.int .u8 kind)) (fun _ h => h.1) ?_
      have hS2 : (fun x => Below w2.heap.size w2 x ∧ x.cell? ⟨w2.heap.size, 0, none⟩ = some (.int .u8 kind)) ((w2.alloc (.cells #[.int .u8 kind] 5)).drew) := ⟨hHeld, by simp⟩
      clear hHeld
      refine takeL (i := 4) (v := .string A0) rfl (by kernel_rfl) (by kernel_rfl) (by kernel_rfl) (fun _ _ _ h => h) (Or.inl ⟨by rfl, ?_⟩) (by assumption) ?_
      · intro x hSx; have hc := HCV.out x _ hSx.2; go_simp
      try simp only [Act.put, List.setIfInBounds_toArray, List.set_cons_zero, List.set_cons_succ]
      refine wpAnyH_ready (rs := [7]) (by kernel_rfl) (by simp) ?_
      refine readyOne rfl (fun K hK => ?_)
      go_simp; go_at_call 60; refine (l01VarZ_any _ _ (by omega) (by omega)).mono ?_; rintro e wT ⟨rfl, kT⟩
      go_wp2_with fail
      refine hK.out _ _ (keepS hS2 kT) (fun hHeld => ?_)
      clear hK K
      try simp only [Act.put, List.setIfInBounds_toArray, List.set_cons_zero, List.set_cons_succ]
      have hS2 := hHeld
      clear hHeld
      refine takeL (i := 8) (v := .string A1) rfl (by kernel_rfl) (by kernel_rfl) (by kernel_rfl) (fun _ _ _ h => h) (Or.inl ⟨by rfl, ?_⟩) (by assumption) ?_
      · intro x hSx; go_simp
      try simp only [Act.put, List.setIfInBounds_toArray, List.set_cons_zero, List.set_cons_succ]
      refine wpAnyH_ready (rs := [11]) (by kernel_rfl) (by simp) ?_
      refine readyOne rfl (fun K hK => ?_)
      go_simp; go_at_call 60; refine (l01VarZ_any _ _ (by omega) (by omega)).mono ?_; rintro e wT ⟨rfl, kT⟩
      go_wp2_with fail
      refine hK.out _ _ (keepS hS2 kT) (fun hHeld => ?_)
      clear hK K
      try simp only [Act.put, List.setIfInBounds_toArray, List.set_cons_zero, List.set_cons_succ]
      have hS2 := hHeld
      clear hHeld
      refine takeL (i := 12) (v := .string A2) rfl (by kernel_rfl) (by kernel_rfl) (by kernel_rfl) (fun _ _ _ h => h) (Or.inl ⟨by rfl, ?_⟩) (by assumption) ?_
      · intro x hSx; go_simp
      try simp only [Act.put, List.setIfInBounds_toArray, List.set_cons_zero, List.set_cons_succ]
      refine wpAnyH_ready (rs := [15]) (by kernel_rfl) (by simp) ?_
      refine readyOne rfl (fun K hK => ?_)
      go_simp; go_at_call 60; refine (l01VarZ_any _ _ (by omega) (by omega)).mono ?_; rintro e wT ⟨rfl, kT⟩
      go_wp2_with fail
      refine hK.out _ _ (keepS hS2 kT) (fun hHeld => ?_)
      clear hK K
      try simp only [Act.put, List.setIfInBounds_toArray, List.set_cons_zero, List.set_cons_succ]
      have hS2 := hHeld
      clear hHeld
      refine takeL (i := 16) (v := .string A3) rfl (by kernel_rfl) (by kernel_rfl) (by kernel_rfl) (fun _ _ _ h => h) (Or.inl ⟨by rfl, ?_⟩) (by assumption) ?_
      · intro x hSx; go_simp
      try simp only [Act.put, List.setIfInBounds_toArray, List.set_cons_zero, List.set_cons_succ]
      refine wpAnyH_ready (rs := [19]) (by kernel_rfl) (by simp) ?_
      refine readyOne rfl (fun K hK => ?_)
      go_simp; go_at_call 60; refine (l01VarZ_any _ _ (by omega) (by omega)).mono ?_; rintro e wT ⟨rfl, kT⟩
      go_wp2_with fail
      refine hK.out _ _ (keepS hS2 kT) (fun hHeld => ?_)
      clear hK K
      try simp only [Act.put, List.setIfInBounds_toArray, List.set_cons_zero, List.set_cons_succ]
      have hS2 := hHeld
      clear hHeld
      refine takeL (i := 20) (v := .string A4) rfl (by kernel_rfl) (by kernel_rfl) (by kernel_rfl) (fun _ _ _ h => h) (Or.inl ⟨by rfl, ?_⟩) (by assumption) ?_
      · intro x hSx; go_simp
      try simp only [Act.put, List.setIfInBounds_toArray, List.set_cons_zero, List.set_cons_succ]
      refine wpAnyH_ready (rs := [23]) (by kernel_rfl) (by simp) ?_
      refine readyOne rfl (fun K hK => ?_)
      go_simp; go_at_call 61; refine (specShortB_any _ _ (by omega)).mono ?_; rintro e wT ⟨rfl, kT⟩
      go_wp2_with fail
      refine hK.out _ _ (keepS hS2 kT) (fun hHeld => ?_)
      clear hK K
      try simp only [Act.put, List.setIfInBounds_toArray, List.set_cons_zero, List.set_cons_succ]
      have hS2 := hHeld
      clear hHeld
      refine takeL (i := 24) (v := .string A5) rfl (by kernel_rfl) (by kernel_rfl) (by kernel_rfl) (fun _ _ _ h => h) (Or.inl ⟨by rfl, ?_⟩) (by assumption) ?_
      · intro x hSx; go_simp
      try simp only [Act.put, List.setIfInBounds_toArray, List.set_cons_zero, List.set_cons_succ]
      refine wpAnyH_ready (rs := [27]) (by kernel_rfl) (by simp) ?_
      refine readyOne rfl (fun K hK => ?_)
      go_simp; go_at_call 61; refine (specShortB_any _ _ (by omega)).mono ?_; rintro e wT ⟨rfl, kT⟩
      go_wp2_with fail
      refine hK.out _ _ (keepS hS2 kT) (fun hHeld => ?_)
      clear hK K
      try simp only [Act.put, List.setIfInBounds_toArray, List.set_cons_zero, List.set_cons_succ]
      have hS2 := hHeld
      clear hHeld
      refine takeL (i := 28) (v := .string A6) rfl (by kernel_rfl) (by kernel_rfl) (by kernel_rfl) (fun _ _ _ h => h) (Or.inl ⟨by rfl, ?_⟩) (by assumption) ?_
      · intro x hSx; go_simp
      try simp only [Act.put, List.setIfInBounds_toArray, List.set_cons_zero, List.set_cons_succ]
      refine wpAnyH_ready (rs := [31]) (by kernel_rfl) (by simp) ?_
      refine readyOne rfl (fun K hK => ?_)
      go_simp; go_at_call 61; refine (specShortB_any _ _ (by omega)).mono ?_; rintro e wT ⟨rfl, kT⟩
      go_wp2_with fail
      refine hK.out _ _ (keepS hS2 kT) (fun hHeld => ?_)
      clear hK K
      try simp only [Act.put, List.setIfInBounds_toArray, List.set_cons_zero, List.set_cons_succ]
      have hS2 := hHeld
      clear hHeld
      refine takeL (i := 32) (v := .string A7) rfl (by kernel_rfl) (by kernel_rfl) (by kernel_rfl) (fun _ _ _ h => h) (Or.inl ⟨by rfl, ?_⟩) (by assumption) ?_
      · intro x hSx; go_simp
      try simp only [Act.put, List.setIfInBounds_toArray, List.set_cons_zero, List.set_cons_succ]
      refine takeL (i := 33) (v := .string A7) rfl (by kernel_rfl) (by kernel_rfl) (by kernel_rfl) (fun _ _ _ h => h) (Or.inl ⟨by rfl, ?_⟩) (by assumption) ?_
      · intro x hSx; go_simp
      try simp only [Act.put, List.setIfInBounds_toArray, List.set_cons_zero, List.set_cons_succ]
      refine takeL (i := 34) (v := .bool true) rfl (by kernel_rfl) (by kernel_rfl) (by kernel_rfl) (fun _ _ _ h => h) (Or.inl ⟨by rfl, ?_⟩) (by assumption) ?_
      · intro x hSx; go_simp
      try simp only [Act.put, List.setIfInBounds_toArray, List.set_cons_zero, List.set_cons_succ]
      refine wpAnyH_done (by kernel_rfl) ?_ _
      have BH := Lib.hid hS2.1
      clear hS2
      go_wp2
      go_ret2
      exact ⟨by rw [HRT.out, HTX.out]; rfl, b2.out.trans (BH.out.mono b2.out.size)⟩
    go_simp; go_at_call 60; refine (l01VarZ_any _ _ (by omega) (by omega)).mono ?_; rintro e wT ⟨rfl, kT⟩
    go_wp2_with fail
    refine hK.out _ _ (below_next hHeld kT) (fun hHeld => ?_)
    clear hK K
    try simp only [Act.put, List.setIfInBounds_toArray, List.set_cons_zero, List.set_cons_succ]
    refine wpAnyH_ready (rs := [3, 11]) (by kernel_rfl) (by simp) ?_
    refine readyTwo rfl rfl (fun K hK => ?_) (fun K hK => ?_)
    · go_simp
      refine hK.out _ _ (below_next hHeld (belNew _ _)) (fun hHeld => ?_)
      clear hK K
      try simp only [Act.put, List.setIfInBounds_toArray, List.set_cons_zero, List.set_cons_succ]
      refine wpAnyH_sharper (S' := fun x => Below w2.heap.size w2 x ∧ x.cell? ⟨wT.heap.size, 0, none⟩ = some (.int .u8 kind)) (fun _ h => h.1) ?_
      have hS2 : (fun x => Below w2.heap.size w2 x ∧ x.cell? ⟨wT.heap.size, 0, none⟩ = some (.int .u8 kind)) (wT.alloc (.cells #[.int .u8 kind] 5)) := ⟨hHeld, by simp⟩
      clear hHeld
      refine takeL (i := 4) (v := .string A0) rfl (by kernel_rfl) (by kernel_rfl) (by kernel_rfl) (fun _ _ _ h => h) (Or.inl ⟨by rfl, ?_⟩) (by assumption) ?_
      · intro x hSx; have hc := HCV.out x _ hSx.2; go_simp
      try simp only [Act.put, List.setIfInBounds_toArray, List.set_cons_zero, List.set_cons_succ]
      refine takeL (i := 8) (v := .string A1) rfl (by kernel_rfl) (by kernel_rfl) (by kernel_rfl) (fun _ _ _ h => h) (Or.inl ⟨by rfl, ?_⟩) (by assumption) ?_
      · intro x hSx; go_simp
      try simp only [Act.put, List.setIfInBounds_toArray, List.set_cons_zero, List.set_cons_succ]
      refine wpAnyH_ready (rs := [11]) (by kernel_rfl) (by simp) ?_
      refine readyOne rfl (fun K hK => ?_)
      go_simp; go_at_call 60; refine (l01VarZ_any _ _ (by omega) (by omega)).mono ?_; rintro e wT ⟨rfl, kT⟩
      go_wp2_with fail
      refine hK.out _ _ (keepS hS2 kT) (fun hHeld => ?_)
      clear hK K
      try simp only [Act.put, List.setIfInBounds_toArray, List.set_cons_zero, List.set_cons_succ]
      have hS2 := hHeld
      clear hHeld
      refine takeL (i := 12) (v := .string A2) rfl (by kernel_rfl) (by kernel_rfl) (by kernel_rfl) (fun _ _ _ h => h) (Or.inl ⟨by rfl, ?_⟩) (by assumption) ?_
      · intro x hSx; go_simp
      try simp only [Act.put, List.setIfInBounds_toArray, List.set_cons_zero, List.set_cons_succ]
      refine wpAnyH_ready (rs := [15]) (by kernel_rfl) (by simp) ?_
      refine readyOne rfl (fun K hK => ?_)
      go_simp; go_at_call 60; refine (l01VarZ_any _ _ (by omega) (by omega)).mono ?_; rintro e wT ⟨rfl, kT⟩
      go_wp2_with fail
      refine hK.out _ _ (keepS hS2 kT) (fun hHeld => ?_)
      clear hK K
      try simp only [Act.put, List.setIfInBounds_toArray, List.set_cons_zero, List.set_cons_succ]
      have hS2 := hHeld
      clear hHeld
      refine takeL (i := 16) (v := .string A3) rfl (by kernel_rfl) (by kernel_rfl) (by kernel_rfl) (fun _ _ _ h => h) (Or.inl ⟨by rfl, ?_⟩) (by assumption) ?_
      · intro x hSx; go_simp
      try simp only [Act.put, List.setIfInBounds_toArray, List.set_cons_zero, List.set_cons_succ]
      refine wpAnyH_ready (rs := [19]) (by kernel_rfl) (by simp) ?_
      refine readyOne rfl (fun K hK => ?_)
      go_simp; go_at_call 60; refine (l01VarZ_any _ _ (by omega) (by omega)).mono ?_; rintro e wT ⟨rfl, kT⟩
      go_wp2_with fail
      refine hK.out _ _ (keepS hS2 kT) (fun hHeld => ?_)
      clear hK K
      try simp only [Act.put, List.setIfInBounds_toArray, List.set_cons_zero, List.set_cons_succ]
      have hS2 := hHeld
      clear hHeld
      refine takeL (i := 20) (v := .string A4) rfl (by kernel_rfl) (by kernel_rfl) (by kernel_rfl) (fun _ _ _ h => h) (Or.inl ⟨by rfl, ?_⟩) (by assumption) ?_
      · intro x hSx; go_simp
      try simp only [Act.put, List.setIfInBounds_toArray, List.set_cons_zero, List.set_cons_succ]
      refine wpAnyH_ready (rs := [23]) (by kernel_rfl) (by simp) ?_
      refine readyOne rfl (fun K hK => ?_)
      go_simp; go_at_call 61; refine (specShortB_any _ _ (by omega)).mono ?_; rintro e wT ⟨rfl, kT⟩
      go_wp2_with fail
      refine hK.out _ _ (keepS hS2 kT) (fun hHeld => ?_)
      clear hK K
      try simp only [Act.put, List.setIfInBounds_toArray, List.set_cons_zero, List.set_cons_succ]
      have hS2 := hHeld
      clear hHeld
      refine takeL (i := 24) (v := .string A5) rfl (by kernel_rfl) (by kernel_rfl) (by kernel_rfl) (fun _ _ _ h => h) (Or.inl ⟨by rfl, ?_⟩) (by assumption) ?_
      · intro x hSx; go_simp
      try simp only [Act.put, List.setIfInBounds_toArray, List.set_cons_zero, List.set_cons_succ]
      refine wpAnyH_ready (rs := [27]) (by kernel_rfl) (by simp) ?_
      refine readyOne rfl (fun K hK => ?_)
      go_simp; go_at_call 61; refine (specShortB_any _ _ (by omega)).mono ?_; rintro e wT ⟨rfl, kT⟩
      go_wp2_with fail
      refine hK.out _ _ (keepS hS2 kT) (fun hHeld => ?_)
      clear hK K
      try simp only [Act.put, List.setIfInBounds_toArray, List.set_cons_zero, List.set_cons_succ]
      have hS2 := hHeld
      clear hHeld
      refine takeL (i := 28) (v := .string A6) rfl (by kernel_rfl) (by kernel_rfl) (by kernel_rfl) (fun _ _ _ h => h) (Or.inl ⟨by rfl, ?_⟩) (by assumption) ?_
      · intro x hSx; go_simp
      try simp only [Act.put, List.setIfInBounds_toArray, List.set_cons_zero, List.set_cons_succ]
      refine wpAnyH_ready (rs := [31]) (by kernel_rfl) (by simp) ?_
      refine readyOne rfl (fun K hK => ?_)
      go_simp; go_at_call 61; refine (specShortB_any _ _ (by omega)).mono ?_; rintro e wT ⟨rfl, kT⟩
      go_wp2_with fail
      refine hK.out _ _ (keepS hS2 kT) (fun hHeld => ?_)
      clear hK K
      try simp only [Act.put, List.setIfInBounds_toArray, List.set_cons_zero, List.set_cons_succ]
      have hS2 := hHeld
      clear hHeld
      refine takeL (i := 32) (v := .string A7) rfl (by kernel_rfl) (by kernel_rfl) (by kernel_rfl) (fun _ _ _ h => h) (Or.inl ⟨by rfl, ?_⟩) (by assumption) ?_
      · intro x hSx; go_simp
      try simp only [Act.put, List.setIfInBounds_toArray, List.set_cons_zero, List.set_cons_succ]
      refine takeL (i := 33) (v := .string A7) rfl (by kernel_rfl) (by kernel_rfl) (by kernel_rfl) (fun _ _ _ h => h) (Or.inl ⟨by rfl, ?_⟩) (by assumption) ?_
      · intro x hSx; go_simp
      try simp only [Act.put, List.setIfInBounds_toArray, List.set_cons_zero, List.set_cons_succ]
      refine takeL (i := 34) (v := .bool true) rfl (by kernel_rfl) (by kernel_rfl) (by kernel_rfl) (fun _ _ _ h => h) (Or.inl ⟨by rfl, ?_⟩) (by assumption) ?_
      · intro x hSx; go_simp
      try simp only [Act.put, List.setIfInBounds_toArray, List.set_cons_zero, List.set_cons_succ]
      refine wpAnyH_done (by kernel_rfl) ?_ _
      have BH := Lib.hid hS2.1
      clear hS2
      go_wp2
      go_ret2
      exact ⟨by rw [HRT.out, HTX.out]; rfl, b2.out.trans (BH.out.mono b2.out.size)⟩
    go_simp; go_at_call 60; refine (l01VarZ_any _ _ (by omega) (by omega)).mono ?_; rintro e wT ⟨rfl, kT⟩
    go_wp2_with fail
    refine hK.out _ _ (below_next hHeld kT) (fun hHeld => ?_)
    clear hK K
    try simp only [Act.put, List.setIfInBounds_toArray, List.set_cons_zero, List.set_cons_succ]
    refine wpAnyH_ready (rs := [3, 15]) (by kernel_rfl) (by simp) ?_
    refine readyTwo rfl rfl (fun K hK => ?_) (fun K hK => ?_)
    · go_simp
      refine hK.out _ _ (below_next hHeld (belNew _ _)) (fun hHeld => ?_)
      clear hK K
      try simp only [Act.put, List.setIfInBounds_toArray, List.set_cons_zero, List.set_cons_succ]
      refine wpAnyH_sharper (S' := fun x => Below w2.heap.size w2 x ∧ x.cell? ⟨wT.heap.size, 0, none⟩ = some (.int .u8 kind)) (fun _ h => h.1) ?_
      have hS2 : (fun x => Below w2.heap.size w2 x ∧ x.cell? ⟨wT.heap.size, 0, none⟩ = some (.int .u8 kind)) (wT.alloc (.cells #[.int .u8 kind] 5)) := ⟨hHeld, by simp⟩
      clear hHeld
      refine takeL (i := 4) (v := .string A0) rfl (by kernel_rfl) (by kernel_rfl) (by kernel_rfl) (fun _ _ _ h => h) (Or.inl ⟨by rfl, ?_⟩) (by assumption) ?_
      · intro x hSx; have hc := HCV.out x _ hSx.2; go_simp
      try simp only [Act.put, List.setIfInBounds_toArray, List.set_cons_zero, List.set_cons_succ]
      refine takeL (i := 8) (v := .string A1) rfl (by kernel_rfl) (by kernel_rfl) (by kernel_rfl) (fun _ _ _ h => h) (Or.inl ⟨by rfl, ?_⟩) (by assumption) ?_
      · intro x hSx; go_simp
      try simp only [Act.put, List.setIfInBounds_toArray, List.set_cons_zero, List.set_cons_succ]
      refine takeL (i := 12) (v := .string A2) rfl (by kernel_rfl) (by kernel_rfl) (by kernel_rfl) (fun _ _ _ h => h) (Or.inl ⟨by rfl, ?_⟩) (by assumption) ?_
      · intro x hSx; go_simp
      try simp only [Act.put, List.setIfInBounds_toArray, List.set_cons_zero, List.set_cons_succ]
      refine wpAnyH_ready (rs := [15]) (by kernel_rfl) (by simp) ?_
      refine readyOne rfl (fun K hK => ?_)
      go_simp; go_at_call 60; refine (l01VarZ_any _ _ (by omega) (by omega)).mono ?_; rintro e wT ⟨rfl, kT⟩
      go_wp2_with fail
      refine hK.out _ _ (keepS hS2 kT) (fun hHeld => ?_)
      clear hK K
      try simp only [Act.put, List.setIfInBounds_toArray, List.set_cons_zero, List.set_cons_succ]
      have hS2 := hHeld
      clear hHeld
      refine takeL (i := 16) (v := .string A3) rfl (by kernel_rfl) (by kernel_rfl) (by kernel_rfl) (fun _ _ _ h => h) (Or.inl ⟨by rfl, ?_⟩) (by assumption) ?_
      · intro x hSx; go_simp
      try simp only [Act.put, List.setIfInBounds_toArray, List.set_cons_zero, List.set_cons_succ]
      refine wpAnyH_ready (rs := [19]) (by kernel_rfl) (by simp) ?_
      refine readyOne rfl (fun K hK => ?_)
      go_simp; go_at_call 60; refine (l01VarZ_any _ _ (by omega) (by omega)).mono ?_; rintro e wT ⟨rfl, kT⟩
      go_wp2_with fail
      refine hK.out _ _ (keepS hS2 kT) (fun hHeld => ?_)
      clear hK K
      try simp only [Act.put, List.setIfInBounds_toArray, List.set_cons_zero, List.set_cons_succ]
      have hS2 := hHeld
      clear hHeld
      refine takeL (i := 20) (v := .string A4) rfl (by kernel_rfl) (by kernel_rfl) (by kernel_rfl) (fun _ _ _ h => h) (Or.inl ⟨by rfl, ?_⟩) (by assumption) ?_
      · intro x hSx; go_simp
      try simp only [Act.put, List.setIfInBounds_toArray, List.set_cons_zero, List.set_cons_succ]
      refine wpAnyH_ready (rs := [23]) (by kernel_rfl) (by simp) ?_
      refine readyOne rfl (fun K hK => ?_)
      go_simp; go_at_call 61; refine (specShortB_any _ _ (by omega)).mono ?_; rintro e wT ⟨rfl, kT⟩
      go_wp2_with fail
      refine hK.out _ _ (keepS hS2 kT) (fun hHeld => ?_)
      clear hK K
      try simp only [Act.put, List.setIfInBounds_toArray, List.set_cons_zero, List.set_cons_succ]
      have hS2 := hHeld
      clear hHeld
      refine takeL (i := 24) (v := .string A5) rfl (by kernel_rfl) (by kernel_rfl) (by kernel_rfl) (fun _ _ _ h => h) (Or.inl ⟨by rfl, ?_⟩) (by assumption) ?_
      · intro x hSx; go_simp
      try simp only [Act.put, List.setIfInBounds_toArray, List.set_cons_zero, List.set_cons_succ]
      refine wpAnyH_ready (rs := [27]) (by kernel_rfl) (by simp) ?_
      refine readyOne rfl (fun K hK => ?_)
      go_simp; go_at_call 61; refine (specShortB_any _ _ (by omega)).mono ?_; rintro e wT ⟨rfl, kT⟩
      go_wp2_with fail
      refine hK.out _ _ (keepS hS2 kT) (fun hHeld => ?_)
      clear hK K
      try simp only [Act.put, List.setIfInBounds_toArray, List.set_cons_zero, List.set_cons_succ]
      have hS2 := hHeld
      clear hHeld
      refine takeL (i := 28) (v := .string A6) rfl (by kernel_rfl) (by kernel_rfl) (by kernel_rfl) (fun _ _ _ h => h) (Or.inl ⟨by rfl, ?_⟩) (by assumption) ?_
      · intro x hSx; go_simp
      try simp only [Act.put, List.setIfInBounds_toArray, List.set_cons_zero, List.set_cons_succ]
      refine wpAnyH_ready (rs := [31]) (by kernel_rfl) (by simp) ?_
      refine readyOne rfl (fun K hK => ?_)
      go_simp; go_at_call 61; refine (specShortB_any _ _ (by omega)).mono ?_; rintro e wT ⟨rfl, kT⟩
      go_wp2_with fail
      refine hK.out _ _ (keepS hS2 kT) (fun hHeld => ?_)
      clear hK K
      try simp only [Act.put, List.setIfInBounds_toArray, List.set_cons_zero, List.set_cons_succ]
      have hS2 := hHeld
      clear hHeld
      refine takeL (i := 32) (v := .string A7) rfl (by kernel_rfl) (by kernel_rfl) (by kernel_rfl) (fun _ _ _ h => h) (Or.inl ⟨by rfl, ?_⟩) (by assumption) ?_
      · intro x hSx; go_simp
      try simp only [Act.put, List.setIfInBounds_toArray, List.set_cons_zero, List.set_cons_succ]
      refine takeL (i := 33) (v := .string A7) rfl (by kernel_rfl) (by kernel_rfl) (by kernel_rfl) (fun _ _ _ h => h) (Or.inl ⟨by rfl, ?_⟩) (by assumption) ?_
      · intro x hSx; go_simp
      try simp only [Act.put, List.setIfInBounds_toArray, List.set_cons_zero, List.set_cons_succ]
      refine takeL (i := 34) (v := .bool true) rfl (by kernel_rfl) (by kernel_rfl) (by kernel_rfl) (fun _ _ _ h => h) (Or.inl ⟨by rfl, ?_⟩) (by assumption) ?_
      · intro x hSx; go_simp
      try simp only [Act.put, List.setIfInBounds_toArray, List.set_cons_zero, List.set_cons_succ]
      refine wpAnyH_done (by kernel_rfl) ?_ _
      have BH := Lib.hid hS2.1
      clear hS2
      go_wp2
      go_ret2
      exact ⟨by rw [HRT.out, HTX.out]; rfl, b2.out.trans (BH.out.mono b2.out.size)⟩
    go_simp; go_at_call 60; refine (l01VarZ_any _ _ (by omega) (by omega)).mono ?_; rintro e wT ⟨rfl, kT⟩
    go_wp2_with fail
    refine hK.out _ _ (below_next hHeld kT) (fun hHeld => ?_)
    clear hK K
    try simp only [Act.put, List.setIfInBounds_toArray, List.set_cons_zero, List.set_cons_succ]
    refine wpAnyH_ready (rs := [3, 19]) (by kernel_rfl) (by simp) ?_
    refine readyTwo rfl rfl (fun K hK => ?_) (fun K hK => ?_)
    · go_simp
      refine hK.out _ _ (below_next hHeld (belNew _ _)) (fun hHeld => ?_)
      clear hK K
      try simp only [Act.put, List.setIfInBounds_toArray, List.set_cons_zero, List.set_cons_succ]
      refine wpAnyH_sharper (S' := fun x => Below w2.heap.size w2 x ∧ x.cell? ⟨wT.heap.size, 0, none⟩ = some (.int .u8 kind)) (fun _ h => h.1) ?_
      have hS2 : (fun x => Below w2.heap.size w2 x ∧ x.cell? ⟨wT.heap.size, 0, none⟩ = some (.int .u8 kind)) (wT.alloc (.cells #[.int .u8 kind] 5)) := ⟨hHeld, by simp⟩
      clear hHeld
      refine takeL (i := 4) (v := .string A0) rfl (by kernel_rfl) (by kernel_rfl) (by kernel_rfl) (fun _ _ _ h => h) (Or.inl ⟨by rfl, ?_⟩) (by assumption) ?_
      · intro x hSx; have hc := HCV.out x _ hSx.2; go_simp
      try simp only [Act.put, List.setIfInBounds_toArray, List.set_cons_zero, List.set_cons_succ]
      refine takeL (i := 8) (v := .string A1) rfl (by kernel_rfl) (by kernel_rfl) (by kernel_rfl) (fun _ _ _ h => h) (Or.inl ⟨by rfl, ?_⟩) (by assumption) ?_
      · intro x hSx; go_simp
      try simp only [Act.put, List.setIfInBounds_toArray, List.set_cons_zero, List.set_cons_succ]
      refine takeL (i := 12) (v := .string A2) rfl (by kernel_rfl) (by kernel_rfl) (by kernel_rfl) (fun _ _ _ h => h) (Or.inl ⟨by rfl, ?_⟩) (by assumption) ?_
      · intro x hSx; go_simp
      try simp only [Act.put, List.setIfInBounds_toArray, List.set_cons_zero, List.set_cons_succ]
      refine takeL (i := 16) (v := .string A3) rfl (by kernel_rfl) (by kernel_rfl) (by kernel_rfl) (fun _ _ _ h => h) (Or.inl ⟨by rfl, ?_⟩) (by assumption) ?_
      · intro x hSx; go_simp
      try simp only [Act.put, List.setIfInBounds_toArray, List.set_cons_zero, List.set_cons_succ]
      refine wpAnyH_ready (rs := [19]) (by kernel_rfl) (by simp) ?_
      refine readyOne rfl (fun K hK => ?_)
      go_simp; go_at_call 60; refine (l01VarZ_any _ _ (by omega) (by omega)).mono ?_; rintro e wT ⟨rfl, kT⟩
      go_wp2_with fail
      refine hK.out _ _ (keepS hS2 kT) (fun hHeld => ?_)
      clear hK K
      try simp only [Act.put, List.setIfInBounds_toArray, List.set_cons_zero, List.set_cons_succ]
      have hS2 := hHeld
      clear hHeld
      refine takeL (i := 20) (v := .string A4) rfl (by kernel_rfl) (by kernel_rfl) (by kernel_rfl) (fun _ _ _ h => h) (Or.inl ⟨by rfl, ?_⟩) (by assumption) ?_
      · intro x hSx; go_simp
      try simp only [Act.put, List.setIfInBounds_toArray, List.set_cons_zero, List.set_cons_succ]
      refine wpAnyH_ready (rs := [23]) (by kernel_rfl) (by simp) ?_
      refine readyOne rfl (fun K hK => ?_)
      go_simp; go_at_call 61; refine (specShortB_any _ _ (by omega)).mono ?_; rintro e wT ⟨rfl, kT⟩
      go_wp2_with fail
      refine hK.out _ _ (keepS hS2 kT) (fun hHeld => ?_)
      clear hK K
      try simp only [Act.put, List.setIfInBounds_toArray, List.set_cons_zero, List.set_cons_succ]
      have hS2 := hHeld
      clear hHeld
      refine takeL (i := 24) (v := .string A5) rfl (by kernel_rfl) (by kernel_rfl) (by kernel_rfl) (fun _ _ _ h => h) (Or.inl ⟨by rfl, ?_⟩) (by assumption) ?_
      · intro x hSx; go_simp
      try simp only [Act.put, List.setIfInBounds_toArray, List.set_cons_zero, List.set_cons_succ]
      refine wpAnyH_ready (rs := [27]) (by kernel_rfl) (by simp) ?_
      refine readyOne rfl (fun K hK => ?_)
      go_simp; go_at_call 61; refine (specShortB_any _ _ (by omega)).mono ?_; rintro e wT ⟨rfl, kT⟩
      go_wp2_with fail
      refine hK.out _ _ (keepS hS2 kT) (fun hHeld => ?_)
      clear hK K
      try simp only [Act.put, List.setIfInBounds_toArray, List.set_cons_zero, List.set_cons_succ]
      have hS2 := hHeld
      clear hHeld
      refine takeL (i := 28) (v := .string A6) rfl (by kernel_rfl) (by kernel_rfl) (by kernel_rfl) (fun _ _ _ h => h) (Or.inl ⟨by rfl, ?_⟩) (by assumption) ?_
      · intro x hSx; go_simp
      try simp only [Act.put, List.setIfInBounds_toArray, List.set_cons_zero, List.set_cons_succ]
      refine wpAnyH_ready (rs := [31]) (by kernel_rfl) (by simp) ?_
      refine readyOne rfl (fun K hK => ?_)
      go_simp; go_at_call 61; refine (specShortB_any _ _ (by omega)).mono ?_; rintro e wT ⟨rfl, kT⟩
      go_wp2_with fail
      refine hK.out _ _ (keepS hS2 kT) (fun hHeld => ?_)
      clear hK K
      try simp only [Act.put, List.setIfInBounds_toArray, List.set_cons_zero, List.set_cons_succ]
      have hS2 := hHeld
      clear hHeld
      refine takeL (i := 32) (v := .string A7) rfl (by kernel_rfl) (by kernel_rfl) (by kernel_rfl) (fun _ _ _ h => h) (Or.inl ⟨by rfl, ?_⟩) (by assumption) ?_
      · intro x hSx; go_simp
      try simp only [Act.put, List.setIfInBounds_toArray, List.set_cons_zero, List.set_cons_succ]
      refine takeL (i := 33) (v := .string A7) rfl (by kernel_rfl) (by kernel_rfl) (by kernel_rfl) (fun _ _ _ h => h) (Or.inl ⟨by rfl, ?_⟩) (by assumption) ?_
      · intro x hSx; go_simp
      try simp only [Act.put, List.setIfInBounds_toArray, List.set_cons_zero, List.set_cons_succ]
      refine takeL (i := 34) (v := .bool true) rfl (by kernel_rfl) (by kernel_rfl) (by kernel_rfl) (fun _ _ _ h => h) (Or.inl ⟨by rfl, ?_⟩) (by assumption) ?_
      · intro x hSx; go_simp
      try simp only [Act.put, List.setIfInBounds_toArray, List.set_cons_zero, List.set_cons_succ]
      refine wpAnyH_done (by kernel_rfl) ?_ _
      have BH := Lib.hid hS2.1
      clear hS2
      go_wp2
      go_ret2
      exact ⟨by rw [HRT.out, HTX.out]; rfl, b2.out.trans (BH.out.mono b2.out.size)⟩
    go_simp; go_at_call 60; refine (l01VarZ_any _ _ (by omega) (by omega)).mono ?_; rintro e wT ⟨rfl, kT⟩
    go_wp2_with fail
    refine hK.out _ _ (below_next hHeld kT) (fun hHeld => ?_)
    clear hK K
    try simp only [Act.put, List.setIfInBounds_toArray, List.set_cons_zero, List.set_cons_succ]
    refine wpAnyH_ready (rs := [3, 23]) (by kernel_rfl) (by simp) ?_
    refine readyTwo rfl rfl (fun K hK => ?_) (fun K hK => ?_)
    · go_simp
      refine hK.out _ _ (below_next hHeld (belNew _ _)) (fun hHeld => ?_)
      clear hK K
      try simp only [Act.put, List.setIfInBounds_toArray, List.set_cons_zero, List.set_cons_succ]
      refine wpAnyH_sharper (S' := fun x => Below w2.heap.size w2 x ∧ x.cell? ⟨wT.heap.size, 0, none⟩ = some (.int .u8 kind)) (fun _ h => h.1) ?_
      have hS2 : (fun x => Below w2.heap.size w2 x ∧ x.cell? ⟨wT.heap.size, 0, none⟩ = some (.int .u8 kind)) (wT.alloc (.cells #[.int .u8 kind] 5)) := ⟨hHeld, by simp⟩
      clear hHeld
      refine takeL (i := 4) (v := .string A0) rfl (by kernel_rfl) (by kernel_rfl) (by kernel_rfl) (fun _ _ _ h => h) (Or.inl ⟨by rfl, ?_⟩) (by assumption) ?_
      · intro x hSx; have hc := HCV.out x _ hSx.2; go_simp
      try simp only [Act.put, List.setIfInBounds_toArray, List.set_cons_zero, List.set_cons_succ]
      refine takeL (i := 8) (v := .string A1) rfl (by kernel_rfl) (by kernel_rfl) (by kernel_rfl) (fun _ _ _ h => h) (Or.inl ⟨by rfl, ?_⟩) (by assumption) ?_
      · intro x hSx; go_simp
      try simp only [Act.put, List.setIfInBounds_toArray, List.set_cons_zero, List.set_cons_succ]
      refine takeL (i := 12) (v := .string A2) rfl (by kernel_rfl) (by kernel_rfl) (by kernel_rfl) (fun _ _ _ h => h) (Or.inl ⟨by rfl, ?_⟩) (by assumption) ?_
      · intro x hSx; go_simp
      try simp only [Act.put, List.setIfInBounds_toArray, List.set_cons_zero, List.set_cons_succ]
      refine takeL (i := 16) (v := .string A3) rfl (by kernel_rfl) (by kernel_rfl) (by kernel_rfl) (fun _ _ _ h => h) (Or.inl ⟨by rfl, ?_⟩) (by assumption) ?_
      · intro x hSx; go_simp
      try simp only [Act.put, List.setIfInBounds_toArray, List.set_cons_zero, List.set_cons_succ]
      refine takeL (i := 20) (v := .string A4) rfl (by kernel_rfl) (by kernel_rfl) (by kernel_rfl) (fun _ _ _ h => h) (Or.inl ⟨by rfl, ?_⟩) (by assumption) ?_
      · intro x hSx; go_simp
      try simp only [Act.put, List.setIfInBounds_toArray, List.set_cons_zero, List.set_cons_succ]
      refine wpAnyH_ready (rs := [23]) (by kernel_rfl) (by simp) ?_
      refine readyOne rfl (fun K hK => ?_)
      go_simp; go_at_call 61; refine (specShortB_any _ _ (by omega)).mono ?_; rintro e wT ⟨rfl, kT⟩
      go_wp2_with fail
      refine hK.out _ _ (keepS hS2 kT) (fun hHeld => ?_)
      clear hK K
      try simp only [Act.put, List.setIfInBounds_toArray, List.set_cons_zero, List.set_cons_succ]
      have hS2 := hHeld
      clear hHeld
      refine takeL (i := 24) (v := .string A5) rfl (by kernel_rfl) (by kernel_rfl) (by kernel_rfl) (fun _ _ _ h => h) (Or.inl ⟨by rfl, ?_⟩) (by assumption) ?_
      · intro x hSx; go_simp
      try simp only [Act.put, List.setIfInBounds_toArray, List.set_cons_zero, List.set_cons_succ]
      refine wpAnyH_ready (rs := [27]) (by kernel_rfl) (by simp) ?_
      refine readyOne rfl (fun K hK => ?_)
      go_simp; go_at_call 61; refine (specShortB_any _ _ (by omega)).mono ?_; rintro e wT ⟨rfl, kT⟩
      go_wp2_with fail
      refine hK.out _ _ (keepS hS2 kT) (fun hHeld => ?_)
      clear hK K
      try simp only [Act.put, List.setIfInBounds_toArray, List.set_cons_zero, List.set_cons_succ]
      have hS2 := hHeld
      clear hHeld
      refine takeL (i := 28) (v := .string A6) rfl (by kernel_rfl) (by kernel_rfl) (by kernel_rfl) (fun _ _ _ h => h) (Or.inl ⟨by rfl, ?_⟩) (by assumption) ?_
      · intro x hSx; go_simp
      try simp only [Act.put, List.setIfInBounds_toArray, List.set_cons_zero, List.set_cons_succ]
      refine wpAnyH_ready (rs := [31]) (by kernel_rfl) (by simp) ?_
      refine readyOne rfl (fun K hK => ?_)
      go_simp; go_at_call 61; refine (specShortB_any _ _ (by omega)).mono ?_; rintro e wT ⟨rfl, kT⟩
      go_wp2_with fail
      refine hK.out _ _ (keepS hS2 kT) (fun hHeld => ?_)
      clear hK K
      try simp only [Act.put, List.setIfInBounds_toArray, List.set_cons_zero, List.set_cons_succ]
      have hS2 := hHeld
      clear hHeld
      refine takeL (i := 32) (v := .string A7) rfl (by kernel_rfl) (by kernel_rfl) (by kernel_rfl) (fun _ _ _ h => h) (Or.inl ⟨by rfl, ?_⟩) (by assumption) ?_
      · intro x hSx; go_simp
      try simp only [Act.put, List.setIfInBounds_toArray, List.set_cons_zero, List.set_cons_succ]
      refine takeL (i := 33) (v := .string A7) rfl (by kernel_rfl) (by kernel_rfl) (by kernel_rfl) (fun _ _ _ h => h) (Or.inl ⟨by rfl, ?_⟩) (by assumption) ?_
      · intro x hSx; go_simp
      try simp only [Act.put, List.setIfInBounds_toArray, List.set_cons_zero, List.set_cons_succ]
      refine takeL (i := 34) (v := .bool true) rfl (by kernel_rfl) (by kernel_rfl) (by kernel_rfl) (fun _ _ _ h => h) (Or.inl ⟨by rfl, ?_⟩) (by assumption) ?_
      · intro x hSx; go_simp
      try simp only [Act.put, List.setIfInBounds_toArray, List.set_cons_zero, List.set_cons_succ]
      refine wpAnyH_done (by kernel_rfl) ?_ _
      have BH := Lib.hid hS2.1
      clear hS2
      go_wp2
      go_ret2
      exact ⟨by rw [HRT.out, HTX.out]; rfl, b2.out.trans (BH.out.mono b2.out.size)⟩
    go_simp; go_at_call 61; refine (specShortB_any _ _ (by omega)).mono ?_; rintro e wT ⟨rfl, kT⟩
    go_wp2_with fail
    refine hK.out _ _ (below_next hHeld kT) (fun hHeld => ?_)
    clear hK K
    try simp only [Act.put, List.setIfInBounds_toArray, List.set_cons_zero, List.set_cons_succ]
    refine wpAnyH_ready (rs := [3, 27]) (by kernel_rfl) (by simp) ?_
    refine readyTwo rfl rfl (fun K hK => ?_) (fun K hK => ?_)
    · go_simp
      refine hK.out _ _ (below_next hHeld (belNew _ _)) (fun hHeld => ?_)
      clear hK K
      try simp only [Act.put, List.setIfInBounds_toArray, List.set_cons_zero, List.set_cons_succ]
      refine wpAnyH_sharper (S' := fun x => Below w2.heap.size w2 x ∧ x.cell? ⟨wT.heap.size, 0, none⟩ = some (.int .u8 kind)) (fun _ h => h.1) ?_
      have hS2 : (fun x => Below w2.heap.size w2 x ∧ x.cell? ⟨wT.heap.size, 0, none⟩ = some (.int .u8 kind)) (wT.alloc (.cells #[.int .u8 kind] 5)) := ⟨hHeld, by simp⟩
      clear hHeld
      refine takeL (i := 4) (v := .string A0) rfl (by kernel_rfl) (by kernel_rfl) (by kernel_rfl) (fun _ _ _ h => h) (Or.inl ⟨by rfl, ?_⟩) (by assumption) ?_
      · intro x hSx; have hc := HCV.out x _ hSx.2; go_simp
      try simp only [Act.put, List.setIfInBounds_toArray, List.set_cons_zero, List.set_cons_succ]
      refine takeL (i := 8) (v := .string A1) rfl (by kernel_rfl) (by kernel_rfl) (by kernel_rfl) (fun _ _ _ h => h) (Or.inl ⟨by rfl, ?_⟩) (by assumption) ?_
      · intro x hSx; go_simp
      try simp only [Act.put, List.setIfInBounds_toArray, List.set_cons_zero, List.set_cons_succ]
      refine takeL (i := 12) (v := .string A2) rfl (by kernel_rfl) (by kernel_rfl) (by kernel_rfl) (fun _ _ _ h => h) (Or.inl ⟨by rfl, ?_⟩) (by assumption) ?_
      · intro x hSx; go_simp
      try simp only [Act.put, List.setIfInBounds_toArray, List.set_cons_zero, List.set_cons_succ]
      refine takeL (i := 16) (v := .string A3) rfl (by kernel_rfl) (by kernel_rfl) (by kernel_rfl) (fun _ _ _ h => h) (Or.inl ⟨by rfl, ?_⟩) (by assumption) ?_
      · intro x hSx; go_simp
      try simp only [Act.put, List.setIfInBounds_toArray, List.set_cons_zero, List.set_cons_succ]
      refine takeL (i := 20) (v := .string A4) rfl (by kernel_rfl) (by kernel_rfl) (by kernel_rfl) (fun _ _ _ h => h) (Or.inl ⟨by rfl, ?_⟩) (by assumption) ?_
      · intro x hSx; go_simp
      try simp only [Act.put, List.setIfInBounds_toArray, List.set_cons_zero, List.set_cons_succ]
      refine takeL (i := 24) (v := .string A5) rfl (by kernel_rfl) (by kernel_rfl) (by kernel_rfl) (fun _ _ _ h => h) (Or.inl ⟨by rfl, ?_⟩) (by assumption) ?_
      · intro x hSx; go_simp
      try simp only [Act.put, List.setIfInBounds_toArray, List.set_cons_zero, List.set_cons_succ]
      refine wpAnyH_ready (rs := [27]) (by kernel_rfl) (by simp) ?_
      refine readyOne rfl (fun K hK => ?_)
      go_simp; go_at_call 61; refine (specShortB_any _ _ (by omega)).mono ?_; rintro e wT ⟨rfl, kT⟩
      go_wp2_with fail
      refine hK.out _ _ (keepS hS2 kT) (fun hHeld => ?_)
      clear hK K
      try simp only [Act.put, List.setIfInBounds_toArray, List.set_cons_zero, List.set_cons_succ]
      have hS2 := hHeld
      clear hHeld
      refine takeL (i := 28) (v := .string A6) rfl (by kernel_rfl) (by kernel_rfl) (by kernel_rfl) (fun _ _ _ h => h) (Or.inl ⟨by rfl, ?_⟩) (by assumption) ?_
      · intro x hSx; go_simp
      try simp only [Act.put, List.setIfInBounds_toArray, List.set_cons_zero, List.set_cons_succ]
      refine wpAnyH_ready (rs := [31]) (by kernel_rfl) (by simp) ?_
      refine readyOne rfl (fun K hK => ?_)
      go_simp; go_at_call 61; refine (specShortB_any _ _ (by omega)).mono ?_; rintro e wT ⟨rfl, kT⟩
      go_wp2_with fail
      refine hK.out _ _ (keepS hS2 kT) (fun hHeld => ?_)
      clear hK K
      try simp only [Act.put, List.setIfInBounds_toArray, List.set_cons_zero, List.set_cons_succ]
      have hS2 := hHeld
      clear hHeld
      refine takeL (i := 32) (v := .string A7) rfl (by kernel_rfl) (by kernel_rfl) (by kernel_rfl) (fun _ _ _ h => h) (Or.inl ⟨by rfl, ?_⟩) (by assumption) ?_
      · intro x hSx; go_simp
      try simp only [Act.put, List.setIfInBounds_toArray, List.set_cons_zero, List.set_cons_succ]
      refine takeL (i := 33) (v := .string A7) rfl (by kernel_rfl) (by kernel_rfl) (by kernel_rfl) (fun _ _ _ h => h) (Or.inl ⟨by rfl, ?_⟩) (by assumption) ?_
      · intro x hSx; go_simp
      try simp only [Act.put, List.setIfInBounds_toArray, List.set_cons_zero, List.set_cons_succ]
      refine takeL (i := 34) (v := .bool true) rfl (by kernel_rfl) (by kernel_rfl) (by kernel_rfl) (fun _ _ _ h => h) (Or.inl ⟨by rfl, ?_⟩) (by assumption) ?_
      · intro x hSx; go_simp
      try simp only [Act.put, List.setIfInBounds_toArray, List.set_cons_zero, List.set_cons_succ]
      refine wpAnyH_done (by kernel_rfl) ?_ _
      have BH := Lib.hid hS2.1
      clear hS2
      go_wp2
      go_ret2
      exact ⟨by rw [HRT.out, HTX.out]; rfl, b2.out.trans (BH.out.mono b2.out.size)⟩
    go_simp; go_at_call 61; refine (specShortB_any _ _ (by omega)).mono ?_; rintro e wT ⟨rfl, kT⟩
    go_wp2_with fail
    refine hK.out _ _ (below_next hHeld kT) (fun hHeld => ?_)
    clear hK K
    try simp only [Act.put, List.setIfInBounds_toArray, List.set_cons_zero, List.set_cons_succ]
    refine wpAnyH_ready (rs := [3, 31]) (by kernel_rfl) (by simp) ?_
    refine readyTwo rfl rfl (fun K hK => ?_) (fun K hK => ?_)
    · go_simp
      refine hK.out _ _ (below_next hHeld (belNew _ _)) (fun hHeld => ?_)
      clear hK K
      try simp only [Act.put, List.setIfInBounds_toArray, List.set_cons_zero, List.set_cons_succ]
      refine wpAnyH_sharper (S' := fun x => Below w2.heap.size w2 x ∧ x.cell? ⟨wT.heap.size, 0, none⟩ = some (.int .u8 kind)) (fun _ h => h.1) ?_
      have hS2 : (fun x => Below w2.heap.size w2 x ∧ x.cell? ⟨wT.heap.size, 0, none⟩ = some (.int .u8 kind)) (wT.alloc (.cells #[.int .u8 kind] 5)) := ⟨hHeld, by simp⟩
      clear hHeld
      refine takeL (i := 4) (v := .string A0) rfl (by kernel_rfl) (by kernel_rfl) (by kernel_rfl) (fun _ _ _ h => h) (Or.inl ⟨by rfl, ?_⟩) (by assumption) ?_
      · intro x hSx; have hc := HCV.out x _ hSx.2; go_simp
      try simp only [Act.put, List.setIfInBounds_toArray, List.set_cons_zero, List.set_cons_succ]
      refine takeL (i := 8) (v := .string A1) rfl (by kernel_rfl) (by kernel_rfl) (by kernel_rfl) (fun _ _ _ h => h) (Or.inl ⟨by rfl, ?_⟩) (by assumption) ?_
      · intro x hSx; go_simp
      try simp only [Act.put, List.setIfInBounds_toArray, List.set_cons_zero, List.set_cons_succ]
      refine takeL (i := 12) (v := .string A2) rfl (by kernel_rfl) (by kernel_rfl) (by kernel_rfl) (fun _ _ _ h => h) (Or.inl ⟨by rfl, ?_⟩) (by assumption) ?_
      · intro x hSx; go_simp
      try simp only [Act.put, List.setIfInBounds_toArray, List.set_cons_zero, List.set_cons_succ]
      refine takeL (i := 16) (v := .string A3) rfl (by kernel_rfl) (by kernel_rfl) (by kernel_rfl) (fun _ _ _ h => h) (Or.inl ⟨by rfl, ?_⟩) (by assumption) ?_
      · intro x hSx; go_simp
      try simp only [Act.put, List.setIfInBounds_toArray, List.set_cons_zero, List.set_cons_succ]
      refine takeL (i := 20) (v := .string A4) rfl (by kernel_rfl) (by kernel_rfl) (by kernel_rfl) (fun _ _ _ h => h) (Or.inl ⟨by rfl, ?_⟩) (by assumption) ?_
      · intro x hSx; go_simp
      try simp only [Act.put, List.setIfInBounds_toArray, List.set_cons_zero, List.set_cons_succ]
      refine takeL (i := 24) (v := .string A5) rfl (by kernel_rfl) (by kernel_rfl) (by kernel_rfl) (fun _ _ _ h => h) (Or.inl ⟨by rfl, ?_⟩) (by assumption) ?_
      · intro x hSx; go_simp
      try simp only [Act.put, List.setIfInBounds_toArray, List.set_cons_zero, List.set_cons_succ]
      refine takeL (i := 28) (v := .string A6) rfl (by kernel_rfl) (by kernel_rfl) (by kernel_rfl) (fun _ _ _ h => h) (Or.inl ⟨by rfl, ?_⟩) (by assumption) ?_
      · intro x hSx; go_simp
      try simp only [Act.put, List.setIfInBounds_toArray, List.set_cons_zero, List.set_cons_succ]
      refine wpAnyH_ready (rs := [31]) (by kernel_rfl) (by simp) ?_
      refine readyOne rfl (fun K hK => ?_)
      go_simp; go_at_call 61; refine (specShortB_any _ _ (by omega)).mono ?_; rintro e wT ⟨rfl, kT⟩
      go_wp2_with fail
      refine hK.out _ _ (keepS hS2 kT) (fun hHeld => ?_)
      clear hK K
      try simp only [Act.put, List.setIfInBounds_toArray, List.set_cons_zero, List.set_cons_succ]
      have hS2 := hHeld
      clear hHeld
      refine takeL (i := 32) (v := .string A7) rfl (by kernel_rfl) (by kernel_rfl) (by kernel_rfl) (fun _ _ _ h => h) (Or.inl ⟨by rfl, ?_⟩) (by assumption) ?_
      · intro x hSx; go_simp
      try simp only [Act.put, List.setIfInBounds_toArray, List.set_cons_zero, List.set_cons_succ]
      refine takeL (i := 33) (v := .string A7) rfl (by kernel_rfl) (by kernel_rfl) (by kernel_rfl) (fun _ _ _ h => h) (Or.inl ⟨by rfl, ?_⟩) (by assumption) ?_
      · intro x hSx; go_simp
      try simp only [Act.put, List.setIfInBounds_toArray, List.set_cons_zero, List.set_cons_succ]
      refine takeL (i := 34) (v := .bool true) rfl (by kernel_rfl) (by kernel_rfl) (by kernel_rfl) (fun _ _ _ h => h) (Or.inl ⟨by rfl, ?_⟩) (by assumption) ?_
      · intro x hSx; go_simp
      try simp only [Act.put, List.setIfInBounds_toArray, List.set_cons_zero, List.set_cons_succ]
      refine wpAnyH_done (by kernel_rfl) ?_ _
      have BH := Lib.hid hS2.1
      clear hS2
      go_wp2
      go_ret2
      exact ⟨by rw [HRT.out, HTX.out]; rfl, b2.out.trans (BH.out.mono b2.out.size)⟩
    go_simp; go_at_call 61; refine (specShortB_any _ _ (by omega)).mono ?_; rintro e wT ⟨rfl, kT⟩
    go_wp2_with fail
    refine hK.out _ _ (below_next hHeld kT) (fun hHeld => ?_)
    clear hK K
    try simp only [Act.put, List.setIfInBounds_toArray, List.set_cons_zero, List.set_cons_succ]
    refine wpAnyH_ready (rs := [3]) (by kernel_rfl) (by simp) ?_
    refine readyOne rfl (fun K hK => ?_)
    go_simp
    refine hK.out _ _ (below_next hHeld (belNew _ _)) (fun hHeld => ?_)
    clear hK K
    try simp only [Act.put, List.setIfInBounds_toArray, List.set_cons_zero, List.set_cons_succ]
    refine wpAnyH_sharper (S' := fun x => Below w2.heap.size w2 x ∧ x.cell? ⟨wT.heap.size, 0, none⟩ = some (.int .u8 kind)) (fun _ h => h.1) ?_
    have hS2 : (fun x => Below w2.heap.size w2 x ∧ x.cell? ⟨wT.heap.size, 0, none⟩ = some (.int .u8 kind)) (wT.alloc (.cells #[.int .u8 kind] 5)) := ⟨hHeld, by simp⟩
    clear hHeld
    refine takeL (i := 4) (v := .string A0) rfl (by kernel_rfl) (by kernel_rfl) (by kernel_rfl) (fun _ _ _ h => h) (Or.inl ⟨by rfl, ?_⟩) (by assumption) ?_
    · intro x hSx; have hc := HCV.out x _ hSx.2; go_simp
    try simp only [Act.put, List.setIfInBounds_toArray, List.set_cons_zero, List.set_cons_succ]
    refine takeL (i := 8) (v := .string A1) rfl (by kernel_rfl) (by kernel_rfl) (by kernel_rfl) (fun _ _ _ h => h) (Or.inl ⟨by rfl, ?_⟩) (by assumption) ?_
    · intro x hSx; go_simp
    try simp only [Act.put, List.setIfInBounds_toArray, List.set_cons_zero, List.set_cons_succ]
    refine takeL (i := 12) (v := .string A2) rfl (by kernel_rfl) (by kernel_rfl) (by kernel_rfl) (fun _ _ _ h => h) (Or.inl ⟨by rfl, ?_⟩) (by assumption) ?_
    · intro x hSx; go_simp
    try simp only [Act.put, List.setIfInBounds_toArray, List.set_cons_zero, List.set_cons_succ]
    refine takeL (i := 16) (v := .string A3) rfl (by kernel_rfl) (by kernel_rfl) (by kernel_rfl) (fun _ _ _ h => h) (Or.inl ⟨by rfl, ?_⟩) (by assumption) ?_
    · intro x hSx; go_simp
    try simp only [Act.put, List.setIfInBounds_toArray, List.set_cons_zero, List.set_cons_succ]
    refine takeL (i := 20) (v := .string A4) rfl (by kernel_rfl) (by kernel_rfl) (by kernel_rfl) (fun _ _ _ h => h) (Or.inl ⟨by rfl, ?_⟩) (by assumption) ?_
    · intro x hSx; go_simp
    try simp only [Act.put, List.setIfInBounds_toArray, List.set_cons_zero, List.set_cons_succ]
    refine takeL (i := 24) (v := .string A5) rfl (by kernel_rfl) (by kernel_rfl) (by kernel_rfl) (fun _ _ _ h => h) (Or.inl ⟨by rfl, ?_⟩) (by assumption) ?_
    · intro x hSx; go_simp
    try simp only [Act.put, List.setIfInBounds_toArray, List.set_cons_zero, List.set_cons_succ]
    refine takeL (i := 28) (v := .string A6) rfl (by kernel_rfl) (by kernel_rfl) (by kernel_rfl) (fun _ _ _ h => h) (Or.inl ⟨by rfl, ?_⟩) (by assumption) ?_
    · intro x hSx; go_simp
    try simp only [Act.put, List.setIfInBounds_toArray, List.set_cons_zero, List.set_cons_succ]
    refine takeL (i := 32) (v := .string A7) rfl (by kernel_rfl) (by kernel_rfl) (by kernel_rfl) (fun _ _ _ h => h) (Or.inl ⟨by rfl, ?_⟩) (by assumption) ?_
    · intro x hSx; go_simp
    try simp only [Act.put, List.setIfInBounds_toArray, List.set_cons_zero, List.set_cons_succ]
    refine takeL (i := 33) (v := .string A7) rfl (by kernel_rfl) (by kernel_rfl) (by kernel_rfl) (fun _ _ _ h => h) (Or.inl ⟨by rfl, ?_⟩) (by assumption) ?_
    · intro x hSx; go_simp
    try simp only [Act.put, List.setIfInBounds_toArray, List.set_cons_zero, List.set_cons_succ]
    refine takeL (i := 34) (v := .bool true) rfl (by kernel_rfl) (by kernel_rfl) (by kernel_rfl) (fun _ _ _ h => h) (Or.inl ⟨by rfl, ?_⟩) (by assumption) ?_
    · intro x hSx; go_simp
    try simp only [Act.put, List.setIfInBounds_toArray, List.set_cons_zero, List.set_cons_succ]
    refine wpAnyH_done (by kernel_rfl) ?_ _
    have BH := Lib.hid hS2.1
    clear hS2
    go_wp2
    go_ret2
    exact ⟨by rw [HRT.out, HTX.out]; rfl, b2.out.trans (BH.out.mono b2.out.size)⟩
  · have HRT := Lib.hid (rtT_no hok)
    have HOK := Lib.hid (decide_eq_false hok)
    obtain ⟨kind, valid, uid, next, flags, user, name, text⟩ := r
    unfold Rc.v
    unfold Rc.cs at c0 c1 c2 c3 c4 c5 c6 c7 b0
    simp only at c0 c1 c2 c3 c4 c5 c6 c7 b0 h1 h2 h3 ⊢
    have hRO := fun wx => specRecOk_any ⟨kind, valid, uid, next, flags, user, name, text⟩ wx h1 h2 h3
    unfold Rc.v at hRO
    simp only at hRO
    have HRO := Lib.hid hRO
    clear hRO
    go_enter Tryz.func36, Tryz.ntmps36
    go_wp2_with (go_at_call 55; refine (HRO.out _).mono ?_; rintro e w2 ⟨rfl, k2⟩; rw [HOK.out])
    go_ret2
    exact ⟨by rw [HRT.out]; rfl, b0.trans (k2.mono b0.size)⟩

end Go.Proofs.YtlifgcgoehkinaaGreatDoor
