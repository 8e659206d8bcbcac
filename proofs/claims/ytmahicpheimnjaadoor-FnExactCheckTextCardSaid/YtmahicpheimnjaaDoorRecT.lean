/- Records: what the model's RecText hands back. -/
import Derived.Test.YtmahicpheimnjaaDoorRecS
import Derived.Deep.Cut
namespace Go.Proofs.YtmahicpheimnjaaDoor
open Go.RowKit

/-- What RecText hands back. -/
def rtT (r : Rc) : Value := if r.ok then .tuple #[.string r.tx, .bool true] else .tuple #[.string ⟨#[]⟩, .bool false]
theorem rtT_yes {r : Rc} (h : r.ok) : rtT r = .tuple #[.string r.tx, .bool true] := if_pos h
theorem rtT_no {r : Rc} (h : ¬ r.ok) : rtT r = .tuple #[.string ⟨#[]⟩, .bool false] := if_neg h

/-- A short text's bytes. -/
def shB (s : ByteArray) : ByteArray := vtB s.size ++ s

theorem l01VarZ_any (n : Int) (w : World) (h0 : 0 ≤ n) (hn : n ≤ 1000000000) :
    Calls Tryd.prog 18 #[.int .i64 n] w fun e w' => e = .returned (.string (vtB n.toNat)) ∧ Below w.heap.size w w' := by
  have := l01Var_any n.toNat w (by omega)
  rw [Int.toNat_of_nonneg h0] at this
  exact this

theorem specShortB_any (s : ByteArray) (w : World) (hs : s.size ≤ 1000000) :
    Calls Tryd.prog 20 #[.string s] w fun e w' => e = .returned (.string (shB s)) ∧ Below w.heap.size w w' := by
  have hv : (vtB s.size).size ≤ s.size + 1 := by rw [vtB_size]; exact vt_len _
  have hadd := fun wx => run_string_add_sum (P := Tryd.prog) (w := wx) (vtB s.size) s (by omega)
  obtain ⟨V, hV⟩ : ∃ V, vtB s.size = V := ⟨_, rfl⟩
  rw [hV] at hadd
  have HV := Lib.hid hV
  clear hV
  go_enter Tryd.func20, Tryd.ntmps20
  go_wp2_with (go_at_call 18; refine (l01VarZ_any _ _ (by omega) (by omega)).mono ?_; rintro e w1 ⟨rfl, k1⟩; rw [Int.toNat_natCast, HV.out])
  go_ret
  exact ⟨by unfold shB; rw [HV.out]; rfl, k1⟩

theorem tx_sum (r : Rc) : r.tx = (⟨#[UInt8.ofNat r.kind.toNat]⟩ : ByteArray) ++ vtB r.valid.toNat ++ vtB r.uid.toNat ++ vtB r.next.toNat ++ vtB r.flags.toNat ++ shB r.user ++ shB r.name ++ shB r.text := by
  obtain ⟨x, hx⟩ : ∃ x, (⟨#[UInt8.ofNat r.kind.toNat]⟩ : ByteArray) ++ vtB r.valid.toNat ++ vtB r.uid.toNat ++ vtB r.next.toNat ++ vtB r.flags.toNat ++ shB r.user ++ shB r.name ++ shB r.text = x := ⟨_, rfl⟩
  have : x.data.toList = r.tl := by
    rw [← hx]
    simp only [shB, ByteArray.data_append, Array.toList_append, vtB_list, Rc.tl, List.append_assoc]
    rfl
  rw [hx]
  obtain ⟨⟨y⟩⟩ := x
  simp only at this
  rw [this]; rfl

theorem vtB_five {n : Nat} (h : n ≤ 1000000000) : (vtB n).size ≤ 5 := by rw [vtB_size]; exact vt_five h
theorem belNew (x : World) (o : Obj) : Below x.heap.size x (x.alloc o) := (Below.refl _ _).alloc (Nat.le_refl _) _
theorem kind_byte (k : Int) (h1 : 1 ≤ k) (h2 : k ≤ 5) : k = ((UInt8.ofNat k.toNat).toNat : Int) := by
  have : (UInt8.ofNat k.toNat).toNat = k.toNat % 256 := UInt8.toNat_ofNat'
  rw [this]; omega
theorem kind_wrap (k : Int) (h1 : 1 ≤ k) (h2 : k ≤ 5) : IntKind.u8.wrap k = k := by
  have : k = 1 ∨ k = 2 ∨ k = 3 ∨ k = 4 ∨ k = 5 := by omega
  rcases this with rfl | rfl | rfl | rfl | rfl <;> decide
theorem below_next {W x y : World} (h : Below W.heap.size W x) (hb : Below x.heap.size x y) : Below W.heap.size W y := h.trans (hb.mono h.size)

theorem wpAnyH_sharper {P : Program} {md : Region.Mode} {ops : Array Oper} {Q : Exit → Act → World → Prop} {S S' : World → Prop} (h : ∀ w, S' w → S w) :
    ∀ {fuel : Nat} {listed : Array Bool} {a : Act} {w : World}, wpAnyH P md ops Q S' fuel listed a w → wpAnyH P md ops Q S fuel listed a w
  | 0, _, _, _, H => H
  | _ + 1, _, _, _, H => ⟨H.1, fun i hi => wpOp_mono (fun _ _ h' => ⟨h _ h'.1, wpAnyH_sharper h h'.2⟩) (H.2 i hi)⟩
theorem takeL {P : Program} {md : Region.Mode} {l : List Oper} {Q : Exit → Act → World → Prop} {S : World → Prop} {i : Nat} {oi : Oper} {v : Value} {fuel : Nat} {listed : Array Bool} {a : Act} {w : World} (hi : l[i]? = some oi)
    (hs : Region.noSelect l.toArray = true) (hf : Region.free md l.toArray listed i = true) (hr : (Region.ready md l.toArray listed).contains i = true)
    (hQ : ∀ c a w, Q (.panic c) (a.put oi.dst v) w → Q (.panic c) a w) (hy : YieldsIf P l.toArray S oi v a) (hS : S w)
    (h : wpAnyH P md l.toArray Q S fuel (listed.setIfInBounds i true) (a.put oi.dst v) w) : wpAnyH P md l.toArray Q S (fuel + 1) listed a w :=
  wpAnyH_take (by rw [List.getElem?_toArray]; exact hi) hs hf hr hQ hy hS h
theorem readyOne {P : Program} {md : Region.Mode} {l : List Oper} {Q : Exit → Act → World → Prop} {S : World → Prop} {i : Nat} {o : Oper} {fuel : Nat} {listed : Array Bool} {a : Act} {w : World} (hi : l[i]? = some o)
    (h : ∀ K' : Act → World → Prop, Shut (∀ a w, S w → (S w → wpAnyH P md l.toArray Q S fuel (listed.setIfInBounds i true) a w) → K' a w) → if Region.wanted o (yielded l.toArray a.tmps) = true then Oper.wp P o a w K' Q else K' (a.put o.dst undef) w) :
    AllReadyH P md l.toArray Q S fuel listed a w [i] :=
  AllReadyH.cons (by rw [List.getElem?_toArray]; exact hi) h AllReadyH.nil
theorem readyTwo {P : Program} {md : Region.Mode} {l : List Oper} {Q : Exit → Act → World → Prop} {S : World → Prop} {i j : Nat} {o o' : Oper} {fuel : Nat} {listed : Array Bool} {a : Act} {w : World} (hi : l[i]? = some o) (hj : l[j]? = some o')
    (h : ∀ K' : Act → World → Prop, Shut (∀ a w, S w → (S w → wpAnyH P md l.toArray Q S fuel (listed.setIfInBounds i true) a w) → K' a w) → if Region.wanted o (yielded l.toArray a.tmps) = true then Oper.wp P o a w K' Q else K' (a.put o.dst undef) w)
    (h' : ∀ K' : Act → World → Prop, Shut (∀ a w, S w → (S w → wpAnyH P md l.toArray Q S fuel (listed.setIfInBounds j true) a w) → K' a w) → if Region.wanted o' (yielded l.toArray a.tmps) = true then Oper.wp P o' a w K' Q else K' (a.put o'.dst undef) w) :
    AllReadyH P md l.toArray Q S fuel listed a w [i, j] :=
  AllReadyH.cons (by rw [List.getElem?_toArray]; exact hi) h (readyOne hj h')
theorem belNew0 (x : World) (o : Obj) : Below x.heap.size x (x.alloc o).drew := ((Below.refl _ _).alloc (Nat.le_refl _) _).drew
theorem keepS {W x y : World} {p : Addr} {v : Value} (h : Below W.heap.size W x ∧ x.cell? p = some v) (hb : Below x.heap.size x y) : Below W.heap.size W y ∧ y.cell? p = some v :=
  ⟨h.1.trans (hb.mono h.1.size), (hb.cell (World.block_lt_of_cell? _ _ h.2)).trans h.2⟩


end Go.Proofs.YtmahicpheimnjaaDoor
