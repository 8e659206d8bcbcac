/- What a disk is that comes in as an argument: its rows can be read. -/
import Derived.Test.YtmlhpjkijpbinaqDisk
import Derived.Deep.Slices
import Derived.Deep.SlicePairs
import Derived.Lib.SmallJoins
import Derived.ProofKit
namespace Go.Proofs.Ytmlhpjkijpbinaq
open Go.RowKit Go.ChangeShapes Go.WideShapes Go.ChangeAt Go.Deep Go.Joins

section
variable {H : Type} {enc : TypeId × Value → H} {W : World}

theorem rows_of_cells {α : Type} [Inhabited α] (E : Enc α) {a : Addr} {len cap : Nat} (hl : len ≤ cap) (hp : ∀ i, i < len → ∃ x : α, ∀ k u, (E.f x)[k]? = some u → W.cell? (a.add (i * E.sz + k)) = some u) (Pr : α → Prop)
    (hpr : ∀ i, i < len → ∀ x : α, (∀ k u, (E.f x)[k]? = some u → W.cell? (a.add (i * E.sz + k)) = some u) → Pr x) :
    ∃ l : List α, l.length = len ∧ Rows' E W (.slice (some a) len cap) l ∧ ∀ x ∈ l, Pr x := by
  obtain ⟨f, hf⟩ := choose_lt hp
  refine ⟨(List.range len).map f, by simp, ?_, ?_⟩
  · by_cases h0 : len = 0
    · subst h0
      exact .inl ⟨rfl, _, _, rfl⟩
    · have hsp : a.spot = none := by
        have hne : (E.f (f 0))[0]? = some ((E.f (f 0))[0]'(by rw [E.len]; exact E.pos)) := List.getElem?_eq_getElem _
        have := hf 0 (by omega) 0 _ hne
        have h2 := World.cell?_spot this
        simpa [Addr.add] using h2
      obtain ⟨b, off, spot⟩ := a
      simp only at hsp
      subst hsp
      refine .inr ⟨b, off, cap, by simp, by simpa using hl, ?_, ?_⟩
      · have hne : (E.f (f 0))[0]? = some ((E.f (f 0))[0]'(by rw [E.len]; exact E.pos)) := List.getElem?_eq_getElem _
        have := hf 0 (by omega) 0 _ hne
        rw [Addr.add_lit] at this
        exact World.block_lt_of_cell? W _ this
      · intro j x hj k u hu
        have hjl : j < len := by have := (List.getElem?_eq_some_iff.1 hj).1; simpa using this
        have hx : f j = x := by simpa [hjl] using hj
        subst hx
        have := hf j hjl k u hu
        rw [Addr.add_lit] at this
        rw [Nat.add_assoc]
        exact this
  · intro x hx
    simp only [List.mem_map, List.mem_range] at hx
    obtain ⟨i, hi, rfl⟩ := hx
    exact hpr i hi _ (hf i hi)

set_option maxRecDepth 100000 in
theorem strs_of_trod {fuel : Nat} {v : Value} {x : DataW H × List MemPlace} (h : DataW.trod enc Try.prog W 0 (fun _ => true) true fuel 24 [v] = some x) :
    ∃ l : List ByteArray, Rows' strE W v l ∧ l.length ≤ maxLen ∧ ∀ s ∈ l, s.size ≤ maxLen := by
  rcases open_slice1 Try.underlying24 (by kernel_rfl) h with ⟨hv, _⟩ | ⟨a, len, cap, m, n, V, D, Pl, hv, _, hl, hm, hmm, _, hc⟩
  · simp at hv; subst hv
    exact ⟨[], .inl ⟨rfl, _, _, rfl⟩, by decide, by simp⟩
  · simp at hv; subst hv
    have hm2 : m = cap := by simpa using hmm
    have hex : ∀ i, i < len → ∃ s : ByteArray, W.cell? (a.add i) = some (.string s) ∧ s.size ≤ maxLen := by
      intro i hi
      obtain ⟨h1, h2⟩ := hc i (by omega)
      obtain ⟨s, hs, _, hsz⟩ := DataW.trod_string Try.underlying9 h2
      simp at hs
      exact ⟨s, by rw [h1, hs], hsz⟩
    obtain ⟨l, hlen, hr, hp⟩ := rows_of_cells strE hl (fun i hi => by
      obtain ⟨s, hs, _⟩ := hex i hi
      refine ⟨s, fun k u hu => ?_⟩
      match k, hu with
      | 0, hu => simp [strE] at hu; subst hu; rw [show strE.sz = 1 from rfl, Nat.mul_one, Nat.add_zero]; exact hs
      | k + 1, hu => simp [strE] at hu) (fun s => s.size ≤ maxLen) (fun i hi s hs => by
      obtain ⟨t, ht, hts⟩ := hex i hi
      have := hs 0 (.string s) rfl
      rw [show strE.sz = 1 from rfl, Nat.mul_one, Nat.add_zero, ht] at this
      simp at this
      subst this
      exact hts)
    exact ⟨l, hr, by omega, hp⟩

instance : Inhabited Wr := ⟨⟨0, ⟨#[]⟩⟩⟩

set_option maxRecDepth 100000 in
theorem writes_of_trod {fuel : Nat} {v : Value} {x : DataW H × List MemPlace} (h : DataW.trod enc Try.prog W 0 (fun _ => true) true fuel 25 [v] = some x) :
    ∃ l : List Wr, Rows' lwrE W v l ∧ l.length ≤ maxLen ∧ ∀ x ∈ l, x.text.size ≤ maxLen := by
  rcases open_slice_pairs Try.underlying25 Try.underlying47 (by kernel_rfl) rfl rfl (by kernel_rfl) (by kernel_rfl) h with ⟨hv, _⟩ | ⟨a, len, cap, m, n, V0, V1, D0, D1, P0, P1, hv, _, hl, hm, hmm, _, hc⟩
  · simp at hv; subst hv
    exact ⟨[], .inl ⟨rfl, _, _, rfl⟩, by decide, by simp⟩
  · simp at hv; subst hv
    have hm2 : m = cap := by simpa using hmm
    have hex : ∀ i, i < len → ∃ x : Wr, W.cell? (a.add (i * 2)) = some (.int .i64 x.at_) ∧ W.cell? (a.add (i * 2 + 1)) = some (.string x.text) ∧ x.text.size ≤ maxLen := by
      intro i hi
      obtain ⟨h1, h2, h3, h4⟩ := hc i (by omega)
      obtain ⟨s, hs, _, hsz⟩ := DataW.trod_string Try.underlying9 h4
      obtain ⟨k, hk, _, _⟩ := DataW.trod_int Try.underlying3 h3
      simp at hs hk
      exact ⟨⟨k, s⟩, by rw [h1, hk], by rw [h2, hs], hsz⟩
    obtain ⟨l, hlen, hr, hp⟩ := rows_of_cells lwrE hl (fun i hi => by
      obtain ⟨x, h0, h1, _⟩ := hex i hi
      refine ⟨x, fun k u hu => ?_⟩
      match k, hu with
      | 0, hu => simp [lwrE] at hu; subst hu; exact h0
      | 1, hu => simp [lwrE] at hu; subst hu; exact h1
      | k + 2, hu => simp [lwrE] at hu) (fun x => x.text.size ≤ maxLen) (fun i hi x hx => by
      obtain ⟨y, _, h1, hys⟩ := hex i hi
      have : W.cell? (a.add (i * 2 + 1)) = some (.string x.text) := hx 1 (.string x.text) rfl
      rw [h1] at this
      simp at this
      rw [← this]
      exact hys)
    exact ⟨l, hr, by omega, hp⟩

set_option maxRecDepth 100000 in
theorem open_Disk {b0 : Nat} {r : Reach} {v : Value} {d : DataW H} {p : List MemPlace} (hv : Value.okWide Try.prog W r b0 27 v) (h : DataW.Trod enc Try.prog W 0 (fun _ => true) true 27 v d p) : ∃ D : Dk, DIn W v D := by
  obtain ⟨va, vb, y0, y1, n, rfl, _, _, h0, h1⟩ := open_agg2 Try.underlying27 (by kernel_rfl) (by kernel_rfl) hv h
  obtain ⟨l, hl1, hl2, hl3⟩ := strs_of_trod h0
  obtain ⟨c, hc1, hc2, hc3⟩ := writes_of_trod h1
  have hml : maxLen ≤ 9223372036854775807 := by decide
  exact ⟨⟨l, c⟩, va, vb, rfl, hl1, hc1, Nat.le_trans hl2 hml, Nat.le_trans hc2 hml, fun s hs => Nat.le_trans (hl3 s hs) hml, fun x hx => Nat.le_trans (hc3 x hx) hml⟩
end

end Go.Proofs.Ytmlhpjkijpbinaq
