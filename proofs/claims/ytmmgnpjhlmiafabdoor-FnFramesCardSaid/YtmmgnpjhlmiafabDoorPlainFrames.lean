/- Plain facts, with no program in them: a frame's text is read back wherever it stands; frames one behind the other are read back, and of a text that is cut just the whole ones. -/
import Derived.Test.YtmmgnpjhlmiafabDoorPlainFrame
import Derived.Test.YtmmgnpjhlmiafabDoorPlainBack
namespace Go.Proofs.YtmmgnpjhlmiafabDoor

variable {four : ByteArray → ByteArray}

theorem ba_nil : (⟨#[]⟩ : ByteArray) = ByteArray.empty := rfl

theorem rv_there {l pre rest : List UInt8} {k n : Nat} (h : n ≤ 1000000000) (hl : l = pre ++ (vt n ++ rest)) (hk : k = pre.length) : rv l k = some (n, k + (vt n).length) := by
  subst hl hk
  exact rv_back pre rest n h

theorem Fr.text_size (f : Fr) (h4 : ∀ x, (four x).size = 4) : (f.text four).size = f.raw.size + 4 := by rw [Fr.text, ByteArray.size_append, h4]

theorem raw_list (f : Fr) : f.raw.data.toList = vt f.gen.toNat ++ (vt f.seq.toNat ++ (vt f.body.size ++ f.body.data.toList)) := by
  simp [Fr.raw, vtB_list]

theorem extract_all (s : ByteArray) : s.extract 0 s.size = s := by
  apply ba_ext
  rw [extract_data, List.drop_zero, Nat.sub_zero, ← ba_len, List.take_length]

/-- A text stands where it stands. -/
theorem split_at {s t : ByteArray} {k e : Nat} (hke : k ≤ e) (he : e ≤ s.size) (h : t = s.extract k e) : s.data.toList = (s.extract 0 k).data.toList ++ (t.data.toList ++ (s.extract e s.size).data.toList) := by
  rw [h, ← ba_append_list, ← ba_append_list, extract_join s hke he, extract_join s (Nat.zero_le _) (Nat.le_trans hke he), extract_all]

theorem ext_len {s : ByteArray} {i j : Nat} (h : j ≤ s.size) : (s.extract i j).data.toList.length = j - i := by
  rw [ba_len, ByteArray.size_extract]; omega

theorem rf_back {s : ByteArray} {k e : Nat} {f : Fr} (h4 : ∀ x, (four x).size = 4) (hok : f.ok) (hke : k ≤ e) (he : e ≤ s.size) (ht : f.text four = s.extract k e) : rf four s k = some (f, e) := by
  have hks : k ≤ s.size := Nat.le_trans hke he
  have hs := split_at hke he ht
  have hpl := ext_len (s := s) (i := 0) hks
  have htl : (f.text four).data.toList = vt f.gen.toNat ++ (vt f.seq.toNat ++ (vt f.body.size ++ (f.body.data.toList ++ (four f.raw).data.toList))) := by
    rw [Fr.text, ba_append_list, raw_list]; simp
  have hsz : (f.text four).size = e - k := by rw [ht, ByteArray.size_extract]; omega
  have hraw : f.raw.size = (vt f.gen.toNat).length + ((vt f.seq.toNat).length + ((vt f.body.size).length + f.body.size)) := by
    rw [← ba_len, raw_list]; simp
  have hts := f.text_size h4
  generalize hp : (s.extract 0 k).data.toList = P at hs hpl
  generalize (s.extract e s.size).data.toList = R at hs
  rw [htl] at hs
  obtain ⟨⟨g1, g2⟩, ⟨q1, q2⟩, b1, b2⟩ := id hok
  have r1 : rv s.data.toList k = some (f.gen.toNat, k + (vt f.gen.toNat).length) := rv_there (by omega) (pre := P) (rest := vt f.seq.toNat ++ (vt f.body.size ++ (f.body.data.toList ++ (four f.raw).data.toList)) ++ R) (by rw [hs]; simp) (by omega)
  have r2 : rv s.data.toList (k + (vt f.gen.toNat).length) = some (f.seq.toNat, k + (vt f.gen.toNat).length + (vt f.seq.toNat).length) :=
    rv_there (by omega) (pre := P ++ vt f.gen.toNat) (rest := vt f.body.size ++ (f.body.data.toList ++ (four f.raw).data.toList) ++ R) (by rw [hs]; simp) (by rw [List.length_append]; omega)
  have r3 : rv s.data.toList (k + (vt f.gen.toNat).length + (vt f.seq.toNat).length) = some (f.body.size, k + (vt f.gen.toNat).length + (vt f.seq.toNat).length + (vt f.body.size).length) :=
    rv_there (by omega) (pre := P ++ vt f.gen.toNat ++ vt f.seq.toNat) (rest := f.body.data.toList ++ (four f.raw).data.toList ++ R) (by rw [hs]; simp) (by rw [List.length_append, List.length_append]; omega)
  have r4 := ru_yes r1 r2 r3 ⟨by omega, by omega⟩
  have hbody : s.extract (k + (vt f.gen.toNat).length + (vt f.seq.toNat).length + (vt f.body.size).length) (k + (vt f.gen.toNat).length + (vt f.seq.toNat).length + (vt f.body.size).length + f.body.size) = f.body := by
    apply ba_ext
    rw [extract_data, hs]
    have e1 : P ++ (vt f.gen.toNat ++ (vt f.seq.toNat ++ (vt f.body.size ++ (f.body.data.toList ++ (four f.raw).data.toList))) ++ R) = (P ++ vt f.gen.toNat ++ vt f.seq.toNat ++ vt f.body.size) ++ (f.body.data.toList ++ ((four f.raw).data.toList ++ R)) := by simp
    have e2 : k + (vt f.gen.toNat).length + (vt f.seq.toNat).length + (vt f.body.size).length = (P ++ vt f.gen.toNat ++ vt f.seq.toNat ++ vt f.body.size).length := by simp only [List.length_append]; omega
    rw [e1, e2, List.drop_left, Nat.add_sub_cancel_left]
    have e3 : f.body.size = f.body.data.toList.length := (ba_len _).symm
    rw [e3, List.take_left]
  have hf : (⟨(f.gen.toNat : Int), (f.seq.toNat : Int), f.body⟩ : Fr) = f := by
    obtain ⟨g, q, b⟩ := f
    simp only [Fr.mk.injEq, and_true]
    simp only at g1 q1
    omega
  rw [hbody, hf] at r4
  have he4 : k + (vt f.gen.toNat).length + (vt f.seq.toNat).length + (vt f.body.size).length + f.body.size + 4 = e := by omega
  have := rf_yes (four := four) r4 ⟨hok, by omega, by rw [he4]; exact ht⟩
  rw [he4] at this
  exact this

theorem rf_iff {s : ByteArray} {k e : Nat} {f : Fr} (h4 : ∀ x, (four x).size = 4) (hk : k ≤ s.size) : rf four s k = some (f, e) ↔ f.ok ∧ k ≤ e ∧ e ≤ s.size ∧ f.text four = s.extract k e := by
  constructor
  · intro h
    obtain ⟨a, b, c, d⟩ := rf_some h hk
    exact ⟨a, by omega, c, d⟩
  · rintro ⟨a, b, c, d⟩
    exact rf_back h4 a b c d

/-- The texts of frames, one behind the other. -/
def txs (four : ByteArray → ByteArray) : List Fr → ByteArray
  | [] => ⟨#[]⟩
  | f :: l => f.text four ++ txs four l
theorem txs_append (l m : List Fr) : txs four (l ++ m) = txs four l ++ txs four m := by
  induction l with
  | nil => simp [txs, ba_nil]
  | cons f l ih => rw [List.cons_append, txs, txs, ih, ByteArray.append_assoc]
theorem txs_snoc (l : List Fr) (f : Fr) : txs four (l ++ [f]) = txs four l ++ f.text four := by rw [txs_append]; simp [txs, ba_nil]

/-- The whole ones ahead of the place c, from k on. -/
def whole (four : ByteArray → ByteArray) (c : Nat) : Nat → List Fr → List (Fr × Nat)
  | _, [] => []
  | k, f :: l => if k + (f.text four).size ≤ c then (f, k + (f.text four).size) :: whole four c (k + (f.text four).size) l else []

theorem sq_cut (h4 : ∀ x, (four x).size = 4) (g : Int) (c : Nat) (l : List Fr) : ∀ (P : ByteArray), (∀ f ∈ l, f.ok ∧ f.gen = g) → P.size ≤ c → c ≤ (P ++ txs four l).size →
    sq four ((P ++ txs four l).extract 0 c) g P.size = whole four c P.size l := by
  induction l with
  | nil =>
    intro P _ hPc hc
    have hsz : (P ++ txs four []).size = P.size := by simp [txs, ba_nil]
    have hcs : ((P ++ txs four []).extract 0 c).size = c := by rw [ByteArray.size_extract]; omega
    cases hr : rf four ((P ++ txs four []).extract 0 c) P.size with
    | none => rw [sq_none hr]; rfl
    | some x =>
      obtain ⟨f, e⟩ := x
      obtain ⟨_, h1, h2, _⟩ := rf_some hr (by rw [hcs]; exact hPc)
      omega
  | cons f l ih =>
    intro P hall hPc hc
    obtain ⟨hok, hg⟩ := hall f (by simp)
    have hS : P ++ txs four (f :: l) = (P ++ f.text four) ++ txs four l := by rw [txs, ByteArray.append_assoc]
    have hsz : (P ++ txs four (f :: l)).size = P.size + (f.text four).size + (txs four l).size := by rw [hS]; simp only [ByteArray.size_append]
    have hcs : ((P ++ txs four (f :: l)).extract 0 c).size = c := by rw [ByteArray.size_extract]; omega
    have hat : f.text four = (P ++ txs four (f :: l)).extract P.size (P.size + (f.text four).size) := by
      apply ba_ext
      rw [extract_data, hS, ba_append_list, ba_append_list]
      have e1 : P.size = P.data.toList.length := (ba_len _).symm
      rw [List.append_assoc, e1, List.drop_left, Nat.add_sub_cancel_left]
      have e2 : (f.text four).size = (f.text four).data.toList.length := (ba_len _).symm
      rw [e2, List.take_left]
    have sub : ∀ e, e ≤ c → ((P ++ txs four (f :: l)).extract 0 c).extract P.size e = (P ++ txs four (f :: l)).extract P.size e := by
      intro e he
      apply ba_ext
      rw [extract_data, extract_data, extract_data, List.drop_zero, Nat.sub_zero, List.drop_take, List.take_take]
      congr 1
      omega
    have hfull := rf_back (s := P ++ txs four (f :: l)) h4 hok (Nat.le_add_right _ _) (by omega) hat
    rw [whole]
    by_cases hle : P.size + (f.text four).size ≤ c
    · rw [if_pos hle]
      have hr : rf four ((P ++ txs four (f :: l)).extract 0 c) P.size = some (f, P.size + (f.text four).size) :=
        rf_back h4 hok (Nat.le_add_right _ _) (by omega) (by rw [sub _ hle]; exact hat)
      rw [sq_yes (by omega) hr hg]
      have := ih (P ++ f.text four) (fun x hx => hall x (by simp [hx])) (by rw [ByteArray.size_append]; exact hle) (by rw [← hS]; exact hc)
      rw [← hS, ByteArray.size_append] at this
      rw [this]
    · rw [if_neg hle]
      cases hr : rf four ((P ++ txs four (f :: l)).extract 0 c) P.size with
      | none => rw [sq_none hr]
      | some x =>
        obtain ⟨f', e⟩ := x
        obtain ⟨h1, h2, h3, h5⟩ := rf_some hr (by omega)
        rw [sub e (by omega)] at h5
        have := rf_back (s := P ++ txs four (f :: l)) h4 h1 (by omega) (by omega) h5
        rw [hfull] at this
        simp at this
        omega

/-- Where each ends. -/
def ends (four : ByteArray → ByteArray) : Nat → List Fr → List Nat
  | k, [] => [k]
  | k, f :: l => k :: ends four (k + (f.text four).size) l
theorem ends_length (k : Nat) (l : List Fr) : (ends four k l).length = l.length + 1 := by
  induction l generalizing k with
  | nil => rfl
  | cons f l ih => simp [ends, ih]
theorem ends_snoc (l : List Fr) (f : Fr) : ∀ k, ends four k (l ++ [f]) = ends four k l ++ [k + (txs four l).size + (f.text four).size] := by
  induction l with
  | nil => intro k; simp [ends, txs, ba_nil]
  | cons x l ih =>
    intro k
    rw [List.cons_append, ends, ih, ends, txs, ByteArray.size_append]
    simp [Nat.add_assoc]

/-- What is told of the whole ones. -/
theorem whole_told (c : Nat) (l : List Fr) : ∀ k, k ≤ c → (whole four c k l).length ≤ l.length ∧ (whole four c k l).map (·.1) = l.take (whole four c k l).length ∧ (ends four k l)[(whole four c k l).length]? = some (behind k (whole four c k l)) ∧ behind k (whole four c k l) ≤ c ∧
    ((whole four c k l).length = l.length ∨ ∃ e, (ends four k l)[(whole four c k l).length + 1]? = some e ∧ c < e) := by
  induction l with
  | nil => intro k hk; simp [whole, ends, behind, hk]
  | cons f l ih =>
    intro k hk
    rw [whole]
    by_cases hle : k + (f.text four).size ≤ c
    · rw [if_pos hle]
      obtain ⟨h1, h2, h3, h5, h6⟩ := ih _ hle
      refine ⟨by simp; omega, by simp [h2], by simpa [ends, behind] using h3, h5, ?_⟩
      rcases h6 with h6 | ⟨e, h6, h7⟩
      · exact .inl (by simp [h6])
      · exact .inr ⟨e, by simpa [ends] using h6, h7⟩
    · rw [if_neg hle]
      refine ⟨by simp, by simp, by simp [ends, behind], hk, .inr ⟨k + (f.text four).size, ?_, by omega⟩⟩
      simp only [List.length_nil, ends]
      cases l with
      | nil => simp [ends]
      | cons x l => simp [ends]

theorem whole_all (l : List Fr) : ∀ k, whole four (k + (txs four l).size) k l = (whole four (k + (txs four l).size) k l) ∧ ((whole four (k + (txs four l).size) k l).map (·.1) = l ∧ behind k (whole four (k + (txs four l).size) k l) = k + (txs four l).size) := by
  induction l with
  | nil => intro k; simp [whole, behind, txs, ba_nil]
  | cons f l ih =>
    intro k
    have e : k + (txs four (f :: l)).size = k + (f.text four).size + (txs four l).size := by rw [txs, ByteArray.size_append]; omega
    rw [e, whole, if_pos (by omega)]
    obtain ⟨_, h1, h2⟩ := ih (k + (f.text four).size)
    exact ⟨rfl, by simp [h1], by simpa [behind] using h2⟩

end Go.Proofs.YtmmgnpjhlmiafabDoor
