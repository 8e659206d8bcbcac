/- Texts of our own, joined. -/
import Derived.Test.YtlifgcgoehkinaaGreatDoorJi
import Derived.Test.YtlifgcgoehkinaaGreatDoorJk
import Derived.Test.YtlifgcgoehkinaaGreatDoorJo
/- What a cleaner counts: which segments are freed, what of them is kept, and how much of each is needed. Plain facts. -/
namespace Go.Proofs.YtlifgcgoehkinaaGreatDoor
open Go.RowKit

def eqN (n x : Int) : Bool := decide (x = n)
def frI (f : List Int) (n : Int) : Bool := f.any (eqN n)
theorem frI_take {f : List Int} {i : Nat} {x : Int} (h : f[i]? = some x) (n : Int) : frI (f.take (i + 1)) n = (frI (f.take i) n || eqN n x) := by
  unfold frI
  rw [List.take_add_one, h, List.any_append]
  simp
def kU (f : List Int) (u : List Sg) : List Sg := u.filter (fun s => !frI f s.no)
theorem kU_take_no {f : List Int} {u : List Sg} {i : Nat} {s : Sg} (h : u[i]? = some s) (hf : frI f s.no = true) : kU f (u.take (i + 1)) = kU f (u.take i) := by
  unfold kU
  rw [List.take_add_one, h, List.filter_append]
  simp [hf]
theorem kU_take_yes {f : List Int} {u : List Sg} {i : Nat} {s : Sg} (h : u[i]? = some s) (hf : frI f s.no = false) : kU f (u.take (i + 1)) = kU f (u.take i) ++ [s] := by
  unfold kU
  rw [List.take_add_one, h, List.filter_append]
  simp [hf]
theorem kU_len (f : List Int) (u : List Sg) : (kU f u).length ≤ u.length := List.length_filter_le _ _
theorem its_app : ∀ (u v : List Sg), its (u ++ v) = its u ++ its v
  | [], _ => rfl
  | s :: u, v => by
    show s.items ++ its (u ++ v) = (s.items ++ its u) ++ its v
    rw [its_app u v, List.append_assoc]
theorem its_one (s : Sg) : its [s] = s.items := List.append_nil _
theorem its_take_kept {f : List Int} {u : List Sg} {i : Nat} {s : Sg} (h : u[i]? = some s) (hf : frI f s.no = false) : its (kU f (u.take (i + 1))) = its (kU f (u.take i)) ++ s.items := by
  rw [kU_take_yes h hf, its_app, its_one]
theorem gIts_kU (f : List Int) : ∀ u : List Sg, gIts (kU f u) ≤ gIts u
  | [] => Nat.le_refl _
  | s :: u => by
    have ih := gIts_kU f u
    have e : gIts (s :: u) = s.items.length + gIts u := rfl
    cases hf : frI f s.no with
    | true =>
      have : kU f (s :: u) = kU f u := by unfold kU; simp [hf]
      rw [this]; omega
    | false =>
      have : kU f (s :: u) = s :: kU f u := by unfold kU; simp [hf]
      rw [this]
      show s.items.length + gIts (kU f u) ≤ _
      omega
theorem kU_mem {f : List Int} {u : List Sg} {s : Sg} (h : s ∈ kU f u) : s ∈ u := (List.mem_filter.1 h).1

noncomputable def frO (x : Itm) (gen : Int) : Fr := by
  classical exact if x.2.ok ∧ (⟨gen, x.1, x.2.tx⟩ : Fr).ok then ⟨gen, x.1, x.2.tx⟩ else ⟨0, 0, ⟨#[]⟩⟩
theorem ifT_frO (x : Itm) (gen : Int) : ∃ b : Bool, ifT x.1 x.2 gen = .tuple #[(frO x gen).v, .bool b] := by
  classical
  by_cases h : x.2.ok ∧ (⟨gen, x.1, x.2.tx⟩ : Fr).ok
  · refine ⟨true, ?_⟩
    rw [ifT_yes h.1 h.2]
    unfold frO
    rw [if_pos h]
  · refine ⟨false, ?_⟩
    rw [ifT_no h]
    unfold frO
    rw [if_neg h]
    rfl
theorem frO_body (x : Itm) (gen : Int) : (frO x gen).body.size ≤ 1099511627776 := by
  classical
  unfold frO
  by_cases h : x.2.ok ∧ (⟨gen, x.1, x.2.tx⟩ : Fr).ok
  · rw [if_pos h]
    have := Rc.tx_le h.1
    show x.2.tx.size ≤ _
    omega
  · rw [if_neg h]
    show (0 : Nat) ≤ _
    omega
noncomputable def szF (x : Itm) (gen : Int) : Nat := fsz (frO x gen)
theorem szF_le (x : Itm) (gen : Int) : szF x gen ≤ 196 := by
  obtain ⟨t, b, h1, h2, h3⟩ := fsz_form (frO x gen)
  unfold szF
  omega

def ndT (l : List Itm) (nd : List Bool) (off : Nat) : Nat → List Itm
  | 0 => []
  | m + 1 => ndT l nd off m ++ (match l[m]?, nd[off + m]? with | some x, some true => [x] | _, _ => [])
theorem ndT_yes {l : List Itm} {nd : List Bool} {off m : Nat} {x : Itm} (h : l[m]? = some x) (h2 : nd[off + m]? = some true) : ndT l nd off (m + 1) = ndT l nd off m ++ [x] := by
  show _ ++ _ = _
  rw [h, h2]
theorem ndT_no {l : List Itm} {nd : List Bool} {off m : Nat} (h2 : nd[off + m]? = some false) : ndT l nd off (m + 1) = ndT l nd off m := by
  show _ ++ _ = _
  rw [h2]
  cases l[m]? <;> simp
theorem ndT_len (l : List Itm) (nd : List Bool) (off : Nat) : ∀ m, (ndT l nd off m).length ≤ m
  | 0 => Nat.le_refl _
  | m + 1 => by
    have := ndT_len l nd off m
    show (ndT l nd off m ++ (match l[m]?, nd[off + m]? with | some x, some true => [x] | _, _ => ([] : List Itm))).length ≤ _
    rw [List.length_append]
    have : (match l[m]?, nd[off + m]? with | some x, some true => [x] | _, _ => ([] : List Itm)).length ≤ 1 := by split <;> simp
    omega
noncomputable def smF (gen : Int) : List Itm → Nat
  | [] => 0
  | x :: l => szF x gen + smF gen l
theorem smF_app (gen : Int) : ∀ l m : List Itm, smF gen (l ++ m) = smF gen l + smF gen m
  | [], m => by simp [smF]
  | x :: l, m => by
    show szF x gen + smF gen (l ++ m) = szF x gen + smF gen l + smF gen m
    rw [smF_app gen l m]; omega
theorem smF_le (gen : Int) : ∀ l : List Itm, smF gen l ≤ 196 * l.length
  | [] => by simp [smF]
  | x :: l => by
    have := smF_le gen l
    have := szF_le x gen
    show szF x gen + smF gen l ≤ 196 * (l.length + 1)
    omega
theorem smF_take {gen : Int} {l : List Itm} {i : Nat} {x : Itm} (h : l[i]? = some x) : smF gen (l.take (i + 1)) = smF gen (l.take i) + szF x gen := by
  rw [List.take_add_one, h, smF_app]
  show _ + (szF x gen + 0) = _
  omega

def offN (f : List Int) (u : List Sg) (i : Nat) : Nat := (its (kU f (u.take i))).length
theorem offN_no {f : List Int} {u : List Sg} {i : Nat} {s : Sg} (h : u[i]? = some s) (hf : frI f s.no = true) : offN f u (i + 1) = offN f u i := by
  unfold offN; rw [kU_take_no h hf]
theorem offN_yes {f : List Int} {u : List Sg} {i : Nat} {s : Sg} (h : u[i]? = some s) (hf : frI f s.no = false) : offN f u (i + 1) = offN f u i + s.items.length := by
  unfold offN; rw [its_take_kept h hf, List.length_append]
theorem offN_le (f : List Int) (u : List Sg) (i : Nat) : offN f u i ≤ (its (kU f u)).length := by
  unfold offN
  have : its (kU f u) = its (kU f (u.take i)) ++ its (kU f (u.drop i)) := by
    rw [← its_app]
    unfold kU
    rw [← List.filter_append, List.take_append_drop]
  rw [this, List.length_append]
  omega
def ndI (f : List Int) (u : List Sg) (nd : List Bool) (i : Nat) : List Itm :=
  match u[i]? with
  | some s => if frI f s.no then [] else ndT s.items nd (offN f u i) s.items.length
  | none => []
theorem ndI_no {f : List Int} {u : List Sg} {nd : List Bool} {i : Nat} {s : Sg} (h : u[i]? = some s) (hf : frI f s.no = true) : ndI f u nd i = [] := by unfold ndI; rw [h]; simp [hf]
theorem ndI_yes {f : List Int} {u : List Sg} {nd : List Bool} {i : Nat} {s : Sg} (h : u[i]? = some s) (hf : frI f s.no = false) : ndI f u nd i = ndT s.items nd (offN f u i) s.items.length := by unfold ndI; rw [h]; simp [hf]
noncomputable def ndS (S : So) : List Bool := needL (its (kU S.fr S.g.used))
theorem ndS_len (S : So) : (ndS S).length = (its (kU S.fr S.g.used)).length := needL_len _
noncomputable def szI (S : So) (i : Nat) : Nat :=
  match S.g.used[i]? with
  | some s => smF s.gen (ndI S.fr S.g.used (ndS S) i)
  | none => 0
theorem szI_at {S : So} {i : Nat} {s : Sg} (h : S.g.used[i]? = some s) : szI S i = smF s.gen (ndI S.fr S.g.used (ndS S) i) := by unfold szI; rw [h]
noncomputable def szs (S : So) (n : Nat) : List Int := (List.range n).map (fun i => (szI S i : Int))
theorem szs_len (S : So) (n : Nat) : (szs S n).length = n := by unfold szs; simp
theorem szs_at (S : So) {n i : Nat} (h : i < n) : (szs S n)[i]? = some (szI S i : Int) := by unfold szs; simp [h]
theorem szs_succ (S : So) (n : Nat) : szs S (n + 1) = szs S n ++ [(szI S n : Int)] := by unfold szs; rw [List.range_succ, List.map_append]; rfl
theorem gIts_at : ∀ {u : List Sg} {i : Nat} {s : Sg}, u[i]? = some s → s.items.length ≤ gIts u
  | t :: u, 0, s, h => by
    have : t = s := by simpa using h
    subst this
    show t.items.length ≤ t.items.length + gIts u
    omega
  | t :: u, i + 1, s, h => by
    have := gIts_at (u := u) (i := i) (s := s) (by simpa using h)
    show s.items.length ≤ t.items.length + gIts u
    omega
theorem ndI_len {f : List Int} {u : List Sg} {nd : List Bool} (i : Nat) : (ndI f u nd i).length ≤ gIts u := by
  unfold ndI
  cases h : u[i]? with
  | none => simp
  | some s =>
    show (if frI f s.no then [] else ndT s.items nd (offN f u i) s.items.length).length ≤ _
    have := gIts_at h
    have := ndT_len s.items nd (offN f u i) s.items.length
    split
    · simp
    · omega
theorem szI_le (S : So) (hL : S.lean) (i : Nat) : szI S i ≤ 196 * 1048576 := by
  unfold szI
  cases h : S.g.used[i]? with
  | none => simp
  | some s =>
    have := smF_le s.gen (ndI S.fr S.g.used (ndS S) i)
    have := ndI_len (f := S.fr) (u := S.g.used) (nd := ndS S) i
    have := S.lean_its hL
    show smF s.gen _ ≤ _
    omega

end Go.Proofs.YtlifgcgoehkinaaGreatDoor
