/- Texts of our own, joined. -/
import Derived.Test.YtleaahdnpjnmlaaGreatDoorJp
import Derived.Test.YtleaahdnpjnmlaaGreatDoorJb
import Derived.Deep.RegionHeld3
import Derived.Deep.QuietTactic
import Derived.BigQuiet
/- What cleaning gains, and which segment gains most. Plain facts. -/
namespace Go.Proofs.YtleaahdnpjnmlaaGreatDoor
open Go.RowKit

def gnF (live : Nat) (gl gi : Int) : Int := wrap64 ((wrap64 ((256 - (live : Int)) * wrap64 (wrap64 (gl - gi) + 1))).tdiv (256 + (live : Int)))
theorem wrap64_lim (n : Int) : -9223372036854775808 ≤ wrap64 n ∧ wrap64 n ≤ 9223372036854775807 := by
  unfold wrap64; omega
theorem gnF_lim (live : Nat) (gl gi : Int) : -9223372036854775808 ≤ gnF live gl gi ∧ gnF live gl gi ≤ 9223372036854775807 := wrap64_lim _
noncomputable def gnI (S : So) (i : Nat) : Int :=
  match S.g.used[i]?, S.g.used[S.g.used.length - 1]? with
  | some s, some t => if i + 1 < S.g.used.length ∧ frI S.fr s.no = false then gnF (szI S i) t.gen s.gen else 0
  | _, _ => 0
theorem gnI_yes {S : So} {i : Nat} {s t : Sg} (h : S.g.used[i]? = some s) (ht : S.g.used[S.g.used.length - 1]? = some t) (hi : i + 1 < S.g.used.length) (hf : frI S.fr s.no = false) : gnI S i = gnF (szI S i) t.gen s.gen := by
  unfold gnI; rw [h, ht]; exact if_pos ⟨hi, hf⟩
theorem gnI_head {S : So} {i : Nat} (hi : ¬ i + 1 < S.g.used.length) : gnI S i = 0 := by
  unfold gnI
  split
  · exact if_neg (fun e => hi e.1)
  · rfl
theorem gnI_freed {S : So} {i : Nat} {s : Sg} (h : S.g.used[i]? = some s) (hf : frI S.fr s.no = true) : gnI S i = 0 := by
  unfold gnI
  rw [h]
  split
  · rename_i s' _ e _
    injection e with e
    subst e
    exact if_neg (fun e => by rw [hf] at e; exact absurd e.2 (by simp))
  · rfl
theorem gnI_lim (S : So) (i : Nat) : -9223372036854775808 ≤ gnI S i ∧ gnI S i ≤ 9223372036854775807 := by
  unfold gnI
  split
  · split
    · exact gnF_lim _ _ _
    · omega
  · omega
noncomputable def gnO (S : So) (i : Int) : Int := if 0 ≤ i ∧ i < (S.g.used.length : Int) then gnI S i.toNat else 0
noncomputable def gns (S : So) (n : Nat) : List Int := (List.range n).map (gnI S)
theorem gns_len (S : So) (n : Nat) : (gns S n).length = n := by unfold gns; simp
theorem gns_at (S : So) {n i : Nat} (h : i < n) : (gns S n)[i]? = some (gnI S i) := by unfold gns; simp [h]

def vcP (g : Nat → Int) : Nat → Int × Int
  | 0 => (-1, 0)
  | n + 1 => if (vcP g n).2 < g n then ((n : Int), g n) else vcP g n
theorem vcP_yes {g : Nat → Int} {n : Nat} (h : (vcP g n).2 < g n) : vcP g (n + 1) = ((n : Int), g n) := if_pos h
theorem vcP_no {g : Nat → Int} {n : Nat} (h : ¬ (vcP g n).2 < g n) : vcP g (n + 1) = vcP g n := if_neg h
theorem vcP_lim (g : Nat → Int) (n : Nat) : -1 ≤ (vcP g n).1 ∧ (vcP g n).1 < (n : Int) ∧ 0 ≤ (vcP g n).2 := by
  induction n with
  | zero => exact ⟨by show (-1 : Int) ≤ -1; omega, by show (-1 : Int) < 0; omega, by show (0 : Int) ≤ 0; omega⟩
  | succ n ih =>
    by_cases h : (vcP g n).2 < g n
    · rw [vcP_yes h]; refine ⟨?_, ?_, ?_⟩
      · show (-1 : Int) ≤ (n : Int); omega
      · show (n : Int) < ((n + 1 : Nat) : Int); omega
      · show 0 ≤ g n; omega
    · rw [vcP_no h]; refine ⟨ih.1, ?_, ih.2.2⟩; have := ih.2.1; omega
noncomputable def vcO (S : So) : Int := (vcP (gnI S) S.g.used.length).1

end Go.Proofs.YtleaahdnpjnmlaaGreatDoor

/- Plain facts on disks: what is right, what is read. -/
namespace Go.Proofs.YtleaahdnpjnmlaaGreatDoor
open Go.RowKit

def Dk.ok (d : Dk) : Prop := 1 ≤ d.sec.length ∧ d.sec.length ≤ 100 ∧ d.cache.length ≤ 60 ∧ (∀ s ∈ d.sec, s.size = 32) ∧ ∀ x ∈ d.cache, 0 ≤ x.at_ ∧ x.at_ < d.sec.length ∧ x.text.size = 32

instance (d : Dk) : Decidable d.ok := by unfold Dk.ok; infer_instance

end Go.Proofs.YtleaahdnpjnmlaaGreatDoor

/- Disks: what the model's functions hand back. -/
namespace Go.Proofs.YtleaahdnpjnmlaaGreatDoor
open Go.RowKit

theorem in_yes (n lo hi : Int) (w : World) (h1 : lo ≤ n) (h2 : n ≤ hi) :
    Calls Tryz.prog 17 #[.int .i64 n, .int .i64 lo, .int .i64 hi] w fun e w' => e = .returned (.bool true) ∧ w = w' := by
  have g2 : decide (n ≤ hi) = true := decide_eq_true h2
  go_enter Tryz.func17, Tryz.ntmps17
  go_wp2
  go_ret
  exact ⟨rfl, rfl⟩

theorem in_no (n lo hi : Int) (w : World) (h : ¬ (lo ≤ n ∧ n ≤ hi)) :
    Calls Tryz.prog 17 #[.int .i64 n, .int .i64 lo, .int .i64 hi] w fun e w' => e = .returned (.bool false) ∧ w = w' := by
  by_cases h1 : lo ≤ n
  · have g2 : decide (n ≤ hi) = false := decide_eq_false (fun h2 => h ⟨h1, h2⟩)
    go_enter Tryz.func17, Tryz.ntmps17
    go_wp2
    go_ret
    exact ⟨rfl, rfl⟩
  · go_enter Tryz.func17, Tryz.ntmps17
    go_wp2
    go_ret
    exact ⟨rfl, rfl⟩

theorem in_no_q (n lo hi : Int) (w : World) (h : ¬ (lo ≤ n ∧ n ≤ hi)) :
    Calls Tryz.prog 17 #[.int .i64 n, .int .i64 lo, .int .i64 hi] w fun e w' => e = .returned (.bool false) ∧ w' = w :=
  (in_no n lo hi w h).mono fun _ _ h => ⟨h.1, h.2.symm⟩


theorem DRd.form {w : World} {v : Value} {d : Dk} (h : DRd w v d) : ∃ (aa ab : Option Addr) (ca cb : Nat), v = .agg #[.slice aa d.sec.length ca, .slice ab d.cache.length cb] ∧ Strs w (.slice aa d.sec.length ca) d.sec ∧ Rows' wrE w (.slice ab d.cache.length cb) d.cache := by
  obtain ⟨va, vb, rfl, ha, hb⟩ := h
  obtain ⟨aa, ca, rfl⟩ : ∃ (a : Option Addr) (c : Nat), va = .slice a d.sec.length c := by
    rcases ha with ⟨e, a, c, rfl⟩ | ⟨g, c, rfl, _⟩
    · exact ⟨a, c, by rw [e]; rfl⟩
    · exact ⟨_, c, rfl⟩
  obtain ⟨ab, cb, rfl⟩ : ∃ (a : Option Addr) (c : Nat), vb = .slice a d.cache.length c := by
    rcases hb with ⟨e, a, c, rfl⟩ | ⟨g, o, c, rfl, _⟩
    · exact ⟨a, c, by rw [e]; rfl⟩
    · exact ⟨_, c, rfl⟩
  exact ⟨aa, ab, ca, cb, rfl, ha, hb⟩

theorem Strs.at {w : World} {a : Option Addr} {cap : Nat} {l : List ByteArray} (h : Strs w (.slice a l.length cap) l) (i : Nat) (hi : i < l.length) : ∃ g : Nat, a = some ⟨g, 0, none⟩ ∧ w.cell? ⟨g, i, none⟩ = some (.string l[i]) := by
  rcases h with ⟨e, _⟩ | ⟨g, c, hv, _, _, hcl⟩
  · rw [e] at hi; simp at hi
  · simp only [Value.slice.injEq] at hv
    exact ⟨g, hv.1, hcl i _ (List.getElem?_eq_getElem hi)⟩


end Go.Proofs.YtleaahdnpjnmlaaGreatDoor
