/- The drawn places: twelve numbers, each in 0 .. 9999, in a list of the call's own. -/
import Derived.Test.YtichbcpidkkblaaDraw2
import Derived.Test.YtichbcpidkkblaaKitI
namespace Go.Proofs.Ytichbcpidkkblaa
open Go.RowKit

theorem IBuf.cursor {B : Nat} {w w' : World} {v : Value} {l : List Int} {pc : Nat} (h : IBuf B w w v l) (hg : w.grownBy w' (some pc)) (hp : pc < B) : IBuf B w' w' v l := by
  refine ⟨h.own.kept hg ?_, Below.refl _ _, Nat.le_trans h.le hg.size⟩
  cases hv : v.ownBlock with
  | none => exact .inl rfl
  | some k => exact .inr (by intro e; have := (h.own.lt k hv).1; have := Option.some.inj e; omega)

theorem IBuf.here {B : Nat} {w0 w : World} {v : Value} {l : List Int} (h : IBuf B w0 w v l) : IBuf B w w v l := ⟨h.own, Below.refl _ _, h.le⟩

theorem IBuf.down {B0 B : Nat} {w0 w1 w : World} {v : Value} {l : List Int} (h : IBuf B w1 w v l) (hb : Below B0 w0 w) (hB : B0 ≤ B) : IBuf B0 w0 w v l := by
  refine ⟨⟨h.own.1, ?_⟩, hb, Nat.le_trans hB h.le⟩
  rcases h.own.2 with h1 | ⟨g, cap, cur, h1, h2, h3⟩
  · exact .inl h1
  · exact .inr ⟨g, cap, cur, h1, Nat.le_trans hB h2, h3⟩

theorem one_int (w : World) (x : Int) : ∀ j u, [Value.int .i64 x][j]? = some u → (w.alloc (.cells #[.int .i64 x] 3)).cell? ((⟨w.heap.size, 0, none⟩ : Addr).add j) = some u := by
  intro j u hj
  match j, hj with
  | 0, hj => simp at hj; subst hj; simp [Addr.add]
  | j + 1, hj => simp at hj

theorem below_of_new' {w w1 w2 : World} {pc : Nat} (hb : Below w.heap.size w w1) (hp : w.heap.size ≤ pc) (hg : w1.grownBy w2 (some pc)) : Below w.heap.size w w2 :=
  hb.grown hg hb.size (fun k hk => by have := Option.some.inj hk; omega)

/-- The drawn places. -/
def PlacesR (w : World) (e : Ending) (w' : World) : Prop :=
  ∃ (l : List Int) (v : Value), l.length = 12 ∧ (∀ z ∈ l, 0 ≤ z ∧ z < 10000) ∧ e = .returned v ∧ IBuf w.heap.size w w' v l

set_option maxRecDepth 100000 in
set_option maxHeartbeats 1000000 in
theorem drawPlaces_any (a : Option Addr) (len cap : Nat) (w : World) (hcode : CodeIn w a len) (hs : len ≤ 1048576) :
    Calls Try.prog 7 #[.slice a len cap] w fun e w' => PlacesR w e w' := by
  go_enter Try.func7, Try.ntmps7
  go_wp2_with fail
  refine (new_any a len cap _ hcode hs).mono ?_
  rintro e w1 ⟨pc, hp, rfl, hc1, hb1⟩
  go_wp2_with fail
  refine (byte_any pc a len cap _ hc1).mono ?_
  rintro e w2 ⟨x, hx, rfl, hc2, hg2⟩
  have hb2 := below_of_new' hb1 hp hg2
  have hst := IBuf.fresh w2
  have hpc := hc2.lt
  have hcl := hc2.codeLt
  go_wp2
  go_loopw [4, 5] (fun v iv wr => ∃ (k : Nat) (l : List Int), k ≤ 12 ∧ iv = .int .i64 (k : Int) ∧ l.length = k ∧ (∀ z ∈ l, 0 ≤ z ∧ z < 10000) ∧ IBuf w2.heap.size wr wr v l ∧ Cur wr pc a len cap ∧ Below w.heap.size w wr) (fun _ iv _ => (12 - intOf iv).toNat)
  case atStart => exact ⟨0, [], by omega, rfl, rfl, by simp, hst.here, hc2.below hst.bel hpc hcl, hb2.trans (hst.bel.mono hb2.size)⟩
  case round =>
    obtain ⟨k, l, hk, rfl, hlk, hlz, hb, hcr, hgr⟩ := hrel
    by_cases hlt : k < 12
    · go_wp2_with fail
      refine (below_any 10000 pc a len cap _ hcr (by omega)).mono ?_
      rintro e w3 ⟨y, hy, _, rfl, hc3, hg3⟩
      have hy2 := hy (by omega)
      have hb3 := hb.cursor hg3 hpc
      have hgr3 := below_of_new' hgr hp hg3
      clear hy hb hcr hgr hg3
      go_wp2_with (at_builtin; refine wpList_append_int rfl _ _ rfl _ _ l rfl (hb3.alloc _) ⟨w3.heap.size, 0, none⟩ (y : Int) rfl ?c1 ?c2 ?_)
      case c1 => exact one_int _ _
      case c2 => omega
      intro v' w4 hb4
      have hcr4 : Cur w4 pc a len cap := hc3.below hb4.bel hpc (fun b off h1 h2 => hcl b off h1 h2)
      have hgr4 : Below w.heap.size w w4 := hgr3.trans (hb4.bel.mono hb2.size)
      have hb5 := hb4.here
      clear hb4 hb3 hc3 hgr3
      go_wp2
      go_roundw
      case rel => exact ⟨k + 1, l ++ [(y : Int)], by omega, by go_num, by simp [hlk], fun z hz => by
        rcases List.mem_append.1 hz with h | h
        · exact hlz z h
        · simp at h; omega, hb5, hcr4, hgr4⟩
      case measure => simp [intOf]; omega
    · obtain rfl : k = 12 := by omega
      go_wp2
      go_ret
      exact ⟨l, _, hlk, hlz, rfl, hb.down hgr hb2.size⟩

end Go.Proofs.Ytichbcpidkkblaa
