/- Texts of our own, joined. -/
import Derived.Test.YtieenkloiicnkaaGreatDoorJn
import Derived.Test.YtieenkloiicnkaaGreatDoorJa
import Derived.Deep.Slices
import Derived.Lib.SmallJoins
import Derived.ProofKit
import Derived.Test.YtieenkloiicnkaaGreatDoorJb
import Derived.Lib.Hide
import Derived.WalkSmall
import Derived.Deep.QuietTactic
import Derived.BigQuiet
import Derived.Deep.RegionHeld3
/- What the program's FlushDisk hands back. -/
namespace Go.Proofs.YtieenkloiicnkaaGreatDoor
open Go.RowKit

theorem overS_whole (s : Sec) {t : ByteArray} (h : t.size = 32) : (overS s t 32).str = t := by
  have hl : t.data.toList.length = 32 := by rw [Array.length_toList]; exact h
  have e : (overS s t 32).1 = t.data.toList := by
    unfold overS splice
    simp only [Nat.min_self]
    rw [List.take_of_length_le (l := t.data.toList) (by omega), hl]
    simp [List.drop_of_length_le, s.2]
  show (⟨(overS s t 32).1.toArray⟩ : ByteArray) = t
  rw [e]

theorem secOf_str {t : ByteArray} (h : t.size = 32) : (secOf t).str = t := secL_of h

theorem map_secOf {l : List ByteArray} (h : ∀ s ∈ l, s.size = 32) : (l.map secOf).map Sec.str = l := by
  rw [List.map_map]
  conv => rhs; rw [← List.map_id l]
  exact List.map_congr_left fun s hs => secOf_str (h s hs)

theorem landI_flush {d : Dk} (hok : d.ok) (i : Nat) (hi : i ≤ d.cache.length) : (landI (d.sec.map secOf) d.cache 32 i).map Sec.str = flush d.sec (d.cache.take i) := by
  induction i with
  | zero =>
    show (d.sec.map secOf).map Sec.str = d.sec
    exact map_secOf hok.2.2.2.1
  | succ i ih =>
    have hlt : i < d.cache.length := by omega
    obtain ⟨h1, h2, h3⟩ := hok.2.2.2.2 _ (List.getElem_mem hlt)
    rw [landI_succ hlt, flush_take hlt, ← ih (by omega)]
    have hk : d.cache[i].at_.toNat < (landI (d.sec.map secOf) d.cache 32 i).length := by rw [landI_length, List.length_map]; omega
    rw [putS_at hk, List.map_set]
    congr 1
    rw [ite_self]
    exact overS_whole _ h3

theorem landD_flush (d : Dk) : landD d d.cache 32 = flD d := by
  unfold landD flD
  by_cases h : d.ok
  · rw [if_pos h, if_pos h, landI_flush h _ (Nat.le_refl _), List.take_length]
  · rw [if_neg h, if_neg h]

set_option maxHeartbeats 1000000 in
theorem implFlushDisk_any (d : Dk) (v : Value) (B T : Nat) (w : World) (h : DOwn B T w v d) (hs : d.small) (hc : d.cache.length ≤ 1048576) (ht : ∀ s ∈ d.sec, s.size ≤ 1099511627776) (hu : ∀ x ∈ d.cache, x.text.size ≤ 1099511627776) :
    Calls Tryz.prog 91 #[v] w fun e w' => DiskR1 (flD d) w e w' := by
  obtain ⟨aa, ab, ca, cb, rfl⟩ := h.form
  obtain ⟨hx0, hx1, b0, hsz⟩ := two_boxes w #[.slice aa d.sec.length ca, .slice ab d.cache.length cb] #[.slice none 0 0, .slice none 0 0] 33 33
  have h' := h.later b0
  go_enter Tryz.func91, Tryz.ntmps91
  go_wp2_with fail
  generalize ((w.alloc (.cells #[.slice aa d.sec.length ca, .slice ab d.cache.length cb] 33)).alloc (.cells #[.slice none 0 0, .slice none 0 0] 33)) = W at hx0 hx1 b0 hsz h' ⊢
  have hrw : Rows' wrE W (.slice ab d.cache.length cb) d.cache := by
    obtain ⟨_, _, hv, _, l2, _⟩ := h'
    simp only [Value.agg.injEq, Array.mk.injEq, List.cons.injEq, and_true] at hv
    obtain ⟨_, rfl⟩ := hv
    exact l2.rows
  have hl := landed_any d _ B T W h' hs ht hu _ d.cache hrw hc 32 (by omega) (fun hok x hx => ⟨(hok.2.2.2.2 x hx).1, (hok.2.2.2.2 x hx).2.1⟩)
  rw [landD_flush] at hl
  refine hl.mono ?_
  rintro e w8 ⟨v8, rfl, o8, k8⟩
  obtain ⟨a8, a9, q8, q9, rfl⟩ := o8.form
  have x8 := hx1.later k8
  have r0 := x8.cell 0 (.slice none 0 0) rfl
  have r1 := x8.cell 1 (.slice none 0 0) rfl
  have f0 := x8.loose 0
  have f1 := x8.loose 1
  have b8 := Lib.hid (b0.trans (k8.mono b0.size))
  have O8 := Lib.hid o8
  have HW : Hid (w.heap.size + 1 < W.heap.size) := show _ < _ by omega
  clear x8 hx0 hx1 o8 k8 hsz h h' hrw hl
  go_wp2
  refine bodyPost_ret (v := .agg #[.slice a8 (flD d).sec.length q8, .slice a9 (flD d).cache.length q9]) (by simp [results, Tryz.results91, go_sem, r0, r1]) rfl ?_
  exact ⟨_, rfl, ((O8.out.store (w.heap.size + 1) 0 (.slice a8 (flD d).sec.length q8) HW.out).store (w.heap.size + 1) 1 (.slice a9 (flD d).cache.length q9) HW.out).widen (by have := HW.out; omega) (by simp) (Nat.le_refl _), (b8.out.setCell (p := ⟨w.heap.size + 1, 0, none⟩) (by simp) _).setCell (p := ⟨w.heap.size + 1, 1, none⟩) (by simp) _⟩

end Go.Proofs.YtieenkloiicnkaaGreatDoor

/- Lists that came in: a row read cell by cell is a list. -/
namespace Go.Proofs.YtieenkloiicnkaaGreatDoor
open Go.RowKit Go.ChangeShapes Go.WideShapes Go.ChangeAt Go.Deep Go.Joins

section
variable {W : World}

end

end Go.Proofs.YtieenkloiicnkaaGreatDoor

/- Checks in memory: references, and what is fixed. -/
namespace Go.Proofs.YtieenkloiicnkaaGreatDoor
open Go.RowKit

abbrev Rf := Int × Int
structure Ck where
  st : Int
  ng : Int
  ns : Int
  nv : Int
  refs : List Rf

def rfE : Enc Rf where
  ty := 124
  sty := 46
  sz := 2
  bytes := 16
  zero := .agg #[.int .i64 0, .int .i64 0]
  f := fun x => [.int .i64 x.1, .int .i64 x.2]
  len := fun _ => rfl
  pos := by decide
  one := fun _ u hu => by simp at hu; rcases hu with rfl | rfl <;> rfl
  und := Tryz.underlying46
  info := by kernel_rfl
  zc := rfl
  z0 := (0, 0)
  zf := rfl

theorem Rows'.refs {w : World} {v : Value} {l : List Rf} (h : Rows' rfE w v l) : ∃ (ad : Option Addr) (cap : Nat), v = .slice ad l.length cap ∧ ∀ X, Below w.heap.size w X → ∀ (i : Nat) (x : Rf), l[i]? = some x → ∃ g off, ad = some ⟨g, off, none⟩ ∧ X.cell? ⟨g, off + i * 2, none⟩ = some (.int .i64 x.1) ∧ X.cell? ⟨g, off + i * 2 + 1, none⟩ = some (.int .i64 x.2) := by
  rcases h.ways with ⟨rfl, a, c, rfl⟩ | ⟨hne, g, off, c, rfl, hc, hg, hcl⟩
  · exact ⟨a, c, rfl, fun X _ i x hi => by cases hi⟩
  · exact ⟨_, c, rfl, fun X hb i x hi => ⟨g, off, rfl, (hb.cell (p := ⟨g, off + i * 2 + 0, none⟩) hg).trans (hcl i x hi 0 _ rfl), (hb.cell (p := ⟨g, off + i * 2 + 1, none⟩) hg).trans (hcl i x hi 1 _ rfl)⟩⟩

def Ck.val (c : Ck) (a : Option Addr) (cap : Nat) : Value := .agg #[.int .i64 c.st, .int .i64 c.ng, .int .i64 c.ns, .int .i64 c.nv, .slice a c.refs.length cap]

theorem Box.fiveC {w : World} {b : Nat} {u0 u1 u2 u3 u4 : Value} {t : TypeId} (h : Box w b #[u0, u1, u2, u3, u4] t) :
    w.cell? ⟨b, 0, none⟩ = some u0 ∧ w.cell? ⟨b, 1, none⟩ = some u1 ∧ w.cell? ⟨b, 2, none⟩ = some u2 ∧ w.cell? ⟨b, 3, none⟩ = some u3 ∧ w.cell? ⟨b, 4, none⟩ = some u4 ∧
    w.frozen? ⟨b, 0, none⟩ = false ∧ w.frozen? ⟨b, 1, none⟩ = false ∧ w.frozen? ⟨b, 2, none⟩ = false ∧ w.frozen? ⟨b, 3, none⟩ = false ∧ w.frozen? ⟨b, 4, none⟩ = false :=
  ⟨h.cell 0 _ rfl, h.cell 1 _ rfl, h.cell 2 _ rfl, h.cell 3 _ rfl, h.cell 4 _ rfl, h.loose 0, h.loose 1, h.loose 2, h.loose 3, h.loose 4⟩

end Go.Proofs.YtieenkloiicnkaaGreatDoor
