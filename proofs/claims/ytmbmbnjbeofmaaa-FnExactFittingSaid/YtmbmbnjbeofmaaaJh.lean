/- Texts of our own, joined. -/
import Derived.Test.YtmbmbnjbeofmaaaJg
import Derived.Test.YtmbmbnjbeofmaaaJe
import Derived.Test.YtmbmbnjbeofmaaaJc
import Derived.Test.YtmbmbnjbeofmaaaJf
import Derived.Laws.StructEq
import Derived.WalkSpells
import Derived.WalkSmall
/- What records tell: the program's BoxesOf of whatever boxes: the same names, in whatever order. -/
namespace Go.Proofs.Ytmbmbnjbeofmaaa
open Go.RowKit

/-- The row of boxes at a place. -/
def HdAtP (w : World) (ad : Option Addr) (hs : List BxH) : Prop := ∀ X, Below w.heap.size w X → ∀ (i : Nat) (x : BxH), hs[i]? = some x → ∃ g off : Nat, ad = some ⟨g, off, none⟩ ∧
  X.cell? ⟨g, off + i * 5, none⟩ = some (.int .i64 x.valid) ∧ X.cell? ⟨g, off + i * 5 + 1, none⟩ = some (.string x.user) ∧ X.cell? ⟨g, off + i * 5 + 2, none⟩ = some (.string x.name) ∧ X.cell? ⟨g, off + i * 5 + 3, none⟩ = some (.int .i64 x.next) ∧ X.cell? ⟨g, off + i * 5 + 4, none⟩ = some (.slice x.a x.n x.c)
theorem HdAtP.of {w : World} {v : Value} {hs : List BxH} (hr : Rows' hdE w v hs) : ∃ (ad : Option Addr) (cap : Nat), v = .slice ad hs.length cap ∧ HdAtP w ad hs := by
  rcases hr.ways with ⟨rfl, a, c, rfl⟩ | ⟨hne, g, off, c, rfl, hc, hg, hcl⟩
  · exact ⟨a, c, rfl, fun X _ i x hx => by cases hx⟩
  · refine ⟨_, c, rfl, fun X hX i x hx => ?_⟩
    have hk : ∀ k v, (hdE.f x)[k]? = some v → X.cell? ⟨g, off + i * 5 + k, none⟩ = some v := fun k v hv => (hX.cell (p := ⟨g, off + i * 5 + k, none⟩) hg).trans (hcl i x hx k v hv)
    exact ⟨g, off, rfl, hk 0 _ rfl, hk 1 _ rfl, hk 2 _ rfl, hk 3 _ rfl, hk 4 _ rfl⟩

noncomputable def hdsOfP (hs : List BxH) (u : ByteArray) : List BxH := hs.filter (fun b => @decide (b.user = u) (Classical.propDecidable _))
theorem hds_yesP {hs : List BxH} {u : ByteArray} {i : Nat} {x : BxH} (h : hs[i]? = some x) (hu : x.user = u) : hdsOfP (hs.take (i + 1)) u = hdsOfP (hs.take i) u ++ [x] := by
  rw [List.take_add_one, h]
  simp [hdsOfP, List.filter_append, hu]
theorem hds_noP {hs : List BxH} {u : ByteArray} {i : Nat} {x : BxH} (h : hs[i]? = some x) (hu : x.user ≠ u) : hdsOfP (hs.take (i + 1)) u = hdsOfP (hs.take i) u := by
  rw [List.take_add_one, h]
  simp [hdsOfP, List.filter_append, hu]
theorem hds_lenP (hs : List BxH) (u : ByteArray) : (hdsOfP hs u).length ≤ hs.length := List.length_filter_le _ _
theorem names_hdsP : ∀ (hs : List BxH) (ps : List Bx) (u : ByteArray), hs.length = ps.length → (∀ (j : Nat) (h : BxH) (b : Bx), hs[j]? = some h → ps[j]? = some b → h.user = b.user ∧ h.name = b.name) → (hdsOfP hs u).map (·.name) = namesOf ps u
  | [], [], _, _, _ => rfl
  | [], _ :: _, _, h, _ => by simp at h
  | _ :: _, [], _, h, _ => by simp at h
  | x :: hs, b :: ps, u, h, H => by
    have ih := names_hdsP hs ps u (by simpa using h) (fun j y c h1 h2 => H (j + 1) y c (by simpa using h1) (by simpa using h2))
    obtain ⟨e1, e2⟩ := H 0 x b rfl rfl
    unfold hdsOfP namesOf at *
    by_cases hu : b.user = u
    · simp [e1, hu, e2, ih]
    · simp [e1, hu, ih]

theorem texts_rowP (l : List ByteArray) : strE.row l = strV l := by
  induction l with
  | nil => rfl
  | cons x l ih =>
    have : strE.row (x :: l) = .string x :: strE.row l := rfl
    rw [this, ih]; rfl
theorem RBuf.toTextsP {B : Nat} {w0 w : World} {v : Value} {l : List ByteArray} (h : RBuf strE B w0 w v l) : SBuf B w0 w v l :=
  ⟨by have := h.own; rw [texts_rowP] at this; exact this, h.bel, h.le⟩
set_option maxRecDepth 100000 in
set_option maxHeartbeats 4000000 in
theorem implBoxesOf_perm (ps : List Bx) (va : Value) (u : ByteArray) (w : World) (ha : BRd w va ps) (hla : ps.length ≤ 1048576) (hsz : ∀ b ∈ ps, b.name.size ≤ 1048576) :
    Calls Try.prog 31 #[.agg #[va], .string u] w fun e w' => ∃ v ns, e = .returned v ∧ ns.Perm (namesOf ps u) ∧ SBuf w.heap.size w w' v ns := by
  obtain ⟨hs, hr, hlen, hat⟩ := ha
  have HAT := Lib.hid (And.intro hlen hat)
  have HSZ : Hid (∀ x ∈ hs, x.name.size ≤ 1048576) := fun x hx => by
    obtain ⟨i, hi, rfl⟩ := List.mem_iff_getElem.1 hx
    have q := (hat i _ _ (List.getElem?_eq_getElem hi) (List.getElem?_eq_getElem (by omega))).1.2.2.1
    rw [q]
    exact hsz _ (List.getElem_mem _)
  rw [← hlen] at hla
  obtain ⟨n, hn⟩ : ∃ n, hs.length = n := ⟨_, rfl⟩
  have HN := Lib.hid hn
  obtain ⟨ad, cap, rfl, hrow⟩ := HdAtP.of hr
  rw [hn]
  rw [hn] at hla
  clear hr hlen hat hsz hn
  have HA := Lib.hid hrow
  clear hrow
  have b1 : Below w.heap.size w (w.alloc (.cells #[.slice ad n cap] 32)) := belNew _ _
  have X2 := Box.new w #[.slice ad n cap] 32
  go_enter Try.func31, Try.ntmps31
  go_upto_region 1 with fail
  generalize w.alloc (.cells #[.slice ad n cap] 32) = w1 at b1 X2 ⊢
  have BW := Lib.hid b1
  have X2' := Lib.hid X2
  clear b1 X2
  generalize hg2 : w.heap.size = g2 at X2' ⊢
  have I0 : RBuf hdE w1.heap.size w1 (w1.alloc (.cells #[] 42)) (.slice (some ⟨w1.heap.size, 0, none⟩) 0 0) (hdsOfP (hs.take 0) u) := RBuf.fresh hdE w1
  have Y2 : (w1.alloc (.cells #[] 42)).cell? ⟨g2, 0, none⟩ = some (.slice ad n cap) := (X2'.out.later I0.bel).cell 0 _ rfl
  go_wp2
  go_loopw [5, 15] (fun v iv wr => ∃ i : Nat, i ≤ n ∧ iv = .int .i64 (i : Int) ∧ RBuf hdE w1.heap.size w1 wr v (hdsOfP (hs.take i) u)) (fun _ iv _ => n - (intOf iv).toNat)
  case atStart => exact ⟨0, by omega, rfl, I0⟩
  case round =>
    clear I0 Y2
    obtain ⟨i, hi, rfl, I⟩ := hrel
    by_cases hlt : i < n
    · obtain ⟨x, hgx⟩ : ∃ x, hs[i]? = some x := ⟨_, List.getElem?_eq_getElem (by rw [HN.out]; exact hlt)⟩
      have bW : Below w.heap.size w wr := BW.out.trans (I.bel.mono BW.out.size)
      obtain ⟨gp, op, rfl, p0, p1, p2, p3, p4⟩ := HA.out _ bW i _ hgx
      have hlu : (hdsOfP (hs.take i) u).length ≤ 1048576 := by
        have h8 := hds_lenP (hs.take i) u
        rw [List.length_take] at h8
        omega
      have HY := Lib.hid (fun h => hds_yesP (u := u) hgx h)
      have HO := Lib.hid (fun h => hds_noP (u := u) hgx h)
      generalize hdsOfP (hs.take i) u = us at *
      have hi0 : (0 : Int) ≤ (i : Int) := by omega
      have hi1 : (i : Int) < (n : Int) := by omega
      have kN := belNew wr (.cells #[.int .i64 x.valid, .string x.user, .string x.name, .int .i64 x.next, .slice x.a x.n x.c] 42)
      obtain ⟨z0, z1, z2, z3, z4⟩ := (Box.new wr #[.int .i64 x.valid, .string x.user, .string x.name, .int .i64 x.next, .slice x.a x.n x.c] 42).five
      have I1 := I.later kN
      clear hgx bW kN I
      go_upto_region 5 with fail
      generalize wr.alloc (.cells #[.int .i64 x.valid, .string x.user, .string x.name, .int .i64 x.next, .slice x.a x.n x.c] 42) = w2 at z0 z1 z2 z3 z4 I1 ⊢
      generalize wr.heap.size = g7 at z0 z1 z2 z3 z4 ⊢
      clear p0 p1 p2 p3 p4
      by_cases hu : x.user = u
      · subst hu
        have HY' := Lib.hid (HY.out rfl)
        have hb5 := Lib.hid (I1.alloc (.cells #[.int .i64 x.valid, .string x.user, .string x.name, .int .i64 x.next, .slice x.a x.n x.c] 42))
        have hL5 := Lib.hid (RBuf.lit1 hdE w2 x)
        clear HY HO
        obtain ⟨a5, c5, rfl⟩ := I1.form
        clear I1
        go_wp2_with (at_builtin; refine wpList_append_rows rfl _ _ hdE rfl w1.heap.size _ us rfl hb5.out.here w2.heap.size _ [x] rfl hL5.out (by show _ * 73 ≤ _; simp only [List.length_cons, List.length_nil]; omega) ?_; intro v8 w8 r8 g8 at8)
        exact ⟨⟨i + 1, by omega, by simp, by rw [HY'.out]; exact ⟨r8.own, hb5.out.bel.grown g8 hb5.out.le (fun q hq => (hb5.out.own.lt q hq).1), r8.le⟩⟩, by first | omega | (simp [intOf]; omega)⟩
      · have hu' : (x.user.toList == u.toList) = false := by rw [beq_eq_false_iff_ne]; exact fun h => hu ((ba_same' _ _).1 h)
        have HO' := Lib.hid (HO.out hu)
        clear HY HO
        go_wp2
        go_roundw
        case rel => exact ⟨i + 1, by omega, by go_num, by rw [HO'.out]; exact I1⟩
        case measure => simp [intOf]; omega
    · have hil : i = hs.length := by rw [HN.out]; omega
      rw [hil, List.take_length] at I
      have hul : (hdsOfP hs u).length ≤ 1048576 := by have h8 := hds_lenP hs u; rw [HN.out] at h8; omega
      have HUZ : Hid (∀ x ∈ hdsOfP hs u, x.name.size ≤ 1048576) := fun x hx => HSZ.out x (List.mem_filter.1 hx).1
      have HNM : Hid ((hdsOfP hs u).map (·.name) = namesOf ps u) := names_hdsP hs ps u HAT.out.1 (fun j h b h1 h2 => ⟨(HAT.out.2 j h b h1 h2).1.2.1, (HAT.out.2 j h b h1 h2).1.2.2.1⟩)
      obtain ⟨us, hus⟩ : ∃ us, hdsOfP hs u = us := ⟨_, rfl⟩
      rw [hus] at I hul HUZ HNM
      obtain ⟨wB, hwB⟩ : ∃ wB, wB = wr := ⟨_, rfl⟩
      subst hwB
      have bB := BW.out.trans (I.bel.mono BW.out.size)
      obtain ⟨a3, c3, hv3⟩ := I.form
      subst hv3
      have HS3 := Lib.hid (sortStable_perm _ _ wB _ us I hul)
      have HL3 : Hid (w1.heap.size ≤ wB.heap.size) := I.le
      clear hus hil I HSZ HAT HA HN hi
      obtain ⟨m, hm⟩ : ∃ m, us.length = m := ⟨_, rfl⟩
      rw [hm] at hul HS3 ⊢
      have HM := Lib.hid hm
      clear hm
      go_wp2_with fail
      refine HS3.out.mono ?_
      rintro e w3 ⟨rfl, ls, hperm, I3⟩
      have hls : ls.length = m := hperm.length_eq.trans HM.out
      have HPM := Lib.hid (hperm.map (·.name))
      have HUZ3 : Hid (∀ x ∈ ls, x.name.size ≤ 1048576) := fun x hx => HUZ.out x (hperm.mem_iff.1 hx)
      obtain ⟨ad3, c3', hv3, H3⟩ := HdAtP.of I3.rows
      have hv4 := hv3
      rw [hls] at hv4
      injection hv4 with e1 e2 e3
      subst e1 e3
      have bB3 := BW.out.trans (I3.bel.mono BW.out.size)
      have HH3 := Lib.hid H3
      have HLS := Lib.hid hls
      clear hperm HUZ I3 H3 hv3 hls bB e2
      go_wp2_with (at_make; refine wpList_make_cap rfl _ _ strE rfl .i64 .i64 _ m rfl rfl rfl (by show 17 * m ≤ _; omega) ?_; intro w4 hr4 hg4)
      go_loopw [8, 35] (fun v iv wr => ∃ j : Nat, j ≤ m ∧ iv = .int .i64 (j : Int) ∧ RBuf strE w3.heap.size w3 wr v ((ls.take j).map (·.name))) (fun _ iv _ => m - (intOf iv).toNat)
      case atStart => exact ⟨0, by omega, rfl, hr4⟩
      case round =>
        clear hr4 hg4
        obtain ⟨j, hj, rfl, I⟩ := hrel
        by_cases hlt : j < m
        · obtain ⟨x, hgx⟩ : ∃ x, ls[j]? = some x := ⟨_, List.getElem?_eq_getElem (by rw [HLS.out]; exact hlt)⟩
          obtain ⟨gp, op, rfl, p0, p1, p2, p3, p4⟩ := HH3.out _ I.bel j _ hgx
          have hxz := HUZ3.out x (List.mem_of_getElem? hgx)
          have HT : Hid ((ls.take (j + 1)).map (·.name) = (ls.take j).map (·.name) ++ [x.name]) := by
            show _ = _
            rw [List.take_add_one, hgx]
            simp
          have hlu : ((ls.take j).map (·.name)).length ≤ 1048576 := by rw [List.length_map, List.length_take]; omega
          generalize (ls.take j).map (·.name) = ts at *
          have hi0 : (0 : Int) ≤ (j : Int) := by omega
          have hi1 : (j : Int) < (m : Int) := by omega
          have kN := belNew wr (.cells #[.int .i64 x.valid, .string x.user, .string x.name, .int .i64 x.next, .slice x.a x.n x.c] 42)
          obtain ⟨z0, z1, z2, z3, z4⟩ := (Box.new wr #[.int .i64 x.valid, .string x.user, .string x.name, .int .i64 x.next, .slice x.a x.n x.c] 42).five
          have I1 := I.later kN
          clear hgx kN I
          go_wp2_with fail
          generalize wr.alloc (.cells #[.int .i64 x.valid, .string x.user, .string x.name, .int .i64 x.next, .slice x.a x.n x.c] 42) = w5 at z0 z1 z2 z3 z4 I1 ⊢
          clear p0 p1 p2 p3 p4 z0 z1 z2 z3 z4
          refine (clone_any x.name _ (by omega)).mono ?_
          rintro e w6 ⟨rfl, k6⟩
          have I6 := I1.later k6
          have hb5 := Lib.hid (I6.alloc (.cells #[.string x.name] 9))
          have hL5 := Lib.hid (RBuf.lit1 strE w6 x.name)
          obtain ⟨a5, c5, rfl⟩ := I6.form
          clear I1 I6 k6
          go_wp2_with (at_builtin; refine wpList_append_rows rfl _ _ strE rfl w3.heap.size _ ts rfl hb5.out.here w6.heap.size _ [x.name] rfl hL5.out (by show _ * 17 ≤ _; simp only [List.length_cons, List.length_nil]; omega) ?_; intro v8 w8 r8 g8 at8)
          exact ⟨⟨j + 1, by omega, by simp, by rw [HT.out]; exact ⟨r8.own, hb5.out.bel.grown g8 hb5.out.le (fun q hq => (hb5.out.own.lt q hq).1), r8.le⟩⟩, by first | omega | (simp [intOf]; omega)⟩
        · have hjm : j = ls.length := by rw [HLS.out]; omega
          rw [hjm, List.take_length] at I
          have HE := Lib.hid (SBuf.under bB3 I.toTextsP)
          have HPE : Hid ((ls.map (·.name)).Perm (namesOf ps u)) := by show List.Perm _ _; rw [← HNM.out]; exact HPM.out
          clear I
          go_wp2
          go_ret
          rw [← hg2]
          exact ⟨_, _, rfl, HPE.out, HE.out⟩

end Go.Proofs.Ytmbmbnjbeofmaaa

/- Records: what the program's WordOk hands back, the rights of its five kinds of records, and records told apart and back. -/
namespace Go.Proofs.Ytmbmbnjbeofmaaa
open Go.RowKit

set_option maxRecDepth 100000 in
set_option maxHeartbeats 1000000 in
theorem implWordOk_any (s : ByteArray) (w : World) :
    Calls Try.prog 73 #[.string s] w fun e w' => e = .returned (.bool (decide (wdOk s))) ∧ Below w.heap.size w w' := by
  by_cases hin : 1 ≤ s.size ∧ s.size ≤ 8
  · obtain ⟨hin1, hin2⟩ := hin
    have h1 : ¬ (s.size : Int) < 1 := by omega
    have h2 : ¬ (8 : Int) < (s.size : Int) := by omega
    have hconv : ∀ wx, (convert 9 102 (.string s)).run Try.prog wx = .ok (.slice (some ⟨wx.heap.size, 0, none⟩) s.size (grownCap wx s.size 0 5)) (Lib.bytesWorld wx 5 s) :=
      fun wx => Lib.run_convert_string_bytes (P := Try.prog) wx 9 102 5 s Try.underlying9 Try.underlying102 Try.underlying5
    have hbel : Below w.heap.size w (Lib.bytesWorld w 5 s) :=
      (Below.refl _ _).grown (⟨rfl, rfl, rfl, by rw [Lib.bytesWorld_size]; omega, fun k hk _ => Lib.bytesWorld_at_old w 5 s k hk⟩ : w.grownBy (Lib.bytesWorld w 5 s) none) (Nat.le_refl _) (fun k hk => by cases hk)
    obtain ⟨o, ho1, ho2⟩ := bytes_block w s
    have hcells := ho2 _ ho1
    go_enter Try.func73, Try.ntmps73
    go_wp2
    clear hconv ho1 ho2
    generalize hbw : Lib.bytesWorld w 5 s = w2 at *
    clear hbw
    go_loop [16] (fun iv => ∃ i : Nat, i ≤ s.size ∧ iv = .int .i64 (i : Int) ∧ ∀ j (hj : j < s.size), j < i → 97 ≤ s[j].toNat ∧ s[j].toNat ≤ 122) (fun iv => s.size - (intOf iv).toNat)
    case atStart => exact ⟨0, by omega, rfl, fun j _ hj => by omega⟩
    case round =>
      obtain ⟨i, hi, rfl, hall⟩ := hrel
      have HA := Lib.hid hall
      clear hall
      by_cases hlt : i < s.size
      · have hlt' : (i : Int) < (s.size : Int) := by omega
        have hcell := hcells i hlt
        have HB : Hid (¬ (97 ≤ s[i].toNat ∧ s[i].toNat ≤ 122) → decide (wdOk s) = false) := fun h => decide_eq_false (fun hw => h (hw.2 _ (by
          show s.data[i] ∈ s.data.toList
          exact Array.getElem_mem_toList _)))
        have HN : Hid (97 ≤ s[i].toNat ∧ s[i].toNat ≤ 122 → ∀ j (hj : j < s.size), j < i + 1 → 97 ≤ s[j].toNat ∧ s[j].toNat ≤ 122) := by
          intro h j hj hji
          by_cases e : j = i
          · subst e; exact h
          · exact HA.out j hj (by omega)
        clear hcells
        generalize s[i].toNat = c at hcell HB HN
        by_cases q1 : c < 97
        · have q1' : (c : Int) < 97 := by omega
          go_wp2
          go_ret
          exact ⟨by rw [HB.out (by omega)]; rfl, hbel⟩
        · have q1' : ¬ (c : Int) < 97 := by omega
          by_cases q2 : 122 < c
          · have q2' : (122 : Int) < (c : Int) := by omega
            go_wp2
            go_ret
            exact ⟨by rw [HB.out (by omega)]; rfl, hbel⟩
          · have q2' : ¬ (122 : Int) < (c : Int) := by omega
            go_wp2
            go_round
            case rel => exact ⟨i + 1, by omega, by go_num, HN.out ⟨by omega, by omega⟩⟩
            case measure => simp [intOf]; omega
      · have hge : ¬ (i : Int) < (s.size : Int) := by omega
        have HE : Hid (decide (wdOk s) = true) := show _ = _ from decide_eq_true ⟨⟨hin1, hin2⟩, fun b hb => by
          obtain ⟨j, hj, rfl⟩ := List.getElem_of_mem hb
          have hj2 : j < s.size := by rw [← tl_len]; exact hj
          exact HA.out j hj2 (by omega)⟩
        clear hcells
        go_wp2
        go_ret
        exact ⟨by rw [HE.out]; rfl, hbel⟩
  · have hd : Hid (decide (wdOk s) = false) := show _ = _ from decide_eq_false (fun h => hin h.1)
    by_cases h1 : (s.size : Int) < 1
    · go_enter Try.func73, Try.ntmps73
      go_wp2
      go_ret
      exact ⟨by rw [hd.out]; rfl, Below.refl _ _⟩
    · have h2 : (8 : Int) < (s.size : Int) := by omega
      go_enter Try.func73, Try.ntmps73
      go_wp2
      go_ret
      exact ⟨by rw [hd.out]; rfl, Below.refl _ _⟩

theorem validOk_yes (n : Int) (w : World) (h1 : 1 ≤ n) (h2 : n ≤ 9999) : Calls Try.prog 71 #[.int .i64 n] w fun e w' => e = .returned (.bool true) ∧ w = w' := by
  go_enter Try.func71, Try.ntmps71
  go_wp2
  go_ret
  simp
theorem validOk_no (n : Int) (w : World) (h : ¬ (1 ≤ n ∧ n ≤ 9999)) : Calls Try.prog 71 #[.int .i64 n] w fun e w' => e = .returned (.bool false) ∧ w = w' := by
  by_cases h1 : 1 ≤ n
  · have h2 : ¬ n ≤ 9999 := fun h2 => h ⟨h1, h2⟩
    go_enter Try.func71, Try.ntmps71
    go_wp2
    go_ret
    simp
  · go_enter Try.func71, Try.ntmps71
    go_wp2
    go_ret
    simp
theorem flagsOk_any (n : Int) (w : World) : Calls Try.prog 76 #[.int .i64 n] w fun e w' => e = .returned (.bool (decide (0 ≤ n ∧ n ≤ 7))) ∧ w = w' := by
  by_cases h1 : 0 ≤ n
  · have e : decide (0 ≤ n ∧ n ≤ 7) = decide (n ≤ 7) := by simp [h1]
    rw [e]
    go_enter Try.func76, Try.ntmps76
    go_wp2
    go_ret
    simp
  · have e : decide (0 ≤ n ∧ n ≤ 7) = false := by simp [h1]
    rw [e]
    go_enter Try.func76, Try.ntmps76
    go_wp2
    go_ret
    simp

/-- What the five kinds of records ask for. -/
def bxP (v n : Int) (u m : ByteArray) : Prop := (1 ≤ v ∧ v ≤ 9999) ∧ (1 ≤ n ∧ n ≤ 10000) ∧ wdOk u ∧ wdOk m
instance (v n : Int) (u m : ByteArray) : Decidable (bxP v n u m) := by unfold bxP; infer_instance
def adP (v u f : Int) (t : ByteArray) : Prop := (1 ≤ v ∧ v ≤ 9999) ∧ (1 ≤ u ∧ u ≤ 9999) ∧ (0 ≤ f ∧ f ≤ 7) ∧ t.size ≤ 100
instance (v u f : Int) (t : ByteArray) : Decidable (adP v u f t) := by unfold adP; infer_instance
def flP (v u f : Int) : Prop := (1 ≤ v ∧ v ≤ 9999) ∧ (1 ≤ u ∧ u ≤ 9999) ∧ (0 ≤ f ∧ f ≤ 7)
instance (v u f : Int) : Decidable (flP v u f) := by unfold flP; infer_instance
def goP (v u : Int) : Prop := (1 ≤ v ∧ v ≤ 9999) ∧ (1 ≤ u ∧ u ≤ 9999)
instance (v u : Int) : Decidable (goP v u) := by unfold goP; infer_instance

theorem nextOk_any (n : Int) (w : World) : Calls Try.prog 72 #[.int .i64 n] w fun e w' => e = .returned (.bool (decide (1 ≤ n ∧ n ≤ 10000))) ∧ w = w' := by
  by_cases h1 : 1 ≤ n
  · have e : decide (1 ≤ n ∧ n ≤ 10000) = decide (n ≤ 10000) := by simp [h1]
    rw [e]
    go_enter Try.func72, Try.ntmps72
    go_wp2
    go_ret
    simp
  · have e : decide (1 ≤ n ∧ n ≤ 10000) = false := by simp [h1]
    rw [e]
    go_enter Try.func72, Try.ntmps72
    go_wp2
    go_ret
    simp
theorem nextOk_yes (n : Int) (w : World) (h1 : 1 ≤ n) (h2 : n ≤ 10000) : Calls Try.prog 72 #[.int .i64 n] w fun e w' => e = .returned (.bool true) ∧ w = w' := by
  have h := nextOk_any n w
  rwa [decide_eq_true (show 1 ≤ n ∧ n ≤ 10000 from ⟨h1, h2⟩)] at h
theorem nextOk_no (n : Int) (w : World) (h1 : ¬ (1 ≤ n ∧ n ≤ 10000)) : Calls Try.prog 72 #[.int .i64 n] w fun e w' => e = .returned (.bool false) ∧ w = w' := by
  have h := nextOk_any n w
  rwa [decide_eq_false h1] at h

set_option maxRecDepth 100000 in
set_option maxHeartbeats 1000000 in
theorem boxRight_any (v n : Int) (u m : ByteArray) (w : World) :
    Calls Try.prog 70 #[.agg #[.int .i64 v, .int .i64 n, .string u, .string m]] w fun e w' => e = .returned (.bool (decide (bxP v n u m))) ∧ Below w.heap.size w w' := by
  have bx := Box.new w #[.int .i64 v, .int .i64 n, .string u, .string m] 78
  have b0 : Below w.heap.size w (w.alloc (.cells #[.int .i64 v, .int .i64 n, .string u, .string m] 78)) := (Below.refl _ _).alloc (Nat.le_refl _) _
  have c0 := bx.cell 0 _ rfl
  have c1 := bx.cell 1 _ rfl
  have c2 := bx.cell 2 _ rfl
  have c3 := bx.cell 3 _ rfl
  have BX := Lib.hid bx
  clear bx
  by_cases hv : 1 ≤ v ∧ v ≤ 9999
  · by_cases hn : 1 ≤ n ∧ n ≤ 10000
    · by_cases hu : wdOk u
      · have HE : Hid (decide (bxP v n u m) = decide (wdOk m)) := show _ = _ from decide_eq_decide.2 ⟨fun h => h.2.2.2, fun h => ⟨hv, hn, hu, h⟩⟩
        have HU : Hid (decide (wdOk u) = true) := show _ = _ from decide_eq_true hu
        have HV := Lib.hid hv
        have HN := Lib.hid hn
        clear hu hv hn
        go_enter Try.func70, Try.ntmps70
        go_wp2_with (first | (go_at_call 71; refine (validOk_yes _ _ HV.out.1 HV.out.2).mono ?_; rintro e w5 ⟨rfl, rfl⟩) | (go_at_call 72; refine (nextOk_yes _ _ HN.out.1 HN.out.2).mono ?_; rintro e w5 ⟨rfl, rfl⟩) | (go_at_call 73; refine (implWordOk_any _ _).mono ?_; rintro e w5 ⟨rfl, hb5⟩; rw [HU.out]; have c3' := (BX.out.later hb5).cell 3 _ rfl) | (go_at_call 73; refine (implWordOk_any _ _).mono ?_; rintro e w6 ⟨rfl, hb6⟩))
        go_ret
        exact ⟨by rw [HE.out]; rfl, (b0.trans (hb5.mono b0.size)).trans (hb6.mono ((b0.trans (hb5.mono b0.size)).size))⟩
      · have HE : Hid (decide (bxP v n u m) = false) := show _ = _ from decide_eq_false fun h => hu h.2.2.1
        have HU : Hid (decide (wdOk u) = false) := show _ = _ from decide_eq_false hu
        have HV := Lib.hid hv
        have HN := Lib.hid hn
        clear hu hv hn
        go_enter Try.func70, Try.ntmps70
        go_wp2_with (first | (go_at_call 71; refine (validOk_yes _ _ HV.out.1 HV.out.2).mono ?_; rintro e w5 ⟨rfl, rfl⟩) | (go_at_call 72; refine (nextOk_yes _ _ HN.out.1 HN.out.2).mono ?_; rintro e w5 ⟨rfl, rfl⟩) | (go_at_call 73; refine (implWordOk_any _ _).mono ?_; rintro e w5 ⟨rfl, hb5⟩; rw [HU.out]))
        go_ret
        exact ⟨by rw [HE.out]; rfl, b0.trans (hb5.mono b0.size)⟩
    · have HE : Hid (decide (bxP v n u m) = false) := show _ = _ from decide_eq_false fun h => hn h.2.1
      have HV := Lib.hid hv
      have HN := Lib.hid hn
      clear hv hn
      go_enter Try.func70, Try.ntmps70
      go_wp2_with (first | (go_at_call 71; refine (validOk_yes _ _ HV.out.1 HV.out.2).mono ?_; rintro e w5 ⟨rfl, rfl⟩) | (go_at_call 72; refine (nextOk_no _ _ HN.out).mono ?_; rintro e w5 ⟨rfl, rfl⟩))
      go_ret
      exact ⟨by rw [HE.out]; rfl, b0⟩
  · have HE : Hid (decide (bxP v n u m) = false) := show _ = _ from decide_eq_false fun h => hv h.1
    have HV := Lib.hid hv
    clear hv
    go_enter Try.func70, Try.ntmps70
    go_wp2_with (go_at_call 71; refine (validOk_no _ _ HV.out).mono ?_; rintro e w5 ⟨rfl, rfl⟩)
    go_ret
    exact ⟨by rw [HE.out]; rfl, b0⟩

set_option maxRecDepth 100000 in
set_option maxHeartbeats 1000000 in
theorem dropRight_any (v : Int) (w : World) :
    Calls Try.prog 74 #[.agg #[.int .i64 v]] w fun e w' => e = .returned (.bool (decide (1 ≤ v ∧ v ≤ 9999))) ∧ Below w.heap.size w w' := by
  have bx := Box.new w #[.int .i64 v] 80
  have b0 : Below w.heap.size w (w.alloc (.cells #[.int .i64 v] 80)) := (Below.refl _ _).alloc (Nat.le_refl _) _
  have c0 := bx.cell 0 _ rfl
  clear bx
  by_cases hv : 1 ≤ v ∧ v ≤ 9999
  · rw [decide_eq_true hv]
    go_enter Try.func74, Try.ntmps74
    go_wp2_with (go_at_call 71; first | (refine (validOk_yes _ _ (by omega) (by omega)).mono ?_; rintro e w5 ⟨rfl, rfl⟩) | (refine (validOk_no _ _ (by omega)).mono ?_; rintro e w5 ⟨rfl, rfl⟩))
    go_ret
    exact ⟨rfl, b0⟩
  · rw [decide_eq_false hv]
    go_enter Try.func74, Try.ntmps74
    go_wp2_with (go_at_call 71; first | (refine (validOk_yes _ _ (by omega) (by omega)).mono ?_; rintro e w5 ⟨rfl, rfl⟩) | (refine (validOk_no _ _ (by omega)).mono ?_; rintro e w5 ⟨rfl, rfl⟩))
    go_ret
    exact ⟨rfl, b0⟩

set_option maxRecDepth 100000 in
set_option maxHeartbeats 1000000 in
theorem goneRight_any (v u : Int) (w : World) :
    Calls Try.prog 78 #[.agg #[.int .i64 v, .int .i64 u]] w fun e w' => e = .returned (.bool (decide (goP v u))) ∧ Below w.heap.size w w' := by
  have bx := Box.new w #[.int .i64 v, .int .i64 u] 86
  have b0 : Below w.heap.size w (w.alloc (.cells #[.int .i64 v, .int .i64 u] 86)) := (Below.refl _ _).alloc (Nat.le_refl _) _
  have c0 := bx.cell 0 _ rfl
  have c1 := bx.cell 1 _ rfl
  clear bx
  by_cases hv : 1 ≤ v ∧ v ≤ 9999
  · by_cases hu : 1 ≤ u ∧ u ≤ 9999
    · rw [decide_eq_true (show goP v u from ⟨hv, hu⟩)]
      go_enter Try.func78, Try.ntmps78
      go_wp2_with (go_at_call 71; first | (refine (validOk_yes _ _ (by omega) (by omega)).mono ?_; rintro e w5 ⟨rfl, rfl⟩) | (refine (validOk_no _ _ (by omega)).mono ?_; rintro e w5 ⟨rfl, rfl⟩))
      go_ret
      exact ⟨rfl, b0⟩
    · rw [decide_eq_false (show ¬ goP v u from fun h => hu h.2)]
      go_enter Try.func78, Try.ntmps78
      go_wp2_with (go_at_call 71; first | (refine (validOk_yes _ _ (by omega) (by omega)).mono ?_; rintro e w5 ⟨rfl, rfl⟩) | (refine (validOk_no _ _ (by omega)).mono ?_; rintro e w5 ⟨rfl, rfl⟩))
      go_ret
      exact ⟨rfl, b0⟩
  · rw [decide_eq_false (show ¬ goP v u from fun h => hv h.1)]
    go_enter Try.func78, Try.ntmps78
    go_wp2_with (go_at_call 71; first | (refine (validOk_yes _ _ (by omega) (by omega)).mono ?_; rintro e w5 ⟨rfl, rfl⟩) | (refine (validOk_no _ _ (by omega)).mono ?_; rintro e w5 ⟨rfl, rfl⟩))
    go_ret
    exact ⟨rfl, b0⟩

set_option maxRecDepth 100000 in
set_option maxHeartbeats 1000000 in
theorem flagRight_any (v u f : Int) (w : World) :
    Calls Try.prog 77 #[.agg #[.int .i64 v, .int .i64 u, .int .i64 f]] w fun e w' => e = .returned (.bool (decide (flP v u f))) ∧ Below w.heap.size w w' := by
  have bx := Box.new w #[.int .i64 v, .int .i64 u, .int .i64 f] 84
  have b0 : Below w.heap.size w (w.alloc (.cells #[.int .i64 v, .int .i64 u, .int .i64 f] 84)) := (Below.refl _ _).alloc (Nat.le_refl _) _
  have c0 := bx.cell 0 _ rfl
  have c1 := bx.cell 1 _ rfl
  have c2 := bx.cell 2 _ rfl
  clear bx
  by_cases hv : 1 ≤ v ∧ v ≤ 9999
  · by_cases hu : 1 ≤ u ∧ u ≤ 9999
    · have HF : Hid (decide (0 ≤ f ∧ f ≤ 7) = decide (flP v u f)) := show _ = _ from decide_eq_decide.2 ⟨fun h => ⟨hv, hu, h⟩, fun h => h.2.2⟩
      go_enter Try.func77, Try.ntmps77
      go_wp2_with (first | (go_at_call 71; first | (refine (validOk_yes _ _ (by omega) (by omega)).mono ?_; rintro e w5 ⟨rfl, rfl⟩) | (refine (validOk_no _ _ (by omega)).mono ?_; rintro e w5 ⟨rfl, rfl⟩)) | (go_at_call 76; refine (flagsOk_any _ _).mono ?_; rintro e w5 ⟨rfl, rfl⟩; try rw [HF.out]))
      go_ret
      exact ⟨rfl, b0⟩
    · rw [decide_eq_false (show ¬ flP v u f from fun h => hu h.2.1)]
      go_enter Try.func77, Try.ntmps77
      go_wp2_with (go_at_call 71; first | (refine (validOk_yes _ _ (by omega) (by omega)).mono ?_; rintro e w5 ⟨rfl, rfl⟩) | (refine (validOk_no _ _ (by omega)).mono ?_; rintro e w5 ⟨rfl, rfl⟩))
      go_ret
      exact ⟨rfl, b0⟩
  · rw [decide_eq_false (show ¬ flP v u f from fun h => hv h.1)]
    go_enter Try.func77, Try.ntmps77
    go_wp2_with (go_at_call 71; first | (refine (validOk_yes _ _ (by omega) (by omega)).mono ?_; rintro e w5 ⟨rfl, rfl⟩) | (refine (validOk_no _ _ (by omega)).mono ?_; rintro e w5 ⟨rfl, rfl⟩))
    go_ret
    exact ⟨rfl, b0⟩

set_option maxRecDepth 100000 in
set_option maxHeartbeats 1000000 in
theorem addRight_any (v u f : Int) (t : ByteArray) (w : World) :
    Calls Try.prog 75 #[.agg #[.int .i64 v, .int .i64 u, .int .i64 f, .string t]] w fun e w' => e = .returned (.bool (decide (adP v u f t))) ∧ Below w.heap.size w w' := by
  have bx := Box.new w #[.int .i64 v, .int .i64 u, .int .i64 f, .string t] 82
  have b0 : Below w.heap.size w (w.alloc (.cells #[.int .i64 v, .int .i64 u, .int .i64 f, .string t] 82)) := (Below.refl _ _).alloc (Nat.le_refl _) _
  have c0 := bx.cell 0 _ rfl
  have c1 := bx.cell 1 _ rfl
  have c2 := bx.cell 2 _ rfl
  have c3 := bx.cell 3 _ rfl
  clear bx
  by_cases hv : 1 ≤ v ∧ v ≤ 9999
  · by_cases hu : 1 ≤ u ∧ u ≤ 9999
    · by_cases hf : 0 ≤ f ∧ f ≤ 7
      · have HF : Hid (decide (0 ≤ f ∧ f ≤ 7) = true) := show _ = _ from decide_eq_true hf
        have HE : Hid (decide (adP v u f t) = decide ((t.size : Int) ≤ 100)) := show _ = _ from decide_eq_decide.2 ⟨fun h => by have := h.2.2.2; omega, fun h => ⟨hv, hu, hf, by omega⟩⟩
        clear hf
        go_enter Try.func75, Try.ntmps75
        go_wp2_with (first | (go_at_call 71; first | (refine (validOk_yes _ _ (by omega) (by omega)).mono ?_; rintro e w5 ⟨rfl, rfl⟩) | (refine (validOk_no _ _ (by omega)).mono ?_; rintro e w5 ⟨rfl, rfl⟩)) | (go_at_call 76; refine (flagsOk_any _ _).mono ?_; rintro e w5 ⟨rfl, rfl⟩; try rw [HF.out]))
        go_ret
        exact ⟨by rw [HE.out]; rfl, b0⟩
      · have HF : Hid (decide (0 ≤ f ∧ f ≤ 7) = false) := show _ = _ from decide_eq_false hf
        rw [decide_eq_false (show ¬ adP v u f t from fun h => hf h.2.2.1)]
        clear hf
        go_enter Try.func75, Try.ntmps75
        go_wp2_with (first | (go_at_call 71; first | (refine (validOk_yes _ _ (by omega) (by omega)).mono ?_; rintro e w5 ⟨rfl, rfl⟩) | (refine (validOk_no _ _ (by omega)).mono ?_; rintro e w5 ⟨rfl, rfl⟩)) | (go_at_call 76; refine (flagsOk_any _ _).mono ?_; rintro e w5 ⟨rfl, rfl⟩; try rw [HF.out]))
        go_ret
        exact ⟨rfl, b0⟩
    · rw [decide_eq_false (show ¬ adP v u f t from fun h => hu h.2.1)]
      go_enter Try.func75, Try.ntmps75
      go_wp2_with (go_at_call 71; first | (refine (validOk_yes _ _ (by omega) (by omega)).mono ?_; rintro e w5 ⟨rfl, rfl⟩) | (refine (validOk_no _ _ (by omega)).mono ?_; rintro e w5 ⟨rfl, rfl⟩))
      go_ret
      exact ⟨rfl, b0⟩
  · rw [decide_eq_false (show ¬ adP v u f t from fun h => hv h.1)]
    go_enter Try.func75, Try.ntmps75
    go_wp2_with (go_at_call 71; first | (refine (validOk_yes _ _ (by omega) (by omega)).mono ?_; rintro e w5 ⟨rfl, rfl⟩) | (refine (validOk_no _ _ (by omega)).mono ?_; rintro e w5 ⟨rfl, rfl⟩))
    go_ret
    exact ⟨rfl, b0⟩

set_option maxRecDepth 100000 in
set_option maxHeartbeats 1000000 in
theorem recordOf_1 (r : Rc) (w : World) (hk : r.kind = 1) :
    Calls Try.prog 29 #[r.v] w fun e w' => e = .returned (.tuple #[.iface 78 (.agg #[.int .i64 r.valid, .int .i64 r.next, .string r.user, .string r.name]), .bool true]) ∧ Below w.heap.size w w' := by
  obtain ⟨c0, c1, c2, c3, c4, c5, c6, c7⟩ := (Box.new w r.cs 34).rec
  have b0 : Below w.heap.size w (w.alloc (.cells r.cs 34)) := (Below.refl _ _).alloc (Nat.le_refl _) _
  have k1 : (r.kind == 1) = true := by rw [hk]; rfl
  clear hk
  unfold Rc.v
  unfold Rc.cs at *
  go_enter Try.func29, Try.ntmps29
  go_wp2
  go_ret2
  exact ⟨rfl, b0⟩

set_option maxRecDepth 100000 in
set_option maxHeartbeats 1000000 in
theorem recordOf_2 (r : Rc) (w : World) (hk : r.kind = 2) :
    Calls Try.prog 29 #[r.v] w fun e w' => e = .returned (.tuple #[.iface 80 (.agg #[.int .i64 r.valid]), .bool true]) ∧ Below w.heap.size w w' := by
  obtain ⟨c0, c1, c2, c3, c4, c5, c6, c7⟩ := (Box.new w r.cs 34).rec
  have b0 : Below w.heap.size w (w.alloc (.cells r.cs 34)) := (Below.refl _ _).alloc (Nat.le_refl _) _
  have k1 : (r.kind == 1) = false := by rw [hk]; rfl
  have k2 : (r.kind == 2) = true := by rw [hk]; rfl
  clear hk
  unfold Rc.v
  unfold Rc.cs at *
  go_enter Try.func29, Try.ntmps29
  go_wp2
  go_ret2
  exact ⟨rfl, b0⟩

set_option maxRecDepth 100000 in
set_option maxHeartbeats 1000000 in
theorem recordOf_3 (r : Rc) (w : World) (hk : r.kind = 3) :
    Calls Try.prog 29 #[r.v] w fun e w' => e = .returned (.tuple #[.iface 82 (.agg #[.int .i64 r.valid, .int .i64 r.uid, .int .i64 r.flags, .string r.text]), .bool true]) ∧ Below w.heap.size w w' := by
  obtain ⟨c0, c1, c2, c3, c4, c5, c6, c7⟩ := (Box.new w r.cs 34).rec
  have b0 : Below w.heap.size w (w.alloc (.cells r.cs 34)) := (Below.refl _ _).alloc (Nat.le_refl _) _
  have k1 : (r.kind == 1) = false := by rw [hk]; rfl
  have k2 : (r.kind == 2) = false := by rw [hk]; rfl
  have k3 : (r.kind == 3) = true := by rw [hk]; rfl
  clear hk
  unfold Rc.v
  unfold Rc.cs at *
  go_enter Try.func29, Try.ntmps29
  go_wp2
  go_ret2
  exact ⟨rfl, b0⟩

set_option maxRecDepth 100000 in
set_option maxHeartbeats 1000000 in
theorem recordOf_4 (r : Rc) (w : World) (hk : r.kind = 4) :
    Calls Try.prog 29 #[r.v] w fun e w' => e = .returned (.tuple #[.iface 84 (.agg #[.int .i64 r.valid, .int .i64 r.uid, .int .i64 r.flags]), .bool true]) ∧ Below w.heap.size w w' := by
  obtain ⟨c0, c1, c2, c3, c4, c5, c6, c7⟩ := (Box.new w r.cs 34).rec
  have b0 : Below w.heap.size w (w.alloc (.cells r.cs 34)) := (Below.refl _ _).alloc (Nat.le_refl _) _
  have k1 : (r.kind == 1) = false := by rw [hk]; rfl
  have k2 : (r.kind == 2) = false := by rw [hk]; rfl
  have k3 : (r.kind == 3) = false := by rw [hk]; rfl
  have k4 : (r.kind == 4) = true := by rw [hk]; rfl
  clear hk
  unfold Rc.v
  unfold Rc.cs at *
  go_enter Try.func29, Try.ntmps29
  go_wp2
  go_ret2
  exact ⟨rfl, b0⟩

set_option maxRecDepth 100000 in
set_option maxHeartbeats 1000000 in
theorem recordOf_5 (r : Rc) (w : World) (hk : r.kind = 5) :
    Calls Try.prog 29 #[r.v] w fun e w' => e = .returned (.tuple #[.iface 86 (.agg #[.int .i64 r.valid, .int .i64 r.uid]), .bool true]) ∧ Below w.heap.size w w' := by
  obtain ⟨c0, c1, c2, c3, c4, c5, c6, c7⟩ := (Box.new w r.cs 34).rec
  have b0 : Below w.heap.size w (w.alloc (.cells r.cs 34)) := (Below.refl _ _).alloc (Nat.le_refl _) _
  have k1 : (r.kind == 1) = false := by rw [hk]; rfl
  have k2 : (r.kind == 2) = false := by rw [hk]; rfl
  have k3 : (r.kind == 3) = false := by rw [hk]; rfl
  have k4 : (r.kind == 4) = false := by rw [hk]; rfl
  have k5 : (r.kind == 5) = true := by rw [hk]; rfl
  clear hk
  unfold Rc.v
  unfold Rc.cs at *
  go_enter Try.func29, Try.ntmps29
  go_wp2
  go_ret2
  exact ⟨rfl, b0⟩

set_option maxRecDepth 100000 in
set_option maxHeartbeats 1000000 in
theorem recordOf_no (r : Rc) (w : World) (hk : ¬ (1 ≤ r.kind ∧ r.kind ≤ 5)) :
    Calls Try.prog 29 #[r.v] w fun e w' => e = .returned (.tuple #[.nilIface, .bool false]) ∧ Below w.heap.size w w' := by
  obtain ⟨c0, c1, c2, c3, c4, c5, c6, c7⟩ := (Box.new w r.cs 34).rec
  have b0 : Below w.heap.size w (w.alloc (.cells r.cs 34)) := (Below.refl _ _).alloc (Nat.le_refl _) _
  have k1 : (r.kind == 1) = false := beq_eq_false_iff_ne.2 (by omega)
  have k2 : (r.kind == 2) = false := beq_eq_false_iff_ne.2 (by omega)
  have k3 : (r.kind == 3) = false := beq_eq_false_iff_ne.2 (by omega)
  have k4 : (r.kind == 4) = false := beq_eq_false_iff_ne.2 (by omega)
  have k5 : (r.kind == 5) = false := beq_eq_false_iff_ne.2 (by omega)
  clear hk
  unfold Rc.v
  unfold Rc.cs at *
  go_enter Try.func29, Try.ntmps29
  go_wp2
  go_ret2
  exact ⟨rfl, b0⟩

end Go.Proofs.Ytmbmbnjbeofmaaa

/- Records: what the program's recOf tells back. -/
namespace Go.Proofs.Ytmbmbnjbeofmaaa
open Go.RowKit

set_option maxRecDepth 100000 in
set_option maxHeartbeats 1000000 in
theorem recOf_1 (v n : Int) (u m : ByteArray) (w : World) :
    Calls Try.prog 30 #[.iface 78 (.agg #[.int .i64 v, .int .i64 n, .string u, .string m])] w fun e w' => e = .returned (Rc.v ⟨1, v, 0, n, 0, u, m, emp⟩) ∧ Below w.heap.size w w' := by
  have t1 : ∀ wx, (Instr.typeAssert (.iface 78 (.agg #[.int .i64 v, .int .i64 n, .string u, .string m])) 66 78 true).run Try.prog wx = .ok (.tuple #[.agg #[.int .i64 v, .int .i64 n, .string u, .string m], .bool true]) wx := fun _ => by kernel_rfl
  go_enter Try.func30, Try.ntmps30
  go_wp2
  refine bodyPost_ret (v := Rc.v ⟨1, v, 0, n, 0, u, m, emp⟩) (by simp [results, Try.results30, go_sem, Rc.v, emp]) rfl ?_
  exact ⟨rfl, ((Below.refl _ _).alloc (Nat.le_refl _) _).alloc (by simp) _⟩

set_option maxRecDepth 100000 in
set_option maxHeartbeats 1000000 in
theorem recOf_2 (v : Int) (w : World) :
    Calls Try.prog 30 #[.iface 80 (.agg #[.int .i64 v])] w fun e w' => e = .returned (Rc.v ⟨2, v, 0, 0, 0, emp, emp, emp⟩) ∧ Below w.heap.size w w' := by
  have t1 : ∀ wx, (Instr.typeAssert (.iface 80 (.agg #[.int .i64 v])) 66 78 true).run Try.prog wx = .ok (.tuple #[.agg #[.int .i64 0, .int .i64 0, .string ⟨#[]⟩, .string ⟨#[]⟩], .bool false]) wx := fun _ => by kernel_rfl
  have t2 : ∀ wx, (Instr.typeAssert (.iface 80 (.agg #[.int .i64 v])) 66 80 true).run Try.prog wx = .ok (.tuple #[.agg #[.int .i64 v], .bool true]) wx := fun _ => by kernel_rfl
  go_enter Try.func30, Try.ntmps30
  go_wp2
  refine bodyPost_ret (v := Rc.v ⟨2, v, 0, 0, 0, emp, emp, emp⟩) (by simp [results, Try.results30, go_sem, Rc.v, emp]) rfl ?_
  exact ⟨rfl, ((Below.refl _ _).alloc (Nat.le_refl _) _).alloc (by simp) _⟩

set_option maxRecDepth 100000 in
set_option maxHeartbeats 1000000 in
theorem recOf_3 (v u f : Int) (t : ByteArray) (w : World) :
    Calls Try.prog 30 #[.iface 82 (.agg #[.int .i64 v, .int .i64 u, .int .i64 f, .string t])] w fun e w' => e = .returned (Rc.v ⟨3, v, u, 0, f, emp, emp, t⟩) ∧ Below w.heap.size w w' := by
  have t1 : ∀ wx, (Instr.typeAssert (.iface 82 (.agg #[.int .i64 v, .int .i64 u, .int .i64 f, .string t])) 66 78 true).run Try.prog wx = .ok (.tuple #[.agg #[.int .i64 0, .int .i64 0, .string ⟨#[]⟩, .string ⟨#[]⟩], .bool false]) wx := fun _ => by kernel_rfl
  have t2 : ∀ wx, (Instr.typeAssert (.iface 82 (.agg #[.int .i64 v, .int .i64 u, .int .i64 f, .string t])) 66 80 true).run Try.prog wx = .ok (.tuple #[.agg #[.int .i64 0], .bool false]) wx := fun _ => by kernel_rfl
  have t3 : ∀ wx, (Instr.typeAssert (.iface 82 (.agg #[.int .i64 v, .int .i64 u, .int .i64 f, .string t])) 66 82 true).run Try.prog wx = .ok (.tuple #[.agg #[.int .i64 v, .int .i64 u, .int .i64 f, .string t], .bool true]) wx := fun _ => by kernel_rfl
  go_enter Try.func30, Try.ntmps30
  go_wp2
  refine bodyPost_ret (v := Rc.v ⟨3, v, u, 0, f, emp, emp, t⟩) (by simp [results, Try.results30, go_sem, Rc.v, emp]) rfl ?_
  exact ⟨rfl, ((Below.refl _ _).alloc (Nat.le_refl _) _).alloc (by simp) _⟩

set_option maxRecDepth 100000 in
set_option maxHeartbeats 1000000 in
theorem recOf_4 (v u f : Int) (w : World) :
    Calls Try.prog 30 #[.iface 84 (.agg #[.int .i64 v, .int .i64 u, .int .i64 f])] w fun e w' => e = .returned (Rc.v ⟨4, v, u, 0, f, emp, emp, emp⟩) ∧ Below w.heap.size w w' := by
  have t1 : ∀ wx, (Instr.typeAssert (.iface 84 (.agg #[.int .i64 v, .int .i64 u, .int .i64 f])) 66 78 true).run Try.prog wx = .ok (.tuple #[.agg #[.int .i64 0, .int .i64 0, .string ⟨#[]⟩, .string ⟨#[]⟩], .bool false]) wx := fun _ => by kernel_rfl
  have t2 : ∀ wx, (Instr.typeAssert (.iface 84 (.agg #[.int .i64 v, .int .i64 u, .int .i64 f])) 66 80 true).run Try.prog wx = .ok (.tuple #[.agg #[.int .i64 0], .bool false]) wx := fun _ => by kernel_rfl
  have t3 : ∀ wx, (Instr.typeAssert (.iface 84 (.agg #[.int .i64 v, .int .i64 u, .int .i64 f])) 66 82 true).run Try.prog wx = .ok (.tuple #[.agg #[.int .i64 0, .int .i64 0, .int .i64 0, .string ⟨#[]⟩], .bool false]) wx := fun _ => by kernel_rfl
  have t4 : ∀ wx, (Instr.typeAssert (.iface 84 (.agg #[.int .i64 v, .int .i64 u, .int .i64 f])) 66 84 true).run Try.prog wx = .ok (.tuple #[.agg #[.int .i64 v, .int .i64 u, .int .i64 f], .bool true]) wx := fun _ => by kernel_rfl
  go_enter Try.func30, Try.ntmps30
  go_wp2
  refine bodyPost_ret (v := Rc.v ⟨4, v, u, 0, f, emp, emp, emp⟩) (by simp [results, Try.results30, go_sem, Rc.v, emp]) rfl ?_
  exact ⟨rfl, ((Below.refl _ _).alloc (Nat.le_refl _) _).alloc (by simp) _⟩

set_option maxRecDepth 100000 in
set_option maxHeartbeats 1000000 in
theorem recOf_5 (v u : Int) (w : World) :
    Calls Try.prog 30 #[.iface 86 (.agg #[.int .i64 v, .int .i64 u])] w fun e w' => e = .returned (Rc.v ⟨5, v, u, 0, 0, emp, emp, emp⟩) ∧ Below w.heap.size w w' := by
  have t1 : ∀ wx, (Instr.typeAssert (.iface 86 (.agg #[.int .i64 v, .int .i64 u])) 66 78 true).run Try.prog wx = .ok (.tuple #[.agg #[.int .i64 0, .int .i64 0, .string ⟨#[]⟩, .string ⟨#[]⟩], .bool false]) wx := fun _ => by kernel_rfl
  have t2 : ∀ wx, (Instr.typeAssert (.iface 86 (.agg #[.int .i64 v, .int .i64 u])) 66 80 true).run Try.prog wx = .ok (.tuple #[.agg #[.int .i64 0], .bool false]) wx := fun _ => by kernel_rfl
  have t3 : ∀ wx, (Instr.typeAssert (.iface 86 (.agg #[.int .i64 v, .int .i64 u])) 66 82 true).run Try.prog wx = .ok (.tuple #[.agg #[.int .i64 0, .int .i64 0, .int .i64 0, .string ⟨#[]⟩], .bool false]) wx := fun _ => by kernel_rfl
  have t4 : ∀ wx, (Instr.typeAssert (.iface 86 (.agg #[.int .i64 v, .int .i64 u])) 66 84 true).run Try.prog wx = .ok (.tuple #[.agg #[.int .i64 0, .int .i64 0, .int .i64 0], .bool false]) wx := fun _ => by kernel_rfl
  have t5 : ∀ wx, (Instr.typeAssert (.iface 86 (.agg #[.int .i64 v, .int .i64 u])) 66 86 true).run Try.prog wx = .ok (.tuple #[.agg #[.int .i64 v, .int .i64 u], .bool true]) wx := fun _ => by kernel_rfl
  go_enter Try.func30, Try.ntmps30
  go_wp2
  refine bodyPost_ret (v := Rc.v ⟨5, v, u, 0, 0, emp, emp, emp⟩) (by simp [results, Try.results30, go_sem, Rc.v, emp]) rfl ?_
  exact ⟨rfl, ((Below.refl _ _).alloc (Nat.le_refl _) _).alloc (by simp) _⟩

instance decRcEq (a b : Rc) : Decidable (a = b) :=
  decidable_of_iff (a.kind = b.kind ∧ a.valid = b.valid ∧ a.uid = b.uid ∧ a.next = b.next ∧ a.flags = b.flags ∧ a.user = b.user ∧ a.name = b.name ∧ a.text = b.text) (by
    obtain ⟨a0, a1, a2, a3, a4, a5, a6, a7⟩ := a
    obtain ⟨b0, b1, b2, b3, b4, b5, b6, b7⟩ := b
    simp)

theorem rec_fields : Try.prog.underlying 34 = some (.struct (Try.prog.fieldsOf 34)) := by kernel_rfl

theorem ba_inj (a b : ByteArray) : a.toList = b.toList ↔ a = b := by
  have h := ba_beq a b
  constructor
  · intro e
    rw [beq_iff_eq.2 e] at h
    exact of_decide_eq_true h.symm
  · intro e; rw [e]

set_option maxRecDepth 100000 in
theorem run_rec_equal (a b : Rc) (w : World) : (Op.equalIn 10000 34 a.v b.v).run Try.prog w = .ok (decide (a = b)) w := by
  unfold Rc.v
  rw [run_equalIn_agg _ 9999 _ _ _ rec_fields (by kernel_rfl)]
  obtain ⟨a0, a1, a2, a3, a4, a5, a6, a7⟩ := a
  obtain ⟨b0, b1, b2, b3, b4, b5, b6, b7⟩ := b
  simp [go_sem, Op.eqFields, Try.underlying34, Program.fieldsOf]
  simp only [ba_inj]
  by_cases h0 : a0 = b0 <;> by_cases h1 : a1 = b1 <;> by_cases h2 : a2 = b2 <;> by_cases h3 : a3 = b3 <;> by_cases h4 : a4 = b4 <;> by_cases h5 : a5 = b5 <;> by_cases h6 : a6 = b6 <;> by_cases h7 : a7 = b7 <;> simp only [h0, h1, h2, h3, h4, h5, h6, h7, if_true, if_false, decide_true, decide_false, Bool.and_true, Bool.and_false]

theorem run_rec_eql (a b : Rc) (w : World) : (binOp .eql 34 a.v b.v).run Try.prog w = .ok (.bool (decide (a = b))) w := by
  have h := run_rec_equal a b w
  unfold Rc.v at h ⊢
  rw [run_eql_struct, h]; rfl
theorem run_rec_neq (a b : Rc) (w : World) : (binOp .neq 34 a.v b.v).run Try.prog w = .ok (.bool (!decide (a = b))) w := by
  have h := run_rec_equal a b w
  unfold Rc.v at h ⊢
  rw [run_neq_struct, h]; rfl

end Go.Proofs.Ytmbmbnjbeofmaaa
