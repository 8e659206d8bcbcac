/- For every state and every two texts, BoxOf answers as its model, writes into no argument, and its answer owns its memory. No condition. -/
import Derived.Test.YtjfilicddnhniaaJf
import Derived.Test.YtjfilicddnhniaaJj
import Derived.Test.YtjfilicddnhniaaJk
import Derived.ProofKit
import Derived.OpenShut
import Derived.ShutString
import Derived.ChangeOld
import Derived.Below
import Derived.Deep.RegionHeld3
namespace Go.Proofs.Ytjfilicddnhniaa
open Go.ChangeShapes Go.WideShapes Go.ChangeAt Go.RowKit
open Go.ChangeMaps (open_string shut_string)
set_option linter.unusedVariables false

theorem belDrew' (w : World) : Below w.heap.size w w.drew := (Below.refl _ _).drew

/-- What the sizes say. -/
theorem sz_small' {l : List Bx} {left r : Int} (h : r < 0 ∨ r = left - ((l.length + bzs l : Nat) : Int)) (hn : ¬ r < 0) (h1 : left ≤ 1048576) : l.length ≤ 1048576 ∧ (∀ b ∈ l, b.mails.length ≤ 1048576 ∧ b.user.size ≤ 1048576 ∧ b.name.size ≤ 1048576 ∧ ∀ m ∈ b.mails, m.text.size ≤ 1048576) ∧ r ≤ 1048576 ∧ l.length + bzs l ≤ 1048576 := by
  rcases h with h | h
  · exact absurd h hn
  · refine ⟨by omega, fun b hb => ?_, by omega, by omega⟩
    have h2 := bzs_mem hb
    have h3 := bz_user b
    have h4 := bz_name b
    have h5 := bz_mails b
    refine ⟨by omega, by omega, by omega, fun m hm => ?_⟩
    have := bz_text hm
    omega

theorem kE_bz : ∀ (k : Nat) (bs : List Bx), kE k bs ≤ k + 4 * bs.length + 3 * bzs bs
  | k, [] => by simp [kE]
  | k, b :: bs => by
    have h1 := kE_bz (kB k b) bs
    have h2 := bz_mails b
    have h3 : bzs (b :: bs) = bz b + bzs bs := rfl
    unfold kE
    unfold kB at *
    rw [h3, List.length_cons]
    omega

set_option maxRecDepth 100000 in
set_option maxHeartbeats 8000000 in
theorem walk_FnExactBoxOf (vs : Value) (la : List Bx) (u nm : ByteArray) {w : World} (hd : StIn w vs la) (hu : u.size ≤ maxLen) (hn : nm.size ≤ maxLen) :
    Calls Try.prog 5 #[vs, .string u, .string nm] w fun e w' => e = .returned (.bool true) ∧ Below w.heap.size w w' := by
  obtain ⟨ua, rfl, ra, hla, hza⟩ := hd
  obtain ⟨a1, c1, rfl, _⟩ := ra.boxes
  have X2 := Box.new w #[.slice a1 la.length c1] 55
  have b0 := belNew w (.cells #[.slice a1 la.length c1] 55)
  by_cases hu1 : (1048576 : Int) < (u.size : Int)
  · go_enter Try.func5, Try.ntmps5
    go_wp2
    go_ret
    exact ⟨rfl, b0⟩
  by_cases hn1 : (1048576 : Int) < (nm.size : Int)
  · go_enter Try.func5, Try.ntmps5
    go_wp2
    go_ret
    exact ⟨rfl, b0⟩
  go_enter Try.func5, Try.ntmps5
  go_wp2_with fail
  generalize w.alloc (.cells #[.slice a1 la.length c1] 55) = W at X2 b0 ⊢
  have HC : Hid (∀ x, Below W.heap.size W x → x.cell? ⟨w.heap.size, 0, none⟩ = some (.slice a1 la.length c1) ∧ LBRd x (.slice a1 la.length c1) la ∧ Below w.heap.size w x) := by
    intro x h
    have h' := b0.trans (h.mono b0.size)
    exact ⟨(X2.later h).cell 0 _ rfl, ra.later h', h'⟩
  clear X2 ra hu1 hn1 hu hn
  refine (szState_any la _ 1048576 _ (HC.out _ (Below.refl _ _)).2.1 (by omega) (by omega) hla hza).mono ?_
  rintro e w1 ⟨⟨r1, rfl, hr1⟩, k1⟩
  clear hza b0
  by_cases hn1 : r1 < 0
  · obtain ⟨_, _, bz⟩ := HC.out _ k1
    clear hr1
    go_wp2
    go_ret
    exact ⟨rfl, bz⟩
  obtain ⟨sa1, sa2, _, sa4⟩ := sz_small' hr1 hn1 (by omega)
  have HKE : Hid (kE 1 la ≤ 1099511627776) := by have := kE_bz 1 la; show _ ≤ _; omega
  have hkp : ¬ ((kE 1 la : Int) < 0) := by omega
  have HMA : Hid (∀ b ∈ la, b.mails.length ≤ 1048576) := fun b hb => (sa2 b hb).1
  have HMA' : Hid (∀ b ∈ la, b.mails.length ≤ 1099511627776) := fun b hb => by have := (sa2 b hb).1; omega
  have HMI : Hid (∀ b ∈ la, b.mails.length ≤ 1048576 ∧ b.user.size ≤ 1099511627776 ∧ b.name.size ≤ 1099511627776 ∧ ∀ m ∈ b.mails, m.text.size ≤ 1099511627776) := fun b hb => by
    obtain ⟨q1, q2, q3, q4⟩ := sa2 b hb
    exact ⟨q1, by omega, by omega, fun m hm => by have := q4 m hm; omega⟩
  have hbl := bxO_small (u := u) (nm := nm) HMA.out
  clear sa2 sa4 hr1 hla
  have HSP : Hid (∀ (va : Value) (x : World), BRd x va la → Calls Try.prog 11 #[.agg #[va], .string u, .string nm] x fun e w' => ∃ (a : Option Addr) (c : Nat), e = .returned (.tuple #[.agg #[.int .i64 (bxO la u nm).valid, .string (bxO la u nm).user, .string (bxO la u nm).name, .int .i64 (bxO la u nm).next, .slice a (bxO la u nm).mails.length c], .bool (bxY la u nm)]) ∧ RBuf mlE x.heap.size w' w' (.slice a (bxO la u nm).mails.length c) (bxO la u nm).mails ∧ Below x.heap.size x w') :=
    fun va x hx => (specBoxOf_any la va u nm x hx sa1 HMA.out).mono fun e w' h => box_ans h
  have HIM : Hid (∀ (va : Value) (x : World), BRd x va la → Calls Try.prog 10 #[.agg #[va], .string u, .string nm] x fun e w' => ∃ (a : Option Addr) (c : Nat), e = .returned (.tuple #[.agg #[.int .i64 (bxO la u nm).valid, .string (bxO la u nm).user, .string (bxO la u nm).name, .int .i64 (bxO la u nm).next, .slice a (bxO la u nm).mails.length c], .bool (bxY la u nm)]) ∧ RBuf mlE x.heap.size w' w' (.slice a (bxO la u nm).mails.length c) (bxO la u nm).mails ∧ Below x.heap.size x w') :=
    fun va x hx => (implBoxOf_any la va u nm x hx sa1 HMI.out).mono fun e w' h => box_ans h
  generalize bxO la u nm = bo at hbl HSP HIM
  generalize bxY la u nm = D at HSP HIM
  have HEQ := Lib.hid (fun a1 a2 n1 n2 c1 c2 x => eqBox_same bo a1 a2 n1 n2 c1 c2 x)
  obtain ⟨bV, bU, bN, bX, bM⟩ := bo
  simp only at hbl HSP HIM HEQ
  have hDD : (D != D) = false := by cases D <;> rfl
  obtain ⟨n, hnM⟩ : ∃ n, bM.length = n := ⟨_, rfl⟩
  rw [hnM] at hbl HSP HIM HEQ
  have HN := Lib.hid hnM
  clear hnM
  obtain ⟨q0, pa, _⟩ := HC.out _ k1
  go_wp2_with fail
  clear q0
  refine (toState_any la _ _ pa sa1 HMA.out).mono ?_
  rintro e w2 ⟨v2, hs2, rfl, S2, k2⟩
  have j2 := k1.trans (k2.mono k1.size)
  obtain ⟨p2, d2, rfl⟩ := S2.row.form
  clear pa k1 k2
  go_wp2_with fail
  refine (HSP.out _ _ S2.rd).mono ?_
  rintro e w3 ⟨a8, c8, rfl, M8, k3⟩
  have j3 := j2.trans (k3.mono j2.size)
  clear S2 k3 HSP
  have X8 := Box.new w3 #[.int .i64 bV, .string bU, .string bN, .int .i64 bX, .slice a8 n c8] 32
  have k4 := belNew w3 (.cells #[.int .i64 bV, .string bU, .string bN, .int .i64 bX, .slice a8 n c8] 32)
  have j4 := j3.trans (k4.mono j3.size)
  replace M8 := (M8.here' k4).lower (Nat.le_refl _)
  clear k4 j3 j2
  go_upto_region 10 with fail
  generalize w3.alloc (.cells #[.int .i64 bV, .string bU, .string bN, .int .i64 bX, .slice a8 n c8] 32) = w4 at X8 j4 M8 ⊢
  generalize w3.heap.size = g8 at X8 ⊢
  have H8 : Hid (∀ x, Below w4.heap.size w4 x → Box x g8 #[.int .i64 bV, .string bU, .string bN, .int .i64 bX, .slice a8 n c8] 32 ∧ Rows' mlE x (.slice a8 n c8) bM ∧ Below W.heap.size W x) := fun x hx => ⟨X8.later hx, (M8.here' hx).rows, j4.trans (hx.mono j4.size)⟩
  clear X8 M8
  obtain ⟨q0, pa, _⟩ := HC.out _ j4
  clear j4
  go_wp2_with fail
  clear q0
  refine (toState_any la _ _ pa sa1 HMA.out).mono ?_
  rintro e w5 ⟨v5, hs5, rfl, S5, k5⟩
  obtain ⟨p5, d5, rfl⟩ := S5.row.form
  clear pa
  have HQ : Hid (∀ q, w5.heap.size ≤ q → (Value.slice p5 hs5.length d5).ownBlock ≠ some q ∧ ∀ (j : Nat) (x : BxH), hs5[j]? = some x → x.mv.ownBlock ≠ some q) := fun q hq => S5.beyond hq
  have XA := Box.new w5 #[.slice p5 hs5.length d5] 28
  have k6 := belNew w5 (.cells #[.slice p5 hs5.length d5] 28)
  have j6 := k5.trans (k6.mono k5.size)
  have hz6 : w5.heap.size ≤ (w5.alloc (.cells #[.slice p5 hs5.length d5] 28)).heap.size := k6.size
  replace S5 := S5.later k6
  clear k5 k6
  go_upto_region 11 with fail
  generalize w5.alloc (.cells #[.slice p5 hs5.length d5] 28) = w6 at XA j6 S5 hz6 ⊢
  generalize w5.heap.size = g10 at XA HQ hz6 ⊢
  have yA := XA.cell 0 _ rfl
  go_wp2_with fail
  clear yA
  refine (HIM.out _ _ S5.rd).mono ?_
  rintro e w7 ⟨a9, c9, rfl, M9, k7⟩
  have j7 := j6.trans (k7.mono j6.size)
  have X9 := Box.new w7 #[.int .i64 bV, .string bU, .string bN, .int .i64 bX, .slice a9 n c9] 32
  have k8 := belNew w7 (.cells #[.int .i64 bV, .string bU, .string bN, .int .i64 bX, .slice a9 n c9] 32)
  have j8 := j7.trans (k8.mono j7.size)
  have O9 : Hid (∀ k, (Value.slice a9 n c9).ownBlock = some k → w6.heap.size ≤ k ∧ k < w7.heap.size) := fun k hk => M9.own.lt k hk
  have Z7 : Hid (w6.heap.size ≤ w7.heap.size) := k7.size
  have Z6 : Hid (w4.heap.size ≤ w6.heap.size) := j6.size
  have Z10 := Lib.hid hz6
  replace S5 := (S5.later k7).later k8
  replace XA := (XA.later k7).later k8
  replace M9 := M9.here' k8
  clear k7 k8 j6 j7 hz6
  go_upto_region 12 with fail
  generalize w7.alloc (.cells #[.int .i64 bV, .string bU, .string bN, .int .i64 bX, .slice a9 n c9] 32) = w8 at X9 j8 S5 XA M9 ⊢
  generalize w7.heap.size = g9 at X9 O9 Z7 ⊢
  obtain ⟨Y8, L8, _⟩ := H8.out _ j8
  obtain ⟨y0, y1, y2, y3, y4⟩ := X9.five
  obtain ⟨z0, z1, z2, z3, z4⟩ := Y8.five
  go_wp2_with fail
  clear y0 y1 y2 y3 y4 z0 z1 z2 z3 z4
  refine (HEQ.out a9 a8 n n c9 c8 _ M9.rows L8 (by omega)).mono ?_
  rintro e w9 ⟨rfl, k9⟩
  have j9 := j8.trans (k9.mono j8.size)
  have H9 : Hid (∀ x, Below w9.heap.size w9 x → StO w4.heap.size x (.slice p5 hs5.length d5) la hs5 ∧ Box x g10 #[.slice p5 hs5.length d5] 28 ∧ Box x g9 #[.int .i64 bV, .string bU, .string bN, .int .i64 bX, .slice a9 n c9] 32 ∧ RBuf mlE w6.heap.size x x (.slice a9 n c9) bM ∧ Below w4.heap.size w4 x) := fun x hx =>
    ⟨(S5.later k9).later hx, (XA.later k9).later hx, (X9.later k9).later hx, (M9.here' k9).here' hx, j9.trans (hx.mono j9.size)⟩
  clear S5 XA X9 M9 Y8 L8 k9 j8
  obtain ⟨_, _, jW⟩ := H8.out _ j9
  have jd := jW.trans ((belDrew' w9).mono jW.size)
  have HS : Hid (∀ x, Below w9.drew.heap.size w9.drew x → (x.cell? ⟨w.heap.size, 0, none⟩ = some (.slice a1 la.length c1) ∧ x.cell? ⟨g10, 0, none⟩ = some (.slice p5 hs5.length d5)) ∧ BRd x (.slice p5 hs5.length d5) la ∧ Below w9.heap.size w9 x) := by
    intro x hx
    have hx2 : Below w9.heap.size w9 x := (belDrew' w9).trans hx
    obtain ⟨u0, _⟩ := HC.out _ (jd.trans (hx.mono jd.size))
    obtain ⟨S, XA, _⟩ := H9.out _ hx2
    exact ⟨⟨u0, XA.cell 0 _ rfl⟩, S.rd, hx2⟩
  obtain ⟨q0, _⟩ := HC.out _ jW
  have y7 := (H9.out _ (Below.refl _ _)).2.1.cell 0 _ rfl
  go_upto_region 14 with fail
  clear q0 y7
  go_cut [59] (fun c wx => c = .bool false ∧ Below w9.heap.size w9 wx)
  case first =>
    obtain ⟨p0, pa, _⟩ := HC.out _ jd
    obtain ⟨⟨_, y7⟩, _⟩ := HS.out _ (Below.refl _ _)
    go_region_held3 (fun x => x.cell? ⟨w.heap.size, 0, none⟩ = some (.slice a1 la.length c1) ∧ x.cell? ⟨g10, 0, none⟩ = some (.slice p5 hs5.length d5))
      (first | go_keep | (exact (HS.out _ kX).1) | (exact (HS.out _ kY).1))
      (first
        | (go_at_call 28; refine (toState_any la _ _ pa (by omega) HMA.out).mono ?_; rintro e wX ⟨v1, hs1, rfl, S1, kX⟩)
        | (go_at_call 30; refine (eqState_same la _ _ _ (HS.out _ kX).2.1 S1.rd (by omega) HMA'.out).mono ?_; rintro e wY ⟨rfl, kY'⟩; have kY := kX.trans (kY'.mono kX.size)))
    all_goals
      go_wp2_with fail
      go_meet
      exact ⟨rfl, (HS.out _ kY).2.2⟩
  case rest =>
    obtain ⟨rfl, k10⟩ := hcut
    clear HS jd jW j9
    obtain ⟨S5, XA, X9, M9, j10⟩ := H9.out _ k10
    clear H9 k10
    have yA := XA.cell 0 _ rfl
    go_wp2_with fail
    clear yA
    refine (markState_any la _ 1 _ hs5 _ S5 (by omega) HKE.out (by omega)).mono ?_
    rintro e w11 ⟨rfl, _, kD, kp⟩
    have j11 : Below w4.heap.size w4 w11 := j10.trans kD
    replace M9 : RBuf mlE w6.heap.size w11 w11 (.slice a9 n c9) bM := M9.stay kD.size (fun k hk => by
      have h1 := (O9.out k hk).1
      have h2 := Z10.out
      have h3 := HQ.out k (by omega)
      exact kp k (M9.own.lt k hk).2 h3.1 h3.2)
    have hx9 := X9.lt
    replace X9 : Box w11 g9 #[.int .i64 bV, .string bU, .string bN, .int .i64 bX, .slice a9 n c9] 32 := X9.stay (by
      have h1 := Z7.out
      have h2 := Z10.out
      have h3 := HQ.out g9 (by omega)
      exact kp g9 hx9 h3.1 h3.2)
    clear kD kp XA S5 j10 hx9 HQ
    obtain ⟨Y8, L8, _⟩ := H8.out _ j11
    obtain ⟨y0, y1, y2, y3, y4⟩ := X9.five
    obtain ⟨z0, z1, z2, z3, z4⟩ := Y8.five
    go_wp2_with fail
    clear y0 y1 y2 y3 y4 z0 z1 z2 z3 z4
    refine (HEQ.out a9 a8 n n c9 c8 _ M9.rows L8 (by omega)).mono ?_
    rintro e w12 ⟨rfl, k12⟩
    have j12 := j11.trans (k12.mono j11.size)
    replace M9 := M9.here' k12
    replace X9 := X9.later k12
    clear Y8 L8 k12 j11
    have HMB := Lib.hid (markBox_any bV bU bN bX a9 c9 bM 1 w6.heap.size w12 (by rw [HN.out]; exact M9) (by omega) (by rw [HN.out]; omega))
    rw [HN.out] at HMB
    obtain ⟨K, hK⟩ : ∃ K : Nat, 1 + 3 * n = K := ⟨_, rfl⟩
    rw [hK] at HMB
    have HK := Lib.hid hK
    have hKp : ¬ ((K : Int) < 0) := by omega
    clear hK
    obtain ⟨y0, y1, y2, y3, y4⟩ := X9.five
    go_wp2_with fail
    clear y0 y1 y2 y3 y4
    refine HMB.out.mono ?_
    rintro e w13 ⟨rfl, M10, gB⟩
    have j13 : Below w4.heap.size w4 w13 := j12.grown gB j12.size (fun k hk => by have := (O9.out k hk).1; have := Z6.out; omega)
    replace X9 : Box w13 g9 #[.int .i64 bV, .string bU, .string bN, .int .i64 bX, .slice a9 n c9] 32 := X9.but' gB (fun k hk => by have := (O9.out k hk).2; omega)
    clear gB j12 HMB M9
    have HHB := Lib.hid (fun x (hx : Rows' mlE x (.slice a9 n c9) (marksL 1 n)) => heldBox_any bV bU bN bX a9 c9 n 1 x hx (by omega) (by omega))
    rw [HK.out] at HHB
    obtain ⟨y0, y1, y2, y3, y4⟩ := X9.five
    go_wp2_with fail
    clear y0 y1 y2 y3 y4
    refine (HHB.out _ M10.rows).mono ?_
    rintro e w14 ⟨rfl, k14⟩
    have j14 := j13.trans (k14.mono j13.size)
    replace M10 := M10.here' k14
    replace X9 := X9.later k14
    obtain ⟨_, _, jW⟩ := H8.out _ j14
    obtain ⟨q0, pa, _⟩ := HC.out _ jW
    clear k14 j13 jW
    go_wp2_with fail
    clear q0
    refine (toState_any la _ _ pa sa1 HMA.out).mono ?_
    rintro e w15 ⟨v15, hs15, rfl, S15, k15⟩
    obtain ⟨p15, d15, rfl⟩ := S15.row.form
    have j15 := j14.trans (k15.mono j14.size)
    replace M10 := M10.here' k15
    replace X9 := X9.later k15
    clear k15 j14 pa
    go_wp2_with fail
    refine (HIM.out _ _ S15.rd).mono ?_
    rintro e w16 ⟨a16, c16, rfl, M16, k16⟩
    have j16 := j15.trans (k16.mono j15.size)
    have X16 := Box.new w16 #[.int .i64 bV, .string bU, .string bN, .int .i64 bX, .slice a16 n c16] 32
    have k17 := belNew w16 (.cells #[.int .i64 bV, .string bU, .string bN, .int .i64 bX, .slice a16 n c16] 32)
    have j17 := j16.trans (k17.mono j16.size)
    replace M10 := (M10.here' k16).here' k17
    replace X9 := (X9.later k16).later k17
    replace M16 := M16.here' k17
    clear k16 k17 j16 j15 S15
    go_upto_region 29 with fail
    generalize w16.alloc (.cells #[.int .i64 bV, .string bU, .string bN, .int .i64 bX, .slice a16 n c16] 32) = w17 at X9 X16 M10 M16 j17 ⊢
    generalize w16.heap.size = g16 at X16 ⊢
    obtain ⟨Y8, L8, _⟩ := H8.out _ j17
    obtain ⟨y0, y1, y2, y3, y4⟩ := X16.five
    obtain ⟨z0, z1, z2, z3, z4⟩ := Y8.five
    go_wp2_with fail
    clear y0 y1 y2 y3 y4 z0 z1 z2 z3 z4
    refine (HEQ.out a16 a8 n n c16 c8 _ M16.rows L8 (by omega)).mono ?_
    rintro e w18 ⟨rfl, k18⟩
    have j18 := j17.trans (k18.mono j17.size)
    replace M10 := M10.here' k18
    replace X9 := X9.later k18
    clear Y8 L8 X16 M16 k18 j17
    obtain ⟨y0, y1, y2, y3, y4⟩ := X9.five
    go_wp2_with fail
    clear y0 y1 y2 y3 y4
    refine (HHB.out _ M10.rows).mono ?_
    rintro e w19 ⟨rfl, k19⟩
    have j19 := j18.trans (k19.mono j18.size)
    obtain ⟨_, _, jW⟩ := H8.out _ j19
    obtain ⟨_, _, bE⟩ := HC.out _ jW
    clear k19 j18 j19 jW
    go_wp2
    go_ret
    exact ⟨rfl, bE⟩

theorem FnExactBoxOf_own : ownKnob Try.prog.godebug = none := by kernel_rfl

set_option maxRecDepth 100000 in
theorem FnExactBoxOf_lifted (os : Os) (started : os.Started) (H : Type) (enc : TypeId × Value → H) :
    ReturnsInHanded {} Try.checked os 5 .any (Rows.fnExactBoxOfSpec.pre6 enc Try.prog Try.f5 Rows.fnExactBoxOfRow.domain false) (Rows.fnExactBoxOfSpec.post enc Try.prog Try.f5 false true false false) := by
  refine returnsInHanded_of_change (C := Try.checked) FnExactBoxOf_own started (by kernel_rfl) Try.func5
    (ChangeSpec.witness6 (enc := enc) (C := Try.checked) false ⟨#[], #[.agg #[.slice none 0 0], .string ByteArray.empty, .string ByteArray.empty], []⟩ 8 (by kernel_rfl) (by kernel_rfl) (by kernel_rfl) (by kernel_rfl)) ?_
  intro W base args ds gs before hval0 hW hcnd _
  have hval : ∀ (j : Nat) t v, Try.f5.params[j]? = some t → args[j]? = some v → Value.okWide Try.prog W .any base t v := hval0
  have hW' := hW
  obtain ⟨p, q, hA0, hV, rfl, hfz, hnd⟩ := hW
  have hA : DataW.TrodAll enc Try.prog W 0 (fun _ => true) true Try.f5.params.toList args.toList ds p := hA0
  rw [Try.params5] at hA hval
  obtain ⟨v0, vs0, d0, ds0, p0, q0, hargs, rfl, rfl, h0, r0⟩ := trodAll_cons hA
  obtain ⟨v1, vs1, d1, ds1, p1, q1, rfl, rfl, rfl, h1, r1⟩ := trodAll_cons r0
  obtain ⟨v2, vs2, d2, ds2, p2, q2, rfl, rfl, rfl, h2, r2⟩ := trodAll_cons r1
  obtain ⟨rfl, rfl, rfl⟩ := trodAll_nil r2
  obtain rfl : args = #[v0, v1, v2] := by cases args; simp_all
  obtain ⟨rfl, rfl⟩ := trodVars_none hV
  have k0 := h0
  have lt0 : ∀ x ∈ p0, x.block < W.heap.size := by obtain ⟨m, hm⟩ := k0; exact DataW.trod_lt m _ _ _ hm
  obtain ⟨D0, w0⟩ := open_State (hval 0 55 v0 rfl rfl) h0
  obtain ⟨a1, rfl, rfl, rfl, w1⟩ := open_string Try.underlying9 (hval 1 9 v1 rfl rfl) h1
  obtain ⟨a2, rfl, rfl, rfl, w2⟩ := open_string Try.underlying9 (hval 2 9 v2 rfl rfl) h2
  clear hA0 hval0
  simp only [List.append_nil] at hW'
  refine (walk_FnExactBoxOf v0 D0 a1 a2 w0 w1 w2 (w := W)).mono fun e W' ⟨he, bel⟩ => ?_
  subst he
  exact ⟨_, rfl, _, _, _, [], _, [], hW', trodAll_mk1 (shut_bool Try.underlying4 _), (trodAll_cons_mk (Below.trod (show laidOutB Try.prog = true by kernel_rfl) (by kernel_rfl) (of_decide_eq_true (by kernel_rfl)) k0 bel lt0) (trodAll_cons_mk (shut_string Try.underlying9 w1) (trodAll_cons_mk (shut_string Try.underlying9 w2) trodAll_mk0))), rfl, bel.frame _, fun h => by cases h⟩

/-- The given statement. -/
theorem fnExactBoxOf_holds : Rows.FnExactBoxOfSaid :=
  OpenClaim.holds_of_wide 5 Try.f5 rfl rfl rfl rfl rfl rfl rfl ⟨rfl, rfl, rfl, rfl, rfl⟩ rfl rfl rfl rfl rfl (by kernel_rfl) Try.func5 (by kernel_rfl)
    (of_decide_eq_true (by kernel_rfl)) (by unfold Func.isWrapper; first | (rw [if_pos (by decide +kernel)]; kernel_rfl) | (rw [if_neg (by decide +kernel)]; exact ⟨rfl, rfl⟩))
    (fun os started H enc _ => FnExactBoxOf_lifted os started H enc)
#print axioms fnExactBoxOf_holds

end Go.Proofs.Ytjfilicddnhniaa
