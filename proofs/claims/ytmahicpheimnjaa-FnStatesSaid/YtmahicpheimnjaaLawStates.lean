/- For every code: in what the drawn records tell each mail has a number below the next one, and they ascend; no mail is told that is gone, no box that is dropped, and no added number is given again; BoxOf, BoxesOf and ValidAfter answer as the model does. No condition. -/
import Derived.Test.YtmahicpheimnjaaJj
import Derived.Test.YtmahicpheimnjaaJl
import Derived.Test.YtmahicpheimnjaaJq
import Derived.Test.YtmahicpheimnjaaJr
import Derived.Test.YtmahicpheimnjaaJs
import Derived.ProofKit
import Derived.OpenShut
import Derived.ShutString
import Derived.ChangeOld
import Derived.Below
import Derived.WalkSmall
import Derived.Deep.RegionHeld3
import Derived.Deep.QuietTactic
namespace Go.Proofs.Ytmahicpheimnjaa
open Go.ChangeShapes Go.WideShapes Go.ChangeAt Go.RowKit
open Go.ChangeMaps (open_string shut_string)
set_option linter.unusedVariables false

theorem bigS_any (a : Option Addr) (len cap : Nat) (w : World) :
    Calls Try.prog 5 #[.slice a len cap] w fun e w' => e = .returned (.bool (decide ((1048576 : Int) < (len : Int)))) ∧ w = w' := by
  go_enter Try.func5, Try.ntmps5
  go_wp2
  go_ret
  exact ⟨rfl, rfl⟩

theorem belDrew' (w : World) : Below w.heap.size w w.drew := (Below.refl _ _).drew

theorem namesOf_len (ps : List Bx) (u : ByteArray) : (namesOf ps u).length ≤ ps.length := by
  unfold namesOf
  rw [List.length_map]
  exact List.length_filter_le _ _

set_option maxRecDepth 100000 in
set_option maxHeartbeats 8000000 in
theorem walk_FnStates (a : Option Addr) (len cap : Nat) {w : World} (hcode : CodeIn w a len) :
    Calls Try.prog 3 #[.slice a len cap] w fun e w' => e = .returned (.bool true) ∧ Below w.heap.size w w' := by
  by_cases hbig : (1048576 : Int) < (len : Int)
  · go_enter Try.func3, Try.ntmps3
    go_wp2_with (go_at_call 5; refine (bigS_any a len cap _).mono ?_; rintro e w1 ⟨rfl, rfl⟩; rw [decide_eq_true hbig])
    go_ret
    exact ⟨rfl, Below.refl _ _⟩
  have hlen : len ≤ 1048576 := by omega
  have HNB : Hid (decide ((1048576 : Int) < (len : Int)) = false) := decide_eq_false hbig
  have HCD := Lib.hid hcode
  clear hcode
  go_enter Try.func3, Try.ntmps3
  go_wp2_with fail
  refine (bigS_any a len cap _).mono ?_
  rintro e w0 ⟨rfl, rfl⟩
  rw [HNB.out]
  go_wp2_with fail
  refine (drawItems_any a len cap _ HCD.out hlen).mono ?_
  rintro e w1 ⟨l, v1, hD, rfl, R1, _⟩
  have b1 := R1.bel
  have R1' := R1.rows
  obtain ⟨a1, c1, rfl, hit⟩ := R1'.items
  have hl23 := hD.2.1
  have HD := Lib.hid hD
  clear hD R1
  go_wp2_with fail
  refine (implStateOf_any l (by omega) _ _ R1').mono ?_
  rintro e w2 ⟨bv, hs, rfl, SO, k2⟩
  obtain ⟨ad, cd, rfl, hrow⟩ := SO.rd.boxes
  have XS := Box.new w2 #[.slice ad (stateL l).length cd] 28
  have kS := belNew w2 (.cells #[.slice ad (stateL l).length cd] 28)
  have b3 := b1.trans ((k2.trans (kS.mono k2.size)).mono b1.size)
  have k13 := k2.trans (kS.mono k2.size)
  have HTB : Hid (∀ b ∈ stateL l, (∀ m ∈ b.mails, m.uid < b.next ∧ ∀ x ∈ l, ¬ (x.2.kind = 5 ∧ x.2.valid = b.valid ∧ x.2.uid = m.uid)) ∧ (∀ (k : Nat) (p m : Ml), b.mails[k]? = some p → b.mails[k + 1]? = some m → p.uid < m.uid) ∧ ∀ x ∈ l, x.2.valid = b.valid → x.2.kind ≠ 2 ∧ (x.2.kind = 3 → x.2.uid < b.next)) := fun b hb => told_box HD.out.1 hb
  have hsm := stateL_small l
  obtain ⟨bs, hbs⟩ : ∃ bs, stateL l = bs := ⟨_, rfl⟩
  rw [hbs] at hrow XS kS b3 k13 HTB hsm ⊢
  obtain ⟨n, hn⟩ : ∃ n, bs.length = n := ⟨_, rfl⟩
  have HMN : Hid (∀ b ∈ bs, b.mails.length ≤ 200) := hsm.2
  have hn2 := hsm.1
  rw [hn] at XS kS b3 k13 hn2 ⊢
  have HN := Lib.hid hn
  obtain ⟨ln, hln⟩ : ∃ ln, l.length = ln := ⟨_, rfl⟩
  rw [hln] at hl23 R1' ⊢
  have HLN := Lib.hid hln
  clear hln hn hbs SO hsm
  go_wp2_with fail
  generalize w2.alloc (.cells #[.slice ad n cd] 28) = w3 at XS kS b3 k13 ⊢
  obtain ⟨g3, hg3⟩ : ∃ g3, w2.heap.size = g3 := ⟨_, rfl⟩
  rw [hg3] at XS ⊢
  clear hg3
  have H3 : Hid (∀ x, Below w3.heap.size w3 x → x.cell? ⟨g3, 0, none⟩ = some (.slice ad n cd) ∧ Below w2.heap.size w2 x ∧ Below w1.heap.size w1 x ∧ Below w.heap.size w x) := fun x hx => ⟨(XS.later hx).cell 0 _ rfl, kS.trans (hx.mono kS.size), k13.trans (hx.mono k13.size), b3.trans (hx.mono b3.size)⟩
  have HROW := Lib.hid hrow
  have HIT := Lib.hid hit
  have HR1 := Lib.hid R1'
  clear XS kS b3 k13 hrow hit R1' k2 b1
  go_loopw [5] (fun iv wr => ∃ i : Nat, i ≤ n ∧ iv = .int .i64 (i : Int) ∧ Below w3.heap.size w3 wr) (fun iv _ => n - (intOf iv).toNat)
  case atStart => exact ⟨0, by omega, rfl, Below.refl _ _⟩
  case round =>
    obtain ⟨i, hi, rfl, bq⟩ := hrel
    obtain ⟨y1, bW2, _, _⟩ := H3.out _ bq
    by_cases hlt : i < n
    · obtain ⟨b, hgb⟩ : ∃ b, bs[i]? = some b := ⟨_, List.getElem?_eq_getElem (by rw [HN.out]; exact hlt)⟩
      obtain ⟨gp, op, am, nm, cm, rfl, p0, p1, p2, p3, p4, rm⟩ := HROW.out _ bW2 i _ hgb
      obtain ⟨rml, hrm⟩ := rm.mails
      have HTO := Lib.hid (HTB.out b (List.mem_of_getElem? hgb))
      have hm200 : nm ≤ 200 := by rw [rml]; exact HMN.out b (List.mem_of_getElem? hgb)
      have HRM := Lib.hid hrm
      have HRL := Lib.hid rml
      clear rm hrm rml hgb
      obtain ⟨bV, bU, bN, bX, bM⟩ := b
      simp only at p0 p1 p2 p3 p4 HRL HRM
      replace HTO : Hid ((∀ m ∈ bM, m.uid < bX ∧ ∀ x ∈ l, ¬ (x.2.kind = 5 ∧ x.2.valid = bV ∧ x.2.uid = m.uid)) ∧ (∀ (k : Nat) (p m : Ml), bM[k]? = some p → bM[k + 1]? = some m → p.uid < m.uid) ∧ ∀ x ∈ l, x.2.valid = bV → x.2.kind ≠ 2 ∧ (x.2.kind = 3 → x.2.uid < bX)) := HTO
      have hi0 : (0 : Int) ≤ (i : Int) := by omega
      have hi1 : (i : Int) < (n : Int) := by omega
      have XB := Box.new wr #[.int .i64 bV, .string bU, .string bN, .int .i64 bX, .slice am nm cm] 32
      have k9 := belNew wr (.cells #[.int .i64 bV, .string bU, .string bN, .int .i64 bX, .slice am nm cm] 32)
      have b9 := bq.trans (k9.mono bq.size)
      clear bq bW2
      go_wp2_with fail
      clear p0 p1 p2 p3 p4 y1
      generalize wr.alloc (.cells #[.int .i64 bV, .string bU, .string bN, .int .i64 bX, .slice am nm cm] 32) = w9 at XB b9 ⊢
      obtain ⟨g9, hg9⟩ : ∃ g9, wr.heap.size = g9 := ⟨_, rfl⟩
      rw [hg9] at XB ⊢
      clear hg9 k9
      have H9 : Hid (∀ x, Below w9.heap.size w9 x → (x.cell? ⟨g9, 0, none⟩ = some (.int .i64 bV) ∧ x.cell? ⟨g9, 1, none⟩ = some (.string bU) ∧ x.cell? ⟨g9, 2, none⟩ = some (.string bN) ∧ x.cell? ⟨g9, 3, none⟩ = some (.int .i64 bX) ∧ x.cell? ⟨g9, 4, none⟩ = some (.slice am nm cm)) ∧ Below w3.heap.size w3 x ∧ Below w2.heap.size w2 x ∧ Below w1.heap.size w1 x) := fun x hx =>
        have hb := b9.trans (hx.mono b9.size)
        ⟨(XB.later hx).five, hb, (H3.out _ hb).2.1, (H3.out _ hb).2.2.1⟩
      clear XB b9
      obtain ⟨wN, hwN⟩ : ∃ wN, wN = wr := ⟨_, rfl⟩
      clear hwN wN
      go_loopw [7] (fun kv wq => ∃ k : Nat, k ≤ nm ∧ kv = .int .i64 (k : Int) ∧ Below w9.heap.size w9 wq) (fun kv _ => nm - (intOf kv).toNat)
      case atStart => exact ⟨0, by omega, rfl, Below.refl _ _⟩
      case round =>
        obtain ⟨k, hk, rfl, bq⟩ := hrel
        obtain ⟨⟨c0, _, _, c3, c4⟩, _, bW2, _⟩ := H9.out _ bq
        by_cases hlk : k < nm
        · obtain ⟨m, hgm⟩ : ∃ m, bM[k]? = some m := ⟨_, List.getElem?_eq_getElem (by rw [← HRL.out]; exact hlk)⟩
          obtain ⟨gm, om, rfl, m0, _, _⟩ := HRM.out _ bW2 k _ hgm
          have hmt := HTO.out.1 m (List.mem_of_getElem? hgm)
          have hun : ¬ (bX ≤ m.uid) := by have := hmt.1; omega
          have HMT := Lib.hid hmt.2
          have HGM := Lib.hid hgm
          clear hmt hgm
          have hk0 : (0 : Int) ≤ (k : Int) := by omega
          have hk1 : (k : Int) < (nm : Int) := by omega
          obtain ⟨mU, hmU⟩ : ∃ mU, m.uid = mU := ⟨_, rfl⟩
          rw [hmU] at m0 hun HMT
          have HMU := Lib.hid hmU
          clear hmU
          go_upto_region 12 with fail
          go_cut [72] (fun c wx => c = .bool false ∧ Below w9.heap.size w9 wx)
          case first =>
            rcases (show k = 0 ∨ ∃ j, k = j + 1 by cases k with | zero => exact .inl rfl | succ j => exact .inr ⟨j, rfl⟩) with rfl | ⟨j, rfl⟩
            · have hz : ¬ ((0 : Int) < ((0 : Nat) : Int)) := by omega
              rw [show om + 0 * 3 = om by omega] at m0
              clear HRM HRL HTO HMT HGM HMU H9 H3 HTB HROW HIT HR1 HD HCD HN HLN HMN
              go_quiet (fail)
              go_wp2_with fail
              go_meet
              exact ⟨rfl, below_drewN bq _⟩
            · obtain ⟨p, hgp⟩ : ∃ p, bM[j]? = some p := ⟨_, List.getElem?_eq_getElem (by rw [← HRL.out]; omega)⟩
              obtain ⟨_, _, e0, t0, _, _⟩ := HRM.out _ bW2 j _ hgp
              cases e0
              have hup : ¬ (mU ≤ p.uid) := by have := HTO.out.2.1 j p m hgp HGM.out; rw [HMU.out] at this; omega
              have hpos : (0 : Int) < (j : Int) + 1 := by omega
              have hj1 : (j : Int) < (nm : Int) := by omega
              have hj0 : (0 : Int) ≤ (j : Int) := by omega
              have hwr : IntKind.i64.wrap ((j : Int) + 1 - 1) = (j : Int) := by rw [show (j : Int) + 1 - 1 = (j : Int) by omega]; exact IntWalk.i64_in _ ⟨by omega, by omega⟩
              have hwr2 : IntKind.i64.wrap (j : Int) = (j : Int) := IntWalk.i64_in _ ⟨by omega, by omega⟩
              obtain ⟨pU, hpU⟩ : ∃ pU, p.uid = pU := ⟨_, rfl⟩
              rw [hpU] at t0 hup
              clear hpU hgp
              clear HRM HRL HTO HMT HGM HMU H9 H3 HTB HROW HIT HR1 HD HCD HN HLN HMN
              go_quiet (fail)
              go_wp2_with fail
              go_meet
              exact ⟨rfl, below_drewN bq _⟩
          case rest =>
            obtain ⟨rfl, b12⟩ := hcut
            clear bq c0 c3 c4 m0 bW2
            go_wp2_with fail
            go_loopw [8] (fun jv wq => ∃ j : Nat, j ≤ ln ∧ jv = .int .i64 (j : Int) ∧ Below w9.heap.size w9 wq) (fun jv _ => ln - (intOf jv).toNat)
            case atStart => exact ⟨0, by omega, rfl, b12⟩
            case round =>
              clear b12
              obtain ⟨j, hj, rfl, bq⟩ := hrel
              obtain ⟨⟨c0, _, _, c3, c4⟩, _, bW2, bW1⟩ := H9.out _ bq
              by_cases hlj : j < ln
              · obtain ⟨x, hgx⟩ : ∃ x, l[j]? = some x := ⟨_, List.getElem?_eq_getElem (by rw [HLN.out]; exact hlj)⟩
                obtain ⟨gq, oq, eq, q0, q1, q2, q3, q4, q5, q6, q7, q8⟩ := HIT.out _ bW1 j _ hgx
                cases eq
                obtain ⟨gm', om', em, m0, _, _⟩ := HRM.out _ bW2 k _ HGM.out
                cases em
                rw [HMU.out] at m0
                have hno := HMT.out x (List.mem_of_getElem? hgx)
                obtain ⟨sq, K, V, U, N, FL, US, NM, TX⟩ := x
                simp only at q0 q1 q2 q3 q4 q5 q6 q7 q8 hno
                have hj0 : (0 : Int) ≤ (j : Int) := by omega
                have hj1 : (j : Int) < (ln : Int) := by omega
                have XR := Box.new wr #[.int .i64 K, .int .i64 V, .int .i64 U, .int .i64 N, .int .i64 FL, .string US, .string NM, .string TX] 36
                have kR := belNew wr (.cells #[.int .i64 K, .int .i64 V, .int .i64 U, .int .i64 N, .int .i64 FL, .string US, .string NM, .string TX] 36)
                have bR := bq.trans (kR.mono bq.size)
                have C0 := (H9.out _ bR).1
                have m1 : (wr.alloc (.cells #[.int .i64 K, .int .i64 V, .int .i64 U, .int .i64 N, .int .i64 FL, .string US, .string NM, .string TX] 36)).cell? ⟨gm, om + k * 3, none⟩ = some (.int .i64 mU) := (kR.cell (World.block_lt_of_cell? _ _ m0)).trans m0
                clear hgx bq bW2 bW1 kR
                go_upto_region 18 with fail
                clear q0 q1 q2 q3 q4 q5 q6 q7 q8 m0 c0 c3 c4
                generalize wr.alloc (.cells #[.int .i64 K, .int .i64 V, .int .i64 U, .int .i64 N, .int .i64 FL, .string US, .string NM, .string TX] 36) = wR at XR bR C0 m1 ⊢
                obtain ⟨gR, hgR⟩ : ∃ gR, wr.heap.size = gR := ⟨_, rfl⟩
                rw [hgR] at XR ⊢
                clear hgR
                obtain ⟨c0, _, _, c3, c4⟩ := C0
                have z0 := XR.cell 0 _ rfl
                have z1 := XR.cell 1 _ rfl
                have z2 := XR.cell 2 _ rfl
                clear XR
                go_cut [104] (fun c wx => c = .bool false ∧ Below w9.heap.size w9 wx)
                case first =>
                  by_cases h5 : K = 5
                  · subst h5
                    by_cases hv : V = bV
                    · subst hv
                      have hu : ¬ U = mU := fun h => hno ⟨rfl, rfl, h⟩
                      have hu' : (U == mU) = false := beq_eq_false_iff_ne.2 hu
                      clear hno HRM HRL HTO HMT HGM HMU H9 H3 HTB HROW HIT HR1 HD HCD HN HLN HMN
                      go_quiet (fail)
                      go_wp2_with fail
                      go_meet
                      exact ⟨rfl, below_drewN bR _⟩
                    · have hv' : (V == bV) = false := beq_eq_false_iff_ne.2 hv
                      clear hno HRM HRL HTO HMT HGM HMU H9 H3 HTB HROW HIT HR1 HD HCD HN HLN HMN
                      go_quiet (fail)
                      go_wp2_with fail
                      go_meet
                      exact ⟨rfl, below_drewN bR _⟩
                  · have h5' : (K == 5) = false := beq_eq_false_iff_ne.2 h5
                    clear hno HRM HRL HTO HMT HGM HMU H9 H3 HTB HROW HIT HR1 HD HCD HN HLN HMN
                    go_quiet (fail)
                    go_wp2_with fail
                    go_meet
                    exact ⟨rfl, below_drewN bR _⟩
                case rest =>
                  obtain ⟨rfl, b13⟩ := hcut
                  clear bR c0 c3 c4 z0 z1 z2 m1
                  go_wp2_with fail
                  go_roundw
                  case rel => exact ⟨j + 1, by omega, by go_num, b13⟩
                  case measure => simp [intOf]; omega
              · have hge : ¬ (j : Int) < (ln : Int) := by omega
                clear c0 c3 c4 bW2 bW1
                go_wp2_with fail
                go_roundw
                case rel => exact ⟨k + 1, by omega, by go_num, bq⟩
                case measure => simp [intOf]; omega
        · have hge : ¬ (k : Int) < (nm : Int) := by omega
          clear bW2
          go_wp2_with fail
          clear c0 c3 c4
          go_loopw [10] (fun jv wq => ∃ j : Nat, j ≤ ln ∧ jv = .int .i64 (j : Int) ∧ Below w9.heap.size w9 wq) (fun jv _ => ln - (intOf jv).toNat)
          case atStart => exact ⟨0, by omega, rfl, bq⟩
          case round =>
            clear bq
            obtain ⟨j, hj, rfl, bq⟩ := hrel
            obtain ⟨⟨c0, _, _, c3, c4⟩, b39, bW2, bW1⟩ := H9.out _ bq
            by_cases hlj : j < ln
            · obtain ⟨x, hgx⟩ : ∃ x, l[j]? = some x := ⟨_, List.getElem?_eq_getElem (by rw [HLN.out]; exact hlj)⟩
              obtain ⟨gq, oq, eq, q0, q1, q2, q3, q4, q5, q6, q7, q8⟩ := HIT.out _ bW1 j _ hgx
              cases eq
              have hno := HTO.out.2.2 x (List.mem_of_getElem? hgx)
              obtain ⟨sq, K, V, U, N, FL, US, NM, TX⟩ := x
              simp only at q0 q1 q2 q3 q4 q5 q6 q7 q8 hno
              have hj0 : (0 : Int) ≤ (j : Int) := by omega
              have hj1 : (j : Int) < (ln : Int) := by omega
              have XR := Box.new wr #[.int .i64 K, .int .i64 V, .int .i64 U, .int .i64 N, .int .i64 FL, .string US, .string NM, .string TX] 36
              have kR := belNew wr (.cells #[.int .i64 K, .int .i64 V, .int .i64 U, .int .i64 N, .int .i64 FL, .string US, .string NM, .string TX] 36)
              have bR := bq.trans (kR.mono bq.size)
              have C0 := (H9.out _ bR).1
              clear hgx bq bW2 bW1 kR b39
              go_upto_region 24 with fail
              clear q0 q1 q2 q3 q4 q5 q6 q7 q8 c0 c3 c4
              generalize wr.alloc (.cells #[.int .i64 K, .int .i64 V, .int .i64 U, .int .i64 N, .int .i64 FL, .string US, .string NM, .string TX] 36) = wR at XR bR C0 ⊢
              obtain ⟨gR, hgR⟩ : ∃ gR, wr.heap.size = gR := ⟨_, rfl⟩
              rw [hgR] at XR ⊢
              clear hgR
              obtain ⟨c0, _, _, c3, c4⟩ := C0
              have z0 := XR.cell 0 _ rfl
              have z1 := XR.cell 1 _ rfl
              have z2 := XR.cell 2 _ rfl
              clear XR
              go_cut [137] (fun c wx => c = .bool false ∧ Below w9.heap.size w9 wx)
              case first =>
                by_cases hv : V = bV
                · subst hv
                  obtain ⟨h2, h3⟩ := hno rfl
                  have h2' : (K == 2) = false := beq_eq_false_iff_ne.2 h2
                  by_cases hk3 : K = 3
                  · subst hk3
                    have hu : ¬ (bX ≤ U) := by have := h3 rfl; omega
                    clear h3 HRM HRL HTO H9 H3 HTB HROW HIT HR1 HD HCD HN HLN HMN
                    go_wp2_with fail
                    go_meet
                    exact ⟨rfl, bR⟩
                  · have h3' : (K == 3) = false := beq_eq_false_iff_ne.2 hk3
                    clear h3 HRM HRL HTO H9 H3 HTB HROW HIT HR1 HD HCD HN HLN HMN
                    go_wp2_with fail
                    go_meet
                    exact ⟨rfl, bR⟩
                · have hv' : (V == bV) = false := beq_eq_false_iff_ne.2 hv
                  clear hno HRM HRL HTO H9 H3 HTB HROW HIT HR1 HD HCD HN HLN HMN
                  go_wp2_with fail
                  go_meet
                  exact ⟨rfl, bR⟩
              case rest =>
                obtain ⟨rfl, b13⟩ := hcut
                clear bR c0 c3 c4 z0 z1 z2
                go_wp2_with fail
                go_roundw
                case rel => exact ⟨j + 1, by omega, by go_num, b13⟩
                case measure => simp [intOf]; omega
            · have hge : ¬ (j : Int) < (ln : Int) := by omega
              clear c0 c3 c4 bW2 bW1
              go_wp2_with fail
              go_roundw
              case rel => exact ⟨i + 1, by omega, by go_num, b39⟩
              case measure => simp [intOf]; omega
    · have hge : ¬ (i : Int) < (n : Int) := by omega
      obtain ⟨_, _, b31, bW⟩ := H3.out _ bq
      obtain ⟨w4, hw4⟩ : ∃ w4, w4 = wr := ⟨_, rfl⟩
      subst hw4
      clear bW2
      go_wp2_with fail
      clear y1
      refine (drawBoxOf_any a len cap _ (HCD.out.later bW) hlen).mono ?_
      rintro e w5 ⟨l2, v5, us, nm, hD2, hus, hnm, rfl, RB, k5⟩
      obtain ⟨ax, cx, rfl, -⟩ := RB.boxes
      have hfew := told_few hD2
      have htx := told_texts hD2
      have hsm := stateL_small l2
      obtain ⟨ps, hps⟩ : ∃ ps, stateL l2 = ps := ⟨_, rfl⟩
      rw [hps] at RB hfew htx hsm ⊢
      clear hps
      have HP : Hid (ps.length ≤ 19 ∧ (∀ b ∈ ps, b.name.size ≤ 1048576) ∧ ps.Pairwise (fun x y => ¬ y.valid < x.valid)) := ⟨by have := hfew.1; omega, fun b hb => by have := htx b hb; omega, hfew.2⟩
      have HMB : Hid (∀ b ∈ ps, b.mails.length ≤ 1048576 ∧ b.user.size ≤ 1099511627776 ∧ b.name.size ≤ 1099511627776 ∧ ∀ m ∈ b.mails, m.text.size ≤ 1099511627776) := fun b hb => ⟨by have := hsm.2 b hb; omega, by have := htx b hb; omega, by have := htx b hb; omega, fun m hm => by have := (htx b hb).2.2 m hm; omega⟩
      have hnx := hfew.1
      clear hfew htx hsm
      obtain ⟨nx, hnx'⟩ : ∃ nx, ps.length = nx := ⟨_, rfl⟩
      have RB0 := RB
      rw [hnx'] at RB ⊢
      have HNX := Lib.hid hnx'
      have XX := Box.new w5 #[.slice ax nx cx] 28
      have x0 := XX.cell 0 _ rfl
      have kX := belNew w5 (.cells #[.slice ax nx cx] 28)
      have k45 := k5.trans (kX.mono k5.size)
      have RB1 := RB.later kX
      clear hnx' hnx RB RB0 k5 kX
      go_wp2_with fail
      generalize w5.alloc (.cells #[.slice ax nx cx] 28) = w6 at XX k45 RB1 x0 ⊢
      obtain ⟨gX, hgX⟩ : ∃ gX, w5.heap.size = gX := ⟨_, rfl⟩
      rw [hgX] at XX x0 ⊢
      clear hgX
      refine (implBoxOf_any ps _ us nm _ RB1 (by have := HP.out.1; omega) HMB.out).mono ?_
      intro e w7 h7
      obtain ⟨aA, cA, rfl, RA, k7⟩ := box_ans h7
      clear h7
      have hyes := fun h => bxY_yes (ps := ps) (u := us) (nm := nm) h
      have HYES := Lib.hid hyes
      clear hyes
      obtain ⟨Y, hY⟩ : ∃ Y, bxY ps us nm = Y := ⟨_, rfl⟩
      obtain ⟨bo, hbo⟩ : ∃ bo, bxO ps us nm = bo := ⟨_, rfl⟩
      rw [hbo] at RA HYES ⊢
      rw [hY] at HYES ⊢
      have HYE := Lib.hid hY
      clear hbo hY
      obtain ⟨oV, oU, oN, oX, oM⟩ := bo
      replace HYES : Hid (Y = true → oU = us ∧ oN = nm) := HYES
      dsimp only
      generalize oM.length = oL
      have XA := Box.new w7 #[.int .i64 oV, .string oU, .string oN, .int .i64 oX, .slice aA oL cA] 32
      have kA := belNew w7 (.cells #[.int .i64 oV, .string oU, .string oN, .int .i64 oX, .slice aA oL cA] 32)
      have k78 := k7.trans (kA.mono k7.size)
      have XX8 := XX.later k78
      have RB8 := RB1.later k78
      have k48 := k45.trans (k78.mono k45.size)
      clear x0
      have x0 := XX8.cell 0 _ rfl
      clear XX RB1 k45 k7 kA k78 RA
      go_wp2_with fail
      generalize w7.alloc (.cells #[.int .i64 oV, .string oU, .string oN, .int .i64 oX, .slice aA oL cA] 32) = w8 at XA XX8 RB8 k48 x0 ⊢
      obtain ⟨gA, hgA⟩ : ∃ gA, w7.heap.size = gA := ⟨_, rfl⟩
      rw [hgA] at XA ⊢
      clear hgA
      refine (specBoxOf_any ps _ us nm _ RB8 (by have := HP.out.1; omega) (fun b hb => (HMB.out b hb).1)).mono ?_
      intro e w9 h9
      obtain ⟨aB, cB, rfl, RB', k9⟩ := box_ans h9
      clear h9
      rw [HYE.out]
      generalize bxO ps us nm = bp at RB' ⊢
      obtain ⟨pV, pU, pN, pX, pM⟩ := bp
      dsimp only
      generalize pM.length = pL
      have kB := belNew w9 (.cells #[.int .i64 pV, .string pU, .string pN, .int .i64 pX, .slice aB pL cB] 32)
      have k9G := k9.trans (kB.mono k9.size)
      have XXG := XX8.later k9G
      have XAG := XA.later k9G
      have RBG := RB8.later k9G
      have k4G := k48.trans (k9G.mono k48.size)
      clear XX8 XA RB8 k48 k9 kB k9G RB'
      go_upto_region 29 with fail
      clear x0
      generalize w9.alloc (.cells #[.int .i64 pV, .string pU, .string pN, .int .i64 pX, .slice aB pL cB] 32) = wG at XXG XAG RBG k4G ⊢
      generalize w9.heap.size = gB
      have HY : Hid (∀ x, Below wG.heap.size wG x → (x.cell? ⟨gX, 0, none⟩ = some (.slice ax nx cx) ∧ x.cell? ⟨gA, 1, none⟩ = some (.string oU) ∧ x.cell? ⟨gA, 2, none⟩ = some (.string oN)) ∧ True ∧ Rows' itE x (.slice a1 ln c1) l ∧ BRd x (.slice ax nx cx) ps ∧ Below w.heap.size w x) := fun x hx =>
        ⟨⟨(XXG.later hx).cell 0 _ rfl, (XAG.later hx).cell 1 _ rfl, (XAG.later hx).cell 2 _ rfl⟩, trivial, HR1.out.later (b31.trans ((k4G.trans (hx.mono k4G.size)).mono b31.size)), RBG.later hx, bW.trans ((k4G.trans (hx.mono k4G.size)).mono bW.size)⟩
      have HNL : Hid ((namesOf ps us).length ≤ 1099511627776) := by have h1 := namesOf_len ps us; have h2 := HP.out.1; show _ ≤ _; omega
      have HLV : Hid (l.length ≤ 1048576 ∧ ∀ x ∈ l, 0 ≤ x.2.valid ∧ x.2.valid ≤ 10000) := ⟨by rw [HLN.out]; omega, fun x hx => by have h1 := (HD.out.2.2.2 x hx).2; have h2 := (HD.out.1.1 x hx).2.2.1.1; omega⟩
      obtain ⟨va, hva⟩ : ∃ va, vaOf l = va := ⟨_, rfl⟩
      have HVA := Lib.hid hva
      clear hva XXG XAG RBG k4G bW b31 bq HD HCD HN HLN HMN HTB HROW HIT HR1 H3 HNX HMB HYE
      cases Y with
      | true =>
        obtain ⟨e1, e2⟩ := HYES.out rfl
        rw [e1, e2] at HY
        clear e1 e2 HYES
        refine wp_region_held_drew (S := fun x => Below wG.heap.size wG x) (by kernel_rfl) (belDrew' wG) (fun hHeld => ?_)
        refine takeL (i := 0) (v := .bool true) rfl (by kernel_rfl) (by kernel_rfl) (by kernel_rfl) (fun _ _ _ h => h) (Or.inl ⟨by rfl, ?_⟩) (by assumption) ?_
        · intro x hSx; go_simp
        try simp only [Act.put, List.setIfInBounds_toArray, List.set_cons_zero, List.set_cons_succ]
        refine takeL (i := 1) (v := .bool true) rfl (by kernel_rfl) (by kernel_rfl) (by kernel_rfl) (fun _ _ _ h => h) (Or.inl ⟨by rfl, ?_⟩) (by assumption) ?_
        · intro x hSx; go_simp
        try simp only [Act.put, List.setIfInBounds_toArray, List.set_cons_zero, List.set_cons_succ]
        refine takeL (i := 2) (v := .bool true) rfl (by kernel_rfl) (by kernel_rfl) (by kernel_rfl) (fun _ _ _ h => h) (Or.inl ⟨by rfl, ?_⟩) (by assumption) ?_
        · intro x hSx; go_simp
        try simp only [Act.put, List.setIfInBounds_toArray, List.set_cons_zero, List.set_cons_succ]
        refine takeL (i := 3) (v := .bool true) rfl (by kernel_rfl) (by kernel_rfl) (by kernel_rfl) (fun _ _ _ h => h) (Or.inl ⟨by rfl, ?_⟩) (by assumption) ?_
        · intro x hSx; go_simp
        try simp only [Act.put, List.setIfInBounds_toArray, List.set_cons_zero, List.set_cons_succ]
        refine takeL (i := 4) (v := .bool true) rfl (by kernel_rfl) (by kernel_rfl) (by kernel_rfl) (fun _ _ _ h => h) (Or.inl ⟨by rfl, ?_⟩) (by assumption) ?_
        · intro x hSx; go_simp
        try simp only [Act.put, List.setIfInBounds_toArray, List.set_cons_zero, List.set_cons_succ]
        refine takeL (i := 5) (v := .bool false) rfl (by kernel_rfl) (by kernel_rfl) (by kernel_rfl) (fun _ _ _ h => h) (Or.inl ⟨by rfl, ?_⟩) (by assumption) ?_
        · intro x hSx; go_simp
        try simp only [Act.put, List.setIfInBounds_toArray, List.set_cons_zero, List.set_cons_succ]
        refine takeL (i := 6) (v := .bool false) rfl (by kernel_rfl) (by kernel_rfl) (by kernel_rfl) (fun _ _ _ h => h) (Or.inl ⟨by rfl, ?_⟩) (by assumption) ?_
        · intro x hSx; go_simp
        try simp only [Act.put, List.setIfInBounds_toArray, List.set_cons_zero, List.set_cons_succ]
        refine takeL (i := 7) (v := .pointer (some ⟨gA, 1, none⟩)) rfl (by kernel_rfl) (by kernel_rfl) (by kernel_rfl) (fun _ _ _ h => h) (Or.inl ⟨by rfl, ?_⟩) (by assumption) ?_
        · intro x hSx; go_simp
        try simp only [Act.put, List.setIfInBounds_toArray, List.set_cons_zero, List.set_cons_succ]
        refine takeL (i := 8) (v := .string us) rfl (by kernel_rfl) (by kernel_rfl) (by kernel_rfl) (fun _ _ _ h => h) (Or.inl ⟨by rfl, ?_⟩) (by assumption) ?_
        · intro x hSx; obtain ⟨⟨q0, q1, q2⟩, _⟩ := HY.out _ hSx; go_simp
        try simp only [Act.put, List.setIfInBounds_toArray, List.set_cons_zero, List.set_cons_succ]
        refine takeL (i := 9) (v := .string us) rfl (by kernel_rfl) (by kernel_rfl) (by kernel_rfl) (fun _ _ _ h => h) (Or.inl ⟨by rfl, ?_⟩) (by assumption) ?_
        · intro x hSx; go_simp
        try simp only [Act.put, List.setIfInBounds_toArray, List.set_cons_zero, List.set_cons_succ]
        refine takeL (i := 10) (v := .bool true) rfl (by kernel_rfl) (by kernel_rfl) (by kernel_rfl) (fun _ _ _ h => h) (Or.inl ⟨by rfl, ?_⟩) (by assumption) ?_
        · intro x hSx; go_simp
        try simp only [Act.put, List.setIfInBounds_toArray, List.set_cons_zero, List.set_cons_succ]
        refine takeL (i := 11) (v := .bool true) rfl (by kernel_rfl) (by kernel_rfl) (by kernel_rfl) (fun _ _ _ h => h) (Or.inl ⟨by rfl, ?_⟩) (by assumption) ?_
        · intro x hSx; go_simp
        try simp only [Act.put, List.setIfInBounds_toArray, List.set_cons_zero, List.set_cons_succ]
        refine takeL (i := 12) (v := .pointer (some ⟨gA, 2, none⟩)) rfl (by kernel_rfl) (by kernel_rfl) (by kernel_rfl) (fun _ _ _ h => h) (Or.inl ⟨by rfl, ?_⟩) (by assumption) ?_
        · intro x hSx; go_simp
        try simp only [Act.put, List.setIfInBounds_toArray, List.set_cons_zero, List.set_cons_succ]
        refine takeL (i := 13) (v := .string nm) rfl (by kernel_rfl) (by kernel_rfl) (by kernel_rfl) (fun _ _ _ h => h) (Or.inl ⟨by rfl, ?_⟩) (by assumption) ?_
        · intro x hSx; obtain ⟨⟨q0, q1, q2⟩, _⟩ := HY.out _ hSx; go_simp
        try simp only [Act.put, List.setIfInBounds_toArray, List.set_cons_zero, List.set_cons_succ]
        refine takeL (i := 14) (v := .string nm) rfl (by kernel_rfl) (by kernel_rfl) (by kernel_rfl) (fun _ _ _ h => h) (Or.inl ⟨by rfl, ?_⟩) (by assumption) ?_
        · intro x hSx; go_simp
        try simp only [Act.put, List.setIfInBounds_toArray, List.set_cons_zero, List.set_cons_succ]
        refine takeL (i := 15) (v := .bool true) rfl (by kernel_rfl) (by kernel_rfl) (by kernel_rfl) (fun _ _ _ h => h) (Or.inl ⟨by rfl, ?_⟩) (by assumption) ?_
        · intro x hSx; go_simp
        try simp only [Act.put, List.setIfInBounds_toArray, List.set_cons_zero, List.set_cons_succ]
        refine takeL (i := 16) (v := .bool true) rfl (by kernel_rfl) (by kernel_rfl) (by kernel_rfl) (fun _ _ _ h => h) (Or.inl ⟨by rfl, ?_⟩) (by assumption) ?_
        · intro x hSx; go_simp
        try simp only [Act.put, List.setIfInBounds_toArray, List.set_cons_zero, List.set_cons_succ]
        refine takeL (i := 17) (v := .bool true) rfl (by kernel_rfl) (by kernel_rfl) (by kernel_rfl) (fun _ _ _ h => h) (Or.inl ⟨by rfl, ?_⟩) (by assumption) ?_
        · intro x hSx; go_simp
        try simp only [Act.put, List.setIfInBounds_toArray, List.set_cons_zero, List.set_cons_succ]
        refine takeL (i := 18) (v := .bool true) rfl (by kernel_rfl) (by kernel_rfl) (by kernel_rfl) (fun _ _ _ h => h) (Or.inl ⟨by rfl, ?_⟩) (by assumption) ?_
        · intro x hSx; go_simp
        try simp only [Act.put, List.setIfInBounds_toArray, List.set_cons_zero, List.set_cons_succ]
        refine takeL (i := 19) (v := .bool true) rfl (by kernel_rfl) (by kernel_rfl) (by kernel_rfl) (fun _ _ _ h => h) (Or.inl ⟨by rfl, ?_⟩) (by assumption) ?_
        · intro x hSx; go_simp
        try simp only [Act.put, List.setIfInBounds_toArray, List.set_cons_zero, List.set_cons_succ]
        refine takeL (i := 20) (v := .agg #[.slice ax nx cx]) rfl (by kernel_rfl) (by kernel_rfl) (by kernel_rfl) (fun _ _ _ h => h) (Or.inl ⟨by rfl, ?_⟩) (by assumption) ?_
        · intro x hSx; obtain ⟨⟨q0, q1, q2⟩, _⟩ := HY.out _ hSx; go_simp
        try simp only [Act.put, List.setIfInBounds_toArray, List.set_cons_zero, List.set_cons_succ]
        refine takeL (i := 21) (v := .string us) rfl (by kernel_rfl) (by kernel_rfl) (by kernel_rfl) (fun _ _ _ h => h) (Or.inl ⟨by rfl, ?_⟩) (by assumption) ?_
        · intro x hSx; go_simp
        try simp only [Act.put, List.setIfInBounds_toArray, List.set_cons_zero, List.set_cons_succ]
        refine takeL (i := 23) (v := .agg #[.slice ax nx cx]) rfl (by kernel_rfl) (by kernel_rfl) (by kernel_rfl) (fun _ _ _ h => h) (Or.inl ⟨by rfl, ?_⟩) (by assumption) ?_
        · intro x hSx; obtain ⟨⟨q0, q1, q2⟩, _⟩ := HY.out _ hSx; go_simp
        try simp only [Act.put, List.setIfInBounds_toArray, List.set_cons_zero, List.set_cons_succ]
        refine takeL (i := 24) (v := .string us) rfl (by kernel_rfl) (by kernel_rfl) (by kernel_rfl) (fun _ _ _ h => h) (Or.inl ⟨by rfl, ?_⟩) (by assumption) ?_
        · intro x hSx; go_simp
        try simp only [Act.put, List.setIfInBounds_toArray, List.set_cons_zero, List.set_cons_succ]
        refine wpAnyH_ready (rs := [22]) (by kernel_rfl) (by simp) ?_
        refine readyOne rfl (fun K' hK => ?_)
        go_simp
        obtain ⟨cX, rX, lX, bX, nX⟩ := HY.out _ hHeld
        refine (implBoxesOf_any ps _ us _ bX HP.out.1 HP.out.2.1 (HP.out.2.2.imp (fun h => by omega))).mono ?_
        rintro e wA ⟨vA, rfl, SA⟩
        have kA := SA.bel
        have sA := SA.strs
        have hN := hHeld.trans (kA.mono hHeld.size)
        go_wp2_with fail
        refine hK.out _ _ hN (fun hS2 => ?_)
        clear hK K' hHeld hN cX rX lX bX nX
        have hHeld := hS2
        clear hS2
        try simp only [Act.put, List.setIfInBounds_toArray, List.set_cons_zero, List.set_cons_succ]
        refine wpAnyH_ready (rs := [25]) (by kernel_rfl) (by simp) ?_
        refine readyOne rfl (fun K' hK => ?_)
        go_simp
        obtain ⟨cX, rX, lX, bX, nX⟩ := HY.out _ hHeld
        refine (specBoxesOf_any ps _ us _ bX (by have := HP.out.1; omega)).mono ?_
        rintro e wB ⟨vB, rfl, SB⟩
        have kB := SB.bel
        have sB := SB.strs
        have sA' := sA.later kB
        have hN := hHeld.trans (kB.mono hHeld.size)
        go_wp2_with fail
        refine hK.out _ _ hN (fun hS2 => ?_)
        clear hK K' hHeld hN cX rX lX bX nX
        have hHeld := hS2
        clear hS2
        try simp only [Act.put, List.setIfInBounds_toArray, List.set_cons_zero, List.set_cons_succ]
        refine wpAnyH_ready (rs := [26]) (by kernel_rfl) (by simp) ?_
        refine readyOne rfl (fun K' hK => ?_)
        go_simp
        obtain ⟨cX, rX, lX, bX, nX⟩ := HY.out _ hHeld
        refine (sameTexts_same (namesOf ps us) vA vB _ sA' sB HNL.out).mono ?_
        rintro e wC ⟨rfl, kC⟩
        have hN := hHeld.trans (kC.mono hHeld.size)
        go_wp2_with fail
        refine hK.out _ _ hN (fun hS2 => ?_)
        clear hK K' hHeld hN cX rX lX bX nX
        have hHeld := hS2
        clear hS2
        try simp only [Act.put, List.setIfInBounds_toArray, List.set_cons_zero, List.set_cons_succ]
        refine takeL (i := 27) (v := .bool true) rfl (by kernel_rfl) (by kernel_rfl) (by kernel_rfl) (fun _ _ _ h => h) (Or.inl ⟨by rfl, ?_⟩) (by assumption) ?_
        · intro x hSx; go_simp
        try simp only [Act.put, List.setIfInBounds_toArray, List.set_cons_zero, List.set_cons_succ]
        refine takeL (i := 28) (v := .bool true) rfl (by kernel_rfl) (by kernel_rfl) (by kernel_rfl) (fun _ _ _ h => h) (Or.inl ⟨by rfl, ?_⟩) (by assumption) ?_
        · intro x hSx; go_simp
        try simp only [Act.put, List.setIfInBounds_toArray, List.set_cons_zero, List.set_cons_succ]
        refine takeL (i := 29) (v := .slice a1 ln c1) rfl (by kernel_rfl) (by kernel_rfl) (by kernel_rfl) (fun _ _ _ h => h) (Or.inl ⟨by rfl, ?_⟩) (by assumption) ?_
        · intro x hSx; go_simp
        try simp only [Act.put, List.setIfInBounds_toArray, List.set_cons_zero, List.set_cons_succ]
        refine takeL (i := 31) (v := .slice a1 ln c1) rfl (by kernel_rfl) (by kernel_rfl) (by kernel_rfl) (fun _ _ _ h => h) (Or.inl ⟨by rfl, ?_⟩) (by assumption) ?_
        · intro x hSx; go_simp
        try simp only [Act.put, List.setIfInBounds_toArray, List.set_cons_zero, List.set_cons_succ]
        refine wpAnyH_ready (rs := [30]) (by kernel_rfl) (by simp) ?_
        refine readyOne rfl (fun K' hK => ?_)
        go_simp
        obtain ⟨cX, rX, lX, bX, nX⟩ := HY.out _ hHeld
        refine (implValidAfter_any l _ _ lX HLV.out.1 HLV.out.2).mono ?_
        rintro e wD ⟨rfl, kD⟩
        rw [HVA.out]
        have hN := hHeld.trans (kD.mono hHeld.size)
        go_wp2_with fail
        refine hK.out _ _ hN (fun hS2 => ?_)
        clear hK K' hHeld hN cX rX lX bX nX
        have hHeld := hS2
        clear hS2
        try simp only [Act.put, List.setIfInBounds_toArray, List.set_cons_zero, List.set_cons_succ]
        refine wpAnyH_ready (rs := [32]) (by kernel_rfl) (by simp) ?_
        refine readyOne rfl (fun K' hK => ?_)
        go_simp
        obtain ⟨cX, rX, lX, bX, nX⟩ := HY.out _ hHeld
        refine (specValidAfter_any l _ _ lX HLV.out.1 HLV.out.2).mono ?_
        rintro e wE ⟨rfl, kE⟩
        rw [HVA.out]
        have hN := hHeld.trans (kE.mono hHeld.size)
        go_wp2_with fail
        refine hK.out _ _ hN (fun hS2 => ?_)
        clear hK K' hHeld hN cX rX lX bX nX
        have hHeld := hS2
        clear hS2
        try simp only [Act.put, List.setIfInBounds_toArray, List.set_cons_zero, List.set_cons_succ]
        refine takeL (i := 33) (v := .bool true) rfl (by kernel_rfl) (by kernel_rfl) (by kernel_rfl) (fun _ _ _ h => h) (Or.inl ⟨by rfl, ?_⟩) (by assumption) ?_
        · intro x hSx; go_simp
        try simp only [Act.put, List.setIfInBounds_toArray, List.set_cons_zero, List.set_cons_succ]
        refine takeL (i := 34) (v := .bool true) rfl (by kernel_rfl) (by kernel_rfl) (by kernel_rfl) (fun _ _ _ h => h) (Or.inl ⟨by rfl, ?_⟩) (by assumption) ?_
        · intro x hSx; go_simp
        try simp only [Act.put, List.setIfInBounds_toArray, List.set_cons_zero, List.set_cons_succ]
        refine takeL (i := 35) (v := .bool true) rfl (by kernel_rfl) (by kernel_rfl) (by kernel_rfl) (fun _ _ _ h => h) (Or.inl ⟨by rfl, ?_⟩) (by assumption) ?_
        · intro x hSx; go_simp
        try simp only [Act.put, List.setIfInBounds_toArray, List.set_cons_zero, List.set_cons_succ]
        refine wpAnyH_done (by kernel_rfl) ?_ _
        have bE := (HY.out _ hHeld).2.2.2.2
        go_wp2_with fail
        go_ret
        exact ⟨rfl, bE⟩
      | false =>
        clear HYES
        refine wp_region_held_drew (S := fun x => Below wG.heap.size wG x) (by kernel_rfl) (belDrew' wG) (fun hHeld => ?_)
        refine takeL (i := 0) (v := .bool false) rfl (by kernel_rfl) (by kernel_rfl) (by kernel_rfl) (fun _ _ _ h => h) (Or.inl ⟨by rfl, ?_⟩) (by assumption) ?_
        · intro x hSx; go_simp
        try simp only [Act.put, List.setIfInBounds_toArray, List.set_cons_zero, List.set_cons_succ]
        refine takeL (i := 1) (v := .bool false) rfl (by kernel_rfl) (by kernel_rfl) (by kernel_rfl) (fun _ _ _ h => h) (Or.inl ⟨by rfl, ?_⟩) (by assumption) ?_
        · intro x hSx; go_simp
        try simp only [Act.put, List.setIfInBounds_toArray, List.set_cons_zero, List.set_cons_succ]
        refine takeL (i := 2) (v := .bool true) rfl (by kernel_rfl) (by kernel_rfl) (by kernel_rfl) (fun _ _ _ h => h) (Or.inl ⟨by rfl, ?_⟩) (by assumption) ?_
        · intro x hSx; go_simp
        try simp only [Act.put, List.setIfInBounds_toArray, List.set_cons_zero, List.set_cons_succ]
        refine takeL (i := 3) (v := .bool true) rfl (by kernel_rfl) (by kernel_rfl) (by kernel_rfl) (fun _ _ _ h => h) (Or.inl ⟨by rfl, ?_⟩) (by assumption) ?_
        · intro x hSx; go_simp
        try simp only [Act.put, List.setIfInBounds_toArray, List.set_cons_zero, List.set_cons_succ]
        refine takeL (i := 4) (v := .bool false) rfl (by kernel_rfl) (by kernel_rfl) (by kernel_rfl) (fun _ _ _ h => h) (Or.inl ⟨by rfl, ?_⟩) (by assumption) ?_
        · intro x hSx; go_simp
        try simp only [Act.put, List.setIfInBounds_toArray, List.set_cons_zero, List.set_cons_succ]
        refine takeL (i := 5) (v := .bool true) rfl (by kernel_rfl) (by kernel_rfl) (by kernel_rfl) (fun _ _ _ h => h) (Or.inl ⟨by rfl, ?_⟩) (by assumption) ?_
        · intro x hSx; go_simp
        try simp only [Act.put, List.setIfInBounds_toArray, List.set_cons_zero, List.set_cons_succ]
        refine takeL (i := 6) (v := .bool true) rfl (by kernel_rfl) (by kernel_rfl) (by kernel_rfl) (fun _ _ _ h => h) (Or.inl ⟨by rfl, ?_⟩) (by assumption) ?_
        · intro x hSx; go_simp
        try simp only [Act.put, List.setIfInBounds_toArray, List.set_cons_zero, List.set_cons_succ]
        refine takeL (i := 7) (v := undef) rfl (by kernel_rfl) (by kernel_rfl) (by kernel_rfl) (fun _ _ _ h => h) (Or.inr ⟨by rfl, rfl⟩) (by assumption) ?_
        try simp only [Act.put, List.setIfInBounds_toArray, List.set_cons_zero, List.set_cons_succ]
        refine takeL (i := 8) (v := undef) rfl (by kernel_rfl) (by kernel_rfl) (by kernel_rfl) (fun _ _ _ h => h) (Or.inr ⟨by rfl, rfl⟩) (by assumption) ?_
        try simp only [Act.put, List.setIfInBounds_toArray, List.set_cons_zero, List.set_cons_succ]
        refine takeL (i := 9) (v := undef) rfl (by kernel_rfl) (by kernel_rfl) (by kernel_rfl) (fun _ _ _ h => h) (Or.inr ⟨by rfl, rfl⟩) (by assumption) ?_
        try simp only [Act.put, List.setIfInBounds_toArray, List.set_cons_zero, List.set_cons_succ]
        refine takeL (i := 10) (v := undef) rfl (by kernel_rfl) (by kernel_rfl) (by kernel_rfl) (fun _ _ _ h => h) (Or.inr ⟨by rfl, rfl⟩) (by assumption) ?_
        try simp only [Act.put, List.setIfInBounds_toArray, List.set_cons_zero, List.set_cons_succ]
        refine takeL (i := 11) (v := undef) rfl (by kernel_rfl) (by kernel_rfl) (by kernel_rfl) (fun _ _ _ h => h) (Or.inr ⟨by rfl, rfl⟩) (by assumption) ?_
        try simp only [Act.put, List.setIfInBounds_toArray, List.set_cons_zero, List.set_cons_succ]
        refine takeL (i := 12) (v := undef) rfl (by kernel_rfl) (by kernel_rfl) (by kernel_rfl) (fun _ _ _ h => h) (Or.inr ⟨by rfl, rfl⟩) (by assumption) ?_
        try simp only [Act.put, List.setIfInBounds_toArray, List.set_cons_zero, List.set_cons_succ]
        refine takeL (i := 13) (v := undef) rfl (by kernel_rfl) (by kernel_rfl) (by kernel_rfl) (fun _ _ _ h => h) (Or.inr ⟨by rfl, rfl⟩) (by assumption) ?_
        try simp only [Act.put, List.setIfInBounds_toArray, List.set_cons_zero, List.set_cons_succ]
        refine takeL (i := 14) (v := undef) rfl (by kernel_rfl) (by kernel_rfl) (by kernel_rfl) (fun _ _ _ h => h) (Or.inr ⟨by rfl, rfl⟩) (by assumption) ?_
        try simp only [Act.put, List.setIfInBounds_toArray, List.set_cons_zero, List.set_cons_succ]
        refine takeL (i := 15) (v := undef) rfl (by kernel_rfl) (by kernel_rfl) (by kernel_rfl) (fun _ _ _ h => h) (Or.inr ⟨by rfl, rfl⟩) (by assumption) ?_
        try simp only [Act.put, List.setIfInBounds_toArray, List.set_cons_zero, List.set_cons_succ]
        refine takeL (i := 16) (v := undef) rfl (by kernel_rfl) (by kernel_rfl) (by kernel_rfl) (fun _ _ _ h => h) (Or.inr ⟨by rfl, rfl⟩) (by assumption) ?_
        try simp only [Act.put, List.setIfInBounds_toArray, List.set_cons_zero, List.set_cons_succ]
        refine takeL (i := 17) (v := .bool true) rfl (by kernel_rfl) (by kernel_rfl) (by kernel_rfl) (fun _ _ _ h => h) (Or.inl ⟨by rfl, ?_⟩) (by assumption) ?_
        · intro x hSx; go_simp
        try simp only [Act.put, List.setIfInBounds_toArray, List.set_cons_zero, List.set_cons_succ]
        refine takeL (i := 18) (v := .bool true) rfl (by kernel_rfl) (by kernel_rfl) (by kernel_rfl) (fun _ _ _ h => h) (Or.inl ⟨by rfl, ?_⟩) (by assumption) ?_
        · intro x hSx; go_simp
        try simp only [Act.put, List.setIfInBounds_toArray, List.set_cons_zero, List.set_cons_succ]
        refine takeL (i := 19) (v := .bool true) rfl (by kernel_rfl) (by kernel_rfl) (by kernel_rfl) (fun _ _ _ h => h) (Or.inl ⟨by rfl, ?_⟩) (by assumption) ?_
        · intro x hSx; go_simp
        try simp only [Act.put, List.setIfInBounds_toArray, List.set_cons_zero, List.set_cons_succ]
        refine takeL (i := 20) (v := .agg #[.slice ax nx cx]) rfl (by kernel_rfl) (by kernel_rfl) (by kernel_rfl) (fun _ _ _ h => h) (Or.inl ⟨by rfl, ?_⟩) (by assumption) ?_
        · intro x hSx; obtain ⟨⟨q0, q1, q2⟩, _⟩ := HY.out _ hSx; go_simp
        try simp only [Act.put, List.setIfInBounds_toArray, List.set_cons_zero, List.set_cons_succ]
        refine takeL (i := 21) (v := .string us) rfl (by kernel_rfl) (by kernel_rfl) (by kernel_rfl) (fun _ _ _ h => h) (Or.inl ⟨by rfl, ?_⟩) (by assumption) ?_
        · intro x hSx; go_simp
        try simp only [Act.put, List.setIfInBounds_toArray, List.set_cons_zero, List.set_cons_succ]
        refine takeL (i := 23) (v := .agg #[.slice ax nx cx]) rfl (by kernel_rfl) (by kernel_rfl) (by kernel_rfl) (fun _ _ _ h => h) (Or.inl ⟨by rfl, ?_⟩) (by assumption) ?_
        · intro x hSx; obtain ⟨⟨q0, q1, q2⟩, _⟩ := HY.out _ hSx; go_simp
        try simp only [Act.put, List.setIfInBounds_toArray, List.set_cons_zero, List.set_cons_succ]
        refine takeL (i := 24) (v := .string us) rfl (by kernel_rfl) (by kernel_rfl) (by kernel_rfl) (fun _ _ _ h => h) (Or.inl ⟨by rfl, ?_⟩) (by assumption) ?_
        · intro x hSx; go_simp
        try simp only [Act.put, List.setIfInBounds_toArray, List.set_cons_zero, List.set_cons_succ]
        refine wpAnyH_ready (rs := [22]) (by kernel_rfl) (by simp) ?_
        refine readyOne rfl (fun K' hK => ?_)
        go_simp
        obtain ⟨cX, rX, lX, bX, nX⟩ := HY.out _ hHeld
        refine (implBoxesOf_any ps _ us _ bX HP.out.1 HP.out.2.1 (HP.out.2.2.imp (fun h => by omega))).mono ?_
        rintro e wA ⟨vA, rfl, SA⟩
        have kA := SA.bel
        have sA := SA.strs
        have hN := hHeld.trans (kA.mono hHeld.size)
        go_wp2_with fail
        refine hK.out _ _ hN (fun hS2 => ?_)
        clear hK K' hHeld hN cX rX lX bX nX
        have hHeld := hS2
        clear hS2
        try simp only [Act.put, List.setIfInBounds_toArray, List.set_cons_zero, List.set_cons_succ]
        refine wpAnyH_ready (rs := [25]) (by kernel_rfl) (by simp) ?_
        refine readyOne rfl (fun K' hK => ?_)
        go_simp
        obtain ⟨cX, rX, lX, bX, nX⟩ := HY.out _ hHeld
        refine (specBoxesOf_any ps _ us _ bX (by have := HP.out.1; omega)).mono ?_
        rintro e wB ⟨vB, rfl, SB⟩
        have kB := SB.bel
        have sB := SB.strs
        have sA' := sA.later kB
        have hN := hHeld.trans (kB.mono hHeld.size)
        go_wp2_with fail
        refine hK.out _ _ hN (fun hS2 => ?_)
        clear hK K' hHeld hN cX rX lX bX nX
        have hHeld := hS2
        clear hS2
        try simp only [Act.put, List.setIfInBounds_toArray, List.set_cons_zero, List.set_cons_succ]
        refine wpAnyH_ready (rs := [26]) (by kernel_rfl) (by simp) ?_
        refine readyOne rfl (fun K' hK => ?_)
        go_simp
        obtain ⟨cX, rX, lX, bX, nX⟩ := HY.out _ hHeld
        refine (sameTexts_same (namesOf ps us) vA vB _ sA' sB HNL.out).mono ?_
        rintro e wC ⟨rfl, kC⟩
        have hN := hHeld.trans (kC.mono hHeld.size)
        go_wp2_with fail
        refine hK.out _ _ hN (fun hS2 => ?_)
        clear hK K' hHeld hN cX rX lX bX nX
        have hHeld := hS2
        clear hS2
        try simp only [Act.put, List.setIfInBounds_toArray, List.set_cons_zero, List.set_cons_succ]
        refine takeL (i := 27) (v := .bool true) rfl (by kernel_rfl) (by kernel_rfl) (by kernel_rfl) (fun _ _ _ h => h) (Or.inl ⟨by rfl, ?_⟩) (by assumption) ?_
        · intro x hSx; go_simp
        try simp only [Act.put, List.setIfInBounds_toArray, List.set_cons_zero, List.set_cons_succ]
        refine takeL (i := 28) (v := .bool true) rfl (by kernel_rfl) (by kernel_rfl) (by kernel_rfl) (fun _ _ _ h => h) (Or.inl ⟨by rfl, ?_⟩) (by assumption) ?_
        · intro x hSx; go_simp
        try simp only [Act.put, List.setIfInBounds_toArray, List.set_cons_zero, List.set_cons_succ]
        refine takeL (i := 29) (v := .slice a1 ln c1) rfl (by kernel_rfl) (by kernel_rfl) (by kernel_rfl) (fun _ _ _ h => h) (Or.inl ⟨by rfl, ?_⟩) (by assumption) ?_
        · intro x hSx; go_simp
        try simp only [Act.put, List.setIfInBounds_toArray, List.set_cons_zero, List.set_cons_succ]
        refine takeL (i := 31) (v := .slice a1 ln c1) rfl (by kernel_rfl) (by kernel_rfl) (by kernel_rfl) (fun _ _ _ h => h) (Or.inl ⟨by rfl, ?_⟩) (by assumption) ?_
        · intro x hSx; go_simp
        try simp only [Act.put, List.setIfInBounds_toArray, List.set_cons_zero, List.set_cons_succ]
        refine wpAnyH_ready (rs := [30]) (by kernel_rfl) (by simp) ?_
        refine readyOne rfl (fun K' hK => ?_)
        go_simp
        obtain ⟨cX, rX, lX, bX, nX⟩ := HY.out _ hHeld
        refine (implValidAfter_any l _ _ lX HLV.out.1 HLV.out.2).mono ?_
        rintro e wD ⟨rfl, kD⟩
        rw [HVA.out]
        have hN := hHeld.trans (kD.mono hHeld.size)
        go_wp2_with fail
        refine hK.out _ _ hN (fun hS2 => ?_)
        clear hK K' hHeld hN cX rX lX bX nX
        have hHeld := hS2
        clear hS2
        try simp only [Act.put, List.setIfInBounds_toArray, List.set_cons_zero, List.set_cons_succ]
        refine wpAnyH_ready (rs := [32]) (by kernel_rfl) (by simp) ?_
        refine readyOne rfl (fun K' hK => ?_)
        go_simp
        obtain ⟨cX, rX, lX, bX, nX⟩ := HY.out _ hHeld
        refine (specValidAfter_any l _ _ lX HLV.out.1 HLV.out.2).mono ?_
        rintro e wE ⟨rfl, kE⟩
        rw [HVA.out]
        have hN := hHeld.trans (kE.mono hHeld.size)
        go_wp2_with fail
        refine hK.out _ _ hN (fun hS2 => ?_)
        clear hK K' hHeld hN cX rX lX bX nX
        have hHeld := hS2
        clear hS2
        try simp only [Act.put, List.setIfInBounds_toArray, List.set_cons_zero, List.set_cons_succ]
        refine takeL (i := 33) (v := .bool true) rfl (by kernel_rfl) (by kernel_rfl) (by kernel_rfl) (fun _ _ _ h => h) (Or.inl ⟨by rfl, ?_⟩) (by assumption) ?_
        · intro x hSx; go_simp
        try simp only [Act.put, List.setIfInBounds_toArray, List.set_cons_zero, List.set_cons_succ]
        refine takeL (i := 34) (v := .bool true) rfl (by kernel_rfl) (by kernel_rfl) (by kernel_rfl) (fun _ _ _ h => h) (Or.inl ⟨by rfl, ?_⟩) (by assumption) ?_
        · intro x hSx; go_simp
        try simp only [Act.put, List.setIfInBounds_toArray, List.set_cons_zero, List.set_cons_succ]
        refine takeL (i := 35) (v := .bool true) rfl (by kernel_rfl) (by kernel_rfl) (by kernel_rfl) (fun _ _ _ h => h) (Or.inl ⟨by rfl, ?_⟩) (by assumption) ?_
        · intro x hSx; go_simp
        try simp only [Act.put, List.setIfInBounds_toArray, List.set_cons_zero, List.set_cons_succ]
        refine wpAnyH_done (by kernel_rfl) ?_ _
        have bE := (HY.out _ hHeld).2.2.2.2
        go_wp2_with fail
        go_ret
        exact ⟨rfl, bE⟩

theorem FnStates_own : ownKnob Try.prog.godebug = none := by kernel_rfl

set_option maxRecDepth 100000 in
theorem FnStates_lifted (os : Os) (started : os.Started) (H : Type) (enc : TypeId × Value → H) :
    ReturnsInHanded {} Try.checked os 3 .any (Rows.fnStatesSpec.pre6 enc Try.prog Try.f3 Rows.fnStatesRow.domain false) (Rows.fnStatesSpec.post enc Try.prog Try.f3 false true false false) := by
  refine returnsInHanded_of_change (C := Try.checked) FnStates_own started (by kernel_rfl) Try.func3
    (ChangeSpec.witness6 (enc := enc) (C := Try.checked) false ⟨#[], #[.slice none 0 0], []⟩ 8 (by kernel_rfl) (by kernel_rfl) (by kernel_rfl) (by kernel_rfl)) ?_
  intro W base args ds gs before hval0 hW hcnd _
  have hval : ∀ (j : Nat) t v, Try.f3.params[j]? = some t → args[j]? = some v → Value.okWide Try.prog W .any base t v := hval0
  have hW' := hW
  obtain ⟨p, q, hA0, hV, rfl, hfz, hnd⟩ := hW
  have hA : DataW.TrodAll enc Try.prog W 0 (fun _ => true) true Try.f3.params.toList args.toList ds p := hA0
  rw [Try.params3] at hA hval
  obtain ⟨v0, vs0, d0, ds0, p0, q0, hargs, rfl, rfl, h0, r0⟩ := trodAll_cons hA
  obtain ⟨rfl, rfl, rfl⟩ := trodAll_nil r0
  obtain rfl : args = #[v0] := by cases args; simp_all
  obtain ⟨rfl, rfl⟩ := trodVars_none hV
  obtain ⟨a0, len0, cap0, rfl⟩ := okWide_slice Try.underlying22 (hval 0 22 v0 rfl rfl)
  have k0 := h0
  have lt0 : ∀ x ∈ p0, x.block < W.heap.size := by obtain ⟨m, hm⟩ := k0; exact DataW.trod_lt m _ _ _ hm
  have w0 : CodeIn W a0 len0 := by
    obtain ⟨fuel, hf⟩ := h0
    rcases open_ints Try.underlying22 Try.underlying5 (by kernel_rfl) hf with ⟨hcs, _⟩ | ⟨x, l, c, zs, hcs, _, hl, hm, hz, _, hcell, hwz⟩
    · simp [Value.cells] at hcs
      obtain ⟨rfl, rfl, rfl⟩ := hcs
      intro i hi; omega
    · simp [Value.cells] at hcs
      obtain ⟨rfl, rfl, rfl⟩ := hcs
      exact codeIn_of_row hl (by simpa using hz) hcell hwz
  clear hA0 hval0
  simp only [List.append_nil] at hW'
  refine (walk_FnStates a0 len0 cap0 w0 (w := W)).mono fun e W' ⟨he, bel⟩ => ?_
  subst he
  exact ⟨_, rfl, _, _, _, [], _, [], hW', trodAll_mk1 (shut_bool Try.underlying4 _), (trodAll_cons_mk (Below.trod (show laidOutB Try.prog = true by kernel_rfl) (by kernel_rfl) (of_decide_eq_true (by kernel_rfl)) k0 bel lt0) trodAll_mk0), rfl, bel.frame _, fun h => by cases h⟩

/-- The given statement. -/
theorem fnStates_holds : Rows.FnStatesSaid :=
  OpenClaim.holds_of_wide 3 Try.f3 rfl rfl rfl rfl rfl rfl rfl ⟨rfl, rfl, rfl, rfl, rfl⟩ rfl rfl rfl rfl rfl (by kernel_rfl) Try.func3 (by kernel_rfl)
    (of_decide_eq_true (by kernel_rfl)) (by unfold Func.isWrapper; first | (rw [if_pos (by decide +kernel)]; kernel_rfl) | (rw [if_neg (by decide +kernel)]; exact ⟨rfl, rfl⟩))
    (fun os started H enc _ => FnStates_lifted os started H enc)
#print axioms fnStates_holds


end Go.Proofs.Ytmahicpheimnjaa
