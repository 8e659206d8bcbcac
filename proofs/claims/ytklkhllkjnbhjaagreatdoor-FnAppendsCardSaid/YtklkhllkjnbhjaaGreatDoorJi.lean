/- Texts of our own, joined. -/
import Derived.Test.YtklkhllkjnbhjaaGreatDoorJh
/- Records: what the model's WordOk, RecOk, RecText hand back. -/
namespace Go.Proofs.YtklkhllkjnbhjaaGreatDoor
open Go.RowKit
open Lib (hid)
set_option maxRecDepth 100000
set_option maxHeartbeats 8000000
def Rc.v (r:Rc):Value:=.agg #[.int .i64 r.kind,.int .i64 r.valid,.int .i64 r.uid,.int .i64 r.next,.int .i64 r.flags,.string r.user,.string r.name,.string r.text]
def Rc.cs (r:Rc):Array Value:=#[.int .i64 r.kind,.int .i64 r.valid,.int .i64 r.uid,.int .i64 r.next,.int .i64 r.flags,.string r.user,.string r.name,.string r.text]
theorem Box.rec{w:World}{b:Nat}{r:Rc}{t:TypeId}(h:Box w b r.cs t):w.cell? ⟨b,0,none⟩=some (.int .i64 r.kind)∧w.cell? ⟨b,1,none⟩=some (.int .i64 r.valid)∧w.cell? ⟨b,2,none⟩=some (.int .i64 r.uid)∧w.cell? ⟨b,3,none⟩=some (.int .i64 r.next)∧w.cell? ⟨b,4,none⟩=some (.int .i64 r.flags)∧w.cell? ⟨b,5,none⟩=some (.string r.user)∧w.cell? ⟨b,6,none⟩=some (.string r.name)∧w.cell? ⟨b,7,none⟩=some (.string r.text):=
  ⟨h.cell 0 _ rfl,h.cell 1 _ rfl,h.cell 2 _ rfl,h.cell 3 _ rfl,h.cell 4 _ rfl,h.cell 5 _ rfl,h.cell 6 _ rfl,h.cell 7 _ rfl⟩
theorem j1(s:ByteArray)(k:Nat)(h:k < s.size)(wx:World):
    (Instr.index 9 (.string s) (.int .i64 (k:Int))).run Tryz.prog wx=.ok (.int .u8 (s[k].toNat:Int)) wx:=by
  have hu:=Tryz.underlying9;simp [Instr.index,run_underlying hu,go_sem,h]
theorem zg(n lo hi:Int)(w:World)(h1:lo≤n)(h2:n≤hi):
    Calls Tryz.prog 52 #[.int .i64 n,.int .i64 lo,.int .i64 hi] w fun e w'=>e=.returned (.bool true)∧w=w':=
  (yD n lo hi w).mono fun _ _ h=>⟨by rw [h.1];simp [h1,h2],h.2.symm⟩
theorem zk(n lo hi:Int)(w:World)(h:¬(lo≤n∧n≤hi)):
    Calls Tryz.prog 52 #[.int .i64 n,.int .i64 lo,.int .i64 hi] w fun e w'=>e=.returned (.bool false)∧w=w':=
  (yD n lo hi w).mono fun _ _ h'=>⟨by rw [h'.1];simp;omega,h'.2.symm⟩
theorem ze (s:ByteArray) (w:World) (hs:s.size≤1099511627776):
    Calls Tryz.prog 115 #[.string s] w fun e w'=>e=.returned (.bool (decide (wdOk s)))∧w=w':=by
  go_enter Tryz.func115,Tryz.ntmps115
  go_wp2;go_loop [3] (fun iv=>∃ i:Nat,i≤s.size∧iv=.int .i64 (i:Int)∧∀ j (hj:j < s.size),j < i→97≤s[j].toNat∧s[j].toNat≤122) (fun iv=>s.size -(intOf iv).toNat)
  case atStart=>exact⟨0,by omega,rfl,fun j _ hj=>by omega⟩
  case round=>
    obtain⟨i,hi,rfl,hall⟩:=hrel;have HA:=hid hall;clear hall;by_cases hlt:i < s.size
    · have hlt':(i:Int) <(s.size:Int):=by omega
      have hix:=j1 s i hlt;have HB:Hid (¬(97≤s[i].toNat∧s[i].toNat≤122)→decide (wdOk s)=false):=fun h=>decide_eq_false (fun hw=>h (hw.2 _ (by
        show s.data[i]∈s.data.toList
        exact Array.getElem_mem_toList _)))
      have HN:Hid (97≤s[i].toNat∧s[i].toNat≤122→∀ j (hj:j < s.size),j < i+1→97≤s[j].toNat∧s[j].toNat≤122):=by
        intro h j hj hji;by_cases e:j=i
        · subst e;exact h
        · exact HA.out j hj (by omega)
      generalize s[i].toNat=c at hix HB HN;by_cases h1:c < 97
      · have h1':(c:Int) < 97:=by omega
        go_wp2;go_ret;exact⟨by rw [HB.out (by omega)];rfl,rfl⟩
      · have h1':¬(c:Int) < 97:=by omega
        by_cases h2:122 < c
        · have h2':(122:Int) <(c:Int):=by omega
          go_wp2;go_ret;exact⟨by rw [HB.out (by omega)];rfl,rfl⟩
        · have h2':¬(122:Int) <(c:Int):=by omega
          go_wp2;go_round
          case rel=>exact⟨i+1,by omega,by go_num,HN.out ⟨by omega,by omega⟩⟩
          case measure=>simp [intOf];omega
    · have hge:¬(i:Int) <(s.size:Int):=by omega
      have HE:Hid (decide (wdOk s)=decide (1≤s.size∧s.size≤8)):=show _=_ from decide_eq_decide.2 ⟨fun h=>h.1,fun h=>⟨h,fun b hb=>by
        obtain⟨j,hj,rfl⟩:=List.getElem_of_mem hb;have hj2:j < s.size:=(by rw [←zQ];exact hj);exact HA.out j hj2 (by omega)⟩⟩
      by_cases hin:1≤s.size∧s.size≤8
      · go_wp2_with (go_at_call 52;refine(zg _ _ _ _ (by omega) (by omega)).mono ?_;rintro e w5 ⟨rfl,rfl⟩)
        go_ret;exact⟨by rw [HE.out,decide_eq_true hin];rfl,rfl⟩
      · go_wp2_with (go_at_call 52;refine(zk _ _ _ _ (by omega)).mono ?_;rintro e w5 ⟨rfl,rfl⟩)
        go_ret;exact⟨by rw [HE.out,decide_eq_false hin];rfl,rfl⟩
theorem jI(s:ByteArray):(s.toList== [])=decide (s=emp):=by
  rw [Go.ByteArray.toList_eq];by_cases h:s=emp
  · rw [decide_eq_true h,h];rfl
  · rw [decide_eq_false h]
    refine beq_eq_false_iff_ne.2 fun e=>h ?_;obtain⟨⟨l⟩⟩:=s;simp at e;rw [e];rfl
theorem yw (r:Rc) (w:World) (h1:r.user.size≤1099511627776) (h2:r.name.size≤1099511627776) (h3:r.text.size≤1099511627776):
    Calls Tryz.prog 83 #[r.v] w fun e w'=>e=.returned (.bool (decide r.ok))∧Below w.heap.size w w':=by
  have b0:Below w.heap.size w (w.alloc (.cells r.cs 33)):=(Below.refl _ _).alloc (Nat.le_refl _) _;have hx:=Box.new w r.cs 33;obtain⟨c0,c1,c2,c3,c4,c5,c6,c7⟩:=hx.rec;obtain⟨kind,valid,uid,next,flags,user,name,text⟩:=r;unfold Rc.v;unfold Rc.cs at c0 c1 c2 c3 c4 c5 c6 c7 b0;simp only at c0 c1 c2 c3 c4 c5 c6 c7 b0 h1 h2 h3 ⊢;clear hx;obtain⟨bu,hbu⟩:∃ bu,decide (wdOk user)=bu:=⟨_,rfl⟩;obtain⟨bn,hbn⟩:∃ bn,decide (wdOk name)=bn:=⟨_,rfl⟩;obtain⟨eu,heu⟩:∃ eu,decide (user=emp)=eu:=⟨_,rfl⟩;obtain⟨en,hen⟩:∃ en,decide (name=emp)=en:=⟨_,rfl⟩;obtain⟨et,het⟩:∃ et,decide (text=emp)=et:=⟨_,rfl⟩;have qu:(user.toList== [])=eu:=by rw [jI,heu]
  have qn:(name.toList== [])=en:=by rw [jI,hen]
  have qt:(text.toList== [])=et:=by rw [jI,het]
  have HE:Hid (decide (Rc.ok ⟨kind,valid,uid,next,flags,user,name,text⟩)=decide ((1≤kind∧kind≤5)∧(1≤valid∧valid≤9999)∧(if kind=1 then bu=true∧bn=true∧1≤next∧next≤10000 else eu=true∧en=true∧next=0)∧(if 3≤kind then 1≤uid∧uid≤9999 else uid=0)∧(if kind=3∨kind=4 then 0≤flags∧flags≤7 else flags=0)∧(if kind=3 then text.size≤100 else et=true))):=by
    rw [←hbu,←hbn,←heu,←hen,←het];simp only [decide_eq_true_eq];exact decide_eq_decide.2 Iff.rfl
  have HU:=hid hbu;have HN:=hid hbn;clear hbu hbn heu hen het;go_enter Tryz.func83,Tryz.ntmps83
  by_cases hk:1≤kind∧kind≤5
  · by_cases hv:1≤valid∧valid≤9999
    · rcases(show kind=1∨kind=2∨kind=3∨kind=4∨kind=5 by omega) with rfl | rfl | rfl | rfl | rfl
      · cases bu
        case false=>
          go_wp2_with (first |(go_at_call 52;first |(refine(zg _ _ _ _ (by omega) (by omega)).mono ?_;rintro e w5 ⟨rfl,rfl⟩) |(refine(zk _ _ _ _ (by omega)).mono ?_;rintro e w5 ⟨rfl,rfl⟩)) |(go_at_call 115;refine(ze _ _ (by first | exact h1 | exact h2)).mono ?_;rintro e w5 ⟨rfl,rfl⟩;first | rw [HU.out] | rw [HN.out]))
          go_ret;exact⟨by rw [HE.out,decide_eq_false (by simp)];rfl,b0⟩
        cases bn
        case false=>
          go_wp2_with (first |(go_at_call 52;first |(refine(zg _ _ _ _ (by omega) (by omega)).mono ?_;rintro e w5 ⟨rfl,rfl⟩) |(refine(zk _ _ _ _ (by omega)).mono ?_;rintro e w5 ⟨rfl,rfl⟩)) |(go_at_call 115;refine(ze _ _ (by first | exact h1 | exact h2)).mono ?_;rintro e w5 ⟨rfl,rfl⟩;first | rw [HU.out] | rw [HN.out]))
          go_ret;exact⟨by rw [HE.out,decide_eq_false (by simp)];rfl,b0⟩
        by_cases hnext:1≤next∧next≤10000
        rotate_left
        · go_wp2_with (first |(go_at_call 52;first |(refine(zg _ _ _ _ (by omega) (by omega)).mono ?_;rintro e w5 ⟨rfl,rfl⟩) |(refine(zk _ _ _ _ (by omega)).mono ?_;rintro e w5 ⟨rfl,rfl⟩)) |(go_at_call 115;refine(ze _ _ (by first | exact h1 | exact h2)).mono ?_;rintro e w5 ⟨rfl,rfl⟩;first | rw [HU.out] | rw [HN.out]))
          go_ret;exact⟨by rw [HE.out,decide_eq_false (by simp;omega)];rfl,b0⟩
        by_cases huid:uid=0
        rotate_left
        · have huid':(uid==0)=false:=beq_eq_false_iff_ne.2 huid
          go_wp2_with (first |(go_at_call 52;first |(refine(zg _ _ _ _ (by omega) (by omega)).mono ?_;rintro e w5 ⟨rfl,rfl⟩) |(refine(zk _ _ _ _ (by omega)).mono ?_;rintro e w5 ⟨rfl,rfl⟩)) |(go_at_call 115;refine(ze _ _ (by first | exact h1 | exact h2)).mono ?_;rintro e w5 ⟨rfl,rfl⟩;first | rw [HU.out] | rw [HN.out]))
          go_ret;exact⟨by rw [HE.out,decide_eq_false (by simp [huid])];rfl,b0⟩
        subst huid;by_cases hflags:flags=0
        rotate_left
        · have hflags':(flags==0)=false:=beq_eq_false_iff_ne.2 hflags
          go_wp2_with (first |(go_at_call 52;first |(refine(zg _ _ _ _ (by omega) (by omega)).mono ?_;rintro e w5 ⟨rfl,rfl⟩) |(refine(zk _ _ _ _ (by omega)).mono ?_;rintro e w5 ⟨rfl,rfl⟩)) |(go_at_call 115;refine(ze _ _ (by first | exact h1 | exact h2)).mono ?_;rintro e w5 ⟨rfl,rfl⟩;first | rw [HU.out] | rw [HN.out]))
          go_ret;exact⟨by rw [HE.out,decide_eq_false (by simp [hflags])];rfl,b0⟩
        subst hflags;go_wp2_with (first |(go_at_call 52;first |(refine(zg _ _ _ _ (by omega) (by omega)).mono ?_;rintro e w5 ⟨rfl,rfl⟩) |(refine(zk _ _ _ _ (by omega)).mono ?_;rintro e w5 ⟨rfl,rfl⟩)) |(go_at_call 115;refine(ze _ _ (by first | exact h1 | exact h2)).mono ?_;rintro e w5 ⟨rfl,rfl⟩;first | rw [HU.out] | rw [HN.out]))
        go_ret;exact⟨by rw [HE.out];(cases et <;> simp [hv,hnext]),b0⟩
      · cases eu
        case false=>
          go_wp2_with (first |(go_at_call 52;first |(refine(zg _ _ _ _ (by omega) (by omega)).mono ?_;rintro e w5 ⟨rfl,rfl⟩) |(refine(zk _ _ _ _ (by omega)).mono ?_;rintro e w5 ⟨rfl,rfl⟩)) |(go_at_call 115;refine(ze _ _ (by first | exact h1 | exact h2)).mono ?_;rintro e w5 ⟨rfl,rfl⟩;first | rw [HU.out] | rw [HN.out]))
          go_ret;exact⟨by rw [HE.out,decide_eq_false (by simp)];rfl,b0⟩
        cases en
        case false=>
          go_wp2_with (first |(go_at_call 52;first |(refine(zg _ _ _ _ (by omega) (by omega)).mono ?_;rintro e w5 ⟨rfl,rfl⟩) |(refine(zk _ _ _ _ (by omega)).mono ?_;rintro e w5 ⟨rfl,rfl⟩)) |(go_at_call 115;refine(ze _ _ (by first | exact h1 | exact h2)).mono ?_;rintro e w5 ⟨rfl,rfl⟩;first | rw [HU.out] | rw [HN.out]))
          go_ret;exact⟨by rw [HE.out,decide_eq_false (by simp)];rfl,b0⟩
        by_cases hnext:next=0
        rotate_left
        · have hnext':(next==0)=false:=beq_eq_false_iff_ne.2 hnext
          go_wp2_with (first |(go_at_call 52;first |(refine(zg _ _ _ _ (by omega) (by omega)).mono ?_;rintro e w5 ⟨rfl,rfl⟩) |(refine(zk _ _ _ _ (by omega)).mono ?_;rintro e w5 ⟨rfl,rfl⟩)) |(go_at_call 115;refine(ze _ _ (by first | exact h1 | exact h2)).mono ?_;rintro e w5 ⟨rfl,rfl⟩;first | rw [HU.out] | rw [HN.out]))
          go_ret;exact⟨by rw [HE.out,decide_eq_false (by simp [hnext])];rfl,b0⟩
        subst hnext;by_cases huid:uid=0
        rotate_left
        · have huid':(uid==0)=false:=beq_eq_false_iff_ne.2 huid
          go_wp2_with (first |(go_at_call 52;first |(refine(zg _ _ _ _ (by omega) (by omega)).mono ?_;rintro e w5 ⟨rfl,rfl⟩) |(refine(zk _ _ _ _ (by omega)).mono ?_;rintro e w5 ⟨rfl,rfl⟩)) |(go_at_call 115;refine(ze _ _ (by first | exact h1 | exact h2)).mono ?_;rintro e w5 ⟨rfl,rfl⟩;first | rw [HU.out] | rw [HN.out]))
          go_ret;exact⟨by rw [HE.out,decide_eq_false (by simp [huid])];rfl,b0⟩
        subst huid;by_cases hflags:flags=0
        rotate_left
        · have hflags':(flags==0)=false:=beq_eq_false_iff_ne.2 hflags
          go_wp2_with (first |(go_at_call 52;first |(refine(zg _ _ _ _ (by omega) (by omega)).mono ?_;rintro e w5 ⟨rfl,rfl⟩) |(refine(zk _ _ _ _ (by omega)).mono ?_;rintro e w5 ⟨rfl,rfl⟩)) |(go_at_call 115;refine(ze _ _ (by first | exact h1 | exact h2)).mono ?_;rintro e w5 ⟨rfl,rfl⟩;first | rw [HU.out] | rw [HN.out]))
          go_ret;exact⟨by rw [HE.out,decide_eq_false (by simp [hflags])];rfl,b0⟩
        subst hflags;go_wp2_with (first |(go_at_call 52;first |(refine(zg _ _ _ _ (by omega) (by omega)).mono ?_;rintro e w5 ⟨rfl,rfl⟩) |(refine(zk _ _ _ _ (by omega)).mono ?_;rintro e w5 ⟨rfl,rfl⟩)) |(go_at_call 115;refine(ze _ _ (by first | exact h1 | exact h2)).mono ?_;rintro e w5 ⟨rfl,rfl⟩;first | rw [HU.out] | rw [HN.out]))
        go_ret;exact⟨by rw [HE.out];(cases et <;> simp [hv]),b0⟩
      · cases eu
        case false=>
          go_wp2_with (first |(go_at_call 52;first |(refine(zg _ _ _ _ (by omega) (by omega)).mono ?_;rintro e w5 ⟨rfl,rfl⟩) |(refine(zk _ _ _ _ (by omega)).mono ?_;rintro e w5 ⟨rfl,rfl⟩)) |(go_at_call 115;refine(ze _ _ (by first | exact h1 | exact h2)).mono ?_;rintro e w5 ⟨rfl,rfl⟩;first | rw [HU.out] | rw [HN.out]))
          go_ret;exact⟨by rw [HE.out,decide_eq_false (by simp)];rfl,b0⟩
        cases en
        case false=>
          go_wp2_with (first |(go_at_call 52;first |(refine(zg _ _ _ _ (by omega) (by omega)).mono ?_;rintro e w5 ⟨rfl,rfl⟩) |(refine(zk _ _ _ _ (by omega)).mono ?_;rintro e w5 ⟨rfl,rfl⟩)) |(go_at_call 115;refine(ze _ _ (by first | exact h1 | exact h2)).mono ?_;rintro e w5 ⟨rfl,rfl⟩;first | rw [HU.out] | rw [HN.out]))
          go_ret;exact⟨by rw [HE.out,decide_eq_false (by simp)];rfl,b0⟩
        by_cases hnext:next=0
        rotate_left
        · have hnext':(next==0)=false:=beq_eq_false_iff_ne.2 hnext
          go_wp2_with (first |(go_at_call 52;first |(refine(zg _ _ _ _ (by omega) (by omega)).mono ?_;rintro e w5 ⟨rfl,rfl⟩) |(refine(zk _ _ _ _ (by omega)).mono ?_;rintro e w5 ⟨rfl,rfl⟩)) |(go_at_call 115;refine(ze _ _ (by first | exact h1 | exact h2)).mono ?_;rintro e w5 ⟨rfl,rfl⟩;first | rw [HU.out] | rw [HN.out]))
          go_ret;exact⟨by rw [HE.out,decide_eq_false (by simp [hnext])];rfl,b0⟩
        subst hnext;by_cases huid:1≤uid∧uid≤9999
        rotate_left
        · go_wp2_with (first |(go_at_call 52;first |(refine(zg _ _ _ _ (by omega) (by omega)).mono ?_;rintro e w5 ⟨rfl,rfl⟩) |(refine(zk _ _ _ _ (by omega)).mono ?_;rintro e w5 ⟨rfl,rfl⟩)) |(go_at_call 115;refine(ze _ _ (by first | exact h1 | exact h2)).mono ?_;rintro e w5 ⟨rfl,rfl⟩;first | rw [HU.out] | rw [HN.out]))
          go_ret;exact⟨by rw [HE.out,decide_eq_false (by simp;omega)];rfl,b0⟩
        by_cases hflags:0≤flags∧flags≤7
        rotate_left
        · go_wp2_with (first |(go_at_call 52;first |(refine(zg _ _ _ _ (by omega) (by omega)).mono ?_;rintro e w5 ⟨rfl,rfl⟩) |(refine(zk _ _ _ _ (by omega)).mono ?_;rintro e w5 ⟨rfl,rfl⟩)) |(go_at_call 115;refine(ze _ _ (by first | exact h1 | exact h2)).mono ?_;rintro e w5 ⟨rfl,rfl⟩;first | rw [HU.out] | rw [HN.out]))
          go_ret;exact⟨by rw [HE.out,decide_eq_false (by simp;omega)];rfl,b0⟩
        go_wp2_with (first |(go_at_call 52;first |(refine(zg _ _ _ _ (by omega) (by omega)).mono ?_;rintro e w5 ⟨rfl,rfl⟩) |(refine(zk _ _ _ _ (by omega)).mono ?_;rintro e w5 ⟨rfl,rfl⟩)) |(go_at_call 115;refine(ze _ _ (by first | exact h1 | exact h2)).mono ?_;rintro e w5 ⟨rfl,rfl⟩;first | rw [HU.out] | rw [HN.out]))
        go_ret;exact⟨by rw [HE.out];(simp [hv,huid,hflags];omega),b0⟩
      · cases eu
        case false=>
          go_wp2_with (first |(go_at_call 52;first |(refine(zg _ _ _ _ (by omega) (by omega)).mono ?_;rintro e w5 ⟨rfl,rfl⟩) |(refine(zk _ _ _ _ (by omega)).mono ?_;rintro e w5 ⟨rfl,rfl⟩)) |(go_at_call 115;refine(ze _ _ (by first | exact h1 | exact h2)).mono ?_;rintro e w5 ⟨rfl,rfl⟩;first | rw [HU.out] | rw [HN.out]))
          go_ret;exact⟨by rw [HE.out,decide_eq_false (by simp)];rfl,b0⟩
        cases en
        case false=>
          go_wp2_with (first |(go_at_call 52;first |(refine(zg _ _ _ _ (by omega) (by omega)).mono ?_;rintro e w5 ⟨rfl,rfl⟩) |(refine(zk _ _ _ _ (by omega)).mono ?_;rintro e w5 ⟨rfl,rfl⟩)) |(go_at_call 115;refine(ze _ _ (by first | exact h1 | exact h2)).mono ?_;rintro e w5 ⟨rfl,rfl⟩;first | rw [HU.out] | rw [HN.out]))
          go_ret;exact⟨by rw [HE.out,decide_eq_false (by simp)];rfl,b0⟩
        by_cases hnext:next=0
        rotate_left
        · have hnext':(next==0)=false:=beq_eq_false_iff_ne.2 hnext
          go_wp2_with (first |(go_at_call 52;first |(refine(zg _ _ _ _ (by omega) (by omega)).mono ?_;rintro e w5 ⟨rfl,rfl⟩) |(refine(zk _ _ _ _ (by omega)).mono ?_;rintro e w5 ⟨rfl,rfl⟩)) |(go_at_call 115;refine(ze _ _ (by first | exact h1 | exact h2)).mono ?_;rintro e w5 ⟨rfl,rfl⟩;first | rw [HU.out] | rw [HN.out]))
          go_ret;exact⟨by rw [HE.out,decide_eq_false (by simp [hnext])];rfl,b0⟩
        subst hnext;by_cases huid:1≤uid∧uid≤9999
        rotate_left
        · go_wp2_with (first |(go_at_call 52;first |(refine(zg _ _ _ _ (by omega) (by omega)).mono ?_;rintro e w5 ⟨rfl,rfl⟩) |(refine(zk _ _ _ _ (by omega)).mono ?_;rintro e w5 ⟨rfl,rfl⟩)) |(go_at_call 115;refine(ze _ _ (by first | exact h1 | exact h2)).mono ?_;rintro e w5 ⟨rfl,rfl⟩;first | rw [HU.out] | rw [HN.out]))
          go_ret;exact⟨by rw [HE.out,decide_eq_false (by simp;omega)];rfl,b0⟩
        by_cases hflags:0≤flags∧flags≤7
        rotate_left
        · go_wp2_with (first |(go_at_call 52;first |(refine(zg _ _ _ _ (by omega) (by omega)).mono ?_;rintro e w5 ⟨rfl,rfl⟩) |(refine(zk _ _ _ _ (by omega)).mono ?_;rintro e w5 ⟨rfl,rfl⟩)) |(go_at_call 115;refine(ze _ _ (by first | exact h1 | exact h2)).mono ?_;rintro e w5 ⟨rfl,rfl⟩;first | rw [HU.out] | rw [HN.out]))
          go_ret;exact⟨by rw [HE.out,decide_eq_false (by simp;omega)];rfl,b0⟩
        go_wp2_with (first |(go_at_call 52;first |(refine(zg _ _ _ _ (by omega) (by omega)).mono ?_;rintro e w5 ⟨rfl,rfl⟩) |(refine(zk _ _ _ _ (by omega)).mono ?_;rintro e w5 ⟨rfl,rfl⟩)) |(go_at_call 115;refine(ze _ _ (by first | exact h1 | exact h2)).mono ?_;rintro e w5 ⟨rfl,rfl⟩;first | rw [HU.out] | rw [HN.out]))
        go_ret;exact⟨by rw [HE.out];(cases et <;> simp [hv,huid,hflags]),b0⟩
      · cases eu
        case false=>
          go_wp2_with (first |(go_at_call 52;first |(refine(zg _ _ _ _ (by omega) (by omega)).mono ?_;rintro e w5 ⟨rfl,rfl⟩) |(refine(zk _ _ _ _ (by omega)).mono ?_;rintro e w5 ⟨rfl,rfl⟩)) |(go_at_call 115;refine(ze _ _ (by first | exact h1 | exact h2)).mono ?_;rintro e w5 ⟨rfl,rfl⟩;first | rw [HU.out] | rw [HN.out]))
          go_ret;exact⟨by rw [HE.out,decide_eq_false (by simp)];rfl,b0⟩
        cases en
        case false=>
          go_wp2_with (first |(go_at_call 52;first |(refine(zg _ _ _ _ (by omega) (by omega)).mono ?_;rintro e w5 ⟨rfl,rfl⟩) |(refine(zk _ _ _ _ (by omega)).mono ?_;rintro e w5 ⟨rfl,rfl⟩)) |(go_at_call 115;refine(ze _ _ (by first | exact h1 | exact h2)).mono ?_;rintro e w5 ⟨rfl,rfl⟩;first | rw [HU.out] | rw [HN.out]))
          go_ret;exact⟨by rw [HE.out,decide_eq_false (by simp)];rfl,b0⟩
        by_cases hnext:next=0
        rotate_left
        · have hnext':(next==0)=false:=beq_eq_false_iff_ne.2 hnext
          go_wp2_with (first |(go_at_call 52;first |(refine(zg _ _ _ _ (by omega) (by omega)).mono ?_;rintro e w5 ⟨rfl,rfl⟩) |(refine(zk _ _ _ _ (by omega)).mono ?_;rintro e w5 ⟨rfl,rfl⟩)) |(go_at_call 115;refine(ze _ _ (by first | exact h1 | exact h2)).mono ?_;rintro e w5 ⟨rfl,rfl⟩;first | rw [HU.out] | rw [HN.out]))
          go_ret;exact⟨by rw [HE.out,decide_eq_false (by simp [hnext])];rfl,b0⟩
        subst hnext;by_cases huid:1≤uid∧uid≤9999
        rotate_left
        · go_wp2_with (first |(go_at_call 52;first |(refine(zg _ _ _ _ (by omega) (by omega)).mono ?_;rintro e w5 ⟨rfl,rfl⟩) |(refine(zk _ _ _ _ (by omega)).mono ?_;rintro e w5 ⟨rfl,rfl⟩)) |(go_at_call 115;refine(ze _ _ (by first | exact h1 | exact h2)).mono ?_;rintro e w5 ⟨rfl,rfl⟩;first | rw [HU.out] | rw [HN.out]))
          go_ret;exact⟨by rw [HE.out,decide_eq_false (by simp;omega)];rfl,b0⟩
        by_cases hflags:flags=0
        rotate_left
        · have hflags':(flags==0)=false:=beq_eq_false_iff_ne.2 hflags
          go_wp2_with (first |(go_at_call 52;first |(refine(zg _ _ _ _ (by omega) (by omega)).mono ?_;rintro e w5 ⟨rfl,rfl⟩) |(refine(zk _ _ _ _ (by omega)).mono ?_;rintro e w5 ⟨rfl,rfl⟩)) |(go_at_call 115;refine(ze _ _ (by first | exact h1 | exact h2)).mono ?_;rintro e w5 ⟨rfl,rfl⟩;first | rw [HU.out] | rw [HN.out]))
          go_ret;exact⟨by rw [HE.out,decide_eq_false (by simp [hflags])];rfl,b0⟩
        subst hflags;go_wp2_with (first |(go_at_call 52;first |(refine(zg _ _ _ _ (by omega) (by omega)).mono ?_;rintro e w5 ⟨rfl,rfl⟩) |(refine(zk _ _ _ _ (by omega)).mono ?_;rintro e w5 ⟨rfl,rfl⟩)) |(go_at_call 115;refine(ze _ _ (by first | exact h1 | exact h2)).mono ?_;rintro e w5 ⟨rfl,rfl⟩;first | rw [HU.out] | rw [HN.out]))
        go_ret;exact⟨by rw [HE.out];(cases et <;> simp [hv,huid]),b0⟩
    · go_wp2_with (go_at_call 52;first |(refine(zg _ _ _ _ (by omega) (by omega)).mono ?_;rintro e w5 ⟨rfl,rfl⟩) |(refine(zk _ _ _ _ (by omega)).mono ?_;rintro e w5 ⟨rfl,rfl⟩))
      go_ret;exact⟨by rw [HE.out,decide_eq_false (fun h=>hv h.2.1)];rfl,b0⟩
  · go_wp2_with (go_at_call 52;refine(zk _ _ _ _ (by omega)).mono ?_;rintro e w5 ⟨rfl,rfl⟩)
    go_ret;exact⟨by rw [HE.out,decide_eq_false (fun h=>hk h.1)];rfl,b0⟩

/- Records: what the model's RecText hands back. -/
def rtT (r:Rc):Value:=if r.ok then .tuple #[.string r.tx,.bool true] else .tuple #[.string ⟨#[]⟩,.bool false]
theorem jt{r:Rc}(h:r.ok):rtT r=.tuple #[.string r.tx,.bool true]:=if_pos h
theorem Vo{r:Rc}(h:¬r.ok):rtT r=.tuple #[.string ⟨#[]⟩,.bool false]:=if_neg h
def shB (s:ByteArray):ByteArray:=vtB s.size++s
theorem zo(n:Int)(w:World)(h0:0≤n)(hn:n≤1000000000):
    Calls Tryz.prog 108 #[.int .i64 n] w fun e w'=>e=.returned (.string (vtB n.toNat))∧Below w.heap.size w w':=by
  have:=yR n.toNat w (by omega);rw [Int.toNat_of_nonneg h0] at this;exact this
theorem zh(s:ByteArray)(w:World)(hs:s.size≤1000000):
    Calls Tryz.prog 129 #[.string s] w fun e w'=>e=.returned (.string (shB s))∧Below w.heap.size w w':=by
  have hv:(vtB s.size).size≤s.size+1:=by rw [yc];exact xB _
  have hadd:=fun wx=>run_string_add_sum (P:=Tryz.prog) (w:=wx) (vtB s.size) s (by omega);obtain⟨V,hV⟩:∃ V,vtB s.size=V:=⟨_,rfl⟩;rw [hV] at hadd;have HV:=hid hV;clear hV;go_enter Tryz.func129,Tryz.ntmps129
  go_wp2_with (go_at_call 108;refine(zo _ _ (by omega) (by omega)).mono ?_;rintro e w1 ⟨rfl,k1⟩;rw [Int.toNat_natCast,HV.out])
  go_ret;exact⟨by unfold shB;rw [HV.out];rfl,k1⟩
theorem zcU(r:Rc):r.tx=(⟨#[UInt8.ofNat r.kind.toNat]⟩:ByteArray) ++vtB r.valid.toNat++vtB r.uid.toNat++vtB r.next.toNat++vtB r.flags.toNat++shB r.user++shB r.name++shB r.text:=by
  obtain⟨x,hx⟩:∃ x,(⟨#[UInt8.ofNat r.kind.toNat]⟩:ByteArray) ++vtB r.valid.toNat++vtB r.uid.toNat++vtB r.next.toNat++vtB r.flags.toNat++shB r.user++shB r.name++shB r.text=x:=⟨_,rfl⟩;have:x.data.toList=r.tl:=by
    rw [←hx];simp only [shB,ByteArray.data_append,Array.toList_append,Vm,Rc.tl,List.append_assoc];rfl
  rw [hx];obtain⟨⟨y⟩⟩:=x;simp only at this;rw [this];rfl
theorem zT{n:Nat}(h:n≤1000000000):(vtB n).size≤5:=by rw [yc];exact Yz h
theorem zb(x:World)(o:Obj):Below x.heap.size x (x.alloc o):=(Below.refl _ _).alloc (Nat.le_refl _) _
theorem qk(k:Int)(h1:1≤k)(h2:k≤5):k=((UInt8.ofNat k.toNat).toNat:Int):=by
  have:(UInt8.ofNat k.toNat).toNat=k.toNat % 256:=UInt8.toNat_ofNat';rw [this];omega
theorem qg(k:Int)(h1:1≤k)(h2:k≤5):IntKind.u8.wrap k=k:=by
  have:k=1∨k=2∨k=3∨k=4∨k=5:=by omega
  rcases this with rfl | rfl | rfl | rfl | rfl <;> decide
theorem zr{W x y:World}(h:Below W.heap.size W x)(hb:Below x.heap.size x y):Below W.heap.size W y:=h.trans (hb.mono h.size)
theorem zK{P:Program}{md:Region.Mode}{ops:Array Oper}{Q:Exit→Act→World→Prop}{S S':World→Prop}(h:∀ w,S' w→S w):
    ∀ {fuel:Nat} {listed:Array Bool} {a:Act} {w:World},wpAnyH P md ops Q S' fuel listed a w→wpAnyH P md ops Q S fuel listed a w
  | 0,_,_,_,H=>H
  | _+1,_,_,_,H=>⟨H.1,fun i hi=>wpOp_mono (fun _ _ h'=>⟨h _ h'.1,zK h h'.2⟩) (H.2 i hi)⟩
theorem zcF{P:Program}{md:Region.Mode}{l:List Oper}{Q:Exit→Act→World→Prop}{S:World→Prop}{i:Nat}{oi:Oper}{v:Value}{fuel:Nat}{listed:Array Bool}{a:Act}{w:World}(hi:l[i]? =some oi)
    (hs:Region.noSelect l.toArray=true) (hf:Region.free md l.toArray listed i=true) (hr:(Region.ready md l.toArray listed).contains i=true)
    (hQ:∀ c a w,Q (.panic c) (a.put oi.dst v) w→Q (.panic c) a w) (hy:YieldsIf P l.toArray S oi v a) (hS:S w)
    (h:wpAnyH P md l.toArray Q S fuel (listed.setIfInBounds i true) (a.put oi.dst v) w):wpAnyH P md l.toArray Q S (fuel+1) listed a w:=
  wpAnyH_take (by rw [List.getElem?_toArray];exact hi) hs hf hr hQ hy hS h
theorem pu1(a:Act)(d:Option Tmp)(v:Value):a.put d v=match d with | some d=> {a with tmps:=a.tmps.setIfInBounds d v} | none=>a:=by cases d <;> rfl
theorem pu3{α:Type _}(l:List α)(i:Nat)(x:α):l.toArray.setIfInBounds i x=(l.set i x).toArray:=List.setIfInBounds_toArray ..
theorem pu4{α:Type _}{x:α}{xs:List α}{a:α}:(x::xs).set 0 a=a::xs:=List.set_cons_zero
theorem pu5{α:Type _}{x:α}{xs:List α}{n:Nat}{a:α}:(x::xs).set (n+1) a=x::xs.set n a:=List.set_cons_succ
theorem tk{P:Program}{md:Region.Mode}{l:List Oper}{Q:Exit→Act→World→Prop}{S:World→Prop}{oi:Oper}{fuel:Nat}{listed:Array Bool}{a:Act}{w:World}(i:Nat)(v:Value){a':Act}{li:Array Bool}(h:wpAnyH P md l.toArray Q S fuel li a' w)(hi:l[i]? =some oi:=by exact rfl)(hc:(Region.noSelect l.toArray &&(Region.free md l.toArray listed i &&(Region.ready md l.toArray listed).contains i))=true:=by kernel_rfl)
    (hw:Region.wanted oi (yielded l.toArray a.tmps)=true:=by rfl) (hr:∀ w,S w→(execOp a.eval oi).run P w=.ok (.value v) w:=by intro x hSx;go_simp) (hQ:∀ c a w,Q (.panic c) (a.put oi.dst v) w→Q (.panic c) a w:=by exact fun _ _ _ h=>h) (hS:S w:=by assumption)
    (hl:listed.setIfInBounds i true=li:=by((try simp only [pu1,pu3,pu4,pu5]);first | done | rfl)) (ha:a.put oi.dst v=a':=by((try simp only [pu1,pu3,pu4,pu5]);first | done | rfl)):wpAnyH P md l.toArray Q S (fuel+1) listed a w:=by
  subst hl ha;rw [Bool.and_eq_true,Bool.and_eq_true] at hc;exact zcF hi hc.1 hc.2.1 hc.2.2 hQ (.inl ⟨hw,hr⟩) hS h
theorem tu{P:Program}{md:Region.Mode}{l:List Oper}{Q:Exit→Act→World→Prop}{S:World→Prop}{oi:Oper}{fuel:Nat}{listed:Array Bool}{a:Act}{w:World}(i:Nat){a':Act}{li:Array Bool}(h:wpAnyH P md l.toArray Q S fuel li a' w)(hi:l[i]? =some oi:=by exact rfl)(hc:(Region.noSelect l.toArray &&(Region.free md l.toArray listed i &&(Region.ready md l.toArray listed).contains i))=true:=by kernel_rfl)
    (hw:Region.wanted oi (yielded l.toArray a.tmps)=false:=by rfl) (hQ:∀ c a w,Q (.panic c) (a.put oi.dst undef) w→Q (.panic c) a w:=by exact fun _ _ _ h=>h) (hS:S w:=by assumption)
    (hl:listed.setIfInBounds i true=li:=by((try simp only [pu1,pu3,pu4,pu5]);first | done | rfl)) (ha:a.put oi.dst undef=a':=by((try simp only [pu1,pu3,pu4,pu5]);first | done | rfl)):wpAnyH P md l.toArray Q S (fuel+1) listed a w:=by
  subst hl ha;rw [Bool.and_eq_true,Bool.and_eq_true] at hc;exact zcF hi hc.1 hc.2.1 hc.2.2 hQ (.inr ⟨hw,rfl⟩) hS h
theorem Qt{P:Program}{md:Region.Mode}{l:List Oper}{Q:Exit→Act→World→Prop}{S:World→Prop}{i:Nat}{o:Oper}{fuel:Nat}{listed:Array Bool}{a:Act}{w:World}(hi:l[i]? =some o)
    (h:∀ K':Act→World→Prop,Shut (∀ a w,S w→(S w→wpAnyH P md l.toArray Q S fuel (listed.setIfInBounds i true) a w)→K' a w)→if Region.wanted o (yielded l.toArray a.tmps)=true then Oper.wp P o a w K' Q else K' (a.put o.dst undef) w):
    AllReadyH P md l.toArray Q S fuel listed a w [i]:=
  AllReadyH.cons (by rw [List.getElem?_toArray];exact hi) h AllReadyH.nil
theorem ro{P:Program}{md:Region.Mode}{l:List Oper}{Q:Exit→Act→World→Prop}{S:World→Prop}{oi:Oper}{fuel:Nat}{listed:Array Bool}{a:Act}{w:World}(i:Nat)(h:∀ K':Act→World→Prop,Shut (∀ a w,S w→(S w→wpAnyH P md l.toArray Q S fuel (listed.setIfInBounds i true) a w)→K' a w)→if Region.wanted oi (yielded l.toArray a.tmps)=true then Oper.wp P oi a w K' Q else K' (a.put oi.dst undef) w)
    (hi:l[i]? =some oi:=by exact rfl) (hr:Region.ready md l.toArray listed= [i]:=by kernel_rfl):wpAnyH P md l.toArray Q S (fuel+1) listed a w:=wpAnyH_ready hr (by simp) (Qt hi h)
theorem zD{P:Program}{md:Region.Mode}{l:List Oper}{Q:Exit→Act→World→Prop}{S:World→Prop}{i j:Nat}{o o':Oper}{fuel:Nat}{listed:Array Bool}{a:Act}{w:World}(hi:l[i]? =some o)(hj:l[j]? =some o')
    (h:∀ K':Act→World→Prop,Shut (∀ a w,S w→(S w→wpAnyH P md l.toArray Q S fuel (listed.setIfInBounds i true) a w)→K' a w)→if Region.wanted o (yielded l.toArray a.tmps)=true then Oper.wp P o a w K' Q else K' (a.put o.dst undef) w)
    (h':∀ K':Act→World→Prop,Shut (∀ a w,S w→(S w→wpAnyH P md l.toArray Q S fuel (listed.setIfInBounds j true) a w)→K' a w)→if Region.wanted o' (yielded l.toArray a.tmps)=true then Oper.wp P o' a w K' Q else K' (a.put o'.dst undef) w):
    AllReadyH P md l.toArray Q S fuel listed a w [i,j]:=
  AllReadyH.cons (by rw [List.getElem?_toArray];exact hi) h (Qt hj h')
theorem XK(x:World)(o:Obj):Below x.heap.size x (x.alloc o).drew:=((Below.refl _ _).alloc (Nat.le_refl _) _).drew
theorem zV{W x y:World}{p:Addr}{v:Value}(h:Below W.heap.size W x∧x.cell? p=some v)(hb:Below x.heap.size x y):Below W.heap.size W y∧y.cell? p=some v:=
  ⟨h.1.trans (hb.mono h.1.size),(hb.cell (World.block_lt_of_cell? _ _ h.2)).trans h.2⟩
theorem Yb(r:Rc)(w:World)(h1:r.user.size≤1099511627776)(h2:r.name.size≤1099511627776)(h3:r.text.size≤1099511627776):
    Calls Tryz.prog 105 #[r.v] w fun e w'=>e=.returned (rtT r)∧Below w.heap.size w w':=by
  have b0:Below w.heap.size w (w.alloc (.cells r.cs 33)):=(Below.refl _ _).alloc (Nat.le_refl _) _;have hx:=Box.new w r.cs 33;obtain⟨c0,c1,c2,c3,c4,c5,c6,c7⟩:=hx.rec;by_cases hok:r.ok
  · have HRT:=hid (jt hok)
    have htx:=zcU r;obtain⟨g1,g2,g3,g4,g5,g6,g7,g8⟩:=r.ok_small hok;have HOK:=hid (decide_eq_true hok);obtain⟨kind,valid,uid,next,flags,user,name,text⟩:=r;unfold Rc.v;unfold Rc.cs at c0 c1 c2 c3 c4 c5 c6 c7 b0 hx;simp only at c0 c1 c2 c3 c4 c5 c6 c7 b0 hx g1 g2 g3 g4 g5 g6 g7 g8 htx h1 h2 h3 ⊢;have hRO:=fun wx=>yw ⟨kind,valid,uid,next,flags,user,name,text⟩ wx h1 h2 h3;unfold Rc.v at hRO;simp only at hRO;have HRO:=hid hRO;clear hRO;have s1:=zT (n:=valid.toNat) (by omega);have s2:=zT (n:=uid.toNat) (by omega);have s3:=zT (n:=next.toNat) (by omega);have s4:=zT (n:=flags.toNat) (by omega);have s5:(shB user).size≤1000:=by have:=zT (n:=user.size) (by omega);unfold shB;rw [ByteArray.size_append];omega
    have s6:(shB name).size≤1000:=by have:=zT (n:=name.size) (by omega);unfold shB;rw [ByteArray.size_append];omega
    have s7:(shB text).size≤1000:=by have:=zT (n:=text.size) (by omega);unfold shB;rw [ByteArray.size_append];omega
    have hkb:=qk kind g1.1 g1.2;have hcv:∀(x:World) (g:Nat),x.cell? ⟨g,0,none⟩=some (.int .u8 kind)→(convert 22 9 (.slice (some ⟨g,0,none⟩) 1 1)).run Tryz.prog x=.ok (.string ⟨#[UInt8.ofNat kind.toNat]⟩) x:=by
      intro x g hx;refine run_convert_bytes_back (P:=Tryz.prog) _ 22 9 5 ⟨g,0,none⟩ 1 [UInt8.ofNat kind.toNat] Tryz.underlying22 Tryz.underlying5 Tryz.underlying9 fun j hj=>?_;have hj0:j=0:=(by simpa using hj);subst hj0;show x.cell? ⟨g,0,none⟩=some (.int .u8 ((UInt8.ofNat kind.toNat).toNat:Int))
      rw [hx,←hkb]
    have hwr:=qg kind g1.1 g1.2;obtain⟨A0,hA0⟩:∃ A:ByteArray,(⟨#[UInt8.ofNat kind.toNat]⟩:ByteArray)=A:=⟨_,rfl⟩;have z0:A0.size=1:=by rw [←hA0];rfl
    rw [hA0] at hcv htx;obtain⟨A1,hA1⟩:∃ A:ByteArray,A0++vtB valid.toNat=A:=⟨_,rfl⟩;have z1:A1.size≤100:=by rw [←hA1,ByteArray.size_append];omega
    have ad1:=fun wx=>run_string_add_sum (P:=Tryz.prog) (w:=wx) A0 (vtB valid.toNat) (by omega);rw [hA1] at ad1 htx;obtain⟨A2,hA2⟩:∃ A:ByteArray,A1++vtB uid.toNat=A:=⟨_,rfl⟩;have z2:A2.size≤200:=by rw [←hA2,ByteArray.size_append];omega
    have ad2:=fun wx=>run_string_add_sum (P:=Tryz.prog) (w:=wx) A1 (vtB uid.toNat) (by omega);rw [hA2] at ad2 htx;obtain⟨A3,hA3⟩:∃ A:ByteArray,A2++vtB next.toNat=A:=⟨_,rfl⟩;have z3:A3.size≤300:=by rw [←hA3,ByteArray.size_append];omega
    have ad3:=fun wx=>run_string_add_sum (P:=Tryz.prog) (w:=wx) A2 (vtB next.toNat) (by omega);rw [hA3] at ad3 htx;obtain⟨A4,hA4⟩:∃ A:ByteArray,A3++vtB flags.toNat=A:=⟨_,rfl⟩;have z4:A4.size≤400:=by rw [←hA4,ByteArray.size_append];omega
    have ad4:=fun wx=>run_string_add_sum (P:=Tryz.prog) (w:=wx) A3 (vtB flags.toNat) (by omega);rw [hA4] at ad4 htx;obtain⟨A5,hA5⟩:∃ A:ByteArray,A4++shB user=A:=⟨_,rfl⟩;have z5:A5.size≤1400:=by rw [←hA5,ByteArray.size_append];omega
    have ad5:=fun wx=>run_string_add_sum (P:=Tryz.prog) (w:=wx) A4 (shB user) (by omega);rw [hA5] at ad5 htx;obtain⟨A6,hA6⟩:∃ A:ByteArray,A5++shB name=A:=⟨_,rfl⟩;have z6:A6.size≤2400:=by rw [←hA6,ByteArray.size_append];omega
    have ad6:=fun wx=>run_string_add_sum (P:=Tryz.prog) (w:=wx) A5 (shB name) (by omega);rw [hA6] at ad6 htx;obtain⟨A7,hA7⟩:∃ A:ByteArray,A6++shB text=A:=⟨_,rfl⟩;have ad7:=fun wx=>run_string_add_sum (P:=Tryz.prog) (w:=wx) A6 (shB text) (by omega);rw [hA7] at ad7 htx;clear hA0 hA1 hA2 hA3 hA4 hA5 hA6 hA7 z0 z1 z2 z3 z4 z5 z6 s1 s2 s3 s4 s5 s6 s7 hkb;have HCV:=hid hcv;clear hcv;go_enter Tryz.func105,Tryz.ntmps105
    go_upto_region 3 with(go_at_call 83;refine(HRO.out _).mono ?_;rintro e w2 ⟨rfl,k2⟩;rw [HOK.out])
    generalize w.alloc (.cells #[.int .i64 kind,.int .i64 valid,.int .i64 uid,.int .i64 next,.int .i64 flags,.string user,.string name,.string text] 33)=W at hx b0 k2;have b2:=hid (b0.trans (k2.mono b0.size));have x2:=hx.later k2;have r0:∀ x,Below w2.heap.size w2 x→x.cell? ⟨w.heap.size,0,none⟩=some (.int .i64 kind):=fun x hb=>(x2.later hb).cell 0 _ rfl;have r1:∀ x,Below w2.heap.size w2 x→x.cell? ⟨w.heap.size,1,none⟩=some (.int .i64 valid):=fun x hb=>(x2.later hb).cell 1 _ rfl;have r2:∀ x,Below w2.heap.size w2 x→x.cell? ⟨w.heap.size,2,none⟩=some (.int .i64 uid):=fun x hb=>(x2.later hb).cell 2 _ rfl;have r3:∀ x,Below w2.heap.size w2 x→x.cell? ⟨w.heap.size,3,none⟩=some (.int .i64 next):=fun x hb=>(x2.later hb).cell 3 _ rfl;have r4:∀ x,Below w2.heap.size w2 x→x.cell? ⟨w.heap.size,4,none⟩=some (.int .i64 flags):=fun x hb=>(x2.later hb).cell 4 _ rfl;have r5:∀ x,Below w2.heap.size w2 x→x.cell? ⟨w.heap.size,5,none⟩=some (.string user):=fun x hb=>(x2.later hb).cell 5 _ rfl;have r6:∀ x,Below w2.heap.size w2 x→x.cell? ⟨w.heap.size,6,none⟩=some (.string name):=fun x hb=>(x2.later hb).cell 6 _ rfl;have r7:∀ x,Below w2.heap.size w2 x→x.cell? ⟨w.heap.size,7,none⟩=some (.string text):=fun x hb=>(x2.later hb).cell 7 _ rfl;have HK0:Hid (Below w2.heap.size w2 w2.drew):=(Below.refl _ _).drew;have HTX:=hid htx;clear htx c0 c1 c2 c3 c4 c5 c6 c7 hx x2 b0 k2 HRO HOK;refine wp_region_held_drew (S:=fun x=>Below w2.heap.size w2 x) (by kernel_rfl) HK0.out (fun hHeld=>?_);refine tk 0 (.pointer (some ⟨w.heap.size,0,none⟩)) ?_;refine tk 1 (.int .i64 kind) ?_ (hr:=fun x hSx=>by have rr:=r0 x hSx;go_simp);refine tk 2 (.int .u8 kind) ?_;refine tk 5 (.pointer (some ⟨w.heap.size,1,none⟩)) ?_;refine tk 6 (.int .i64 valid) ?_ (hr:=fun x hSx=>by have rr:=r1 x hSx;go_simp);refine tk 9 (.pointer (some ⟨w.heap.size,2,none⟩)) ?_;refine tk 10 (.int .i64 uid) ?_ (hr:=fun x hSx=>by have rr:=r2 x hSx;go_simp);refine tk 13 (.pointer (some ⟨w.heap.size,3,none⟩)) ?_;refine tk 14 (.int .i64 next) ?_ (hr:=fun x hSx=>by have rr:=r3 x hSx;go_simp);refine tk 17 (.pointer (some ⟨w.heap.size,4,none⟩)) ?_;refine tk 18 (.int .i64 flags) ?_ (hr:=fun x hSx=>by have rr:=r4 x hSx;go_simp);refine tk 21 (.pointer (some ⟨w.heap.size,5,none⟩)) ?_;refine tk 22 (.string user) ?_ (hr:=fun x hSx=>by have rr:=r5 x hSx;go_simp);refine tk 25 (.pointer (some ⟨w.heap.size,6,none⟩)) ?_;refine tk 26 (.string name) ?_ (hr:=fun x hSx=>by have rr:=r6 x hSx;go_simp);refine tk 29 (.pointer (some ⟨w.heap.size,7,none⟩)) ?_;refine tk 30 (.string text) ?_ (hr:=fun x hSx=>by have rr:=r7 x hSx;go_simp);refine wpAnyH_ready (rs:= [3,7]) (by kernel_rfl) (by simp) ?_;refine zD rfl rfl (fun K hK=>?_) (fun K hK=>?_)
    · go_simp
      refine hK.out _ _ (XK _ _) (fun hHeld=>?_);clear hK K;(try simp only [pu1,pu3,pu4,pu5]);refine zK (S':=fun x=>Below w2.heap.size w2 x∧x.cell? ⟨w2.heap.size,0,none⟩=some (.int .u8 kind)) (fun _ h=>h.1) ?_;have hS2:(fun x=>Below w2.heap.size w2 x∧x.cell? ⟨w2.heap.size,0,none⟩=some (.int .u8 kind)) ((w2.alloc (.cells #[.int .u8 kind] 5)).drew):=⟨hHeld,by simp⟩;clear hHeld;refine tk 4 (.string A0) ?_ (hr:=fun x hSx=>by have hc:=HCV.out x _ hSx.2;go_simp);refine ro 7 (fun K hK=>?_);go_simp;go_at_call 108;refine(zo _ _ (by omega) (by omega)).mono ?_;rintro e wT ⟨rfl,kT⟩
      go_wp2_with fail
      refine hK.out _ _ (zV hS2 kT) (fun hHeld=>?_);clear hK K;(try simp only [pu1,pu3,pu4,pu5]);have hS2:=hHeld;clear hHeld;refine tk 8 (.string A1) ?_;refine ro 11 (fun K hK=>?_);go_simp;go_at_call 108;refine(zo _ _ (by omega) (by omega)).mono ?_;rintro e wT ⟨rfl,kT⟩
      go_wp2_with fail
      refine hK.out _ _ (zV hS2 kT) (fun hHeld=>?_);clear hK K;(try simp only [pu1,pu3,pu4,pu5]);have hS2:=hHeld;clear hHeld;refine tk 12 (.string A2) ?_;refine ro 15 (fun K hK=>?_);go_simp;go_at_call 108;refine(zo _ _ (by omega) (by omega)).mono ?_;rintro e wT ⟨rfl,kT⟩
      go_wp2_with fail
      refine hK.out _ _ (zV hS2 kT) (fun hHeld=>?_);clear hK K;(try simp only [pu1,pu3,pu4,pu5]);have hS2:=hHeld;clear hHeld;refine tk 16 (.string A3) ?_;refine ro 19 (fun K hK=>?_);go_simp;go_at_call 108;refine(zo _ _ (by omega) (by omega)).mono ?_;rintro e wT ⟨rfl,kT⟩
      go_wp2_with fail
      refine hK.out _ _ (zV hS2 kT) (fun hHeld=>?_);clear hK K;(try simp only [pu1,pu3,pu4,pu5]);have hS2:=hHeld;clear hHeld;refine tk 20 (.string A4) ?_;refine ro 23 (fun K hK=>?_);go_simp;go_at_call 129;refine(zh _ _ (by omega)).mono ?_;rintro e wT ⟨rfl,kT⟩
      go_wp2_with fail
      refine hK.out _ _ (zV hS2 kT) (fun hHeld=>?_);clear hK K;(try simp only [pu1,pu3,pu4,pu5]);have hS2:=hHeld;clear hHeld;refine tk 24 (.string A5) ?_;refine ro 27 (fun K hK=>?_);go_simp;go_at_call 129;refine(zh _ _ (by omega)).mono ?_;rintro e wT ⟨rfl,kT⟩
      go_wp2_with fail
      refine hK.out _ _ (zV hS2 kT) (fun hHeld=>?_);clear hK K;(try simp only [pu1,pu3,pu4,pu5]);have hS2:=hHeld;clear hHeld;refine tk 28 (.string A6) ?_;refine ro 31 (fun K hK=>?_);go_simp;go_at_call 129;refine(zh _ _ (by omega)).mono ?_;rintro e wT ⟨rfl,kT⟩
      go_wp2_with fail
      refine hK.out _ _ (zV hS2 kT) (fun hHeld=>?_);clear hK K;(try simp only [pu1,pu3,pu4,pu5]);have hS2:=hHeld;clear hHeld;refine tk 32 (.string A7) ?_;refine tk 33 (.string A7) ?_;refine tk 34 (.bool true) ?_;refine wpAnyH_done (by kernel_rfl) ?_ _;have BH:=hid hS2.1;clear hS2;go_wp2;go_ret2
      exact⟨by rw [HRT.out,HTX.out];rfl,b2.out.trans (BH.out.mono b2.out.size)⟩
    go_simp;go_at_call 108;refine(zo _ _ (by omega) (by omega)).mono ?_;rintro e wT ⟨rfl,kT⟩
    go_wp2_with fail
    refine hK.out _ _ (zr hHeld kT) (fun hHeld=>?_);clear hK K;(try simp only [pu1,pu3,pu4,pu5]);refine wpAnyH_ready (rs:= [3,11]) (by kernel_rfl) (by simp) ?_;refine zD rfl rfl (fun K hK=>?_) (fun K hK=>?_)
    · go_simp
      refine hK.out _ _ (zr hHeld (zb _ _)) (fun hHeld=>?_);clear hK K;(try simp only [pu1,pu3,pu4,pu5]);refine zK (S':=fun x=>Below w2.heap.size w2 x∧x.cell? ⟨wT.heap.size,0,none⟩=some (.int .u8 kind)) (fun _ h=>h.1) ?_;have hS2:(fun x=>Below w2.heap.size w2 x∧x.cell? ⟨wT.heap.size,0,none⟩=some (.int .u8 kind)) (wT.alloc (.cells #[.int .u8 kind] 5)):=⟨hHeld,by simp⟩;clear hHeld;refine tk 4 (.string A0) ?_ (hr:=fun x hSx=>by have hc:=HCV.out x _ hSx.2;go_simp);refine tk 8 (.string A1) ?_;refine ro 11 (fun K hK=>?_);go_simp;go_at_call 108;refine(zo _ _ (by omega) (by omega)).mono ?_;rintro e wT ⟨rfl,kT⟩
      go_wp2_with fail
      refine hK.out _ _ (zV hS2 kT) (fun hHeld=>?_);clear hK K;(try simp only [pu1,pu3,pu4,pu5]);have hS2:=hHeld;clear hHeld;refine tk 12 (.string A2) ?_;refine ro 15 (fun K hK=>?_);go_simp;go_at_call 108;refine(zo _ _ (by omega) (by omega)).mono ?_;rintro e wT ⟨rfl,kT⟩
      go_wp2_with fail
      refine hK.out _ _ (zV hS2 kT) (fun hHeld=>?_);clear hK K;(try simp only [pu1,pu3,pu4,pu5]);have hS2:=hHeld;clear hHeld;refine tk 16 (.string A3) ?_;refine ro 19 (fun K hK=>?_);go_simp;go_at_call 108;refine(zo _ _ (by omega) (by omega)).mono ?_;rintro e wT ⟨rfl,kT⟩
      go_wp2_with fail
      refine hK.out _ _ (zV hS2 kT) (fun hHeld=>?_);clear hK K;(try simp only [pu1,pu3,pu4,pu5]);have hS2:=hHeld;clear hHeld;refine tk 20 (.string A4) ?_;refine ro 23 (fun K hK=>?_);go_simp;go_at_call 129;refine(zh _ _ (by omega)).mono ?_;rintro e wT ⟨rfl,kT⟩
      go_wp2_with fail
      refine hK.out _ _ (zV hS2 kT) (fun hHeld=>?_);clear hK K;(try simp only [pu1,pu3,pu4,pu5]);have hS2:=hHeld;clear hHeld;refine tk 24 (.string A5) ?_;refine ro 27 (fun K hK=>?_);go_simp;go_at_call 129;refine(zh _ _ (by omega)).mono ?_;rintro e wT ⟨rfl,kT⟩
      go_wp2_with fail
      refine hK.out _ _ (zV hS2 kT) (fun hHeld=>?_);clear hK K;(try simp only [pu1,pu3,pu4,pu5]);have hS2:=hHeld;clear hHeld;refine tk 28 (.string A6) ?_;refine ro 31 (fun K hK=>?_);go_simp;go_at_call 129;refine(zh _ _ (by omega)).mono ?_;rintro e wT ⟨rfl,kT⟩
      go_wp2_with fail
      refine hK.out _ _ (zV hS2 kT) (fun hHeld=>?_);clear hK K;(try simp only [pu1,pu3,pu4,pu5]);have hS2:=hHeld;clear hHeld;refine tk 32 (.string A7) ?_;refine tk 33 (.string A7) ?_;refine tk 34 (.bool true) ?_;refine wpAnyH_done (by kernel_rfl) ?_ _;have BH:=hid hS2.1;clear hS2;go_wp2;go_ret2
      exact⟨by rw [HRT.out,HTX.out];rfl,b2.out.trans (BH.out.mono b2.out.size)⟩
    go_simp;go_at_call 108;refine(zo _ _ (by omega) (by omega)).mono ?_;rintro e wT ⟨rfl,kT⟩
    go_wp2_with fail
    refine hK.out _ _ (zr hHeld kT) (fun hHeld=>?_);clear hK K;(try simp only [pu1,pu3,pu4,pu5]);refine wpAnyH_ready (rs:= [3,15]) (by kernel_rfl) (by simp) ?_;refine zD rfl rfl (fun K hK=>?_) (fun K hK=>?_)
    · go_simp
      refine hK.out _ _ (zr hHeld (zb _ _)) (fun hHeld=>?_);clear hK K;(try simp only [pu1,pu3,pu4,pu5]);refine zK (S':=fun x=>Below w2.heap.size w2 x∧x.cell? ⟨wT.heap.size,0,none⟩=some (.int .u8 kind)) (fun _ h=>h.1) ?_;have hS2:(fun x=>Below w2.heap.size w2 x∧x.cell? ⟨wT.heap.size,0,none⟩=some (.int .u8 kind)) (wT.alloc (.cells #[.int .u8 kind] 5)):=⟨hHeld,by simp⟩;clear hHeld;refine tk 4 (.string A0) ?_ (hr:=fun x hSx=>by have hc:=HCV.out x _ hSx.2;go_simp);refine tk 8 (.string A1) ?_;refine tk 12 (.string A2) ?_;refine ro 15 (fun K hK=>?_);go_simp;go_at_call 108;refine(zo _ _ (by omega) (by omega)).mono ?_;rintro e wT ⟨rfl,kT⟩
      go_wp2_with fail
      refine hK.out _ _ (zV hS2 kT) (fun hHeld=>?_);clear hK K;(try simp only [pu1,pu3,pu4,pu5]);have hS2:=hHeld;clear hHeld;refine tk 16 (.string A3) ?_;refine ro 19 (fun K hK=>?_);go_simp;go_at_call 108;refine(zo _ _ (by omega) (by omega)).mono ?_;rintro e wT ⟨rfl,kT⟩
      go_wp2_with fail
      refine hK.out _ _ (zV hS2 kT) (fun hHeld=>?_);clear hK K;(try simp only [pu1,pu3,pu4,pu5]);have hS2:=hHeld;clear hHeld;refine tk 20 (.string A4) ?_;refine ro 23 (fun K hK=>?_);go_simp;go_at_call 129;refine(zh _ _ (by omega)).mono ?_;rintro e wT ⟨rfl,kT⟩
      go_wp2_with fail
      refine hK.out _ _ (zV hS2 kT) (fun hHeld=>?_);clear hK K;(try simp only [pu1,pu3,pu4,pu5]);have hS2:=hHeld;clear hHeld;refine tk 24 (.string A5) ?_;refine ro 27 (fun K hK=>?_);go_simp;go_at_call 129;refine(zh _ _ (by omega)).mono ?_;rintro e wT ⟨rfl,kT⟩
      go_wp2_with fail
      refine hK.out _ _ (zV hS2 kT) (fun hHeld=>?_);clear hK K;(try simp only [pu1,pu3,pu4,pu5]);have hS2:=hHeld;clear hHeld;refine tk 28 (.string A6) ?_;refine ro 31 (fun K hK=>?_);go_simp;go_at_call 129;refine(zh _ _ (by omega)).mono ?_;rintro e wT ⟨rfl,kT⟩
      go_wp2_with fail
      refine hK.out _ _ (zV hS2 kT) (fun hHeld=>?_);clear hK K;(try simp only [pu1,pu3,pu4,pu5]);have hS2:=hHeld;clear hHeld;refine tk 32 (.string A7) ?_;refine tk 33 (.string A7) ?_;refine tk 34 (.bool true) ?_;refine wpAnyH_done (by kernel_rfl) ?_ _;have BH:=hid hS2.1;clear hS2;go_wp2;go_ret2
      exact⟨by rw [HRT.out,HTX.out];rfl,b2.out.trans (BH.out.mono b2.out.size)⟩
    go_simp;go_at_call 108;refine(zo _ _ (by omega) (by omega)).mono ?_;rintro e wT ⟨rfl,kT⟩
    go_wp2_with fail
    refine hK.out _ _ (zr hHeld kT) (fun hHeld=>?_);clear hK K;(try simp only [pu1,pu3,pu4,pu5]);refine wpAnyH_ready (rs:= [3,19]) (by kernel_rfl) (by simp) ?_;refine zD rfl rfl (fun K hK=>?_) (fun K hK=>?_)
    · go_simp
      refine hK.out _ _ (zr hHeld (zb _ _)) (fun hHeld=>?_);clear hK K;(try simp only [pu1,pu3,pu4,pu5]);refine zK (S':=fun x=>Below w2.heap.size w2 x∧x.cell? ⟨wT.heap.size,0,none⟩=some (.int .u8 kind)) (fun _ h=>h.1) ?_;have hS2:(fun x=>Below w2.heap.size w2 x∧x.cell? ⟨wT.heap.size,0,none⟩=some (.int .u8 kind)) (wT.alloc (.cells #[.int .u8 kind] 5)):=⟨hHeld,by simp⟩;clear hHeld;refine tk 4 (.string A0) ?_ (hr:=fun x hSx=>by have hc:=HCV.out x _ hSx.2;go_simp);refine tk 8 (.string A1) ?_;refine tk 12 (.string A2) ?_;refine tk 16 (.string A3) ?_;refine ro 19 (fun K hK=>?_);go_simp;go_at_call 108;refine(zo _ _ (by omega) (by omega)).mono ?_;rintro e wT ⟨rfl,kT⟩
      go_wp2_with fail
      refine hK.out _ _ (zV hS2 kT) (fun hHeld=>?_);clear hK K;(try simp only [pu1,pu3,pu4,pu5]);have hS2:=hHeld;clear hHeld;refine tk 20 (.string A4) ?_;refine ro 23 (fun K hK=>?_);go_simp;go_at_call 129;refine(zh _ _ (by omega)).mono ?_;rintro e wT ⟨rfl,kT⟩
      go_wp2_with fail
      refine hK.out _ _ (zV hS2 kT) (fun hHeld=>?_);clear hK K;(try simp only [pu1,pu3,pu4,pu5]);have hS2:=hHeld;clear hHeld;refine tk 24 (.string A5) ?_;refine ro 27 (fun K hK=>?_);go_simp;go_at_call 129;refine(zh _ _ (by omega)).mono ?_;rintro e wT ⟨rfl,kT⟩
      go_wp2_with fail
      refine hK.out _ _ (zV hS2 kT) (fun hHeld=>?_);clear hK K;(try simp only [pu1,pu3,pu4,pu5]);have hS2:=hHeld;clear hHeld;refine tk 28 (.string A6) ?_;refine ro 31 (fun K hK=>?_);go_simp;go_at_call 129;refine(zh _ _ (by omega)).mono ?_;rintro e wT ⟨rfl,kT⟩
      go_wp2_with fail
      refine hK.out _ _ (zV hS2 kT) (fun hHeld=>?_);clear hK K;(try simp only [pu1,pu3,pu4,pu5]);have hS2:=hHeld;clear hHeld;refine tk 32 (.string A7) ?_;refine tk 33 (.string A7) ?_;refine tk 34 (.bool true) ?_;refine wpAnyH_done (by kernel_rfl) ?_ _;have BH:=hid hS2.1;clear hS2;go_wp2;go_ret2
      exact⟨by rw [HRT.out,HTX.out];rfl,b2.out.trans (BH.out.mono b2.out.size)⟩
    go_simp;go_at_call 108;refine(zo _ _ (by omega) (by omega)).mono ?_;rintro e wT ⟨rfl,kT⟩
    go_wp2_with fail
    refine hK.out _ _ (zr hHeld kT) (fun hHeld=>?_);clear hK K;(try simp only [pu1,pu3,pu4,pu5]);refine wpAnyH_ready (rs:= [3,23]) (by kernel_rfl) (by simp) ?_;refine zD rfl rfl (fun K hK=>?_) (fun K hK=>?_)
    · go_simp
      refine hK.out _ _ (zr hHeld (zb _ _)) (fun hHeld=>?_);clear hK K;(try simp only [pu1,pu3,pu4,pu5]);refine zK (S':=fun x=>Below w2.heap.size w2 x∧x.cell? ⟨wT.heap.size,0,none⟩=some (.int .u8 kind)) (fun _ h=>h.1) ?_;have hS2:(fun x=>Below w2.heap.size w2 x∧x.cell? ⟨wT.heap.size,0,none⟩=some (.int .u8 kind)) (wT.alloc (.cells #[.int .u8 kind] 5)):=⟨hHeld,by simp⟩;clear hHeld;refine tk 4 (.string A0) ?_ (hr:=fun x hSx=>by have hc:=HCV.out x _ hSx.2;go_simp);refine tk 8 (.string A1) ?_;refine tk 12 (.string A2) ?_;refine tk 16 (.string A3) ?_;refine tk 20 (.string A4) ?_;refine ro 23 (fun K hK=>?_);go_simp;go_at_call 129;refine(zh _ _ (by omega)).mono ?_;rintro e wT ⟨rfl,kT⟩
      go_wp2_with fail
      refine hK.out _ _ (zV hS2 kT) (fun hHeld=>?_);clear hK K;(try simp only [pu1,pu3,pu4,pu5]);have hS2:=hHeld;clear hHeld;refine tk 24 (.string A5) ?_;refine ro 27 (fun K hK=>?_);go_simp;go_at_call 129;refine(zh _ _ (by omega)).mono ?_;rintro e wT ⟨rfl,kT⟩
      go_wp2_with fail
      refine hK.out _ _ (zV hS2 kT) (fun hHeld=>?_);clear hK K;(try simp only [pu1,pu3,pu4,pu5]);have hS2:=hHeld;clear hHeld;refine tk 28 (.string A6) ?_;refine ro 31 (fun K hK=>?_);go_simp;go_at_call 129;refine(zh _ _ (by omega)).mono ?_;rintro e wT ⟨rfl,kT⟩
      go_wp2_with fail
      refine hK.out _ _ (zV hS2 kT) (fun hHeld=>?_);clear hK K;(try simp only [pu1,pu3,pu4,pu5]);have hS2:=hHeld;clear hHeld;refine tk 32 (.string A7) ?_;refine tk 33 (.string A7) ?_;refine tk 34 (.bool true) ?_;refine wpAnyH_done (by kernel_rfl) ?_ _;have BH:=hid hS2.1;clear hS2;go_wp2;go_ret2
      exact⟨by rw [HRT.out,HTX.out];rfl,b2.out.trans (BH.out.mono b2.out.size)⟩
    go_simp;go_at_call 129;refine(zh _ _ (by omega)).mono ?_;rintro e wT ⟨rfl,kT⟩
    go_wp2_with fail
    refine hK.out _ _ (zr hHeld kT) (fun hHeld=>?_);clear hK K;(try simp only [pu1,pu3,pu4,pu5]);refine wpAnyH_ready (rs:= [3,27]) (by kernel_rfl) (by simp) ?_;refine zD rfl rfl (fun K hK=>?_) (fun K hK=>?_)
    · go_simp
      refine hK.out _ _ (zr hHeld (zb _ _)) (fun hHeld=>?_);clear hK K;(try simp only [pu1,pu3,pu4,pu5]);refine zK (S':=fun x=>Below w2.heap.size w2 x∧x.cell? ⟨wT.heap.size,0,none⟩=some (.int .u8 kind)) (fun _ h=>h.1) ?_;have hS2:(fun x=>Below w2.heap.size w2 x∧x.cell? ⟨wT.heap.size,0,none⟩=some (.int .u8 kind)) (wT.alloc (.cells #[.int .u8 kind] 5)):=⟨hHeld,by simp⟩;clear hHeld;refine tk 4 (.string A0) ?_ (hr:=fun x hSx=>by have hc:=HCV.out x _ hSx.2;go_simp);refine tk 8 (.string A1) ?_;refine tk 12 (.string A2) ?_;refine tk 16 (.string A3) ?_;refine tk 20 (.string A4) ?_;refine tk 24 (.string A5) ?_;refine ro 27 (fun K hK=>?_);go_simp;go_at_call 129;refine(zh _ _ (by omega)).mono ?_;rintro e wT ⟨rfl,kT⟩
      go_wp2_with fail
      refine hK.out _ _ (zV hS2 kT) (fun hHeld=>?_);clear hK K;(try simp only [pu1,pu3,pu4,pu5]);have hS2:=hHeld;clear hHeld;refine tk 28 (.string A6) ?_;refine ro 31 (fun K hK=>?_);go_simp;go_at_call 129;refine(zh _ _ (by omega)).mono ?_;rintro e wT ⟨rfl,kT⟩
      go_wp2_with fail
      refine hK.out _ _ (zV hS2 kT) (fun hHeld=>?_);clear hK K;(try simp only [pu1,pu3,pu4,pu5]);have hS2:=hHeld;clear hHeld;refine tk 32 (.string A7) ?_;refine tk 33 (.string A7) ?_;refine tk 34 (.bool true) ?_;refine wpAnyH_done (by kernel_rfl) ?_ _;have BH:=hid hS2.1;clear hS2;go_wp2;go_ret2
      exact⟨by rw [HRT.out,HTX.out];rfl,b2.out.trans (BH.out.mono b2.out.size)⟩
    go_simp;go_at_call 129;refine(zh _ _ (by omega)).mono ?_;rintro e wT ⟨rfl,kT⟩
    go_wp2_with fail
    refine hK.out _ _ (zr hHeld kT) (fun hHeld=>?_);clear hK K;(try simp only [pu1,pu3,pu4,pu5]);refine wpAnyH_ready (rs:= [3,31]) (by kernel_rfl) (by simp) ?_;refine zD rfl rfl (fun K hK=>?_) (fun K hK=>?_)
    · go_simp
      refine hK.out _ _ (zr hHeld (zb _ _)) (fun hHeld=>?_);clear hK K;(try simp only [pu1,pu3,pu4,pu5]);refine zK (S':=fun x=>Below w2.heap.size w2 x∧x.cell? ⟨wT.heap.size,0,none⟩=some (.int .u8 kind)) (fun _ h=>h.1) ?_;have hS2:(fun x=>Below w2.heap.size w2 x∧x.cell? ⟨wT.heap.size,0,none⟩=some (.int .u8 kind)) (wT.alloc (.cells #[.int .u8 kind] 5)):=⟨hHeld,by simp⟩;clear hHeld;refine tk 4 (.string A0) ?_ (hr:=fun x hSx=>by have hc:=HCV.out x _ hSx.2;go_simp);refine tk 8 (.string A1) ?_;refine tk 12 (.string A2) ?_;refine tk 16 (.string A3) ?_;refine tk 20 (.string A4) ?_;refine tk 24 (.string A5) ?_;refine tk 28 (.string A6) ?_;refine ro 31 (fun K hK=>?_);go_simp;go_at_call 129;refine(zh _ _ (by omega)).mono ?_;rintro e wT ⟨rfl,kT⟩
      go_wp2_with fail
      refine hK.out _ _ (zV hS2 kT) (fun hHeld=>?_);clear hK K;(try simp only [pu1,pu3,pu4,pu5]);have hS2:=hHeld;clear hHeld;refine tk 32 (.string A7) ?_;refine tk 33 (.string A7) ?_;refine tk 34 (.bool true) ?_;refine wpAnyH_done (by kernel_rfl) ?_ _;have BH:=hid hS2.1;clear hS2;go_wp2;go_ret2
      exact⟨by rw [HRT.out,HTX.out];rfl,b2.out.trans (BH.out.mono b2.out.size)⟩
    go_simp;go_at_call 129;refine(zh _ _ (by omega)).mono ?_;rintro e wT ⟨rfl,kT⟩
    go_wp2_with fail
    refine hK.out _ _ (zr hHeld kT) (fun hHeld=>?_);clear hK K;(try simp only [pu1,pu3,pu4,pu5]);refine ro 3 (fun K hK=>?_);go_simp;refine hK.out _ _ (zr hHeld (zb _ _)) (fun hHeld=>?_);clear hK K;(try simp only [pu1,pu3,pu4,pu5]);refine zK (S':=fun x=>Below w2.heap.size w2 x∧x.cell? ⟨wT.heap.size,0,none⟩=some (.int .u8 kind)) (fun _ h=>h.1) ?_;have hS2:(fun x=>Below w2.heap.size w2 x∧x.cell? ⟨wT.heap.size,0,none⟩=some (.int .u8 kind)) (wT.alloc (.cells #[.int .u8 kind] 5)):=⟨hHeld,by simp⟩;clear hHeld;refine tk 4 (.string A0) ?_ (hr:=fun x hSx=>by have hc:=HCV.out x _ hSx.2;go_simp);refine tk 8 (.string A1) ?_;refine tk 12 (.string A2) ?_;refine tk 16 (.string A3) ?_;refine tk 20 (.string A4) ?_;refine tk 24 (.string A5) ?_;refine tk 28 (.string A6) ?_;refine tk 32 (.string A7) ?_;refine tk 33 (.string A7) ?_;refine tk 34 (.bool true) ?_;refine wpAnyH_done (by kernel_rfl) ?_ _;have BH:=hid hS2.1;clear hS2;go_wp2;go_ret2
    exact⟨by rw [HRT.out,HTX.out];rfl,b2.out.trans (BH.out.mono b2.out.size)⟩
  · have HRT:=hid (Vo hok)
    have HOK:=hid (decide_eq_false hok);obtain⟨kind,valid,uid,next,flags,user,name,text⟩:=r;unfold Rc.v;unfold Rc.cs at c0 c1 c2 c3 c4 c5 c6 c7 b0;simp only at c0 c1 c2 c3 c4 c5 c6 c7 b0 h1 h2 h3 ⊢;have hRO:=fun wx=>yw ⟨kind,valid,uid,next,flags,user,name,text⟩ wx h1 h2 h3;unfold Rc.v at hRO;simp only at hRO;have HRO:=hid hRO;clear hRO;go_enter Tryz.func105,Tryz.ntmps105
    go_wp2_with (go_at_call 83;refine(HRO.out _).mono ?_;rintro e w2 ⟨rfl,k2⟩;rw [HOK.out])
    go_ret2
    exact⟨by rw [HRT.out];rfl,b0.trans (k2.mono b0.size)⟩
end Go.Proofs.YtklkhllkjnbhjaaGreatDoor
