/- Texts of our own, joined. -/
import Derived.Test.YtklkhllkjnbhjaaGreatDoorJn
/- Logs held against each other: SameLog of both. -/
namespace Go.Proofs.YtklkhllkjnbhjaaGreatDoor
open Go.RowKit
open Lib (hid)
set_option maxRecDepth 100000
set_option maxHeartbeats 8000000
noncomputable def sameP (p:Prop):Bool:=@decide p (Classical.propDecidable p)
theorem zx{p:Prop}(h:p):sameP p=true:=@decide_eq_true _ (Classical.propDecidable _) h
theorem zi{p:Prop}(h:¬p):sameP p=false:=@decide_eq_false _ (Classical.propDecidable _) h
theorem yu{p q:Prop}(h:p↔q):sameP p=sameP q:=by
  by_cases c:p
  · rw [zx c,zx (h.1 c)]
  · rw [zi c,zi (fun e=>c (h.2 e))]
theorem qf{α:Type}{ms ns:List α}(hl:ms.length=ns.length)(h:∀(k:Nat) (x y:α),ms[k]? =some x→ns[k]? =some y→x=y):ms=ns:=
  List.ext_getElem? fun i=>by
    by_cases c:i < ms.length
    · have e1:ms[i]? =some ms[i]:=List.getElem?_eq_getElem c
      have e2:ns[i]? =some (ns[i]'(by omega)):=List.getElem?_eq_getElem (by omega)
      rw [e1,e2,h i _ _ e1 e2]
    · rw [List.getElem?_eq_none (by omega),List.getElem?_eq_none (by omega)]
theorem zbA(a b:ByteArray):a.toList=b.toList↔a=b:=by
  have h:=vN a b;constructor
  · intro e
    rw [beq_iff_eq.2 e] at h;exact of_decide_eq_true h.symm
  · intro e;rw [e]
theorem jw:Tryz.prog.underlying 44=some (.struct (Tryz.prog.fieldsOf 44)):=by kernel_rfl
theorem Jr:Tryz.prog.underlying 33=some (.struct (Tryz.prog.fieldsOf 33)):=by kernel_rfl
theorem xc(x y:Rc)(w:World):(Op.equalIn 9999 33 (.agg #[.int .i64 x.kind,.int .i64 x.valid,.int .i64 x.uid,.int .i64 x.next,.int .i64 x.flags,.string x.user,.string x.name,.string x.text]) (.agg #[.int .i64 y.kind,.int .i64 y.valid,.int .i64 y.uid,.int .i64 y.next,.int .i64 y.flags,.string y.user,.string y.name,.string y.text])).run Tryz.prog w=.ok (sameP (x=y)) w:=by
  rw [run_equalIn_agg _ 9998 _ _ _ Jr (by kernel_rfl)];obtain⟨a0,a1,a2,a3,a4,a5,a6,a7⟩:=x;obtain⟨b0,b1,b2,b3,b4,b5,b6,b7⟩:=y;simp [go_sem,Op.eqFields,Tryz.underlying33,Program.fieldsOf];simp only [zbA];by_cases h0:a0=b0
  case neg=>rw [if_neg h0,zi (fun e=>h0 e.1)]
  rw [if_pos h0];by_cases h1:a1=b1
  case neg=>rw [if_neg h1,zi (fun e=>h1 e.2.1)]
  rw [if_pos h1];by_cases h2:a2=b2
  case neg=>rw [if_neg h2,zi (fun e=>h2 e.2.2.1)]
  rw [if_pos h2];by_cases h3:a3=b3
  case neg=>rw [if_neg h3,zi (fun e=>h3 e.2.2.2.1)]
  rw [if_pos h3];by_cases h4:a4=b4
  case neg=>rw [if_neg h4,zi (fun e=>h4 e.2.2.2.2.1)]
  rw [if_pos h4];by_cases h5:a5=b5
  case neg=>rw [if_neg h5,zi (fun e=>h5 e.2.2.2.2.2.1)]
  rw [if_pos h5];by_cases h6:a6=b6
  case neg=>rw [if_neg h6,zi (fun e=>h6 e.2.2.2.2.2.2.1)]
  rw [if_pos h6];by_cases h7:a7=b7
  case neg=>rw [if_neg h7,zi (fun e=>h7 e.2.2.2.2.2.2.2)]
  rw [if_pos h7,zx ⟨h0,h1,h2,h3,h4,h5,h6,h7⟩]
theorem zaQ(x y:Itm)(w:World):(binOp .neq 44 (.agg #[.int .i64 x.1,.int .i64 x.2.kind,.int .i64 x.2.valid,.int .i64 x.2.uid,.int .i64 x.2.next,.int .i64 x.2.flags,.string x.2.user,.string x.2.name,.string x.2.text]) (.agg #[.int .i64 y.1,.int .i64 y.2.kind,.int .i64 y.2.valid,.int .i64 y.2.uid,.int .i64 y.2.next,.int .i64 y.2.flags,.string y.2.user,.string y.2.name,.string y.2.text])).run Tryz.prog w=.ok (.bool (!sameP (x=y))) w:=by
  have h:=xc x.2 y.2;have h1:(Op.equalIn 10000 44 (.agg #[.int .i64 x.1,.int .i64 x.2.kind,.int .i64 x.2.valid,.int .i64 x.2.uid,.int .i64 x.2.next,.int .i64 x.2.flags,.string x.2.user,.string x.2.name,.string x.2.text]) (.agg #[.int .i64 y.1,.int .i64 y.2.kind,.int .i64 y.2.valid,.int .i64 y.2.uid,.int .i64 y.2.next,.int .i64 y.2.flags,.string y.2.user,.string y.2.name,.string y.2.text])).run Tryz.prog w=.ok (sameP (x=y)) w:=by
    rw [run_equalIn_agg _ 9999 _ _ _ jw (by kernel_rfl)];by_cases h0:x.1=y.1
    · have e:sameP (x=y)=sameP (x.2=y.2):=yu ⟨fun e=>by rw [e],fun e=>by obtain⟨a,b⟩:=x;obtain⟨c,d⟩:=y;simp only at h0 e;rw [h0,e]⟩
      rw [e];generalize sameP (x.2=y.2)=D at h ⊢;simp [go_sem,Op.eqFields,Tryz.underlying44,Program.fieldsOf,h,h0];try (cases D <;> rfl)
    · rw [zi (fun e=>h0 (by rw [e]))]
      simp [go_sem,Op.eqFields,Tryz.underlying44,Program.fieldsOf,h0]
  rw [run_neq_struct,h1];rfl
theorem ZU (x y:Sg) (a1 a2:Option Addr) (n1 n2 c1 c2:Nat) (w:World) (ha:Rows' itE w (.slice a1 n1 c1) x.items) (hb:Rows' itE w (.slice a2 n2 c2) y.items) (hl:x.items.length≤1099511627776):
    Calls Tryz.prog 29 #[.agg #[.int .i64 x.no,.int .i64 x.gen,.int .i64 x.ende,.slice a1 n1 c1],.agg #[.int .i64 y.no,.int .i64 y.gen,.int .i64 y.ende,.slice a2 n2 c2]] w fun e w'=>e=.returned (.bool (sameP (x=y)))∧Below w.heap.size w w':=by
  obtain⟨ad,cap,e,hrowa⟩:=ha.items;cases e
  obtain⟨ad2,cap2,e,hrowb⟩:=hb.items;cases e
  have HA:=hid hrowa;have HB:=hid hrowb;clear ha hb hrowa hrowb;obtain⟨V,G,E,ms⟩:=x;obtain⟨V',G',E',ms'⟩:=y;simp only at HA HB hl ⊢;obtain⟨D,hD⟩:∃ D,sameP ((⟨V,G,E,ms⟩:Sg)=⟨V',G',E',ms'⟩)=D:=⟨_,rfl⟩;have HD:=hid hD;rw [hD];clear hD;by_cases e3:ms.length=ms'.length
  case neg=>
    have e3':¬((ms.length:Int)=(ms'.length:Int)):=by omega
    have HE:Hid (D=false):=by show D=false;rw [←HD.out];exact zi (fun e=>e3 (by rw [(Sg.mk.inj e).2.2.2]))
    have b1:Below w.heap.size w ((w.alloc (.cells #[.int .i64 V,.int .i64 G,.int .i64 E,.slice a1 ms.length c1] 60)).alloc (.cells #[.int .i64 V',.int .i64 G',.int .i64 E',.slice a2 ms'.length c2] 60)):=((Below.refl _ _).alloc (Nat.le_refl _) _).alloc (by simp) _;clear e3;by_cases e0:V=V'
    case neg=>
      go_enter Tryz.func29,Tryz.ntmps29
      go_wp2;go_ret;exact⟨by rw [HE.out];rfl,b1⟩
    subst e0;by_cases e1:G=G'
    case neg=>
      go_enter Tryz.func29,Tryz.ntmps29
      go_wp2;go_ret;exact⟨by rw [HE.out];rfl,b1⟩
    subst e1;by_cases e2:E=E'
    case neg=>
      go_enter Tryz.func29,Tryz.ntmps29
      go_wp2;go_ret;exact⟨by rw [HE.out];rfl,b1⟩
    subst e2;go_enter Tryz.func29,Tryz.ntmps29
    go_wp2;go_ret;exact⟨by rw [HE.out];rfl,b1⟩
  obtain⟨n,hn⟩:∃ n,ms.length=n:=⟨_,rfl⟩;have hm:ms'.length=n:=by omega
  have HN:=hid hn;have HM:=hid hm;rw [hn] at hl;rw [hn,hm];clear hn hm e3;have b1:Below w.heap.size w ((w.alloc (.cells #[.int .i64 V,.int .i64 G,.int .i64 E,.slice a1 n c1] 60)).alloc (.cells #[.int .i64 V',.int .i64 G',.int .i64 E',.slice a2 n c2] 60)):=((Below.refl _ _).alloc (Nat.le_refl _) _).alloc (by simp) _;by_cases e0:V=V'
  case neg=>
    go_enter Tryz.func29,Tryz.ntmps29
    go_wp2;go_ret;exact⟨by rw [←HD.out,zi (fun e=>e0 (Sg.mk.inj e).1)];rfl,b1⟩
  subst e0;by_cases e1:G=G'
  case neg=>
    go_enter Tryz.func29,Tryz.ntmps29
    go_wp2;go_ret;exact⟨by rw [←HD.out,zi (fun e=>e1 (Sg.mk.inj e).2.1)];rfl,b1⟩
  subst e1;by_cases e2:E=E'
  case neg=>
    go_enter Tryz.func29,Tryz.ntmps29
    go_wp2;go_ret;exact⟨by rw [←HD.out,zi (fun e=>e2 (Sg.mk.inj e).2.2.1)];rfl,b1⟩
  subst e2;have X2:=(Box.new w #[.int .i64 V,.int .i64 G,.int .i64 E,.slice a1 n c1] 60).later (zb _ (.cells #[.int .i64 V,.int .i64 G,.int .i64 E,.slice a2 n c2] 60));have X3:Box ((w.alloc (.cells #[.int .i64 V,.int .i64 G,.int .i64 E,.slice a1 n c1] 60)).alloc (.cells #[.int .i64 V,.int .i64 G,.int .i64 E,.slice a2 n c2] 60)) (w.heap.size+1) #[.int .i64 V,.int .i64 G,.int .i64 E,.slice a2 n c2] 60:=by
    have:=Box.new (w.alloc (.cells #[.int .i64 V,.int .i64 G,.int .i64 E,.slice a1 n c1] 60)) #[.int .i64 V,.int .i64 G,.int .i64 E,.slice a2 n c2] 60;rwa [show(w.alloc (.cells #[.int .i64 V,.int .i64 G,.int .i64 E,.slice a1 n c1] 60)).heap.size=w.heap.size+1 from by simp] at this
  go_enter Tryz.func29,Tryz.ntmps29
  go_wp2;generalize (w.alloc (.cells #[.int .i64 V,.int .i64 G,.int .i64 E,.slice a1 n c1] 60)).alloc (.cells #[.int .i64 V,.int .i64 G,.int .i64 E,.slice a2 n c2] 60)=w1 at b1 X2 X3 ⊢;have BW:=hid b1;clear b1;generalize w.heap.size+1=g3 at X3 ⊢;generalize hg2:w.heap.size=g2 at X2 ⊢;clear hg2;go_loopw [5] (fun iv wr=>∃ i:Nat,i≤n∧iv=.int .i64 (i:Int)∧(∀(j:Nat) (x y:Itm),ms[j]? =some x→ms'[j]? =some y→j < i→x=y)∧Below w1.heap.size w1 wr) (fun iv _=>n -(intOf iv).toNat)
  case atStart=>exact⟨0,by omega,rfl,fun j x y _ _ hj=>by omega,Below.refl _ _⟩
  case round=>
    obtain⟨i,hi,rfl,hU,hb⟩:=hrel;have HU:=hid hU;clear hU;have Y2:wr.cell? ⟨g2,3,none⟩=some (.slice a1 n c1):=(X2.later hb).cell 3 _ rfl;have Y3:wr.cell? ⟨g3,3,none⟩=some (.slice a2 n c2):=(X3.later hb).cell 3 _ rfl;by_cases hlt:i < n
    · obtain⟨x,hgx⟩:∃ x,ms[i]? =some x:=⟨_,List.getElem?_eq_getElem (by rw [HN.out];exact hlt)⟩
      obtain⟨y,hgy⟩:∃ y,ms'[i]? =some y:=⟨_,List.getElem?_eq_getElem (by rw [HM.out];exact hlt)⟩;have bW:Below w.heap.size w wr:=BW.out.trans (hb.mono BW.out.size);obtain⟨ga,oa,rfl,p0,p1,p2,p3,p4,p5,p6,p7,p8⟩:=HA.out _ bW i _ hgx;obtain⟨gb,ob,rfl,q0,q1,q2,q3,q4,q5,q6,q7,q8⟩:=HB.out _ bW i _ hgy;have HX:=hid hgx;have HY:=hid hgy;clear hgx hgy bW;have hi0:(0:Int)≤(i:Int):=(by omega);have hi1:(i:Int) <(n:Int):=(by omega);have hneq:=zaQ x y;by_cases hxy:x=y
      · have HXY:=hid hxy
        rw [zx hxy] at hneq;simp only [Bool.not_true] at hneq;clear hxy;go_wp2;go_quiet (fail)
        go_wp2;go_roundw
        case rel=>exact⟨i+1,by omega,by go_num,fun j u v h1 h2 hj=>by
          by_cases c:j=i
          · subst c
            have e1:=HX.out;have e2:=HY.out;rw [h1] at e1;rw [h2] at e2;cases e1;cases e2;exact HXY.out
          · exact HU.out j u v h1 h2 (by omega),hb.trans ⟨rfl,rfl,rfl,Nat.le_refl _,fun _ _=>rfl⟩⟩
        case measure=>simp [intOf];omega
      · rw [zi hxy] at hneq
        simp only [Bool.not_false] at hneq;have HE:Hid (D=false):=by
          show D=false
          rw [←HD.out];exact zi (fun e=>hxy (by
            have e4:=(Sg.mk.inj e).2.2.2;have e1:=HX.out;rw [e4,HY.out] at e1;exact(Option.some.inj e1).symm))
        clear hxy;go_wp2;go_quiet (fail)
        go_wp2;go_ret;exact⟨by rw [HE.out];rfl,(BW.out.trans (hb.mono BW.out.size)).trans ⟨rfl,rfl,rfl,by have:=BW.out.size;have:=hb.size;exact Nat.le_refl _,fun _ _=>rfl⟩⟩
    · have HE:Hid (D=true):=by
        show D=true
        rw [←HD.out];have e4:ms=ms':=qf (HN.out.trans HM.out.symm) (fun j x y h1 h2=>HU.out j x y h1 h2 (by have:=(List.getElem?_eq_some_iff.1 h1).1;have:=HN.out;omega));exact zx (by rw [e4])
      go_wp2;go_ret;exact⟨by rw [HE.out];rfl,BW.out.trans (hb.mono BW.out.size)⟩
end Go.Proofs.YtklkhllkjnbhjaaGreatDoor
