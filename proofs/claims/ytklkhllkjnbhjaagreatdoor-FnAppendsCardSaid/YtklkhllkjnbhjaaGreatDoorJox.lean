/- Texts of our own, joined. -/
import Derived.Test.YtklkhllkjnbhjaaGreatDoorJnx
/- What records tell: the program's ItemsOk. -/
namespace Go.Proofs.YtklkhllkjnbhjaaGreatDoor
open Go.RowKit
open Lib (hid)
set_option maxRecDepth 100000
set_option maxHeartbeats 8000000
theorem j6{P:Program}{t k e:TypeId}(ht:P.underlying t=some (.map k e))(n:Int)(w:World):(Instr.makeMap t (some (.int .i64 n))).run P w=.ok (.map (some w.heap.size)) (w.alloc (.map #[] 0)):=by
  simp [Instr.makeMap,run_underlying ht,asInt,asIntOf,Result.andThen]
theorem zda{x:Int}(h1:-9223372036854775808≤x)(h2:x≤9223372036854775807):(Lit.int .i64 x).wf=true:=WalkArith.wf_i64 ⟨h1,h2⟩
def SeqF (l:List Itm) (i:Nat) (f:Int→Option Rc):Prop:=∀ q r,f q=some r↔((q,r):Itm)∈l.take i
theorem SeqF.zero(l:List Itm):SeqF l 0 (fun _=>none):=fun q r=>by simp
theorem SeqF.next {l:List Itm} {i:Nat} {f:Int→Option Rc} {q:Int} {r:Rc} (h:SeqF l i f) (hx:l[i]? =some (q,r)) (hf:f q=none∨f q=some r):SeqF l (i+1) (fun y=>if y=q then some r else f y):=by
  intro q' r';have e:l.take (i+1)=l.take i++ [(q,r)]:=by rw [List.take_add_one,hx];rfl
  rw [e,List.mem_append];by_cases c:q'=q
  · subst c
    simp only [if_true,Option.some.injEq,List.mem_singleton,Prod.mk.injEq,true_and];constructor
    · intro e2;exact .inr e2.symm
    · rintro(h1 | h1)
      · have:=(h q' r').2 h1
        rcases hf with hf | hf
        · rw [hf] at this;cases this
        · rw [hf] at this;cases this;rfl
      · exact h1.symm
  · simp only [if_neg c,List.mem_singleton,Prod.mk.injEq]
    constructor
    · intro e2;exact .inl ((h q' r').1 e2)
    · rintro(h1 | h1)
      · exact(h q' r').2 h1
      · exact absurd h1.1 c
theorem SeqF.at'{l:List Itm}{i:Nat}{f:Int→Option Rc}(h:SeqF l i f){q:Int}{r:Rc}(hf:f q=some r):∃ j,j < i∧l[j]? =some (q,r):=by
  have:=(h q r).1 hf;obtain⟨j,hj,e⟩:=List.getElem_of_mem this;have hj':j < i∧j < l.length:=by rw [List.length_take] at hj;omega
  refine⟨j,hj'.1,?_⟩;rw [List.getElem_take] at e;rw [List.getElem?_eq_getElem hj'.2,e]
theorem SeqF.none'{l:List Itm}{i:Nat}{f:Int→Option Rc}(h:SeqF l i f){q:Int}(hf:f q=none){j:Nat}{x:Itm}(hj:l[j]? =some x)(hl:j < i):x.1≠q:=by
  intro e;have:((q,x.2):Itm)∈l.take i:=by
    rw [←e];exact List.mem_of_getElem? (i:=j) (by rw [List.getElem?_take,if_pos hl];exact hj)
  rw [(h q x.2).2 this] at hf;cases hf
theorem zac(x y:Rc)(h:x.v=y.v):x=y:=by
  obtain⟨a0,a1,a2,a3,a4,a5,a6,a7⟩:=x;obtain⟨b0,b1,b2,b3,b4,b5,b6,b7⟩:=y;simp only [Rc.v] at h;injection h with h;simp only [Array.mk.injEq,List.cons.injEq,Value.int.injEq,Value.string.injEq,true_and,and_true] at h;obtain⟨rfl,rfl,rfl,rfl,rfl,rfl,rfl,rfl⟩:=h;rfl
theorem Zl(n:Int)(w:World)(h1:1≤n)(h2:n≤1000000000):Calls Tryz.prog 61 #[.int .i64 n] w fun e w'=>e=.returned (.bool true)∧w=w':=by
  go_enter Tryz.func61,Tryz.ntmps61
  go_wp2;go_ret;simp
theorem Jb(n:Int)(w:World)(h:¬(1≤n∧n≤1000000000)):Calls Tryz.prog 61 #[.int .i64 n] w fun e w'=>e=.returned (.bool false)∧w=w':=by
  by_cases h1:1≤n
  · have h2:¬n≤1000000000:=fun c=>h ⟨h1,c⟩
    clear h;go_enter Tryz.func61,Tryz.ntmps61
    go_wp2;go_ret;simp
  · clear h
    go_enter Tryz.func61,Tryz.ntmps61
    go_wp2;go_ret;simp
theorem zb8{r s:Rc}(h:r≠s):r.kind≠s.kind∨(r.kind=s.kind∧r.valid≠s.valid)∨(r.kind=s.kind∧r.valid=s.valid∧r.uid≠s.uid)∨(r.kind=s.kind∧r.valid=s.valid∧r.uid=s.uid∧r.next≠s.next)∨(r.kind=s.kind∧r.valid=s.valid∧r.uid=s.uid∧r.next=s.next∧r.flags≠s.flags)∨
    (r.kind=s.kind∧r.valid=s.valid∧r.uid=s.uid∧r.next=s.next∧r.flags=s.flags∧r.user≠s.user)∨(r.kind=s.kind∧r.valid=s.valid∧r.uid=s.uid∧r.next=s.next∧r.flags=s.flags∧r.user=s.user∧r.name≠s.name)∨(r.kind=s.kind∧r.valid=s.valid∧r.uid=s.uid∧r.next=s.next∧r.flags=s.flags∧r.user=s.user∧r.name=s.name∧r.text≠s.text):=by
  obtain⟨a0,a1,a2,a3,a4,a5,a6,a7⟩:=r;obtain⟨b0,b1,b2,b3,b4,b5,b6,b7⟩:=s;simp only;by_cases h0:a0=b0
  case neg=>exact .inl h0
  by_cases h1:a1=b1
  case neg=>exact .inr (.inl ⟨h0,h1⟩)
  by_cases h2:a2=b2
  case neg=>exact .inr (.inr (.inl ⟨h0,h1,h2⟩))
  by_cases h3:a3=b3
  case neg=>exact .inr (.inr (.inr (.inl ⟨h0,h1,h2,h3⟩)))
  by_cases h4:a4=b4
  case neg=>exact .inr (.inr (.inr (.inr (.inl ⟨h0,h1,h2,h3,h4⟩))))
  by_cases h5:a5=b5
  case neg=>exact .inr (.inr (.inr (.inr (.inr (.inl ⟨h0,h1,h2,h3,h4,h5⟩)))))
  by_cases h6:a6=b6
  case neg=>exact .inr (.inr (.inr (.inr (.inr (.inr (.inl ⟨h0,h1,h2,h3,h4,h5,h6⟩))))))
  by_cases h7:a7=b7
  case neg=>exact .inr (.inr (.inr (.inr (.inr (.inr (.inr ⟨h0,h1,h2,h3,h4,h5,h6,h7⟩))))))
  subst h0 h1 h2 h3 h4 h5 h6 h7;exact absurd rfl h
def iK:KeyE Tryz.prog Int:=intK 3 Tryz.underlying3
theorem Vc(w:World):(zeroValue 33).run Tryz.prog w=.ok (Rc.nil.v) w:=by kernel_rfl
theorem ZZ (l:List Itm) (v:Value) (w:World) (h:Rows' itE w v l) (hl:l.length≤1099511627776):
    Calls Tryz.prog 35 #[v] w fun e w'=>e=.returned (.bool (decide (itemsOk l)))∧Below w.heap.size w w':=by
  obtain⟨ad,cap,rfl,hrow⟩:=h.items;have HR:=hid hrow;clear h hrow;obtain⟨D,hD⟩:∃ D,decide (itemsOk l)=D:=⟨_,rfl⟩;have HD:=hid hD;rw [hD];clear hD;have hmm:=fun n wx=>j6 (P:=Tryz.prog) (t:=93) Tryz.underlying93 n wx;by_cases hlen:l.length≤200
  case neg=>
    have hgt:(200:Int) <(l.length:Int):=by omega
    go_enter Tryz.func35,Tryz.ntmps35
    go_wp2;go_ret;exact⟨by rw [←HD.out,decide_eq_false (fun c=>hlen c.2.2)];rfl,Below.refl _ _⟩
  have hgt:¬(200:Int) <(l.length:Int):=by omega
  have M0:MapIs iK Rc.v (w.alloc (.map #[] 0)) w.heap.size 0 (fun _=>none):=MapIs.made _ _ _;have b0:=zb w (.map #[] 0);go_enter Tryz.func35,Tryz.ntmps35
  go_wp2;generalize w.alloc (.map #[] 0)=w1 at M0 b0 ⊢;obtain⟨g,hg⟩:∃ g,w.heap.size=g:=⟨_,rfl⟩;rw [hg] at M0;have hgle:Hid (w.heap.size≤g):=show _≤_ by omega
  rw [hg];clear hg hmm;go_loopw [16] (fun iv wr=>∃(i:Nat) (f:Int→Option Rc),i≤l.length∧iv=.int .i64 (i:Int)∧ItG l i∧SeqF l i f∧MapIs iK Rc.v wr g i f∧Below w.heap.size w wr) (fun iv _=>l.length -(intOf iv).toNat)
  case atStart=>exact⟨0,_,by omega,rfl,ItG.zero l,SeqF.zero l,M0,b0⟩
  case round=>
    clear M0 b0;obtain⟨i,f,hi,rfl,hG,hF,hM,hb⟩:=hrel;have HG:=hid hG;have HF:=hid hF;have HM:=hid hM;clear hG hF hM;by_cases hlt:i < l.length
    · obtain⟨x,hx⟩:∃ x,l[i]? =some x:=⟨_,List.getElem?_eq_getElem hlt⟩
      obtain⟨ga,oa,rfl,a0,a1,a2,a3,a4,a5,a6,a7,a8⟩:=HR.out _ hb i _ hx;have HX:=hid hx;obtain⟨sq,K,V,U,N,FL,US,NM,TX⟩:=x;simp only at a0 a1 a2 a3 a4 a5 a6 a7 a8;have hi0:(0:Int)≤(i:Int):=(by omega);have hi1:(i:Int) <(l.length:Int):=(by omega);clear hx;have hbn:Below w.heap.size w (wr.alloc (.cells #[.int .i64 sq,.int .i64 K,.int .i64 V,.int .i64 U,.int .i64 N,.int .i64 FL,.string US,.string NM,.string TX] 44)):=hb.trans ((zb wr _).mono hb.size);by_cases hs:1≤sq∧sq≤1000000000
      case neg=>
        have HS:=hid hs;clear hs;go_wp2_with (go_at_call 61;refine(Jb _ _ HS.out).mono ?_;rintro e w5 ⟨rfl,rfl⟩)
        go_ret;exact⟨by rw [←HD.out,Yx HX.out (fun c=>HS.out c.1)];rfl,hbn⟩
      obtain⟨hs1,hs2⟩:=hs;have hRO:=fun wx=>YQ ⟨K,V,U,N,FL,US,NM,TX⟩ wx;unfold Rc.v at hRO;by_cases hok:(⟨K,V,U,N,FL,US,NM,TX⟩:Rc).ok
      case neg=>
        rw [decide_eq_false hok] at hRO;have HO:=hid hok;clear hok;go_wp2_with (first |(go_at_call 61;refine(Zl _ _ hs1 hs2).mono ?_;rintro e w5 ⟨rfl,rfl⟩) |(go_at_call 65;refine(hRO _).mono ?_;rintro e w6 ⟨rfl,hb6⟩))
        go_ret;exact⟨by rw [←HD.out,Yx HX.out (fun c=>HO.out c.2)];rfl,hbn.trans (hb6.mono hbn.size)⟩
      rw [decide_eq_true hok] at hRO;have HO:=hid hok;clear hok;have hwf:iK.ok sq:=zda (by omega) (by omega);have bR:Below wr.heap.size wr (wr.alloc (.cells #[.int .i64 sq,.int .i64 K,.int .i64 V,.int .i64 U,.int .i64 N,.int .i64 FL,.string US,.string NM,.string TX] 44)):=zb wr _;have XB:=Box.new wr #[.int .i64 sq,.int .i64 K,.int .i64 V,.int .i64 U,.int .i64 N,.int .i64 FL,.string US,.string NM,.string TX] 44;have HRO:Hid (∀ X,Below wr.heap.size wr X→Box X wr.heap.size #[.int .i64 sq,.int .i64 K,.int .i64 V,.int .i64 U,.int .i64 N,.int .i64 FL,.string US,.string NM,.string TX] 44→Calls Tryz.prog 65 #[.agg #[.int .i64 K,.int .i64 V,.int .i64 U,.int .i64 N,.int .i64 FL,.string US,.string NM,.string TX]] X fun e w'=>e=.returned (.bool true)∧Below wr.heap.size wr w'∧Box w' wr.heap.size #[.int .i64 sq,.int .i64 K,.int .i64 V,.int .i64 U,.int .i64 N,.int .i64 FL,.string US,.string NM,.string TX] 44):=fun X hX hB=>(hRO X).mono fun e w' ⟨h1,h2⟩=>⟨h1,hX.trans (h2.mono hX.size),hB.later h2⟩;clear hRO;cases hf:f sq with
      | none=>
        have HFS:=hid hf;clear hf;go_wp2_with (first |(go_at_call 61;refine(Zl _ _ hs1 hs2).mono ?_;rintro e w5 ⟨rfl,rfl⟩) |(go_at_call 65;refine(HRO.out _ bR XB).mono ?_;rintro e w6 ⟨rfl,hb6,XB6⟩;have hlk:=(HM.out.later hb6).look_gone (t:=93) Tryz.underlying93 (Vc w6) hwf HFS.out true;change (Instr.lookup 93 (.map (some g)) (.int .i64 sq) true).run Tryz.prog w6=.ok (.tuple #[Rc.nil.v,.bool false]) w6 at hlk;unfold Rc.nil Rc.v at hlk;obtain⟨q0,q1,q2,q3,q4,q5,q6,q7,q8,_⟩:=XB6.nine;obtain⟨p0,p1,p2,p3,p4,p5,p6,p7,p8,_⟩:=(XB6.later (zb w6 (.cells #[.int .i64 0,.int .i64 0,.int .i64 0,.int .i64 0,.int .i64 0,.string emp,.string emp,.string emp] 33))).nine) |(at_mapUpdate;refine vH rfl _ _ _ _ rfl iK Rc.v zac _ Tryz.underlying93 g i f rfl ((HM.out.later hb6).later (zb _ _)) (by unfold maxLen;omega) sq ⟨K,V,U,N,FL,US,NM,TX⟩ rfl rfl hwf ?_;intro w8 hM8 hg8 hs8))
        go_wp2;go_roundw
        case rel=>exact⟨i+1,_,by omega,by go_num,HG.out.next HX.out ⟨⟨hs1,hs2⟩,HO.out⟩ (fun j y hj hji e=>absurd e (HF.out.none' HFS.out hj hji)),HF.out.next HX.out (.inl HFS.out),hM8,(hb.trans ((hb6.trans ((zb w6 _).mono hb6.size)).mono hb.size)).grown hg8 (Nat.le_trans hb.size (Nat.le_trans hb6.size (by simp))) (fun j hj=>by cases hj;exact hgle.out)⟩
        case measure=>simp [intOf];omega
      | some r0=>
        have HFS:=hid hf;clear hf;by_cases hr:r0=⟨K,V,U,N,FL,US,NM,TX⟩
        · subst hr
          go_wp2_with (first |(go_at_call 61;refine(Zl _ _ hs1 hs2).mono ?_;rintro e w5 ⟨rfl,rfl⟩) |(go_at_call 65;refine(HRO.out _ bR XB).mono ?_;rintro e w6 ⟨rfl,hb6,XB6⟩;have hlk:=(HM.out.later hb6).look_there (t:=93) Tryz.underlying93 (Vc w6) hwf HFS.out true;change (Instr.lookup 93 (.map (some g)) (.int .i64 sq) true).run Tryz.prog w6=.ok (.tuple #[Rc.v ⟨K,V,U,N,FL,US,NM,TX⟩,.bool true]) w6 at hlk;unfold Rc.v at hlk;obtain⟨q0,q1,q2,q3,q4,q5,q6,q7,q8,_⟩:=XB6.nine;obtain⟨p0,p1,p2,p3,p4,p5,p6,p7,p8,_⟩:=(XB6.later (zb w6 (.cells #[.int .i64 K,.int .i64 V,.int .i64 U,.int .i64 N,.int .i64 FL,.string US,.string NM,.string TX] 33))).nine) |(at_mapUpdate;refine vH rfl _ _ _ _ rfl iK Rc.v zac _ Tryz.underlying93 g i f rfl ((HM.out.later hb6).later (zb _ _)) (by unfold maxLen;omega) sq ⟨K,V,U,N,FL,US,NM,TX⟩ rfl rfl hwf ?_;intro w8 hM8 hg8 hs8))
          go_wp2;go_roundw
          case rel=>
            refine⟨i+1,_,by omega,by go_num,HG.out.next HX.out ⟨⟨hs1,hs2⟩,HO.out⟩ (fun j y hj hji e=>?_),HF.out.next HX.out (.inr HFS.out),hM8,(hb.trans ((hb6.trans ((zb w6 _).mono hb6.size)).mono hb.size)).grown hg8 (Nat.le_trans hb.size (Nat.le_trans hb6.size (by simp))) (fun j hj=>by cases hj;exact hgle.out)⟩;obtain⟨yq,yr⟩:=y;simp only at e;subst e;have:f yq=some yr:=(HF.out yq yr).2 (List.mem_of_getElem? (i:=j) (by rw [List.getElem?_take,if_pos hji];exact hj));rw [HFS.out] at this;cases this
            rfl
          case measure=>simp [intOf];omega
        · have hp:=zb8 hr
          have HP:Hid (decide (itemsOk l)=false):=by
            obtain⟨j,hj,ej⟩:=HF.out.at' HFS.out;exact Ve ej HX.out rfl (fun e=>hr (Prod.mk.inj e).2)
          obtain⟨K0,V0,U0,N0,FL0,US0,NM0,TX0⟩:=r0;simp only at hp;clear hr;rcases hp with h0 |⟨rfl,h0⟩ |⟨rfl,rfl,h0⟩ |⟨rfl,rfl,rfl,h0⟩ |⟨rfl,rfl,rfl,rfl,h0⟩ |⟨rfl,rfl,rfl,rfl,rfl,h0⟩ |⟨rfl,rfl,rfl,rfl,rfl,rfl,h0⟩ |⟨rfl,rfl,rfl,rfl,rfl,rfl,rfl,h0⟩
          all_goals (
            try have hba:¬(_:List UInt8)=_:=fun e=>h0 ((qY _ _).1 e)
            go_wp2_with (first |(go_at_call 61;refine(Zl _ _ hs1 hs2).mono ?_;rintro e w5 ⟨rfl,rfl⟩) |(go_at_call 65;refine(HRO.out _ bR XB).mono ?_;rintro e w6 ⟨rfl,hb6,XB6⟩;have hlk:=(HM.out.later hb6).look_there (t:=93) Tryz.underlying93 (Vc w6) hwf HFS.out true;dsimp only [iK,intK,Rc.v,if_true] at hlk;obtain⟨q0,q1,q2,q3,q4,q5,q6,q7,q8,_⟩:=XB6.nine;have XB7:=fun cs t=>(XB6.later (zb w6 (.cells cs t))).nine))
            go_ret
            exact⟨by rw [←HD.out,HP.out];rfl,hb.trans ((hb6.trans ((zb w6 _).mono hb6.size)).mono hb.size)⟩)
    · go_wp2
      go_ret;have e:i=l.length:=(by omega);subst e;exact⟨by rw [←HD.out,HG.out.done,decide_eq_true hlen];rfl,hb⟩

/- How many segments there are: SegsOf, the model's and the program's. -/
def sgN (d:Dk):Int:=if 5≤((d.sec.length:Int) - 8).tdiv 8∧((d.sec.length:Int) - 8).tdiv 8≤11 then((d.sec.length:Int) - 8).tdiv 8 else 0
theorem zcK{n:Nat}(h:n≤1073741824):-1≤((n:Int) - 8).tdiv 8∧((n:Int) - 8).tdiv 8≤1073741824:=by
  by_cases h8:8≤n
  · rw [Int.tdiv_eq_ediv_of_nonneg (by omega)];omega
  · rw [show(n:Int) - 8=-((8 - n:Nat):Int) by omega,Int.neg_tdiv,Int.tdiv_eq_ediv_of_nonneg (by omega)];omega
theorem Vq(d:Dk)(v:Value)(w:World)(h:DRd w v d)(hs:d.small):
    Calls Tryz.prog 32 #[v] w fun e w'=>e=.returned (.int .i64 (sgN d))∧Below w.heap.size w w':=by
  obtain⟨aa,ab,ca,cb,rfl,_,_⟩:=h.form;have hx:=Box.new w #[.slice aa d.sec.length ca,.slice ab d.cache.length cb] 27;have b0:Below w.heap.size w (w.alloc (.cells #[.slice aa d.sec.length ca,.slice ab d.cache.length cb] 27)):=(Below.refl _ _).alloc (Nat.le_refl _) _;have c0:=hx.cell 0 (.slice aa d.sec.length ca) rfl;have hs1:=hs.1;clear h;obtain⟨q,hq⟩:∃ q:Int,((d.sec.length:Int) - 8).tdiv 8=q:=⟨_,rfl⟩;have hqb:-1≤q∧q≤1073741824:=by rw [←hq];exact zcK hs1
  unfold sgN;rw [hq];by_cases hin:5≤q∧q≤11
  · rw [if_pos hin]
    go_enter Tryz.func32,Tryz.ntmps32
    go_wp2
    all_goals
      go_ret
      exact⟨rfl,b0⟩
  · rw [if_neg hin]
    go_enter Tryz.func32,Tryz.ntmps32
    go_wp2
    all_goals
      go_ret
      exact⟨rfl,b0⟩
theorem vM(d:Dk)(v:Value)(w:World)(h:DRd w v d)(hs:d.small):
    Calls Tryz.prog 51 #[v] w fun e w'=>e=.returned (.int .i64 (sgN d))∧Below w.heap.size w w':=by
  obtain⟨aa,ab,ca,cb,rfl,_,_⟩:=h.form;have hx:=Box.new w #[.slice aa d.sec.length ca,.slice ab d.cache.length cb] 27;have b0:Below w.heap.size w (w.alloc (.cells #[.slice aa d.sec.length ca,.slice ab d.cache.length cb] 27)):=(Below.refl _ _).alloc (Nat.le_refl _) _;have c0:=hx.cell 0 (.slice aa d.sec.length ca) rfl;have hs1:=hs.1;clear h;obtain⟨q,hq⟩:∃ q:Int,((d.sec.length:Int) - 8).tdiv 8=q:=⟨_,rfl⟩;have hqb:-1≤q∧q≤1073741824:=by rw [←hq];exact zcK hs1
  unfold sgN;rw [hq];by_cases hin:5≤q∧q≤11
  · rw [if_pos hin]
    go_enter Tryz.func51,Tryz.ntmps51
    go_wp2_with (go_at_call 52;refine(Zo _ _ _ _ (by omega) (by omega)).mono ?_;rintro e w5 ⟨rfl,rfl⟩)
    go_ret;exact⟨rfl,b0⟩
  · rw [if_neg hin]
    go_enter Tryz.func51,Tryz.ntmps51
    go_wp2_with (go_at_call 52;refine(Yu _ _ _ _ (by omega)).mono ?_;rintro e w5 ⟨rfl,rfl⟩)
    go_ret;exact⟨rfl,b0⟩
end Go.Proofs.YtklkhllkjnbhjaaGreatDoor
