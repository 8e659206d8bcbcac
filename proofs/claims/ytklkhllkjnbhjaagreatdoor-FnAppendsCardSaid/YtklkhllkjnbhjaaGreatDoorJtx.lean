/- Texts of our own, joined. -/
import Derived.Test.YtklkhllkjnbhjaaGreatDoorJz
/- A log copied: the model's l09Copy. -/
namespace Go.Proofs.YtklkhllkjnbhjaaGreatDoor
open Go.RowKit
open Lib (hid)
set_option maxRecDepth 100000
set_option maxHeartbeats 8000000
structure CpS (w W:World) (L:Lg) (C g3:Nat) (p1 p2:Value) (k:Nat) (x:World) (a:Option Addr) (c:Nat) (hs:List SgH):Prop where
  box:Box x g3 #[p1,p2,.int .i64 L.segs,.slice a k c,.int .i64 L.ng,.int .i64 L.ns,.int .i64 L.st,.int .i64 L.nv] 30
  segs:SgO C x (.slice a k c) (L.used.take k) hs
  disk:DOwn (g3+1) C x (.agg #[p1,p2]) L.d
  bel:Below w.heap.size w x
  lo:w.heap.size≤g3
  hi:g3 < C
  size:C≤x.heap.size
  old:∀ q,q < g3→x.heap[q]? =W.heap[q]?
theorem CpS.later{w W x y:World}{L:Lg}{C g3 k c:Nat}{p1 p2:Value}{a:Option Addr}{hs:List SgH}(h:CpS w W L C g3 p1 p2 k x a c hs)(hb:Below x.heap.size x y):CpS w W L C g3 p1 p2 k y a c hs:=
  ⟨h.box.later hb,h.segs.later hb,h.disk.later hb,h.bel.trans (hb.mono h.bel.size),h.lo,h.hi,Nat.le_trans h.size hb.size,fun q hq=>(hb.block q (by have:=h.hi;have:=h.size;omega)).trans (h.old q hq)⟩
theorem CpS.push{w W x y z:World}{L:Lg}{C g3 k c:Nat}{p1 p2:Value}{a:Option Addr}{hs:List SgH}(h:CpS w W L C g3 p1 p2 k x a c hs)(hb:Below x.heap.size x y){s:Sg}(hk:L.used[k]? =some s)
    {a2:Option Addr} {n2 c2:Nat} (hm:RBuf itE x.heap.size y y (.slice a2 n2 c2) s.items) {v':Value} (r9:RBuf sgE C z z v' (hs++ [⟨s.no,s.gen,s.ende,a2,n2,c2⟩])) (g9:y.grownBy z (Value.slice a k c).ownBlock) (at9:v'.ownBlock=(Value.slice a k c).ownBlock∨v'.ownBlock=some y.heap.size):
    ∃ a' c',v'=.slice a' (k+1) c'∧CpS w W L C g3 p1 p2 (k+1) (z.setCell ⟨g3,3,none⟩ v') a' c' (hs++ [⟨s.no,s.gen,s.ende,a2,n2,c2⟩]):=by
  have hkl:k < L.used.length:=(List.getElem?_eq_some_iff.1 hk).1;have hlen:hs.length=k:=by rw [h.segs.len,List.length_take];omega
  obtain⟨a',c',rfl⟩:=r9.form;have hl1:(hs++ [(⟨s.no,s.gen,s.ende,a2,n2,c2⟩:SgH)]).length=k+1:=by rw [List.length_append,hlen];rfl
  rw [hl1] at r9 at9 ⊢;have h8:=h.later hb;have hw:=h.segs.where';have hnew:∀ q,(Value.slice a2 n2 c2).ownBlock=some q→x.heap.size≤q:=fun q hq=>(hm.own.lt q hq).1;have hp:=h8.segs.push s ⟨s.no,s.gen,s.ende,a2,n2,c2⟩ ⟨rfl,rfl,rfl⟩ (hm.down (Below.refl _ _) h.size) (fun q hq e=>by have h1:=hnew q hq;have h2:=(hw.1 q e).2;omega) (fun j t ht q hq e=>by have h1:=hnew q e;have h2:=(hw.2 j t ht q hq).2;omega) r9 g9 at9;rw [show L.used.take k++ [s]=L.used.take (k+1) by rw [List.take_add_one,hk];rfl] at hp;have hg3:=za z g3 3 (.slice a' (k+1) c');have hold:∀ q,(Value.slice a k c).ownBlock=some q→C≤q:=fun q hq=>(hw.1 q hq).1;have hz:y.heap.size≤z.heap.size:=g9.size;have hb9:Box z g3 #[p1,p2,.int .i64 L.segs,.slice a k c,.int .i64 L.ng,.int .i64 L.ns,.int .i64 L.st,.int .i64 L.nv] 30:=(g9.block g3 h8.box.lt (fun e=>by have h1:=hold g3 e.symm;have h2:=h.hi;omega)).trans h8.box;have hbx:=hb9.set 3 (.slice a' (k+1) c');refine⟨a',c',rfl,hbx,hp.shift hg3 (fun q hq=>?_),?_,?_,h.lo,h.hi,?_,fun q hq=>?_⟩
  · have hq2:g3=q:=Option.some.inj hq
    have h2:=h.hi;refine⟨fun e=>?_,fun j t ht e=>?_⟩
    · have h3:=(hp.where'.1 q e).1;omega
    · have h3:=(hp.where'.2 j t ht q e).1;omega
  · have hd:=h8.disk.stayO hz (fun q h1 h2=>g9.block q (by have h3:=h8.size;omega) (fun e=>by have h4:=hold q e.symm;omega))
    exact hd.store g3 3 _ (by omega)
  · have h1:Below w.heap.size w z:=h8.bel.grown g9 (h8.bel.size) (fun q hq=>by have h4:=hold q hq;have h5:=h.lo;have h6:=h.hi;omega)
    exact h1.grown hg3 h1.size (fun q hq=>by have hq2:g3=q:=Option.some.inj hq;have h5:=h.lo;omega)
  · have h3:=h8.size
    have h4:=hg3.size;omega
  · have h3:=h8.size
    have h4:=h.hi;refine(hg3.block q (by omega) (fun e=>by have h5:=Option.some.inj e;omega)).trans ((g9.block q (by omega) (fun e=>by have h5:=hold q e.symm;omega)).trans (h8.old q hq))
theorem CpS.done{w W x:World}{L:Lg}{C g3 k c:Nat}{p1 p2:Value}{a:Option Addr}{hs:List SgH}(h:CpS w W L C g3 p1 p2 k x a c hs)(hk:k=L.used.length):LgP w.heap.size x.heap.size x p1 p2 (.slice a k c) L hs:=by
  have hsg:=h.segs;rw [List.take_of_length_le (by omega)] at hsg;exact(LgP.mk2 h.disk hsg.gown (Nat.le_refl _) (by have:=h.hi;omega) h.size).widen (by have:=h.lo;omega) (Nat.le_refl _) (Nat.le_refl _)
theorem Jv (L :Lg) (B T:Nat) (va vb vu:Value) (hs:List SgH) (w:World) (hp:LgP B T w va vb vu L hs) (hL:L.lean 1048576):
    Calls Tryz.prog 46 #[.agg #[va,vb,.int .i64 L.segs,vu,.int .i64 L.ng,.int .i64 L.ns,.int .i64 L.st,.int .i64 L.nv]] w fun e w'=>∃ v',e=.returned v'∧LgO w.heap.size w'.heap.size w' v' L∧Below w.heap.size w w':=by
  obtain⟨hsm,hun,hit,_,_⟩:=L.lean_small hL;have hil:∀ b∈L.used,b.items.length≤1048576:=fun b hb=>by have:=yE hb;have:=hL.2.1;omega
  have b0:=zb w (.cells #[va,vb,.int .i64 L.segs,vu,.int .i64 L.ng,.int .i64 L.ns,.int .i64 L.st,.int .i64 L.nv] 30);have X0:=Box.new w #[va,vb,.int .i64 L.segs,vu,.int .i64 L.ng,.int .i64 L.ns,.int .i64 L.st,.int .i64 L.nv] 30;have z0:(w.alloc (.cells #[va,vb,.int .i64 L.segs,vu,.int .i64 L.ng,.int .i64 L.ns,.int .i64 L.st,.int .i64 L.nv] 30)).heap.size=w.heap.size+1:=by simp
  obtain⟨wA,hwA⟩:∃ y,w.alloc (.cells #[va,vb,.int .i64 L.segs,vu,.int .i64 L.ng,.int .i64 L.ns,.int .i64 L.st,.int .i64 L.nv] 30)=y:=⟨_,rfl⟩;rw [hwA] at b0 X0 z0;have b1:=zb wA (.cells #[.slice none 0 0,.slice none 0 0,.int .i64 0,.slice none 0 0,.int .i64 0,.int .i64 0,.int .i64 0,.int .i64 0] 30);have XR:=Box.new wA #[.slice none 0 0,.slice none 0 0,.int .i64 0,.slice none 0 0,.int .i64 0,.int .i64 0,.int .i64 0,.int .i64 0] 30;have z1:(wA.alloc (.cells #[.slice none 0 0,.slice none 0 0,.int .i64 0,.slice none 0 0,.int .i64 0,.int .i64 0,.int .i64 0,.int .i64 0] 30)).heap.size=wA.heap.size+1:=by simp
  obtain⟨wB,hwB⟩:∃ y,wA.alloc (.cells #[.slice none 0 0,.slice none 0 0,.int .i64 0,.slice none 0 0,.int .i64 0,.int .i64 0,.int .i64 0,.int .i64 0] 30)=y:=⟨_,rfl⟩;rw [hwB] at b1 XR z1;have b2:=zb wB (.cells #[va,vb,.int .i64 L.segs,vu,.int .i64 L.ng,.int .i64 L.ns,.int .i64 L.st,.int .i64 L.nv] 30);have XO:=Box.new wB #[va,vb,.int .i64 L.segs,vu,.int .i64 L.ng,.int .i64 L.ns,.int .i64 L.st,.int .i64 L.nv] 30;have z2:(wB.alloc (.cells #[va,vb,.int .i64 L.segs,vu,.int .i64 L.ng,.int .i64 L.ns,.int .i64 L.st,.int .i64 L.nv] 30)).heap.size=wB.heap.size+1:=by simp
  obtain⟨W,hW⟩:∃ y,wB.alloc (.cells #[va,vb,.int .i64 L.segs,vu,.int .i64 L.ng,.int .i64 L.ns,.int .i64 L.st,.int .i64 L.nv] 30)=y:=⟨_,rfl⟩;rw [hW] at b2 XO z2;have HX0:=hid ((X0.later b1).later b2);have HXR:=hid (XR.later b2);have HXO:=hid XO;have hbW:=(b0.trans (b1.mono b0.size)).trans (b2.mono (by omega));have HBW:=hid hbW;obtain⟨g0,hg0⟩:∃ g,w.heap.size=g:=⟨_,rfl⟩;obtain⟨gr,hgr⟩:∃ g,wA.heap.size=g:=⟨_,rfl⟩;obtain⟨g3,hg3⟩:∃ g,wB.heap.size=g:=⟨_,rfl⟩;rw [hg0] at HX0;rw [hgr] at HXR;rw [hg3] at HXO;have HWA:=hid hwA;have HWB:=hid hwB;have HWW:=hid hW;have HGA:=hid hg0;have HGB:Hid (g0+1=gr):=by show _=_;omega
  have HGC:Hid (gr+1=g3):=by show _=_;omega
  have HWS:Hid (W.heap.size=g3+1):=by show _=_;omega
  have HLO:Hid (w.heap.size≤g0∧g0 < gr∧gr < g3):=⟨by omega,by omega,by omega⟩;obtain⟨a1,a2,a3,c1,c2,c3,rfl,rfl,rfl⟩:=hp.form;obtain⟨au,cu,eu,hrow⟩:=hp.use.own.rd.segs;cases eu
  have HR:Hid _:=hrow;have HIL:=hid hil;have HCD:=hid (zE L.d _ B T W (hp.later hbW).down hsm);clear hp hL hsm hit hil hrow X0 XR XO b0 b1 b2 z0 z1 z2 hwA hwB hW hg0 hgr hg3 hbW;go_enter Tryz.func46,Tryz.ntmps46
  obtain⟨y0,y1,y2,y3,y4,y5,y6,y7⟩:=HX0.out.eightO;go_upto_region 2 with fail
  rw [HWA.out,HWB.out,HWW.out,HGA.out,HGB.out,HGC.out];go_wp2_with fail
  refine HCD.out.mono ?_;rintro e wD ⟨vD,rfl,oD,kD⟩;obtain⟨q1,q2,d1,d2,rfl⟩:=oD.form;clear HCD y0 y1 y2 y3 y4 y5 y6 y7;have XD:=HXO.out.later kD;have hgW:g3 < W.heap.size:=by have:=HWS.out;omega
  have hlo:w.heap.size≤g3:=by have:=HLO.out;omega
  have z2:((wD.setCell ⟨g3,0,none⟩ (.slice q1 L.d.sec.length d1)).setCell ⟨g3,1,none⟩ (.slice q2 L.d.cache.length d2)).heap.size=wD.heap.size:=by simp
  have I0:CpS w W L wD.heap.size g3 (.slice q1 L.d.sec.length d1) (.slice q2 L.d.cache.length d2) 0 ((((wD.setCell ⟨g3,0,none⟩ (.slice q1 L.d.sec.length d1)).setCell ⟨g3,1,none⟩ (.slice q2 L.d.cache.length d2)).alloc (.cells #[] 60)).setCell ⟨g3,3,none⟩ (.slice (some ⟨wD.heap.size,0,none⟩) 0 0)) (some ⟨wD.heap.size,0,none⟩) 0 []:=by
    obtain⟨w2,hw2⟩:∃ y,(wD.setCell ⟨g3,0,none⟩ (.slice q1 L.d.sec.length d1)).setCell ⟨g3,1,none⟩ (.slice q2 L.d.cache.length d2)=y:=⟨_,rfl⟩;have X2:=(XD.set 0 (.slice q1 L.d.sec.length d1)).set 1 (.slice q2 L.d.cache.length d2);have o2:=(oD.store g3 0 (.slice q1 L.d.sec.length d1) hgW).store g3 1 (.slice q2 L.d.cache.length d2) hgW;have hb2:Below w.heap.size w ((wD.setCell ⟨g3,0,none⟩ (.slice q1 L.d.sec.length d1)).setCell ⟨g3,1,none⟩ (.slice q2 L.d.cache.length d2)):=((HBW.out.trans (kD.mono HBW.out.size)).setCell (p:=⟨g3,0,none⟩) hlo _).setCell (p:=⟨g3,1,none⟩) hlo _;have hold:∀ q,q < g3→((wD.setCell ⟨g3,0,none⟩ (.slice q1 L.d.sec.length d1)).setCell ⟨g3,1,none⟩ (.slice q2 L.d.cache.length d2)).heap[q]? =W.heap[q]? :=fun q hq=>((za _ g3 1 _).block q (by have h5:=kD.size;simp;omega) (fun e=>by have h5:=Option.some.inj e;omega)).trans (((za _ g3 0 _).block q (by have h5:=kD.size;omega) (fun e=>by have h5:=Option.some.inj e;omega)).trans (kD.block q (by omega)));rw [hw2] at X2 o2 hb2 hold z2 ⊢;have hfr:=RBuf.fresh sgE w2;rw [z2] at hfr;have kA:=zb w2 (.cells #[] 60);have hgg:=za (w2.alloc (.cells #[] 60)) g3 3 (.slice (some ⟨wD.heap.size,0,none⟩) 0 0);have hrow3:RBuf sgE wD.heap.size ((w2.alloc (.cells #[] 60)).setCell ⟨g3,3,none⟩ (.slice (some ⟨wD.heap.size,0,none⟩) 0 0)) ((w2.alloc (.cells #[] 60)).setCell ⟨g3,3,none⟩ (.slice (some ⟨wD.heap.size,0,none⟩) 0 0)) (.slice (some ⟨wD.heap.size,0,none⟩) 0 0) []:=by
      have h6:RBuf sgE wD.heap.size (w2.alloc (.cells #[] 60)) (w2.alloc (.cells #[] 60)) (.slice (some ⟨wD.heap.size,0,none⟩) 0 0) []:=hfr.here;exact h6.shift hgg (.inr (fun e=>by have h7:wD.heap.size=g3:=Option.some.inj e;have h5:=kD.size;omega))
    have o3:=(o2.later kA).store g3 3 (.slice (some ⟨wD.heap.size,0,none⟩) 0 0) hgW;have hws:=HWS.out;refine⟨(X2.later kA).set 3 _,⟨hrow3,rfl,fun j x b h1=>(by cases h1),fun j x h1=>(by cases h1),fun i j x y h1=>(by cases h1)⟩,by rw [hws] at o3;exact o3,(hb2.trans (kA.mono hb2.size)).setCell (p:=⟨g3,3,none⟩) hlo _,hlo,by have h5:=kD.size;omega,by simp [z2],fun q hq=>?_⟩;exact(hgg.block q (by have h5:=kD.size;simp [z2];omega) (fun e=>by have h5:=Option.some.inj e;omega)).trans ((kA.block q (by have h5:=kD.size;omega)).trans (hold q hq))
  obtain⟨r0,r1,r2,r3,r4,r5,r6,r7,f0,f1,f2,f3,f4,f5,f6,f7⟩:=XD.eightL;have X3:Box (((wD.setCell ⟨g3,0,none⟩ (.slice q1 L.d.sec.length d1)).setCell ⟨g3,1,none⟩ (.slice q2 L.d.cache.length d2)).alloc (.cells #[] 60)) g3 #[.slice q1 L.d.sec.length d1,.slice q2 L.d.cache.length d2,.int .i64 L.segs,.slice a3 L.used.length c3,.int .i64 L.ng,.int .i64 L.ns,.int .i64 L.st,.int .i64 L.nv] 30:=((XD.set 0 _).set 1 _).later (zb _ _);obtain⟨_,_,_,t3,_,_,_,_,_,_,_,v3,_,_,_,_⟩:=X3.eightL;have HI0:=hid I0;obtain⟨CC,hCC⟩:∃ CC,wD.heap.size=CC:=⟨_,rfl⟩;have HCC:=hid hCC;clear I0 oD kD XD X3 hgW hlo;go_upto_region 4 with fail
  rw [hCC] at HI0;generalize ((((wD.setCell ⟨g3,0,none⟩ (.slice q1 L.d.sec.length d1)).setCell ⟨g3,1,none⟩ (.slice q2 L.d.cache.length d2)).alloc (.cells #[] 60)).setCell ⟨g3,3,none⟩ (.slice (some ⟨CC,0,none⟩) 0 0))=w4 at HI0 ⊢;clear r0 r1 r2 r3 r4 r5 r6 r7 f0 f1 f2 f3 f4 f5 f6 f7 t3 v3 z2 hCC HCC;go_wp2_with fail
  go_loopw [4] (fun iv wr=>∃(k:Nat) (a:Option Addr) (c:Nat) (hk:List SgH),k≤L.used.length∧iv=.int .i64 (k:Int)∧CpS w W L CC g3 (.slice q1 L.d.sec.length d1) (.slice q2 L.d.cache.length d2) k wr a c hk) (fun iv _=>L.used.length -(intOf iv).toNat)
  case atStart=>exact⟨0,_,_,_,by omega,rfl,HI0.out⟩
  case round=>
    clear HI0;obtain⟨k,a,c,hk,hkl,rfl,I⟩:=hrel;have Y0:Box wr g0 #[.slice a1 L.d.sec.length c1,.slice a2 L.d.cache.length c2,.int .i64 L.segs,.slice a3 L.used.length c3,.int .i64 L.ng,.int .i64 L.ns,.int .i64 L.st,.int .i64 L.nv] 30:=(I.old g0 (by have:=HLO.out;omega)).trans HX0.out;by_cases hlt:k < L.used.length
    · obtain ⟨s,hgs⟩:∃ s,L.used[k]? =some s:=⟨_,List.getElem?_eq_getElem hlt⟩
      obtain⟨ga,oa,am,nm,cm,rfl,e0,e1,e2,e3,rm⟩:=HR.out _ I.bel k s hgs;obtain⟨y0,y1,y2,y3,y4,y5,y6,y7⟩:=Y0.eightO;have kS:=zb wr (.cells #[.int .i64 s.no,.int .i64 s.gen,.int .i64 s.ende,.slice am nm cm] 60);have XS:=Box.new wr #[.int .i64 s.no,.int .i64 s.gen,.int .i64 s.ende,.slice am nm cm] 60;have HI:=hid I;have HGS:=hid hgs;have hi0:(0:Int)≤(k:Int):=(by omega);have hi1:(k:Int) <(L.used.length:Int):=(by omega);have rmS:=rm.later (I.bel.trans (kS.mono I.bel.size));clear hgs I Y0;go_upto_region 8 with fail
      clear e0 e1 e2 e3 y0 y1 y2 y3 y4 y5 y6 y7;obtain⟨wS,hwS⟩:∃ wS,wr.alloc (.cells #[.int .i64 s.no,.int .i64 s.gen,.int .i64 s.ende,.slice am nm cm] 60)=wS:=⟨_,rfl⟩;have hzS:wS.heap.size=wr.heap.size+1:=(by rw [←hwS];simp);obtain⟨gs,hgs⟩:∃ gs,wr.heap.size=gs:=⟨_,rfl⟩;rw [hwS] at XS kS rmS ⊢;rw [hgs] at XS ⊢;clear hwS;have RF:RBuf itE wS.heap.size (wS.alloc (.cells #[] 44)) (wS.alloc (.cells #[] 44)) (.slice (some ⟨wS.heap.size,0,none⟩) 0 0) []:=(RBuf.fresh itE wS).here;have kF:=zb wS (.cells #[] 44);have HM:=hid (rmS.later kF);have x3:=(XS.later kF).cell 3 (.slice am nm cm) rfl;have HKS:=hid kS;have HXS:=hid XS;have HRF:=hid RF;have HZS:Hid (wS.heap.size=gs+1∧wr.heap.size=gs):=⟨by omega,hgs⟩;have hil:=HIL.out s (List.mem_of_getElem? HGS.out);clear XS kS rmS rm RF hzS hgs;go_wp2_with (first
        | (
            at_builtin
            refine zX rfl _ _ itE rfl wS.heap.size _ [] rfl HRF.out _ s.items rfl HM.out (by show _ * 97≤_;simp only [List.length_nil];omega) ?_
            intro v6 w6 r6 g6 at6
            rw [List.nil_append] at r6
            obtain⟨a6,c6,rfl⟩:=r6.form
            have b6:Below wS.heap.size wS w6:=kF.grown g6 (by simp) (fun q hq=>by have h7:wS.heap.size=q:=Option.some.inj hq;omega)
            have X6:=HXS.out.later b6
            have m3:=X6.cell 3 (.slice am nm cm) rfl
            have n3:=X6.loose 3
            have X7:=X6.set 3 (.slice a6 s.items.length c6)
            have hg7:=za w6 gs 3 (.slice a6 s.items.length c6)
            have b7:Below wr.heap.size wr (w6.setCell ⟨gs,3,none⟩ (.slice a6 s.items.length c6)):=(HKS.out.trans (b6.mono HKS.out.size)).setCell (p:=⟨gs,3,none⟩) (by have:=HZS.out;show wr.heap.size≤gs;omega) _
            have r7:RBuf itE wS.heap.size (w6.setCell ⟨gs,3,none⟩ (.slice a6 s.items.length c6)) (w6.setCell ⟨gs,3,none⟩ (.slice a6 s.items.length c6)) (.slice a6 s.items.length c6) s.items:=r6.shift hg7 (by
              cases ho:(Value.slice a6 s.items.length c6).ownBlock with
              | none=>exact .inl rfl
              | some q=>exact .inr (fun e=>by have h1:=Option.some.inj e;have h2:=(r6.own.lt q ho).1;have h3:=HZS.out;omega))
            have HR7:=hid r7;have HB7:=hid b7;have Y7:=HI.out.box.later b7;have o3:=Y7.cell 3 (.slice a k c) rfl;have s0:=X7.cell 0 (.int .i64 s.no) rfl;have s1:=X7.cell 1 (.int .i64 s.gen) rfl;have s2:=X7.cell 2 (.int .i64 s.ende) rfl;have s3:=X7.cell 3 (.slice a6 s.items.length c6) rfl;clear at6 g6 r6 r7 X6 X7 hg7 b6 b7 HRF HM x3
          )
        | (
            at_builtin
            have hz7:(w6.setCell ⟨gs,3,none⟩ (.slice a6 s.items.length c6)).heap.size=w6.heap.size:=by simp
            obtain⟨w7,hw7⟩:∃ y,w6.setCell ⟨gs,3,none⟩ (.slice a6 s.items.length c6)=y:=⟨_,rfl⟩
            rw [hw7] at hz7 HR7 HB7 Y7 o3 s0 s1 s2 s3 ⊢
            clear hw7 m3 n3
            have k8:=zb w7 (.cells #[.int .i64 s.no,.int .i64 s.gen,.int .i64 s.ende,.slice a6 s.items.length c6] 60)
            have l1:=RBuf.lit1 sgE w7 ⟨s.no,s.gen,s.ende,a6,s.items.length,c6⟩
            rw [hz7] at l1
            have L1:=hid l1
            clear l1
            have HB8:=hid (HB7.out.trans (k8.mono HB7.out.size))
            have HG8:=hid (HI.out.segs.later HB8.out).row
            have HR8:Hid (RBuf itE wr.heap.size (w7.alloc (.cells #[.int .i64 s.no,.int .i64 s.gen,.int .i64 s.ende,.slice a6 s.items.length c6] 60)) (w7.alloc (.cells #[.int .i64 s.no,.int .i64 s.gen,.int .i64 s.ende,.slice a6 s.items.length c6] 60)) (.slice a6 s.items.length c6) s.items):=((HR7.out.later k8).here.down (Below.refl _ _) (by have:=HZS.out;omega))
            have hhl:hk.length≤1048576:=by have h1:=HI.out.segs.len;rw [List.length_take] at h1;omega
            clear k8
            refine zA rfl _ _ sgE rfl CC _ hk rfl HG8.out _ _ [(⟨s.no,s.gen,s.ende,a6,s.items.length,c6⟩:SgH)] rfl L1.out (by show _ * 49≤_;simp only [List.length_cons,List.length_nil];omega) ?_
            intro v9 w9 r9 g9 at9
            obtain⟨a9,c9,rfl,I9⟩:=HI.out.push HB8.out HGS.out HR8.out r9 g9 at9
            have hsz:=HI.out.size
            have hsz2:=HB8.out.size
            have Y9:Box w9 g3 #[.slice q1 L.d.sec.length d1,.slice q2 L.d.cache.length d2,.int .i64 L.segs,.slice a k c,.int .i64 L.ng,.int .i64 L.ns,.int .i64 L.st,.int .i64 L.nv] 30:=(g9.block g3 (by have:=HI.out.hi;omega) (fun e=>by have h4:=(HI.out.segs.where'.1 g3 e.symm).1;have h5:=HI.out.hi;omega)).trans (HI.out.box.later HB8.out)
            have t3:=Y9.cell 3 (.slice a k c) rfl
            have u3:=Y9.loose 3
            have HI9:=hid I9
            clear I9 r9 g9 at9 Y9 Y7 o3 s0 s1 s2 s3 hsz hsz2
          ))
      exact⟨⟨k+1,_,_,_,by omega,by simp,HI9.out⟩,by first | omega |(simp [intOf];omega)⟩
    · have hke:k=L.used.length:=by omega
      obtain⟨y0,y1,y2,y3,y4,y5,y6,y7⟩:=Y0.eightO;subst hke;have hln:¬(L.used.length:Int) <(L.used.length:Int):=(by omega);have XT:Box wr gr #[.slice none 0 0,.slice none 0 0,.int .i64 0,.slice none 0 0,.int .i64 0,.int .i64 0,.int .i64 0,.int .i64 0] 30:=(I.old gr (by have:=HLO.out;omega)).trans HXR.out;obtain⟨s0,s1,s2,s3,s4,s5,s6,s7⟩:=I.box.eightO;have P3:=I.done rfl;have RX:=XT.set8L (.slice q1 L.d.sec.length d1) (.slice q2 L.d.cache.length d2) (.int .i64 L.segs) (.slice a L.used.length c) (.int .i64 L.ng) (.int .i64 L.ns) (.int .i64 L.st) (.int .i64 L.nv);have hgrw:w.heap.size≤gr:=(by have:=HLO.out;omega);have BXX:=zB I.bel hgrw (.slice q1 L.d.sec.length d1) (.slice q2 L.d.cache.length d2) (.int .i64 L.segs) (.slice a L.used.length c) (.int .i64 L.ng) (.int .i64 L.ns) (.int .i64 L.st) (.int .i64 L.nv);obtain⟨u0,u1,u2,u3,u4,u5,u6,u7⟩:=RX.eightO;have g9:=zI wr gr (.slice q1 L.d.sec.length d1) (.slice q2 L.d.cache.length d2) (.int .i64 L.segs) (.slice a L.used.length c) (.int .i64 L.ng) (.int .i64 L.ns) (.int .i64 L.st) (.int .i64 L.nv);have hgC:gr < g3+1:=(by have:=HLO.out;omega);have HL2:Hid (LgO w.heap.size (set8L wr gr (.slice q1 L.d.sec.length d1) (.slice q2 L.d.cache.length d2) (.int .i64 L.segs) (.slice a L.used.length c) (.int .i64 L.ng) (.int .i64 L.ns) (.int .i64 L.st) (.int .i64 L.nv)).heap.size (set8L wr gr (.slice q1 L.d.sec.length d1) (.slice q2 L.d.cache.length d2) (.int .i64 L.segs) (.slice a L.used.length c) (.int .i64 L.ng) (.int .i64 L.ns) (.int .i64 L.st) (.int .i64 L.nv)) (.agg #[.slice q1 L.d.sec.length d1,.slice q2 L.d.cache.length d2,.int .i64 L.segs,.slice a L.used.length c,.int .i64 L.ng,.int .i64 L.ns,.int .i64 L.st,.int .i64 L.nv]) L):=by
        have hsgs:=I.segs;rw [List.take_of_length_le (Nat.le_refl _)] at hsgs;have hpp:LgP (g3+1) wr.heap.size wr (.slice q1 L.d.sec.length d1) (.slice q2 L.d.cache.length d2) (.slice a L.used.length c) L hk:=LgP.mk2 I.disk hsgs.gown (Nat.le_refl _) (by have:=I.hi;omega) I.size;have hs9:=hpp.stay g9.size (fun q h1 h2=>g9.block q h2 (fun e=>by have:=Option.some.inj e;omega));exact⟨_,_,_,hk,rfl,hs9.widen (by have:=HLO.out;omega) (by have:=hs9.sec.2.1;omega) (Nat.le_refl _)⟩
      have HBZ:=hid BXX;obtain⟨r0,r1,r2,r3,r4,r5,r6,r7,f0,f1,f2,f3,f4,f5,f6,f7⟩:=XT.eightL;unfold set8L at u0 u1 u2 u3 u4 u5 u6 u7 HL2 HBZ;clear XT RX BXX g9 P3 I Y0;go_wp2;refine bodyPost_ret (v:=.agg #[.slice q1 L.d.sec.length d1,.slice q2 L.d.cache.length d2,.int .i64 L.segs,.slice a L.used.length c,.int .i64 L.ng,.int .i64 L.ns,.int .i64 L.st,.int .i64 L.nv]) (by simp [results,Tryz.results46,go_sem,u0,u1,u2,u3,u4,u5,u6,u7]) rfl ?_;exact⟨_,rfl,HL2.out,HBZ.out⟩
end Go.Proofs.YtklkhllkjnbhjaaGreatDoor
