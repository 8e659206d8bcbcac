/- Texts of our own, joined. -/
import Derived.Test.YtklkhllkjnbhjaaGreatDoorJyx
/- Logs held against each other: SameLog of both, the whole of it. -/
namespace Go.Proofs.YtklkhllkjnbhjaaGreatDoor
open Go.RowKit
open Lib (hid)
set_option maxRecDepth 100000
set_option maxHeartbeats 8000000
def Lg.same (a b:Lg):Prop:=a.used=b.used∧a.ng=b.ng∧a.ns=b.ns∧a.nv=b.nv
theorem yZ (L M:Lg) (v1 v2:Value) (w:World) (h1:LRd w v1 L) (h2:LRd w v2 M) (hl:L.used.length≤1099511627776) (hm:∀ b∈L.used,b.items.length≤1099511627776):
    Calls Tryz.prog 10 #[v1,v2] w fun e w'=>e=.returned (.bool (sameP (L.same M)))∧Below w.heap.size w w':=by
  obtain⟨va,vb,vu,rfl,_,ha⟩:=h1;obtain⟨vc,vd,vx,rfl,_,hb⟩:=h2;obtain⟨ad,cap,rfl,hrowa⟩:=ha.segs;obtain⟨ad2,cap2,rfl,hrowb⟩:=hb.segs;have HA:=hid hrowa;have HB:=hid hrowb;have HMA:=hid hm;clear ha hb hrowa hrowb hm;obtain⟨D,hD⟩:∃ D,sameP (L.same M)=D:=⟨_,rfl⟩;have HD:=hid hD;rw [hD];clear hD;obtain⟨d1,s1,ps,g1,m1,t1,x1⟩:=L;obtain⟨d2,s2,qs,g2,m2,t2,x2⟩:=M;unfold Lg.same at HD;simp only at HA HB HD HMA hl ⊢;have b0:Below w.heap.size w ((w.alloc (.cells #[va,vb,.int .i64 s1,.slice ad ps.length cap,.int .i64 g1,.int .i64 m1,.int .i64 t1,.int .i64 x1] 30)).alloc (.cells #[vc,vd,.int .i64 s2,.slice ad2 qs.length cap2,.int .i64 g2,.int .i64 m2,.int .i64 t2,.int .i64 x2] 30)):=((Below.refl _ _).alloc (Nat.le_refl _) _).alloc (by simp) _;by_cases hlen:ps.length=qs.length
  case neg=>
    have hne:¬((ps.length:Int)=(qs.length:Int)):=by omega
    have HE:Hid (D=false):=by show D=false;rw [←HD.out];exact zi (fun e=>hlen (by rw [e.1]))
    clear hlen;go_enter Tryz.func10,Tryz.ntmps10
    go_wp2;go_ret;exact⟨by rw [HE.out];rfl,b0⟩
  obtain⟨n,hn⟩:∃ n,ps.length=n:=⟨_,rfl⟩;have hm':qs.length=n:=by omega
  have HN:=hid hn;have HM:=hid hm';rw [hn] at hl b0;rw [hm'] at b0;rw [hn,hm'];clear hn hm' hlen;by_cases e0:g1=g2
  case neg=>
    go_enter Tryz.func10,Tryz.ntmps10
    go_wp2;go_ret;exact⟨by rw [←HD.out,zi (fun e=>e0 e.2.1)];rfl,b0⟩
  subst e0;by_cases e1:m1=m2
  case neg=>
    go_enter Tryz.func10,Tryz.ntmps10
    go_wp2;go_ret;exact⟨by rw [←HD.out,zi (fun e=>e1 e.2.2.1)];rfl,b0⟩
  subst e1;by_cases e2:x1=x2
  case neg=>
    go_enter Tryz.func10,Tryz.ntmps10
    go_wp2;go_ret;exact⟨by rw [←HD.out,zi (fun e=>e2 e.2.2.2)];rfl,b0⟩
  subst e2;have X2:=(Box.new w #[va,vb,.int .i64 s1,.slice ad n cap,.int .i64 g1,.int .i64 m1,.int .i64 t1,.int .i64 x1] 30).later (zb _ (.cells #[vc,vd,.int .i64 s2,.slice ad2 n cap2,.int .i64 g1,.int .i64 m1,.int .i64 t2,.int .i64 x1] 30));have X3:Box ((w.alloc (.cells #[va,vb,.int .i64 s1,.slice ad n cap,.int .i64 g1,.int .i64 m1,.int .i64 t1,.int .i64 x1] 30)).alloc (.cells #[vc,vd,.int .i64 s2,.slice ad2 n cap2,.int .i64 g1,.int .i64 m1,.int .i64 t2,.int .i64 x1] 30)) (w.heap.size+1) #[vc,vd,.int .i64 s2,.slice ad2 n cap2,.int .i64 g1,.int .i64 m1,.int .i64 t2,.int .i64 x1] 30:=by
    have:=Box.new (w.alloc (.cells #[va,vb,.int .i64 s1,.slice ad n cap,.int .i64 g1,.int .i64 m1,.int .i64 t1,.int .i64 x1] 30)) #[vc,vd,.int .i64 s2,.slice ad2 n cap2,.int .i64 g1,.int .i64 m1,.int .i64 t2,.int .i64 x1] 30;rwa [show(w.alloc (.cells #[va,vb,.int .i64 s1,.slice ad n cap,.int .i64 g1,.int .i64 m1,.int .i64 t1,.int .i64 x1] 30)).heap.size=w.heap.size+1 from by simp] at this
  go_enter Tryz.func10,Tryz.ntmps10
  go_wp2;generalize (w.alloc (.cells #[va,vb,.int .i64 s1,.slice ad n cap,.int .i64 g1,.int .i64 m1,.int .i64 t1,.int .i64 x1] 30)).alloc (.cells #[vc,vd,.int .i64 s2,.slice ad2 n cap2,.int .i64 g1,.int .i64 m1,.int .i64 t2,.int .i64 x1] 30)=w1 at b0 X2 X3 ⊢;have BW:=hid b0;clear b0;generalize w.heap.size+1=g3 at X3 ⊢;generalize hg2:w.heap.size=gg at X2 ⊢;clear hg2;go_loopw [5] (fun iv wr=>∃ i:Nat,i≤n∧iv=.int .i64 (i:Int)∧(∀(j:Nat) (x y:Sg),ps[j]? =some x→qs[j]? =some y→j < i→x=y)∧Below w1.heap.size w1 wr) (fun iv _=>n -(intOf iv).toNat)
  case atStart=>exact⟨0,by omega,rfl,fun j x y _ _ hj=>by omega,Below.refl _ _⟩
  case round=>
    obtain⟨i,hi,rfl,hU,hb⟩:=hrel;have HU:=hid hU;clear hU;have Y2:wr.cell? ⟨gg,3,none⟩=some (.slice ad n cap):=(X2.later hb).cell 3 _ rfl;by_cases hlt:i < n
    · obtain ⟨x,hgx⟩:∃ x,ps[i]? =some x:=⟨_,List.getElem?_eq_getElem (by rw [HN.out];exact hlt)⟩
      obtain⟨y,hgy⟩:∃ y,qs[i]? =some y:=⟨_,List.getElem?_eq_getElem (by rw [HM.out];exact hlt)⟩;have bD:Below w1.heap.size w1 wr.drew:=hb.drew;have bW:Below w.heap.size w wr.drew:=BW.out.trans (bD.mono BW.out.size);obtain⟨gp,op,a1,n1,c1,rfl,p0,p1,p2,p3,ra⟩:=HA.out _ bW i _ hgx;obtain⟨gq,oq,a2,n2,c2,rfl,q0,q1,q2,q3,rb⟩:=HB.out _ bW i _ hgy;have Z2:wr.drew.cell? ⟨gg,3,none⟩=some (.slice (some ⟨gp,op,none⟩) n cap):=(X2.later bD).cell 3 _ rfl;have Z3:wr.drew.cell? ⟨g3,3,none⟩=some (.slice (some ⟨gq,oq,none⟩) n cap2):=(X3.later bD).cell 3 _ rfl;have HS:Hid (∀ X,Below wr.drew.heap.size wr.drew X→(X.cell? ⟨gp,op+i * 4,none⟩=some (.int .i64 x.no)∧X.cell? ⟨gp,op+i * 4+1,none⟩=some (.int .i64 x.gen)∧X.cell? ⟨gp,op+i * 4+2,none⟩=some (.int .i64 x.ende)∧X.cell? ⟨gp,op+i * 4+3,none⟩=some (.slice a1 n1 c1)∧
          X.cell? ⟨gq,oq+i * 4,none⟩=some (.int .i64 y.no)∧X.cell? ⟨gq,oq+i * 4+1,none⟩=some (.int .i64 y.gen)∧X.cell? ⟨gq,oq+i * 4+2,none⟩=some (.int .i64 y.ende)∧X.cell? ⟨gq,oq+i * 4+3,none⟩=some (.slice a2 n2 c2))∧X.cell? ⟨gg,3,none⟩=some (.slice (some ⟨gp,op,none⟩) n cap)∧X.cell? ⟨g3,3,none⟩=some (.slice (some ⟨gq,oq,none⟩) n cap2)):=by
        intro X hX;have cc:∀ {g o:Nat} {u:Value},wr.drew.cell? ⟨g,o,none⟩=some u→X.cell? ⟨g,o,none⟩=some u:=fun {g o u} h=>(hX.cell (p:=⟨g,o,none⟩) (World.block_lt_of_cell? _ _ h)).trans h;exact⟨⟨cc p0,cc p1,cc p2,cc p3,cc q0,cc q1,cc q2,cc q3⟩,cc Z2,cc Z3⟩
      have HE:=hid (fun wx (hx:Below w.heap.size w wx)=>ZU x y a1 a2 n1 n2 c1 c2 wx (ra.later hx) (rb.later hx) (HMA.out x (List.mem_of_getElem? hgx)));have HX:=hid hgx;have HY:=hid hgy;have HBW:=hid bW;have HB1:=hid bD;clear hgx hgy ra rb bD p0 p1 p2 p3 q0 q1 q2 q3 Z2 Z3 hb;have hi0:(0:Int)≤(i:Int):=(by omega);have hi1:(i:Int) <(n:Int):=(by omega);by_cases hxy:x=y
      · have HXY:=hid hxy
        rw [zx hxy] at HE;clear hxy;go_wp2;go_region_held3 (fun X=>(X.cell? ⟨gp,op+i * 4,none⟩=some (.int .i64 x.no)∧X.cell? ⟨gp,op+i * 4+1,none⟩=some (.int .i64 x.gen)∧X.cell? ⟨gp,op+i * 4+2,none⟩=some (.int .i64 x.ende)∧X.cell? ⟨gp,op+i * 4+3,none⟩=some (.slice a1 n1 c1)∧
          X.cell? ⟨gq,oq+i * 4,none⟩=some (.int .i64 y.no)∧X.cell? ⟨gq,oq+i * 4+1,none⟩=some (.int .i64 y.gen)∧X.cell? ⟨gq,oq+i * 4+2,none⟩=some (.int .i64 y.ende)∧X.cell? ⟨gq,oq+i * 4+3,none⟩=some (.slice a2 n2 c2))∧X.cell? ⟨gg,3,none⟩=some (.slice (some ⟨gp,op,none⟩) n cap)∧X.cell? ⟨g3,3,none⟩=some (.slice (some ⟨gq,oq,none⟩) n cap2))
          (first | exact HS.out _ (Below.refl _ _) | exact HS.out _ hb1)
          (first |(go_at_call 29;refine(HE.out _ HBW.out).mono ?_;rintro e w2 ⟨rfl,hb1⟩))
        all_goals
          go_wp2
          go_roundw
          case rel=>exact⟨i+1,by omega,by go_num,fun j u v h1 h2 hj=>by
            by_cases c:j=i
            · subst c
              have e1:=HX.out;have e2:=HY.out;rw [h1] at e1;rw [h2] at e2;cases e1;cases e2
              exact HXY.out
            · exact HU.out j u v h1 h2 (by omega),HB1.out.trans (hb1.mono HB1.out.size)⟩
          case measure=>simp [intOf];omega
      · rw [zi hxy] at HE
        have HF:Hid (D=false):=by
          show D=false
          rw [←HD.out];exact zi (fun e4=>hxy (by
            have e1:=HX.out;rw [e4.1,HY.out] at e1;exact(Option.some.inj e1).symm))
        clear hxy;go_wp2;go_region_held3 (fun X=>(X.cell? ⟨gp,op+i * 4,none⟩=some (.int .i64 x.no)∧X.cell? ⟨gp,op+i * 4+1,none⟩=some (.int .i64 x.gen)∧X.cell? ⟨gp,op+i * 4+2,none⟩=some (.int .i64 x.ende)∧X.cell? ⟨gp,op+i * 4+3,none⟩=some (.slice a1 n1 c1)∧
          X.cell? ⟨gq,oq+i * 4,none⟩=some (.int .i64 y.no)∧X.cell? ⟨gq,oq+i * 4+1,none⟩=some (.int .i64 y.gen)∧X.cell? ⟨gq,oq+i * 4+2,none⟩=some (.int .i64 y.ende)∧X.cell? ⟨gq,oq+i * 4+3,none⟩=some (.slice a2 n2 c2))∧X.cell? ⟨gg,3,none⟩=some (.slice (some ⟨gp,op,none⟩) n cap)∧X.cell? ⟨g3,3,none⟩=some (.slice (some ⟨gq,oq,none⟩) n cap2))
          (first | exact HS.out _ (Below.refl _ _) | exact HS.out _ hb1)
          (first |(go_at_call 29;refine(HE.out _ HBW.out).mono ?_;rintro e w2 ⟨rfl,hb1⟩))
        all_goals
          go_wp2
          go_ret
          exact⟨by rw [HF.out];rfl,HBW.out.trans (hb1.mono HBW.out.size)⟩
    · have HE:Hid (D=true):=by
        show D=true
        rw [←HD.out];have e4:ps=qs:=qf (HN.out.trans HM.out.symm) (fun j x y h1 h2=>HU.out j x y h1 h2 (by have:=(List.getElem?_eq_some_iff.1 h1).1;have:=HN.out;omega));exact zx (by simp [e4])
      go_wp2;go_ret;exact⟨by rw [HE.out];rfl,BW.out.trans (hb.mono BW.out.size)⟩

/- Items in another order, plainly. -/

/- What is drawn for the chapter on frames: the draws themselves, and laws.sameFrames. -/

/- What is drawn for the chapter on frames: a list of right frames of one Gen. -/

/- laws.mixed: items in another order. -/

/- What is drawn for the chapter on what records tell: right items. -/

/- What the laws on what records tell share. -/
theorem Xw(a:Option Addr)(len cap:Nat)(w:World):
    Calls Tryz.prog 5 #[.slice a len cap] w fun e w'=>e=.returned (.bool (decide ((1048576:Int) <(len:Int))))∧w=w':=by
  go_enter Tryz.func5,Tryz.ntmps5
  go_wp2;go_ret;exact⟨rfl,rfl⟩
end Go.Proofs.YtklkhllkjnbhjaaGreatDoor
