/- Texts of our own, joined. -/
import Derived.Test.YtklkhllkjnbhjaaGreatDoorJt
/- What stays so of a log while right items are appended to it, plainly. -/
namespace Go.Proofs.YtklkhllkjnbhjaaGreatDoor
open Go.RowKit
open Lib (hid)
set_option maxRecDepth 100000
set_option maxHeartbeats 8000000
structure LgV (L:Lg) (k:Nat):Prop where
  ok:OpH L
  head:∃(u:List Sg) (s:Sg),L.used=u++ [s]∧(0≤s.no∧s.no≤10∧8+8 * s.no.toNat < L.d.sec.length)∧(0≤s.ende∧s.ende≤256)∧(1≤s.gen∧s.gen≤1000000000)
  len:L.used.length≤k+1
  its:gIts L.used≤k
  ns:1≤L.ns∧L.ns≤(k:Int) +1
theorem yz:∀(u:List Sg) (s:Sg),gIts (u++ [s])=gIts u+s.items.length
  | [],s=>by simp [gIts]
  | b::u,s=>by
    have h:=yz u s
    simp only [List.cons_append,gIts,h]
    omega
theorem Xj{d D:Dk}{s A:Nat}{t:ByteArray}(h:d.ok)(hw:sgW d s A t=some D):D.ok∧D.sec.length=d.sec.length∧A+t.size≤256:=by
  unfold sgW at hw
  split at hw
  case isFalse=>cases hw
  case isTrue hc=>
    obtain⟨r1,r2⟩:=vq _ _ (Nat.le_refl _) d D _ _ (by omega) h hw;exact⟨r1,r2,hc⟩
theorem LgV.more{L:Lg}{k k':Nat}(h:LgV L k)(hk:k≤k'):LgV L k':=⟨h.ok,h.head,by have:=h.len;omega,by have:=h.its;omega,by have:=h.ns;omega⟩
theorem LgV.openV {L L':Lg} {k:Nat} {keep:Int} (hok:OpH L) (hlen:L.used.length≤k) (hits:gIts L.used≤k) (hns:1≤L.ns∧L.ns≤(k:Int) +1) (ho:opO L keep=some L'):LgV L' k:=by
  have hng:L.ng < 1000000000∧L'.ng=L.ng+1∧L'.segs=L.segs∧L'.ns=L.ns:=by
    unfold opO at ho
    split at ho
    case isFalse=>cases ho
    case isTrue hc=>
      cases hw:sgW L.d (opN L) 0 (hdT L.ng) with
      | none=>rw [hw] at ho;cases ho
      | some d=>
        rw [hw] at ho;have ho2:opL L d=L':=Option.some.inj ho;subst ho2;exact⟨hc.2.2,rfl,rfl,rfl⟩
  obtain⟨h1,h2,h3,h4,h5⟩:=J3 hok ho;obtain⟨g1,g2,g3,g4⟩:=hng;have hs:=yk hok.gen;have hgen:=hok.gen;refine⟨⟨h1,by rw [g3];exact hok.segs,by rw [g3,h2];exact hok.room,by rw [g2];omega⟩,⟨L.used,_,h3,?_,?_,hgen⟩,?_,?_,?_⟩
  · exact⟨by show(0:Int)≤(opN L:Int);omega,by show(opN L:Int)≤10;omega,by show 8+8 *(opN L:Int).toNat < _;rw [h2];omega⟩
  · exact⟨by show(0:Int)≤((hdT L.ng).size:Int);omega,by show((hdT L.ng).size:Int)≤256;omega⟩
  · rw [h3];simp;omega
  · rw [h3,yz]
    show _+0≤_
    omega
  · rw [g4];omega
theorem LgV.open{L L':Lg}{k:Nat}{keep:Int}(h:LgV L k)(ho:opO L keep=some L'):LgV L' (k+1):=
  LgV.openV h.ok h.len (by have:=h.its;omega) (by have:=h.ns;omega) ho
theorem LgV.disk{L:Lg}{k:Nat}(h:LgV L k){d:Dk}(hd:d.ok)(hl:d.sec.length=L.d.sec.length)(st:Int):LgV ⟨d,L.segs,L.used,L.ng,L.ns,st,L.nv⟩ k:=by
  obtain⟨u,s,hu,hno,hen,hgn⟩:=h.head;exact⟨⟨hd,h.ok.segs,by show _≤d.sec.length;rw [hl];exact h.ok.room,h.ok.gen⟩,⟨u,s,hu,⟨hno.1,hno.2.1,by show _ < d.sec.length;rw [hl];exact hno.2.2⟩,hen,hgn⟩,h.len,h.its,h.ns⟩
theorem LgV.write{L:Lg}{k:Nat}{x:Itm}(h:LgV L k)(hx1:x.1≤(k:Int) +1)(hx0:1≤x.1):LgV (wrO L x).1 (k+1):=by
  obtain⟨u,s,hu,hno,hen,hgn⟩:=h.head;cases hw:sgW L.d s.no.toNat s.ende.toNat (itF s.gen x).tx with
  | none=>rw [Z8 hu hw];exact h.more (by omega)
  | some D=>
    rw [yI hu hw];obtain⟨r1,r2,r3⟩:=Xj h.ok.ok hw;obtain⟨f1,f2,_⟩:=YZ r1;have hz:(flD D).sec.length=L.d.sec.length:=f2.trans r2;have hlen:=h.len;have hits:=h.its;have hns:=h.ns;rw [hu] at hlen hits;rw [yz] at hits;simp only [List.length_append,List.length_cons,List.length_nil] at hlen;refine⟨⟨f1,h.ok.segs,by show _≤(flD D).sec.length;rw [hz];exact h.ok.room,h.ok.gen⟩,⟨u,_,rfl,⟨hno.1,hno.2.1,by show _ <(flD D).sec.length;rw [hz];exact hno.2.2⟩,⟨by show 0≤s.ende+((itF s.gen x).tx.size:Int);omega,by show s.ende+((itF s.gen x).tx.size:Int)≤256;omega⟩,hgn⟩,?_,?_,?_⟩
    · show(u++ [_]).length≤_
      simp only [List.length_append,List.length_cons,List.length_nil];omega
    · show gIts (u++ [_])≤_
      rw [yz];simp only [List.length_append,List.length_cons,List.length_nil];omega
    · show 1≤(if L.ns≤x.1 then x.1+1 else L.ns)∧(if L.ns≤x.1 then x.1+1 else L.ns)≤_
      split <;> omega
theorem LgV.append{L:Lg}{k:Nat}{x:Itm}{keep:Int}(h:LgV L k)(hx1:x.1≤(k:Int) +1)(hx0:1≤x.1):LgV (apO L x keep).1 (k+2):=by
  by_cases hf:fitsP L x
  · rw [Yv hf]
    exact(h.write hx1 hx0).more (by omega)
  · cases ho:opO L keep with
    | none=>rw [Ye hf ho];exact h.more (by omega)
    | some L1=>rw [yF hf ho];exact(h.open ho).write (by omega) hx0

/- What is fixed of a log: while its references are gathered. -/
def ckOf (L:Lg):Ck:=⟨IntKind.i64.wrap (L.st+1),L.ng,L.ns,L.nv,L.used.map (fun s=>(s.no,s.gen))⟩
theorem zaC{u:List Sg}{i:Nat}{s:Sg}(h:u[i]? =some s):(u.take (i+1)).map (fun s=>(s.no,s.gen))=(u.take i).map (fun s=>(s.no,s.gen)) ++ [(s.no,s.gen)]:=by
  rw [List.take_add_one,h];simp
theorem Box.butC{w X:World}{b:Nat}{cs:Array Value}{t:TypeId}{r:Option Nat}(h:Box w b cs t)(hg:w.grownBy X r)(hne:∀ k,r=some k→k≠b):Box X b cs t:=(hg.block b h.lt (fun e=>hne b e.symm rfl)).trans h
theorem Box.set5C{w:World}{b:Nat}{u0 u1 u2 u3 u4:Value}{t:TypeId}(h:Box w b #[u0,u1,u2,u3,u4] t)(v0 v1 v2 v3 v4:Value):Box (((((w.setCell ⟨b,0,none⟩ v0).setCell ⟨b,1,none⟩ v1).setCell ⟨b,2,none⟩ v2).setCell ⟨b,3,none⟩ v3).setCell ⟨b,4,none⟩ v4) b #[v0,v1,v2,v3,v4] t:=((((h.set 0 v0).set 1 v1).set 2 v2).set 3 v3).set 4 v4
theorem RBuf.set5C{α:Type}{E:Enc α}{B g:Nat}{w0 x:World}{v:Value}{l:List α}(h:RBuf E B x x v l)(hb:Below w0.heap.size w0 x)(hB:w0.heap.size≤B)(hg:g < B)(hw:w0.heap.size≤g)(v0 v1 v2 v3 v4:Value):RBuf E w0.heap.size w0 (((((x.setCell ⟨g,0,none⟩ v0).setCell ⟨g,1,none⟩ v1).setCell ⟨g,2,none⟩ v2).setCell ⟨g,3,none⟩ v3).setCell ⟨g,4,none⟩ v4) v l:=by
  have hne:v.ownBlock=none∨v.ownBlock≠some g:=.inr (fun e=>by have:=(h.own.lt g e).1;omega);have h0:=h.shift (za _ g 0 v0) hne;have h1:=h0.shift (za _ g 1 v1) hne;have h2:=h1.shift (za _ g 2 v2) hne;have h3:=h2.shift (za _ g 3 v3) hne;have h4:=h3.shift (za _ g 4 v4) hne;exact h4.down (((((hb.setCell (p:=⟨g,0,none⟩) hw v0).setCell (p:=⟨g,1,none⟩) hw v1).setCell (p:=⟨g,2,none⟩) hw v2).setCell (p:=⟨g,3,none⟩) hw v3).setCell (p:=⟨g,4,none⟩) hw v4) hB
structure CkL (w:World) (B gL gR gC:Nat) (tL tC:TypeId) (cl:Array Value) (st ng ns nv:Int) (x:World) (a:Option Addr) (n cap:Nat) (l:List Rf):Prop where
  log:Box x gL cl tL
  res:Box x gR #[.int .i64 0,.int .i64 0,.int .i64 0,.int .i64 0,.slice none 0 0] tC
  chk:Box x gC #[.int .i64 st,.int .i64 ng,.int .i64 ns,.int .i64 nv,.slice a n cap] tC
  refs:RBuf rfE B x x (.slice a n cap) l
  bel:Below w.heap.size w x
  low:w.heap.size≤gC∧w.heap.size≤gR
  lt:gL < gC∧gR < gC∧gC < B
theorem CkL.later{w:World}{B gL gR gC:Nat}{tL tC:TypeId}{cl:Array Value}{st ng ns nv:Int}{x y:World}{a:Option Addr}{n cap:Nat}{l:List Rf}(h:CkL w B gL gR gC tL tC cl st ng ns nv x a n cap l)(hb:Below x.heap.size x y):CkL w B gL gR gC tL tC cl st ng ns nv y a n cap l:=
  ⟨h.log.later hb,h.res.later hb,h.chk.later hb,(h.refs.later hb).here,h.bel.trans (hb.mono h.bel.size),h.low,h.lt⟩
theorem CkL.push{w:World}{B gL gR gC:Nat}{tL tC:TypeId}{cl:Array Value}{st ng ns nv:Int}{x y:World}{a:Option Addr}{n cap:Nat}{l m:List Rf}(h:CkL w B gL gR gC tL tC cl st ng ns nv x a n cap l)
    (a2:Option Addr) (n2 c2:Nat) (hr:RBuf rfE B y y (.slice a2 n2 c2) m) (hg:x.grownBy y (Value.slice a n cap).ownBlock):CkL w B gL gR gC tL tC cl st ng ns nv (y.setCell ⟨gC,4,none⟩ (.slice a2 n2 c2)) a2 n2 c2 m:=by
  have hne:∀ k,(Value.slice a n cap).ownBlock=some k→B≤k:=fun k hk=>(h.refs.own.lt k hk).1;have hz:w.heap.size≤B:=by have:=h.low;have:=h.lt;omega
  have b1:=h.log.butC hg (fun k hk=>by have:=hne k hk;have:=h.lt;omega);have b2:=h.res.butC hg (fun k hk=>by have:=hne k hk;have:=h.lt;omega);have b3:=h.chk.butC hg (fun k hk=>by have:=hne k hk;have:=h.lt;omega);refine⟨b1.other (by have:=h.lt;omega) _ _,b2.other (by have:=h.lt;omega) _ _,b3.set 4 _,hr.shift (za _ gC 4 _) ?_,(h.bel.grown hg h.bel.size (fun k hk=>Nat.le_trans hz (hne k hk))).setCell (p:=⟨gC,4,none⟩) h.low.1 _,h.low,h.lt⟩;cases hb:(Value.slice a2 n2 c2).ownBlock with
  | none=>exact .inl rfl
  | some k=>
    right;intro e;have e1:k=gC:=Option.some.inj e;have:=(hr.own.lt k hb).1;have:=h.lt;omega
theorem CkL.cells{w:World}{B gL gR gC:Nat}{tL tC:TypeId}{cl:Array Value}{st ng ns nv:Int}{x y:World}{a:Option Addr}{n cap:Nat}{l:List Rf}(h:CkL w B gL gR gC tL tC cl st ng ns nv x a n cap l)
    (hg:x.grownBy y (Value.slice a n cap).ownBlock):y.cell? ⟨gC,4,none⟩=some (.slice a n cap)∧y.frozen? ⟨gC,4,none⟩=false:=by
  have hne:∀ k,(Value.slice a n cap).ownBlock=some k→B≤k:=fun k hk=>(h.refs.own.lt k hk).1;have b3:=h.chk.butC hg (fun k hk=>by have:=hne k hk;have:=h.lt;omega);exact⟨b3.cell 4 _ rfl,b3.loose 4⟩

/- A new log, plainly. -/
def lg0:Lg:=⟨⟨[],[]⟩,0,[],0,0,0,0⟩
def fm0 (segs:Int):Lg:=⟨newD (8+8 * segs),segs,[],1,1,0,1⟩
theorem Qh{n:Int}(h:1≤n∧n≤100):(newD n).ok∧(newD n).sec.length=n.toNat∧(newD n).cache= []:=by
  unfold newD;rw [if_pos h];refine⟨⟨by simp;omega,by simp;omega,by simp,fun s hs=>?_,by simp⟩,by simp,rfl⟩;have:=(List.mem_replicate.1 hs).2;subst this;rfl
theorem Qa{segs:Int}(h:5≤segs∧segs≤11):OpH (fm0 segs):=by
  obtain⟨h1,h2,_⟩:=Qh (n:=8+8 * segs) (by omega);exact⟨h1,⟨by show 0≤segs;omega,h.2⟩,by show 8+8 * segs.toNat≤(newD (8+8 * segs)).sec.length;omega,by show(1:Int)≤1∧(1:Int)≤1000000000;omega⟩
theorem zcW {L L':Lg} {keep:Int} (h:OpH L) (ho:opO L keep=some L'):L'.d.ok∧L'.used.length=L.used.length+1∧L'.d.sec.length=L.d.sec.length∧L'.d.cache= []:=by
  unfold opO at ho
  split at ho
  case isFalse=>cases ho
  case isTrue hc=>
    cases hw:sgW L.d (opN L) 0 (hdT L.ng) with
    | none=>rw [hw] at ho;cases ho
    | some d=>
      rw [hw] at ho;cases ho
      unfold sgW at hw
      split at hw
      case isFalse=>cases hw
      case isTrue=>
        obtain⟨r1,r2⟩:=vq _ _ (Nat.le_refl _) L.d d _ _ (by omega) h.ok hw;obtain⟨f1,f2,f3⟩:=YZ r1;exact⟨f1,by simp [opL],f2.trans r2,f3⟩
noncomputable def fmO (segs:Int):Option Lg:=if 5≤segs∧segs≤11 then(opO (fm0 segs) 0).bind (fun L=>(wcO L.d (ckOf L)).map (fun D=>⟨D,L.segs,L.used,L.ng,L.ns,1,L.nv⟩)) else none
theorem zcb{segs:Int}(h:¬(5≤segs∧segs≤11)):fmO segs=none:=if_neg h
theorem zcM{segs:Int}(h:opO (fm0 segs) 0=none):fmO segs=none:=by unfold fmO;rw [h];exact ite_self _
theorem zbl{segs:Int}{L:Lg}(h:opO (fm0 segs) 0=some L)(hw:wcO L.d (ckOf L)=none):fmO segs=none:=by unfold fmO;rw [h];simp [hw]
theorem QO{segs:Int}{L:Lg}{E:Dk}(h0:5≤segs∧segs≤11)(h:opO (fm0 segs) 0=some L)(hw:wcO L.d (ckOf L)=some E):fmO segs=some ⟨E,L.segs,L.used,L.ng,L.ns,1,L.nv⟩:=by unfold fmO;rw [if_pos h0,h];simp [hw]
def FmR (O:Option Lg) (w:World) (e:Ending) (w':World):Prop:=∃(v:Value) (f:Bool),e=.returned (.tuple #[v,.bool f])∧LgO w.heap.size w'.heap.size w' v (O.getD lg0)∧f=O.isSome∧Below w.heap.size w w'
theorem qR{B:Nat}{w:World}(hB:B≤w.heap.size):LgP B w.heap.size w (.slice none 0 0) (.slice none 0 0) (.slice none 0 0) lg0 []:=
  ⟨vs hB (Nat.le_refl _),vs hB (Nat.le_refl _),.inl rfl,⟨⟨⟨World.ownsRow_nil _ _ _ _,Below.refl _ _,hB⟩,rfl,(fun j h b h1=>by simp at h1),(fun j h h1=>by simp at h1),(fun i j h h' h1=>by simp at h1)⟩,Nat.le_refl _,(fun k hk=>by cases hk),(fun j x hj=>by simp at hj)⟩,fun k hk=>by rcases hk with e | e <;> cases e⟩
theorem LgP.mkU{B C T T1:Nat}{w:World}{va vb vu:Value}{L:Lg}{hs:List SgH}(hd:DOwn C T1 w (.agg #[va,vb]) L.d)(hg:GOwn B T w vu L.used hs)(hB:B≤C)(hT:T≤C):LgP B w.heap.size w va vb vu L hs:=by
  obtain⟨ua,ub,e,l1,l2,l3⟩:=hd;simp only [Value.agg.injEq,Array.mk.injEq,List.cons.injEq,and_true] at e;obtain⟨rfl,rfl⟩:=e;refine⟨(l1.deeper hB).wider l1.2.1 (Nat.le_refl _),(l2.deeper hB).wider l2.2.1 (Nat.le_refl _),l3,hg.widen (Nat.le_refl _) hg.le (Nat.le_refl _),fun k hk=>?_⟩;have hlt:C≤k:=by
    rcases hk with e | e
    · exact(l1.1.own.lt k e).1
    · exact(l2.1.own.lt k e).1
  refine⟨fun e=>?_,fun j x hj e=>?_⟩
  · have:=hg.row k e;omega
  · have:=hg.its j x hj k e;omega
theorem LgP.mkN{B T:Nat}{w:World}{va vb:Value}{L:Lg}(hd:DOwn B T w (.agg #[va,vb]) L.d)(hu:L.used= [])(hB:B≤w.heap.size)(hT:T≤w.heap.size):LgP B T w va vb (.slice none 0 0) L []:=by
  obtain⟨ua,ub,e,l1,l2,l3⟩:=hd;simp only [Value.agg.injEq,Array.mk.injEq,List.cons.injEq,and_true] at e;obtain⟨rfl,rfl⟩:=e;rcases L with⟨d,segs,us,ng,ns,st,nv⟩
  simp only at hu;subst hu;exact⟨l1,l2,l3,⟨⟨⟨World.ownsRow_nil _ _ _ _,Below.refl _ _,hB⟩,rfl,(fun j h b h1=>by simp at h1),(fun j h h1=>by simp at h1),(fun i j h h' h1=>by simp at h1)⟩,hT,(fun k hk=>by cases hk),(fun j x hj=>by simp at hj)⟩,fun k _=>⟨(fun e=>by cases e),(fun j x hj=>by simp at hj)⟩⟩
theorem GOwn.beside{B T:Nat}{w w':World}{v:Value}{l:List Sg}{hs:List SgH}(h:GOwn B T w v l hs)(hz:w.heap.size≤w'.heap.size)(P:Nat→Prop)(hk:∀ q,q < w.heap.size→¬P q→w'.heap[q]? =w.heap[q]?)(hP:∀ q,P q→∃ cs t,Box w q cs t∧sgE.ty≠t∧itE.ty≠t):GOwn B T w' v l hs:=by
  refine⟨h.own.stay hz (fun k e=>?_) (fun j x hj k e=>?_),Nat.le_trans h.le hz,h.row,h.its⟩
  · refine hk k (h.own.where'.1 k e).2 (fun hp=>?_)
    obtain⟨cs,t,hb,h1,_⟩:=hP k hp;exact hb.notRow h.own.row h1 e
  · refine hk k (h.own.where'.2 j x hj k e).2 (fun hp=>?_)
    obtain⟨cs,t,hb,_,h2⟩:=hP k hp;have hl:j < hs.length:=(List.getElem?_eq_some_iff.1 hj).1;have hb2:l[j]? =some (l[j]'(by rw [←h.own.len];exact hl)):=List.getElem?_eq_getElem _;exact hb.notRow (h.own.at' j x _ hj hb2).2 h2 e

/- A new log, plainly: there is one, and it can be written on. -/
theorem VA:∀ n:Nat,(frT [] n).length=n
  | 0=>rfl
  | n+1=>by
    have h:=VA n
    show(frT [] n++(if hasB [] (n:Int) then [] else [(n:Int)])).length=n+1
    have h2:hasB [] (n:Int)=false:=rfl
    rw [h2]
    simp [h]
theorem zcE{segs:Int}(h:5≤segs∧segs≤11):∃ L,opO (fm0 segs) 0=some L∧L.st=0∧L.ng=2∧L.ns=1∧L.nv=1∧(∃ n:Int,0≤n∧n≤10∧∃ e,L.used= [⟨n,1,e,[]⟩])∧L.d.ok∧L.d.cache= []∧48≤L.d.sec.length∧L.segs=segs:=by
  have hok:=Qa h;obtain⟨h1,h2,h3⟩:=Qh (n:=8+8 * segs) (by omega);have hfl:(fr (fm0 segs)).length=segs.toNat:=by
    show(frT [] (frN segs)).length=_
    rw [VA];unfold frN;omega
  have hN:=Jl (L:=fm0 segs) (by omega);have hN2:opN (fm0 segs) < segs.toNat:=by
    have:=hN.2;have e:frN (fm0 segs).segs=segs.toNat:=by show frN segs=_;unfold frN;omega
    omega
  have hz:=yk (g:=1) (by omega);obtain⟨d,p1,p2,p3,p4,p5,p6,_⟩:=J5 (d:=newD (8+8 * segs)) h1 h3 (s:=opN (fm0 segs)) (A:=0) (t:=hdT 1) (by omega) (by omega);refine⟨opL (fm0 segs) d,vk ⟨by omega,by rw [hfl];omega,by show(1:Int) < 1000000000;omega⟩ p1,rfl,rfl,rfl,rfl,⟨(opN (fm0 segs):Int),by omega,by omega,_,rfl⟩,p4,p6,?_,rfl⟩;show 48≤(flD d).sec.length
  rw [p5,h2];omega
theorem XZ{segs:Int}(h:5≤segs∧segs≤11):∃ G,fmO segs=some G∧LgV G 0:=by
  obtain⟨L,h0,h1,h2,h3,h4,⟨n,n0,n1,e,h5⟩,h6,h7,h8,h9⟩:=zcE h;have hck:(ckOf L).ok:=by
    unfold ckOf;rw [h1,h2,h3,h4,h5];refine⟨⟨⟨by show(1:Int)≤IntKind.i64.wrap (0+1);decide,by show IntKind.i64.wrap (0+1)≤1000000000;decide⟩,⟨by show(1:Int)≤2;decide,by show(2:Int)≤1000000000;decide⟩,⟨by show(1:Int)≤1;decide,by show(1:Int)≤1000000000;decide⟩,⟨by show(1:Int)≤1;decide,by show(1:Int)≤1000000000;decide⟩⟩,⟨by simp,by simp⟩,fun i r hr=>?_⟩;have hr2: [((n:Int),(1:Int))][i]? =some r:=hr
    match i,hr2 with
    | 0,hr2=>
      simp at hr2;subst hr2;exact⟨⟨n0,n1⟩,⟨by show(1:Int)≤1;decide,by show(1:Int)≤2 - 1;decide⟩,fun p hp=>absurd hp (by decide),fun k y hk=>absurd hk (Nat.not_lt_zero _)⟩
    | i+1,hr2=>simp at hr2
  have hst:(ckOf L).st=1:=by show IntKind.i64.wrap (L.st+1)=1;rw [h1];rfl
  have hreg:regN (ckOf L)=4:=by unfold regN;rw [hst];rfl
  have hz:=(jG hck).2.2;have htl:(ckTx (ckOf L)).data.toList.length=(ckTx (ckOf L)).size:=by rw [Array.length_toList];rfl
  obtain⟨d',w1,w2,w3,_,_⟩:=Jh (ckTx (ckOf L)).data.toList.length (ckTx (ckOf L)).data.toList (Nat.le_refl _) L.d 4 0 h6 (by omega) (by omega) (by rw [h7];simp only [List.length_nil];omega);have hw:wcO L.d (ckOf L)=some (flD d'):=Vw (qG hck) (by rw [hreg];omega) (by rw [hreg];exact w1);have hf:=QO h h0 hw;obtain⟨f1,f2,_⟩:=YZ w2;have hv:LgV L 0:=LgV.openV (Qa h) (Nat.le_refl _) (Nat.le_refl _) ⟨by show(1:Int)≤1;decide,by show(1:Int)≤0+1;decide⟩ h0;exact⟨_,hf,hv.disk f1 (by rw [f2,w3]) 1⟩

/- How bools lie in memory. -/

/- Without of either side: the items of which drop is not so, in order. -/
theorem zH {w:World} {g i:Nat} {v:Value} (h:w.cell? ⟨g,i,none⟩=some v):w.setCell ⟨g,i,none⟩ v=w:=by
  have:w.heap.modify g (fun
      | .cells c elem frozen=>.cells (if(none:Option Nat).isSome then c else c.setIfInBounds i v) elem frozen
      | o=>o)=w.heap:=by
    apply Array.ext_getElem?;intro k;rw [Array.getElem?_modify];by_cases hk:g=k
    · subst hk
      rw [if_pos rfl];unfold World.cell? at h;cases ho:w.heap[g]? with
      | none=>rfl
      | some o=>
        rw [ho] at h;cases o <;> simp_all
        rename_i c _ _;apply Array.ext_getElem?;intro j;rw [Array.getElem?_setIfInBounds];by_cases hj:i=j
        · subst hj;simp_all;exact(Array.getElem?_eq_some_iff.1 h).1
        · simp [hj]
    · rw [if_neg hk]
  show {w with heap:=_}=w
  exact congrArg (fun hp=> {w with heap:=hp}) this
theorem Box.set9n{w:World}{b:Nat}{u0 u1 u2 u3 u4 u5 u6 u7 u8:Value}{t:TypeId}(h:Box w b #[u0,u1,u2,u3,u4,u5,u6,u7,u8] t)(v0 v1 v2 v3 v4 v5 v6 v7 v8:Value):Box (((((((((w.setCell ⟨b,0,none⟩ v0).setCell ⟨b,1,none⟩ v1).setCell ⟨b,2,none⟩ v2).setCell ⟨b,3,none⟩ v3).setCell ⟨b,4,none⟩ v4).setCell ⟨b,5,none⟩ v5).setCell ⟨b,6,none⟩ v6).setCell ⟨b,7,none⟩ v7).setCell ⟨b,8,none⟩ v8) b #[v0,v1,v2,v3,v4,v5,v6,v7,v8] t:=by
  have h0:Box (w.setCell ⟨b,0,none⟩ v0) b #[v0,u1,u2,u3,u4,u5,u6,u7,u8] t:=h.set 0 v0;have h1:Box ((w.setCell ⟨b,0,none⟩ v0).setCell ⟨b,1,none⟩ v1) b #[v0,v1,u2,u3,u4,u5,u6,u7,u8] t:=h0.set 1 v1;have h2:Box (((w.setCell ⟨b,0,none⟩ v0).setCell ⟨b,1,none⟩ v1).setCell ⟨b,2,none⟩ v2) b #[v0,v1,v2,u3,u4,u5,u6,u7,u8] t:=h1.set 2 v2;have h3:Box ((((w.setCell ⟨b,0,none⟩ v0).setCell ⟨b,1,none⟩ v1).setCell ⟨b,2,none⟩ v2).setCell ⟨b,3,none⟩ v3) b #[v0,v1,v2,v3,u4,u5,u6,u7,u8] t:=h2.set 3 v3;have h4:Box (((((w.setCell ⟨b,0,none⟩ v0).setCell ⟨b,1,none⟩ v1).setCell ⟨b,2,none⟩ v2).setCell ⟨b,3,none⟩ v3).setCell ⟨b,4,none⟩ v4) b #[v0,v1,v2,v3,v4,u5,u6,u7,u8] t:=h3.set 4 v4;have h5:Box ((((((w.setCell ⟨b,0,none⟩ v0).setCell ⟨b,1,none⟩ v1).setCell ⟨b,2,none⟩ v2).setCell ⟨b,3,none⟩ v3).setCell ⟨b,4,none⟩ v4).setCell ⟨b,5,none⟩ v5) b #[v0,v1,v2,v3,v4,v5,u6,u7,u8] t:=h4.set 5 v5;have h6:Box (((((((w.setCell ⟨b,0,none⟩ v0).setCell ⟨b,1,none⟩ v1).setCell ⟨b,2,none⟩ v2).setCell ⟨b,3,none⟩ v3).setCell ⟨b,4,none⟩ v4).setCell ⟨b,5,none⟩ v5).setCell ⟨b,6,none⟩ v6) b #[v0,v1,v2,v3,v4,v5,v6,u7,u8] t:=h5.set 6 v6;have h7:Box ((((((((w.setCell ⟨b,0,none⟩ v0).setCell ⟨b,1,none⟩ v1).setCell ⟨b,2,none⟩ v2).setCell ⟨b,3,none⟩ v3).setCell ⟨b,4,none⟩ v4).setCell ⟨b,5,none⟩ v5).setCell ⟨b,6,none⟩ v6).setCell ⟨b,7,none⟩ v7) b #[v0,v1,v2,v3,v4,v5,v6,v7,u8] t:=h6.set 7 v7;have h8:Box (((((((((w.setCell ⟨b,0,none⟩ v0).setCell ⟨b,1,none⟩ v1).setCell ⟨b,2,none⟩ v2).setCell ⟨b,3,none⟩ v3).setCell ⟨b,4,none⟩ v4).setCell ⟨b,5,none⟩ v5).setCell ⟨b,6,none⟩ v6).setCell ⟨b,7,none⟩ v7).setCell ⟨b,8,none⟩ v8) b #[v0,v1,v2,v3,v4,v5,v6,v7,v8] t:=h7.set 8 v8;exact h8
theorem jU(sq:Int)(r:Rc)(w:World)(hu:r.user.size≤281474976710656)(hn:r.name.size≤281474976710656)(ht:r.text.size≤281474976710656):
    Calls Tryz.prog 67 #[itV sq r] w fun e w'=>e=.returned (itV sq r)∧Below w.heap.size w w':=by
  unfold itV;have X1:=(Box.new w #[.int .i64 sq,.int .i64 r.kind,.int .i64 r.valid,.int .i64 r.uid,.int .i64 r.next,.int .i64 r.flags,.string r.user,.string r.name,.string r.text] 44).later (zb _ (.cells #[.int .i64 0,.int .i64 0,.int .i64 0,.int .i64 0,.int .i64 0,.int .i64 0,.string ⟨#[]⟩,.string ⟨#[]⟩,.string ⟨#[]⟩] 44));have X2:Box ((w.alloc (.cells #[.int .i64 sq,.int .i64 r.kind,.int .i64 r.valid,.int .i64 r.uid,.int .i64 r.next,.int .i64 r.flags,.string r.user,.string r.name,.string r.text] 44)).alloc (.cells #[.int .i64 0,.int .i64 0,.int .i64 0,.int .i64 0,.int .i64 0,.int .i64 0,.string ⟨#[]⟩,.string ⟨#[]⟩,.string ⟨#[]⟩] 44)) (w.heap.size+1) #[.int .i64 0,.int .i64 0,.int .i64 0,.int .i64 0,.int .i64 0,.int .i64 0,.string ⟨#[]⟩,.string ⟨#[]⟩,.string ⟨#[]⟩] 44:=by
    have:=Box.new (w.alloc (.cells #[.int .i64 sq,.int .i64 r.kind,.int .i64 r.valid,.int .i64 r.uid,.int .i64 r.next,.int .i64 r.flags,.string r.user,.string r.name,.string r.text] 44)) #[.int .i64 0,.int .i64 0,.int .i64 0,.int .i64 0,.int .i64 0,.int .i64 0,.string ⟨#[]⟩,.string ⟨#[]⟩,.string ⟨#[]⟩] 44;rwa [show(w.alloc (.cells #[.int .i64 sq,.int .i64 r.kind,.int .i64 r.valid,.int .i64 r.uid,.int .i64 r.next,.int .i64 r.flags,.string r.user,.string r.name,.string r.text] 44)).heap.size=w.heap.size+1 from by simp] at this
  have b1:Below w.heap.size w ((w.alloc (.cells #[.int .i64 sq,.int .i64 r.kind,.int .i64 r.valid,.int .i64 r.uid,.int .i64 r.next,.int .i64 r.flags,.string r.user,.string r.name,.string r.text] 44)).alloc (.cells #[.int .i64 0,.int .i64 0,.int .i64 0,.int .i64 0,.int .i64 0,.int .i64 0,.string ⟨#[]⟩,.string ⟨#[]⟩,.string ⟨#[]⟩] 44)):=((Below.refl _ _).alloc (Nat.le_refl _) _).alloc (by simp) _;go_enter Tryz.func67,Tryz.ntmps67
  go_upto_region 1 with fail
  generalize (w.alloc (.cells #[.int .i64 sq,.int .i64 r.kind,.int .i64 r.valid,.int .i64 r.uid,.int .i64 r.next,.int .i64 r.flags,.string r.user,.string r.name,.string r.text] 44)).alloc (.cells #[.int .i64 0,.int .i64 0,.int .i64 0,.int .i64 0,.int .i64 0,.int .i64 0,.string ⟨#[]⟩,.string ⟨#[]⟩,.string ⟨#[]⟩] 44)=w1 at X1 X2 b1 ⊢;have H1:Hid (∀ x,Below w1.heap.size w1 x→Box x w.heap.size #[.int .i64 sq,.int .i64 r.kind,.int .i64 r.valid,.int .i64 r.uid,.int .i64 r.next,.int .i64 r.flags,.string r.user,.string r.name,.string r.text] 44∧Box x (w.heap.size+1) #[.int .i64 0,.int .i64 0,.int .i64 0,.int .i64 0,.int .i64 0,.int .i64 0,.string ⟨#[]⟩,.string ⟨#[]⟩,.string ⟨#[]⟩] 44∧Below w.heap.size w x):=fun x hx=>⟨X1.later hx,X2.later hx,b1.trans (hx.mono b1.size)⟩;clear X1 X2 b1;have c6:=(H1.out _ (Below.refl _ _)).1.cell 6 (.string r.user) rfl;go_wp2_with fail
  clear c6;refine(Zp _ _ hu).mono ?_;rintro e w2 ⟨rfl,k2⟩;have c6:=(H1.out _ k2).1.cell 6 (.string r.user) rfl;have f6:=(H1.out _ k2).1.loose 6;go_upto_region 2 with fail
  rw [zH c6];clear c6 f6;have c7:=(H1.out _ k2).1.cell 7 (.string r.name) rfl;go_wp2_with fail
  clear c7;refine(Zp _ _ hn).mono ?_;rintro e w3 ⟨rfl,k3⟩;have j3:=k2.trans (k3.mono k2.size);have c7:=(H1.out _ j3).1.cell 7 (.string r.name) rfl;have f7:=(H1.out _ j3).1.loose 7;go_upto_region 3 with fail
  rw [zH c7];clear c7 f7 k2 k3;have c8:=(H1.out _ j3).1.cell 8 (.string r.text) rfl;go_wp2_with fail
  clear c8;refine(Zp _ _ ht).mono ?_;rintro e w4 ⟨rfl,k4⟩;have j4:=j3.trans (k4.mono j3.size);have c8:=(H1.out _ j4).1.cell 8 (.string r.text) rfl;have f8:=(H1.out _ j4).1.loose 8;go_upto_region 4 with fail
  rw [zH c8];clear c8 f8 j3 k4;obtain⟨X1,X2,bE⟩:=H1.out _ j4;obtain⟨q0,q1,q2,q3,q4,q5,q6,q7,q8,_⟩:=X1.nine;obtain⟨z0,z1,z2,z3,z4,z5,z6,z7,z8,f0,f1,f2,f3,f4,f5,f6,f7,f8⟩:=X2.nine;have X9:Box (((((((((w4.setCell ⟨w.heap.size+1,0,none⟩ (.int .i64 sq)).setCell ⟨w.heap.size+1,1,none⟩ (.int .i64 r.kind)).setCell ⟨w.heap.size+1,2,none⟩ (.int .i64 r.valid)).setCell ⟨w.heap.size+1,3,none⟩ (.int .i64 r.uid)).setCell ⟨w.heap.size+1,4,none⟩ (.int .i64 r.next)).setCell ⟨w.heap.size+1,5,none⟩ (.int .i64 r.flags)).setCell ⟨w.heap.size+1,6,none⟩ (.string r.user)).setCell ⟨w.heap.size+1,7,none⟩ (.string r.name)).setCell ⟨w.heap.size+1,8,none⟩ (.string r.text)) (w.heap.size+1) #[.int .i64 sq,.int .i64 r.kind,.int .i64 r.valid,.int .i64 r.uid,.int .i64 r.next,.int .i64 r.flags,.string r.user,.string r.name,.string r.text] 44:=X2.set9n _ _ _ _ _ _ _ _ _;have B9:=hid (Zz bE (show w.heap.size≤w.heap.size+1 by omega) (.int .i64 sq) (.int .i64 r.kind) (.int .i64 r.valid) (.int .i64 r.uid) (.int .i64 r.next) (.int .i64 r.flags) (.string r.user) (.string r.name) (.string r.text));obtain⟨y0,y1,y2,y3,y4,y5,y6,y7,y8,_⟩:=X9.nine;clear X1 X2 X9 bE j4 H1;go_wp2;refine bodyPost_ret (v:=.agg #[.int .i64 sq,.int .i64 r.kind,.int .i64 r.valid,.int .i64 r.uid,.int .i64 r.next,.int .i64 r.flags,.string r.user,.string r.name,.string r.text]) (by simp [results,Tryz.results67,go_sem,y0,y1,y2,y3,y4,y5,y6,y7,y8]) rfl ⟨rfl,B9.out⟩
end Go.Proofs.YtklkhllkjnbhjaaGreatDoor
