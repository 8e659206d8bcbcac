/- Texts of our own, joined. -/
import Derived.Test.YtklkhllkjnbhjaaGreatDoorJs
/- Plain facts on logs: what is written behind all of a segment stands there when it is flushed, and the frames of a segment that was written so come back. -/
namespace Go.Proofs.YtklkhllkjnbhjaaGreatDoor
open Go.RowKit
set_option maxRecDepth 100000
set_option maxHeartbeats 8000000
theorem zcN{d:Dk}(h:d.ok)(a:Int):rdO (flD d) a=rdO d a:=by
  have e:flD d=⟨flush d.sec d.cache,[]⟩:=if_pos h;rw [e];unfold rdO;simp only [ZM];by_cases c:0≤a∧a <(d.sec.length:Int)
  · rw [if_pos c,if_pos c]
    obtain⟨i,rfl⟩:∃ i:Nat,a=(i:Int):=⟨a.toNat,by omega⟩;have hi:i < d.sec.length:=by omega
    have hg:=zaR d.sec d.cache.length d.cache rfl (fun x hx=>(h.2.2.2.2 x hx).1) i hi;have e1:(flush d.sec d.cache).getD ((i:Int).toNat) ⟨#[]⟩=(lastAt d.cache (i:Int)).getD d.sec[i]:=by
      rw [Int.toNat_natCast,List.getD_eq_getElem?_getD,hg];rfl
    have e2:d.sec.getD ((i:Int).toNat) ⟨#[]⟩=d.sec[i]:=by
      rw [Int.toNat_natCast,List.getD_eq_getElem?_getD,List.getElem?_eq_getElem hi];rfl
    rw [e1,e2];rfl
  · rw [if_neg c,if_neg c]
theorem zdi{d:Dk}(h:d.ok)(P:Nat):bt (flD d) P=bt d P:=by unfold bt;rw [zcN h]
theorem zbo{d:Dk}(h:d.ok){i:Nat}(hi:i≤10)(hl:16+8 * i≤d.sec.length):sgT (flD d) (i:Int)=sgT d (i:Int):=by
  obtain⟨k1,k2,k3⟩:=YZ h;obtain⟨l1,p1⟩:=ZB h hi hl;obtain⟨l2,p2⟩:=ZB k1 hi (by rw [k2];exact hl);apply yn;apply List.ext_getElem?;intro P;by_cases hP:P < 256
  · rw [p1 P hP,p2 P hP,zdi h]
  · rw [List.getElem?_eq_none (by omega),List.getElem?_eq_none (by omega)]
theorem J5{d:Dk}(h:d.ok)(hc:d.cache= []){s A:Nat}{t:ByteArray}(hl:16+8 * s≤d.sec.length)(hA:A+t.size≤256):
    ∃ d',sgW d s A t=some d'∧d'.ok∧d'.sec.length=d.sec.length∧(flD d').ok∧(flD d').sec.length=d.sec.length∧(flD d').cache= []∧
      ∀ i:Nat,i≤10→16+8 * i≤d.sec.length→sgT (flD d') (i:Int)=if i=s then(sgT d (i:Int)).extract 0 A++t++(sgT d (i:Int)).extract (A+t.size) 256 else sgT d (i:Int):=by
  have htl:t.data.toList.length=t.size:=by rw [Array.length_toList];rfl
  obtain⟨d',h1,h2,h3,h4,h5⟩:=Jh t.data.toList.length t.data.toList (Nat.le_refl _) d (8+8 * s+A / 32) (A % 32) h (by omega) (by omega) (by rw [hc];simp only [List.length_nil];omega);obtain⟨k1,k2,k3⟩:=YZ h2;have e3:d'.sec.length=d.sec.length:=by rw [h3]
  refine⟨d',by rw [xK hA];exact h1,h2,e3,k1,by rw [k2,e3],k3,?_⟩;intro i hi hli;have hb:∀ P,bt d' P=if 32 *(8+8 * s) +A≤P∧P < 32 *(8+8 * s) +A+t.data.toList.length then t.data.toList[P -(32 *(8+8 * s) +A)]? else bt d P:=by
    intro P;rw [h5 P,show 32 *(8+8 * s+A / 32) +A % 32=32 *(8+8 * s) +A by omega]
  have hw:=zaw h h2 h3 hA hb hi hli;rw [zbo h2 hi (by rw [e3];exact hli),hw,Qn h hi hli]
theorem zcl{n:Nat}(h:1≤n):∃(b:UInt8) (l:List UInt8),vt n=b::l∧b≠0:=by
  obtain⟨m,rfl⟩:∃ m,n=m+1:=⟨n - 1,by omega⟩;show ∃(b:UInt8) (l:List UInt8),vtF (m+1) (m+1)=b::l∧b≠0
  unfold vtF;by_cases c:127 < m+1
  · rw [if_pos c]
    refine⟨_,_,rfl,fun e=>?_⟩;have:=Z4 (m+1);rw [e] at this;exact absurd this (by simp)
  · rw [if_neg c]
    refine⟨_,_,rfl,fun e=>?_⟩;have:=ZH (m:=m+1) (by omega);rw [e] at this;simp at this
theorem zcp{f:Fr}(h:f.ok):∃(b:UInt8) (l:List UInt8),(f.text fourOf).data.toList=b::l∧b≠0:=by
  obtain⟨b,l,h1,h2⟩:=zcl (n:=f.gen.toNat) (by have:=h.1;omega);refine⟨b,l++(vt f.seq.toNat++(vt f.body.size++f.body.data.toList)) ++(fourOf f.raw).data.toList,?_,h2⟩;rw [Fr.text,ByteArray.data_append,Array.toList_append,Vs,h1];simp
theorem zch {s:ByteArray} {k:Nat} (hk:k≤s.size) (hz:k < s.size→s.data.toList[k]? =some 0):rf fourOf s k=none:=by
  cases hr:rf fourOf s k with
  | none=>rfl
  | some x=>
    obtain⟨f,e⟩:=x;obtain⟨h1,h2,h3,h4⟩:=(zc0 Zb hk).1 hr;obtain⟨b,l,h5,h6⟩:=zcp h1;rw [h4,ByteArray.data_extract,Array.toList_extract,List.extract_eq_take_drop] at h5;have h7:(s.data.toList.drop k).take (e - k)=b::l:=h5;have h8:((s.data.toList.drop k).take (e - k))[0]? =some b:=by rw [h7];rfl
    have hlt:k < s.size:=by
      by_cases c:k < s.size
      · exact c
      · have:s.data.toList.drop k= []:=List.drop_eq_nil_of_le (by rw [zQ];omega)
        rw [this] at h7;simp at h7
    have h9:0 < e - k:=by
      by_cases c:0 < e - k
      · exact c
      · rw [show e - k=0 by omega] at h7
        simp at h7
    rw [List.getElem?_take,if_pos h9,List.getElem?_drop,Nat.add_zero,hz hlt] at h8;cases h8
    exact absurd rfl h6
theorem zcs{g:Int}{Z:ByteArray}(hZ:0 < Z.size→Z.data.toList[0]? =some 0):∀(l:List Fr) (P:ByteArray),(∀ f∈l,f.ok∧f.gen=g)→
    (sq fourOf (P++txs fourOf l++Z) g P.size).map (·.1)=l∧behind P.size (sq fourOf (P++txs fourOf l++Z) g P.size)=P.size+(txs fourOf l).size:=by
  intro l
  induction l with
  | nil=>
    intro P _;have e:P++txs fourOf [] ++Z=P++Z:=by simp [txs,qO]
    rw [e];have hs:rf fourOf (P++Z) P.size=none:=zch (by rw [ByteArray.size_append];omega) (by
      intro hlt;rw [ByteArray.size_append] at hlt;rw [ByteArray.data_append,Array.toList_append,List.getElem?_append_right (by rw [zQ];exact Nat.le_refl _),zQ,Nat.sub_self];exact hZ (by omega))
    rw [qB hs];exact⟨rfl,rfl⟩
  | cons f l ih=>
    intro P hf;have e:P++txs fourOf (f::l) ++Z=(P++f.text fourOf) ++txs fourOf l++Z:=by rw [txs,ByteArray.append_assoc,ByteArray.append_assoc,ByteArray.append_assoc,ByteArray.append_assoc]
    have hsz:(P++f.text fourOf).size=P.size+(f.text fourOf).size:=ByteArray.size_append;have hr:rf fourOf (P++txs fourOf (f::l) ++Z) P.size=some (f,P.size+(f.text fourOf).size):=by
      refine qp Zb (hf f (by simp)).1 (by omega) (by rw [e,ByteArray.size_append,ByteArray.size_append,hsz];omega) ?_;rw [e];apply yn;rw [ByteArray.data_extract,Array.toList_extract,List.extract_eq_take_drop,ByteArray.data_append,ByteArray.data_append,ByteArray.data_append,Array.toList_append,Array.toList_append,Array.toList_append,List.append_assoc,List.append_assoc];rw [List.drop_append_of_le_length (by rw [zQ];exact Nat.le_refl _),List.drop_of_length_le (by rw [zQ];exact Nat.le_refl _),List.nil_append,Nat.add_sub_cancel_left,List.take_append_of_le_length (by rw [zQ];exact Nat.le_refl _),List.take_of_length_le (by rw [zQ];exact Nat.le_refl _)]
    rw [qL (by rw [ByteArray.size_append,ByteArray.size_append];omega) hr (hf f (by simp)).2];obtain⟨i1,i2⟩:=ih (P++f.text fourOf) (fun x hx=>hf x (by simp [hx]));rw [hsz,←e] at i1 i2;refine⟨by rw [List.map_cons,i1],?_⟩;show behind (P.size+(f.text fourOf).size) _=_
    rw [i2,txs,ByteArray.size_append];omega
theorem zax{t:ByteArray}{g:Int}{fs:List Fr}{Z:ByteArray}(ht:t=txs fourOf (hdF g::fs) ++Z)(hg:1≤g∧g≤1000000000)(hf:∀ f∈fs,f.ok∧f.gen=g)(hZ:0 < Z.size→Z.data.toList[0]? =some 0):
    sgG t=g∧sfL t=fs∧sfE t=(txs fourOf (hdF g::fs)).size:=by
  have hall:∀ f∈hdF g::fs,f.ok∧f.gen=g:=by
    intro f h;rcases List.mem_cons.1 h with rfl | h
    · exact⟨Vg hg,rfl⟩
    · exact hf f h
  obtain⟨h1,h2⟩:=zcs hZ (hdF g::fs) ⟨#[]⟩ hall;have e0:(⟨#[]⟩:ByteArray) ++txs fourOf (hdF g::fs) ++Z=t:=by rw [ht,qO,ByteArray.empty_append]
  rw [e0] at h1 h2;have z0:(⟨#[]⟩:ByteArray).size=0:=rfl;rw [z0] at h1 h2;have hr:rf fourOf t 0=some (hdF g,((hdF g).text fourOf).size):=by
    refine qp Zb (Vg hg) (Nat.zero_le _) (by rw [ht,txs,ByteArray.size_append,ByteArray.size_append];omega) ?_;rw [ht,txs];apply yn;rw [ByteArray.data_extract,Array.toList_extract,List.extract_eq_take_drop,ByteArray.data_append,ByteArray.data_append,Array.toList_append,Array.toList_append,List.append_assoc,List.drop_zero,Nat.sub_zero,List.take_append_of_le_length (by rw [zQ];exact Nat.le_refl _),List.take_of_length_le (by rw [zQ];exact Nat.le_refl _)]
  have hG:sgG t=g:=jT hr rfl;have hne:¬sgG t=0:=by rw [hG];omega
  refine⟨hG,?_,?_⟩
  · unfold sfL
    rw [if_neg hne,hG];unfold scanL scan;rw [h1];rfl
  · unfold sfE
    rw [if_neg hne,hG];unfold scanE scan;rw [h2,Nat.zero_add]
def itF (g:Int) (x:Itm):Fr:=⟨g,x.1,x.2.tx⟩
def itR (x:Itm):Prop:=(1≤x.1∧x.1≤1000000000)∧x.2.ok
theorem YY{g:Int}{x:Itm}(hg:1≤g∧g≤1000000000)(h:itR x):(itF g x).ok:=by
  have h1:=Rc.tl_le h.2;have h2:(itF g x).body.size=x.2.tl.length:=by show x.2.tx.size=_;rw [←zQ,Rc.tx_list]
  exact⟨hg,h.1,by rw [h2];omega,by rw [h2];omega⟩
theorem zal{g:Int}{x:Itm}(hg:1≤g∧g≤1000000000)(h:itR x):fiO (itF g x)=some x:=by
  unfold fiO;rw [if_pos (YY hg h)];show(rrO x.2.tx).map (fun r=>((itF g x).seq,r))=some x
  rw [zbi h.2];rfl
theorem zav{g:Int}{l:List Itm}(hg:1≤g∧g≤1000000000)(h:∀ x∈l,itR x):(l.map (itF g)).filterMap fiO=l:=by
  induction l with
  | nil=>rfl
  | cons x l ih=>rw [List.map_cons,List.filterMap_cons,zal hg (h x (by simp))];simp only [ih (fun y hy=>h y (by simp [hy]))]
def zer (n:Nat):ByteArray:=⟨(List.replicate n (0:UInt8)).toArray⟩
theorem zbq(n:Nat):(zer n).size=n:=by rw [←zQ];simp [zer]
theorem zbH{n:Nat}(h:0 <(zer n).size):(zer n).data.toList[0]? =some 0:=by
  rw [zbq] at h;simp [zer,h]
def sgX (s:Sg):ByteArray:=txs fourOf (hdF s.gen::s.items.map (itF s.gen))
structure SgR (d:Dk) (s:Sg):Prop where
  no:0≤s.no∧s.no≤10
  gen:1≤s.gen∧s.gen≤1000000000
  its:∀ x∈s.items,itR x
  len:(sgX s).size≤256
  ende:s.ende=((sgX s).size:Int)
  text:sgT d s.no=sgX s++zer (256 -(sgX s).size)
theorem SgR.frames{d:Dk}{s:Sg}(h:SgR d s):sgG (sgT d s.no)=s.gen∧sfL (sgT d s.no)=s.items.map (itF s.gen)∧(sfE (sgT d s.no):Int)=s.ende:=by
  obtain⟨h1,h2,h3⟩:=zax (t:=sgT d s.no) (g:=s.gen) (fs:=s.items.map (itF s.gen)) (Z:=zer (256 -(sgX s).size)) h.text h.gen (by
    intro f hf;obtain⟨x,hx,rfl⟩:=List.mem_map.1 hf;exact⟨YY h.gen (h.its x hx),rfl⟩) zbH
  refine⟨h1,h2,?_⟩;rw [h3,h.ende];rfl
theorem SgR.same{d:Dk}{s:Sg}(h:SgR d s):sgOf d s.no=s:=by
  obtain⟨h1,h2,h3⟩:=h.frames;unfold sgOf sgI;rw [h1,h2,h3,zav h.gen h.its]

/- An item appended to a log, plainly. -/
theorem Js{g:Int}{x:Itm}(hg:1≤g∧g≤1000000000)(h:itR x):(itF g x).tx.size≤196:=by
  obtain⟨t,b,h1,h2⟩:=jo (itF g x);rw [Zq (YY hg h)] at h1;cases h1
  exact h2
def apL (L:Lg) (u:List Sg) (s:Sg) (x:Itm) (d:Dk):Lg:=
  ⟨flD d,L.segs,u++ [⟨s.no,s.gen,s.ende+((itF s.gen x).tx.size:Int),s.items++ [x]⟩],L.ng,if L.ns≤x.1 then x.1+1 else L.ns,L.st,if L.nv≤x.2.valid then x.2.valid+1 else L.nv⟩
def wrO (L:Lg) (x:Itm):Lg×Bool:=
  match L.used.getLast? with
  | some s=>match sgW L.d s.no.toNat s.ende.toNat (itF s.gen x).tx with
    | some d=>(apL L L.used.dropLast s x d,true)
    | none=>(L,false)
  | none=>(L,false)
theorem yI{L:Lg}{x:Itm}{u:List Sg}{s:Sg}{d:Dk}(hu:L.used=u++ [s])(h:sgW L.d s.no.toNat s.ende.toNat (itF s.gen x).tx=some d):wrO L x=(apL L u s x d,true):=by
  unfold wrO;have e1:L.used.getLast? =some s:=by rw [hu];simp
  have e2:L.used.dropLast=u:=by rw [hu];simp
  rw [e1,e2];simp only [h]
theorem Z8{L:Lg}{x:Itm}{u:List Sg}{s:Sg}(hu:L.used=u++ [s])(h:sgW L.d s.no.toNat s.ende.toNat (itF s.gen x).tx=none):wrO L x=(L,false):=by
  unfold wrO;have e1:L.used.getLast? =some s:=by rw [hu];simp
  rw [e1];simp only [h]
def fitsP (L:Lg) (x:Itm):Prop:=∀ s,L.used.getLast? =some s→s.ende+((itF s.gen x).tx.size:Int)≤256
noncomputable def apO (L:Lg) (x:Itm) (keep:Int):Lg×Bool:=by
  classical exact if fitsP L x then wrO L x else match opO L keep with | some L1=>wrO L1 x | none=>(L,false)
theorem Yv{L:Lg}{x:Itm}{keep:Int}(h:fitsP L x):apO L x keep=wrO L x:=by unfold apO;rw [if_pos h]
theorem Ye{L:Lg}{x:Itm}{keep:Int}(h:¬fitsP L x)(ho:opO L keep=none):apO L x keep=(L,false):=by unfold apO;rw [if_neg h,ho]
theorem yF{L L1:Lg}{x:Itm}{keep:Int}(h:¬fitsP L x)(ho:opO L keep=some L1):apO L x keep=wrO L1 x:=by unfold apO;rw [if_neg h,ho]
theorem J3 {L L':Lg} {keep:Int} (h:OpH L) (ho:opO L keep=some L'):L'.d.ok∧L'.d.sec.length=L.d.sec.length∧L'.used=L.used++ [⟨(opN L:Int),L.ng,((hdT L.ng).size:Int),[]⟩]∧opN L≤10∧8+8 * opN L < L.d.sec.length:=by
  unfold opO at ho
  split at ho
  case isFalse=>cases ho
  case isTrue hc=>
    cases hw:sgW L.d (opN L) 0 (hdT L.ng) with
    | none=>rw [hw] at ho;cases ho
    | some d=>
      rw [hw] at ho;have ho2:opL L d=L':=Option.some.inj ho;subst ho2;unfold sgW at hw
      split at hw
      case isFalse=>cases hw
      case isTrue hc2=>
        obtain⟨r1,r2⟩:=vq _ _ (Nat.le_refl _) L.d d _ _ (by omega) h.ok hw;obtain⟨f1,f2,_⟩:=YZ r1;have f:=h.first (by omega);exact⟨f1,f2.trans r2,rfl,f.1,f.2⟩
theorem zcf{L:Lg}{x:Itm}{u:List Sg}{s:Sg}(hu:L.used=u++ [s])(h0:0≤s.ende)(h:256 < s.ende+((itF s.gen x).tx.size:Int)):wrO L x=(L,false):=Z8 hu (qI (by omega))
theorem KG.drew(W:World)(g:Nat):W.grownBy W.drew (some g):=⟨rfl,rfl,rfl,Nat.le_refl _,fun _ _ _=>rfl⟩
theorem KG.later{W x y:World}{g:Nat}(h:W.grownBy x (some g))(hb:Below x.heap.size x y):W.grownBy y (some g):=h.trans (zJ hb _)
theorem KG.grown{W x y:World}{g:Nat}{r:Option Nat}(h:W.grownBy x (some g))(hg:x.grownBy y r)(hr:∀ k,r=some k→W.heap.size≤k):W.grownBy y (some g):=
  ⟨hg.os.trans h.os,hg.tape.trans h.tape,hg.output.trans h.output,Nat.le_trans h.size hg.size,fun k hk hn=>(hg.block k (Nat.lt_of_lt_of_le hk h.size) (fun e=>by have:=hr k e.symm;omega)).trans (h.block k hk hn)⟩
theorem LgP.stayFar{B T2 T S:Nat}{w w':World}{va vb vu:Value}{L:Lg}{hs:List SgH}(h:LgP B T2 w va vb vu L hs)(hf:LgFar T S va vb vu hs)(hz:w.heap.size≤w'.heap.size)(hk:∀ q,B≤q→q < T2→(q < T∨S≤q)→w'.heap[q]? =w.heap[q]?):LgP B T2 w' va vb vu L hs:=
  ⟨⟨h.sec.1.stayG hz (fun q e=>hk q (h.sec.1.own.lt q e).1 (h.sec.2.2 q e) (hf.sec q e)),Nat.le_trans h.sec.2.1 hz,h.sec.2.2⟩,⟨h.cac.1.stayG hz (fun q e=>hk q (h.cac.1.own.lt q e).1 (h.cac.2.2 q e) (hf.cac q e)),Nat.le_trans h.cac.2.1 hz,h.cac.2.2⟩,h.two,
   ⟨h.use.own.stay hz (fun q e=>hk q (h.use.own.where'.1 q e).1 (h.use.row q e) (hf.row q e)) (fun j x hj q e=>hk q (h.use.own.where'.2 j x hj q e).1 (h.use.its j x hj q e) (hf.its j x hj q e)),Nat.le_trans h.use.le hz,h.use.row,h.use.its⟩,h.far⟩
theorem LgP.aside{B T2 T S g:Nat}{w w':World}{va vb vu:Value}{L:Lg}{hs:List SgH}(h:LgP B T2 w va vb vu L hs)(hf:LgFar T S va vb vu hs)(hg:T≤g∧g < S)(hgr:w.grownBy w' (some g)):LgP B T2 w' va vb vu L hs:=
  h.stayFar hf hgr.size (fun q _ hq2 hq3=>hgr.block q (Nat.lt_of_lt_of_le hq2 h.use.le) (fun e=>by have:=Option.some.inj e;omega))
theorem LgP.farT{B T S:Nat}{w:World}{va vb vu:Value}{L:Lg}{hs:List SgH}(h:LgP B T w va vb vu L hs):LgFar T S va vb vu hs:=
  ⟨fun k hk=>.inl (h.sec.2.2 k hk),fun k hk=>.inl (h.cac.2.2 k hk),fun k hk=>.inl (h.use.row k hk),fun j x hj k hk=>.inl (h.use.its j x hj k hk)⟩
theorem LgP.mkW{B C T1:Nat}{w:World}{va vb vu:Value}{L:Lg}{hs:List SgH}(hd:DOwn C T1 w (.agg #[va,vb]) L.d)(hg:GOwn B w.heap.size w vu L.used hs)(hB:B≤C)(h1:∀ k,vu.ownBlock=some k→k < C∨T1≤k)(h2:∀(j:Nat) (x:SgH),hs[j]? =some x→∀ k,x.mv.ownBlock=some k→k < C∨T1≤k):LgP B w.heap.size w va vb vu L hs:=by
  obtain⟨ua,ub,e,l1,l2,l3⟩:=hd;simp only [Value.agg.injEq,Array.mk.injEq,List.cons.injEq,and_true] at e;obtain⟨rfl,rfl⟩:=e;refine⟨(l1.deeper hB).wider l1.2.1 (Nat.le_refl _),(l2.deeper hB).wider l2.2.1 (Nat.le_refl _),l3,hg,fun k hk=>?_⟩;have hlt:C≤k∧k < T1:=by
    rcases hk with e | e
    · exact⟨(l1.1.own.lt k e).1,l1.2.2 k e⟩
    · exact⟨(l2.1.own.lt k e).1,l2.2.2 k e⟩
  refine⟨fun e=>?_,fun j x hj e=>?_⟩
  · have:=h1 k e;omega
  · have:=h2 j x hj k e;omega
theorem LgP.headPut{B T2 C T1 D gr n cu m:Nat}{w:World}{va0 vb0 va vb:Value}{L:Lg}{hs:List SgH}(h:LgP B T2 w va0 vb0 (.slice (some ⟨gr,0,none⟩) m cu) L hs)(hm:m=hs.length)(d:Dk)(hd:DOwn C T1 w (.agg #[va,vb]) d)(hB:B≤C)(hT:T2≤C)(hC:C≤T1)(hD:T1≤D)
    {x0:SgH} (hi:hs[n]? =some x0) (x:SgH) (b:Sg) (hx:x.no=b.no∧x.gen=b.gen∧x.ende=b.ende) (hr:RBuf itE D w w x.mv b.items) (segs ng ns st nv:Int):
    LgP B (put4 w gr n x).heap.size (put4 w gr n x) va vb (.slice (some ⟨gr,0,none⟩) m cu) ⟨d,segs,L.used.set n b,ng,ns,st,nv⟩ (hs.set n x):=by
  have hgr:=h.use.row gr rfl;have hxk:∀ k,x.mv.ownBlock=some k→D≤k:=fun k hk=>(hr.own.lt k hk).1;have hown:=h.use.own.put hm hi x b hx (hr.lower (by omega)) (fun k hk=>by have:=hxk k hk;omega) (fun j y hj hy k hk e=>by have:=hxk k hk;have:=h.use.its j y hy k e;omega);have hg:=je w gr n x;have dZ:=hd.stayO hg.size (fun q h1 h2=>hg.block q (by obtain⟨_,_,_,l1,_⟩:=hd;have:=l1.2.1;omega) (fun e=>by have:=Option.some.inj e;omega));refine LgP.mkW dZ hown.gown hB (fun k hk=>?_) (fun j y hj k hk=>?_)
  · have:=h.use.row k hk
    exact .inl (by omega)
  · rcases zq hj with⟨_,rfl⟩ |⟨_,hj⟩
    · exact .inr (by have:=hxk k hk;omega)
    · exact .inl (by have:=h.use.its j y hj k hk;omega)
theorem LgFar.headPut{C T1 D g n:Nat}{w:World}{va0 vb0 va vb vu:Value}{hs:List SgH}(h:LgFar g (g+1) va0 vb0 vu hs)(d:Dk)(hd:DOwn C T1 w (.agg #[va,vb]) d)(hg:g < C)(hD:g < D)(x:SgH){l:List Itm}(hr:RBuf itE D w w x.mv l):LgFar g (g+1) va vb vu (hs.set n x):=by
  obtain⟨ua,ub,e,l1,l2,l3⟩:=hd;simp only [Value.agg.injEq,Array.mk.injEq,List.cons.injEq,and_true] at e;obtain⟨rfl,rfl⟩:=e;refine⟨fun k hk=>by have:=(l1.1.own.lt k hk).1;omega,fun k hk=>by have:=(l2.1.own.lt k hk).1;omega,h.row,fun j y hj k hk=>?_⟩;rcases zq hj with⟨_,rfl⟩ |⟨_,hj⟩
  · have:=(hr.own.lt k hk).1;omega
  · exact h.its j y hj k hk
end Go.Proofs.YtklkhllkjnbhjaaGreatDoor
