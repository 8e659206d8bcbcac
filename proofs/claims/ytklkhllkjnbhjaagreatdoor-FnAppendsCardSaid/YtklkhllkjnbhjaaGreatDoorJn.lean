/- Texts of our own, joined. -/
import Derived.Test.YtklkhllkjnbhjaaGreatDoorJm
/- The helpers of the exact laws over segments: each is marked, and the marks are held. -/
namespace Go.Proofs.YtklkhllkjnbhjaaGreatDoor
open Go.RowKit
set_option maxRecDepth 100000
set_option maxHeartbeats 8000000
def markG (k:Nat) (b:Sg):Sg:=⟨((k:Nat):Int),((k+1:Nat):Int),((k+2:Nat):Int),marksI (k+3) b.items.length⟩
def kG (k:Nat) (b:Sg):Nat:=k+3+9 * b.items.length
def marksG:Nat→List Sg→List Sg
  | _,[]=> []
  | k,b::bs=>markG k b::marksG (kG k b) bs
def kF:Nat→List Sg→Nat
  | k,[]=>k
  | k,b::bs=>kF (kG k b) bs
theorem zq{α:Type}{l:List α}{i j:Nat}{y z:α}(h:(l.set i y)[j]? =some z):(j=i∧z=y)∨(j≠i∧l[j]? =some z):=by
  by_cases c:j=i
  · subst c
    have hl:j < l.length:=by have:=(List.getElem?_eq_some_iff.1 h).1;simpa using this
    rw [List.getElem?_set_self hl] at h;exact .inl ⟨rfl,(Option.some.inj h).symm⟩
  · rw [List.getElem?_set_ne (fun e=>c e.symm)] at h
    exact .inr ⟨c,h⟩
theorem SgO.cellAt{B:Nat}{w:World}{g n cap:Nat}{bs:List Sg}{hs:List SgH}(h:SgO B w (.slice (some ⟨g,0,none⟩) n cap) bs hs){i:Nat}{y:SgH}(hy:hs[i]? =some y)(hl:n=hs.length)(q:Nat)(u:Value)(hu:(sgE.f y)[q]? =some u):w.cell? ⟨g,i * 4+q,none⟩=some u∧w.frozen? ⟨g,i * 4+q,none⟩=false:=by
  subst hl;exact⟨h.row.cell rfl i y hy q u hu,h.row.loose _⟩

/- Segments that come in: how great they are. -/
def sgLean (left:Int) (b:Sg):Prop:=∀ x∈b.items,(x.2.user.size:Int) +x.2.name.size+x.2.text.size≤left
def gIts:List Sg→Nat
  | []=>0
  | b::bs=>b.items.length+gIts bs
theorem Jp:∀(l m:List Sg),gIts (l++m)=gIts l+gIts m
  | [],m=>by simp [gIts]
  | x::l,m=>by simp [gIts,Jp l m];omega
theorem yE:∀ {l:List Sg} {b:Sg},b∈l→b.items.length≤gIts l
  | x::l,b,h=>by
    rcases List.mem_cons.1 h with rfl | h
    · simp [gIts]
    · have:=yE h;simp [gIts];omega

/- Copies of segments that come in. -/
def put4 (w:World) (g i:Nat) (y:SgH):World:=(((w.setCell ⟨g,i * 4,none⟩ (.int .i64 y.no)).setCell ⟨g,i * 4+1,none⟩ (.int .i64 y.gen)).setCell ⟨g,i * 4+2,none⟩ (.int .i64 y.ende)).setCell ⟨g,i * 4+3,none⟩ (.slice y.a y.n y.c)
theorem je(w:World)(g i:Nat)(y:SgH):w.grownBy (put4 w g i y) (some g):=
  (((za w g (i * 4) _).trans (za _ g (i * 4+1) _)).trans (za _ g (i * 4+2) _)).trans (za _ g (i * 4+3) _)
theorem RBuf.put4{B:Nat}{w0 w:World}{g cap:Nat}{l:List SgH}(h:RBuf sgE B w0 w (.slice (some ⟨g,0,none⟩) l.length cap) l)(i:Nat)(x:SgH)(hi:l[i]? =some x)(y:SgH):
    RBuf sgE B w0 (Go.Proofs.YtklkhllkjnbhjaaGreatDoor.put4 w g i y) (.slice (some ⟨g,0,none⟩) l.length cap) (l.set i y):=by
  have hlt:i < l.length:=(List.getElem?_eq_some_iff.1 hi).1;have hl1:∀ z:SgH,(l.set i z).length=l.length:=fun z=>by simp
  have ha1:∀ z:SgH,(l.set i z)[i]? =some z:=fun z=>List.getElem?_set_self hlt;have s0:RBuf sgE B w0 (w.setCell ⟨g,i * 4,none⟩ (.int .i64 y.no)) (.slice (some ⟨g,0,none⟩) l.length cap) (l.set i ⟨y.no,x.gen,x.ende,x.a,x.n,x.c⟩):=h.stored i _ ⟨y.no,x.gen,x.ende,x.a,x.n,x.c⟩ hi 0 (by decide) (.int .i64 y.no) rfl;rw [←hl1 ⟨y.no,x.gen,x.ende,x.a,x.n,x.c⟩] at s0;have s1:=s0.stored i _ ⟨y.no,y.gen,x.ende,x.a,x.n,x.c⟩ (ha1 _) 1 (by decide) (.int .i64 y.gen) rfl;rw [List.set_set,hl1] at s1;rw [←hl1 ⟨y.no,y.gen,x.ende,x.a,x.n,x.c⟩] at s1;have s2:=s1.stored i _ ⟨y.no,y.gen,y.ende,x.a,x.n,x.c⟩ (ha1 _) 2 (by decide) (.int .i64 y.ende) rfl;rw [List.set_set,hl1] at s2;rw [←hl1 ⟨y.no,y.gen,y.ende,x.a,x.n,x.c⟩] at s2;have s3:=s2.stored i _ ⟨y.no,y.gen,y.ende,y.a,y.n,y.c⟩ (ha1 _) 3 (by decide) (.slice y.a y.n y.c) rfl;rw [List.set_set,hl1] at s3;exact s3
theorem SgO.put {B:Nat} {w:World} {g cap n:Nat} {bs:List Sg} {hs:List SgH} (h:SgO B w (.slice (some ⟨g,0,none⟩) n cap) bs hs) (hn:n=hs.length) {i:Nat} {x0:SgH} (hi:hs[i]? =some x0) (x:SgH) (b:Sg)
    (hx:x.no=b.no∧x.gen=b.gen∧x.ende=b.ende) (hm:RBuf itE B w w x.mv b.items) (hf:∀ k,x.mv.ownBlock=some k→k≠g)
    (ha:∀(j:Nat) (y:SgH),j≠i→hs[j]? =some y→∀ k,x.mv.ownBlock=some k→y.mv.ownBlock≠some k):
    SgO B (Go.Proofs.YtklkhllkjnbhjaaGreatDoor.put4 w g i x) (.slice (some ⟨g,0,none⟩) n cap) (bs.set i b) (hs.set i x):=by
  subst hn;have hg:=je w g i x;have kept:∀(m:Value) (l:List Itm),RBuf itE B w w m l→(∀ k,m.ownBlock=some k→k≠g)→RBuf itE B (Go.Proofs.YtklkhllkjnbhjaaGreatDoor.put4 w g i x) (Go.Proofs.YtklkhllkjnbhjaaGreatDoor.put4 w g i x) m l:=fun m l hm hf=>by
    refine hm.shift hg ?_;cases hmb:m.ownBlock with
    | none=>exact .inl rfl
    | some k=>exact .inr (fun e=>hf k hmb (Option.some.inj e))
  have far0:∀ {j:Nat} {y:SgH},hs[j]? =some y→∀ k,y.mv.ownBlock=some k→k≠g:=fun {j y} hj k hk e=>h.far j y hj k hk (by rw [e];rfl);refine⟨(h.row.put4 i x0 hi x).here,by simp [h.len],fun j y d h1 h2=>?_,fun j y h1 k hk=>?_,fun j k y z h1 h2 hjk q hq=>?_⟩
  · rcases zq h1 with⟨rfl,rfl⟩ |⟨hne,h1⟩
    · rcases zq h2 with⟨_,rfl⟩ |⟨hne,_⟩
      · exact⟨hx,kept _ _ hm hf⟩
      · exact absurd rfl hne
    · rcases zq h2 with⟨e,_⟩ |⟨_,h2⟩
      · exact absurd e hne
      · exact⟨(h.at' j y d h1 h2).1,kept _ _ (h.at' j y d h1 h2).2 (far0 h1)⟩
  · rcases zq h1 with⟨rfl,rfl⟩ |⟨hne,h1⟩
    · intro e;exact hf k hk (Option.some.inj e).symm
    · exact h.far j y h1 k hk
  · rcases zq h1 with⟨ej,ey⟩ |⟨nj,g1⟩
    · rcases zq h2 with⟨ek,_⟩ |⟨nk,g2⟩
      · exact absurd (ej.trans ek.symm) hjk
      · rw [ey] at hq
        exact ha k z nk g2 q hq
    · rcases zq h2 with⟨_,ez⟩ |⟨_,g2⟩
      · rw [ez];intro e;exact ha j y nj g1 q e hq
      · exact h.apart j k y z g1 g2 hjk q hq

/- Logs in memory: a disk, and segments in use. -/
structure Lg where
  d:Dk
  segs:Int
  used:List Sg
  ng:Int
  ns:Int
  st:Int
  nv:Int
theorem RBuf.stayG{α:Type}{E:Enc α}{B:Nat}{w w':World}{v:Value}{l:List α}(h:RBuf E B w w v l)(hz:w.heap.size≤w'.heap.size)(hk:∀ k,v.ownBlock=some k→w'.heap[k]? =w.heap[k]?):RBuf E B w' w' v l:=by
  refine⟨⟨h.own.1,?_⟩,Below.refl _ _,Nat.le_trans h.le hz⟩;rcases h.own.2 with h1 |⟨g,cap,cur,h1,h2,h3,h4⟩
  · exact .inl h1
  · exact .inr ⟨g,cap,cur,h1,h2,(hk g (by rw [h1];rfl)).trans h3,h4⟩
theorem Box.eightL{w:World}{b:Nat}{u0 u1 u2 u3 u4 u5 u6 u7:Value}{t:TypeId}(h:Box w b #[u0,u1,u2,u3,u4,u5,u6,u7] t):
    w.cell? ⟨b,0,none⟩=some u0∧w.cell? ⟨b,1,none⟩=some u1∧w.cell? ⟨b,2,none⟩=some u2∧w.cell? ⟨b,3,none⟩=some u3∧w.cell? ⟨b,4,none⟩=some u4∧w.cell? ⟨b,5,none⟩=some u5∧w.cell? ⟨b,6,none⟩=some u6∧w.cell? ⟨b,7,none⟩=some u7∧
    w.frozen? ⟨b,0,none⟩=false∧w.frozen? ⟨b,1,none⟩=false∧w.frozen? ⟨b,2,none⟩=false∧w.frozen? ⟨b,3,none⟩=false∧w.frozen? ⟨b,4,none⟩=false∧w.frozen? ⟨b,5,none⟩=false∧w.frozen? ⟨b,6,none⟩=false∧w.frozen? ⟨b,7,none⟩=false:=
  ⟨h.cell 0 _ rfl,h.cell 1 _ rfl,h.cell 2 _ rfl,h.cell 3 _ rfl,h.cell 4 _ rfl,h.cell 5 _ rfl,h.cell 6 _ rfl,h.cell 7 _ rfl,h.loose 0,h.loose 1,h.loose 2,h.loose 3,h.loose 4,h.loose 5,h.loose 6,h.loose 7⟩
def set8L (w:World) (b:Nat) (v0 v1 v2 v3 v4 v5 v6 v7:Value):World:=(((((((w.setCell ⟨b,0,none⟩ v0).setCell ⟨b,1,none⟩ v1).setCell ⟨b,2,none⟩ v2).setCell ⟨b,3,none⟩ v3).setCell ⟨b,4,none⟩ v4).setCell ⟨b,5,none⟩ v5).setCell ⟨b,6,none⟩ v6).setCell ⟨b,7,none⟩ v7
theorem Box.set8L{w:World}{b:Nat}{u0 u1 u2 u3 u4 u5 u6 u7:Value}{t:TypeId}(h:Box w b #[u0,u1,u2,u3,u4,u5,u6,u7] t)(v0 v1 v2 v3 v4 v5 v6 v7:Value):Box (Go.Proofs.YtklkhllkjnbhjaaGreatDoor.set8L w b v0 v1 v2 v3 v4 v5 v6 v7) b #[v0,v1,v2,v3,v4,v5,v6,v7] t:=
  have a0:Box (w.setCell ⟨b,0,none⟩ v0) b #[v0,u1,u2,u3,u4,u5,u6,u7] t:=h.set 0 v0
  have a1:Box ((w.setCell ⟨b,0,none⟩ v0).setCell ⟨b,1,none⟩ v1) b #[v0,v1,u2,u3,u4,u5,u6,u7] t:=a0.set 1 v1
  have a2:Box (((w.setCell ⟨b,0,none⟩ v0).setCell ⟨b,1,none⟩ v1).setCell ⟨b,2,none⟩ v2) b #[v0,v1,v2,u3,u4,u5,u6,u7] t:=a1.set 2 v2
  have a3:Box ((((w.setCell ⟨b,0,none⟩ v0).setCell ⟨b,1,none⟩ v1).setCell ⟨b,2,none⟩ v2).setCell ⟨b,3,none⟩ v3) b #[v0,v1,v2,v3,u4,u5,u6,u7] t:=a2.set 3 v3
  have a4:Box (((((w.setCell ⟨b,0,none⟩ v0).setCell ⟨b,1,none⟩ v1).setCell ⟨b,2,none⟩ v2).setCell ⟨b,3,none⟩ v3).setCell ⟨b,4,none⟩ v4) b #[v0,v1,v2,v3,v4,u5,u6,u7] t:=a3.set 4 v4
  have a5:Box ((((((w.setCell ⟨b,0,none⟩ v0).setCell ⟨b,1,none⟩ v1).setCell ⟨b,2,none⟩ v2).setCell ⟨b,3,none⟩ v3).setCell ⟨b,4,none⟩ v4).setCell ⟨b,5,none⟩ v5) b #[v0,v1,v2,v3,v4,v5,u6,u7] t:=a4.set 5 v5
  have a6:Box (((((((w.setCell ⟨b,0,none⟩ v0).setCell ⟨b,1,none⟩ v1).setCell ⟨b,2,none⟩ v2).setCell ⟨b,3,none⟩ v3).setCell ⟨b,4,none⟩ v4).setCell ⟨b,5,none⟩ v5).setCell ⟨b,6,none⟩ v6) b #[v0,v1,v2,v3,v4,v5,v6,u7] t:=a5.set 6 v6
  a6.set 7 v7
theorem zB{B b:Nat}{w0 w:World}(h:Below B w0 w)(hb:B≤b)(v0 v1 v2 v3 v4 v5 v6 v7:Value):Below B w0 (set8L w b v0 v1 v2 v3 v4 v5 v6 v7):=
  (((((((h.setCell (p:=⟨b,0,none⟩) hb v0).setCell (p:=⟨b,1,none⟩) hb v1).setCell (p:=⟨b,2,none⟩) hb v2).setCell (p:=⟨b,3,none⟩) hb v3).setCell (p:=⟨b,4,none⟩) hb v4).setCell (p:=⟨b,5,none⟩) hb v5).setCell (p:=⟨b,6,none⟩) hb v6).setCell (p:=⟨b,7,none⟩) hb v7
theorem zI(w:World)(b:Nat)(v0 v1 v2 v3 v4 v5 v6 v7:Value):w.grownBy (set8L w b v0 v1 v2 v3 v4 v5 v6 v7) (some b):=
  (((((((za w b 0 v0).trans (za _ b 1 v1)).trans (za _ b 2 v2)).trans (za _ b 3 v3)).trans (za _ b 4 v4)).trans (za _ b 5 v5)).trans (za _ b 6 v6)).trans (za _ b 7 v7)
theorem SgO.stay{B:Nat}{w w':World}{v:Value}{bs:List Sg}{hs:List SgH}(h:SgO B w v bs hs)(hz:w.heap.size≤w'.heap.size)(h1:∀ k,v.ownBlock=some k→w'.heap[k]? =w.heap[k]?)(h2:∀(j:Nat) (x:SgH),hs[j]? =some x→∀ k,x.mv.ownBlock=some k→w'.heap[k]? =w.heap[k]?):SgO B w' v bs hs:=
  ⟨h.row.stayG hz h1,h.len,fun j x b e1 e2=>⟨(h.at' j x b e1 e2).1,(h.at' j x b e1 e2).2.stayG hz (h2 j x e1)⟩,h.far,h.apart⟩
structure GOwn (B T:Nat) (w:World) (v:Value) (l:List Sg) (hs:List SgH):Prop where
  own:SgO B w v l hs
  le:T≤w.heap.size
  row:∀ k,v.ownBlock=some k→k < T
  its:∀(j:Nat) (x:SgH),hs[j]? =some x→∀ k,x.mv.ownBlock=some k→k < T
theorem SgO.gown{B:Nat}{w:World}{v:Value}{l:List Sg}{hs:List SgH}(h:SgO B w v l hs):GOwn B w.heap.size w v l hs:=
  ⟨h,Nat.le_refl _,fun k hk=>(h.where'.1 k hk).2,fun j x hj k hk=>(h.where'.2 j x hj k hk).2⟩
theorem GOwn.kept{B T B' T':Nat}{w w':World}{v:Value}{l:List Sg}{hs:List SgH}(h:GOwn B T w v l hs)(hk:Kept B' T' w w')(hd:T≤B'∨T'≤B):GOwn B T w' v l hs:=
  ⟨h.own.stay hk.size (fun k e=>hk.block k (h.own.where'.1 k e).2 (by have:=h.row k e;have:=(h.own.where'.1 k e).1;omega)) (fun j x hj k e=>hk.block k (h.own.where'.2 j x hj k e).2 (by have:=h.its j x hj k e;have:=(h.own.where'.2 j x hj k e).1;omega)),Nat.le_trans h.le hk.size,h.row,h.its⟩
theorem GOwn.widen{B T B' T':Nat}{w:World}{v:Value}{l:List Sg}{hs:List SgH}(h:GOwn B T w v l hs)(hB:B'≤B)(hT:T≤T')(hs':T'≤w.heap.size):GOwn B' T' w v l hs:=
  ⟨h.own.lower hB,hs',fun k e=>Nat.lt_of_lt_of_le (h.row k e) hT,fun j x hj k e=>Nat.lt_of_lt_of_le (h.its j x hj k e) hT⟩
structure LgP (B T:Nat) (w:World) (va vb vu:Value) (L:Lg) (hs:List SgH):Prop where
  sec:LOwn strE B T w va L.d.sec
  cac:LOwn wrE B T w vb L.d.cache
  two:va.ownBlock=none∨va.ownBlock≠vb.ownBlock
  use:GOwn B T w vu L.used hs
  far:∀ k,va.ownBlock=some k∨vb.ownBlock=some k→vu.ownBlock≠some k∧∀(j:Nat) (x:SgH),hs[j]? =some x→x.mv.ownBlock≠some k
def LgO (B T:Nat) (w:World) (v:Value) (L:Lg):Prop:=
  ∃ va vb vu hs,v=.agg #[va,vb,.int .i64 L.segs,vu,.int .i64 L.ng,.int .i64 L.ns,.int .i64 L.st,.int .i64 L.nv]∧LgP B T w va vb vu L hs
theorem LgP.kept{B T B' T':Nat}{w w':World}{va vb vu:Value}{L:Lg}{hs:List SgH}(h:LgP B T w va vb vu L hs)(hk:Kept B' T' w w')(hd:T≤B'∨T'≤B):LgP B T w' va vb vu L hs:=
  ⟨h.sec.kept hk hd,h.cac.kept hk hd,h.two,h.use.kept hk hd,h.far⟩
theorem LgP.later{B T:Nat}{w w':World}{va vb vu:Value}{L:Lg}{hs:List SgH}(h:LgP B T w va vb vu L hs)(hb:Below w.heap.size w w'):LgP B T w' va vb vu L hs:=
  h.kept (Kept.of_below hb T T) (.inl (Nat.le_refl _))
theorem LgP.stay{B T:Nat}{w w':World}{va vb vu:Value}{L:Lg}{hs:List SgH}(h:LgP B T w va vb vu L hs)(hz:w.heap.size≤w'.heap.size)(hk:∀ q,B≤q→q < T→w'.heap[q]? =w.heap[q]?):LgP B T w' va vb vu L hs:=
  ⟨⟨h.sec.1.stayG hz (fun q e=>hk q (h.sec.1.own.lt q e).1 (h.sec.2.2 q e)),Nat.le_trans h.sec.2.1 hz,h.sec.2.2⟩,⟨h.cac.1.stayG hz (fun q e=>hk q (h.cac.1.own.lt q e).1 (h.cac.2.2 q e)),Nat.le_trans h.cac.2.1 hz,h.cac.2.2⟩,h.two,
   ⟨h.use.own.stay hz (fun q e=>hk q (h.use.own.where'.1 q e).1 (h.use.row q e)) (fun j x hj q e=>hk q (h.use.own.where'.2 j x hj q e).1 (h.use.its j x hj q e)),Nat.le_trans h.use.le hz,h.use.row,h.use.its⟩,h.far⟩
theorem LgP.widen{B T B' T':Nat}{w:World}{va vb vu:Value}{L:Lg}{hs:List SgH}(h:LgP B T w va vb vu L hs)(hB:B'≤B)(hT:T≤T')(hz:T'≤w.heap.size):LgP B' T' w va vb vu L hs:=
  ⟨(h.sec.deeper hB).wider hT hz,(h.cac.deeper hB).wider hT hz,h.two,h.use.widen hB hT hz,h.far⟩
theorem LgP.mk2{B1 T1 B2 T:Nat}{w:World}{va vb vu:Value}{L:Lg}{hs:List SgH}(hd:DOwn B1 T1 w (.agg #[va,vb]) L.d)(hg:GOwn B2 T w vu L.used hs)(h1:T1≤B2)(h2:B1≤B2)(h3:T1≤T):LgP B1 T w va vb vu L hs:=by
  obtain⟨ua,ub,e,l1,l2,l3⟩:=hd;simp only [Value.agg.injEq,Array.mk.injEq,List.cons.injEq,and_true] at e;obtain⟨rfl,rfl⟩:=e;refine⟨l1.wider h3 hg.le,l2.wider h3 hg.le,l3,hg.widen h2 (Nat.le_refl _) hg.le,fun k hk=>?_⟩;have hlt:k < T1:=by rcases hk with e | e;exact l1.2.2 k e;exact l2.2.2 k e
  refine⟨fun e=>?_,fun j x hj e=>?_⟩
  · have:=(hg.own.where'.1 k e).1;omega
  · have:=(hg.own.where'.2 j x hj k e).1;omega
theorem LgP.down{B T:Nat}{w:World}{va vb vu:Value}{L:Lg}{hs:List SgH}(h:LgP B T w va vb vu L hs):DOwn B T w (.agg #[va,vb]) L.d:=⟨va,vb,rfl,h.sec,h.cac,h.two⟩
theorem LgP.form{B T:Nat}{w:World}{va vb vu:Value}{L:Lg}{hs:List SgH}(h:LgP B T w va vb vu L hs):∃(a b u:Option Addr) (c e f:Nat),va=.slice a L.d.sec.length c∧vb=.slice b L.d.cache.length e∧vu=.slice u L.used.length f:=by
  obtain⟨a,c,rfl⟩:=h.sec.1.form;obtain⟨b,e,rfl⟩:=h.cac.1.form;obtain⟨u,f,rfl⟩:=h.use.own.row.form;exact⟨a,b,u,c,e,f,rfl,rfl,by rw [h.use.own.len]⟩
def LRd (w:World) (v:Value) (L:Lg):Prop:=
  ∃ va vb vu,v=.agg #[va,vb,.int .i64 L.segs,vu,.int .i64 L.ng,.int .i64 L.ns,.int .i64 L.st,.int .i64 L.nv]∧DRd w (.agg #[va,vb]) L.d∧GRd w vu L.used
theorem LgO.rd{B T:Nat}{w:World}{v:Value}{L:Lg}(h:LgO B T w v L):LRd w v L:=by
  obtain⟨va,vb,vu,hs,rfl,p⟩:=h;exact⟨va,vb,vu,rfl,p.down.rd,p.use.own.rd⟩
theorem LRd.later{w w':World}{v:Value}{L:Lg}(h:LRd w v L)(hb:Below w.heap.size w w'):LRd w' v L:=by
  obtain⟨va,vb,vu,e,h1,h2⟩:=h;exact⟨va,vb,vu,e,h1.later hb,h2.later hb⟩
def Lg.lean (L:Lg) (left:Int):Prop:=L.d.lean left∧((L.used.length+gIts L.used:Nat):Int)≤left∧∀ b∈L.used,sgLean left b
theorem XW:∀(k:Nat) (bs:List Sg),kF k bs=k+3 * bs.length+9 * gIts bs
  | k,[]=>by simp [kF,gIts]
  | k,b::bs=>by
    have h1:=XW (kG k b) bs
    unfold kF gIts
    rw [h1,List.length_cons]
    unfold kG
    omega
def Lg.kL (k:Nat) (L:Lg):Nat:=kF (k+L.d.count) L.used
theorem Lg.lean_small(L:Lg)(h:L.lean 1048576):L.d.small∧L.used.length≤1048576∧(∀ b∈L.used,b.items.length≤1099511627776)∧L.kL 1≤40000000∧L.d.count≤4000000:=by
  obtain⟨⟨h1,h2,_,_⟩,h3,_⟩:=h;have h4:L.d.count≤4000000:=by unfold Dk.count;omega
  refine⟨⟨by omega,by omega⟩,by omega,fun b hb=>by have:=yE hb;omega,?_,h4⟩;unfold Lg.kL;rw [XW];omega
theorem Lg.lean_texts(L:Lg)(h:L.lean 1048576):∀ b∈L.used,∀ x∈b.items,x.2.user.size≤1048576∧x.2.name.size≤1048576∧x.2.text.size≤1048576:=fun b hb x hx=>by
  have:=h.2.2 b hb x hx
  omega
end Go.Proofs.YtklkhllkjnbhjaaGreatDoor
