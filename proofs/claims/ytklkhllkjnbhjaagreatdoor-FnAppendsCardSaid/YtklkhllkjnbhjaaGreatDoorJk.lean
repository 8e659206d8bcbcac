/- Texts of our own, joined. -/
import Derived.Test.YtklkhllkjnbhjaaGreatDoorJj
/- Records: what the model's ReadRec hands back. -/
namespace Go.Proofs.YtklkhllkjnbhjaaGreatDoor
open Go.RowKit
open Lib (hid)
set_option maxRecDepth 100000
set_option maxHeartbeats 8000000
theorem yv{t:ByteArray}{p:Nat}{b:Bool}{n q:Nat}(h:cuV t p b=(n,q,false)):b=false∧rv t.data.toList p=some (n,q):=by
  unfold cuV at h;cases b with
  | true=>simp at h
  | false=>
    rcases hr:rv t.data.toList p with _ |⟨n',q'⟩
    · simp [hr] at h
    · simp [hr] at h;exact⟨rfl,by rw [h.1,h.2]⟩
theorem JX{t:ByteArray}{p:Nat}{n q:Nat}(h:cuV t p false=(n,q,true)):rv t.data.toList p=none:=by
  unfold cuV at h;rcases hr:rv t.data.toList p with _ |⟨n',q'⟩
  · rfl
  · simp [hr] at h
theorem Zh{t:ByteArray}{p:Nat}{b:Bool}{n:ByteArray}{q:Nat}(h:cuS t p b=(n,q,false)):b=false∧rsO t p=some (n,q):=by
  unfold cuS at h;cases b with
  | true=>simp at h
  | false=>
    rcases hr:rsO t p with _ |⟨n',q'⟩
    · simp [hr] at h
    · simp [hr] at h;exact⟨rfl,by rw [h.1,h.2]⟩
theorem qP{t:ByteArray}{p:Nat}{n:ByteArray}{q:Nat}(h:cuS t p false=(n,q,true)):rsO t p=none:=by
  unfold cuS at h;rcases hr:rsO t p with _ |⟨n',q'⟩
  · rfl
  · simp [hr] at h
theorem zcd{t:ByteArray}{k:UInt8}{rest:List UInt8}(hk:t.data.toList=k::rest){n1 n2 n3 n4:Nat}{x5 x6 x7:ByteArray}{q1 q2 q3 q4 q5 q6 q7:Nat}{d1 d2 d3 d4 d5 d6 d7:Bool}
    (h1:cuV t 1 false=(n1,q1,d1)) (h2:cuV t q1 d1=(n2,q2,d2)) (h3:cuV t q2 d2=(n3,q3,d3)) (h4:cuV t q3 d3=(n4,q4,d4))
    (h5:cuS t q4 d4=(x5,q5,d5)) (h6:cuS t q5 d5=(x6,q6,d6)) (h7:cuS t q6 d6=(x7,q7,d7)):
    prs t=if d7=true then none else some ⟨k.toNat,n1,n2,n3,n4,x5,x6,x7⟩:=by
  unfold prs;cases d1 with
  | true=>
    have e1:=JX h1;have:d7=true:=by
      cases d7 with
      | true=>rfl
      | false=>have a6:=Zh h7;have a5:=Zh (a6.1 ▸ h6);have a4:=Zh (a5.1 ▸ h5);have a3:=yv (a4.1 ▸ h4);have a2:=yv (a3.1 ▸ h3);have a1:=yv (a2.1 ▸ h2);cases a1.1
    simp [hk,this,hk ▸ e1]
  | false=>
  have e1:=(yv h1).2;cases d2 with
  | true=>
    have e2:=JX h2;have:d7=true:=by
      cases d7 with
      | true=>rfl
      | false=>have a6:=Zh h7;have a5:=Zh (a6.1 ▸ h6);have a4:=Zh (a5.1 ▸ h5);have a3:=yv (a4.1 ▸ h4);have a2:=yv (a3.1 ▸ h3);cases a2.1
    simp [hk,this,hk ▸ e1,hk ▸ e2]
  | false=>
  have e2:=(yv h2).2;cases d3 with
  | true=>
    have e3:=JX h3;have:d7=true:=by
      cases d7 with
      | true=>rfl
      | false=>have a6:=Zh h7;have a5:=Zh (a6.1 ▸ h6);have a4:=Zh (a5.1 ▸ h5);have a3:=yv (a4.1 ▸ h4);cases a3.1
    simp [hk,this,hk ▸ e1,hk ▸ e2,hk ▸ e3]
  | false=>
  have e3:=(yv h3).2;cases d4 with
  | true=>
    have e4:=JX h4;have:d7=true:=by
      cases d7 with
      | true=>rfl
      | false=>have a6:=Zh h7;have a5:=Zh (a6.1 ▸ h6);have a4:=Zh (a5.1 ▸ h5);cases a4.1
    simp [hk,this,hk ▸ e1,hk ▸ e2,hk ▸ e3,hk ▸ e4]
  | false=>
  have e4:=(yv h4).2;cases d5 with
  | true=>
    have e5:=qP h5;have:d7=true:=by
      cases d7 with
      | true=>rfl
      | false=>have a6:=Zh h7;have a5:=Zh (a6.1 ▸ h6);cases a5.1
    simp [hk,this,hk ▸ e1,hk ▸ e2,hk ▸ e3,hk ▸ e4,e5]
  | false=>
  have e5:=(Zh h5).2;cases d6 with
  | true=>
    have e6:=qP h6;have:d7=true:=by
      cases d7 with
      | true=>rfl
      | false=>have a6:=Zh h7;cases a6.1
    simp [hk,this,hk ▸ e1,hk ▸ e2,hk ▸ e3,hk ▸ e4,e5,e6]
  | false=>
  have e6:=(Zh h6).2;cases d7 with
  | true=>
    have e7:=qP h7;simp [hk,hk ▸ e1,hk ▸ e2,hk ▸ e3,hk ▸ e4,e5,e6,e7]
  | false=>
    have e7:=(Zh h7).2;simp [hk,hk ▸ e1,hk ▸ e2,hk ▸ e3,hk ▸ e4,e5,e6,e7]
def Rc.nil:Rc:=⟨0,0,0,0,0,emp,emp,emp⟩
def rrT (t:ByteArray):Value:=match rrO t with
  | some r=>.tuple #[r.v,.bool true]
  | none=>.tuple #[Rc.nil.v,.bool false]
theorem vY{t:ByteArray}{r:Rc}(h:rrO t=some r):rrT t=.tuple #[r.v,.bool true]:=by rw [rrT,h]
theorem ZT{t:ByteArray}(h:rrO t=none):rrT t=.tuple #[Rc.nil.v,.bool false]:=by rw [rrT,h]
theorem zce:rrO emp=none:=rfl
theorem qw{t:ByteArray}(h:prs t=none):rrO t=none:=by rw [rrO,h]
theorem zaV{t:ByteArray}{r:Rc}(h:prs t=some r):rrO t=if r.ok∧r.tx=t then some r else none:=by rw [rrO,h]
def set8 (w:World) (b:Nat) (v0 v1 v2 v3 v4 v5 v6 v7:Value):World:=(((((((w.setCell ⟨b,0,none⟩ v0).setCell ⟨b,1,none⟩ v1).setCell ⟨b,2,none⟩ v2).setCell ⟨b,3,none⟩ v3).setCell ⟨b,4,none⟩ v4).setCell ⟨b,5,none⟩ v5).setCell ⟨b,6,none⟩ v6).setCell ⟨b,7,none⟩ v7
theorem Box.set8{w:World}{b:Nat}{u0 u1 u2 u3 u4 u5 u6 u7:Value}{t:TypeId}(h:Box w b #[u0,u1,u2,u3,u4,u5,u6,u7] t)(v0 v1 v2 v3 v4 v5 v6 v7:Value):Box (set8 w b v0 v1 v2 v3 v4 v5 v6 v7) b #[v0,v1,v2,v3,v4,v5,v6,v7] t:=
  have a0:Box (w.setCell ⟨b,0,none⟩ v0) b #[v0,u1,u2,u3,u4,u5,u6,u7] t:=h.set 0 v0
  have a1:Box ((w.setCell ⟨b,0,none⟩ v0).setCell ⟨b,1,none⟩ v1) b #[v0,v1,u2,u3,u4,u5,u6,u7] t:=a0.set 1 v1
  have a2:Box (((w.setCell ⟨b,0,none⟩ v0).setCell ⟨b,1,none⟩ v1).setCell ⟨b,2,none⟩ v2) b #[v0,v1,v2,u3,u4,u5,u6,u7] t:=a1.set 2 v2
  have a3:Box ((((w.setCell ⟨b,0,none⟩ v0).setCell ⟨b,1,none⟩ v1).setCell ⟨b,2,none⟩ v2).setCell ⟨b,3,none⟩ v3) b #[v0,v1,v2,v3,u4,u5,u6,u7] t:=a2.set 3 v3
  have a4:Box (((((w.setCell ⟨b,0,none⟩ v0).setCell ⟨b,1,none⟩ v1).setCell ⟨b,2,none⟩ v2).setCell ⟨b,3,none⟩ v3).setCell ⟨b,4,none⟩ v4) b #[v0,v1,v2,v3,v4,u5,u6,u7] t:=a3.set 4 v4
  have a5:Box ((((((w.setCell ⟨b,0,none⟩ v0).setCell ⟨b,1,none⟩ v1).setCell ⟨b,2,none⟩ v2).setCell ⟨b,3,none⟩ v3).setCell ⟨b,4,none⟩ v4).setCell ⟨b,5,none⟩ v5) b #[v0,v1,v2,v3,v4,v5,u6,u7] t:=a4.set 5 v5
  have a6:Box (((((((w.setCell ⟨b,0,none⟩ v0).setCell ⟨b,1,none⟩ v1).setCell ⟨b,2,none⟩ v2).setCell ⟨b,3,none⟩ v3).setCell ⟨b,4,none⟩ v4).setCell ⟨b,5,none⟩ v5).setCell ⟨b,6,none⟩ v6) b #[v0,v1,v2,v3,v4,v5,v6,u7] t:=a5.set 6 v6
  a6.set 7 v7
theorem zN{B b:Nat}{w0 w:World}(h:Below B w0 w)(hb:B≤b)(v0 v1 v2 v3 v4 v5 v6 v7:Value):Below B w0 (set8 w b v0 v1 v2 v3 v4 v5 v6 v7):=
  (((((((h.setCell (p:=⟨b,0,none⟩) hb v0).setCell (p:=⟨b,1,none⟩) hb v1).setCell (p:=⟨b,2,none⟩) hb v2).setCell (p:=⟨b,3,none⟩) hb v3).setCell (p:=⟨b,4,none⟩) hb v4).setCell (p:=⟨b,5,none⟩) hb v5).setCell (p:=⟨b,6,none⟩) hb v6).setCell (p:=⟨b,7,none⟩) hb v7
theorem xC(w:World)(b:Nat)(v0 v1 v2 v3 v4 v5 v6 v7:Value):w.grownBy (set8 w b v0 v1 v2 v3 v4 v5 v6 v7) (some b):=
  (((((((za w b 0 v0).trans (za _ b 1 v1)).trans (za _ b 2 v2)).trans (za _ b 3 v3)).trans (za _ b 4 v4)).trans (za _ b 5 v5)).trans (za _ b 6 v6)).trans (za _ b 7 v7)
theorem Box.but{w X:World}{b g:Nat}{cs:Array Value}{t:TypeId}(h:Box w b cs t)(hg:w.grownBy X (some g))(hne:b≠g):Box X b cs t:=(hg.block b h.lt (fun e=>hne (Option.some.inj e))).trans h
theorem j8{w w1 w2:World}{g:Nat}(hb:Below w.heap.size w w1)(hp:w.heap.size≤g)(hg:w1.grownBy w2 (some g)):Below w.heap.size w w2:=
  hb.grown hg hb.size (fun k hk=>by have:=Option.some.inj hk;omega)
theorem Box.eight{w:World}{b:Nat}{u0 u1 u2 u3 u4 u5 u6 u7:Value}{t:TypeId}(h:Box w b #[u0,u1,u2,u3,u4,u5,u6,u7] t):
    w.cell? ⟨b,0,none⟩=some u0∧w.cell? ⟨b,1,none⟩=some u1∧w.cell? ⟨b,2,none⟩=some u2∧w.cell? ⟨b,3,none⟩=some u3∧w.cell? ⟨b,4,none⟩=some u4∧w.cell? ⟨b,5,none⟩=some u5∧w.cell? ⟨b,6,none⟩=some u6∧w.cell? ⟨b,7,none⟩=some u7∧
    w.frozen? ⟨b,0,none⟩=false∧w.frozen? ⟨b,1,none⟩=false∧w.frozen? ⟨b,2,none⟩=false∧w.frozen? ⟨b,3,none⟩=false∧w.frozen? ⟨b,4,none⟩=false∧w.frozen? ⟨b,5,none⟩=false∧w.frozen? ⟨b,6,none⟩=false∧w.frozen? ⟨b,7,none⟩=false:=
  ⟨h.cell 0 _ rfl,h.cell 1 _ rfl,h.cell 2 _ rfl,h.cell 3 _ rfl,h.cell 4 _ rfl,h.cell 5 _ rfl,h.cell 6 _ rfl,h.cell 7 _ rfl,h.loose 0,h.loose 1,h.loose 2,h.loose 3,h.loose 4,h.loose 5,h.loose 6,h.loose 7⟩
structure RdI (w:World) (g0 g1 g5:Nat) (t:ByteArray) (p:Nat) (b:Bool) (cs:Array Value) (X:World):Prop where
  res:Box X g0 Rc.nil.cs 33
  cur:CuB X g1 t p b
  rcd:Box X g5 cs 33
  bel:Below w.heap.size w X
  l0:w.heap.size≤g0
  l1:w.heap.size≤g1
  l5:w.heap.size≤g5
  n01:g0≠g1
  n05:g0≠g5
  n15:g1≠g5
section
variable {w X Y : World} {g0 g1 g5 : Nat} {t : ByteArray} {p p' : Nat} {b b' : Bool} {cs : Array Value}
theorem RdI.call(h:RdI w g0 g1 g5 t p b cs X)(hc:CuB Y g1 t p' b')(hg:X.grownBy Y (some g1)):RdI w g0 g1 g5 t p' b' cs Y:=
  ⟨h.res.but hg h.n01,hc,h.rcd.but hg (fun e=>h.n15 e.symm),j8 h.bel h.l1 hg,h.l0,h.l1,h.l5,h.n01,h.n05,h.n15⟩
theorem RdI.store(h:RdI w g0 g1 g5 t p b cs X)(j:Nat)(v:Value):RdI w g0 g1 g5 t p b (cs.setIfInBounds j v) (X.setCell ⟨g5,j,none⟩ v):=
  ⟨h.res.other h.n05 j v,Box.other h.cur h.n15 j v,h.rcd.set j v,h.bel.setCell (p:=⟨g5,j,none⟩) h.l5 v,h.l0,h.l1,h.l5,h.n01,h.n05,h.n15⟩
theorem RdI.later(h:RdI w g0 g1 g5 t p b cs X)(hb:Below X.heap.size X Y):RdI w g0 g1 g5 t p b cs Y:=
  ⟨h.res.later hb,Box.later h.cur hb,h.rcd.later hb,h.bel.trans (hb.mono h.bel.size),h.l0,h.l1,h.l5,h.n01,h.n05,h.n15⟩
end
theorem RdI.startA{w W wT:World}{g0 g1:Nat}{t:ByteArray}{q:Nat}{d:Bool}(hx:Box W g0 Rc.nil.cs 33)(hb:Below w.heap.size w W)(l0:w.heap.size≤g0)(l1:w.heap.size≤g1)(n01:g0≠g1)
    (cT:CuB wT g1 t q d) (kT:W.drew.grownBy wT (some g1)) (cs:Array Value):RdI w g0 g1 wT.heap.size t q d cs (wT.alloc (.cells cs 33)):=by
  have kT':W.grownBy wT (some g1):=⟨kT.os,kT.tape,kT.output,kT.size,kT.block⟩;have bT:=j8 hb l1 kT';have hr:=hx.but kT' n01;have h0:=hr.lt;have h1:=Box.lt cT;exact⟨hr.later (zb _ _),Box.later cT (zb _ _),Box.new wT _ _,bT.trans ((zb _ _).mono bT.size),l0,l1,by have:=bT.size;omega,n01,by omega,by omega⟩
theorem RdI.startB{w W wT:World}{g0 g1:Nat}{t:ByteArray}{q:Nat}{d:Bool}{cs:Array Value}{u0 u1 u2 u3 u4 u5 u6 u7:Value}(hx:Box W g0 Rc.nil.cs 33)(hb:Below w.heap.size w W)(l0:w.heap.size≤g0)(l1:w.heap.size≤g1)(n01:g0≠g1)(hlt:g1 < W.heap.size)
    (cT:CuB wT g1 t q d) (kT:(W.alloc (.cells cs 33)).drew.grownBy wT (some g1)) (qx:Box wT W.heap.size #[u0,u1,u2,u3,u4,u5,u6,u7] 33) (v0 v1 v2 v3 v4 v5 v6 v7:Value):
    RdI w g0 g1 W.heap.size t q d #[v0,v1,v2,v3,v4,v5,v6,v7] (set8 wT W.heap.size v0 v1 v2 v3 v4 v5 v6 v7):=by
  have kT':(W.alloc (.cells cs 33)).grownBy wT (some g1):=⟨kT.os,kT.tape,kT.output,kT.size,kT.block⟩;have bA:=hb.trans ((zb W (.cells cs 33)).mono hb.size);have bT:=j8 bA l1 kT';have hr:=(hx.later (zb _ _)).but kT' n01;have h0:=hx.lt;have hg:=xC wT W.heap.size v0 v1 v2 v3 v4 v5 v6 v7;exact⟨hr.but hg (by omega),Box.but cT hg (by omega),qx.set8 _ _ _ _ _ _ _ _,zN bT hb.size _ _ _ _ _ _ _ _,l0,l1,hb.size,n01,by omega,by omega⟩
theorem vN(a b:ByteArray):(a.toList==b.toList)=decide (a=b):=by
  by_cases h:a=b
  · simp [h]
  · have:¬a.toList=b.toList:=fun e=>h (by rw [Go.ByteArray.toList_eq,Go.ByteArray.toList_eq] at e;obtain⟨⟨x⟩⟩:=a;obtain⟨⟨y⟩⟩:=b;simp only at e;rw [e])
    rw [decide_eq_false h];simp [this]
theorem zbn {t:ByteArray} {r:Rc} {d:Bool} (h:prs t=if d=true then none else some r):
    ∃(bk:ByteArray) (o:Bool),rtT r=.tuple #[.string bk,.bool o]∧rrT t=if d=false∧o=true∧decide (bk=t)=true then .tuple #[r.v,.bool true] else .tuple #[Rc.nil.v,.bool false]:=by
  by_cases hok:r.ok
  · refine⟨r.tx,true,jt hok,?_⟩
    cases d with
    | true=>rw [ZT (qw h)];simp
    | false=>
      have h':=zaV (show prs t=some r from h);by_cases he:r.tx=t
      · rw [if_pos ⟨hok,he⟩] at h'
        rw [vY h',if_pos ⟨rfl,rfl,decide_eq_true he⟩]
      · rw [if_neg (fun c=>he c.2)] at h'
        rw [ZT h',if_neg (fun c=>he (of_decide_eq_true c.2.2))]
  · refine⟨⟨#[]⟩,false,Vo hok,?_⟩
    rw [if_neg (fun c=>by cases c.2.1)];cases d with
    | true=>exact ZT (qw h)
    | false=>
      have h':=zaV (show prs t=some r from h);rw [if_neg (fun c=>hok c.1)] at h';exact ZT h'
theorem YA{t:ByteArray}{p:Nat}{b:Bool}{g:Nat}{w:World}{n q:Nat}{d:Bool}(h:cuV t p b=(n,q,d))(hx:CuB w g t p b)(hp:p≤t.size)(hs:t.size≤1099511627776):
    Calls Tryz.prog 136 #[.pointer (some ⟨g,0,none⟩)] w fun e w'=>e=.returned (.int .i64 (n:Int))∧CuB w' g t q d∧w.grownBy w' (some g):=by
  have:=xY t p b g w hx hp hs;rw [h] at this;exact this
theorem ZY{t:ByteArray}{p:Nat}{b:Bool}{g:Nat}{w:World}{n:ByteArray}{q:Nat}{d:Bool}(h:cuS t p b=(n,q,d))(hx:CuB w g t p b)(hp:p≤t.size)(hs:t.size≤1099511627776):
    Calls Tryz.prog 137 #[.pointer (some ⟨g,0,none⟩)] w fun e w'=>e=.returned (.string n)∧CuB w' g t q d∧w.grownBy w' (some g):=by
  have:=jW t p b g w hx hp hs;rw [h] at this;exact this
theorem JD (t:ByteArray) (w:World) (hs:t.size≤1099511627776):
    Calls Tryz.prog 114 #[.string t] w fun e w'=>e=.returned (rrT t)∧Below w.heap.size w w':=by
  have b0:Below w.heap.size w (w.alloc (.cells #[.int .i64 0,.int .i64 0,.int .i64 0,.int .i64 0,.int .i64 0,.string ⟨#[]⟩,.string ⟨#[]⟩,.string ⟨#[]⟩] 33)):=(Below.refl _ _).alloc (Nat.le_refl _) _;have hx:=Box.new w #[.int .i64 0,.int .i64 0,.int .i64 0,.int .i64 0,.int .i64 0,.string ⟨#[]⟩,.string ⟨#[]⟩,.string ⟨#[]⟩] 33;by_cases ht:t=emp
  · subst ht
    have HZ:=hid (ZT zce);have hq:(emp.toList== [])=true:=by rw [jI];exact decide_eq_true rfl
    clear hx;go_enter Tryz.func114,Tryz.ntmps114
    go_wp2;refine bodyPost_ret (v:=.tuple #[.agg #[.int .i64 0,.int .i64 0,.int .i64 0,.int .i64 0,.int .i64 0,.string ⟨#[]⟩,.string ⟨#[]⟩,.string ⟨#[]⟩],.bool false]) (by simp [results,Tryz.results114,go_sem]) rfl ?_;exact⟨by rw [HZ.out];rfl,b0⟩
  · have hq :(t.toList== [])=false:=by rw [jI];exact decide_eq_false ht
    obtain⟨k,rest,hk⟩:∃ k rest,t.data.toList=k::rest:=by
      rcases h:t.data.toList with _ |⟨k,rest⟩
      · exact absurd (by obtain⟨⟨l⟩⟩:=t;simp only at h;rw [h];rfl) ht
      · exact⟨k,rest,rfl⟩
    have hz1:1≤t.size:=by
      have:t.data.toList.length=t.size:=(by simp);rw [hk] at this;simp at this;omega
    have hi0:∀ wx,(Instr.index 9 (.string t) (.int .i64 0)).run Tryz.prog wx=.ok (.int .u8 (k.toNat:Int)) wx:=fun wx=>by
      have:=j1 t 0 (by omega) wx;have e:t[0]=k:=by
        show t.data[0]=k
        have h2:t.data.toList[0]? =some k:=(by rw [hk];rfl);rw [Array.getElem?_toList] at h2;exact(Array.getElem?_eq_some_iff.1 h2).2
      rw [e] at this;exact this
    have hkw:IntKind.i64.wrap (k.toNat:Int)=(k.toNat:Int):=by have:=k.toNat_lt;exact IntWalk.i64_in _ ⟨by omega,by omega⟩
    obtain⟨⟨n1,q1,d1⟩,h1⟩:∃ c,cuV t 1 false=c:=⟨_,rfl⟩;have le1:=qo t 1 false hz1;rw [h1] at le1;simp only at le1;obtain⟨⟨n2,q2,d2⟩,h2⟩:∃ c,cuV t q1 d1=c:=⟨_,rfl⟩;have le2:=qo t q1 d1 le1.1;rw [h2] at le2;simp only at le2;obtain⟨⟨n3,q3,d3⟩,h3⟩:∃ c,cuV t q2 d2=c:=⟨_,rfl⟩;have le3:=qo t q2 d2 le2.1;rw [h3] at le3;simp only at le3;obtain⟨⟨n4,q4,d4⟩,h4⟩:∃ c,cuV t q3 d3=c:=⟨_,rfl⟩;have le4:=qo t q3 d3 le3.1;rw [h4] at le4;simp only at le4;obtain⟨⟨x5,q5,d5⟩,h5⟩:∃ c,cuS t q4 d4=c:=⟨_,rfl⟩;have le5:=xW t q4 d4 le4.1;rw [h5] at le5;simp only at le5;obtain⟨⟨x6,q6,d6⟩,h6⟩:∃ c,cuS t q5 d5=c:=⟨_,rfl⟩;have le6:=xW t q5 d5 le5.1;rw [h6] at le6;simp only at le6;obtain⟨⟨x7,q7,d7⟩,h7⟩:∃ c,cuS t q6 d6=c:=⟨_,rfl⟩;have le7:=xW t q6 d6 le6.1;rw [h7] at le7;simp only at le7;have hprs:=zcd hk h1 h2 h3 h4 h5 h6 h7;obtain⟨r,hr⟩:∃ r:Rc,r=⟨(k.toNat:Int),n1,n2,n3,n4,x5,x6,x7⟩:=⟨_,rfl⟩;have hRT:=fun wx=>Yb ⟨(k.toNat:Int),n1,n2,n3,n4,x5,x6,x7⟩ wx (by simp only;omega) (by simp only;omega) (by simp only;omega);rw [←hr] at hprs hRT;have hv:r.v=.agg #[.int .i64 (k.toNat:Int),.int .i64 (n1:Int),.int .i64 (n2:Int),.int .i64 (n3:Int),.int .i64 (n4:Int),.string x5,.string x6,.string x7]:=by rw [hr];rfl
    have HV:=hid hv;rw [hv] at hRT;have HRT:=hid hRT;have HPR:=hid hprs;have H1:=hid h1;have H2:=hid h2;have H3:=hid h3;have H4:=hid h4;have H5:=hid h5;have H6:=hid h6;have H7:=hid h7;clear hRT hprs hv h1 h2 h3 h4 h5 h6 h7;go_enter Tryz.func114,Tryz.ntmps114
    go_upto_region 4 with fail
    have hx1:=hx.later (zb _ (.cells #[.string t,.int .i64 1,.bool false] 183));have hc1:=Box.new (w.alloc (.cells #[.int .i64 0,.int .i64 0,.int .i64 0,.int .i64 0,.int .i64 0,.string ⟨#[]⟩,.string ⟨#[]⟩,.string ⟨#[]⟩] 33)) #[.string t,.int .i64 1,.bool false] 183;have b1:=b0.trans ((zb (w.alloc (.cells #[.int .i64 0,.int .i64 0,.int .i64 0,.int .i64 0,.int .i64 0,.string ⟨#[]⟩,.string ⟨#[]⟩,.string ⟨#[]⟩] 33)) (.cells #[.string t,.int .i64 1,.bool false] 183)).mono b0.size);have hg1:(w.alloc (.cells #[.int .i64 0,.int .i64 0,.int .i64 0,.int .i64 0,.int .i64 0,.string ⟨#[]⟩,.string ⟨#[]⟩,.string ⟨#[]⟩] 33)).heap.size=w.heap.size+1:=by simp
    rw [hg1] at hc1;obtain⟨g1,hg⟩:∃ g1,w.heap.size+1=g1:=⟨_,rfl⟩;rw [hg] at hc1 ⊢;have hl1:w.heap.size≤g1∧w.heap.size≠g1:=by omega
    clear hg1 hg hx b0 hq;generalize (w.alloc (.cells #[.int .i64 0,.int .i64 0,.int .i64 0,.int .i64 0,.int .i64 0,.string ⟨#[]⟩,.string ⟨#[]⟩,.string ⟨#[]⟩] 33)).alloc (.cells #[.string t,.int .i64 1,.bool false] 183)=W at hx1 hc1 b1 ⊢;have hlt:=hc1.lt;have HC0:Hid (CuB W.drew g1 t 1 false):=hc1;have HC1:Hid (CuB (W.alloc (.cells #[.int .i64 0,.int .i64 0,.int .i64 0,.int .i64 0,.int .i64 0,.string ⟨#[]⟩,.string ⟨#[]⟩,.string ⟨#[]⟩] 33)).drew g1 t 1 false):=Box.later hc1 (XK _ _);have HB5:Hid (Box (W.alloc (.cells #[.int .i64 0,.int .i64 0,.int .i64 0,.int .i64 0,.int .i64 0,.string ⟨#[]⟩,.string ⟨#[]⟩,.string ⟨#[]⟩] 33)).drew W.heap.size #[.int .i64 0,.int .i64 0,.int .i64 0,.int .i64 0,.int .i64 0,.string ⟨#[]⟩,.string ⟨#[]⟩,.string ⟨#[]⟩] 33):=Box.new W _ _;go_cut [5] (fun p wx=>∃ g5,p=.pointer (some ⟨g5,0,none⟩)∧RdI w w.heap.size g1 g5 t q1 d1 #[.int .i64 (k.toNat:Int),.int .i64 (n1:Int),.int .i64 0,.int .i64 0,.int .i64 0,.string ⟨#[]⟩,.string ⟨#[]⟩,.string ⟨#[]⟩] wx)
    case first=>
      go_region_held3 (fun _=>True) (trivial)
        (first |(go_at_call 136;refine(YA H1.out (by first | exact HC0.out | exact HC1.out) hz1 hs).mono ?_;rintro e wT ⟨rfl,cT,kT⟩;(first |(have qx:=HB5.out.but kT (by omega);obtain⟨y0,y1,y2,y3,y4,y5,y6,y7,f0,f1,f2,f3,f4,f5,f6,f7⟩:=qx.eight;have CT:=hid cT;have KT:=hid kT;have QX:=hid qx;clear cT kT qx) |(have CT:=hid cT;have KT:=hid kT;clear cT kT))))
      all_goals
        go_wp2_with fail
        go_meet
        first
          | exact⟨_,rfl,RdI.startA hx1 b1 (Nat.le_refl _) hl1.1 hl1.2 CT.out KT.out _⟩
          | exact⟨_,rfl,RdI.startB hx1 b1 (Nat.le_refl _) hl1.1 hl1.2 hlt CT.out KT.out QX.out _ _ _ _ _ _ _ _⟩
    case rest=>
      obtain⟨g5,rfl,I⟩:=hcut;clear HC0 HC1 HB5 hx1 hc1 b1 hlt H1 hi0 hkw;go_wp2_with fail
      refine(YA H2.out I.cur le1.1 hs).mono ?_;rintro e w2 ⟨rfl,cc,kk⟩;replace I:=I.call cc kk;clear cc kk;have zz:=I.rcd.cell 2 _ rfl;have ff:=I.rcd.loose 2;go_wp2_with fail
      have I:RdI w w.heap.size g1 g5 t q2 d2 #[.int .i64 (k.toNat:Int),.int .i64 (n1:Int),.int .i64 (n2:Int),.int .i64 0,.int .i64 0,.string ⟨#[]⟩,.string ⟨#[]⟩,.string ⟨#[]⟩] _:=I.store 2 (.int .i64 (n2:Int));generalize w2.setCell ⟨g5,2,none⟩ (.int .i64 (n2:Int))=X2 at I ⊢;clear zz ff;refine(YA H3.out I.cur le2.1 hs).mono ?_;rintro e w3 ⟨rfl,cc,kk⟩;replace I:=I.call cc kk;clear cc kk;have zz:=I.rcd.cell 3 _ rfl;have ff:=I.rcd.loose 3;go_wp2_with fail
      have I:RdI w w.heap.size g1 g5 t q3 d3 #[.int .i64 (k.toNat:Int),.int .i64 (n1:Int),.int .i64 (n2:Int),.int .i64 (n3:Int),.int .i64 0,.string ⟨#[]⟩,.string ⟨#[]⟩,.string ⟨#[]⟩] _:=I.store 3 (.int .i64 (n3:Int));generalize w3.setCell ⟨g5,3,none⟩ (.int .i64 (n3:Int))=X3 at I ⊢;clear zz ff;refine(YA H4.out I.cur le3.1 hs).mono ?_;rintro e w4 ⟨rfl,cc,kk⟩;replace I:=I.call cc kk;clear cc kk;have zz:=I.rcd.cell 4 _ rfl;have ff:=I.rcd.loose 4;go_wp2_with fail
      have I:RdI w w.heap.size g1 g5 t q4 d4 #[.int .i64 (k.toNat:Int),.int .i64 (n1:Int),.int .i64 (n2:Int),.int .i64 (n3:Int),.int .i64 (n4:Int),.string ⟨#[]⟩,.string ⟨#[]⟩,.string ⟨#[]⟩] _:=I.store 4 (.int .i64 (n4:Int));generalize w4.setCell ⟨g5,4,none⟩ (.int .i64 (n4:Int))=X4 at I ⊢;clear zz ff;refine(ZY H5.out I.cur le4.1 hs).mono ?_;rintro e w5 ⟨rfl,cc,kk⟩;replace I:=I.call cc kk;clear cc kk;have zz:=I.rcd.cell 5 _ rfl;have ff:=I.rcd.loose 5;go_wp2_with fail
      have I:RdI w w.heap.size g1 g5 t q5 d5 #[.int .i64 (k.toNat:Int),.int .i64 (n1:Int),.int .i64 (n2:Int),.int .i64 (n3:Int),.int .i64 (n4:Int),.string x5,.string ⟨#[]⟩,.string ⟨#[]⟩] _:=I.store 5 (.string x5);generalize w5.setCell ⟨g5,5,none⟩ (.string x5)=X5 at I ⊢;clear zz ff;refine(ZY H6.out I.cur le5.1 hs).mono ?_;rintro e w6 ⟨rfl,cc,kk⟩;replace I:=I.call cc kk;clear cc kk;have zz:=I.rcd.cell 6 _ rfl;have ff:=I.rcd.loose 6;go_wp2_with fail
      have I:RdI w w.heap.size g1 g5 t q6 d6 #[.int .i64 (k.toNat:Int),.int .i64 (n1:Int),.int .i64 (n2:Int),.int .i64 (n3:Int),.int .i64 (n4:Int),.string x5,.string x6,.string ⟨#[]⟩] _:=I.store 6 (.string x6);generalize w6.setCell ⟨g5,6,none⟩ (.string x6)=X6 at I ⊢;clear zz ff;refine(ZY H7.out I.cur le6.1 hs).mono ?_;rintro e w7 ⟨rfl,cc,kk⟩;replace I:=I.call cc kk;clear cc kk;obtain⟨y0,y1,y2,y3,y4,y5,y6,y7,f0,f1,f2,f3,f4,f5,f6,f7⟩:=I.rcd.eight;go_wp2_with fail
      have I:RdI w w.heap.size g1 g5 t q7 d7 #[.int .i64 (k.toNat:Int),.int .i64 (n1:Int),.int .i64 (n2:Int),.int .i64 (n3:Int),.int .i64 (n4:Int),.string x5,.string x6,.string x7] _:=I.store 7 (.string x7);generalize w7.setCell ⟨g5,7,none⟩ (.string x7)=X7 at I ⊢;clear y0 y1 y2 y3 y4 y5 y6 y7 f0 f1 f2 f3 f4 f5 f6 f7;refine(HRT.out _).mono ?_;rintro e w8 ⟨rfl,k8⟩;replace I:=I.later k8;clear k8 HRT;obtain⟨bk,o,hT,hE⟩:=zbn HPR.out;rw [hT];obtain⟨eq,hq⟩:∃ eq,decide (bk=t)=eq:=⟨_,rfl⟩;rw [hq] at hE;have qb:(bk.toList==t.toList)=eq:=(by rw [vN,hq]);have HE:=hid hE;clear hE hT hq HPR;obtain⟨y0,y1,y2,y3,y4,y5,y6,y7,f0,f1,f2,f3,f4,f5,f6,f7⟩:=I.rcd.eight;obtain⟨u0,u1,u2,u3,u4,u5,u6,u7,v0,v1,v2,v3,v4,v5,v6,v7⟩:=Box.eight (u0:=.int .i64 0) (u1:=.int .i64 0) (u2:=.int .i64 0) (u3:=.int .i64 0) (u4:=.int .i64 0) (u5:=.string ⟨#[]⟩) (u6:=.string ⟨#[]⟩) (u7:=.string ⟨#[]⟩) I.res;have zc:=Box.cell I.cur 2 _ rfl;have BB:=hid I.bel;clear I H2 H3 H4 H5 H6 H7;cases d7 with
      | true=>
        go_wp2;refine bodyPost_ret (v:=.tuple #[.agg #[.int .i64 0,.int .i64 0,.int .i64 0,.int .i64 0,.int .i64 0,.string ⟨#[]⟩,.string ⟨#[]⟩,.string ⟨#[]⟩],.bool false]) (by simp [results,Tryz.results114,go_sem,u0,u1,u2,u3,u4,u5,u6,u7]) rfl ?_;exact⟨by rw [HE.out];rfl,zN BB.out (Nat.le_refl _) _ _ _ _ _ _ _ _⟩
      | false=>
        cases o with
        | false=>
          go_wp2;refine bodyPost_ret (v:=.tuple #[.agg #[.int .i64 0,.int .i64 0,.int .i64 0,.int .i64 0,.int .i64 0,.string ⟨#[]⟩,.string ⟨#[]⟩,.string ⟨#[]⟩],.bool false]) (by simp [results,Tryz.results114,go_sem,u0,u1,u2,u3,u4,u5,u6,u7]) rfl ?_;exact⟨by rw [HE.out];rfl,zN BB.out (Nat.le_refl _) _ _ _ _ _ _ _ _⟩
        | true=>
          cases eq with
          | false=>
            go_wp2;refine bodyPost_ret (v:=.tuple #[.agg #[.int .i64 0,.int .i64 0,.int .i64 0,.int .i64 0,.int .i64 0,.string ⟨#[]⟩,.string ⟨#[]⟩,.string ⟨#[]⟩],.bool false]) (by simp [results,Tryz.results114,go_sem,u0,u1,u2,u3,u4,u5,u6,u7]) rfl ?_;exact⟨by rw [HE.out];rfl,zN BB.out (Nat.le_refl _) _ _ _ _ _ _ _ _⟩
          | true=>
            go_wp2;refine bodyPost_ret (v:=.tuple #[.agg #[.int .i64 (k.toNat:Int),.int .i64 (n1:Int),.int .i64 (n2:Int),.int .i64 (n3:Int),.int .i64 (n4:Int),.string x5,.string x6,.string x7],.bool true]) (by simp [results,Tryz.results114,go_sem,u0,u1,u2,u3,u4,u5,u6,u7]) rfl ?_;exact⟨by rw [HE.out];show _=Ending.returned (.tuple #[r.v,.bool true]);rw [HV.out],zN BB.out (Nat.le_refl _) _ _ _ _ _ _ _ _⟩
end Go.Proofs.YtklkhllkjnbhjaaGreatDoor
