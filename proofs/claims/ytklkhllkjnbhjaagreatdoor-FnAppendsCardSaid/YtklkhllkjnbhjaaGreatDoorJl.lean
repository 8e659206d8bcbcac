/- Texts of our own, joined. -/
import Derived.Test.YtklkhllkjnbhjaaGreatDoorJk
/- Items: what the model's ItemFrame and FrameItem hand back. -/
namespace Go.Proofs.YtklkhllkjnbhjaaGreatDoor
open Go.RowKit
open Lib (hid)
set_option maxRecDepth 100000
set_option maxHeartbeats 8000000
def itV (seq:Int) (r:Rc):Value:=.agg #[.int .i64 seq,.int .i64 r.kind,.int .i64 r.valid,.int .i64 r.uid,.int .i64 r.next,.int .i64 r.flags,.string r.user,.string r.name,.string r.text]
def ifT (seq:Int) (r:Rc) (gen:Int):Value:=
  if r.ok∧(⟨gen,seq,r.tx⟩:Fr).ok then .tuple #[(⟨gen,seq,r.tx⟩:Fr).v,.bool true] else .tuple #[.agg #[.int .i64 0,.int .i64 0,.string ⟨#[]⟩],.bool false]
theorem JW{seq:Int}{r:Rc}{gen:Int}(h:r.ok)(h2:(⟨gen,seq,r.tx⟩:Fr).ok):ifT seq r gen=.tuple #[(⟨gen,seq,r.tx⟩:Fr).v,.bool true]:=if_pos ⟨h,h2⟩
theorem qU{seq:Int}{r:Rc}{gen:Int}(h:¬(r.ok∧(⟨gen,seq,r.tx⟩:Fr).ok)):ifT seq r gen=.tuple #[.agg #[.int .i64 0,.int .i64 0,.string ⟨#[]⟩],.bool false]:=if_neg h
theorem jQ(seq:Int)(r:Rc)(gen:Int)(w:World)(h1:r.user.size≤1099511627776)(h2:r.name.size≤1099511627776)(h3:r.text.size≤1099511627776):
    Calls Tryz.prog 76 #[itV seq r,.int .i64 gen] w fun e w'=>e=.returned (ifT seq r gen)∧Below w.heap.size w w':=by
  have hRT:=fun wx=>Yb r wx h1 h2 h3;have hFO:r.ok→∀ wx,_:=fun hok wx=>Zu ⟨gen,seq,r.tx⟩ wx (by have:=Rc.tx_le hok;simp only;omega);obtain⟨bk,o,hT,hW⟩:∃(bk:ByteArray) (o:Bool),rtT r=.tuple #[.string bk,.bool o]∧((o=false∧¬r.ok)∨(o=true∧bk=r.tx∧r.ok)):=by
    by_cases h:r.ok
    · exact⟨_,_,jt h,.inr ⟨rfl,rfl,h⟩⟩
    · exact⟨_,_,Vo h,.inl ⟨rfl,h⟩⟩
  rw [hT] at hRT;have b0:Below w.heap.size w (w.alloc (.cells #[.int .i64 seq,.int .i64 r.kind,.int .i64 r.valid,.int .i64 r.uid,.int .i64 r.next,.int .i64 r.flags,.string r.user,.string r.name,.string r.text] 44)):=zb _ _;have b1:=b0.trans ((zb (w.alloc (.cells #[.int .i64 seq,.int .i64 r.kind,.int .i64 r.valid,.int .i64 r.uid,.int .i64 r.next,.int .i64 r.flags,.string r.user,.string r.name,.string r.text] 44)) (.cells #[.int .i64 0,.int .i64 0,.string ⟨#[]⟩] 107)).mono b0.size);have hI:=(Box.new w #[.int .i64 seq,.int .i64 r.kind,.int .i64 r.valid,.int .i64 r.uid,.int .i64 r.next,.int .i64 r.flags,.string r.user,.string r.name,.string r.text] 44).later (zb _ (.cells #[.int .i64 0,.int .i64 0,.string ⟨#[]⟩] 107));have hF:=Box.new (w.alloc (.cells #[.int .i64 seq,.int .i64 r.kind,.int .i64 r.valid,.int .i64 r.uid,.int .i64 r.next,.int .i64 r.flags,.string r.user,.string r.name,.string r.text] 44)) #[.int .i64 0,.int .i64 0,.string ⟨#[]⟩] 107;have hg:(w.alloc (.cells #[.int .i64 seq,.int .i64 r.kind,.int .i64 r.valid,.int .i64 r.uid,.int .i64 r.next,.int .i64 r.flags,.string r.user,.string r.name,.string r.text] 44)).heap.size=w.heap.size+1:=by simp
  rw [hg] at hF;unfold Fr.v at hFO;simp only at hFO;have HRT:=hid hRT;have HFO:=hid hFO;have HW:=hid hW;have HI0:Hid (∀ v:Value,ifT seq r gen=v→ifT seq r gen=v):=fun _ h=>h;obtain⟨T,hTT⟩:∃ T,ifT seq r gen=T:=⟨_,rfl⟩;have HTT:=hid hTT;rw [hTT];clear hRT hFO hW hT hTT HI0 h1 h2 h3 b0 hg;unfold Rc.v at HRT;unfold itV;go_enter Tryz.func76,Tryz.ntmps76
  go_wp2_with fail
  obtain⟨g1,hg⟩:∃ g1,w.heap.size+1=g1:=⟨_,rfl⟩;rw [hg] at hF ⊢;have hl:w.heap.size≤g1:=by omega
  clear hg;generalize (w.alloc (.cells #[.int .i64 seq,.int .i64 r.kind,.int .i64 r.valid,.int .i64 r.uid,.int .i64 r.next,.int .i64 r.flags,.string r.user,.string r.name,.string r.text] 44)).alloc (.cells #[.int .i64 0,.int .i64 0,.string ⟨#[]⟩] 107)=W at hI hF b1 ⊢;refine(HRT.out _).mono ?_;rintro e w1 ⟨rfl,k1⟩;have i0:=(hI.later k1).cell 0 _ rfl;have hF1:=hF.later k1;have b2:=b1.trans (k1.mono b1.size);clear hI hF b1 k1;rcases HW.out with⟨rfl,hno⟩ |⟨rfl,rfl,hok⟩
  · have HE:Hid (T=.tuple #[.agg #[.int .i64 0,.int .i64 0,.string ⟨#[]⟩],.bool false]):=by rw [←HTT.out];exact qU (fun c=>hno c.1)
    have hF2:=hF1.later (zb w1 (.cells #[.int .i64 gen,.int .i64 seq,.string bk] 107));have b3:=b2.trans ((zb w1 (.cells #[.int .i64 gen,.int .i64 seq,.string bk] 107)).mono b2.size);obtain⟨z0,z1,z2,f0,f1,f2⟩:=hF2.three;have BB:=hid b3;clear hno hF1 hF2 b2 b3;go_wp2;refine bodyPost_ret (v:=.tuple #[.agg #[.int .i64 0,.int .i64 0,.string ⟨#[]⟩],.bool false]) (by simp [results,Tryz.results76,go_sem,z0,z1,z2]) rfl ?_;exact⟨by rw [HE.out],zv BB.out hl _ _ _⟩
  · have hFO:=HFO.out hok
    have hF2:=hF1.later (zb w1 (.cells #[.int .i64 gen,.int .i64 seq,.string r.tx] 107));have hN2:=Box.new w1 #[.int .i64 gen,.int .i64 seq,.string r.tx] 107;have b3:=b2.trans ((zb w1 (.cells #[.int .i64 gen,.int .i64 seq,.string r.tx] 107)).mono b2.size);go_wp2_with fail
    generalize w1.alloc (.cells #[.int .i64 gen,.int .i64 seq,.string r.tx] 107)=X at hF2 hN2 b3 ⊢;refine(hFO _).mono ?_;rintro e w2 ⟨rfl,k2⟩;obtain⟨z0,z1,z2,f0,f1,f2⟩:=(hF2.later k2).three;obtain⟨y0,y1,y2,e0,e1,e2⟩:=(hN2.later k2).three;have BB:=hid (b3.trans (k2.mono b3.size));clear hFO hF1 hF2 hN2 b2 b3 k2 i0;by_cases hf:(⟨gen,seq,r.tx⟩:Fr).ok
    · have HE:Hid (T=.tuple #[(⟨gen,seq,r.tx⟩:Fr).v,.bool true]):=by rw [←HTT.out];exact JW hok hf
      rw [decide_eq_true hf];clear hok hf HW HTT HFO HRT;go_wp2;refine bodyPost_ret (v:=.tuple #[.agg #[.int .i64 gen,.int .i64 seq,.string r.tx],.bool true]) (by simp [results,Tryz.results76,go_sem,z0,z1,z2]) rfl ?_;exact⟨by rw [HE.out];rfl,zv BB.out hl _ _ _⟩
    · have HE:Hid (T=.tuple #[.agg #[.int .i64 0,.int .i64 0,.string ⟨#[]⟩],.bool false]):=by rw [←HTT.out];exact qU (fun c=>hf c.2)
      rw [decide_eq_false hf];clear hok hf HW HTT HFO HRT;go_wp2;refine bodyPost_ret (v:=.tuple #[.agg #[.int .i64 0,.int .i64 0,.string ⟨#[]⟩],.bool false]) (by simp [results,Tryz.results76,go_sem,z0,z1,z2]) rfl ?_;exact⟨by rw [HE.out],zv BB.out hl _ _ _⟩
def fiT (f:Fr):Value:=if f.ok then(match rrO f.body with
  | some r=>.tuple #[itV f.seq r,.bool true]
  | none=>.tuple #[itV 0 Rc.nil,.bool false]) else .tuple #[itV 0 Rc.nil,.bool false]
theorem qq{f:Fr}(h:¬f.ok):fiT f=.tuple #[itV 0 Rc.nil,.bool false]:=if_neg h
theorem Vu{f:Fr}(h:rrO f.body=none):fiT f=.tuple #[itV 0 Rc.nil,.bool false]:=by
  unfold fiT;rw [h];exact ite_self _
theorem vQ{f:Fr}{r:Rc}(h:f.ok)(hr:rrO f.body=some r):fiT f=.tuple #[itV f.seq r,.bool true]:=by
  unfold fiT;rw [hr,if_pos h]
theorem Box.nine{w:World}{b:Nat}{u0 u1 u2 u3 u4 u5 u6 u7 u8:Value}{t:TypeId}(h:Box w b #[u0,u1,u2,u3,u4,u5,u6,u7,u8] t):
    w.cell? ⟨b,0,none⟩=some u0∧w.cell? ⟨b,1,none⟩=some u1∧w.cell? ⟨b,2,none⟩=some u2∧w.cell? ⟨b,3,none⟩=some u3∧w.cell? ⟨b,4,none⟩=some u4∧w.cell? ⟨b,5,none⟩=some u5∧w.cell? ⟨b,6,none⟩=some u6∧w.cell? ⟨b,7,none⟩=some u7∧w.cell? ⟨b,8,none⟩=some u8∧
    w.frozen? ⟨b,0,none⟩=false∧w.frozen? ⟨b,1,none⟩=false∧w.frozen? ⟨b,2,none⟩=false∧w.frozen? ⟨b,3,none⟩=false∧w.frozen? ⟨b,4,none⟩=false∧w.frozen? ⟨b,5,none⟩=false∧w.frozen? ⟨b,6,none⟩=false∧w.frozen? ⟨b,7,none⟩=false∧w.frozen? ⟨b,8,none⟩=false:=
  ⟨h.cell 0 _ rfl,h.cell 1 _ rfl,h.cell 2 _ rfl,h.cell 3 _ rfl,h.cell 4 _ rfl,h.cell 5 _ rfl,h.cell 6 _ rfl,h.cell 7 _ rfl,h.cell 8 _ rfl,h.loose 0,h.loose 1,h.loose 2,h.loose 3,h.loose 4,h.loose 5,h.loose 6,h.loose 7,h.loose 8⟩
theorem Zz{B b:Nat}{w0 w:World}(h:Below B w0 w)(hb:B≤b)(v0 v1 v2 v3 v4 v5 v6 v7 v8:Value):Below B w0 ((set8 w b v0 v1 v2 v3 v4 v5 v6 v7).setCell ⟨b,8,none⟩ v8):=
  (zN h hb v0 v1 v2 v3 v4 v5 v6 v7).setCell (p:=⟨b,8,none⟩) hb v8
theorem jz(f:Fr)(w:World)(hs:f.body.size≤1099511627776):
    Calls Tryz.prog 82 #[f.v] w fun e w'=>e=.returned (fiT f)∧Below w.heap.size w w':=by
  have hFO:=fun wx=>Zu f wx hs;have hRR:=fun wx=>JD f.body wx hs;obtain⟨r,o,hT,hW⟩:∃(r:Rc) (o:Bool),rrT f.body=.tuple #[r.v,.bool o]∧((o=false∧rrO f.body=none)∨(o=true∧rrO f.body=some r)):=by
    rcases h:rrO f.body with _ | r
    · exact⟨_,_,ZT h,.inl ⟨rfl,rfl⟩⟩
    · exact⟨_,_,vY h,.inr ⟨rfl,rfl⟩⟩
  rw [hT] at hRR;obtain⟨T,hTT⟩:∃ T,fiT f=T:=⟨_,rfl⟩;have HTT:=hid hTT;have HW:=hid hW;rw [hTT];clear hTT hT hW;obtain⟨fo,hfo⟩:∃ fo,decide f.ok=fo:=⟨_,rfl⟩;rw [hfo] at hFO;have HFK:=hid hfo;obtain⟨gen,seq,body⟩:=f;obtain⟨kind,valid,uid,next,flags,user,name,text⟩:=r;unfold Rc.v at hRR;unfold Fr.v at hFO ⊢;simp only at hRR hFO hs ⊢;have HRR:=hid hRR;have HFO:=hid hFO;clear hRR hFO hfo;have b0:Below w.heap.size w (w.alloc (.cells #[.int .i64 gen,.int .i64 seq,.string body] 107)):=zb _ _;have b1:=b0.trans ((zb (w.alloc (.cells #[.int .i64 gen,.int .i64 seq,.string body] 107)) (.cells #[.int .i64 0,.int .i64 0,.int .i64 0,.int .i64 0,.int .i64 0,.int .i64 0,.string ⟨#[]⟩,.string ⟨#[]⟩,.string ⟨#[]⟩] 44)).mono b0.size);have hF:=(Box.new w #[.int .i64 gen,.int .i64 seq,.string body] 107).later (zb _ (.cells #[.int .i64 0,.int .i64 0,.int .i64 0,.int .i64 0,.int .i64 0,.int .i64 0,.string ⟨#[]⟩,.string ⟨#[]⟩,.string ⟨#[]⟩] 44));have hI:=Box.new (w.alloc (.cells #[.int .i64 gen,.int .i64 seq,.string body] 107)) #[.int .i64 0,.int .i64 0,.int .i64 0,.int .i64 0,.int .i64 0,.int .i64 0,.string ⟨#[]⟩,.string ⟨#[]⟩,.string ⟨#[]⟩] 44;have hg:(w.alloc (.cells #[.int .i64 gen,.int .i64 seq,.string body] 107)).heap.size=w.heap.size+1:=by simp
  rw [hg] at hI;clear b0 hg;go_enter Tryz.func82,Tryz.ntmps82
  go_wp2_with fail
  obtain⟨g1,hg⟩:∃ g1,w.heap.size+1=g1:=⟨_,rfl⟩;rw [hg] at hI ⊢;have hl:w.heap.size≤g1:=by omega
  clear hg;generalize (w.alloc (.cells #[.int .i64 gen,.int .i64 seq,.string body] 107)).alloc (.cells #[.int .i64 0,.int .i64 0,.int .i64 0,.int .i64 0,.int .i64 0,.int .i64 0,.string ⟨#[]⟩,.string ⟨#[]⟩,.string ⟨#[]⟩] 44)=W at hI hF b1 ⊢;refine(HRR.out _).mono ?_;rintro e w1 ⟨rfl,k1⟩;have hF1:=(hF.later k1).later (zb w1 (.cells #[.int .i64 kind,.int .i64 valid,.int .i64 uid,.int .i64 next,.int .i64 flags,.string user,.string name,.string text] 33));have hI1:=(hI.later k1).later (zb w1 (.cells #[.int .i64 kind,.int .i64 valid,.int .i64 uid,.int .i64 next,.int .i64 flags,.string user,.string name,.string text] 33));have hR1:=Box.new w1 #[.int .i64 kind,.int .i64 valid,.int .i64 uid,.int .i64 next,.int .i64 flags,.string user,.string name,.string text] 33;have b2:=b1.trans (k1.mono b1.size);have b3:=b2.trans ((zb w1 (.cells #[.int .i64 kind,.int .i64 valid,.int .i64 uid,.int .i64 next,.int .i64 flags,.string user,.string name,.string text] 33)).mono b2.size);obtain⟨c0,c1,c2,_,_,_⟩:=hF1.three;clear hI hF b1 b2 k1 HRR;go_wp2_with fail
  clear c0 c1 c2;generalize w1.alloc (.cells #[.int .i64 kind,.int .i64 valid,.int .i64 uid,.int .i64 next,.int .i64 flags,.string user,.string name,.string text] 33)=X at hF1 hI1 hR1 b3 ⊢;refine(HFO.out _).mono ?_;rintro e w2 ⟨rfl,k2⟩;obtain⟨c0,c1,c2,_,_,_⟩:=(hF1.later k2).three;obtain⟨y0,y1,y2,y3,y4,y5,y6,y7,_,_,_,_,_,_,_,_⟩:=(hR1.later k2).eight;obtain⟨u0,u1,u2,u3,u4,u5,u6,u7,u8,v0,v1,v2,v3,v4,v5,v6,v7,v8⟩:=(hI1.later k2).nine;have BB:=hid (b3.trans (k2.mono b3.size));clear hF1 hI1 hR1 b3 k2 HFO;cases fo with
  | false=>
    have HE:Hid (T=.tuple #[itV 0 Rc.nil,.bool false]):=by rw [←HTT.out];exact qq (of_decide_eq_false HFK.out)
    go_wp2;refine bodyPost_ret (v:=.tuple #[.agg #[.int .i64 0,.int .i64 0,.int .i64 0,.int .i64 0,.int .i64 0,.int .i64 0,.string ⟨#[]⟩,.string ⟨#[]⟩,.string ⟨#[]⟩],.bool false]) (by simp [results,Tryz.results82,go_sem,u0,u1,u2,u3,u4,u5,u6,u7,u8]) rfl ?_;exact⟨by rw [HE.out];rfl,Zz BB.out hl _ _ _ _ _ _ _ _ _⟩
  | true=>
    rcases HW.out with⟨rfl,hn⟩ |⟨rfl,hy⟩
    · have HE:Hid (T=.tuple #[itV 0 Rc.nil,.bool false]):=by rw [←HTT.out];exact Vu hn
      clear hn;go_wp2;refine bodyPost_ret (v:=.tuple #[.agg #[.int .i64 0,.int .i64 0,.int .i64 0,.int .i64 0,.int .i64 0,.int .i64 0,.string ⟨#[]⟩,.string ⟨#[]⟩,.string ⟨#[]⟩],.bool false]) (by simp [results,Tryz.results82,go_sem,u0,u1,u2,u3,u4,u5,u6,u7,u8]) rfl ?_;exact⟨by rw [HE.out];rfl,Zz BB.out hl _ _ _ _ _ _ _ _ _⟩
    · have HE:Hid (T=.tuple #[.agg #[.int .i64 seq,.int .i64 kind,.int .i64 valid,.int .i64 uid,.int .i64 next,.int .i64 flags,.string user,.string name,.string text],.bool true]):=by rw [←HTT.out];exact vQ (of_decide_eq_true HFK.out) hy
      clear hy;go_wp2;refine bodyPost_ret (v:=.tuple #[.agg #[.int .i64 seq,.int .i64 kind,.int .i64 valid,.int .i64 uid,.int .i64 next,.int .i64 flags,.string user,.string name,.string text],.bool true]) (by simp [results,Tryz.results82,go_sem,u0,u1,u2,u3,u4,u5,u6,u7,u8]) rfl ?_;exact⟨by rw [HE.out],Zz BB.out hl _ _ _ _ _ _ _ _ _⟩

/- What records tell, plainly: whatever the order in which they lie, and however often one lies there. -/
abbrev Itm:=Int×Rc
def Uniq (l:List Itm):Prop:=∀ x∈l,∀ y∈l,x.1=y.1→x=y
structure Ml where
  uid:Int
  flags:Int
  text:ByteArray
structure Bx where
  valid:Int
  user:ByteArray
  name:ByteArray
  next:Int
  mails:List Ml
def itemsOk (l:List Itm):Prop:=(∀ x∈l,(1≤x.1∧x.1≤1000000000)∧x.2.ok)∧Uniq l∧l.length≤200

/- How items lie in memory. -/
def itE:Enc Itm where
  ty:=44
  sty:=40
  sz:=9
  bytes:=96
  zero:=.agg #[.int .i64 0,.int .i64 0,.int .i64 0,.int .i64 0,.int .i64 0,.int .i64 0,.string ⟨#[]⟩,.string ⟨#[]⟩,.string ⟨#[]⟩]
  f:=fun x=> [.int .i64 x.1,.int .i64 x.2.kind,.int .i64 x.2.valid,.int .i64 x.2.uid,.int .i64 x.2.next,.int .i64 x.2.flags,.string x.2.user,.string x.2.name,.string x.2.text]
  len:=fun _=>rfl
  pos:=by decide
  one:=fun _ u hu=>by simp at hu;rcases hu with rfl | rfl | rfl | rfl | rfl | rfl | rfl | rfl | rfl <;> rfl
  und:=Tryz.underlying40
  info:=by kernel_rfl
  zc:=rfl
  z0:=(0,Rc.nil)
  zf:=rfl
theorem zaU{w w':World}{g off:Nat}{l:List Itm}(hc:∀ j x,l[j]? =some x→∀ k u,(itE.f x)[k]? =some u→w.cell? ⟨g,off+j * itE.sz+k,none⟩=some u)
    (hg:g < w.heap.size) (hb:Below w.heap.size w w') (i:Nat) (x:Itm) (hi:l[i]? =some x):
    w'.cell? ⟨g,off+i * 9,none⟩=some (.int .i64 x.1)∧w'.cell? ⟨g,off+i * 9+1,none⟩=some (.int .i64 x.2.kind)∧w'.cell? ⟨g,off+i * 9+2,none⟩=some (.int .i64 x.2.valid)∧w'.cell? ⟨g,off+i * 9+3,none⟩=some (.int .i64 x.2.uid)∧w'.cell? ⟨g,off+i * 9+4,none⟩=some (.int .i64 x.2.next)∧
    w'.cell? ⟨g,off+i * 9+5,none⟩=some (.int .i64 x.2.flags)∧w'.cell? ⟨g,off+i * 9+6,none⟩=some (.string x.2.user)∧w'.cell? ⟨g,off+i * 9+7,none⟩=some (.string x.2.name)∧w'.cell? ⟨g,off+i * 9+8,none⟩=some (.string x.2.text):=by
  have h:∀ k u,(itE.f x)[k]? =some u→w'.cell? ⟨g,off+i * 9+k,none⟩=some u:=fun k u hu=>(hb.cell (p:=⟨g,off+i * 9+k,none⟩) hg).trans (hc i x hi k u hu);exact⟨h 0 _ rfl,h 1 _ rfl,h 2 _ rfl,h 3 _ rfl,h 4 _ rfl,h 5 _ rfl,h 6 _ rfl,h 7 _ rfl,h 8 _ rfl⟩

/- How segments lie in memory: a row of segments, each with a row of items of its own. -/
structure Sg where
  no:Int
  gen:Int
  ende:Int
  items:List Itm
structure SgH where
  no:Int
  gen:Int
  ende:Int
  a:Option Addr
  n:Nat
  c:Nat
def SgH.mv (h:SgH):Value:=.slice h.a h.n h.c
def sgE:Enc SgH where
  ty:=60
  sty:=28
  sz:=4
  bytes:=48
  zero:=.agg #[.int .i64 0,.int .i64 0,.int .i64 0,.slice none 0 0]
  f:=fun x=> [.int .i64 x.no,.int .i64 x.gen,.int .i64 x.ende,.slice x.a x.n x.c]
  len:=fun _=>rfl
  pos:=by decide
  one:=fun _ u hu=>by simp at hu;rcases hu with rfl | rfl | rfl | rfl <;> rfl
  und:=Tryz.underlying28
  info:=by kernel_rfl
  zc:=rfl
  z0:=⟨0,0,0,none,0,0⟩
  zf:=rfl
structure SgO (B:Nat) (w:World) (v:Value) (bs:List Sg) (hs:List SgH):Prop where
  row:RBuf sgE B w w v hs
  len:hs.length=bs.length
  at':∀(j:Nat) (h:SgH) (b:Sg),hs[j]? =some h→bs[j]? =some b→(h.no=b.no∧h.gen=b.gen∧h.ende=b.ende)∧RBuf itE B w w h.mv b.items
  far:∀(j:Nat) (h:SgH),hs[j]? =some h→∀ k,h.mv.ownBlock=some k→v.ownBlock≠some k
  apart:∀(i j:Nat) (h h':SgH),hs[i]? =some h→hs[j]? =some h'→i≠j→∀ k,h.mv.ownBlock=some k→h'.mv.ownBlock≠some k
theorem RBuf.hereG{α:Type}{E:Enc α}{B:Nat}{w0 w w':World}{v:Value}{l:List α}(h:RBuf E B w0 w v l)(hb:Below w.heap.size w w'):RBuf E B w' w' v l:=(h.later hb).here
theorem SgO.later{B:Nat}{w w':World}{v:Value}{bs:List Sg}{hs:List SgH}(h:SgO B w v bs hs)(hb:Below w.heap.size w w'):SgO B w' v bs hs:=
  ⟨h.row.hereG hb,h.len,fun j x b h1 h2=>⟨(h.at' j x b h1 h2).1,(h.at' j x b h1 h2).2.hereG hb⟩,h.far,h.apart⟩
theorem SgO.lt{B:Nat}{w:World}{v:Value}{bs:List Sg}{hs:List SgH}(h:SgO B w v bs hs){j:Nat}{x:SgH}(hj:hs[j]? =some x){k:Nat}(hk:x.mv.ownBlock=some k):k < w.heap.size:=by
  have hl:j < hs.length:=(List.getElem?_eq_some_iff.1 hj).1;have hb:bs[j]? =some (bs[j]'(by rw [←h.len];exact hl)):=List.getElem?_eq_getElem _;exact((h.at' j x _ hj hb).2.own.lt k hk).2
theorem SgO.push {B:Nat} {w w':World} {v v':Value} {bs:List Sg} {hs:List SgH} (h:SgO B w v bs hs) (b:Sg) (x:SgH)
    (hx:x.no=b.no∧x.gen=b.gen∧x.ende=b.ende) (hm:RBuf itE B w w x.mv b.items)
    (hv:∀ k,x.mv.ownBlock=some k→v.ownBlock≠some k) (ho:∀(j:Nat) (y:SgH),hs[j]? =some y→∀ k,y.mv.ownBlock=some k→x.mv.ownBlock≠some k)
    (hr:RBuf sgE B w' w' v' (hs++ [x])) (hg:w.grownBy w' v.ownBlock) (ha:v'.ownBlock=v.ownBlock∨v'.ownBlock=some w.heap.size):SgO B w' v' (bs++ [b]) (hs++ [x]):=by
  have kept:∀(m:Value) (l:List Itm),RBuf itE B w w m l→(∀ k,m.ownBlock=some k→v.ownBlock≠some k)→RBuf itE B w' w' m l:=fun m l hm hf=>by
    refine hm.shift hg ?_;cases hmb:m.ownBlock with
    | none=>exact .inl rfl
    | some k=>exact .inr (fun e=>hf k hmb e.symm)
  have old:∀ {j:Nat} {y:SgH},(hs++ [x])[j]? =some y→(hs[j]? =some y∧j < hs.length)∨(j=hs.length∧y=x):=fun {j y} hj=>by
    by_cases c:j < hs.length
    · rw [List.getElem?_append_left c] at hj
      exact .inl ⟨hj,c⟩
    · rw [List.getElem?_append_right (by omega)] at hj
      have hj0:j - hs.length=0:=by
        have:=(List.getElem?_eq_some_iff.1 hj).1;simp at this;omega
      rw [hj0] at hj;simp at hj;exact .inr ⟨by omega,hj.symm⟩
  have hvlt:∀ {k:Nat},x.mv.ownBlock=some k→k < w.heap.size:=fun {k} hk=>(hm.own.lt k hk).2;refine⟨hr,by simp [h.len],fun j y c h1 h2=>?_,fun j y h1 k hk=>?_,fun i j y z h1 h2 hij k hk=>?_⟩
  · rcases old h1 with⟨h3,hl⟩ |⟨rfl,rfl⟩
    · rw [List.getElem?_append_left (by rw [←h.len];exact hl)] at h2
      exact⟨(h.at' j y c h3 h2).1,kept _ _ (h.at' j y c h3 h2).2 (h.far j y h3)⟩
    · rw [List.getElem?_append_right (by rw [h.len];omega),h.len] at h2
      simp at h2;subst h2;exact⟨hx,kept _ _ hm hv⟩
  · rcases old h1 with⟨h3,_⟩ |⟨_,rfl⟩
    · rcases ha with e | e
      · rw [e];exact h.far j y h3 k hk
      · rw [e];intro e2;have:=h.lt h3 hk;have:=Option.some.inj e2;omega
    · rcases ha with e | e
      · rw [e];exact hv k hk
      · rw [e];intro e2;have:=hvlt hk;have:=Option.some.inj e2;omega
  · rcases old h1 with⟨h3,hl3⟩ |⟨ei,rfl⟩
    · rcases old h2 with⟨h4,_⟩ |⟨_,rfl⟩
      · exact h.apart i j y z h3 h4 hij k hk
      · exact ho i y h3 k hk
    · rcases old h2 with⟨h4,_⟩ |⟨ej,_⟩
      · intro e;exact ho j z h4 k e hk
      · omega
theorem SgO.shift{B:Nat}{w w':World}{v:Value}{bs:List Sg}{hs:List SgH}{r:Option Nat}(h:SgO B w v bs hs)(hg:w.grownBy w' r)(h1:∀ k,r=some k→v.ownBlock≠some k∧∀(j:Nat) (x:SgH),hs[j]? =some x→x.mv.ownBlock≠some k):SgO B w' v bs hs:=by
  have sh:∀ {α:Type} {E:Enc α} {m:Value} {l:List α},RBuf E B w w m l→(∀ k,r=some k→m.ownBlock≠some k)→RBuf E B w' w' m l:=fun {α E m l} hm hf=>by
    refine hm.shift hg ?_;cases hb:m.ownBlock with
    | none=>exact .inl rfl
    | some k=>exact .inr (fun e=>hf k e.symm hb)
  exact⟨sh h.row (fun k hk=>(h1 k hk).1),h.len,fun j x b e1 e2=>⟨(h.at' j x b e1 e2).1,sh (h.at' j x b e1 e2).2 (fun k hk=>(h1 k hk).2 j x e1)⟩,h.far,h.apart⟩
theorem SgO.where'{B:Nat}{w:World}{v:Value}{bs:List Sg}{hs:List SgH}(h:SgO B w v bs hs):(∀ k,v.ownBlock=some k→B≤k∧k < w.heap.size)∧∀(j:Nat) (x:SgH),hs[j]? =some x→∀ k,x.mv.ownBlock=some k→B≤k∧k < w.heap.size:=by
  refine⟨fun k hk=>h.row.own.lt k hk,fun j x hj k hk=>?_⟩;have hl:j < hs.length:=(List.getElem?_eq_some_iff.1 hj).1;have hb:bs[j]? =some (bs[j]'(by rw [←h.len];exact hl)):=List.getElem?_eq_getElem _;exact(h.at' j x _ hj hb).2.own.lt k hk
theorem SgO.lower{B B0:Nat}{w:World}{v:Value}{bs:List Sg}{hs:List SgH}(h:SgO B w v bs hs)(hB:B0≤B):SgO B0 w v bs hs:=
  ⟨h.row.lower hB,h.len,fun j x b h1 h2=>⟨(h.at' j x b h1 h2).1,(h.at' j x b h1 h2).2.lower hB⟩,h.far,h.apart⟩
end Go.Proofs.YtklkhllkjnbhjaaGreatDoor
