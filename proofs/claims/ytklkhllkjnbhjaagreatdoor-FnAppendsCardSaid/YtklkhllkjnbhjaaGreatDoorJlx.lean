/- Texts of our own, joined. -/
import Derived.Test.YtklkhllkjnbhjaaGreatDoorJkx
import Derived.Test.YtklkhllkjnbhjaaGreatDoorJhx
/- Items and frames: what the program's ItemFrame and FrameItem hand back. -/
namespace Go.Proofs.YtklkhllkjnbhjaaGreatDoor
open Go.RowKit
open Lib (hid)
set_option maxRecDepth 100000
set_option maxHeartbeats 8000000
theorem jP(seq:Int)(r:Rc)(gen:Int)(w:World):
    Calls Tryz.prog 73 #[itV seq r,.int .i64 gen] w fun e w'=>e=.returned (ifT seq r gen)∧Below w.heap.size w w':=by
  have hRT:=fun wx=>yV r wx;have hFO:r.ok→∀ wx,_:=fun hok wx=>Zw ⟨gen,seq,r.tx⟩ wx (by have:=Rc.tx_le hok;simp only;omega);obtain⟨bk,o,hT,hW⟩:∃(bk:ByteArray) (o:Bool),rtT r=.tuple #[.string bk,.bool o]∧((o=false∧¬r.ok)∨(o=true∧bk=r.tx∧r.ok)):=by
    by_cases h:r.ok
    · exact⟨_,_,jt h,.inr ⟨rfl,rfl,h⟩⟩
    · exact⟨_,_,Vo h,.inl ⟨rfl,h⟩⟩
  rw [hT] at hRT;have b0:Below w.heap.size w (w.alloc (.cells #[.int .i64 seq,.int .i64 r.kind,.int .i64 r.valid,.int .i64 r.uid,.int .i64 r.next,.int .i64 r.flags,.string r.user,.string r.name,.string r.text] 44)):=zb _ _;have b1:=b0.trans ((zb (w.alloc (.cells #[.int .i64 seq,.int .i64 r.kind,.int .i64 r.valid,.int .i64 r.uid,.int .i64 r.next,.int .i64 r.flags,.string r.user,.string r.name,.string r.text] 44)) (.cells #[.int .i64 0,.int .i64 0,.string ⟨#[]⟩] 107)).mono b0.size);have hI:=(Box.new w #[.int .i64 seq,.int .i64 r.kind,.int .i64 r.valid,.int .i64 r.uid,.int .i64 r.next,.int .i64 r.flags,.string r.user,.string r.name,.string r.text] 44).later (zb _ (.cells #[.int .i64 0,.int .i64 0,.string ⟨#[]⟩] 107));have hF:=Box.new (w.alloc (.cells #[.int .i64 seq,.int .i64 r.kind,.int .i64 r.valid,.int .i64 r.uid,.int .i64 r.next,.int .i64 r.flags,.string r.user,.string r.name,.string r.text] 44)) #[.int .i64 0,.int .i64 0,.string ⟨#[]⟩] 107;have hg:(w.alloc (.cells #[.int .i64 seq,.int .i64 r.kind,.int .i64 r.valid,.int .i64 r.uid,.int .i64 r.next,.int .i64 r.flags,.string r.user,.string r.name,.string r.text] 44)).heap.size=w.heap.size+1:=by simp
  rw [hg] at hF;unfold Fr.v at hFO;simp only at hFO;have HRT:=hid hRT;have HFO:=hid hFO;have HW:=hid hW;have HI0:Hid (∀ v:Value,ifT seq r gen=v→ifT seq r gen=v):=fun _ h=>h;obtain⟨T,hTT⟩:∃ T,ifT seq r gen=T:=⟨_,rfl⟩;have HTT:=hid hTT;rw [hTT];clear hRT hFO hW hT hTT HI0 b0 hg;unfold Rc.v at HRT;unfold itV;go_enter Tryz.func73,Tryz.ntmps73
  go_wp2_with fail
  obtain⟨g1,hg⟩:∃ g1,w.heap.size+1=g1:=⟨_,rfl⟩;rw [hg] at hF ⊢;have hl:w.heap.size≤g1:=by omega
  clear hg;generalize (w.alloc (.cells #[.int .i64 seq,.int .i64 r.kind,.int .i64 r.valid,.int .i64 r.uid,.int .i64 r.next,.int .i64 r.flags,.string r.user,.string r.name,.string r.text] 44)).alloc (.cells #[.int .i64 0,.int .i64 0,.string ⟨#[]⟩] 107)=W at hI hF b1 ⊢;refine(HRT.out _).mono ?_;rintro e w1 ⟨rfl,k1⟩;have i0:=(hI.later k1).cell 0 _ rfl;have hF1:=hF.later k1;have b2:=b1.trans (k1.mono b1.size);clear hI hF b1 k1;rcases HW.out with⟨rfl,hno⟩ |⟨rfl,rfl,hok⟩
  · have HE:Hid (T=.tuple #[.agg #[.int .i64 0,.int .i64 0,.string ⟨#[]⟩],.bool false]):=by rw [←HTT.out];exact qU (fun c=>hno c.1)
    have hF2:=hF1.later (zb w1 (.cells #[.int .i64 gen,.int .i64 seq,.string bk] 107));have b3:=b2.trans ((zb w1 (.cells #[.int .i64 gen,.int .i64 seq,.string bk] 107)).mono b2.size);obtain⟨z0,z1,z2,f0,f1,f2⟩:=hF2.three;have BB:=hid b3;clear hno hF1 hF2 b2 b3;go_wp2;refine bodyPost_ret (v:=.tuple #[.agg #[.int .i64 0,.int .i64 0,.string ⟨#[]⟩],.bool false]) (by simp [results,Tryz.results73,go_sem,z0,z1,z2]) rfl ?_;exact⟨by rw [HE.out],zv BB.out hl _ _ _⟩
  · have hFO:=HFO.out hok
    have hF2:=hF1.later (zb w1 (.cells #[.int .i64 gen,.int .i64 seq,.string r.tx] 107));have hN2:=Box.new w1 #[.int .i64 gen,.int .i64 seq,.string r.tx] 107;have b3:=b2.trans ((zb w1 (.cells #[.int .i64 gen,.int .i64 seq,.string r.tx] 107)).mono b2.size);go_wp2_with fail
    generalize w1.alloc (.cells #[.int .i64 gen,.int .i64 seq,.string r.tx] 107)=X at hF2 hN2 b3 ⊢;refine(hFO _).mono ?_;rintro e w2 ⟨rfl,k2⟩;obtain⟨z0,z1,z2,f0,f1,f2⟩:=(hF2.later k2).three;obtain⟨y0,y1,y2,e0,e1,e2⟩:=(hN2.later k2).three;have BB:=hid (b3.trans (k2.mono b3.size));clear hFO hF1 hF2 hN2 b2 b3 k2 i0;by_cases hf:(⟨gen,seq,r.tx⟩:Fr).ok
    · have HE:Hid (T=.tuple #[(⟨gen,seq,r.tx⟩:Fr).v,.bool true]):=by rw [←HTT.out];exact JW hok hf
      rw [decide_eq_true hf];clear hok hf HW HTT HFO HRT;go_wp2;refine bodyPost_ret (v:=.tuple #[.agg #[.int .i64 gen,.int .i64 seq,.string r.tx],.bool true]) (by simp [results,Tryz.results73,go_sem,z0,z1,z2]) rfl ?_;exact⟨by rw [HE.out];rfl,zv BB.out hl _ _ _⟩
    · have HE:Hid (T=.tuple #[.agg #[.int .i64 0,.int .i64 0,.string ⟨#[]⟩],.bool false]):=by rw [←HTT.out];exact qU (fun c=>hf c.2)
      rw [decide_eq_false hf];clear hok hf HW HTT HFO HRT;go_wp2;refine bodyPost_ret (v:=.tuple #[.agg #[.int .i64 0,.int .i64 0,.string ⟨#[]⟩],.bool false]) (by simp [results,Tryz.results73,go_sem,z0,z1,z2]) rfl ?_;exact⟨by rw [HE.out],zv BB.out hl _ _ _⟩
theorem jr(f:Fr)(w:World)(hs:f.body.size≤1099511627776):
    Calls Tryz.prog 122 #[f.v] w fun e w'=>e=.returned (fiT f)∧Below w.heap.size w w':=by
  have hFO:=fun wx=>Zw f wx hs;have hRR:=fun wx=>JA f.body wx hs;obtain⟨r,o,hT,hW⟩:∃(r:Rc) (o:Bool),rrT f.body=.tuple #[r.v,.bool o]∧((o=false∧rrO f.body=none)∨(o=true∧rrO f.body=some r)):=by
    rcases h:rrO f.body with _ | r
    · exact⟨_,_,ZT h,.inl ⟨rfl,rfl⟩⟩
    · exact⟨_,_,vY h,.inr ⟨rfl,rfl⟩⟩
  rw [hT] at hRR;obtain⟨T,hTT⟩:∃ T,fiT f=T:=⟨_,rfl⟩;have HTT:=hid hTT;have HW:=hid hW;rw [hTT];clear hTT hT hW;obtain⟨fo,hfo⟩:∃ fo,decide f.ok=fo:=⟨_,rfl⟩;rw [hfo] at hFO;have HFK:=hid hfo;obtain⟨gen,seq,body⟩:=f;obtain⟨kind,valid,uid,next,flags,user,name,text⟩:=r;unfold Rc.v at hRR;unfold Fr.v at hFO ⊢;simp only at hRR hFO hs ⊢;have HRR:=hid hRR;have HFO:=hid hFO;clear hRR hFO hfo;have b0:Below w.heap.size w (w.alloc (.cells #[.int .i64 gen,.int .i64 seq,.string body] 107)):=zb _ _;have b1:=b0.trans ((zb (w.alloc (.cells #[.int .i64 gen,.int .i64 seq,.string body] 107)) (.cells #[.int .i64 0,.int .i64 0,.int .i64 0,.int .i64 0,.int .i64 0,.int .i64 0,.string ⟨#[]⟩,.string ⟨#[]⟩,.string ⟨#[]⟩] 44)).mono b0.size);have hF:=(Box.new w #[.int .i64 gen,.int .i64 seq,.string body] 107).later (zb _ (.cells #[.int .i64 0,.int .i64 0,.int .i64 0,.int .i64 0,.int .i64 0,.int .i64 0,.string ⟨#[]⟩,.string ⟨#[]⟩,.string ⟨#[]⟩] 44));have hI:=Box.new (w.alloc (.cells #[.int .i64 gen,.int .i64 seq,.string body] 107)) #[.int .i64 0,.int .i64 0,.int .i64 0,.int .i64 0,.int .i64 0,.int .i64 0,.string ⟨#[]⟩,.string ⟨#[]⟩,.string ⟨#[]⟩] 44;have hg:(w.alloc (.cells #[.int .i64 gen,.int .i64 seq,.string body] 107)).heap.size=w.heap.size+1:=by simp
  rw [hg] at hI;clear b0 hg;go_enter Tryz.func122,Tryz.ntmps122
  go_wp2_with fail
  obtain⟨g1,hg⟩:∃ g1,w.heap.size+1=g1:=⟨_,rfl⟩;rw [hg] at hI ⊢;have hl:w.heap.size≤g1:=by omega
  clear hg;generalize (w.alloc (.cells #[.int .i64 gen,.int .i64 seq,.string body] 107)).alloc (.cells #[.int .i64 0,.int .i64 0,.int .i64 0,.int .i64 0,.int .i64 0,.int .i64 0,.string ⟨#[]⟩,.string ⟨#[]⟩,.string ⟨#[]⟩] 44)=W at hI hF b1 ⊢;refine(HFO.out _).mono ?_;rintro e w1 ⟨rfl,k1⟩;have hF1:=hF.later k1;have hI1:=hI.later k1;have b2:=b1.trans (k1.mono b1.size);obtain⟨c0,c1,c2,_,_,_⟩:=hF1.three;clear hI hF b1 k1 HFO;cases fo with
  | false=>
    have HE:Hid (T=.tuple #[itV 0 Rc.nil,.bool false]):=by rw [←HTT.out];exact qq (of_decide_eq_false HFK.out)
    obtain⟨u0,u1,u2,u3,u4,u5,u6,u7,u8,v0,v1,v2,v3,v4,v5,v6,v7,v8⟩:=hI1.nine;clear c0 c1 c2 hF1 hI1;go_wp2;refine bodyPost_ret (v:=.tuple #[.agg #[.int .i64 0,.int .i64 0,.int .i64 0,.int .i64 0,.int .i64 0,.int .i64 0,.string ⟨#[]⟩,.string ⟨#[]⟩,.string ⟨#[]⟩],.bool false]) (by simp [results,Tryz.results122,go_sem,u0,u1,u2,u3,u4,u5,u6,u7,u8]) rfl ?_;exact⟨by rw [HE.out];rfl,Zz b2 hl _ _ _ _ _ _ _ _ _⟩
  | true=>
    go_wp2_with fail
    clear c0 c1 c2;refine(HRR.out _).mono ?_;rintro e w2 ⟨rfl,k2⟩;have hF2:=(hF1.later k2).later (zb w2 (.cells #[.int .i64 kind,.int .i64 valid,.int .i64 uid,.int .i64 next,.int .i64 flags,.string user,.string name,.string text] 33));have hI2:=(hI1.later k2).later (zb w2 (.cells #[.int .i64 kind,.int .i64 valid,.int .i64 uid,.int .i64 next,.int .i64 flags,.string user,.string name,.string text] 33));have hR2:=Box.new w2 #[.int .i64 kind,.int .i64 valid,.int .i64 uid,.int .i64 next,.int .i64 flags,.string user,.string name,.string text] 33;have b3:=b2.trans (k2.mono b2.size);have b4:=b3.trans ((zb w2 (.cells #[.int .i64 kind,.int .i64 valid,.int .i64 uid,.int .i64 next,.int .i64 flags,.string user,.string name,.string text] 33)).mono b3.size);obtain⟨c0,c1,c2,_,_,_⟩:=hF2.three;obtain⟨y0,y1,y2,y3,y4,y5,y6,y7,_,_,_,_,_,_,_,_⟩:=hR2.eight;obtain⟨u0,u1,u2,u3,u4,u5,u6,u7,u8,v0,v1,v2,v3,v4,v5,v6,v7,v8⟩:=hI2.nine;have BB:=hid b4;clear hF1 hI1 hF2 hI2 hR2 b2 b3 b4 k2 HRR;rcases HW.out with⟨rfl,hn⟩ |⟨rfl,hy⟩
    · have HE:Hid (T=.tuple #[itV 0 Rc.nil,.bool false]):=by rw [←HTT.out];exact Vu hn
      clear hn;go_wp2;refine bodyPost_ret (v:=.tuple #[.agg #[.int .i64 0,.int .i64 0,.int .i64 0,.int .i64 0,.int .i64 0,.int .i64 0,.string ⟨#[]⟩,.string ⟨#[]⟩,.string ⟨#[]⟩],.bool false]) (by simp [results,Tryz.results122,go_sem,u0,u1,u2,u3,u4,u5,u6,u7,u8]) rfl ?_;exact⟨by rw [HE.out];rfl,Zz BB.out hl _ _ _ _ _ _ _ _ _⟩
    · have HE:Hid (T=.tuple #[.agg #[.int .i64 seq,.int .i64 kind,.int .i64 valid,.int .i64 uid,.int .i64 next,.int .i64 flags,.string user,.string name,.string text],.bool true]):=by rw [←HTT.out];exact vQ (of_decide_eq_true HFK.out) hy
      clear hy;go_wp2;refine bodyPost_ret (v:=.tuple #[.agg #[.int .i64 seq,.int .i64 kind,.int .i64 valid,.int .i64 uid,.int .i64 next,.int .i64 flags,.string user,.string name,.string text],.bool true]) (by simp [results,Tryz.results122,go_sem,u0,u1,u2,u3,u4,u5,u6,u7,u8]) rfl ?_;exact⟨by rw [HE.out],Zz BB.out hl _ _ _ _ _ _ _ _ _⟩

/- Whether a log is right: the parts of the program's LogOk. -/
theorem zaJ(x y:Itm)(w:World):(binOp .eql 44 (.agg #[.int .i64 x.1,.int .i64 x.2.kind,.int .i64 x.2.valid,.int .i64 x.2.uid,.int .i64 x.2.next,.int .i64 x.2.flags,.string x.2.user,.string x.2.name,.string x.2.text]) (.agg #[.int .i64 y.1,.int .i64 y.2.kind,.int .i64 y.2.valid,.int .i64 y.2.uid,.int .i64 y.2.next,.int .i64 y.2.flags,.string y.2.user,.string y.2.name,.string y.2.text])).run Tryz.prog w=.ok (.bool (sameP (x=y))) w:=by
  have h:=xc x.2 y.2;have h1:(Op.equalIn 10000 44 (.agg #[.int .i64 x.1,.int .i64 x.2.kind,.int .i64 x.2.valid,.int .i64 x.2.uid,.int .i64 x.2.next,.int .i64 x.2.flags,.string x.2.user,.string x.2.name,.string x.2.text]) (.agg #[.int .i64 y.1,.int .i64 y.2.kind,.int .i64 y.2.valid,.int .i64 y.2.uid,.int .i64 y.2.next,.int .i64 y.2.flags,.string y.2.user,.string y.2.name,.string y.2.text])).run Tryz.prog w=.ok (sameP (x=y)) w:=by
    rw [run_equalIn_agg _ 9999 _ _ _ jw (by kernel_rfl)];by_cases h0:x.1=y.1
    · have e:sameP (x=y)=sameP (x.2=y.2):=yu ⟨fun e=>by rw [e],fun e=>by obtain⟨a,b⟩:=x;obtain⟨c,d⟩:=y;simp only at h0 e;rw [h0,e]⟩
      rw [e];generalize sameP (x.2=y.2)=D at h ⊢;simp [go_sem,Op.eqFields,Tryz.underlying44,Program.fieldsOf,h,h0];try (cases D <;> rfl)
    · rw [zi (fun e=>h0 (by rw [e]))]
      simp [go_sem,Op.eqFields,Tryz.underlying44,Program.fieldsOf,h0]
  rw [run_eql_struct,h1];rfl
theorem vr(f:Fr)(x:Itm)(w:World)(hs:f.body.size≤1099511627776):
    Calls Tryz.prog 94 #[.agg #[.int .i64 f.gen,.int .i64 f.seq,.string f.body],.agg #[.int .i64 x.1,.int .i64 x.2.kind,.int .i64 x.2.valid,.int .i64 x.2.uid,.int .i64 x.2.next,.int .i64 x.2.flags,.string x.2.user,.string x.2.name,.string x.2.text]] w fun e w'=>e=.returned (.bool (sameP (fiO f=some x)))∧Below w.heap.size w w':=by
  have b0:=zb w (.cells #[.int .i64 f.gen,.int .i64 f.seq,.string f.body] 107);have XF:=Box.new w #[.int .i64 f.gen,.int .i64 f.seq,.string f.body] 107;have k1:=zb (w.alloc (.cells #[.int .i64 f.gen,.int .i64 f.seq,.string f.body] 107)) (.cells #[.int .i64 x.1,.int .i64 x.2.kind,.int .i64 x.2.valid,.int .i64 x.2.uid,.int .i64 x.2.next,.int .i64 x.2.flags,.string x.2.user,.string x.2.name,.string x.2.text] 44);have XI:=Box.new (w.alloc (.cells #[.int .i64 f.gen,.int .i64 f.seq,.string f.body] 107)) #[.int .i64 x.1,.int .i64 x.2.kind,.int .i64 x.2.valid,.int .i64 x.2.uid,.int .i64 x.2.next,.int .i64 x.2.flags,.string x.2.user,.string x.2.name,.string x.2.text] 44;rw [show(w.alloc (.cells #[.int .i64 f.gen,.int .i64 f.seq,.string f.body] 107)).heap.size=w.heap.size+1 by simp] at XI;have XF1:=XF.later k1;have b1:=b0.trans (k1.mono b0.size);obtain⟨y0,y1,y2,_,_,_⟩:=XF1.three;have HFI:=hid (fun X=>jr f X hs);unfold Fr.v at HFI;obtain⟨D,hD⟩:∃ D,sameP (fiO f=some x)=D:=⟨_,rfl⟩;rw [hD];have HD:=hid hD;clear XF k1 b0 hD XF1;obtain⟨W,hW⟩:∃ W,(w.alloc (.cells #[.int .i64 f.gen,.int .i64 f.seq,.string f.body] 107)).alloc (.cells #[.int .i64 x.1,.int .i64 x.2.kind,.int .i64 x.2.valid,.int .i64 x.2.uid,.int .i64 x.2.next,.int .i64 x.2.flags,.string x.2.user,.string x.2.name,.string x.2.text] 44)=W:=⟨_,rfl⟩;rw [hW] at XI b1 y0 y1 y2;have HW:=hid hW;clear hW;obtain⟨gi,hgi⟩:∃ gi,w.heap.size+1=gi:=⟨_,rfl⟩;rw [hgi] at XI;have HGI:=hid hgi;clear hgi;have HXI:=hid XI;clear XI;cases hf:fiO f with
  | none=>
    rw [V8 hf] at HFI;have HE:Hid (D=false):=by show _=_;rw [←HD.out,hf];exact zi (fun e=>by cases e)
    unfold itV Rc.nil at HFI;simp only at HFI;go_enter Tryz.func94,Tryz.ntmps94
    go_upto_region 1 with fail
    rw [HW.out,HGI.out];go_wp2_with fail
    clear y0 y1 y2;refine(HFI.out _).mono ?_;rintro e w2 ⟨rfl,k2⟩;have bZ:=hid (fun o=>(b1.trans (k2.mono b1.size)).trans ((zb w2 o).mono (b1.trans (k2.mono b1.size)).size));clear HFI k2;go_wp2;go_ret;exact⟨by rw [HE.out];first | done | rfl | simp,bZ.out _⟩
  | some y=>
    rw [ql hf] at HFI;have HE:Hid (sameP (y=x)=D):=by show _=_;rw [←HD.out,hf];exact yu ⟨fun e=>by rw [e],fun e=>Option.some.inj e⟩
    have HR:=hid (fun X=>zaJ y x X);rw [HE.out] at HR;unfold itV at HFI;go_enter Tryz.func94,Tryz.ntmps94
    go_upto_region 1 with fail
    rw [HW.out,HGI.out];go_wp2_with fail
    clear y0 y1 y2;refine(HFI.out _).mono ?_;rintro e w2 ⟨rfl,k2⟩;have XI2:=(HXI.out.later k2).later (zb w2 (.cells #[.int .i64 y.1,.int .i64 y.2.kind,.int .i64 y.2.valid,.int .i64 y.2.uid,.int .i64 y.2.next,.int .i64 y.2.flags,.string y.2.user,.string y.2.name,.string y.2.text] 44));have YI:=Box.new w2 #[.int .i64 y.1,.int .i64 y.2.kind,.int .i64 y.2.valid,.int .i64 y.2.uid,.int .i64 y.2.next,.int .i64 y.2.flags,.string y.2.user,.string y.2.name,.string y.2.text] 44;have bZ:=hid ((b1.trans (k2.mono b1.size)).trans ((zb w2 (.cells #[.int .i64 y.1,.int .i64 y.2.kind,.int .i64 y.2.valid,.int .i64 y.2.uid,.int .i64 y.2.next,.int .i64 y.2.flags,.string y.2.user,.string y.2.name,.string y.2.text] 44)).mono (b1.trans (k2.mono b1.size)).size));obtain⟨p0,p1,p2,p3,p4,p5,p6,p7,p8⟩:=XI2.nineG;have hru:=HR.out;clear HFI k2 YI XI2 HXI;go_wp2;go_ret;exact⟨rfl,bZ.out⟩
theorem JO (fs:List Fr) (ms:List Itm) (va vb:Value) (w:World) (ha:Rows' frE w va fs) (hb:Rows' itE w vb ms) (hla:fs.length≤1099511627776) (hbd:∀ f∈fs,f.body.size≤1099511627776):
    Calls Tryz.prog 93 #[va,vb,.func (.func 94) #[] #[]] w fun e w'=>e=.returned (.bool (sameP (fs.map fiO=ms.map some)))∧Below w.heap.size w w':=by
  obtain⟨ad,cap,rfl,hrowa⟩:=ha.framesG;obtain⟨ad2,cap2,rfl,hrowb⟩:=hb.items;have HA:=hid hrowa;have HB:Hid _:=hrowb;have HBD:=hid hbd;clear ha hb hrowa hrowb hbd;obtain⟨D,hD⟩:∃ D,sameP (fs.map fiO=ms.map some)=D:=⟨_,rfl⟩;have HD:=hid hD;rw [hD];clear hD;by_cases hlen:fs.length=ms.length
  case neg=>
    have hne:¬((fs.length:Int)=(ms.length:Int)):=by omega
    go_enter Tryz.func93,Tryz.ntmps93
    go_wp2;go_ret;exact⟨by rw [←HD.out,zi (fun e=>hlen (by simpa using congrArg List.length e))];rfl,Below.refl _ _⟩
  obtain⟨n,hn⟩:∃ n,fs.length=n:=⟨_,rfl⟩;have hm:ms.length=n:=by omega
  have HN:=hid hn;have HM:=hid hm;rw [hn] at hla;rw [hn,hm];clear hn hm hlen;go_enter Tryz.func93,Tryz.ntmps93
  go_wp2;go_loopw [17] (fun iv wr=>∃ i:Nat,i≤n∧iv=.int .i64 (i:Int)∧(∀(j:Nat) (f:Fr) (x:Itm),fs[j]? =some f→ms[j]? =some x→j < i→fiO f=some x)∧Below w.heap.size w wr) (fun iv _=>n -(intOf iv).toNat)
  case atStart=>exact⟨0,by omega,rfl,fun j x y _ _ hj=>by omega,Below.refl _ _⟩
  case round=>
    obtain⟨i,hi,rfl,hU,hb⟩:=hrel;have HU:=hid hU;clear hU;by_cases hlt:i < n
    · obtain⟨f,hgx⟩:∃ f,fs[i]? =some f:=⟨_,List.getElem?_eq_getElem (by rw [HN.out];exact hlt)⟩
      obtain⟨x,hgy⟩:∃ x,ms[i]? =some x:=⟨_,List.getElem?_eq_getElem (by rw [HM.out];exact hlt)⟩;obtain⟨gp,op,rfl,p0,p1,p2⟩:=HA.out _ hb i _ hgx;have b1:Below w.heap.size w (wr.alloc (.cells #[.int .i64 f.gen,.int .i64 f.seq,.string f.body] 107)):=hb.alloc hb.size _;obtain⟨gq,oq,rfl,q0,q1,q2,q3,q4,q5,q6,q7,q8⟩:=HB.out _ b1 i _ hgy;have b2:Below w.heap.size w ((wr.alloc (.cells #[.int .i64 f.gen,.int .i64 f.seq,.string f.body] 107)).alloc (.cells #[.int .i64 x.1,.int .i64 x.2.kind,.int .i64 x.2.valid,.int .i64 x.2.uid,.int .i64 x.2.next,.int .i64 x.2.flags,.string x.2.user,.string x.2.name,.string x.2.text] 44)):=b1.alloc b1.size _;have HS:=hid (vr f x ((wr.alloc (.cells #[.int .i64 f.gen,.int .i64 f.seq,.string f.body] 107)).alloc (.cells #[.int .i64 x.1,.int .i64 x.2.kind,.int .i64 x.2.valid,.int .i64 x.2.uid,.int .i64 x.2.next,.int .i64 x.2.flags,.string x.2.user,.string x.2.name,.string x.2.text] 44)) (HBD.out f (List.mem_of_getElem? hgx)));have HX:=hid hgx;have HY:=hid hgy;clear hgx hgy b1;have hi0:(0:Int)≤(i:Int):=(by omega);have hi1:(i:Int) <(n:Int):=(by omega);by_cases hxy:fiO f=some x
      · have HXY:=hid hxy
        rw [zx hxy] at HS;clear hxy;go_wp2_with (go_at_call 94;refine HS.out.mono ?_;rintro e w1 ⟨rfl,k1⟩)
        go_roundw
        case rel=>exact⟨i+1,by omega,by go_num,fun j u v h1 h2 hj=>by
          by_cases c:j=i
          · subst c
            have e1:=HX.out;have e2:=HY.out;rw [h1] at e1;rw [h2] at e2;cases e1;cases e2;exact HXY.out
          · exact HU.out j u v h1 h2 (by omega),b2.trans (k1.mono b2.size)⟩
        case measure=>simp [intOf];omega
      · rw [zi hxy] at HS
        have HE:Hid (D=false):=by
          show D=false
          rw [←HD.out];exact zi (fun e4=>hxy (by
            have e1:=congrArg (fun l=>l[i]?) e4;simp only [List.getElem?_map,HX.out,HY.out,Option.map_some] at e1;exact Option.some.inj e1))
        clear hxy;go_wp2_with (go_at_call 94;refine HS.out.mono ?_;rintro e w1 ⟨rfl,k1⟩)
        go_ret;exact⟨by rw [HE.out];rfl,b2.trans (k1.mono b2.size)⟩
    · have HE:Hid (D=true):=by
        show D=true
        rw [←HD.out];refine zx (List.ext_getElem? fun j=>?_);rw [List.getElem?_map,List.getElem?_map];by_cases c:j < n
        · obtain⟨f,hf⟩:∃ f,fs[j]? =some f:=⟨_,List.getElem?_eq_getElem (by rw [HN.out];exact c)⟩
          obtain⟨x,hx⟩:∃ x,ms[j]? =some x:=⟨_,List.getElem?_eq_getElem (by rw [HM.out];exact c)⟩;rw [hf,hx];show some (fiO f)=some (some x)
          rw [HU.out j f x hf hx (by omega)]
        · rw [List.getElem?_eq_none (by have:=HN.out;omega),List.getElem?_eq_none (by have:=HM.out;omega)];rfl
      go_wp2;go_ret;exact⟨by rw [HE.out];rfl,hb⟩
end Go.Proofs.YtklkhllkjnbhjaaGreatDoor
