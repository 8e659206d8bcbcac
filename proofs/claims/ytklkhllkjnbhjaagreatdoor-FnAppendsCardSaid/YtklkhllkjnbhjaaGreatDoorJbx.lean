/- Texts of our own, joined. -/
import Derived.Test.YtklkhllkjnbhjaaGreatDoorJy
/- CheckOf of the model. -/
namespace Go.Proofs.YtklkhllkjnbhjaaGreatDoor
open Go.RowKit
open Lib (hid)
set_option maxRecDepth 100000
set_option maxHeartbeats 8000000
theorem JF (L:Lg) (v:Value) (w:World) (h:LRd w v L) (hl:L.used.length≤1048576):
    Calls Tryz.prog 86 #[v] w fun e w'=>∃(a:Option Addr) (cap:Nat),e=.returned (.agg #[.int .i64 (ckOf L).st,.int .i64 (ckOf L).ng,.int .i64 (ckOf L).ns,.int .i64 (ckOf L).nv,.slice a (ckOf L).refs.length cap])∧RBuf rfE w.heap.size w w' (.slice a (ckOf L).refs.length cap) (ckOf L).refs:=by
  obtain⟨va,vb,vu,rfl,_,hu⟩:=h;obtain⟨ad,cap,rfl,hrow⟩:=hu.segs;have HR:Hid _:=hrow;clear hu hrow;have HF:Hid (ckOf L=⟨IntKind.i64.wrap (L.st+1),L.ng,L.ns,L.nv,(L.used.take L.used.length).map (fun s=>(s.no,s.gen))⟩):=by show _=_;rw [List.take_length];rfl
  obtain⟨d,segs,us,ng,ns,st,nv⟩:=L;generalize ckOf ⟨d,segs,us,ng,ns,st,nv⟩=C at HF ⊢;simp only at HR HF hl ⊢;obtain⟨n,hn⟩:∃ n,us.length=n:=⟨_,rfl⟩;rw [hn] at hl HF ⊢;have HN:=hid hn;clear hn;obtain⟨S,hS⟩:∃ S,IntKind.i64.wrap (st+1)=S:=⟨_,rfl⟩;have hS2:=hS;rw [hS] at HF;have X1:=Box.new w #[va,vb,.int .i64 segs,.slice ad n cap,.int .i64 ng,.int .i64 ns,.int .i64 st,.int .i64 nv] 30;have k1:=zb w (.cells #[va,vb,.int .i64 segs,.slice ad n cap,.int .i64 ng,.int .i64 ns,.int .i64 st,.int .i64 nv] 30);obtain⟨w1,hw1⟩:∃ y,w.alloc (.cells #[va,vb,.int .i64 segs,.slice ad n cap,.int .i64 ng,.int .i64 ns,.int .i64 st,.int .i64 nv] 30)=y:=⟨_,rfl⟩;have z1:w1.heap.size=w.heap.size+1:=by rw [←hw1];simp
  have X2:=Box.new w1 #[.int .i64 0,.int .i64 0,.int .i64 0,.int .i64 0,.slice none 0 0] 124;have k2:=zb w1 (.cells #[.int .i64 0,.int .i64 0,.int .i64 0,.int .i64 0,.slice none 0 0] 124);obtain⟨w2,hw2⟩:∃ y,w1.alloc (.cells #[.int .i64 0,.int .i64 0,.int .i64 0,.int .i64 0,.slice none 0 0] 124)=y:=⟨_,rfl⟩;have z2:w2.heap.size=w.heap.size+2:=by rw [←hw2];simp;omega
  have X3:=Box.new w2 #[.int .i64 S,.int .i64 ng,.int .i64 ns,.int .i64 nv,.slice none 0 0] 124;have k3:=zb w2 (.cells #[.int .i64 S,.int .i64 ng,.int .i64 ns,.int .i64 nv,.slice none 0 0] 124);obtain⟨w3,hw3⟩:∃ y,w2.alloc (.cells #[.int .i64 S,.int .i64 ng,.int .i64 ns,.int .i64 nv,.slice none 0 0] 124)=y:=⟨_,rfl⟩;have z3:w3.heap.size=w.heap.size+3:=by rw [←hw3];simp;omega
  rw [hw1] at k1 X1;rw [hw2] at k2 X2;rw [hw3] at k3 X3;rw [z1] at X2;rw [z2] at X3;have I0:CkL w w3.heap.size w.heap.size (w.heap.size+1) (w.heap.size+2) 30 124 #[va,vb,.int .i64 segs,.slice ad n cap,.int .i64 ng,.int .i64 ns,.int .i64 st,.int .i64 nv] S ng ns nv w3 none 0 0 []:=
    ⟨(X1.later k2).later k3,X2.later k3,X3,RBuf.nil rfE w3,(k1.trans (k2.mono k1.size)).trans (k3.mono (k1.trans (k2.mono k1.size)).size),⟨by omega,by omega⟩,⟨by omega,by omega,by omega⟩⟩
  have HI0:=hid I0;have HB:Hid (w.heap.size≤w3.heap.size):=by show _≤_;omega
  obtain⟨B,hB⟩:∃ B,w3.heap.size=B:=⟨_,rfl⟩;rw [hB] at HI0 HB;have HW:Hid (((w.alloc (.cells #[va,vb,.int .i64 segs,.slice ad n cap,.int .i64 ng,.int .i64 ns,.int .i64 st,.int .i64 nv] 30)).alloc (.cells #[.int .i64 0,.int .i64 0,.int .i64 0,.int .i64 0,.slice none 0 0] 124)).alloc (.cells #[.int .i64 S,.int .i64 ng,.int .i64 ns,.int .i64 nv,.slice none 0 0] 124)=w3):=by show _=_;rw [hw1,hw2,hw3]
  clear X1 X2 X3 k1 k2 k3 z1 z2 z3 hw1 hw2 hw3 I0 hB hS;go_enter Tryz.func86,Tryz.ntmps86
  go_wp2_with fail
  rw [HW.out];clear HW hS2;go_loopw [4] (fun iv wr=>∃(i:Nat) (a:Option Addr) (c:Nat),i≤n∧iv=.int .i64 (i:Int)∧CkL w B w.heap.size (w.heap.size+1) (w.heap.size+2) 30 124 #[va,vb,.int .i64 segs,.slice ad n cap,.int .i64 ng,.int .i64 ns,.int .i64 st,.int .i64 nv] S ng ns nv wr a i c ((us.take i).map (fun s=>(s.no,s.gen)))) (fun iv _=>n -(intOf iv).toNat)
  case atStart=>exact⟨0,none,0,by omega,rfl,HI0.out⟩
  case round=>
    clear HI0;obtain⟨i,a,c,hi,rfl,I⟩:=hrel;by_cases hlt:i < n
    · obtain⟨s,hgs⟩:∃ s,us[i]? =some s:=⟨_,List.getElem?_eq_getElem (by rw [HN.out];exact hlt)⟩
      obtain⟨gp,op,am,nm,cm,rfl,p0,p1,p2,p3,_⟩:=HR.out _ I.bel i _ hgs;have HT:Hid ((us.take (i+1)).map (fun s=>(s.no,s.gen))=(us.take i).map (fun s=>(s.no,s.gen)) ++ [(s.no,s.gen)]):=zaC hgs;obtain⟨rs,hrs⟩:∃ rs,(us.take i).map (fun s=>(s.no,s.gen))=rs:=⟨_,rfl⟩;have hln:rs.length=i:=(by rw [←hrs,List.length_map,List.length_take,HN.out];omega);have HLN:=hid hln;rw [hrs] at I HT;clear hrs hgs hln;obtain⟨no,gen,ende,its⟩:=s;simp only at p0 p1 p2 p3 HT;have hi0:(0:Int)≤(i:Int):=(by omega);have hi1:(i:Int) <(n:Int):=(by omega);obtain⟨_,_,_,h3,_⟩:=I.log.eightL;have c4:=I.chk.cell 4 _ rfl;have kL:=zb wr (.cells #[.int .i64 no,.int .i64 gen] 156);have I2:=I.later kL;obtain⟨_,_,_,h3',_⟩:=I2.log.eightL;have c4':=I2.chk.cell 4 _ rfl;have kF:Below (wr.alloc (.cells #[.int .i64 no,.int .i64 gen] 156)).heap.size (wr.alloc (.cells #[.int .i64 no,.int .i64 gen] 156)) (wr.alloc (.cells #[.int .i64 no,.int .i64 gen] 156)).drew:=(Below.refl _ _).drew;have I3:=hid (I2.later kF);have HL:=hid ((RBuf.lit1 rfE wr (no,gen)).later kF).here;clear I I2 kL kF p2 p3;go_upto_region 5 with fail
      go_region_law (first
        |(refine zd (by rfl) _ _ rfE (by rfl) B _ rs (by rfl) I3.out.refs wr.heap.size _ [(no,gen)] (by rfl) HL.out (by show _ * 17≤_;simp only [List.length_cons,List.length_nil];have:=HLN.out;omega) ?_;intro v8 w8 r8 g8 at8 lt8;obtain⟨a8,c8,e8⟩:=r8.form;simp only [List.length_append,List.length_cons,List.length_nil,Nat.zero_add] at e8;rw [HLN.out] at e8;subst e8;obtain⟨d4,f4⟩:=I3.out.cells g8;have I9:=hid (I3.out.push a8 _ c8 r8 g8)))
      all_goals
        clear HL r8 g8 at8 lt8 p0 p1 h3 c4 h3' c4'
        go_wp2
        go_roundw
        case rel=>exact⟨i+1,a8,c8,by omega,by go_num,by rw [HT.out];exact I9.out⟩
        case measure=>simp [intOf];omega
    · have hin:i=n:=by omega
      have HE:Hid ((us.take n).map (fun s=>(s.no,s.gen))=(us.take i).map (fun s=>(s.no,s.gen))):=(by show _=_;rw [hin]);have HLN:Hid (((us.take i).map (fun s=>(s.no,s.gen))).length=i):=(by show _=_;rw [List.length_map,List.length_take,HN.out];omega);obtain⟨rs,hrs⟩:∃ rs,(us.take i).map (fun s=>(s.no,s.gen))=rs:=⟨_,rfl⟩;rw [hrs] at I HE HLN;clear hrs hin;rw [HE.out] at HF;obtain⟨x0,x1,x2,x3,x4,_⟩:=I.chk.fiveC;obtain⟨y0,y1,y2,y3,y4,f0,f1,f2,f3,f4⟩:=I.res.fiveC;have R5:=I.res.set5C (.int .i64 S) (.int .i64 ng) (.int .i64 ns) (.int .i64 nv) (.slice a i c);obtain⟨u0,u1,u2,u3,u4,_⟩:=R5.fiveC;have HD:=hid (I.refs.set5C (g:=w.heap.size+1) I.bel HB.out (by have:=I.lt;omega) (by omega) (.int .i64 S) (.int .i64 ng) (.int .i64 ns) (.int .i64 nv) (.slice a i c));have hge:¬(i:Int) <(n:Int):=(by omega);obtain⟨_,_,_,h3,_⟩:=I.log.eightL;clear I R5 HE;go_wp2;refine bodyPost_ret (v:=.agg #[.int .i64 S,.int .i64 ng,.int .i64 ns,.int .i64 nv,.slice a i c]) (by simp [results,Tryz.results86,go_sem,u0,u1,u2,u3,u4]) rfl ?_;refine⟨a,c,by rw [HF.out];simp only;rw [HLN.out],?_⟩;rw [HF.out];simp only;rw [HLN.out];exact HD.out

/- CheckOk of the model. -/
theorem jA(n lo hi:Int)(w:World)(h1:lo≤n)(h2:n≤hi):Calls Tryz.prog 52 #[.int .i64 n,.int .i64 lo,.int .i64 hi] w fun e w'=>e=.returned (.bool true)∧w'=w:=
  (zg n lo hi w h1 h2).mono fun _ _ h=>⟨h.1,h.2.symm⟩
theorem Vn(n lo hi:Int)(w:World)(h:¬(lo≤n∧n≤hi)):Calls Tryz.prog 52 #[.int .i64 n,.int .i64 lo,.int .i64 hi] w fun e w'=>e=.returned (.bool false)∧w'=w:=
  (zk n lo hi w h).mono fun _ _ h=>⟨h.1,h.2.symm⟩
theorem JG (c : Ck) (a:Option Addr) (cap:Nat) (w:World) (h:Rows' rfE w (.slice a c.refs.length cap) c.refs) (hl:c.refs.length≤1048576):
    Calls Tryz.prog 138 #[.agg #[.int .i64 c.st,.int .i64 c.ng,.int .i64 c.ns,.int .i64 c.nv,.slice a c.refs.length cap]] w fun e w'=>e=.returned (.bool (ckB c))∧Below w.heap.size w w':=by
  obtain⟨_,_,hv,hrow⟩:=h.refs;cases hv
  have HR:=hid hrow;clear h hrow;have HYES:=hid (fun h=>@qG c h);have HNO:=hid (fun h=>@zcX c h);obtain⟨st,ng,ns,nv,rs⟩:=c;generalize ckB ⟨st,ng,ns,nv,rs⟩=A at HYES HNO ⊢;replace HYES:Hid (((numIn st∧numIn ng∧numIn ns∧numIn nv)∧(1≤rs.length∧rs.length≤11)∧∀(i:Nat) (r:Rf),rs[i]? =some r→rfAt ng rs i r)→A=true):=HYES;replace HNO:Hid (¬((numIn st∧numIn ng∧numIn ns∧numIn nv)∧(1≤rs.length∧rs.length≤11)∧∀(i:Nat) (r:Rf),rs[i]? =some r→rfAt ng rs i r)→A=false):=HNO;simp only at hl HR ⊢;obtain⟨n,hn⟩:∃ n,rs.length=n:=⟨_,rfl⟩;rw [hn] at hl HYES HNO ⊢;have HN:=hid hn;clear hn;have X0:=Box.new w #[.int .i64 st,.int .i64 ng,.int .i64 ns,.int .i64 nv,.slice a n cap] 124;have b0:=zb w (.cells #[.int .i64 st,.int .i64 ng,.int .i64 ns,.int .i64 nv,.slice a n cap] 124);have HC:Hid (∀ x,Below (w.alloc (.cells #[.int .i64 st,.int .i64 ng,.int .i64 ns,.int .i64 nv,.slice a n cap] 124)).heap.size (w.alloc (.cells #[.int .i64 st,.int .i64 ng,.int .i64 ns,.int .i64 nv,.slice a n cap] 124)) x→(x.cell? ⟨w.heap.size,0,none⟩=some (.int .i64 st)∧x.cell? ⟨w.heap.size,1,none⟩=some (.int .i64 ng)∧x.cell? ⟨w.heap.size,2,none⟩=some (.int .i64 ns)∧x.cell? ⟨w.heap.size,3,none⟩=some (.int .i64 nv)∧x.cell? ⟨w.heap.size,4,none⟩=some (.slice a n cap))∧Below w.heap.size w x):=fun x hx=>by
    obtain⟨x0,x1,x2,x3,x4,_⟩:=(X0.later hx).fiveC;exact⟨⟨x0,x1,x2,x3,x4⟩,b0.trans (hx.mono b0.size)⟩
  clear X0 b0;go_enter Tryz.func138,Tryz.ntmps138
  go_upto_region 1 with fail
  generalize w.alloc (.cells #[.int .i64 st,.int .i64 ng,.int .i64 ns,.int .i64 nv,.slice a n cap] 124)=W at HC ⊢;obtain⟨g,hg⟩:∃ g,w.heap.size=g:=⟨_,rfl⟩;rw [hg] at HC ⊢;obtain⟨⟨c0,c1,c2,c3,c4⟩,bW⟩:=HC.out _ (Below.refl _ _);rw [←hg] at bW;by_cases h1:1≤st∧st≤1000000000
  rotate_left
  · have HE:Hid (A=false):=HNO.out (fun c=>h1 c.1.1)
    go_wp2_with (go_at_call 52;first |(refine(zg _ _ _ _ (by omega) (by omega)).mono ?_;rintro e w1 ⟨rfl,rfl⟩) |(refine(zk _ _ _ _ (by omega)).mono ?_;rintro e w1 ⟨rfl,rfl⟩))
    go_ret;exact⟨by rw [HE.out];rfl,by first | exact bW |(rw [←hg];exact bW)⟩
  by_cases h2:1≤ng∧ng≤1000000000
  rotate_left
  · have HE:Hid (A=false):=HNO.out (fun c=>h2 c.1.2.1)
    go_wp2_with (go_at_call 52;first |(refine(zg _ _ _ _ (by omega) (by omega)).mono ?_;rintro e w1 ⟨rfl,rfl⟩) |(refine(zk _ _ _ _ (by omega)).mono ?_;rintro e w1 ⟨rfl,rfl⟩))
    go_ret;exact⟨by rw [HE.out];rfl,by first | exact bW |(rw [←hg];exact bW)⟩
  by_cases h3:1≤ns∧ns≤1000000000
  rotate_left
  · have HE:Hid (A=false):=HNO.out (fun c=>h3 c.1.2.2.1)
    go_wp2_with (go_at_call 52;first |(refine(zg _ _ _ _ (by omega) (by omega)).mono ?_;rintro e w1 ⟨rfl,rfl⟩) |(refine(zk _ _ _ _ (by omega)).mono ?_;rintro e w1 ⟨rfl,rfl⟩))
    go_ret;exact⟨by rw [HE.out];rfl,by first | exact bW |(rw [←hg];exact bW)⟩
  by_cases h4:1≤nv∧nv≤1000000000
  rotate_left
  · have HE:Hid (A=false):=HNO.out (fun c=>h4 c.1.2.2.2)
    go_wp2_with (go_at_call 52;first |(refine(zg _ _ _ _ (by omega) (by omega)).mono ?_;rintro e w1 ⟨rfl,rfl⟩) |(refine(zk _ _ _ _ (by omega)).mono ?_;rintro e w1 ⟨rfl,rfl⟩))
    go_ret;exact⟨by rw [HE.out];rfl,by first | exact bW |(rw [←hg];exact bW)⟩
  by_cases h5:1≤n∧n≤11
  rotate_left
  · have HE:Hid (A=false):=HNO.out (fun c=>h5 c.2.1)
    go_wp2_with (go_at_call 52;first |(refine(zg _ _ _ _ (by omega) (by omega)).mono ?_;rintro e w1 ⟨rfl,rfl⟩) |(refine(zk _ _ _ _ (by omega)).mono ?_;rintro e w1 ⟨rfl,rfl⟩))
    go_ret;exact⟨by rw [HE.out];rfl,by first | exact bW |(rw [←hg];exact bW)⟩
  have HBAD:Hid (∀(i:Nat) (r:Rf),rs[i]? =some r→¬rfAt ng rs i r→A=false):=fun i r hr hb=>HNO.out (fun c=>hb (c.2.2 i r hr));have HGOOD:Hid ((∀(i:Nat) (r:Rf),rs[i]? =some r→rfAt ng rs i r)→A=true):=fun hb=>HYES.out ⟨⟨h1,h2,h3,h4⟩,h5,hb⟩;clear HYES HNO bW;go_wp2_with (go_at_call 52;first |(refine(zg _ _ _ _ (by omega) (by omega)).mono ?_;rintro e w1 ⟨rfl,rfl⟩) |(refine(zk _ _ _ _ (by omega)).mono ?_;rintro e w1 ⟨rfl,rfl⟩))
  clear c0 c1 c2 c3 c4;go_loopw [3] (fun iv wr=>∃ i:Nat,i≤n∧iv=.int .i64 (i:Int)∧Hid (∀(k:Nat) (r:Rf),k < i→rs[k]? =some r→rfAt ng rs k r)∧Below W.heap.size W wr) (fun iv _=>n -(intOf iv).toNat)
  case atStart=>exact⟨0,by omega,rfl,fun k r hk=>by omega,Below.refl _ _⟩
  case round=>
    obtain⟨i,hi,rfl,HOK,bq⟩:=hrel;obtain⟨⟨c0,c1,c2,c3,c4⟩,bw⟩:=HC.out _ bq;rw [←hg] at bw;by_cases hlt:i < n
    · obtain ⟨r,hgr⟩:∃ r,rs[i]? =some r:=⟨_,List.getElem?_eq_getElem (by rw [HN.out];exact hlt)⟩
      obtain⟨gp,op,rfl,p0,p1⟩:=HR.out _ bw i _ hgr;have HGR:=hid hgr;clear hgr;obtain⟨rN,rG⟩:=r;simp only at p0 p1;have hi0:(0:Int)≤(i:Int):=(by omega);have hi1:(i:Int) <(n:Int):=(by omega);have XB:=Box.new wr #[.int .i64 rN,.int .i64 rG] 156;have k9:=zb wr (.cells #[.int .i64 rN,.int .i64 rG] 156);have b9:=bq.trans (k9.mono bq.size);clear bq bw;go_upto_region 7 with fail
      clear p0 p1 c0 c1 c2 c3 c4;generalize wr.alloc (.cells #[.int .i64 rN,.int .i64 rG] 156)=w9 at XB b9 ⊢;obtain⟨g9,hg9⟩:∃ g9,wr.heap.size=g9:=⟨_,rfl⟩;rw [hg9] at XB ⊢;clear hg9 k9;have H9:Hid (∀ x,Below w9.heap.size w9 x→(x.cell? ⟨g9,0,none⟩=some (.int .i64 rN)∧x.cell? ⟨g9,1,none⟩=some (.int .i64 rG))∧(x.cell? ⟨g,0,none⟩=some (.int .i64 st)∧x.cell? ⟨g,1,none⟩=some (.int .i64 ng)∧x.cell? ⟨g,2,none⟩=some (.int .i64 ns)∧x.cell? ⟨g,3,none⟩=some (.int .i64 nv)∧x.cell? ⟨g,4,none⟩=some (.slice (some ⟨gp,op,none⟩) n cap))∧Below w.heap.size w x∧Below W.heap.size W x):=fun x hx=>
        have hb:=b9.trans (hx.mono b9.size);⟨⟨(XB.later hx).cell 0 _ rfl,(XB.later hx).cell 1 _ rfl⟩,(HC.out _ hb).1,by have:=(HC.out _ hb).2;rw [←hg] at this;exact this,hb⟩
      clear XB b9;obtain⟨F,hF0⟩:=zdb (¬((0≤rN∧rN≤10)∧(1≤rG∧rG≤ng - 1)∧∀ p:Rf,0 < i→rs[i - 1]? =some p→p.2 < rG));have hF:=hid hF0;clear hF0;have hng:IntKind.i64.wrap (ng - 1)=ng - 1:=IntWalk.i64_in _ ⟨by omega,by omega⟩;go_cut [75] (fun c wx=>c=.bool F∧Below w9.heap.size w9 wx)
      case first=>
        obtain⟨⟨d0,d1⟩,⟨_,c1,_,_,c4⟩,bw,_⟩:=H9.out _ (Below.refl _ _);by_cases hv:0≤rN∧rN≤10
        rotate_left
        · have HE:Hid (F=true):=hF.out.2 (fun c=>hv c.1)
          clear hF HR HN HC HBAD HGOOD HOK HGR H9 bw;go_quiet (first |(go_at_call 52;first | exact Calls.quiet_of_same (jA _ _ _ _ (by omega) (by omega)) | exact Calls.quiet_of_same (Vn _ _ _ _ (by omega))))
          go_wp2_with fail
          go_meet;exact⟨by rw [HE.out],below_drewN (Below.refl _ _) _⟩
        by_cases hu:1≤rG∧rG≤ng - 1
        rotate_left
        · have HE:Hid (F=true):=hF.out.2 (fun c=>hu c.2.1)
          clear hF HR HN HC HBAD HGOOD HOK HGR H9 bw;go_quiet (first |(go_at_call 52;first | exact Calls.quiet_of_same (jA _ _ _ _ (by omega) (by omega)) | exact Calls.quiet_of_same (Vn _ _ _ _ (by omega))))
          go_wp2_with fail
          go_meet;exact⟨by rw [HE.out],below_drewN (Below.refl _ _) _⟩
        rcases(show i=0∨∃ j,i=j+1 by cases i with | zero=>exact .inl rfl | succ j=>exact .inr ⟨j,rfl⟩) with rfl |⟨j,rfl⟩
        · have hz:¬((0:Int) <((0:Nat):Int)):=by omega
          have HE:Hid (F=false):=Bool.eq_false_iff.2 (fun h=>hF.out.1 h ⟨hv,hu,fun p h=>absurd h (Nat.lt_irrefl 0)⟩);clear hF HR HN HC HBAD HGOOD HOK HGR H9 bw;go_quiet (first |(go_at_call 52;first | exact Calls.quiet_of_same (jA _ _ _ _ (by omega) (by omega)) | exact Calls.quiet_of_same (Vn _ _ _ _ (by omega))))
          go_wp2_with fail
          go_meet;exact⟨by rw [HE.out],below_drewN (Below.refl _ _) _⟩
        · obtain⟨p,hgp⟩:∃ p,rs[j]? =some p:=⟨_,List.getElem?_eq_getElem (by rw [HN.out];omega)⟩
          have hpos:(0:Int) <(j:Int) +1:=(by omega);have hj1:(j:Int) <(n:Int):=(by omega);have hj0:(0:Int)≤(j:Int):=(by omega);obtain⟨_,_,e0,_,t1⟩:=HR.out _ bw j _ hgp;cases e0
          have HGP:=hid hgp;clear hgp;obtain⟨pN,pG⟩:=p;simp only at t1;have hwr:IntKind.i64.wrap ((j:Int) +1 - 1)=(j:Int):=(by rw [show(j:Int) +1 - 1=(j:Int) by omega];exact IntWalk.i64_in _ ⟨by omega,by omega⟩);have hwr2:IntKind.i64.wrap (j:Int)=(j:Int):=IntWalk.i64_in _ ⟨by omega,by omega⟩;by_cases hup:rG≤pG
          · have HE:Hid (F=true):=hF.out.2 (fun c=>by have h1:=c.2.2 _ (Nat.succ_pos j) HGP.out;simp only at h1;omega)
            clear hF HR HN HC HBAD HGOOD HOK HGR H9 bw HGP;go_quiet (first |(go_at_call 52;first | exact Calls.quiet_of_same (jA _ _ _ _ (by omega) (by omega)) | exact Calls.quiet_of_same (Vn _ _ _ _ (by omega))))
            go_wp2_with fail
            go_meet;exact⟨by rw [HE.out],below_drewN (Below.refl _ _) _⟩
          · have HE:Hid (F=false):=Bool.eq_false_iff.2 (fun h=>hF.out.1 h ⟨hv,hu,fun p _ h=>by have e:=Option.some.inj (h.symm.trans HGP.out);rw [e];simp only;omega⟩)
            clear hF HR HN HC HBAD HGOOD HOK HGR H9 bw HGP;go_quiet (first |(go_at_call 52;first | exact Calls.quiet_of_same (jA _ _ _ _ (by omega) (by omega)) | exact Calls.quiet_of_same (Vn _ _ _ _ (by omega))))
            go_wp2_with fail
            go_meet;exact⟨by rw [HE.out],below_drewN (Below.refl _ _) _⟩
      case rest =>
        obtain⟨rfl,k10⟩:=hcut;cases F with
        | true=>
          have HE:Hid (A=false):=HBAD.out i _ HGR.out (fun c=>hF.out.1 rfl ⟨c.1,c.2.1,c.2.2.1⟩);have bE:=(H9.out _ k10).2.2.1;go_wp2;go_ret;exact⟨by rw [HE.out];rfl,by first | exact bE |(rw [←hg];exact bE)⟩
        | false =>
          have HP:Hid ((0≤rN∧rN≤10)∧(1≤rG∧rG≤ng - 1)∧∀ p:Rf,0 < i→rs[i - 1]? =some p→p.2 < rG):=Classical.byContradiction (fun c=>by have:=hF.out.2 c;cases this);clear hF;go_wp2;go_loopw [5] (fun kv wq=>∃ k:Nat,k≤i∧kv=.int .i64 (k:Int)∧Hid (∀(q:Nat) (y:Rf),q < k→rs[q]? =some y→y.1≠rN)∧Below w9.heap.size w9 wq) (fun kv _=>i -(intOf kv).toNat)
          case atStart=>exact⟨0,by omega,rfl,fun q y hq=>by omega,k10⟩
          case round=>
            clear k10;obtain⟨k,hk,rfl,HNOS,bq⟩:=hrel;obtain⟨⟨d0,d1⟩,⟨_,_,_,_,c4⟩,bw,bWx⟩:=H9.out _ bq;by_cases hlk:k < i
            · obtain⟨y,hgy⟩:∃ y,rs[k]? =some y:=⟨_,List.getElem?_eq_getElem (by rw [HN.out];omega)⟩
              obtain⟨_,_,e0,t0,_⟩:=HR.out _ bw k _ hgy;cases e0
              have HGY:=hid hgy;clear hgy;obtain⟨yN,yG⟩:=y;simp only at t0;have hk0:(0:Int)≤(k:Int):=(by omega);have hk1:(k:Int) <(n:Int):=(by omega);have hk2:(k:Int) <(i:Int):=(by omega);by_cases he:yN=rN
              · subst he
                have HE:Hid (A=false):=HBAD.out i _ HGR.out (fun c=>c.2.2.2 k _ hlk HGY.out rfl);clear HNOS HGY HR HN HC HBAD HGOOD HOK HGR H9 HP;go_wp2;go_quiet (fail)
                go_wp2;go_ret;exact⟨by rw [HE.out];rfl,by first | exact below_drewN bw _ |(rw [←hg];exact below_drewN bw _)⟩
              · have he':(yN==rN)=false:=beq_eq_false_iff_ne.2 he
                have HS:Hid (∀(q:Nat) (y:Rf),q < k+1→rs[q]? =some y→y.1≠rN):=fun q y hq hy=>by
                  rcases Nat.lt_succ_iff_lt_or_eq.1 hq with h | rfl
                  · exact HNOS.out q y h hy
                  · have e:=Option.some.inj (hy.symm.trans HGY.out);rw [e];exact he
                clear HNOS HGY bw bWx;go_wp2;go_quiet (fail)
                go_wp2;go_roundw
                case rel=>exact⟨k+1,by omega,by go_num,HS,below_drewN bq _⟩
                case measure=>simp [intOf];omega
            · have hki:Hid (i=k):=by show i=k;omega
              have HNB:Hid (∀(q:Nat) (y:Rf),q < i→rs[q]? =some y→y.1≠rN):=(by rw [hki.out];exact HNOS.out);have hk2:¬(k:Int) <(i:Int):=(by omega);have HS:Hid (∀(k:Nat) (r:Rf),k < i+1→rs[k]? =some r→rfAt ng rs k r):=fun q y hq hy=>by
                rcases Nat.lt_succ_iff_lt_or_eq.1 hq with h | rfl
                · exact HOK.out q y h hy
                · have e:=Option.some.inj (hy.symm.trans HGR.out);rw [e];exact⟨HP.out.1,HP.out.2.1,HP.out.2.2,HNB.out⟩
              clear HNOS hki d0 d1 c4 bw;go_wp2;go_roundw
              case rel=>exact⟨i+1,by omega,by go_num,HS,bWx⟩
              case measure=>simp [intOf];omega
    · have hge:¬(i:Int) <(n:Int):=by omega
      have HE:Hid (A=true):=HGOOD.out (fun k r hr=>HOK.out k r (by have:=(List.getElem?_eq_some_iff.1 hr).1;rw [HN.out] at this;omega) hr);go_wp2;go_ret;exact⟨by rw [HE.out];rfl,by first | exact bw |(rw [←hg];exact bw)⟩
end Go.Proofs.YtklkhllkjnbhjaaGreatDoor
