/- Texts of our own, joined. -/
import Derived.Test.YtklkhllkjnbhjaaGreatDoorJbx
/- CheckText of the model. -/
namespace Go.Proofs.YtklkhllkjnbhjaaGreatDoor
open Go.RowKit
open Lib (hid)
set_option maxRecDepth 100000
set_option maxHeartbeats 8000000
theorem ju (c : Ck) (a:Option Addr) (cap:Nat) (w:World) (h:Rows' rfE w (.slice a c.refs.length cap) c.refs) (hl:c.refs.length≤1048576):
    Calls Tryz.prog 117 #[.agg #[.int .i64 c.st,.int .i64 c.ng,.int .i64 c.ns,.int .i64 c.nv,.slice a c.refs.length cap]] w fun e w'=>e=.returned (ctT c)∧Below w.heap.size w w':=by
  have HOKW:=hid (fun(x:World) (hx:Below w.heap.size w x)=>JG c a cap x (h.later hx) hl);obtain⟨_,_,hv,hrow⟩:=h.refs;cases hv
  have HR:=hid hrow;clear h hrow;have HYES:=hid (fun(e:ckB c=true)=>And.intro (Xy e) (qV.1 e));have HNO:=hid (fun(e:ckB c=false)=>za1 e);have HBD:=hid (fun(e:c.ok)=>vT e);have HSE:=hid (fun(e:c.ok)=>jG e);have HIN:=hid (fun(e:c.ok) (i:Nat) (r:Rf) (hr:c.refs[i]? =some r)=>c.ref_in e hr);have HST:=hid (fun(i:Nat) (r:Rf) (hr:c.refs[i]? =some r)=>V7 hr);have HZ:=hid (zaT c);have HDE:Hid (ckSe c=ckBd c c.refs.length++fourOf (ckBd c c.refs.length)∧ckTx c=shB (ckSe c)):=⟨rfl,rfl⟩;have HNU:Hid (c.ok→(numIn c.st∧numIn c.ng∧numIn c.ns∧numIn c.nv)∧c.refs.length≤11):=fun e=>⟨e.1,e.2.1.2⟩;obtain⟨Q,hQ⟩:∃ Q,c.ok=Q:=⟨_,rfl⟩;obtain⟨D,hD⟩:∃ D,ckB c=D:=⟨_,rfl⟩;obtain⟨TT,hTT⟩:∃ TT,ctT c=TT:=⟨_,rfl⟩;obtain⟨TX,hTX⟩:∃ TX,ckTx c=TX:=⟨_,rfl⟩;obtain⟨SE,hSE⟩:∃ SE,ckSe c=SE:=⟨_,rfl⟩;obtain⟨BD,hBD⟩:∃ BD,ckBd c=BD:=⟨_,rfl⟩;rw [hQ,hD,hTT,hTX] at HYES;rw [hD,hTT] at HNO;rw [hQ,hBD] at HBD;rw [hQ,hBD,hSE,hTX] at HSE;rw [hQ] at HIN HNU;rw [hBD] at HST HZ;rw [hBD,hSE,hTX] at HDE;rw [hD] at HOKW;rw [hTT];clear hQ hD hTT hTX hSE hBD;obtain⟨st,ng,ns,nv,rs⟩:=c;simp only at HOKW HR HBD HSE HIN HST HZ HDE HNU hl ⊢;obtain⟨n,hn⟩:∃ n,rs.length=n:=⟨_,rfl⟩;rw [hn] at hl HOKW HBD HSE HZ HDE HNU ⊢;have HN:=hid hn;clear hn;have X0:=Box.new w #[.int .i64 st,.int .i64 ng,.int .i64 ns,.int .i64 nv,.slice a n cap] 124;have b0:=zb w (.cells #[.int .i64 st,.int .i64 ng,.int .i64 ns,.int .i64 nv,.slice a n cap] 124);have HC:Hid (∀ x,Below (w.alloc (.cells #[.int .i64 st,.int .i64 ng,.int .i64 ns,.int .i64 nv,.slice a n cap] 124)).heap.size (w.alloc (.cells #[.int .i64 st,.int .i64 ng,.int .i64 ns,.int .i64 nv,.slice a n cap] 124)) x→(x.cell? ⟨w.heap.size,0,none⟩=some (.int .i64 st)∧x.cell? ⟨w.heap.size,1,none⟩=some (.int .i64 ng)∧x.cell? ⟨w.heap.size,2,none⟩=some (.int .i64 ns)∧x.cell? ⟨w.heap.size,3,none⟩=some (.int .i64 nv)∧x.cell? ⟨w.heap.size,4,none⟩=some (.slice a n cap))∧Below w.heap.size w x):=fun x hx=>by
    obtain⟨x0,x1,x2,x3,x4,_⟩:=(X0.later hx).fiveC;exact⟨⟨x0,x1,x2,x3,x4⟩,b0.trans (hx.mono b0.size)⟩
  obtain⟨x0,x1,x2,x3,x4,_⟩:=X0.fiveC;clear X0 b0;go_enter Tryz.func117,Tryz.ntmps117
  go_wp2_with fail
  clear x0 x1 x2 x3 x4;generalize w.alloc (.cells #[.int .i64 st,.int .i64 ng,.int .i64 ns,.int .i64 nv,.slice a n cap] 124)=W at HC ⊢;obtain⟨g,hg⟩:∃ g,w.heap.size=g:=⟨_,rfl⟩;replace HC:Hid (∀ x,Below W.heap.size W x→(x.cell? ⟨g,0,none⟩=some (.int .i64 st)∧x.cell? ⟨g,1,none⟩=some (.int .i64 ng)∧x.cell? ⟨g,2,none⟩=some (.int .i64 ns)∧x.cell? ⟨g,3,none⟩=some (.int .i64 nv)∧x.cell? ⟨g,4,none⟩=some (.slice a n cap))∧Below w.heap.size w x):=by rw [hg] at HC ⊢;exact HC
  simp only [hg];have HG:=hid hg;clear hg;refine(HOKW.out _ (HC.out _ (Below.refl _ _)).2).mono ?_;rintro e w1 ⟨rfl,k1⟩;clear HOKW;cases D with
  | false=>
    have HE:=hid (HNO.out rfl);have bE:=(HC.out _ k1).2;go_wp2;go_ret2
    exact⟨by rw [HE.out];rfl,by first | exact bE |(rw [←HG.out];exact bE)⟩
  | true=>
    have HOK:=hid (HYES.out rfl).2;have HE:=hid (HYES.out rfl).1;obtain⟨⟨h1,h2,h3,h4⟩,h5⟩:=HNU.out HOK.out;unfold numIn at h1 h2 h3 h4;have HL1:=hid (fun x=>zo st x (by omega) (by omega));have HL2:=hid (fun x=>zo ng x (by omega) (by omega));have HL3:=hid (fun x=>zo ns x (by omega) (by omega));have HL4:=hid (fun x=>zo nv x (by omega) (by omega));have HL5:=hid (fun x=>zo (n:Int) x (by omega) (by omega));have z1:=zT (n:=st.toNat) (by omega);have z2:=zT (n:=ng.toNat) (by omega);have z3:=zT (n:=ns.toNat) (by omega);have z4:=zT (n:=nv.toNat) (by omega);have z5:=zT (n:=n) (by omega);rw [Int.toNat_natCast] at HL5;obtain⟨V1,hV1⟩:∃ V,vtB st.toNat=V:=⟨_,rfl⟩;obtain⟨V2,hV2⟩:∃ V,vtB ng.toNat=V:=⟨_,rfl⟩;obtain⟨V3,hV3⟩:∃ V,vtB ns.toNat=V:=⟨_,rfl⟩;obtain⟨V4,hV4⟩:∃ V,vtB nv.toNat=V:=⟨_,rfl⟩;obtain⟨V5,hV5⟩:∃ V,vtB n=V:=⟨_,rfl⟩;rw [hV1] at HL1 z1 HZ;rw [hV2] at HL2 z2 HZ;rw [hV3] at HL3 z3 HZ;rw [hV4] at HL4 z4 HZ;rw [hV5] at HL5 z5 HZ;clear hV1 hV2 hV3 hV4 hV5 HYES HNO HNU;have ad1:=fun wx=>run_string_add_sum (P:=Tryz.prog) (w:=wx) V1 V2 (by omega);have y1:(V1++V2).size≤10:=by rw [ByteArray.size_append];omega
    obtain⟨U1,hU1⟩:∃ U,V1++V2=U:=⟨_,rfl⟩;rw [hU1] at ad1 y1 HZ;have ad2:=fun wx=>run_string_add_sum (P:=Tryz.prog) (w:=wx) U1 V3 (by omega);have y2:(U1++V3).size≤15:=by rw [ByteArray.size_append];omega
    obtain⟨U2,hU2⟩:∃ U,U1++V3=U:=⟨_,rfl⟩;rw [hU2] at ad2 y2 HZ;have ad3:=fun wx=>run_string_add_sum (P:=Tryz.prog) (w:=wx) U2 V4 (by omega);have y3:(U2++V4).size≤20:=by rw [ByteArray.size_append];omega
    obtain⟨U3,hU3⟩:∃ U,U2++V4=U:=⟨_,rfl⟩;rw [hU3] at ad3 y3 HZ;have ad4:=fun wx=>run_string_add_sum (P:=Tryz.prog) (w:=wx) U3 V5 (by omega);obtain⟨U4,hU4⟩:∃ U,U3++V5=U:=⟨_,rfl⟩;rw [hU4] at ad4 HZ;clear hU1 hU2 hU3 hU4 y1 y2 y3 z1 z2 z3 z4 z5;have kk:Below W.heap.size W w1.drew:=k1.drew;obtain⟨c0,c1,c2,c3,c4⟩:=(HC.out _ kk).1;go_upto_region 3 with fail
    go_cut [4] (fun c wx=>c=.string (BD 0)∧Below W.heap.size W wx)
    case first=>
      clear k1 HIN HST HBD HSE HDE HR;go_region_held3 (fun x=>x.cell? ⟨g,0,none⟩=some (.int .i64 st)∧x.cell? ⟨g,1,none⟩=some (.int .i64 ng)∧x.cell? ⟨g,2,none⟩=some (.int .i64 ns)∧x.cell? ⟨g,3,none⟩=some (.int .i64 nv)∧x.cell? ⟨g,4,none⟩=some (.slice a n cap))
        (first | exact(HC.out _ kk).1)
        (first
          | (go_at_call 108;first
            |(with_reducible refine(HL1.out _).mono ?_;rintro e wX ⟨rfl,kX⟩;have kk:=kk.trans (kX.mono kk.size);clear kX)
            |(with_reducible refine(HL2.out _).mono ?_;rintro e wX ⟨rfl,kX⟩;have kk:=kk.trans (kX.mono kk.size);clear kX)
            |(with_reducible refine(HL3.out _).mono ?_;rintro e wX ⟨rfl,kX⟩;have kk:=kk.trans (kX.mono kk.size);clear kX)
            |(with_reducible refine(HL4.out _).mono ?_;rintro e wX ⟨rfl,kX⟩;have kk:=kk.trans (kX.mono kk.size);clear kX)
            |(with_reducible refine(HL5.out _).mono ?_;rintro e wX ⟨rfl,kX⟩;have kk:=kk.trans (kX.mono kk.size);clear kX)))
      all_goals
        go_wp2_with fail
        go_meet
        exact⟨by rw [HZ.out],kk⟩
    case rest =>
      obtain⟨rfl,k2⟩:=hcut;clear c0 c1 c2 c3 c4 ad1 ad2 ad3 ad4 HL1 HL2 HL3 HL4 HL5 kk k1;go_wp2_with fail
      go_loopw [4,5] (fun sv iv wr=>∃ i:Nat,i≤n∧iv=.int .i64 (i:Int)∧sv=.string (BD i)∧Below W.heap.size W wr) (fun _ iv _=>n -(intOf iv).toNat)
      case atStart=>exact⟨0,by omega,rfl,rfl,k2⟩
      case round=>
        clear k2;obtain⟨i,hi,rfl,rfl,bq⟩:=hrel;obtain⟨⟨c0,c1,c2,c3,c4⟩,bw⟩:=HC.out _ bq;by_cases hlt:i < n
        · obtain⟨r,hgr⟩:∃ r,rs[i]? =some r:=⟨_,List.getElem?_eq_getElem (by rw [HN.out];exact hlt)⟩
          have hin:=HIN.out HOK.out i r hgr;have HS:=hid (HST.out i r hgr);have hbl:=HBD.out HOK.out i (by omega);have HROW:Hid (∀ X,Below w.heap.size w X→∃ g off,a=some ⟨g,off,none⟩∧X.cell? ⟨g,off+i * 2,none⟩=some (.int .i64 r.1)∧X.cell? ⟨g,off+i * 2+1,none⟩=some (.int .i64 r.2)):=fun X hX=>HR.out X hX i r hgr;clear hgr;obtain⟨rN,rG⟩:=r;simp only at hin HS HROW;have HL1:=hid (fun x=>zo rN x (by omega) (by omega));have HL2:=hid (fun x=>zo rG x (by omega) (by omega));have z1:=zT (n:=rN.toNat) (by omega);have z2:=zT (n:=rG.toNat) (by omega);obtain⟨V1,hV1⟩:∃ V,vtB rN.toNat=V:=⟨_,rfl⟩;obtain⟨V2,hV2⟩:∃ V,vtB rG.toNat=V:=⟨_,rfl⟩;rw [hV1] at HL1 z1 HS;rw [hV2] at HL2 z2 HS;clear hV1 hV2;obtain⟨B1,hB1⟩:∃ B,BD (i+1)=B:=⟨_,rfl⟩;rw [hB1] at HS;have HB1:=hid hB1;clear hB1;generalize BD i=B0 at HS hbl;have ad1:=fun wx=>run_string_add_sum (P:=Tryz.prog) (w:=wx) B0 V1 (by omega);have y1:(B0++V1).size≤1000:=(by rw [ByteArray.size_append];omega);obtain⟨U1,hU1⟩:∃ U,B0++V1=U:=⟨_,rfl⟩;rw [hU1] at ad1 y1 HS;have ad2:=fun wx=>run_string_add_sum (P:=Tryz.prog) (w:=wx) U1 V2 (by omega);obtain⟨U2,hU2⟩:∃ U,U1++V2=U:=⟨_,rfl⟩;rw [hU2] at ad2 HS;clear hU1 hU2 y1 z1 z2;have hi0:(0:Int)≤(i:Int):=(by omega);have hi1:(i:Int) <(n:Int):=(by omega);have kk:Below W.heap.size W wr.drew:=bq.drew;obtain⟨gp,op,rfl,_,_⟩:=HROW.out _ bw;have HX:Hid (∀ X,Below W.heap.size W X→(X.cell? ⟨g,4,none⟩=some (.slice (some ⟨gp,op,none⟩) n cap)∧X.cell? ⟨gp,op+i * 2,none⟩=some (.int .i64 rN)∧X.cell? ⟨gp,op+i * 2+1,none⟩=some (.int .i64 rG))):=fun X hX=>by
            obtain⟨⟨_,_,_,_,e4⟩,bX⟩:=HC.out X hX;obtain⟨_,_,e0,q0,q1⟩:=HROW.out X bX;cases e0
            exact⟨e4,q0,q1⟩
          obtain⟨d0,d1,d2⟩:=HX.out _ kk;go_upto_region 7 with fail
          clear HR HIN HST HBD HSE HDE HROW HZ HE c0 c1 c2 c3 c4 bq bw;go_region_held3 (fun X=>X.cell? ⟨g,4,none⟩=some (.slice (some ⟨gp,op,none⟩) n cap)∧X.cell? ⟨gp,op+i * 2,none⟩=some (.int .i64 rN)∧X.cell? ⟨gp,op+i * 2+1,none⟩=some (.int .i64 rG))
            (first | exact HX.out _ kk)
            (first
              | (go_at_call 108;first
                |(with_reducible refine(HL1.out _).mono ?_;rintro e wX ⟨rfl,kX⟩;have kk:=kk.trans (kX.mono kk.size);clear kX)
                |(with_reducible refine(HL2.out _).mono ?_;rintro e wX ⟨rfl,kX⟩;have kk:=kk.trans (kX.mono kk.size);clear kX)))
          all_goals
            clear d0 d1 d2
            go_wp2_with fail
            go_roundw
            case rel=>exact⟨i+1,by omega,by go_num,by rw [HB1.out,HS.out],kk⟩
            case measure=>simp [intOf];omega
        · have hge:¬(i:Int) <(n:Int):=by omega
          have hin:i=n:=(by omega);obtain⟨s1,s2,s3⟩:=HSE.out HOK.out;rw [hin] at hge ⊢;obtain⟨hd1,hd2⟩:=HDE.out;obtain⟨BN,hBN⟩:∃ B,BD n=B:=⟨_,rfl⟩;rw [hBN] at s1 hd1 ⊢;have HSEL:=hid (JY (s:=BN) (by omega));rw [←hd1] at HSEL;have HSS:=hid (fun x=>Yc BN x (by omega));have HSH:=hid (fun x=>zh SE x (by omega));rw [←hd2] at HSH;have h128:¬(128:Int) <(TX.size:Int):=(by omega);have HBW:=hid bw;clear hd1 hd2 hBN bq bw s1 s2 hin HSE HDE HBD HIN HST HZ;go_wp2_with (first
            |(go_at_call 107;refine(HSS.out _).mono ?_;rintro e w8 ⟨rfl,k8⟩;rw [HSEL.out])
            |(go_at_call 129;refine(HSH.out _).mono ?_;rintro e w9 ⟨rfl,k9⟩))
          go_ret2
          have bE:=(HBW.out.trans (k8.mono HBW.out.size)).trans (k9.mono (HBW.out.trans (k8.mono HBW.out.size)).size);exact⟨by rw [HE.out];rfl,by first | exact bE |(rw [←HG.out];exact bE)⟩

/- WriteBytes of the model beyond the disk. -/
theorem YU(d:Dk)(v:Value)(se:Nat)(t:ByteArray)(B T:Nat)(w:World)(h:DOwn B T w v d)(hok:d.ok)(hse:¬se < d.sec.length):
    Calls Tryz.prog 109 #[v,.int .i64 (se:Int),.int .i64 0,.string t] w fun e w'=>DiskR d false w e w':=by
  obtain⟨aa,ab,ca,cb,rfl⟩:=h.form;obtain⟨hsm,hts,htu⟩:=Dk.ok_small hok;obtain⟨hx0,hx1,b0,hsz⟩:=zO w #[.slice aa d.sec.length ca,.slice ab d.cache.length cb] #[.slice none 0 0,.slice none 0 0] 27 27;have h':=h.later b0;have hl100:=hok.2.1;have g4:¬((0:Int)≤(se:Int)∧(se:Int)≤(d.sec.length:Int) - 1):=by omega
  go_enter Tryz.func109,Tryz.ntmps109
  go_wp2_with fail
  generalize ((w.alloc (.cells #[.slice aa d.sec.length ca,.slice ab d.cache.length cb] 27)).alloc (.cells #[.slice none 0 0,.slice none 0 0] 27))=W at hx0 hx1 b0 hsz h' ⊢;refine(zE d _ B T _ h' hsm).mono ?_;rintro e w2 ⟨v2,rfl,o2,k2⟩;obtain⟨a1,a2,q1,q2,rfl⟩:=o2.form;have k3:=zb w2 (.cells #[.slice a1 d.sec.length q1,.slice a2 d.cache.length q2] 27);have XO:=Box.new w2 #[.slice a1 d.sec.length q1,.slice a2 d.cache.length q2] 27;have j3:=k2.trans (k3.mono k2.size);have hzW:=b0.size;replace hx0:=hx0.later j3;replace hx1:=hx1.later j3;have o3:=o2.later k3;have b3:=b0.trans (j3.mono b0.size);go_upto_region 2 with fail
  generalize w2.alloc (.cells #[.slice a1 d.sec.length q1,.slice a2 d.cache.length q2] 27)=w3 at hx0 hx1 XO o3 b3 ⊢;clear k3 j3 o2 k2 h' h;generalize w2.heap.size=g2 at XO o3 ⊢;have c0:=hx0.cell 0 (.slice aa d.sec.length ca) rfl;obtain⟨z0,z1⟩:_∧_:=⟨XO.cell 0 _ rfl,XO.cell 1 _ rfl⟩;obtain⟨x0,x1,f0,f1⟩:_∧_∧_∧_:=⟨hx1.cell 0 _ rfl,hx1.cell 1 _ rfl,hx1.loose 0,hx1.loose 1⟩;have rX:=(hx1.set 0 (.slice a1 d.sec.length q1)).set 1 (.slice a2 d.cache.length q2);have HR:Hid (DiskR d false w (.returned (.tuple #[.agg #[.slice a1 d.sec.length q1,.slice a2 d.cache.length q2],.bool false])) ((w3.setCell ⟨w.heap.size+1,0,none⟩ (.slice a1 d.sec.length q1)).setCell ⟨w.heap.size+1,1,none⟩ (.slice a2 d.cache.length q2))):=by
    refine⟨_,rfl,?_,(b3.setCell (p:=⟨w.heap.size+1,0,none⟩) (by simp) _).setCell (p:=⟨w.heap.size+1,1,none⟩) (by simp) _⟩;have:=(((o3.base hzW).boxStore hx1 0 (.slice a1 d.sec.length q1)).boxStore (hx1.set 0 (.slice a1 d.sec.length q1)) 1 (.slice a2 d.cache.length q2)).top;simpa using this
  have q0:=rX.cell 0 (.slice a1 d.sec.length q1) rfl;have q3:=rX.cell 1 (.slice a2 d.cache.length q2) rfl;clear rX o3 hx0 hx1 XO b3;go_wp2_with (first
    |(go_at_call 52;refine(Zo _ _ _ _ (by omega) (by omega)).mono ?_;rintro e w5 ⟨rfl,rfl⟩)
    |(go_at_call 52;refine(Yu _ _ _ _ (by omega)).mono ?_;rintro e w5 ⟨rfl,rfl⟩))
  refine bodyPost_ret (v:=.tuple #[.agg #[.slice a1 d.sec.length q1,.slice a2 d.cache.length q2],.bool false]) (by simp [results,Tryz.results109,go_sem,q0,q3]) rfl ?_;exact HR.out

/- WriteCheck of the model. -/
theorem jl(d:Dk)(v:Value)(c:Ck)(hc:(ckTx c).size≤1000000)(B T:Nat)(w:World)(h:DOwn B T w v d)(hok:d.ok):
    Calls Tryz.prog 109 #[v,.int .i64 (regN c:Int),.int .i64 0,.string (ckTx c)] w fun e w'=>∃(d':Dk) (f:Bool),(f=true→regN c < d.sec.length∧wbL d (regN c) 0 (ckTx c).data.toList=some d')∧(f=false→¬regN c < d.sec.length∨wbL d (regN c) 0 (ckTx c).data.toList=none)∧DiskR d' f w e w':=by
  by_cases hse:regN c < d.sec.length
  · refine(ym d v (regN c) 0 (ckTx c) B T w h hok hse (by omega) hc).mono ?_
    rintro e w' ⟨d',f,_,_,_,h1,_,hr⟩;simp only [Nat.zero_div,Nat.add_zero,Nat.zero_mod] at h1;cases f with
    | false=>exact⟨d',false,(fun e=>by cases e),fun _=>.inr (by simpa using h1),hr⟩
    | true=>exact⟨d',true,fun _=>⟨hse,by simpa using h1⟩,(fun e=>by cases e),hr⟩
  · exact(YU d v (regN c) (ckTx c) B T w h hok hse).mono fun e w' hr=>⟨d,false,(fun e=>by cases e),fun _=>.inl hse,hr⟩
theorem jb (d:Dk) (c:Ck) (v:Value) (a:Option Addr) (cap B T:Nat) (w:World) (h:DOwn B T w v d) (hsm:d.small) (hts:∀ s∈d.sec,s.size≤1099511627776) (htu:∀ x∈d.cache,x.text.size≤1099511627776) (hr:Rows' rfE w (.slice a c.refs.length cap) c.refs) (hl:c.refs.length≤1048576):
    Calls Tryz.prog 85 #[v,.agg #[.int .i64 c.st,.int .i64 c.ng,.int .i64 c.ns,.int .i64 c.nv,.slice a c.refs.length cap]] w fun e w'=>DiskR ((wcO d c).getD d) (wcO d c).isSome w e w':=by
  obtain⟨aa,ab,ca,cb,rfl⟩:=h.form;obtain⟨X0,X1,X2,b0,hsz⟩:=QU w #[.slice aa d.sec.length ca,.slice ab d.cache.length cb] #[.int .i64 c.st,.int .i64 c.ng,.int .i64 c.ns,.int .i64 c.nv,.slice a c.refs.length cap] #[.slice none 0 0,.slice none 0 0] 27 124 27;have h':=h.later b0;have HTX:=hid (ju c a cap _ (hr.later b0) hl);have HOKS:Hid (ckB c=true→(IntKind.i64.wrap (Int.tmod c.st 2)=((c.st % 2).toNat:Int)∧Int.tmod c.st 2=((c.st % 2).toNat:Int))∧IntKind.i64.wrap (4 *((c.st % 2).toNat:Int))=(regN c:Int)∧4 *((c.st % 2).toNat:Int)=(regN c:Int)∧(ckTx c).size≤1000000):=fun hb=>by
    have hok:=qV.1 hb;have hst:1≤c.st:=hok.1.1.1;have e1:Int.tmod c.st 2=c.st % 2:=Int.tmod_eq_emod_of_nonneg (by omega);have:=(jG hok).2.2;refine⟨⟨?_,by rw [e1];omega⟩,?_,by unfold regN;omega,by omega⟩
    · rw [e1,IntWalk.i64_in _ ⟨by omega,by omega⟩];omega
    · rw [IntWalk.i64_in _ ⟨by omega,by omega⟩];unfold regN;omega
  clear h hr hl;obtain⟨O,hO⟩:∃ O,wcO d c=O:=⟨_,rfl⟩;have HO:=hid hO;rw [hO];clear hO;obtain⟨n,hn⟩:∃ n,c.refs.length=n:=⟨_,rfl⟩;rw [hn] at X1 HTX X0 X2 b0 hsz h' ⊢;clear hn;obtain⟨y0,y1,y2,y3,y4⟩:=X1.fiveW;go_enter Tryz.func85,Tryz.ntmps85
  go_wp2_with fail
  clear y0 y1 y2 y3 y4;generalize (((w.alloc (.cells #[.slice aa d.sec.length ca,.slice ab d.cache.length cb] 27)).alloc (.cells #[.int .i64 c.st,.int .i64 c.ng,.int .i64 c.ns,.int .i64 c.nv,.slice a n cap] 124)).alloc (.cells #[.slice none 0 0,.slice none 0 0] 27))=W at X0 X1 X2 b0 hsz h' HTX ⊢;refine HTX.out.mono ?_;rintro e w1 ⟨rfl,k1⟩;clear HTX;replace X0:=X0.later k1;replace X1:=X1.later k1;replace X2:=X2.later k1;replace h':=h'.later k1;have b1:=b0.trans (k1.mono b0.size);clear b0 hsz k1;have HCOPY:Hid (∀(x:World),Below w1.heap.size w1 x→Box x w.heap.size #[.slice aa d.sec.length ca,.slice ab d.cache.length cb] 27∧Box x (w.heap.size+2) #[.slice none 0 0,.slice none 0 0] 27∧Box x (w.heap.size+1) #[.int .i64 c.st,.int .i64 c.ng,.int .i64 c.ns,.int .i64 c.nv,.slice a n cap] 124∧DOwn B T x (.agg #[.slice aa d.sec.length ca,.slice ab d.cache.length cb]) d∧Below w.heap.size w x):=fun x hx=>⟨X0.later hx,X2.later hx,X1.later hx,h'.later hx,b1.trans (hx.mono b1.size)⟩;have HEND:Hid (∀(E:Dk) (f:Bool) (p1 p2:Option Addr) (r1 r2 C:Nat) (x:World),w.heap.size≤C→Box x (w.heap.size+2) #[.slice none 0 0,.slice none 0 0] 27→Below w.heap.size w x→DOwn C x.heap.size x (.agg #[.slice p1 E.sec.length r1,.slice p2 E.cache.length r2]) E→DiskR E f w (.returned (.tuple #[.agg #[.slice p1 E.sec.length r1,.slice p2 E.cache.length r2],.bool f])) ((x.setCell ⟨w.heap.size+2,0,none⟩ (.slice p1 E.sec.length r1)).setCell ⟨w.heap.size+2,1,none⟩ (.slice p2 E.cache.length r2))):=by
    intro E f p1 p2 r1 r2 C x hC xX bX oX;refine⟨_,rfl,?_,(bX.setCell (p:=⟨w.heap.size+2,0,none⟩) (by simp) _).setCell (p:=⟨w.heap.size+2,1,none⟩) (by simp) _⟩;have:=((oX.base hC).boxStore xX 0 (.slice p1 E.sec.length r1)).boxStore (xX.set 0 (.slice p1 E.sec.length r1)) 1 (.slice p2 E.cache.length r2);simpa using this
  cases hcb:ckB c with
  | false=>
    have HOO:Hid (O=none):=HO.out.symm.trans (zah (d:=d) hcb);rw [za1 hcb];clear hcb HOKS X1;obtain⟨m0,m1⟩:_∧_:=⟨X0.cell 0 _ rfl,X0.cell 1 _ rfl⟩;clear X0 X2;go_wp2_with fail
    clear m0 m1;refine(zE d _ B T _ h' hsm).mono ?_;rintro e wX ⟨vX,rfl,oX,kX⟩;obtain⟨p1,p2,r1,r2,rfl⟩:=oX.form;obtain⟨_,xX,_,_,bX⟩:=HCOPY.out _ kX;obtain⟨x0,x1,f0,f1⟩:_∧_∧_∧_:=⟨xX.cell 0 _ rfl,xX.cell 1 _ rfl,xX.loose 0,xX.loose 1⟩;have rX:=(xX.set 0 (.slice p1 d.sec.length r1)).set 1 (.slice p2 d.cache.length r2);have HR:=hid (HEND.out d false p1 p2 r1 r2 _ wX b1.size xX bX oX);have q0:=rX.cell 0 (.slice p1 d.sec.length r1) rfl;have q1:=rX.cell 1 (.slice p2 d.cache.length r2) rfl;clear rX oX kX xX h' HEND HCOPY bX;go_wp2;refine bodyPost_ret (v:=.tuple #[.agg #[.slice p1 d.sec.length r1,.slice p2 d.cache.length r2],.bool false]) (by simp [results,Tryz.results85,go_sem,q0,q1]) rfl ?_;rw [HOO.out];exact HR.out
  | true=>
    rw [Xy hcb];obtain⟨⟨hm1,hm2⟩,hm3,hm4,hcz⟩:=HOKS.out hcb;have HCB:=hid hcb;have HDO:=hid (Zm d _ _ h'.rd hsm hts htu);obtain⟨m0,m1⟩:_∧_:=⟨X0.cell 0 _ rfl,X0.cell 1 _ rfl⟩;clear X0 X1 X2 hcb HOKS;by_cases hok:d.ok
    case neg=>
      have HOO:Hid (O=none):=HO.out.symm.trans (zcc (c:=c) hok);rw [decide_eq_false hok] at HDO;clear hok;go_wp2_with fail
      clear m0 m1;refine HDO.out.mono ?_;rintro e w2 ⟨rfl,k2⟩;clear HDO;obtain⟨X0,_,_,h2,b2⟩:=HCOPY.out _ k2;obtain⟨m0,m1⟩:_∧_:=⟨X0.cell 0 _ rfl,X0.cell 1 _ rfl⟩;clear X0;go_wp2_with fail
      clear m0 m1;refine(zE d _ B T _ h2 hsm).mono ?_;rintro e wX ⟨vX,rfl,oX,kX⟩;obtain⟨p1,p2,r1,r2,rfl⟩:=oX.form;obtain⟨_,xX,_,_,bX⟩:=HCOPY.out _ (k2.trans (kX.mono k2.size));obtain⟨x0,x1,f0,f1⟩:_∧_∧_∧_:=⟨xX.cell 0 _ rfl,xX.cell 1 _ rfl,xX.loose 0,xX.loose 1⟩;have rX:=(xX.set 0 (.slice p1 d.sec.length r1)).set 1 (.slice p2 d.cache.length r2);have HR:=hid (HEND.out d false p1 p2 r1 r2 _ wX b2.size xX bX oX);have q0:=rX.cell 0 (.slice p1 d.sec.length r1) rfl;have q1:=rX.cell 1 (.slice p2 d.cache.length r2) rfl;clear rX oX kX xX h' HEND HCOPY bX h2;go_wp2;refine bodyPost_ret (v:=.tuple #[.agg #[.slice p1 d.sec.length r1,.slice p2 d.cache.length r2],.bool false]) (by simp [results,Tryz.results85,go_sem,q0,q1]) rfl ?_;rw [HOO.out];exact HR.out
    rw [decide_eq_true hok] at HDO;have HWB:=hid (fun(x:World) (hx:DOwn B T x (.agg #[.slice aa d.sec.length ca,.slice ab d.cache.length cb]) d)=>jl d _ c hcz B T x hx hok);obtain⟨tx,htx⟩:∃ tx,ckTx c=tx:=⟨_,rfl⟩;have HTX:=hid htx;obtain⟨rN,hrN⟩:∃ rN,regN c=rN:=⟨_,rfl⟩;have HRN:=hid hrN;obtain⟨st,hst⟩:∃ st,c.st=st:=⟨_,rfl⟩;rw [htx,hrN] at HWB;rw [hrN] at hm3 hm4;rw [hst] at HCOPY hm1 hm2 hm3 hm4;rw [htx];generalize (((st % 2).toNat:Nat):Int)=rgi at hm1 hm2 hm3 hm4;have hrb:rN≤4:=by rw [←HRN.out];unfold regN;omega
    have hm5:wrap64 (rN:Int)=(rN:Int):=by unfold wrap64;omega
    clear hrb;have HOK:=hid hok;clear htx hrN hst hcz hok;go_wp2_with fail
    clear m0 m1;refine HDO.out.mono ?_;rintro e w2 ⟨rfl,k2⟩;clear HDO;obtain⟨X0,_,X1,h2,b2⟩:=HCOPY.out _ k2;obtain⟨m0,m1⟩:_∧_:=⟨X0.cell 0 _ rfl,X0.cell 1 _ rfl⟩;have y0:=X1.cell 0 _ rfl;clear X0 X1;go_wp2_with fail
    clear m0 m1 y0;refine(HWB.out _ h2).mono ?_;rintro e w3 ⟨D,F,hF1,hF2,v3,rfl,o3,k3⟩;obtain⟨e1,e2,e3,e4,rfl⟩:=o3.form;have k4:=zb w3 (.cells #[.slice e1 D.sec.length e3,.slice e2 D.cache.length e4] 27);have XO:=Box.new w3 #[.slice e1 D.sec.length e3,.slice e2 D.cache.length e4] 27;have k23:=k2.trans (k3.mono k2.size);have j4:=k23.trans (k4.mono k23.size);have o4:=o3.later k4;clear HWB k3 k4 o3 h2 hm1 hm2 hm3 hm4 hm5 k23;cases F with
    | false=>
      have HB:wcO d c=none:=by
        rcases hF2 rfl with hx | hx
        · exact Xz (by rw [HRN.out];exact hx)
        · exact Qy (by rw [HRN.out,HTX.out];exact hx)
      have HOO:Hid (O=none):=HO.out.symm.trans HB;clear HB hF1 hF2 XO o4;obtain⟨X0,_,_,h2,b4⟩:=HCOPY.out _ j4;obtain⟨m0,m1⟩:_∧_:=⟨X0.cell 0 _ rfl,X0.cell 1 _ rfl⟩;clear X0;go_upto_region 5 with fail
      generalize w3.alloc (.cells #[.slice e1 D.sec.length e3,.slice e2 D.cache.length e4] 27)=w4 at j4 h2 b4 m0 m1 ⊢;go_wp2_with fail
      clear m0 m1;refine(zE d _ B T _ h2 hsm).mono ?_;rintro e wX ⟨vX,rfl,oX,kX⟩;obtain⟨p1,p2,r1,r2,rfl⟩:=oX.form;obtain⟨_,xX,_,_,bX⟩:=HCOPY.out _ (j4.trans (kX.mono j4.size));obtain⟨x0,x1,f0,f1⟩:_∧_∧_∧_:=⟨xX.cell 0 _ rfl,xX.cell 1 _ rfl,xX.loose 0,xX.loose 1⟩;have rX:=(xX.set 0 (.slice p1 d.sec.length r1)).set 1 (.slice p2 d.cache.length r2);have HR:=hid (HEND.out d false p1 p2 r1 r2 _ wX b4.size xX bX oX);have q0:=rX.cell 0 (.slice p1 d.sec.length r1) rfl;have q1:=rX.cell 1 (.slice p2 d.cache.length r2) rfl;clear rX oX kX xX h' HEND HCOPY bX h2;go_wp2;refine bodyPost_ret (v:=.tuple #[.agg #[.slice p1 d.sec.length r1,.slice p2 d.cache.length r2],.bool false]) (by simp [results,Tryz.results85,go_sem,q0,q1]) rfl ?_;rw [HOO.out];exact HR.out
    | true=>
      obtain⟨hlt,hwb⟩:=hF1 rfl;have HDS:wcO d c=some (flD D):=Vw HCB.out (by rw [HRN.out];exact hlt) (by rw [HRN.out,HTX.out];exact hwb);have HOO:Hid (O=some (flD D)):=HO.out.symm.trans HDS;have hDok:=(vq _ _ (Nat.le_refl _) d D _ _ (by omega) HOK.out hwb).1;obtain⟨hsD,htD,huD⟩:=Dk.ok_small hDok;have HFL:=hid (ZK D _ _ _ _ o4 hsD htD huD);obtain⟨z0,z1⟩:_∧_:=⟨XO.cell 0 _ rfl,XO.cell 1 _ rfl⟩;obtain⟨_,_,_,_,b4⟩:=HCOPY.out _ j4;clear hF1 hF2 hwb hlt hDok hsD htD huD o4 XO HDS;generalize flD D=E at HFL HOO;go_upto_region 5 with fail
      generalize w3.alloc (.cells #[.slice e1 D.sec.length e3,.slice e2 D.cache.length e4] 27)=w4 at j4 HFL b4 z0 z1 ⊢;generalize w3.heap.size=g3 at z0 z1 ⊢;go_wp2_with fail
      clear z0 z1;refine HFL.out.mono ?_;rintro e wX ⟨vX,rfl,oX,kX⟩;obtain⟨p1,p2,r1,r2,rfl⟩:=oX.form;obtain⟨_,xX,_,_,bX⟩:=HCOPY.out _ (j4.trans (kX.mono j4.size));obtain⟨x0,x1,f0,f1⟩:_∧_∧_∧_:=⟨xX.cell 0 _ rfl,xX.cell 1 _ rfl,xX.loose 0,xX.loose 1⟩;have rX:=(xX.set 0 (.slice p1 E.sec.length r1)).set 1 (.slice p2 E.cache.length r2);have HR:=hid (HEND.out E true p1 p2 r1 r2 _ wX b4.size xX bX oX);have q0:=rX.cell 0 (.slice p1 E.sec.length r1) rfl;have q1:=rX.cell 1 (.slice p2 E.cache.length r2) rfl;clear rX oX kX xX h' HEND HCOPY bX;go_wp2;refine bodyPost_ret (v:=.tuple #[.agg #[.slice p1 E.sec.length r1,.slice p2 E.cache.length r2],.bool true]) (by simp [results,Tryz.results85,go_sem,q0,q1]) rfl ?_;rw [HOO.out];exact HR.out
end Go.Proofs.YtklkhllkjnbhjaaGreatDoor
