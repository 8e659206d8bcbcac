/- Texts of our own, joined. -/
import Derived.Test.YtklkhllkjnbhjaaGreatDoorJo
/- WriteBytes of the model, of a right disk: what is made is wbL. -/
namespace Go.Proofs.YtklkhllkjnbhjaaGreatDoor
open Go.RowKit
open Lib (hid)
set_option maxRecDepth 100000
set_option maxHeartbeats 8000000
theorem zbK{d:Dk}{a:Int}{t:ByteArray}(h:rdT d a=.tuple #[.string t,.bool true]):rdO d a=some t:=by
  unfold rdT at h;unfold rdO
  split at h
  · rename_i hin
    rw [if_pos hin];simp only [Value.tuple.injEq,Array.mk.injEq,List.cons.injEq,Value.string.injEq,and_true] at h;rw [h]
  · simp at h
theorem ym (d : Dk) (v:Value) (se A:Nat) (t:ByteArray) (B T:Nat) (w:World) (h:DOwn B T w v d) (hok:d.ok) (hse:se < d.sec.length) (hA:A≤3200) (htz:t.size≤1000000):
    Calls Tryz.prog 109 #[v,.int .i64 (se:Int),.int .i64 (A:Int),.string t] w fun e w'=>∃(d':Dk) (f:Bool),d'.ok∧d'.sec.length=d.sec.length∧d'.cache.length≤d.cache.length+(t.size+62) / 32∧wbL d (se+A / 32) (A % 32) t.data.toList=(if f=true then some d' else none)∧(f=false→d'=d)∧DiskR d' f w e w':=by
  obtain⟨aa,ab,ca,cb,rfl⟩:=h.form;obtain⟨hsm,hts,htu⟩:=Dk.ok_small hok;obtain⟨hx0,hx1,b0,hsz⟩:=zO w #[.slice aa d.sec.length ca,.slice ab d.cache.length cb] #[.slice none 0 0,.slice none 0 0] 27 27;have h':=h.later b0;have hl100:=hok.2.1;go_enter Tryz.func109,Tryz.ntmps109
  go_wp2_with fail
  generalize ((w.alloc (.cells #[.slice aa d.sec.length ca,.slice ab d.cache.length cb] 27)).alloc (.cells #[.slice none 0 0,.slice none 0 0] 27))=W at hx0 hx1 b0 hsz h' ⊢;refine(zE d _ B T _ h' hsm).mono ?_;rintro e w2 ⟨v2,rfl,o2,k2⟩;obtain⟨a1,a2,q1,q2,rfl⟩:=o2.form;have k3:Below w2.heap.size w2 (w2.alloc (.cells #[.slice a1 d.sec.length q1,.slice a2 d.cache.length q2] 27)):=(Below.refl _ _).alloc (Nat.le_refl _) _;have j3:=k2.trans (k3.mono k2.size);have hz2:=k2.size;have I3:WbI w (.slice aa d.sec.length ca) (.slice ab d.cache.length cb) w2.heap.size (.slice a1 d.sec.length q1) (.slice a2 d.cache.length q2) d d B T (w2.alloc (.cells #[.slice a1 d.sec.length q1,.slice a2 d.cache.length q2] 27)):=
    ⟨b0.trans (j3.mono b0.size),hx0.later j3,hx1.later j3,Box.new w2 _ _,((o2.later k3).base (by omega)).top,h'.later j3,by omega⟩
  go_upto_region 2 with fail
  generalize w2.alloc (.cells #[.slice a1 d.sec.length q1,.slice a2 d.cache.length q2] 27)=w3 at I3 ⊢;clear hx0 hx1 b0 h' h k3 j3 o2;have c0:=I3.inn.cell 0 (.slice aa d.sec.length ca) rfl;have c1:=I3.inn.cell 1 (.slice ab d.cache.length cb) rfl;have g1:((0:Int)≤(A:Int))∧(A:Int)≤3200:=by omega
  go_wp2_with (first |(go_at_call 52;refine(Zo _ _ _ _ (by omega) (by omega)).mono ?_;rintro e w5 ⟨rfl,rfl⟩))
  refine(Zm d _ _ I3.was.rd hsm hts htu).mono ?_;rintro e w4 ⟨rfl,k4⟩;rw [decide_eq_true hok];have I4:=I3.later k4;clear I3 k4 c0 c1 g1;go_wp2;go_loopw [11] (fun iv wr=>∃(i:Nat) (d':Dk) (va vb:Value),i≤t.size∧iv=.int .i64 (i:Int)∧d'.ok∧d'.sec.length=d.sec.length∧WbQ A i t.size d d'∧Hid (wbL d (se+A / 32) (A % 32) t.data.toList=wbL d' (se+(A+i) / 32) ((A+i) % 32) (t.data.toList.drop i))∧WbI w (.slice aa d.sec.length ca) (.slice ab d.cache.length cb) w2.heap.size va vb d d' B T wr) (fun iv _=>t.size -(intOf iv).toNat)
  case atStart=>exact⟨0,d,_,_,by omega,rfl,hok,rfl,.inl ⟨rfl,rfl⟩,rfl,I4⟩
  case round=>
    clear I4;obtain⟨i,d',va,vb,hi,rfl,hok',hlen0,hq0,HWB,I⟩:=hrel;have hlen:=hid hlen0;have HQ:=hid hq0;clear hlen0 hq0;obtain⟨a5,a6,c5,c6,hv5⟩:=I.dsk.form;simp only [Value.agg.injEq,Array.mk.injEq,List.cons.injEq,and_true] at hv5;obtain⟨rfl,rfl⟩:=hv5;obtain⟨hsm',hts',htu'⟩:=Dk.ok_small hok';have m0:=I.out.cell 0 (.slice a5 d'.sec.length c5) rfl;have m1:=I.out.cell 1 (.slice a6 d'.cache.length c6) rfl;by_cases hlt:i < t.size
    · have hlt' :(i:Int) <(t.size:Int):=by omega
      obtain⟨fr,hfr⟩:∃ fr:Nat,((A:Int) +(i:Int)) % 32=(fr:Int):=Int.eq_ofNat_of_zero_le (by omega);obtain⟨kq,hkq⟩:∃ q:Nat,(se:Int) +((A:Int) +(i:Int)) / 32=(q:Int):=Int.eq_ofNat_of_zero_le (by omega);have hfr32:fr < 32:=(by omega);have HFR:=hid hfr;have HKQ:=hid hkq;clear hfr hkq;go_upto_region 11 with fail
      · obtain ⟨n,hnn,hn0,hn1,hn2,hnx⟩:∃ n:Nat,(t.size:Int) -(i:Int)=(n:Int)∧0 < n∧fr+n≤32∧i+n≤t.size∧Hid (n=min (32 - fr) (t.size - i)):=⟨t.size - i,by omega,by omega,by have:=HFR.out;omega,by omega,by show _=_;have:=HFR.out;omega⟩
        have hend:Hid ((A+(i+n)) % 32=0∨i+n=t.size):=.inr (by omega);rw [HKQ.out,HFR.out,hnn];clear hnn;go_wp2_with fail
        refine(Ze d' _ (kq:Int) _ I.dsk.rd hsm').mono ?_;rintro e w5 ⟨rfl,k5⟩;have IK:=I.later k5;clear m0 m1 k5 I;rcases zaY hok' (kq:Int) with⟨hbey,hr⟩ |⟨ws,hw32,hin,hr⟩
        · rw [hr]
          clear hr;have HNN:Hid (wbL d (se+A / 32) (A % 32) t.data.toList=none):=by
            show _=_
            rw [HWB.out];exact qc hlt (fun hc=>hbey ⟨by omega,by have:=HKQ.out;omega⟩)
          clear hbey;have c0:=IK.inn.cell 0 (.slice aa d.sec.length ca) rfl;have c1:=IK.inn.cell 1 (.slice ab d.cache.length cb) rfl;go_wp2_with fail
          refine(zE d _ B T _ IK.was hsm).mono ?_;rintro e wX ⟨vX,rfl,oX,kX⟩;obtain⟨p1,p2,r1,r2,rfl⟩:=oX.form;have IX:=IK.later kX;have x0:=IX.res.cell 0 (.slice none 0 0) rfl;have x1:=IX.res.cell 1 (.slice none 0 0) rfl;have f0:=IX.res.loose 0;have f1:=IX.res.loose 1;have rX:=(IX.res.set 0 (.slice p1 d.sec.length r1)).set 1 (.slice p2 d.cache.length r2);have HR:Hid (DiskR d false w (.returned (.tuple #[.agg #[.slice p1 d.sec.length r1,.slice p2 d.cache.length r2],.bool false])) ((wX.setCell ⟨w.heap.size+1,0,none⟩ (.slice p1 d.sec.length r1)).setCell ⟨w.heap.size+1,1,none⟩ (.slice p2 d.cache.length r2))):=by
            refine⟨_,rfl,?_,(IX.bel.setCell (p:=⟨w.heap.size+1,0,none⟩) (by simp) _).setCell (p:=⟨w.heap.size+1,1,none⟩) (by simp) _⟩;have:=((oX.base (IK.bel.size)).boxStore IX.res 0 (.slice p1 d.sec.length r1)).boxStore (IX.res.set 0 (.slice p1 d.sec.length r1)) 1 (.slice p2 d.cache.length r2);simpa using this
          have q0:=rX.cell 0 (.slice p1 d.sec.length r1) rfl;have q1:=rX.cell 1 (.slice p2 d.cache.length r2) rfl;clear IK IX rX oX kX c0 c1;go_wp2;refine bodyPost_ret (v:=.tuple #[.agg #[.slice p1 d.sec.length r1,.slice p2 d.cache.length r2],.bool false]) (by simp [results,Tryz.results109,go_sem,q0,q1]) rfl ?_;exact⟨d,false,hok,rfl,by omega,HNN.out,fun _=>rfl,HR.out⟩
        · have HRO:=hid (zbK hr)
          rw [hr];clear hr;have hws2:((ws.size:Int) !=32)=false:=(by rw [hw32];rfl);have hlt5:w2.heap.size < w5.heap.size:=IK.out.lt;have hw5le:w.heap.size≤w5.heap.size:=IK.bel.size;go_upto_region 14 with fail
          have b1:(fr:Int)≤(ws.size:Int):=(by omega);have sl1:∀ wx,(Instr.slice 9 (.string ws) none (some (.int .i64 (fr:Int))) none).run Tryz.prog wx=.ok (.string (ws.extract 0 fr)) wx:=fun wx=>by
            have:=run_slice_string_to_if (P:=Tryz.prog) (w:=wx) 9 ws .i64 (fr:Int) Tryz.underlying9;rw [this];simp;omega
          have sl2:∀ wx,(Instr.slice 9 (.string t) (some (.int .i64 (i:Int))) (some (.int .i64 ((i:Int) +(n:Int)))) none).run Tryz.prog wx=.ok (.string (t.extract i (i+n))) wx:=fun wx=>by
            have:=run_slice_string (P:=Tryz.prog) (w:=wx) 9 t .i64 .i64 (i:Int) ((i:Int) +(n:Int)) Tryz.underlying9 (by omega) (by omega) (by omega);rw [this];congr 3
          have sl3:∀ wx,(Instr.slice 9 (.string ws) (some (.int .i64 ((fr:Int) +(n:Int)))) none none).run Tryz.prog wx=.ok (.string (ws.extract (fr+n) ws.size)) wx:=fun wx=>by
            have:=run_slice_string_from_if (P:=Tryz.prog) (w:=wx) 9 ws .i64 ((fr:Int) +(n:Int)) Tryz.underlying9;rw [this,if_pos ⟨by omega,by omega⟩];congr 3
          have z1:(ws.extract 0 fr).size=fr:=(by rw [ByteArray.size_extract];omega);have z2:(t.extract i (i+n)).size=n:=(by rw [ByteArray.size_extract];omega);have z3:(ws.extract (fr+n) ws.size).size=32 -(fr+n):=(by rw [ByteArray.size_extract];omega);generalize hA1:ws.extract 0 fr=A1 at sl1 z1;generalize hA2:t.extract i (i+n)=A2 at sl2 z2;generalize hA3:ws.extract (fr+n) ws.size=A3 at sl3 z3;have ad1:=fun(wx:World)=>run_string_add_sum (P:=Tryz.prog) (w:=wx) A1 A2 (by omega);have ad2:=fun(wx:World)=>run_string_add_sum (P:=Tryz.prog) (w:=wx) (A1++A2) A3 (by rw [ByteArray.size_append];omega);have hw1:IntKind.i64.wrap ((i:Int) +(n:Int))=(i:Int) +(n:Int):=IntWalk.i64_in _ ⟨by omega,by omega⟩;have hw2:IntKind.i64.wrap ((fr:Int) +(n:Int))=(fr:Int) +(n:Int):=IntWalk.i64_in _ ⟨by omega,by omega⟩;have hsz:(A1++A2++A3).size=32:=(by simp only [ByteArray.size_append];omega);generalize hSq:A1++A2++A3=S at ad2 hsz;have HSq:Hid (S=ws.extract 0 fr++t.extract i (i+n) ++ws.extract (fr+n) ws.size):=(by show _=_;rw [hA1,hA2,hA3,hSq]);clear hA1 hA2 hA3 hSq;obtain⟨D,hD⟩:∃ D,wrD d' (kq:Int) S=D:=⟨_,rfl⟩;obtain⟨F,hF⟩:∃ F,decide (wrOk d' (kq:Int) S)=F:=⟨_,rfl⟩;have hDok:(D.ok∧D.sec.length=d'.sec.length)∧D.cache.length≤d'.cache.length+1:=(by rw [←hD];exact⟨xP hok' _ _,Q0 _ _ _⟩);have HDF:Hid (wrD d' (kq:Int) S=D∧decide (wrOk d' (kq:Int) S)=F):=⟨hD,hF⟩;have HDok:=hid hDok;clear hD hF hDok;go_cut [17,18] from 80 to 101 (fun p f wx=>∃(g:Nat) (e1 e2:Option Addr) (e3 e4:Nat),p=.pointer (some ⟨g,0,none⟩)∧f=.bool F∧w5.heap.size≤g∧Box wx g #[.slice e1 D.sec.length e3,.slice e2 D.cache.length e4] 27∧DOwn w5.heap.size wx.heap.size wx (.agg #[.slice e1 D.sec.length e3,.slice e2 D.cache.length e4]) D∧Below w5.heap.size w5 wx)
          case first=>
            have m0:=IK.out.cell 0 (.slice a5 d'.sec.length c5) rfl;have m1:=IK.out.cell 1 (.slice a6 d'.cache.length c6) rfl;have HS:Hid (∀ x:World,(x.cell? ⟨w2.heap.size,0,none⟩=some (.slice a5 d'.sec.length c5)∧x.cell? ⟨w2.heap.size,1,none⟩=some (.slice a6 d'.cache.length c6)∧Below w5.heap.size w5 x)→DOwn w.heap.size w5.heap.size x (.agg #[.slice a5 d'.sec.length c5,.slice a6 d'.cache.length c6]) d'):=fun x hx=>IK.dsk.later hx.2.2;have HK0:Hid (w5.drew.cell? ⟨w2.heap.size,0,none⟩=some (.slice a5 d'.sec.length c5)∧w5.drew.cell? ⟨w2.heap.size,1,none⟩=some (.slice a6 d'.cache.length c6)∧Below w5.heap.size w5 w5.drew):=⟨m0,m1,(Below.refl _ _).drew⟩;have hlt2:w2.heap.size < w5.heap.size:=IK.out.lt;have HB0:Hid (Box (w5.alloc (.cells #[.slice none 0 0,.slice none 0 0] 27)).drew w5.heap.size #[.slice none 0 0,.slice none 0 0] 27):=Box.new w5 _ _;clear IK hlt' m0 m1;go_region_held3 (fun x=>x.cell? ⟨w2.heap.size,0,none⟩=some (.slice a5 d'.sec.length c5)∧x.cell? ⟨w2.heap.size,1,none⟩=some (.slice a6 d'.cache.length c6)∧Below w5.heap.size w5 x)
              (first | exact HK0.out | exact ZC (by assumption) (zp _ _) | exact ZC (by assumption) kS | exact ZC hSS.out (zp _ _) | exact ja hlt2 (Nat.le_refl _) (by assumption) | exact ja hlt2 tS (by assumption))
              (first
                |(go_at_call 70;refine(Z0 d' _ (kq:Int) S w.heap.size w5.heap.size _ (HS.out _ (by assumption)) hsm' hts' htu' (by omega)).mono ?_;rintro e wS ⟨vS,rfl,oS,kS⟩;rw [HDF.out.1] at oS;rw [HDF.out.2];have hSS:=hid (ZC (by assumption) kS);have tS:w5.heap.size≤wS.heap.size:=hSS.out.2.2.size;obtain⟨e1,e2,e3,e4,rfl⟩:=oS.form;(first |(have bx:Box wS w5.heap.size #[.slice none 0 0,.slice none 0 0] 27:=HB0.out.later kS;have x0:=bx.cell 0 _ rfl;have x1:=bx.cell 1 _ rfl;have f0:=bx.loose 0;have f1:=bx.loose 1) | skip)))
            all_goals
              go_wp2_with fail
              go_meet
              first
                | exact⟨_,e1,e2,e3,e4,rfl,rfl,tS,Box.new wS _ _,((oS.later (zp _ _)).base (Nat.le_refl _)).top,hSS.out.2.2.alloc tS _⟩
                | exact⟨_,e1,e2,e3,e4,rfl,rfl,Nat.le_refl _,(bx.set 0 _).set 1 _,(((oS.base (by simp)).boxStore bx 0 _).boxStore (bx.set 0 _) 1 _).top,(hSS.out.2.2.setCell (p:=⟨w5.heap.size,0,none⟩) (Nat.le_refl _) _).setCell (p:=⟨w5.heap.size,1,none⟩) (Nat.le_refl _) _⟩
          case rest=>
            obtain⟨g,e1,e2,e3,e4,rfl,rfl,hgle,bxc,oD,kD⟩:=hcut;have IK5:=IK.later kD;clear IK;have IK:=IK5;clear IK5;have hz5:=IK.bel.size;cases F with
            | false=>
            have HNN:Hid (wbL d (se+A / 32) (A % 32) t.data.toList=none):=by
              show _=_
              rw [HWB.out];exact VB HRO.out hw32 (by have:=HKQ.out;omega) (by have:=HFR.out;omega) hnx.out hlt HSq.out (of_decide_eq_false HDF.out.2)
            have c0:=IK.inn.cell 0 (.slice aa d.sec.length ca) rfl;have c1:=IK.inn.cell 1 (.slice ab d.cache.length cb) rfl;go_wp2_with fail
            refine(zE d _ B T _ IK.was hsm).mono ?_;rintro e wX ⟨vX,rfl,oX,kX⟩;obtain⟨p1,p2,r1,r2,rfl⟩:=oX.form;have IX:=IK.later kX;have x0:=IX.res.cell 0 (.slice none 0 0) rfl;have x1:=IX.res.cell 1 (.slice none 0 0) rfl;have f0:=IX.res.loose 0;have f1:=IX.res.loose 1;have rX:=(IX.res.set 0 (.slice p1 d.sec.length r1)).set 1 (.slice p2 d.cache.length r2);have HR:Hid (DiskR d false w (.returned (.tuple #[.agg #[.slice p1 d.sec.length r1,.slice p2 d.cache.length r2],.bool false])) ((wX.setCell ⟨w.heap.size+1,0,none⟩ (.slice p1 d.sec.length r1)).setCell ⟨w.heap.size+1,1,none⟩ (.slice p2 d.cache.length r2))):=by
              refine⟨_,rfl,?_,(IX.bel.setCell (p:=⟨w.heap.size+1,0,none⟩) (by simp) _).setCell (p:=⟨w.heap.size+1,1,none⟩) (by simp) _⟩;have:=((oX.base (IK.bel.size)).boxStore IX.res 0 (.slice p1 d.sec.length r1)).boxStore (IX.res.set 0 (.slice p1 d.sec.length r1)) 1 (.slice p2 d.cache.length r2);simpa using this
            have q0:=rX.cell 0 (.slice p1 d.sec.length r1) rfl;have q1:=rX.cell 1 (.slice p2 d.cache.length r2) rfl;clear IK IX rX oX kX c0 c1 bxc oD;go_wp2;refine bodyPost_ret (v:=.tuple #[.agg #[.slice p1 d.sec.length r1,.slice p2 d.cache.length r2],.bool false]) (by simp [results,Tryz.results109,go_sem,q0,q1]) rfl ?_;exact⟨d,false,hok,rfl,by omega,HNN.out,fun _=>rfl,HR.out⟩
            | true=>
              have HWN:Hid (wbL d (se+A / 32) (A % 32) t.data.toList=wbL D (se+(A+(i+n)) / 32) ((A+(i+n)) % 32) (t.data.toList.drop (i+n))):=by
                show _=_
                rw [HWB.out,←HDF.out.1];exact QN HRO.out hw32 (by have:=HKQ.out;omega) (by have:=HFR.out;omega) hnx.out hlt HSq.out (of_decide_eq_true HDF.out.2)
              have hout:=IK.out;have hblt:=IK.lt;have hbg:w2.heap.size≠g:=by
                intro e;have h1:=hlt5;omega
              have x0:=bxc.cell 0 (.slice e1 D.sec.length e3) rfl;have x1:=bxc.cell 1 (.slice e2 D.cache.length e4) rfl;have y0:=hout.cell 0 (.slice a5 d'.sec.length c5) rfl;have y1:=hout.cell 1 (.slice a6 d'.cache.length c6) rfl;have f0:=hout.loose 0;have f1:=hout.loose 1;have IN:Hid (WbI w (.slice aa d.sec.length ca) (.slice ab d.cache.length cb) w2.heap.size (.slice e1 D.sec.length e3) (.slice e2 D.cache.length e4) d D B T ((wc.setCell ⟨w2.heap.size,0,none⟩ (.slice e1 D.sec.length e3)).setCell ⟨w2.heap.size,1,none⟩ (.slice e2 D.cache.length e4))):=by
                have o1:=hout.set 0 (.slice e1 D.sec.length e3);refine⟨(IK.bel.setCell (p:=⟨w2.heap.size,0,none⟩) (by show w.heap.size≤w2.heap.size;omega) _).setCell (p:=⟨w2.heap.size,1,none⟩) (by show w.heap.size≤w2.heap.size;omega) _,(IK.inn.other (by omega) _ _).other (by omega) _ _,(IK.res.other (by omega) _ _).other (by omega) _ _,o1.set 1 _,?_,(IK.was.boxStore hout 0 _).boxStore o1 1 _,hblt⟩;have:=(((oD.base hw5le).boxStore hout 0 (.slice e1 D.sec.length e3)).boxStore o1 1 (.slice e2 D.cache.length e4)).top;exact this
              clear IK hout bxc oD kD;go_wp2;go_roundw
              case rel=>exact⟨i+n,D,_,_,by omega,by go_num,HDok.out.1.1,HDok.out.1.2.trans hlen.out,HQ.out.next hlt hn0 (by have:=HFR.out;omega) hend.out HDok.out.2,HWN,IN.out⟩
              case measure=>simp [intOf];omega
      · obtain ⟨n,hnn,hn0,hn1,hn2,hnx⟩:∃ n:Nat,32 -(fr:Int)=(n:Int)∧0 < n∧fr+n≤32∧i+n≤t.size∧Hid (n=min (32 - fr) (t.size - i)):=⟨32 - fr,by omega,by omega,by omega,by have:=HFR.out;omega,by show _=_;have:=HFR.out;omega⟩
        have hend:Hid ((A+(i+n)) % 32=0∨i+n=t.size):=.inl (by have:=HFR.out;omega);rw [HKQ.out,HFR.out,hnn];clear hnn;go_wp2_with fail
        refine(Ze d' _ (kq:Int) _ I.dsk.rd hsm').mono ?_;rintro e w5 ⟨rfl,k5⟩;have IK:=I.later k5;clear m0 m1 k5 I;rcases zaY hok' (kq:Int) with⟨hbey,hr⟩ |⟨ws,hw32,hin,hr⟩
        · rw [hr]
          clear hr;have HNN:Hid (wbL d (se+A / 32) (A % 32) t.data.toList=none):=by
            show _=_
            rw [HWB.out];exact qc hlt (fun hc=>hbey ⟨by omega,by have:=HKQ.out;omega⟩)
          clear hbey;have c0:=IK.inn.cell 0 (.slice aa d.sec.length ca) rfl;have c1:=IK.inn.cell 1 (.slice ab d.cache.length cb) rfl;go_wp2_with fail
          refine(zE d _ B T _ IK.was hsm).mono ?_;rintro e wX ⟨vX,rfl,oX,kX⟩;obtain⟨p1,p2,r1,r2,rfl⟩:=oX.form;have IX:=IK.later kX;have x0:=IX.res.cell 0 (.slice none 0 0) rfl;have x1:=IX.res.cell 1 (.slice none 0 0) rfl;have f0:=IX.res.loose 0;have f1:=IX.res.loose 1;have rX:=(IX.res.set 0 (.slice p1 d.sec.length r1)).set 1 (.slice p2 d.cache.length r2);have HR:Hid (DiskR d false w (.returned (.tuple #[.agg #[.slice p1 d.sec.length r1,.slice p2 d.cache.length r2],.bool false])) ((wX.setCell ⟨w.heap.size+1,0,none⟩ (.slice p1 d.sec.length r1)).setCell ⟨w.heap.size+1,1,none⟩ (.slice p2 d.cache.length r2))):=by
            refine⟨_,rfl,?_,(IX.bel.setCell (p:=⟨w.heap.size+1,0,none⟩) (by simp) _).setCell (p:=⟨w.heap.size+1,1,none⟩) (by simp) _⟩;have:=((oX.base (IK.bel.size)).boxStore IX.res 0 (.slice p1 d.sec.length r1)).boxStore (IX.res.set 0 (.slice p1 d.sec.length r1)) 1 (.slice p2 d.cache.length r2);simpa using this
          have q0:=rX.cell 0 (.slice p1 d.sec.length r1) rfl;have q1:=rX.cell 1 (.slice p2 d.cache.length r2) rfl;clear IK IX rX oX kX c0 c1;go_wp2;refine bodyPost_ret (v:=.tuple #[.agg #[.slice p1 d.sec.length r1,.slice p2 d.cache.length r2],.bool false]) (by simp [results,Tryz.results109,go_sem,q0,q1]) rfl ?_;exact⟨d,false,hok,rfl,by omega,HNN.out,fun _=>rfl,HR.out⟩
        · have HRO:=hid (zbK hr)
          rw [hr];clear hr;have hws2:((ws.size:Int) !=32)=false:=(by rw [hw32];rfl);have hlt5:w2.heap.size < w5.heap.size:=IK.out.lt;have hw5le:w.heap.size≤w5.heap.size:=IK.bel.size;go_upto_region 14 with fail
          have b1:(fr:Int)≤(ws.size:Int):=(by omega);have sl1:∀ wx,(Instr.slice 9 (.string ws) none (some (.int .i64 (fr:Int))) none).run Tryz.prog wx=.ok (.string (ws.extract 0 fr)) wx:=fun wx=>by
            have:=run_slice_string_to_if (P:=Tryz.prog) (w:=wx) 9 ws .i64 (fr:Int) Tryz.underlying9;rw [this];simp;omega
          have sl2:∀ wx,(Instr.slice 9 (.string t) (some (.int .i64 (i:Int))) (some (.int .i64 ((i:Int) +(n:Int)))) none).run Tryz.prog wx=.ok (.string (t.extract i (i+n))) wx:=fun wx=>by
            have:=run_slice_string (P:=Tryz.prog) (w:=wx) 9 t .i64 .i64 (i:Int) ((i:Int) +(n:Int)) Tryz.underlying9 (by omega) (by omega) (by omega);rw [this];congr 3
          have sl3:∀ wx,(Instr.slice 9 (.string ws) (some (.int .i64 ((fr:Int) +(n:Int)))) none none).run Tryz.prog wx=.ok (.string (ws.extract (fr+n) ws.size)) wx:=fun wx=>by
            have:=run_slice_string_from_if (P:=Tryz.prog) (w:=wx) 9 ws .i64 ((fr:Int) +(n:Int)) Tryz.underlying9;rw [this,if_pos ⟨by omega,by omega⟩];congr 3
          have z1:(ws.extract 0 fr).size=fr:=(by rw [ByteArray.size_extract];omega);have z2:(t.extract i (i+n)).size=n:=(by rw [ByteArray.size_extract];omega);have z3:(ws.extract (fr+n) ws.size).size=32 -(fr+n):=(by rw [ByteArray.size_extract];omega);generalize hA1:ws.extract 0 fr=A1 at sl1 z1;generalize hA2:t.extract i (i+n)=A2 at sl2 z2;generalize hA3:ws.extract (fr+n) ws.size=A3 at sl3 z3;have ad1:=fun(wx:World)=>run_string_add_sum (P:=Tryz.prog) (w:=wx) A1 A2 (by omega);have ad2:=fun(wx:World)=>run_string_add_sum (P:=Tryz.prog) (w:=wx) (A1++A2) A3 (by rw [ByteArray.size_append];omega);have hw1:IntKind.i64.wrap ((i:Int) +(n:Int))=(i:Int) +(n:Int):=IntWalk.i64_in _ ⟨by omega,by omega⟩;have hw2:IntKind.i64.wrap ((fr:Int) +(n:Int))=(fr:Int) +(n:Int):=IntWalk.i64_in _ ⟨by omega,by omega⟩;have hsz:(A1++A2++A3).size=32:=(by simp only [ByteArray.size_append];omega);generalize hSq:A1++A2++A3=S at ad2 hsz;have HSq:Hid (S=ws.extract 0 fr++t.extract i (i+n) ++ws.extract (fr+n) ws.size):=(by show _=_;rw [hA1,hA2,hA3,hSq]);clear hA1 hA2 hA3 hSq;obtain⟨D,hD⟩:∃ D,wrD d' (kq:Int) S=D:=⟨_,rfl⟩;obtain⟨F,hF⟩:∃ F,decide (wrOk d' (kq:Int) S)=F:=⟨_,rfl⟩;have hDok:(D.ok∧D.sec.length=d'.sec.length)∧D.cache.length≤d'.cache.length+1:=(by rw [←hD];exact⟨xP hok' _ _,Q0 _ _ _⟩);have HDF:Hid (wrD d' (kq:Int) S=D∧decide (wrOk d' (kq:Int) S)=F):=⟨hD,hF⟩;have HDok:=hid hDok;clear hD hF hDok;go_cut [17,18] from 80 to 101 (fun p f wx=>∃(g:Nat) (e1 e2:Option Addr) (e3 e4:Nat),p=.pointer (some ⟨g,0,none⟩)∧f=.bool F∧w5.heap.size≤g∧Box wx g #[.slice e1 D.sec.length e3,.slice e2 D.cache.length e4] 27∧DOwn w5.heap.size wx.heap.size wx (.agg #[.slice e1 D.sec.length e3,.slice e2 D.cache.length e4]) D∧Below w5.heap.size w5 wx)
          case first=>
            have m0:=IK.out.cell 0 (.slice a5 d'.sec.length c5) rfl;have m1:=IK.out.cell 1 (.slice a6 d'.cache.length c6) rfl;have HS:Hid (∀ x:World,(x.cell? ⟨w2.heap.size,0,none⟩=some (.slice a5 d'.sec.length c5)∧x.cell? ⟨w2.heap.size,1,none⟩=some (.slice a6 d'.cache.length c6)∧Below w5.heap.size w5 x)→DOwn w.heap.size w5.heap.size x (.agg #[.slice a5 d'.sec.length c5,.slice a6 d'.cache.length c6]) d'):=fun x hx=>IK.dsk.later hx.2.2;have HK0:Hid (w5.drew.cell? ⟨w2.heap.size,0,none⟩=some (.slice a5 d'.sec.length c5)∧w5.drew.cell? ⟨w2.heap.size,1,none⟩=some (.slice a6 d'.cache.length c6)∧Below w5.heap.size w5 w5.drew):=⟨m0,m1,(Below.refl _ _).drew⟩;have hlt2:w2.heap.size < w5.heap.size:=IK.out.lt;have HB0:Hid (Box (w5.alloc (.cells #[.slice none 0 0,.slice none 0 0] 27)).drew w5.heap.size #[.slice none 0 0,.slice none 0 0] 27):=Box.new w5 _ _;clear IK hlt' m0 m1;go_region_held3 (fun x=>x.cell? ⟨w2.heap.size,0,none⟩=some (.slice a5 d'.sec.length c5)∧x.cell? ⟨w2.heap.size,1,none⟩=some (.slice a6 d'.cache.length c6)∧Below w5.heap.size w5 x)
              (first | exact HK0.out | exact ZC (by assumption) (zp _ _) | exact ZC (by assumption) kS | exact ZC hSS.out (zp _ _) | exact ja hlt2 (Nat.le_refl _) (by assumption) | exact ja hlt2 tS (by assumption))
              (first
                |(go_at_call 70;refine(Z0 d' _ (kq:Int) S w.heap.size w5.heap.size _ (HS.out _ (by assumption)) hsm' hts' htu' (by omega)).mono ?_;rintro e wS ⟨vS,rfl,oS,kS⟩;rw [HDF.out.1] at oS;rw [HDF.out.2];have hSS:=hid (ZC (by assumption) kS);have tS:w5.heap.size≤wS.heap.size:=hSS.out.2.2.size;obtain⟨e1,e2,e3,e4,rfl⟩:=oS.form;(first |(have bx:Box wS w5.heap.size #[.slice none 0 0,.slice none 0 0] 27:=HB0.out.later kS;have x0:=bx.cell 0 _ rfl;have x1:=bx.cell 1 _ rfl;have f0:=bx.loose 0;have f1:=bx.loose 1) | skip)))
            all_goals
              go_wp2_with fail
              go_meet
              first
                | exact⟨_,e1,e2,e3,e4,rfl,rfl,tS,Box.new wS _ _,((oS.later (zp _ _)).base (Nat.le_refl _)).top,hSS.out.2.2.alloc tS _⟩
                | exact⟨_,e1,e2,e3,e4,rfl,rfl,Nat.le_refl _,(bx.set 0 _).set 1 _,(((oS.base (by simp)).boxStore bx 0 _).boxStore (bx.set 0 _) 1 _).top,(hSS.out.2.2.setCell (p:=⟨w5.heap.size,0,none⟩) (Nat.le_refl _) _).setCell (p:=⟨w5.heap.size,1,none⟩) (Nat.le_refl _) _⟩
          case rest=>
            obtain⟨g,e1,e2,e3,e4,rfl,rfl,hgle,bxc,oD,kD⟩:=hcut;have IK5:=IK.later kD;clear IK;have IK:=IK5;clear IK5;have hz5:=IK.bel.size;cases F with
            | false=>
            have HNN:Hid (wbL d (se+A / 32) (A % 32) t.data.toList=none):=by
              show _=_
              rw [HWB.out];exact VB HRO.out hw32 (by have:=HKQ.out;omega) (by have:=HFR.out;omega) hnx.out hlt HSq.out (of_decide_eq_false HDF.out.2)
            have c0:=IK.inn.cell 0 (.slice aa d.sec.length ca) rfl;have c1:=IK.inn.cell 1 (.slice ab d.cache.length cb) rfl;go_wp2_with fail
            refine(zE d _ B T _ IK.was hsm).mono ?_;rintro e wX ⟨vX,rfl,oX,kX⟩;obtain⟨p1,p2,r1,r2,rfl⟩:=oX.form;have IX:=IK.later kX;have x0:=IX.res.cell 0 (.slice none 0 0) rfl;have x1:=IX.res.cell 1 (.slice none 0 0) rfl;have f0:=IX.res.loose 0;have f1:=IX.res.loose 1;have rX:=(IX.res.set 0 (.slice p1 d.sec.length r1)).set 1 (.slice p2 d.cache.length r2);have HR:Hid (DiskR d false w (.returned (.tuple #[.agg #[.slice p1 d.sec.length r1,.slice p2 d.cache.length r2],.bool false])) ((wX.setCell ⟨w.heap.size+1,0,none⟩ (.slice p1 d.sec.length r1)).setCell ⟨w.heap.size+1,1,none⟩ (.slice p2 d.cache.length r2))):=by
              refine⟨_,rfl,?_,(IX.bel.setCell (p:=⟨w.heap.size+1,0,none⟩) (by simp) _).setCell (p:=⟨w.heap.size+1,1,none⟩) (by simp) _⟩;have:=((oX.base (IK.bel.size)).boxStore IX.res 0 (.slice p1 d.sec.length r1)).boxStore (IX.res.set 0 (.slice p1 d.sec.length r1)) 1 (.slice p2 d.cache.length r2);simpa using this
            have q0:=rX.cell 0 (.slice p1 d.sec.length r1) rfl;have q1:=rX.cell 1 (.slice p2 d.cache.length r2) rfl;clear IK IX rX oX kX c0 c1 bxc oD;go_wp2;refine bodyPost_ret (v:=.tuple #[.agg #[.slice p1 d.sec.length r1,.slice p2 d.cache.length r2],.bool false]) (by simp [results,Tryz.results109,go_sem,q0,q1]) rfl ?_;exact⟨d,false,hok,rfl,by omega,HNN.out,fun _=>rfl,HR.out⟩
            | true=>
              have HWN:Hid (wbL d (se+A / 32) (A % 32) t.data.toList=wbL D (se+(A+(i+n)) / 32) ((A+(i+n)) % 32) (t.data.toList.drop (i+n))):=by
                show _=_
                rw [HWB.out,←HDF.out.1];exact QN HRO.out hw32 (by have:=HKQ.out;omega) (by have:=HFR.out;omega) hnx.out hlt HSq.out (of_decide_eq_true HDF.out.2)
              have hout:=IK.out;have hblt:=IK.lt;have hbg:w2.heap.size≠g:=by
                intro e;have h1:=hlt5;omega
              have x0:=bxc.cell 0 (.slice e1 D.sec.length e3) rfl;have x1:=bxc.cell 1 (.slice e2 D.cache.length e4) rfl;have y0:=hout.cell 0 (.slice a5 d'.sec.length c5) rfl;have y1:=hout.cell 1 (.slice a6 d'.cache.length c6) rfl;have f0:=hout.loose 0;have f1:=hout.loose 1;have IN:Hid (WbI w (.slice aa d.sec.length ca) (.slice ab d.cache.length cb) w2.heap.size (.slice e1 D.sec.length e3) (.slice e2 D.cache.length e4) d D B T ((wc.setCell ⟨w2.heap.size,0,none⟩ (.slice e1 D.sec.length e3)).setCell ⟨w2.heap.size,1,none⟩ (.slice e2 D.cache.length e4))):=by
                have o1:=hout.set 0 (.slice e1 D.sec.length e3);refine⟨(IK.bel.setCell (p:=⟨w2.heap.size,0,none⟩) (by show w.heap.size≤w2.heap.size;omega) _).setCell (p:=⟨w2.heap.size,1,none⟩) (by show w.heap.size≤w2.heap.size;omega) _,(IK.inn.other (by omega) _ _).other (by omega) _ _,(IK.res.other (by omega) _ _).other (by omega) _ _,o1.set 1 _,?_,(IK.was.boxStore hout 0 _).boxStore o1 1 _,hblt⟩;have:=(((oD.base hw5le).boxStore hout 0 (.slice e1 D.sec.length e3)).boxStore o1 1 (.slice e2 D.cache.length e4)).top;exact this
              clear IK hout bxc oD kD;go_wp2;go_roundw
              case rel=>exact⟨i+n,D,_,_,by omega,by go_num,HDok.out.1.1,HDok.out.1.2.trans hlen.out,HQ.out.next hlt hn0 (by have:=HFR.out;omega) hend.out HDok.out.2,HWN,IN.out⟩
              case measure=>simp [intOf];omega
    · have HWF:Hid (wbL d (se+A / 32) (A % 32) t.data.toList=some d'):=by
        show _=_
        rw [HWB.out,List.drop_eq_nil_of_le (by rw [Array.length_toList];show t.size≤i;omega),yl]
      have x0:=I.res.cell 0 (.slice none 0 0) rfl;have x1:=I.res.cell 1 (.slice none 0 0) rfl;have f0:=I.res.loose 0;have f1:=I.res.loose 1;have r2:=(I.res.set 0 (.slice a5 d'.sec.length c5)).set 1 (.slice a6 d'.cache.length c6);have HR:Hid (DiskR d' true w (.returned (.tuple #[.agg #[.slice a5 d'.sec.length c5,.slice a6 d'.cache.length c6],.bool true])) ((wr.setCell ⟨w.heap.size+1,0,none⟩ (.slice a5 d'.sec.length c5)).setCell ⟨w.heap.size+1,1,none⟩ (.slice a6 d'.cache.length c6))):=by
        refine⟨_,rfl,?_,(I.bel.setCell (p:=⟨w.heap.size+1,0,none⟩) (by simp) _).setCell (p:=⟨w.heap.size+1,1,none⟩) (by simp) _⟩;have:=(I.dsk.boxStore I.res 0 (.slice a5 d'.sec.length c5)).boxStore (I.res.set 0 (.slice a5 d'.sec.length c5)) 1 (.slice a6 d'.cache.length c6);simpa using this
      have q0:=r2.cell 0 (.slice a5 d'.sec.length c5) rfl;have q1:=r2.cell 1 (.slice a6 d'.cache.length c6) rfl;clear I r2;go_wp2;refine bodyPost_ret (v:=.tuple #[.agg #[.slice a5 d'.sec.length c5,.slice a6 d'.cache.length c6],.bool true]) (by simp [results,Tryz.results109,go_sem,q0,q1]) rfl ?_;exact⟨d',true,hok',hlen.out,HQ.out.fin hi,by rw [HWF.out];rfl,fun e=>(by cases e),HR.out⟩
end Go.Proofs.YtklkhllkjnbhjaaGreatDoor
