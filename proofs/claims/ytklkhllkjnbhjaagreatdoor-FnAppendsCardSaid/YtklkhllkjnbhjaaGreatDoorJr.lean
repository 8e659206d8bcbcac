/- Texts of our own, joined. -/
import Derived.Test.YtklkhllkjnbhjaaGreatDoorJq
import Derived.Test.YtklkhllkjnbhjaaGreatDoorJp
import Derived.Deep.Slices
import Derived.ProofKit
/- Segments: what the program's SegWrite hands back, within a disk. -/
namespace Go.Proofs.YtklkhllkjnbhjaaGreatDoor
open Go.RowKit
open Lib (hid)
set_option maxRecDepth 100000
set_option maxHeartbeats 8000000
theorem zaF(t:ByteArray)(m:Nat):(⟨(t.data.toList.take m).toArray⟩:ByteArray).size=min m t.size:=by
  show(t.data.toList.take m).toArray.size=_
  rw [List.size_toArray,List.length_take,Array.length_toList];rfl
theorem zbG{t:ByteArray}{m:Nat}(h:t.size≤m):(⟨(t.data.toList.take m).toArray⟩:ByteArray)=t:=by
  rw [List.take_of_length_le (by rw [Array.length_toList];exact h)]
theorem Buf.box {B:Nat} {w0 w:World} {g n:Nat} {l:List UInt8} (h:Buf B w0 w (.slice (some ⟨g,0,none⟩) n n) l) (hl:l.length=n):Box w g (bytesV l).toArray 5:=by
  rcases h.own.2 with⟨e,_⟩ |⟨g',cap,cur,e,_,hh,hnc,hcp,hcs,htake⟩
  · cases e
  · simp only [Value.slice.injEq,Option.some.injEq,Addr.mk.injEq,and_true] at e
    obtain⟨rfl,_,rfl⟩:=e;have:cur=(bytesV l).toArray:=by
      have h1:cur.toList=bytesV l:=by
        rw [←htake,List.take_of_length_le];rw [Array.length_toList,hcs,hl];exact Nat.le_refl _
      rw [←h1]
    rw [this] at hh;exact hh
theorem Xv(A:Nat)(t:ByteArray)(w:World)(hA:A≤256)(_htz:t.size≤1099511627776):
    Calls Tryz.prog 147 #[.int .i64 (A:Int),.string t] w fun e w'=>e=.returned (.string ⟨(t.data.toList.take (256 - A)).toArray⟩)∧Below w.heap.size w w':=by
  have hA0:(0:Int)≤(A:Int):=by omega
  have hA1:(A:Int)≤256:=by omega
  by_cases h6:A=256
  · subst h6
    rw [Nat.sub_self,List.take_zero];go_enter Tryz.func147,Tryz.ntmps147
    go_wp2_with (at_make;refine ZP rfl _ _ rfl .i64 .i64 _ _ 256 rfl rfl rfl rfl (by omega) ?_;intro w1 g hb1)
    have bx:=hb1.box (by simp);refine ZF 22 9 3 5 g 0 0 0 t (List.replicate 256 0) 5 Tryz.underlying22 (by kernel_rfl) bx (by simp) ?_;intro w2 x2 g2;have hrun:=run_convert_bytes_back (P:=Tryz.prog) w2 22 9 5 ⟨g,0,none⟩ 0 [] Tryz.underlying22 Tryz.underlying5 Tryz.underlying9 (fun j hj=>by simp at hj);rw [List.length_nil] at hrun;rw [show Nat.min t.size 0=0 from Nat.min_zero _];have hgB:w.heap.size≤g:=(hb1.own.lt g rfl).1;have bF:=hb1.bel.grown g2 hb1.le (fun k hk=>by have:=Option.some.inj hk;omega);clear x2 g2 bx hb1;go_wp2;go_ret;exact⟨rfl,bF⟩
  · have h6':¬256=A:=fun e=>h6 e.symm
    go_enter Tryz.func147,Tryz.ntmps147
    go_wp2_with (at_make;refine ZP rfl _ _ rfl .i64 .i64 _ _ 256 rfl rfl rfl rfl (by omega) ?_;intro w1 g hb1)
    have bx:=hb1.box (by simp);have hgB:w.heap.size≤g:=(hb1.own.lt g rfl).1;refine ZF 22 9 3 5 g A (256 - A) (256 - A) t (List.replicate 256 0) 5 Tryz.underlying22 (by kernel_rfl) bx (by simp;omega) ?_;intro w2 x2 g2;obtain⟨l,hl⟩:∃ l,t.data.toList.take (256 - A)=l:=⟨_,rfl⟩;have hll:l.length=Nat.min t.size (256 - A):=by
      rw [←hl,List.length_take,Array.length_toList];exact Nat.min_comm _ _
    rw [hl] at x2;have HL:=hid hl;clear hl;have hlA:l.length≤256 - A:=by rw [hll];exact Nat.min_le_right _ _
    have hrun:=run_convert_bytes_back (P:=Tryz.prog) w2 22 9 5 ⟨g,A,none⟩ (256 - A) l Tryz.underlying22 Tryz.underlying5 Tryz.underlying9 (fun j hj=>by
      rw [Addr.add_lit];refine x2.cell (A+j) _ ?_;have hs:=vO (l:=List.replicate 256 (0:UInt8)) (m:=l) (o:=A) (by simp;omega) (A+j);rw [if_pos ⟨by omega,by omega⟩,show A+j - A=j by omega,List.getElem?_eq_getElem hj] at hs;rw [List.getElem?_toArray,bytesV,List.getElem?_map,hs];rfl)
    rw [←hll];have bF:=hb1.bel.grown g2 hb1.le (fun k hk=>by have:=Option.some.inj hk;omega);have hl0:(0:Int)≤(l.length:Int):=by omega
    have hl1:(l.length:Int)≤((256 - A:Nat):Int):=by omega
    have hl2:¬256 - A=0:=by omega
    clear x2 g2 bx hb1 hll;go_wp2;go_ret;exact⟨by rw [HL.out];rfl,bF⟩
theorem JR(d:Dk)(v:Value)(s A:Nat)(t:ByteArray)(B T:Nat)(w:World)(h:DOwn B T w v d)(hsm:d.small)(hts:∀ s∈d.sec,s.size≤1099511627776)(htu:∀ x∈d.cache,x.text.size≤1099511627776)(hcl:d.cache.length < 1073741824)(hs:s≤10)(hse:8+8 * s < d.sec.length)(hA:A≤256)(hfit:t.size≤256 - A):
    Calls Tryz.prog 127 #[v,.int .i64 (s:Int),.int .i64 (A:Int),.string t] w fun e w'=>DiskR ((wbL d (8+8 * s+A / 32) (A % 32) t.data.toList).getD d) (wbL d (8+8 * s+A / 32) (A % 32) t.data.toList).isSome w e w':=by
  obtain⟨aa,ab,ca,cb,rfl⟩:=h.form;obtain⟨hx0,hx1,b0,hsz⟩:=zO w #[.slice aa d.sec.length ca,.slice ab d.cache.length cb] #[.slice none 0 0,.slice none 0 0] 27 27;have h':=h.later b0;have hin:0≤(s:Int)∧(s:Int)≤10:=by omega
  have hd:=decide_eq_true hin;have hsf:sgF (s:Int)=((8+8 * s:Nat):Int):=by rw [Yy hin];omega
  have hcut:=zbG hfit;have g1:¬(A:Int) < 0:=by omega
  have g2:¬(256:Int) <(A:Int):=by omega
  obtain⟨R,hR⟩:∃ R,wbL d (8+8 * s+A / 32) (A % 32) t.data.toList=R:=⟨_,rfl⟩;rw [hR];obtain⟨d2,hd2⟩:∃ d2,R.getD d=d2:=⟨_,rfl⟩;obtain⟨f2,hf2⟩:∃ f2,R.isSome=f2:=⟨_,rfl⟩;rw [hd2,hf2];have HD2:Hid (R.getD d=d2∧R.isSome=f2):=⟨hd2,hf2⟩;clear hd2 hf2;have HR:=hid hR;have HCUT:=hid hcut;have HSF:=hid hsf;have HDD:=hid hd;clear hR hcut hsf hd;go_enter Tryz.func127,Tryz.ntmps127
  go_upto_region 6 with(first
    |(go_at_call 139;refine(zS _ _).mono ?_;rintro e w5 ⟨rfl,rfl⟩;rw [HDD.out])
    |(go_at_call 147;refine(Xv A t _ hA (by omega)).mono ?_;rintro e w5 ⟨rfl,k5⟩;rw [HCUT.out]))
  generalize ((w.alloc (.cells #[.slice aa d.sec.length ca,.slice ab d.cache.length cb] 27)).alloc (.cells #[.slice none 0 0,.slice none 0 0] 27))=W at hx0 hx1 b0 hsz h' k5;have b5:=b0.trans (k5.mono b0.size);have bD:Below w5.heap.size w5 w5.drew:=(Below.refl _ _).drew;have m0:=((hx0.later k5).later bD).cell 0 (.slice aa d.sec.length ca) rfl;have m1:=((hx0.later k5).later bD).cell 1 (.slice ab d.cache.length cb) rfl;have HD:=hid ((h'.later k5).later bD);have HX:Hid (∀ x,Below w5.drew.heap.size w5.drew x→Box x (w.heap.size+1) #[.slice none 0 0,.slice none 0 0] 27∧Below w.heap.size w x):=by
    intro x hb;have hb2:Below w5.heap.size w5 x:=bD.trans hb;exact⟨(hx1.later k5).later hb2,b5.trans (hb2.mono b5.size)⟩
  have hzW:w.heap.size≤w5.drew.heap.size:=b5.size;clear hx0 hx1 h' bD k5 b0 b5;go_region_law (first
    |(go_simp;go_at_call 141;refine(yL _ _).mono ?_;rintro e w6 ⟨rfl,rfl⟩;rw [HSF.out];dsimp only)
    |(go_simp;go_at_call 148;refine(jq d _ (8+8 * s) A t B T _ HD.out hsm hts htu hcl hse (by omega) (by omega)).mono ?_;intro e w6 hres;rw [HR.out,HD2.out.1,HD2.out.2] at hres;obtain⟨v2,rfl,o6,k6⟩:=hres;obtain⟨u1,u2,p1,p2,rfl⟩:=o6.form;obtain⟨xX,bX⟩:=HX.out _ k6;have x0:=xX.cell 0 (.slice none 0 0) rfl;have x1:=xX.cell 1 (.slice none 0 0) rfl;have f0:=xX.loose 0;have f1:=xX.loose 1;dsimp only))
  all_goals
    have rX:=(xX.set 0 (.slice u1 d2.sec.length p1)).set 1 (.slice u2 d2.cache.length p2)
    have q0:=rX.cell 0 (.slice u1 d2.sec.length p1) rfl
    have q1:=rX.cell 1 (.slice u2 d2.cache.length p2) rfl
    have HRR:Hid (DiskR d2 f2 w (.returned (.tuple #[.agg #[.slice u1 d2.sec.length p1,.slice u2 d2.cache.length p2],.bool f2])) ((w6.setCell ⟨w.heap.size+1,0,none⟩ (.slice u1 d2.sec.length p1)).setCell ⟨w.heap.size+1,1,none⟩ (.slice u2 d2.cache.length p2))):=by
      refine⟨_,rfl,?_,(bX.setCell (p:=⟨w.heap.size+1,0,none⟩) (by simp) _).setCell (p:=⟨w.heap.size+1,1,none⟩) (by simp) _⟩
      have:=((o6.base hzW).boxStore xX 0 (.slice u1 d2.sec.length p1)).boxStore (xX.set 0 (.slice u1 d2.sec.length p1)) 1 (.slice u2 d2.cache.length p2)
      simpa using this
    clear rX xX o6;go_wp2;refine bodyPost_ret (v:=.tuple #[.agg #[.slice u1 d2.sec.length p1,.slice u2 d2.cache.length p2],.bool f2]) (by simp [results,Tryz.results127,go_sem,q0,q1]) rfl ?_;exact HRR.out
theorem Jj(d:Dk)(v:Value)(s A:Nat)(t:ByteArray)(B T:Nat)(w:World)(h:DOwn B T w v d)(hsm:d.small)(hts:∀ s∈d.sec,s.size≤1099511627776)(htu:∀ x∈d.cache,x.text.size≤1099511627776)(hs:s≤10)(hA:A≤256)(hfar:256 - A < t.size)(htz:t.size≤1099511627776):
    Calls Tryz.prog 127 #[v,.int .i64 (s:Int),.int .i64 (A:Int),.string t] w fun e w'=>DiskR d false w e w':=by
  obtain⟨aa,ab,ca,cb,rfl⟩:=h.form;obtain⟨hx0,hx1,b0,hsz⟩:=zO w #[.slice aa d.sec.length ca,.slice ab d.cache.length cb] #[.slice none 0 0,.slice none 0 0] 27 27;have h':=h.later b0;have hin:0≤(s:Int)∧(s:Int)≤10:=by omega
  have HDD:=hid (decide_eq_true hin);have g1:¬(A:Int) < 0:=by omega
  have g2:¬(256:Int) <(A:Int):=by omega
  obtain⟨t2,ht2⟩:∃ t2,(⟨(t.data.toList.take (256 - A)).toArray⟩:ByteArray)=t2:=⟨_,rfl⟩;have hz2:(t2.size:Int) <(t.size:Int):=by rw [←ht2,zaF];omega
  have HCUT:=hid ht2;clear ht2;go_enter Tryz.func127,Tryz.ntmps127
  go_upto_region 5 with(first
    |(go_at_call 139;refine(zS _ _).mono ?_;rintro e w5 ⟨rfl,rfl⟩;rw [HDD.out])
    |(go_at_call 147;refine(Xv A t _ hA (by omega)).mono ?_;rintro e w5 ⟨rfl,k5⟩;rw [HCUT.out]))
  generalize ((w.alloc (.cells #[.slice aa d.sec.length ca,.slice ab d.cache.length cb] 27)).alloc (.cells #[.slice none 0 0,.slice none 0 0] 27))=W at hx0 hx1 b0 hsz h' k5;have b5:=b0.trans (k5.mono b0.size);have m0:=(hx0.later k5).cell 0 (.slice aa d.sec.length ca) rfl;have m1:=(hx0.later k5).cell 1 (.slice ab d.cache.length cb) rfl;have x5:=hx1.later k5;have h5:=h'.later k5;clear hx0 hx1 h' k5;go_wp2_with fail
  refine(Zc d _ B T _ h5 hsm hts htu).mono ?_;rintro e wX ⟨vX,rfl,oX,kX⟩;obtain⟨p1,p2,r1,r2,rfl⟩:=oX.form;have xX:=x5.later kX;have bX:=b5.trans (kX.mono b5.size);have x0:=xX.cell 0 (.slice none 0 0) rfl;have x1:=xX.cell 1 (.slice none 0 0) rfl;have f0:=xX.loose 0;have f1:=xX.loose 1;have rX:=(xX.set 0 (.slice p1 d.sec.length r1)).set 1 (.slice p2 d.cache.length r2);have HR:Hid (DiskR d false w (.returned (.tuple #[.agg #[.slice p1 d.sec.length r1,.slice p2 d.cache.length r2],.bool false])) ((wX.setCell ⟨w.heap.size+1,0,none⟩ (.slice p1 d.sec.length r1)).setCell ⟨w.heap.size+1,1,none⟩ (.slice p2 d.cache.length r2))):=by
    refine⟨_,rfl,?_,(bX.setCell (p:=⟨w.heap.size+1,0,none⟩) (by simp) _).setCell (p:=⟨w.heap.size+1,1,none⟩) (by simp) _⟩;have:=((oX.base b5.size).boxStore xX 0 (.slice p1 d.sec.length r1)).boxStore (xX.set 0 (.slice p1 d.sec.length r1)) 1 (.slice p2 d.cache.length r2);simpa using this
  have q0:=rX.cell 0 (.slice p1 d.sec.length r1) rfl;have q1:=rX.cell 1 (.slice p2 d.cache.length r2) rfl;clear rX oX kX m0 m1 xX x5 h5;go_wp2;refine bodyPost_ret (v:=.tuple #[.agg #[.slice p1 d.sec.length r1,.slice p2 d.cache.length r2],.bool false]) (by simp [results,Tryz.results127,go_sem,q0,q1]) rfl ?_;exact HR.out

/- Segments: what the model's SegWrite hands back of a right disk: a right disk of as many sectors. -/

/- What is written in a segment, exactly: SegWrite of both on right disks. -/
def sgW (d:Dk) (s A:Nat) (t:ByteArray):Option Dk:=if A+t.size≤256 then wbL d (8+8 * s+A / 32) (A % 32) t.data.toList else none
theorem xK{d:Dk}{s A:Nat}{t:ByteArray}(h:A+t.size≤256):sgW d s A t=wbL d (8+8 * s+A / 32) (A % 32) t.data.toList:=if_pos h
theorem qI{d:Dk}{s A:Nat}{t:ByteArray}(h:¬A+t.size≤256):sgW d s A t=none:=if_neg h
theorem yW (d:Dk) (v:Value) (s A:Nat) (t:ByteArray) (B T:Nat) (w:World) (h:DOwn B T w v d) (hok:d.ok) (hs:s≤10) (hse:8+8 * s < d.sec.length) (hA:A≤256) (htz:t.size≤1000000):
    Calls Tryz.prog 78 #[v,.int .i64 (s:Int),.int .i64 (A:Int),.string t] w fun e w'=>∃(d':Dk) (f:Bool),d'.ok∧d'.sec.length=d.sec.length∧sgW d s A t=(if f=true then some d' else none)∧(f=false→d'=d)∧DiskR d' f w e w':=by
  obtain⟨aa,ab,ca,cb,rfl⟩:=h.form;obtain⟨hsm,hts,htu⟩:=Dk.ok_small hok;obtain⟨hx0,hx1,b0,hsz⟩:=zO w #[.slice aa d.sec.length ca,.slice ab d.cache.length cb] #[.slice none 0 0,.slice none 0 0] 27 27;have h':=h.later b0;have c0:=hx0.cell 0 (.slice aa d.sec.length ca) rfl;have c1:=hx0.cell 1 (.slice ab d.cache.length cb) rfl;by_cases hfit:(256:Int) -(A:Int) <(t.size:Int)
  · have HNO:Hid (sgW d s A t=(if false=true then some d else none)):=by show _=_;rw [qI (by omega)];rfl
    go_enter Tryz.func78,Tryz.ntmps78
    go_wp2_with (first |(go_at_call 52;refine(Zo _ _ _ _ (by omega) (by omega)).mono ?_;rintro e w5 ⟨rfl,rfl⟩))
    generalize ((w.alloc (.cells #[.slice aa d.sec.length ca,.slice ab d.cache.length cb] 27)).alloc (.cells #[.slice none 0 0,.slice none 0 0] 27))=W at hx0 hx1 b0 hsz h' c0 c1 ⊢;refine(zE d _ B T _ h' hsm).mono ?_;rintro e wX ⟨vX,rfl,oX,kX⟩;obtain⟨p1,p2,r1,r2,rfl⟩:=oX.form;have xX:=hx1.later kX;have bX:=b0.trans (kX.mono b0.size);have x0:=xX.cell 0 (.slice none 0 0) rfl;have x1:=xX.cell 1 (.slice none 0 0) rfl;have f0:=xX.loose 0;have f1:=xX.loose 1;have rX:=(xX.set 0 (.slice p1 d.sec.length r1)).set 1 (.slice p2 d.cache.length r2);have HR:Hid (DiskR d false w (.returned (.tuple #[.agg #[.slice p1 d.sec.length r1,.slice p2 d.cache.length r2],.bool false])) ((wX.setCell ⟨w.heap.size+1,0,none⟩ (.slice p1 d.sec.length r1)).setCell ⟨w.heap.size+1,1,none⟩ (.slice p2 d.cache.length r2))):=by
      refine⟨_,rfl,?_,(bX.setCell (p:=⟨w.heap.size+1,0,none⟩) (by simp) _).setCell (p:=⟨w.heap.size+1,1,none⟩) (by simp) _⟩;have:=((oX.base b0.size).boxStore xX 0 (.slice p1 d.sec.length r1)).boxStore (xX.set 0 (.slice p1 d.sec.length r1)) 1 (.slice p2 d.cache.length r2);simpa using this
    have q0:=rX.cell 0 (.slice p1 d.sec.length r1) rfl;have q1:=rX.cell 1 (.slice p2 d.cache.length r2) rfl;clear rX oX kX c0 c1 xX;go_wp2;refine bodyPost_ret (v:=.tuple #[.agg #[.slice p1 d.sec.length r1,.slice p2 d.cache.length r2],.bool false]) (by simp [results,Tryz.results78,go_sem,q0,q1]) rfl ?_;exact⟨d,false,hok,rfl,HNO.out,fun _=>rfl,HR.out⟩
  · have HYE:Hid (sgW d s A t=wbL d (8+8 * s+A / 32) (A % 32) t.data.toList):=xK (by omega)
    have hfit2:¬(256:Int) -(A:Int) <(t.size:Int):=hfit;have hsf:sgF (s:Int)=((8+8 * s:Nat):Int):=by rw [Yy ⟨by omega,by omega⟩];omega
    go_enter Tryz.func78,Tryz.ntmps78
    go_upto_region 3 with(first |(go_at_call 52;refine(Zo _ _ _ _ (by omega) (by omega)).mono ?_;rintro e w5 ⟨rfl,rfl⟩))
    generalize ((w.alloc (.cells #[.slice aa d.sec.length ca,.slice ab d.cache.length cb] 27)).alloc (.cells #[.slice none 0 0,.slice none 0 0] 27))=W at hx0 hx1 b0 hsz h' c0 c1 ⊢;have bD:Below W.heap.size W W.drew:=(Below.refl _ _).drew;have m0:=(hx0.later bD).cell 0 (.slice aa d.sec.length ca) rfl;have m1:=(hx0.later bD).cell 1 (.slice ab d.cache.length cb) rfl;have HD:=hid (h'.later bD);have HX:Hid (∀ x,Below W.drew.heap.size W.drew x→Box x (w.heap.size+1) #[.slice none 0 0,.slice none 0 0] 27∧Below w.heap.size w x):=by
      intro x hb;have hb2:Below W.heap.size W x:=bD.trans hb;exact⟨hx1.later hb2,b0.trans (hb2.mono b0.size)⟩
    have hzW:w.heap.size≤W.drew.heap.size:=b0.size;clear hx0 hx1 h' c0 c1 bD;go_region_law (first
      |(go_simp;go_at_call 110;refine(yJ _ _).mono ?_;rintro e w5 ⟨rfl,rfl⟩;rw [hsf];dsimp only)
      |(go_simp;go_at_call 109;refine(ym d _ (8+8 * s) A t B T _ HD.out hok hse (by omega) htz).mono ?_;rintro e w6 ⟨d2,f2,hok2,hl2,hm2,hw2,hf2,v2,rfl,o6,k6⟩;have HL2:=hid hl2;have HW2:=hid hw2;have HF2:=hid hf2;clear hl2 hm2 hw2 hf2;obtain⟨u1,u2,p1,p2,rfl⟩:=o6.form;obtain⟨xX,bX⟩:=HX.out _ k6;have x0:=xX.cell 0 (.slice none 0 0) rfl;have x1:=xX.cell 1 (.slice none 0 0) rfl;have f0:=xX.loose 0;have f1:=xX.loose 1;dsimp only))
    all_goals
      have rX:=(xX.set 0 (.slice u1 d2.sec.length p1)).set 1 (.slice u2 d2.cache.length p2)
      have q0:=rX.cell 0 (.slice u1 d2.sec.length p1) rfl
      have q1:=rX.cell 1 (.slice u2 d2.cache.length p2) rfl
      have HR:Hid (DiskR d2 f2 w (.returned (.tuple #[.agg #[.slice u1 d2.sec.length p1,.slice u2 d2.cache.length p2],.bool f2])) ((w6.setCell ⟨w.heap.size+1,0,none⟩ (.slice u1 d2.sec.length p1)).setCell ⟨w.heap.size+1,1,none⟩ (.slice u2 d2.cache.length p2))):=by
        refine⟨_,rfl,?_,(bX.setCell (p:=⟨w.heap.size+1,0,none⟩) (by simp) _).setCell (p:=⟨w.heap.size+1,1,none⟩) (by simp) _⟩
        have:=((o6.base hzW).boxStore xX 0 (.slice u1 d2.sec.length p1)).boxStore (xX.set 0 (.slice u1 d2.sec.length p1)) 1 (.slice u2 d2.cache.length p2)
        simpa using this
      clear rX xX o6;go_wp2;refine bodyPost_ret (v:=.tuple #[.agg #[.slice u1 d2.sec.length p1,.slice u2 d2.cache.length p2],.bool f2]) (by simp [results,Tryz.results78,go_sem,q0,q1]) rfl ?_;exact⟨d2,f2,hok2,HL2.out,HYE.out.trans HW2.out,HF2.out,HR.out⟩
theorem JL(d:Dk)(v:Value)(s A:Nat)(t:ByteArray)(B T:Nat)(w:World)(h:DOwn B T w v d)(hsm:d.small)(hts:∀ s∈d.sec,s.size≤1099511627776)(htu:∀ x∈d.cache,x.text.size≤1099511627776)(hcl:d.cache.length < 1073741824)(hs:s≤10)(hse:8+8 * s < d.sec.length)(hA:A≤256)(htz:t.size≤1000000):
    Calls Tryz.prog 127 #[v,.int .i64 (s:Int),.int .i64 (A:Int),.string t] w fun e w'=>DiskR ((sgW d s A t).getD d) (sgW d s A t).isSome w e w':=by
  by_cases hfit:A+t.size≤256
  · rw [xK hfit]
    exact JR d v s A t B T w h hsm hts htu hcl hs hse hA (by omega)
  · rw [qI hfit]
    exact Jj d v s A t B T w h hsm hts htu hs hA (by omega) (by omega)

/- Lists that came in: a row read cell by cell is a list. -/
open Go.RowKit Go.ChangeShapes Go.WideShapes Go.ChangeAt Go.Deep Go.Joins
section
variable {W : World}
end

/- Checks in memory: references, and what is fixed. -/
abbrev Rf:=Int×Int
structure Ck where
  st:Int
  ng:Int
  ns:Int
  nv:Int
  refs:List Rf
def rfE:Enc Rf where
  ty:=156
  sty:=122
  sz:=2
  bytes:=16
  zero:=.agg #[.int .i64 0,.int .i64 0]
  f:=fun x=> [.int .i64 x.1,.int .i64 x.2]
  len:=fun _=>rfl
  pos:=by decide
  one:=fun _ u hu=>by simp at hu;rcases hu with rfl | rfl <;> rfl
  und:=Tryz.underlying122
  info:=by kernel_rfl
  zc:=rfl
  z0:=(0,0)
  zf:=rfl
theorem Rows'.refs{w:World}{v:Value}{l:List Rf}(h:Rows' rfE w v l):∃(ad:Option Addr) (cap:Nat),v=.slice ad l.length cap∧∀ X,Below w.heap.size w X→∀(i:Nat) (x:Rf),l[i]? =some x→∃ g off,ad=some ⟨g,off,none⟩∧X.cell? ⟨g,off+i * 2,none⟩=some (.int .i64 x.1)∧X.cell? ⟨g,off+i * 2+1,none⟩=some (.int .i64 x.2):=by
  rcases h.ways with⟨rfl,a,c,rfl⟩ |⟨hne,g,off,c,rfl,hc,hg,hcl⟩
  · exact⟨a,c,rfl,fun X _ i x hi=>by cases hi⟩
  · exact⟨_,c,rfl,fun X hb i x hi=>⟨g,off,rfl,(hb.cell (p:=⟨g,off+i * 2+0,none⟩) hg).trans (hcl i x hi 0 _ rfl),(hb.cell (p:=⟨g,off+i * 2+1,none⟩) hg).trans (hcl i x hi 1 _ rfl)⟩⟩
theorem Box.fiveC{w:World}{b:Nat}{u0 u1 u2 u3 u4:Value}{t:TypeId}(h:Box w b #[u0,u1,u2,u3,u4] t):
    w.cell? ⟨b,0,none⟩=some u0∧w.cell? ⟨b,1,none⟩=some u1∧w.cell? ⟨b,2,none⟩=some u2∧w.cell? ⟨b,3,none⟩=some u3∧w.cell? ⟨b,4,none⟩=some u4∧
    w.frozen? ⟨b,0,none⟩=false∧w.frozen? ⟨b,1,none⟩=false∧w.frozen? ⟨b,2,none⟩=false∧w.frozen? ⟨b,3,none⟩=false∧w.frozen? ⟨b,4,none⟩=false:=
  ⟨h.cell 0 _ rfl,h.cell 1 _ rfl,h.cell 2 _ rfl,h.cell 3 _ rfl,h.cell 4 _ rfl,h.loose 0,h.loose 1,h.loose 2,h.loose 3,h.loose 4⟩

/- Right checks, plainly. -/
def numIn (n:Int):Prop:=1≤n∧n≤1000000000
instance (n : Int) : Decidable (numIn n) := by unfold numIn; infer_instance
def rfAt (ng:Int) (rs:List Rf) (i:Nat) (r:Rf):Prop:=
  (0≤r.1∧r.1≤10)∧(1≤r.2∧r.2≤ng - 1)∧(∀ p,0 < i→rs[i - 1]? =some p→p.2 < r.2)∧∀(k:Nat) (y:Rf),k < i→rs[k]? =some y→y.1≠r.1
def Ck.ok (c:Ck):Prop:=(numIn c.st∧numIn c.ng∧numIn c.ns∧numIn c.nv)∧(1≤c.refs.length∧c.refs.length≤11)∧∀(i:Nat) (r:Rf),c.refs[i]? =some r→rfAt c.ng c.refs i r
noncomputable def ckB (c:Ck):Bool:=@decide c.ok (Classical.propDecidable _)
theorem qG{c:Ck}(h:c.ok):ckB c=true:=@decide_eq_true _ (Classical.propDecidable _) h
theorem zcX{c:Ck}(h:¬c.ok):ckB c=false:=@decide_eq_false _ (Classical.propDecidable _) h
theorem qV{c:Ck}:ckB c=true↔c.ok:=⟨fun h=>@of_decide_eq_true _ (Classical.propDecidable _) h,qG⟩
theorem zdb(p:Prop):∃ F:Bool,F=true↔p:=⟨@decide p (Classical.propDecidable _),by simp⟩
theorem Rows'.takeR{α:Type}{E:Enc α}{w:World}{ad:Option Addr}{n cap:Nat}{l:List α}(h:Rows' E w (.slice ad n cap) l)(i:Nat)(hi:i≤n):Rows' E w (.slice ad i cap) (l.take i):=by
  rcases h with⟨rfl,a,c,e⟩ |⟨g,off,c,e,hc,hg,hcl⟩
  · cases e
    obtain rfl:i=0:=by omega
    exact .inl ⟨by simp,_,_,rfl⟩
  · cases e
    refine .inr ⟨g,off,cap,?_,?_,hg,fun j x hj k u hk=>?_⟩
    · rw [List.length_take,Nat.min_eq_left hi]
    · rw [List.length_take];omega
    · rw [List.getElem?_take] at hj
      split at hj
      · exact hcl j x hj k u hk
      · cases hj

/- The text of a check, plainly. -/
def ckNs (c:Ck) (i:Nat):List Int:= [c.st,c.ng,c.ns,c.nv,(c.refs.length:Int)] ++(c.refs.take i).flatMap (fun r=> [r.1,r.2])
def numsT (l:List Int):List UInt8:=l.flatMap (fun n=>vt n.toNat)
def ckBd (c:Ck) (i:Nat):ByteArray:=⟨(numsT (ckNs c i)).toArray⟩
def ckSe (c:Ck):ByteArray:=ckBd c c.refs.length++fourOf (ckBd c c.refs.length)
def ckTx (c:Ck):ByteArray:=vtB (ckSe c).size++ckSe c
noncomputable def ctT (c:Ck):Value:=if ckB c=true then .tuple #[.string (ckTx c),.bool true] else .tuple #[.string ⟨#[]⟩,.bool false]
theorem Xy{c:Ck}(h:ckB c=true):ctT c=.tuple #[.string (ckTx c),.bool true]:=if_pos h
theorem za1{c:Ck}(h:ckB c=false):ctT c=.tuple #[.string ⟨#[]⟩,.bool false]:=by unfold ctT;rw [h];rfl
theorem qT(l m:List Int):numsT (l++m)=numsT l++numsT m:=by unfold numsT;rw [List.flatMap_append]
theorem zcG{a b:ByteArray}(h:a.data.toList=b.data.toList):a=b:=by
  obtain⟨⟨a⟩⟩:=a;obtain⟨⟨b⟩⟩:=b;simp only at h;rw [h]
theorem zaL{c:Ck}{i:Nat}{r:Rf}(h:c.refs[i]? =some r):ckNs c (i+1)=ckNs c i++ [r.1,r.2]:=by
  unfold ckNs;rw [List.take_add_one,h,List.flatMap_append,List.append_assoc];simp
theorem V7{c:Ck}{i:Nat}{r:Rf}(h:c.refs[i]? =some r):ckBd c (i+1)=ckBd c i++vtB r.1.toNat++vtB r.2.toNat:=by
  apply zcG;unfold ckBd;rw [zaL h,qT];simp [numsT,vtB]
theorem zaT(c:Ck):ckBd c 0=vtB c.st.toNat++vtB c.ng.toNat++vtB c.ns.toNat++vtB c.nv.toNat++vtB c.refs.length:=by
  apply zcG;simp [ckBd,ckNs,numsT,vtB]
theorem xu{n:Nat}(h:n≤127):(vt n).length≤1:=by rw [yH h];simp
theorem Ck.ref_in{c:Ck}(h:c.ok){i:Nat}{r:Rf}(hr:c.refs[i]? =some r):(0≤r.1∧r.1≤10)∧1≤r.2∧r.2≤1000000000:=by
  have h1:=h.2.2 i r hr;have h2:1≤c.ng∧c.ng≤1000000000:=h.1.2.1;exact⟨h1.1,h1.2.1.1,by have:=h1.2.1.2;omega⟩
theorem vT{c:Ck}(h:c.ok):∀ i,i≤c.refs.length→(ckBd c i).size≤21+6 * i
  | 0,_=>by
    have e:(ckBd c 0).size=(numsT (ckNs c 0)).length:=by simp [ckBd,ByteArray.size]
    rw [e]
    have v:=fun {n:Int} (hn:1≤n∧n≤1000000000)=>Yz (n:=n.toNat) (by omega)
    have a:=v h.1.1
    have b:=v h.1.2.1
    have d:=v h.1.2.2.1
    have f:=v h.1.2.2.2
    have g:=xu (n:=c.refs.length) (by have:=h.2.1.2;omega)
    simp [ckNs,numsT]
    omega
  | i+1,hi=>by
    obtain⟨r,hr⟩:∃ r,c.refs[i]? =some r:=⟨_,List.getElem?_eq_getElem (by omega)⟩
    have ih:=vT h i (by omega)
    have hin:=c.ref_in h hr
    have a:=xu (n:=r.1.toNat) (by omega)
    have b:=Yz (n:=r.2.toNat) (by omega)
    rw [V7 hr,ByteArray.size_append,ByteArray.size_append,yc,yc]
    omega
theorem jG{c:Ck}(h:c.ok):(ckBd c c.refs.length).size≤87∧(ckSe c).size≤91∧(ckTx c).size≤92:=by
  have h1:=vT h c.refs.length (Nat.le_refl _);have h2:=h.2.1.2;have h3:(ckSe c).size=(ckBd c c.refs.length).size+4:=by unfold ckSe;rw [ByteArray.size_append,Zb]
  have h4:(ckTx c).size=(vt (ckSe c).size).length+(ckSe c).size:=by unfold ckTx;rw [ByteArray.size_append,yc]
  have h5:=xu (n:=(ckSe c).size) (by omega);omega
end Go.Proofs.YtklkhllkjnbhjaaGreatDoor
