/- Texts of our own, joined. -/
import Derived.Test.YtklkhllkjnbhjaaGreatDoorJlx
/- Whether a log is right: its numbers, and whether a segment is on the disk: the program's nextsOk, belowNexts, holds. -/
namespace Go.Proofs.YtklkhllkjnbhjaaGreatDoor
open Go.RowKit
open Lib (hid)
set_option maxRecDepth 100000
set_option maxHeartbeats 8000000
theorem Box.eightK{w:World}{b:Nat}{u0 u1 u2 u3 u4 u5 u6 u7:Value}{t:TypeId}(h:Box w b #[u0,u1,u2,u3,u4,u5,u6,u7] t):
    w.cell? ⟨b,0,none⟩=some u0∧w.cell? ⟨b,1,none⟩=some u1∧w.cell? ⟨b,2,none⟩=some u2∧w.cell? ⟨b,3,none⟩=some u3∧w.cell? ⟨b,4,none⟩=some u4∧w.cell? ⟨b,5,none⟩=some u5∧w.cell? ⟨b,6,none⟩=some u6∧w.cell? ⟨b,7,none⟩=some u7:=
  ⟨h.cell 0 _ rfl,h.cell 1 _ rfl,h.cell 2 _ rfl,h.cell 3 _ rfl,h.cell 4 _ rfl,h.cell 5 _ rfl,h.cell 6 _ rfl,h.cell 7 _ rfl⟩
def nextsP (L:Lg):Prop:=Fr.numOk L.ng∧Fr.numOk L.ns∧Fr.numOk L.nv∧Fr.numOk L.st
def belowP (L:Lg) (s:Sg):Prop:=(∀ x∈s.items,x.1 < L.ns∧x.2.valid < L.nv)∧s.gen < L.ng
def holdsP (d:Dk) (s:Sg):Prop:=sgG (sgT d s.no)=s.gen∧(sfE (sgT d s.no):Int)=s.ende∧(sfL (sgT d s.no)).map fiO=s.items.map some
def numA4 (a b c d:Int) (i:Nat):Int:=if i=0 then a else if i=1 then b else if i=2 then c else d
theorem xO(a b c d:Int)(wx:World):(Instr.index 89 (.agg #[.int .i64 a,.int .i64 b,.int .i64 c,.int .i64 d]) (.int .i64 0)).run Tryz.prog wx=.ok (.int .i64 a) wx:=by kernel_rfl
theorem Xe(a b c d:Int)(wx:World):(Instr.index 89 (.agg #[.int .i64 a,.int .i64 b,.int .i64 c,.int .i64 d]) (.int .i64 1)).run Tryz.prog wx=.ok (.int .i64 b) wx:=by kernel_rfl
theorem Xq(a b c d:Int)(wx:World):(Instr.index 89 (.agg #[.int .i64 a,.int .i64 b,.int .i64 c,.int .i64 d]) (.int .i64 2)).run Tryz.prog wx=.ok (.int .i64 c) wx:=by kernel_rfl
theorem Xn(a b c d:Int)(wx:World):(Instr.index 89 (.agg #[.int .i64 a,.int .i64 b,.int .i64 c,.int .i64 d]) (.int .i64 3)).run Tryz.prog wx=.ok (.int .i64 d) wx:=by kernel_rfl
theorem zaS(a b c d:Int){i:Nat}(h:i < 4)(wx:World):(Instr.index 89 (.agg #[.int .i64 a,.int .i64 b,.int .i64 c,.int .i64 d]) (.int .i64 (i:Int))).run Tryz.prog wx=.ok (.int .i64 (numA4 a b c d i)) wx:=by
  have:i=0∨i=1∨i=2∨i=3:=by omega
  rcases this with rfl | rfl | rfl | rfl
  · exact xO a b c d wx
  · exact Xe a b c d wx
  · exact Xq a b c d wx
  · exact Xn a b c d wx
theorem Qu (L:Lg) (va vb vu:Value) (w:World):
    Calls Tryz.prog 33 #[.agg #[va,vb,.int .i64 L.segs,vu,.int .i64 L.ng,.int .i64 L.ns,.int .i64 L.st,.int .i64 L.nv]] w fun e w'=>e=.returned (.bool (sameP (nextsP L)))∧Below w.heap.size w w':=by
  have X0:=Box.new w #[va,vb,.int .i64 L.segs,vu,.int .i64 L.ng,.int .i64 L.ns,.int .i64 L.st,.int .i64 L.nv] 30;have b0:=zb w (.cells #[va,vb,.int .i64 L.segs,vu,.int .i64 L.ng,.int .i64 L.ns,.int .i64 L.st,.int .i64 L.nv] 30);obtain⟨D,hD⟩:∃ D,sameP (nextsP L)=D:=⟨_,rfl⟩;rw [hD];have HYES:Hid ((∀ k,k < 4→Fr.numOk (numA4 L.ng L.ns L.nv L.st k))→D=true):=fun h=>by rw [←hD];exact zx ⟨h 0 (by omega),h 1 (by omega),h 2 (by omega),h 3 (by omega)⟩
  have HNO:Hid (∀ k,k < 4→¬Fr.numOk (numA4 L.ng L.ns L.nv L.st k)→D=false):=fun k hk hb=>by
    rw [←hD];refine zi (fun c=>hb ?_);have:k=0∨k=1∨k=2∨k=3:=by omega
    rcases this with rfl | rfl | rfl | rfl
    · exact c.1
    · exact c.2.1
    · exact c.2.2.1
    · exact c.2.2.2
  clear hD;obtain⟨y0,y1,y2,y3,y4,y5,y6,y7⟩:=X0.eightK;have HB0:=hid b0;clear X0 b0;go_enter Tryz.func33,Tryz.ntmps33
  go_upto_region 1 with fail
  generalize w.alloc (.cells #[va,vb,.int .i64 L.segs,vu,.int .i64 L.ng,.int .i64 L.ns,.int .i64 L.st,.int .i64 L.nv] 30)=W at HB0 y0 y1 y2 y3 y4 y5 y6 y7 ⊢;go_wp2_with fail
  clear y0 y1 y2 y3 y4 y5 y6 y7;go_loopw [14] (fun iv wr=>∃ i:Nat,i≤4∧iv=.int .i64 (i:Int)∧Hid (∀ k,k < i→Fr.numOk (numA4 L.ng L.ns L.nv L.st k))∧wr=W) (fun iv _=>4 -(intOf iv).toNat)
  case atStart=>exact⟨0,by omega,rfl,fun k hk=>by omega,rfl⟩
  case round=>
    obtain⟨i,hi,rfl,HOK,rfl⟩:=hrel;by_cases hlt:i < 4
    · have hix:=zaS L.ng L.ns L.nv L.st hlt
      have HBAD:=hid (HNO.out i hlt);have HS:Hid (Fr.numOk (numA4 L.ng L.ns L.nv L.st i)→∀ k,k < i+1→Fr.numOk (numA4 L.ng L.ns L.nv L.st k)):=fun hb k hk=>by
        rcases Nat.lt_succ_iff_lt_or_eq.1 hk with h | rfl
        · exact HOK.out k h
        · exact hb
      generalize numA4 L.ng L.ns L.nv L.st i=N at hix HBAD HS;have hi4:(i:Int) < 4:=(by omega);by_cases hn:Fr.numOk N
      · have HS':=hid (HS.out hn)
        have hd:decide (Fr.numOk N)=true:=decide_eq_true hn;clear HS HBAD;go_wp2_with (go_at_call 61;refine(Zs _ _).mono ?_;rintro e w1 ⟨rfl,rfl⟩;rw [hd])
        go_roundw
        case rel=>exact⟨i+1,by omega,by go_num,HS',by first | rfl | trivial⟩
        case measure=>simp [intOf];omega
      · have HE:=hid (HBAD.out hn)
        have hd:decide (Fr.numOk N)=false:=decide_eq_false hn;clear HS HBAD;go_wp2_with (go_at_call 61;refine(Zs _ _).mono ?_;rintro e w1 ⟨rfl,rfl⟩;rw [hd])
        go_ret;exact⟨by rw [HE.out];first | done | rfl | simp,HB0.out⟩
    · have HE:=hid (HYES.out (fun k hk=>HOK.out k (by omega)))
      go_wp2;go_ret;exact⟨by rw [HE.out];first | done | rfl | simp,HB0.out⟩
theorem vz (L:Lg) (va vb vu:Value) (s:Sg) (am:Option Addr) (nm cm:Nat) (w:World) (h:Rows' itE w (.slice am nm cm) s.items) (hl:s.items.length≤1099511627776):
    Calls Tryz.prog 64 #[.agg #[va,vb,.int .i64 L.segs,vu,.int .i64 L.ng,.int .i64 L.ns,.int .i64 L.st,.int .i64 L.nv],.agg #[.int .i64 s.no,.int .i64 s.gen,.int .i64 s.ende,.slice am nm cm]] w fun e w'=>e=.returned (.bool (sameP (belowP L s)))∧Below w.heap.size w w':=by
  obtain⟨ad,cap,ev,hrow⟩:=h.items;injection ev with e1 e2 e3;subst e1 e2 e3;have XL0:=Box.new w #[va,vb,.int .i64 L.segs,vu,.int .i64 L.ng,.int .i64 L.ns,.int .i64 L.st,.int .i64 L.nv] 30;have b0:=zb w (.cells #[va,vb,.int .i64 L.segs,vu,.int .i64 L.ng,.int .i64 L.ns,.int .i64 L.st,.int .i64 L.nv] 30);have z0:(w.alloc (.cells #[va,vb,.int .i64 L.segs,vu,.int .i64 L.ng,.int .i64 L.ns,.int .i64 L.st,.int .i64 L.nv] 30)).heap.size=w.heap.size+1:=by simp
  have XS:=Box.new (w.alloc (.cells #[va,vb,.int .i64 L.segs,vu,.int .i64 L.ng,.int .i64 L.ns,.int .i64 L.st,.int .i64 L.nv] 30)) #[.int .i64 s.no,.int .i64 s.gen,.int .i64 s.ende,.slice am s.items.length cm] 60;have b1:=zb (w.alloc (.cells #[va,vb,.int .i64 L.segs,vu,.int .i64 L.ng,.int .i64 L.ns,.int .i64 L.st,.int .i64 L.nv] 30)) (.cells #[.int .i64 s.no,.int .i64 s.gen,.int .i64 s.ende,.slice am s.items.length cm] 60);rw [z0] at XS;have XL:=XL0.later b1;have b2:=b0.trans (b1.mono b0.size);obtain⟨D,hD⟩:∃ D,sameP (belowP L s)=D:=⟨_,rfl⟩;rw [hD];have HD:=hid hD;have HR:Hid _:=hrow;clear XL0 b0 b1 z0 hD hrow;obtain⟨W,hW⟩:∃ W,(w.alloc (.cells #[va,vb,.int .i64 L.segs,vu,.int .i64 L.ng,.int .i64 L.ns,.int .i64 L.st,.int .i64 L.nv] 30)).alloc (.cells #[.int .i64 s.no,.int .i64 s.gen,.int .i64 s.ende,.slice am s.items.length cm] 60)=W:=⟨_,rfl⟩;rw [hW] at XS XL b2;have HW:=hid hW;obtain⟨g1,hg1⟩:∃ g1,w.heap.size+1=g1:=⟨_,rfl⟩;rw [hg1] at XS;obtain⟨g0,hg0⟩:∃ g0,w.heap.size=g0:=⟨_,rfl⟩;rw [hg0] at XL;have HG:Hid (w.heap.size+1=g1∧w.heap.size=g0):=⟨hg1,hg0⟩;have HB2:=hid b2;have HXL:=hid XL;have HXS:=hid XS;obtain⟨n,hn⟩:∃ n,s.items.length=n:=⟨_,rfl⟩;have HN:=hid hn;have HW2:Hid ((w.alloc (.cells #[va,vb,.int .i64 L.segs,vu,.int .i64 L.ng,.int .i64 L.ns,.int .i64 L.st,.int .i64 L.nv] 30)).alloc (.cells #[.int .i64 s.no,.int .i64 s.gen,.int .i64 s.ende,.slice am n cm] 60)=W):=by show _=_;rw [←hn];exact hW
  rw [hn] at HXS hl ⊢;clear hW hg1 hg0 b2 XL XS hn HW h;go_enter Tryz.func64,Tryz.ntmps64
  go_upto_region 1 with fail
  rw [HW2.out,HG.out.1,HG.out.2];obtain⟨s0,s1,s2,s3,_⟩:=HXS.out.fourG;go_wp2_with fail
  clear s0 s1 s2 s3;go_loopw [10] (fun iv wr=>∃ i:Nat,i≤n∧iv=.int .i64 (i:Int)∧Hid (∀ k x,k < i→s.items[k]? =some x→x.1 < L.ns∧x.2.valid < L.nv)∧Below W.heap.size W wr) (fun iv _=>n -(intOf iv).toNat)
  case atStart=>exact⟨0,by omega,rfl,fun k x hk=>by omega,Below.refl _ _⟩
  case round=>
    obtain⟨i,hi,rfl,HOK,bq⟩:=hrel;have bw:=HB2.out.trans (bq.mono HB2.out.size);obtain⟨y0,y1,y2,y3,y4,y5,y6,y7⟩:=(HXL.out.later bq).eightK;obtain⟨s0,s1,s2,s3,_⟩:=(HXS.out.later bq).fourG;by_cases hlt:i < n
    · obtain⟨x,hgx⟩:∃ x,s.items[i]? =some x:=⟨_,List.getElem?_eq_getElem (by rw [HN.out];exact hlt)⟩
      obtain⟨ga,oa,rfl,q0,q1,q2,q3,q4,q5,q6,q7,q8⟩:=HR.out _ bw i _ hgx;have kX:=zb wr (.cells #[.int .i64 x.1,.int .i64 x.2.kind,.int .i64 x.2.valid,.int .i64 x.2.uid,.int .i64 x.2.next,.int .i64 x.2.flags,.string x.2.user,.string x.2.name,.string x.2.text] 44);have bN:=hid (bq.trans (kX.mono bq.size));have bNw:=hid (bw.trans (kX.mono bw.size));have HS:Hid (x.1 < L.ns∧x.2.valid < L.nv→∀ k y,k < i+1→s.items[k]? =some y→y.1 < L.ns∧y.2.valid < L.nv):=fun hb k y hk hy=>by
        rcases Nat.lt_succ_iff_lt_or_eq.1 hk with h | rfl
        · exact HOK.out k y h hy
        · rw [hgx] at hy;cases hy;exact hb
      have HBAD:Hid (¬(x.1 < L.ns∧x.2.valid < L.nv)→D=false):=fun hb=>by
        rw [←HD.out];exact zi (fun c=>hb (c.1 x (List.mem_of_getElem? hgx)))
      have y5':=(cell_later kX y5);have y7':=(cell_later kX y7);have s1':=(cell_later kX s1);have hi0:(0:Int)≤(i:Int):=(by omega);have hi1:(i:Int) <(n:Int):=(by omega);clear hgx kX bq bw;by_cases c1:L.ns≤x.1
      · have HE:=hid (HBAD.out (fun c=>by omega))
        clear HS HBAD;go_wp2;go_ret;exact⟨by rw [HE.out];first | done | rfl | simp,bNw.out⟩
      · by_cases c2:L.nv≤x.2.valid
        · have HE:=hid (HBAD.out (fun c=>by omega))
          clear HS HBAD;go_wp2;go_ret;exact⟨by rw [HE.out];first | done | rfl | simp,bNw.out⟩
        · have HS':=hid (HS.out ⟨by omega,by omega⟩)
          clear HS HBAD;go_wp2;exact⟨⟨i+1,by omega,by simp,HS',bN.out⟩,by first | omega |(simp [intOf];omega)⟩
    · have HALL:Hid (∀ x∈s.items,x.1 < L.ns∧x.2.valid < L.nv):=fun x hx=>by
        obtain⟨k,hk⟩:=List.getElem?_of_mem hx;exact HOK.out k x (by have:=(List.getElem?_eq_some_iff.1 hk).1;have:=HN.out;omega) hk
      have bZ:=hid bw;by_cases c:s.gen < L.ng
      · have HE:Hid (D=true):=by show _=_;rw [←HD.out];exact zx ⟨HALL.out,c⟩
        go_wp2;go_ret;exact⟨by rw [HE.out];first | done | rfl | simp,bZ.out⟩
      · have HE:Hid (D=false):=by show _=_;rw [←HD.out];exact zi (fun e=>c e.2)
        go_wp2;go_ret;exact⟨by rw [HE.out];first | done | rfl | simp,bZ.out⟩

/- Whether a segment is on the disk as it stands in the log: the program's holds. -/
theorem zaA(d:Dk)(va vb:Value)(s:Sg)(am:Option Addr)(nm cm:Nat)(w:World)(h:DRd w (.agg #[va,vb]) d)(hsm:d.small)(ht:∀ s∈d.sec,s.size≤1048576)(hu:∀ x∈d.cache,x.text.size≤1048576)(htab:SumTab w)(hi:Rows' itE w (.slice am nm cm) s.items):
    Calls Tryz.prog 63 #[.agg #[va,vb],.agg #[.int .i64 s.no,.int .i64 s.gen,.int .i64 s.ende,.slice am nm cm]] w fun e w'=>e=.returned (.bool (sameP (holdsP d s)))∧Below w.heap.size w w':=by
  have XD0:=Box.new w #[va,vb] 27;have b0:=zb w (.cells #[va,vb] 27);have z0:(w.alloc (.cells #[va,vb] 27)).heap.size=w.heap.size+1:=by simp
  have XS:=Box.new (w.alloc (.cells #[va,vb] 27)) #[.int .i64 s.no,.int .i64 s.gen,.int .i64 s.ende,.slice am nm cm] 60;have b1:=zb (w.alloc (.cells #[va,vb] 27)) (.cells #[.int .i64 s.no,.int .i64 s.gen,.int .i64 s.ende,.slice am nm cm] 60);rw [z0] at XS;have XD:=XD0.later b1;have b2:=b0.trans (b1.mono b0.size);have hsz:(sgT d s.no).size≤301989888:=Nat.le_trans (Z6 (M:=1048576) ht hu s.no) (by omega);have HFL:Hid ((sfL (sgT d s.no)).length≤301989888∧∀ f∈sfL (sgT d s.no),f.body.size≤1099511627776):=⟨Nat.le_trans (xN _) hsz,fun f hf=>by have:=(zbx _ f hf).2.2.2;omega⟩;have HSF:=hid (fun X (hX:Below w.heap.size w X)=>jO d _ s.no X (h.later hX) hsm (fun s hs=>by have:=ht s hs;omega) (fun x hx=>by have:=hu x hx;omega) (htab.later hX));have HSG0:=hid (fun X (hX:Below w.heap.size w X)=>Vi d _ s.no X (h.later hX) hsm (fun s hs=>by have:=ht s hs;omega) (fun x hx=>by have:=hu x hx;omega) (htab.later hX));have HIT:=hid hi;obtain⟨D,hD⟩:∃ D,sameP (holdsP d s)=D:=⟨_,rfl⟩;rw [hD];have HA:Hid (sgG (sgT d s.no)≠s.gen→D=false):=fun c=>by rw [←hD];exact zi (fun e=>c e.1)
  have HBB:Hid ((sfE (sgT d s.no):Int)≠s.ende→D=false):=fun c=>by rw [←hD];exact zi (fun e=>c e.2.1)
  have HCC:Hid (sgG (sgT d s.no)=s.gen→(sfE (sgT d s.no):Int)=s.ende→sameP ((sfL (sgT d s.no)).map fiO=s.items.map some)=D):=fun c1 c2=>by rw [←hD];exact yu ⟨fun e=>⟨c1,c2,e⟩,fun e=>e.2.2⟩
  clear XD0 b0 b1 z0 hD h htab hi ht hu hsm hsz;obtain⟨G,hG⟩:∃ G,sgG (sgT d s.no)=G:=⟨_,rfl⟩;obtain⟨E,hE⟩:∃ E,sfE (sgT d s.no)=E:=⟨_,rfl⟩;obtain⟨t,ht⟩:∃ t,sgT d s.no=t:=⟨_,rfl⟩;rw [hG] at HA HCC HSG0;rw [hE] at HBB HCC;unfold SfT at HSF;rw [hE] at HSF;rw [ht] at HCC HFL HSF;clear hG hE ht;obtain⟨W,hW⟩:∃ W,(w.alloc (.cells #[va,vb] 27)).alloc (.cells #[.int .i64 s.no,.int .i64 s.gen,.int .i64 s.ende,.slice am nm cm] 60)=W:=⟨_,rfl⟩;rw [hW] at XS XD b2;have HW:=hid hW;obtain⟨g1,hg1⟩:∃ g1,w.heap.size+1=g1:=⟨_,rfl⟩;rw [hg1] at XS;obtain⟨g0,hg0⟩:∃ g0,w.heap.size=g0:=⟨_,rfl⟩;rw [hg0] at XD;have HG:Hid (w.heap.size+1=g1∧w.heap.size=g0):=⟨hg1,hg0⟩;have HB2:=hid b2;have HXD:=hid XD;have HXS:=hid XS;have d0:W.cell? ⟨g0,0,none⟩=some va:=XD.cell 0 _ rfl;have d1:W.cell? ⟨g0,1,none⟩=some vb:=XD.cell 1 _ rfl;have c0:W.cell? ⟨g1,0,none⟩=some (.int .i64 s.no):=XS.cell 0 _ rfl;clear hW hg1 hg0 b2 XD XS;go_enter Tryz.func63,Tryz.ntmps63
  go_upto_region 1 with fail
  rw [HW.out,HG.out.1,HG.out.2];go_wp2_with fail
  clear d0 d1 c0;refine(HSF.out _ HB2.out).mono ?_;rintro e w2 ⟨v2,rfl,T2⟩;have hfr:=T2.rows;obtain⟨af,cf,rfl,_⟩:=hfr.framesG;have k2:=T2.bel;have HB3:=hid (HB2.out.trans (k2.mono HB2.out.size));have HSG:Hid (∀ X,Below w2.heap.size w2 X→Calls Tryz.prog 92 #[.agg #[va,vb],.int .i64 s.no] X fun e w'=>e=.returned (.int .i64 G)∧Below X.heap.size X w'):=fun X hX=>HSG0.out X (HB3.out.trans (hX.mono HB3.out.size));have HEQ0:Hid (∀ X,Below w2.heap.size w2 X→Calls Tryz.prog 93 #[.slice af (sfL t).length cf,.slice am nm cm,.func (.func 94) #[] #[]] X fun e w'=>e=.returned (.bool (sameP ((sfL t).map fiO=s.items.map some)))∧Below X.heap.size X w'):=fun X hX=>JO (sfL t) s.items _ _ X (hfr.later hX) (HIT.out.later (HB3.out.trans (hX.mono HB3.out.size))) (by have:=HFL.out.1;omega) HFL.out.2;obtain⟨nf,hnf⟩:∃ nf,(sfL t).length=nf:=⟨_,rfl⟩;rw [hnf] at HEQ0 ⊢;have XD2:=HXD.out.later k2;have XS2:=HXS.out.later k2;have r0:∀ X,Below w2.heap.size w2 X→X.cell? ⟨g0,0,none⟩=some va:=fun X hX=>(XD2.later hX).cell 0 _ rfl;have r1:∀ X,Below w2.heap.size w2 X→X.cell? ⟨g0,1,none⟩=some vb:=fun X hX=>(XD2.later hX).cell 1 _ rfl;have s0:∀ X,Below w2.heap.size w2 X→X.cell? ⟨g1,0,none⟩=some (.int .i64 s.no):=fun X hX=>(XS2.later hX).cell 0 _ rfl;have s1:∀ X,Below w2.heap.size w2 X→X.cell? ⟨g1,1,none⟩=some (.int .i64 s.gen):=fun X hX=>(XS2.later hX).cell 1 _ rfl;have s2:∀ X,Below w2.heap.size w2 X→X.cell? ⟨g1,2,none⟩=some (.int .i64 s.ende):=fun X hX=>(XS2.later hX).cell 2 _ rfl;have s3:∀ X,Below w2.heap.size w2 X→X.cell? ⟨g1,3,none⟩=some (.slice am nm cm):=fun X hX=>(XS2.later hX).cell 3 _ rfl;clear XD2 XS2 hfr T2 HXD HXS hnf k2 HSF HSG0 HB2;by_cases cA:G=s.gen
  case neg=>
    have HV:=hid (HA.out cA);have e1:(G==s.gen)=false:=beq_eq_false_iff_ne.2 cA;clear HA HBB HCC HEQ0;go_upto_region 2 with fail
    refine wp_region_held_drew (S:=fun x=>Below w2.heap.size w2 x) (by kernel_rfl) ((Below.refl _ _).drew) (fun hHeld=>?_);refine tk 0 (.agg #[va,vb]) ?_ (hr:=fun x hSx=>by have q0:=r0 x hSx;have q1:=r1 x hSx;go_simp);refine tk 1 (.pointer (some ⟨g1,0,none⟩)) ?_;refine tk 2 (.int .i64 s.no) ?_ (hr:=fun x hSx=>by have q0:=s0 x hSx;go_simp);refine tk 4 (.pointer (some ⟨g1,1,none⟩)) ?_;refine tk 5 (.int .i64 s.gen) ?_ (hr:=fun x hSx=>by have q0:=s1 x hSx;go_simp);refine ro 3 (fun K' hK=>?_);go_simp;refine(HSG.out _ (hHeld)).mono ?_;rintro e wT ⟨rfl,kT⟩;go_wp2_with fail
    refine hK.out _ _ (hHeld.trans (kT.mono hHeld.size)) (fun hS2=>?_);clear hK K' hHeld;have hHeld:=hS2;clear hS2;(try simp only [pu1,pu3,pu4,pu5]);refine tk 6 (.bool false) ?_;refine tk 7 (.bool false) ?_;refine tu 8 ?_;refine tu 9 ?_;refine tu 10 ?_;refine tu 11 ?_;refine tk 12 (.bool false) ?_;refine tk 13 (.bool false) ?_;refine tu 14 ?_;refine tu 15 ?_;refine tu 16 ?_;refine tu 17 ?_;refine tk 18 (.bool false) ?_;refine tk 19 (.bool false) ?_;refine wpAnyH_done (by kernel_rfl) ?_ _;go_wp2;go_ret;exact⟨by rw [HV.out];first | done | rfl | simp,HB3.out.trans (hHeld.mono HB3.out.size)⟩
  have e1:(G==s.gen)=true:=beq_iff_eq.2 cA;by_cases cB:(E:Int)=s.ende
  case neg=>
    have HV:=hid (HBB.out cB);have e2:((E:Int)==s.ende)=false:=beq_eq_false_iff_ne.2 cB;clear HA HBB HCC HEQ0 cA;go_upto_region 2 with fail
    refine wp_region_held_drew (S:=fun x=>Below w2.heap.size w2 x) (by kernel_rfl) ((Below.refl _ _).drew) (fun hHeld=>?_);refine tk 0 (.agg #[va,vb]) ?_ (hr:=fun x hSx=>by have q0:=r0 x hSx;have q1:=r1 x hSx;go_simp);refine tk 1 (.pointer (some ⟨g1,0,none⟩)) ?_;refine tk 2 (.int .i64 s.no) ?_ (hr:=fun x hSx=>by have q0:=s0 x hSx;go_simp);refine tk 4 (.pointer (some ⟨g1,1,none⟩)) ?_;refine tk 5 (.int .i64 s.gen) ?_ (hr:=fun x hSx=>by have q0:=s1 x hSx;go_simp);refine ro 3 (fun K' hK=>?_);go_simp;refine(HSG.out _ (hHeld)).mono ?_;rintro e wT ⟨rfl,kT⟩;go_wp2_with fail
    refine hK.out _ _ (hHeld.trans (kT.mono hHeld.size)) (fun hS2=>?_);clear hK K' hHeld;have hHeld:=hS2;clear hS2;(try simp only [pu1,pu3,pu4,pu5]);refine tk 6 (.bool true) ?_;refine tk 7 (.bool true) ?_;refine tk 8 (.int .i64 (E:Int)) ?_;refine tk 9 (.pointer (some ⟨g1,2,none⟩)) ?_;refine tk 10 (.int .i64 s.ende) ?_ (hr:=fun x hSx=>by have q0:=s2 x hSx;go_simp);refine tk 11 (.bool false) ?_;refine tk 12 (.bool false) ?_;refine tk 13 (.bool false) ?_;refine tu 14 ?_;refine tu 15 ?_;refine tu 16 ?_;refine tu 17 ?_;refine tk 18 (.bool false) ?_;refine tk 19 (.bool false) ?_;refine wpAnyH_done (by kernel_rfl) ?_ _;go_wp2;go_ret;exact⟨by rw [HV.out];first | done | rfl | simp,HB3.out.trans (hHeld.mono HB3.out.size)⟩
  have HV:=hid (HCC.out cA cB);have HEQ:=hid HEQ0.out;rw [HV.out] at HEQ;have e2:((E:Int)==s.ende)=true:=beq_iff_eq.2 cB;clear HA HBB HCC HEQ0 cA cB;go_upto_region 2 with fail
  refine wp_region_held_drew (S:=fun x=>Below w2.heap.size w2 x) (by kernel_rfl) ((Below.refl _ _).drew) (fun hHeld=>?_);refine tk 0 (.agg #[va,vb]) ?_ (hr:=fun x hSx=>by have q0:=r0 x hSx;have q1:=r1 x hSx;go_simp);refine tk 1 (.pointer (some ⟨g1,0,none⟩)) ?_;refine tk 2 (.int .i64 s.no) ?_ (hr:=fun x hSx=>by have q0:=s0 x hSx;go_simp);refine tk 4 (.pointer (some ⟨g1,1,none⟩)) ?_;refine tk 5 (.int .i64 s.gen) ?_ (hr:=fun x hSx=>by have q0:=s1 x hSx;go_simp);refine ro 3 (fun K' hK=>?_);go_simp;refine(HSG.out _ (hHeld)).mono ?_;rintro e wT ⟨rfl,kT⟩;go_wp2_with fail
  refine hK.out _ _ (hHeld.trans (kT.mono hHeld.size)) (fun hS2=>?_);clear hK K' hHeld;have hHeld:=hS2;clear hS2;(try simp only [pu1,pu3,pu4,pu5]);refine tk 6 (.bool true) ?_;refine tk 7 (.bool true) ?_;refine tk 8 (.int .i64 (E:Int)) ?_;refine tk 9 (.pointer (some ⟨g1,2,none⟩)) ?_;refine tk 10 (.int .i64 s.ende) ?_ (hr:=fun x hSx=>by have q0:=s2 x hSx;go_simp);refine tk 11 (.bool true) ?_;refine tk 12 (.bool true) ?_;refine tk 13 (.bool true) ?_;refine tk 14 (.slice af nf cf) ?_;refine tk 15 (.pointer (some ⟨g1,3,none⟩)) ?_;refine tk 16 (.slice am nm cm) ?_ (hr:=fun x hSx=>by have q0:=s3 x hSx;go_simp);refine ro 17 (fun K' hK=>?_);go_simp;refine(HEQ.out _ (hHeld)).mono ?_;rintro e wT ⟨rfl,kT⟩;go_wp2_with fail
  refine hK.out _ _ (hHeld.trans (kT.mono hHeld.size)) (fun hS2=>?_);clear hK K' hHeld;have hHeld:=hS2;clear hS2;(try simp only [pu1,pu3,pu4,pu5]);refine tk 18 (.bool D) ?_;refine tk 19 (.bool D) ?_;refine wpAnyH_done (by kernel_rfl) ?_ _;go_wp2;go_ret;exact⟨rfl,HB3.out.trans (hHeld.mono HB3.out.size)⟩
end Go.Proofs.YtklkhllkjnbhjaaGreatDoor
