/- Texts of our own, joined. -/
import Derived.Test.YtklkhllkjnbhjaaGreatDoorJxx
import Derived.Test.YtklkhllkjnbhjaaGreatDoorJzx
import Derived.Below
import Derived.LaidMore
/- The walk of the law on appending a record. -/
namespace Go.Proofs.YtklkhllkjnbhjaaGreatDoor
open Go.RowKit
open Lib (hid)
set_option maxRecDepth 100000
set_option maxHeartbeats 8000000
theorem LgP.aggA{B T:Nat}{w:World}{va vb vu:Value}{L:Lg}{hs:List SgH}(h:LgP B T w va vb vu L hs):LRd w (.agg #[va,vb,.int .i64 L.segs,vu,.int .i64 L.ng,.int .i64 L.ns,.int .i64 L.st,.int .i64 L.nv]) L:=⟨va,vb,vu,rfl,h.down.rd,h.use.own.rd⟩
theorem Rows'.cap{α:Type}{E:Enc α}{w:World}{a:Option Addr}{n c:Nat}{l:List α}(h:Rows' E w (.slice a n c) l)(hl:l≠ []):n≤c:=by
  rcases h with⟨rfl,_⟩ |⟨g,off,cap,e,hc,_⟩
  · exact absurd rfl hl
  · injection e with e1 e2 e3
    omega
theorem Vt (a:Option Addr) (len cap:Nat) (w:World) (hcode:CodeIn w a len) (htab:SumTab w):
    Calls Tryz.prog 3 #[.slice a len cap] w fun e w'=>e=.returned (.bool true)∧Below w.heap.size w w':=by
  by_cases hbig:(1048576:Int) <(len:Int)
  · go_enter Tryz.func3,Tryz.ntmps3
    go_wp2_with (go_at_call 5;refine(Xw a len cap _).mono ?_;rintro e w1 ⟨rfl,rfl⟩;rw [decide_eq_true hbig])
    go_ret;exact⟨rfl,Below.refl _ _⟩
  have hlen:len≤1048576:=by omega
  have HNB:Hid (decide ((1048576:Int) <(len:Int))=false):=decide_eq_false hbig;have HCO:Hid (∀ w',Below w.heap.size w w'→CodeIn w' a len∧SumTab w'):=fun w' hb=>⟨hcode.later hb,htab.later hb⟩;clear htab;go_enter Tryz.func3,Tryz.ntmps3
  go_wp2_with fail
  refine(Xw a len cap _).mono ?_;rintro e w0 ⟨rfl,rfl⟩;rw [HNB.out];go_wp2_with fail
  refine(QY a len cap _ hcode hlen).mono ?_;rintro e w1 ⟨L,k,va,vb,vu,hs,hk,hN,rfl,P1,b1⟩;have HW:=hid (hN.w (by omega));have HNS:Hid (L.ns≤2 *(k:Int) +10∧1≤L.ns):=⟨by have:=hN.v.ns;omega,hN.v.ns.1⟩;have HGI:Hid (gIts L.used≤66):=by show _≤_;have:=hN.v.its;omega
  have HL:=hid HW.out.lean;have HK33:Hid (k≤33):=hk;obtain⟨aa,ab,au,ca,cb,cu,rfl,rfl,rfl⟩:=P1.form;clear hN hcode hk
  -- the box of g
  have kA:=zb w1 (.cells (lgC (.slice aa L.d.sec.length ca) (.slice ab L.d.cache.length cb) (.slice au L.used.length cu) L) 30);have G2:=Box.new w1 (lgC (.slice aa L.d.sec.length ca) (.slice ab L.d.cache.length cb) (.slice au L.used.length cu) L) 30;have P2:=P1.later kA;have b2:=b1.trans (kA.mono b1.size);unfold lgC at kA G2 P2 b2;go_upto_region 4 with fail
  generalize w1.alloc (.cells #[.slice aa L.d.sec.length ca,.slice ab L.d.cache.length cb,.int .i64 L.segs,.slice au L.used.length cu,.int .i64 L.ng,.int .i64 L.ns,.int .i64 L.st,.int .i64 L.nv] 30)=w2 at G2 P2 b2 kA ⊢;obtain⟨gG,hgG⟩:∃ gG,w1.heap.size=gG:=⟨_,rfl⟩;rw [hgG] at G2 ⊢;clear P1 b1 kA hgG;go_wp2_with fail
  refine(xg a len cap _ (HCO.out _ b2).1 hlen).mono ?_;rintro e w3 ⟨r,⟨hr,hsl⟩,hrv,rfl,k3⟩;have kB:=zb w3 (.cells #[.int .i64 r.kind,.int .i64 r.valid,.int .i64 r.uid,.int .i64 r.next,.int .i64 r.flags,.string r.user,.string r.name,.string r.text] 33);have R4:=Box.new w3 #[.int .i64 r.kind,.int .i64 r.valid,.int .i64 r.uid,.int .i64 r.next,.int .i64 r.flags,.string r.user,.string r.name,.string r.text] 33;have G4:=(G2.later k3).later kB;have P4:=(P2.later k3).later kB;have b4:=(b2.trans (k3.mono b2.size)).trans (kB.mono (b2.trans (k3.mono b2.size)).size);unfold Rc.v;clear G2 P2 b2 k3 hsl;go_upto_region 5 with fail
  generalize w3.alloc (.cells #[.int .i64 r.kind,.int .i64 r.valid,.int .i64 r.uid,.int .i64 r.next,.int .i64 r.flags,.string r.user,.string r.name,.string r.text] 33)=w4 at G4 R4 P4 b4 kB ⊢;obtain⟨gR,hgR⟩:∃ gR,w3.heap.size=gR:=⟨_,rfl⟩;rw [hgR] at R4 ⊢;clear kB hgR
  -- what is appended
  have hix:itR (L.ns,r):=⟨⟨HNS.out.2,by have h1:=HNS.out.1;have h2:=HK33.out;show L.ns≤_;omega⟩,hr⟩;have hx1:(L.ns,r).1 < 1000000000:=by have h1:=HNS.out.1;have h2:=HK33.out;show L.ns < _;omega
  have hlt:∀ y∈its L.used,y.1 < L.ns:=fun y hy=>(HW.out.okS.2.2.2.1 y hy).1;have hcn:(its L.used).length < 200:=by rw [ZL];have:=HGI.out;omega
  have hfit:fitsB L (L.ns,r):=⟨fun j y hj e=>by have h1:=hlt y (List.mem_of_getElem? hj);have h2:y.1=L.ns:=e;omega,hcn⟩;have huq:Uniq (its L.used++ [(L.ns,r)]):=qh HW.out.q.uniq hfit.1;obtain⟨O,hO⟩:∃ O,apS L (L.ns,r) 1=O:=⟨_,rfl⟩;have hai:aiO L (L.ns,r) 1=O:=by rw [←hO];exact HW.out.ai (by omega) hix hx1 huq hcn
  have HXX:=hid (And.intro hix (And.intro hx1 (And.intro hfit huq)));have HO:=hid hO;have HAI:=hid (Jk L O r 1 _ _ _ _ _ hs w4 P4 (fun X hX=>by rw [←hai];exact jd L (L.ns,r) 1 _ _ _ _ _ hs X (P4.later hX) HL.out (HCO.out _ (b4.trans (hX.mono b4.size))).2));unfold Rc.v at HAI;obtain⟨M,hM⟩:∃ M,O.getD L=M:=⟨_,rfl⟩;obtain⟨D,hD⟩:∃ D,O.isSome=D:=⟨_,rfl⟩;have HM:=hid hM;have HD:=hid hD;obtain⟨x0,x1,x2,x3,x4,x5,x6,x7⟩:=G4.eightO;obtain⟨y0,y1,y2,y3,y4,y5,y6,y7⟩:=R4.eightO;clear hr hrv hix hx1 hlt hcn hfit huq hO hai;go_wp2_with fail
  clear x0 x1 x2 x3 x4 x5 x6 x7 y0 y1 y2 y3 y4 y5 y6 y7;refine HAI.out.mono ?_;rintro e w5 ⟨v5,rfl,o5,k5⟩;rw [hM] at o5;rw [hD];obtain⟨vd,ve,vg,hs5,rfl,Q5⟩:=o5;obtain⟨ad,ae,ag,cd,ce,cg,rfl,rfl,rfl⟩:=Q5.form;clear HAI;have kC:=zb w5 (.cells #[.slice ad M.d.sec.length cd,.slice ae M.d.cache.length ce,.int .i64 M.segs,.slice ag M.used.length cg,.int .i64 M.ng,.int .i64 M.ns,.int .i64 M.st,.int .i64 M.nv] 30);have A6:=Box.new w5 #[.slice ad M.d.sec.length cd,.slice ae M.d.cache.length ce,.int .i64 M.segs,.slice ag M.used.length cg,.int .i64 M.ng,.int .i64 M.ns,.int .i64 M.st,.int .i64 M.nv] 30;have Q6:=Q5.later kC;have k56:=k5.trans (kC.mono k5.size);have G6:=G4.later k56;have R6:=R4.later k56;have P6:=P4.later k56;have b6:=b4.trans (k56.mono b4.size);clear Q5 G4 R4 P4 b4 k5 k56;go_upto_region 6 with fail
  generalize w5.alloc (.cells #[.slice ad M.d.sec.length cd,.slice ae M.d.cache.length ce,.int .i64 M.segs,.slice ag M.used.length cg,.int .i64 M.ng,.int .i64 M.ns,.int .i64 M.st,.int .i64 M.nv] 30)=w6 at A6 Q6 G6 R6 P6 b6 kC ⊢;obtain⟨gA,hgA⟩:∃ gA,w5.heap.size=gA:=⟨_,rfl⟩;rw [hgA] at A6 ⊢;clear kC hgA;have HAS:=hid (Jc L O r 1 _ _ _ _ _ hs w6 P6 (fun X hX=>by rw [←HO.out];exact Je L (L.ns,r) 1 _ _ _ _ _ hs X (P6.later hX) HL.out HW.out (by omega) HXX.out.1 HXX.out.2.1 HXX.out.2.2.1));unfold Rc.v at HAS;obtain⟨x0,x1,x2,x3,x4,x5,x6,x7⟩:=G6.eightO;obtain⟨y0,y1,y2,y3,y4,y5,y6,y7⟩:=R6.eightO;go_wp2_with fail
  clear x0 x1 x2 x3 x4 x5 x6 x7 y0 y1 y2 y3 y4 y5 y6 y7;refine HAS.out.mono ?_;rintro e w7 ⟨v7,rfl,o7,k7⟩;rw [hM] at o7;rw [hD];obtain⟨ve1,ve2,ve3,hs7,rfl,S7⟩:=o7;obtain⟨ah,ai,aj,ch,ci,cj,rfl,rfl,rfl⟩:=S7.form;clear HAS hM hD;have kD:=zb w7 (.cells #[.slice ah M.d.sec.length ch,.slice ai M.d.cache.length ci,.int .i64 M.segs,.slice aj M.used.length cj,.int .i64 M.ng,.int .i64 M.ns,.int .i64 M.st,.int .i64 M.nv] 30);have B8:=Box.new w7 #[.slice ah M.d.sec.length ch,.slice ai M.d.cache.length ci,.int .i64 M.segs,.slice aj M.used.length cj,.int .i64 M.ng,.int .i64 M.ns,.int .i64 M.st,.int .i64 M.nv] 30;have S8:=S7.later kD;have k78:=k7.trans (kD.mono k7.size);have A8:=A6.later k78;have Q8:=Q6.later k78;have G8:=G6.later k78;have R8:=R6.later k78;have P8:=P6.later k78;have b8:=b6.trans (k78.mono b6.size);clear S7 A6 Q6 G6 R6 P6 b6 k7 k78;go_upto_region 7 with fail
  generalize w7.alloc (.cells #[.slice ah M.d.sec.length ch,.slice ai M.d.cache.length ci,.int .i64 M.segs,.slice aj M.used.length cj,.int .i64 M.ng,.int .i64 M.ns,.int .i64 M.st,.int .i64 M.nv] 30)=w8 at A8 Q8 G8 R8 P8 B8 S8 b8 kD ⊢;obtain⟨gB,hgB⟩:∃ gB,w7.heap.size=gB:=⟨_,rfl⟩;rw [hgB] at B8 ⊢;clear kD hgB;have HMW:Hid (LgW M):=by
    show LgW M
    rw [←HM.out];cases hOO:O with
    | none=>exact HW.out
    | some M1=>
      have h1:=HO.out;rw [hOO] at h1;unfold apS at h1
      split at h1
      · cases h1;exact HW.out.append HXX.out.1 HXX.out.2.1 HXX.out.2.2.2 HXX.out.2.2.1.2
      · cases h1
  have HLM:=hid HMW.out.lean;have hdd:(D !=D)=false:=by cases D <;> rfl
  have hms:M.used.length≤11:=by have h1:=HMW.out.q.cnt;have h2:=HMW.out.q.segs;omega
  have HMI:Hid (∀ b∈M.used,b.items.length≤1099511627776):=fun b hb=>by have h1:=yE hb;have h2:=HMW.out.q.few;rw [ZL] at h2;omega
  have HSL:=hid (yZ M M _ _ w8 Q8.aggA S8.aggA (by omega) HMI.out);have hse:sameP (M.same M)=true:=zx ⟨rfl,rfl,rfl,rfl⟩;rw [hse] at HSL;have HSD:=hid (fun X hX=>VH M.d _ _ X (Q8.later hX).down.rd (S8.later hX).down.rd (M.lean_small HLM.out).1);have HA8:=hid A8;have HB8:=hid B8;have HQ8:=hid Q8;have HG8:=hid G8;have HR8:=hid R8;have HP8:=hid P8;have HBE:=hid b8;obtain⟨x0,x1,x2,x3,x4,x5,x6,x7⟩:=A8.eightO;obtain⟨y0,y1,y2,y3,y4,y5,y6,y7⟩:=B8.eightO;clear A8 B8 Q8 S8 G8 R8 P8 b8 hse;go_wp2_with fail
  clear x0 x1 x2 x3 x4 x5 x6 x7 y0 y1 y2 y3 y4 y5 y6 y7;refine HSL.out.mono ?_;rintro e w9 ⟨rfl,k9⟩;have hx9:=HA8.out.later k9;have hy9:=HB8.out.later k9;have x0:=hx9.cell 0 (.slice ad M.d.sec.length cd) rfl;have x1:=hx9.cell 1 (.slice ae M.d.cache.length ce) rfl;have y0:=hy9.cell 0 (.slice ah M.d.sec.length ch) rfl;have y1:=hy9.cell 1 (.slice ai M.d.cache.length ci) rfl;have HSD9:=hid (HSD.out w9 k9);have HK9:=hid k9;clear HSL HSD hx9 hy9 k9;go_wp2_with fail
  clear x0 x1 y0 y1;refine HSD9.out.mono ?_;rintro e wC ⟨rfl,k10⟩;have HKC:=hid (HK9.out.trans (k10.mono HK9.out.size));have HBC:=hid (HBE.out.trans (HKC.out.mono HBE.out.size));clear HSD9 HK9 k10;cases D with
  | false=>
    have hOO:O=none:=by cases hOO:O with | none=>rfl | some M1=>have h1:=HD.out;rw [hOO] at h1;cases h1
    have hML:L=M:=by have h1:=HM.out;rw [hOO] at h1;exact h1
    subst hML;have HSL:=hid (yZ L L _ _ wC (HQ8.out.later HKC.out).aggA (HP8.out.later HKC.out).aggA (by omega) HMI.out);rw [show sameP (L.same L)=true from zx ⟨rfl,rfl,rfl,rfl⟩] at HSL;obtain⟨x0,x1,x2,x3,x4,x5,x6,x7⟩:=(HA8.out.later HKC.out).eightO;obtain⟨y0,y1,y2,y3,y4,y5,y6,y7⟩:=(HG8.out.later HKC.out).eightO;clear hOO;go_wp2_with fail
    clear x0 x1 x2 x3 x4 x5 x6 x7 y0 y1 y2 y3 y4 y5 y6 y7;refine HSL.out.mono ?_;rintro e wD ⟨rfl,k11⟩;have HKD:=hid (HKC.out.trans (k11.mono HKC.out.size));have HBD:=hid (HBE.out.trans (HKD.out.mono HBE.out.size));have HLO:=hid (Zg L _ wD (HQ8.out.later HKD.out).aggA HL.out (HCO.out _ HBD.out).2);rw [show sameP (lgOkI L)=true from zx HW.out.okI] at HLO;obtain⟨x0,x1,x2,x3,x4,x5,x6,x7⟩:=(HA8.out.later HKD.out).eightO;clear HSL k11;go_wp2_with fail
    clear x0 x1 x2 x3 x4 x5 x6 x7;refine HLO.out.mono ?_;rintro e wE ⟨rfl,k12⟩;have HZ:=hid (HBD.out.trans (k12.mono HBD.out.size));clear HLO k12;go_wp2_with fail
    go_ret;exact⟨rfl,HZ.out⟩
  | true=>
    obtain⟨M1,hOO⟩:∃ M1,O=some M1:=by cases hOO:O with | none=>have h1:=HD.out;rw [hOO] at h1;cases h1 | some M1=>exact⟨M1,rfl⟩
    have hMM:M1=M:=by have h1:=HM.out;rw [hOO] at h1;exact h1
    subst hMM;have hap:(apO L (L.ns,r) 1).2=true∧(apO L (L.ns,r) 1).1=M1:=by
      have h1:=HO.out;rw [hOO] at h1;unfold apS at h1
      split at h1
      · rename_i c;cases h1;exact⟨c,rfl⟩
      · cases h1
    have hapy:=HW.out.ap_yes (x:=(L.ns,r)) rfl hap.1;rw [hap.2] at hapy;have HIT:=hid hapy.1;have HMN:=hid hapy.2;have HIM:=hid (Zx M1 _ wC (HQ8.out.later HKC.out).aggA (by have:=HLM.out.2.1;omega) (M1.lean_texts HLM.out));rw [HIT.out] at HIM;obtain⟨x0,x1,x2,x3,x4,x5,x6,x7⟩:=(HA8.out.later HKC.out).eightO;clear hOO hap hapy;go_wp2_with fail
    clear x0 x1 x2 x3 x4 x5 x6 x7;refine HIM.out.mono ?_;rintro e wD ⟨vI,rfl,RI⟩;obtain⟨aI,cI,rfl,hrowI⟩:=RI.here.rows.items;have HRI:Hid _:=hrowI;have HRR:=hid RI.here.rows;have HKD:=hid (HKC.out.trans (RI.bel.mono HKC.out.size));have HIS:=hid (ZX L _ wD (HP8.out.later HKD.out).aggA (by have:=HL.out.2.1;omega));obtain⟨x0,x1,x2,x3,x4,x5,x6,x7⟩:=(HG8.out.later HKD.out).eightO;clear HIM RI hrowI;go_wp2_with fail
    clear x0 x1 x2 x3 x4 x5 x6 x7;refine HIS.out.mono ?_;rintro e wE ⟨vS,rfl,RS⟩;obtain⟨aS,cS,rfl⟩:=RS.form;have HKE:=hid (HKD.out.trans (RS.bel.mono HKD.out.size));have HRS:=hid RS.here.rows;have HRE:=hid (HRR.out.later RS.bel);have HXE:Hid (∀ X,Below wE.heap.size wE X→∀ i y,(its L.used++ [(L.ns,r)])[i]? =some y→∃ g off,aI=some ⟨g,off,none⟩∧X.cell? ⟨g,off+i * 9,none⟩=some (.int .i64 y.1)∧X.cell? ⟨g,off+i * 9+1,none⟩=some (.int .i64 y.2.kind)∧X.cell? ⟨g,off+i * 9+2,none⟩=some (.int .i64 y.2.valid)∧X.cell? ⟨g,off+i * 9+3,none⟩=some (.int .i64 y.2.uid)∧X.cell? ⟨g,off+i * 9+4,none⟩=some (.int .i64 y.2.next)∧X.cell? ⟨g,off+i * 9+5,none⟩=some (.int .i64 y.2.flags)∧X.cell? ⟨g,off+i * 9+6,none⟩=some (.string y.2.user)∧X.cell? ⟨g,off+i * 9+7,none⟩=some (.string y.2.name)∧X.cell? ⟨g,off+i * 9+8,none⟩=some (.string y.2.text)):=fun X hX i y hi=>HRI.out X (RS.bel.trans (hX.mono RS.bel.size)) i y hi;clear RS HIS HRR HRI;obtain⟨n,hn⟩:∃ n,(its L.used).length=n:=⟨_,rfl⟩;have hn1:(its L.used++ [(L.ns,r)]).length=n+1:=by rw [List.length_append,hn];rfl
    have hnl:n < 200:=by rw [←hn];exact HXX.out.2.2.1.2
    rw [hn1] at HRE;rw [hn] at HRS ⊢;obtain⟨m,hm⟩:∃ m,n+1=m:=⟨_,rfl⟩;rw [hm] at hn1 HRE ⊢;have hcap:n≤cI:=by have:=Rows'.cap HRE.out (by simp);omega
    have hat:(its L.used++ [(L.ns,r)])[n]? =some (L.ns,r):=by rw [←hn];simp
    obtain⟨gI,oI,rfl,_⟩:=HXE.out wE (Below.refl _ _) n _ hat
    have HTK:Hid (∀ X,Below wE.heap.size wE X→Rows' itE X (.slice (some ⟨gI,oI,none⟩) n cI) (its L.used)):=fun X hX=>by
      have h1:=(HRE.out.later hX).takeR n (by omega);rw [show(its L.used++ [(L.ns,r)]).take n=its L.used by rw [←hn];simp] at h1;exact h1
    have hsl:=fun X=>xJ (a:=some ⟨gI,oI,none⟩) (n:=m) (cap:=cI) (i:=n) hcap X;have hrec:=fun X=>zba r X;have hw1:IntKind.i64.wrap ((n:Int) +1)=(m:Int):=(IntWalk.i64_in _ ⟨by omega,by omega⟩).trans (by omega);have hw2:IntKind.i64.wrap (L.ns+1)=L.ns+1:=IntWalk.i64_in _ ⟨by have:=HNS.out;have:=HK33.out;omega,by have:=HNS.out;have:=HK33.out;omega⟩;have hbl:((m:Int)==(m:Int))=true:=by simp
    have hbs:(L.ns==L.ns)=true:=by simp
    have hbt:(L.ns+1==L.ns+1)=true:=by simp
    have hn0:(0:Int)≤(n:Int):=by omega
    have hnn:(n:Int) <(m:Int):=by omega
    have HBE9:=hid (HBE.out.trans (HKE.out.mono HBE.out.size));have HOM:Hid (sameP (lgOkI M1)=true):=zx HMW.out.okI;have HCE:Hid (∀ Y,Below wE.heap.size wE Y→((Y.cell? ⟨gA,0,none⟩=some (.slice ad M1.d.sec.length cd)∧Y.cell? ⟨gA,1,none⟩=some (.slice ae M1.d.cache.length ce)∧Y.cell? ⟨gA,2,none⟩=some (.int .i64 M1.segs)∧Y.cell? ⟨gA,3,none⟩=some (.slice ag M1.used.length cg)∧Y.cell? ⟨gA,4,none⟩=some (.int .i64 M1.ng)∧Y.cell? ⟨gA,5,none⟩=some (.int .i64 (L.ns+1))∧Y.cell? ⟨gA,6,none⟩=some (.int .i64 M1.st)∧Y.cell? ⟨gA,7,none⟩=some (.int .i64 M1.nv))∧(Y.cell? ⟨gR,0,none⟩=some (.int .i64 r.kind)∧Y.cell? ⟨gR,1,none⟩=some (.int .i64 r.valid)∧Y.cell? ⟨gR,2,none⟩=some (.int .i64 r.uid)∧Y.cell? ⟨gR,3,none⟩=some (.int .i64 r.next)∧Y.cell? ⟨gR,4,none⟩=some (.int .i64 r.flags)∧Y.cell? ⟨gR,5,none⟩=some (.string r.user)∧Y.cell? ⟨gR,6,none⟩=some (.string r.name)∧Y.cell? ⟨gR,7,none⟩=some (.string r.text))∧Y.cell? ⟨gG,5,none⟩=some (.int .i64 L.ns)∧(Y.cell? ⟨gI,oI+n * 9,none⟩=some (.int .i64 L.ns)∧Y.cell? ⟨gI,oI+n * 9+1,none⟩=some (.int .i64 r.kind)∧Y.cell? ⟨gI,oI+n * 9+2,none⟩=some (.int .i64 r.valid)∧Y.cell? ⟨gI,oI+n * 9+3,none⟩=some (.int .i64 r.uid)∧Y.cell? ⟨gI,oI+n * 9+4,none⟩=some (.int .i64 r.next)∧Y.cell? ⟨gI,oI+n * 9+5,none⟩=some (.int .i64 r.flags)∧Y.cell? ⟨gI,oI+n * 9+6,none⟩=some (.string r.user)∧Y.cell? ⟨gI,oI+n * 9+7,none⟩=some (.string r.name)∧Y.cell? ⟨gI,oI+n * 9+8,none⟩=some (.string r.text)))∧(LRd Y (.agg #[.slice ad M1.d.sec.length cd,.slice ae M1.d.cache.length ce,.int .i64 M1.segs,.slice ag M1.used.length cg,.int .i64 M1.ng,.int .i64 (L.ns+1),.int .i64 M1.st,.int .i64 M1.nv]) M1∧SumTab Y)∧Below w.heap.size w Y):=fun Y hY=>by
      have k8:=HKE.out.trans (hY.mono HKE.out.size);obtain⟨a0,a1,a2,a3,a4,a5,a6,a7⟩:=(HA8.out.later k8).eightO;rw [HMN.out] at a5;obtain⟨e0,e1,e2,e3,e4,e5,e6,e7⟩:=(HR8.out.later k8).eightO;have g5:=(HG8.out.later k8).cell 5 (.int .i64 L.ns) rfl;obtain⟨_,_,ee,c0,c1,c2,c3,c4,c5,c6,c7,c8⟩:=HXE.out Y hY n _ hat
      cases ee
      have r2:=(HQ8.out.later k8).aggA;rw [HMN.out] at r2;have bb:=HBE.out.trans (k8.mono HBE.out.size);exact⟨⟨⟨a0,a1,a2,a3,a4,a5,a6,a7⟩,⟨e0,e1,e2,e3,e4,e5,e6,e7⟩,g5,⟨c0,c1,c2,c3,c4,c5,c6,c7,c8⟩⟩,⟨r2,(HCO.out _ bb).2⟩,bb⟩
    go_upto_region 14 with fail
    have kk:Below wE.heap.size wE wE.drew:=(Below.refl _ _).drew;clear hn1 hat hms hm;go_region_held3 (fun Y=>((Y.cell? ⟨gA,0,none⟩=some (.slice ad M1.d.sec.length cd)∧Y.cell? ⟨gA,1,none⟩=some (.slice ae M1.d.cache.length ce)∧Y.cell? ⟨gA,2,none⟩=some (.int .i64 M1.segs)∧Y.cell? ⟨gA,3,none⟩=some (.slice ag M1.used.length cg)∧Y.cell? ⟨gA,4,none⟩=some (.int .i64 M1.ng)∧Y.cell? ⟨gA,5,none⟩=some (.int .i64 (L.ns+1))∧Y.cell? ⟨gA,6,none⟩=some (.int .i64 M1.st)∧Y.cell? ⟨gA,7,none⟩=some (.int .i64 M1.nv))∧(Y.cell? ⟨gR,0,none⟩=some (.int .i64 r.kind)∧Y.cell? ⟨gR,1,none⟩=some (.int .i64 r.valid)∧Y.cell? ⟨gR,2,none⟩=some (.int .i64 r.uid)∧Y.cell? ⟨gR,3,none⟩=some (.int .i64 r.next)∧Y.cell? ⟨gR,4,none⟩=some (.int .i64 r.flags)∧Y.cell? ⟨gR,5,none⟩=some (.string r.user)∧Y.cell? ⟨gR,6,none⟩=some (.string r.name)∧Y.cell? ⟨gR,7,none⟩=some (.string r.text))∧Y.cell? ⟨gG,5,none⟩=some (.int .i64 L.ns)∧(Y.cell? ⟨gI,oI+n * 9,none⟩=some (.int .i64 L.ns)∧Y.cell? ⟨gI,oI+n * 9+1,none⟩=some (.int .i64 r.kind)∧Y.cell? ⟨gI,oI+n * 9+2,none⟩=some (.int .i64 r.valid)∧Y.cell? ⟨gI,oI+n * 9+3,none⟩=some (.int .i64 r.uid)∧Y.cell? ⟨gI,oI+n * 9+4,none⟩=some (.int .i64 r.next)∧Y.cell? ⟨gI,oI+n * 9+5,none⟩=some (.int .i64 r.flags)∧Y.cell? ⟨gI,oI+n * 9+6,none⟩=some (.string r.user)∧Y.cell? ⟨gI,oI+n * 9+7,none⟩=some (.string r.name)∧Y.cell? ⟨gI,oI+n * 9+8,none⟩=some (.string r.text))))
      (first | exact(HCE.out _ kk).1)
      (first
        |(go_at_call 12;obtain⟨_,⟨y2,y3⟩,_⟩:=HCE.out _ kk;refine(Zg M1 _ _ y2 HLM.out y3).mono ?_;rintro e wX ⟨rfl,kX⟩;rw [HOM.out];have kk:=kk.trans (kX.mono kk.size);clear y2 y3 kX)
        |(go_at_call 15;refine(vV (its L.used) _ _ _ (HTK.out _ kk) (HRS.out.later kk) (by omega)).mono ?_;rintro e wV ⟨rfl,kX⟩;have kk:=kk.trans (kX.mono kk.size);clear kX))
    all_goals
      have bE:=(HCE.out _ kk).2.2
      go_wp2
      go_ret
      exact⟨rfl,bE⟩

/- The table of sixteen words, where the row lays it. -/
open Go.ChangeShapes Go.WideShapes Go.ChangeAt Go.RowKit
open Go.ChangeMaps (open_string shut_string)
set_option linter.unusedVariables false
theorem xQ:(Rows.laid_loop_example_g00287_impl_sumTable:DataW Unit)=Lib.tabData .u32 sumTabI:=by rfl
theorem Vp {W : World} (h : laidMetH Tryz.prog [("loop.example/g00287/impl.sumTable", Rows.laid_loop_example_g00287_impl_sumTable)] W) : SumTab W := by
  rw [MakeChecks.laidMetH_plain _ _ _ (by kernel_rfl)] at h; obtain ⟨ps, ⟨g0, t0, cs0, f0, p0, q0, hg0, ht0, hv0, hd0, _, _⟩, _⟩ := h; have hg : Tryz.prog.globalNamed "loop.example/g00287/impl.sumTable" = some 0 := by kernel_rfl
  have ht:(Tryz.prog.globals[0]?).map (·.type)=some 214:=by kernel_rfl
  obtain rfl:=Option.some.inj (hg.symm.trans hg0);obtain rfl:=Option.some.inj (ht.symm.trans ht0);unfold SumTab Lib.TabIs;rw [xQ] at hd0;rw [hv0,←Lib.cells_of_tab (P:=Tryz.prog) Tryz.underlying214 Tryz.underlying173 (by kernel_rfl) (by kernel_rfl) hd0]
end Go.Proofs.YtklkhllkjnbhjaaGreatDoor
