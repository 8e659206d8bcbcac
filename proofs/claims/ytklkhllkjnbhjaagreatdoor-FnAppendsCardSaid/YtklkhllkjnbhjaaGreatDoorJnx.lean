/- Texts of our own, joined. -/
import Derived.Test.YtklkhllkjnbhjaaGreatDoorJmx
import Derived.Test.YtklkhllkjnbhjaaGreatDoorJo
import Derived.Maps.RangeWalk
import Derived.Maps.OwnSet
/- Whether the segments of a log are right: the program's usedOk. -/
namespace Go.Proofs.YtklkhllkjnbhjaaGreatDoor
open Go.RowKit
open Lib (hid)
set_option maxRecDepth 100000
set_option maxHeartbeats 8000000
def lastG (u:List Sg):Nat→Int
  | 0=>0
  | i+1=>match u[i]? with | some s=>s.gen | none=>0
theorem jc{u:List Sg}{i:Nat}{s:Sg}(h:u[i]? =some s):lastG u (i+1)=s.gen:=by
  show(match u[i]? with | some s=>s.gen | none=>0)=s.gen
  rw [h]
def stepP (L:Lg) (i:Nat) (s:Sg):Prop:=lastG L.used i < s.gen∧0≤s.no∧s.no < L.segs∧hasB (L.used.take i) s.no=false∧holdsP L.d s∧belowP L s
def usedP (L:Lg):Prop:=(1≤L.used.length∧(L.used.length:Int)≤L.segs)∧∀(i:Nat) (s:Sg),L.used[i]? =some s→stepP L i s
theorem GRd.take {w:World} {a:Option Addr} {n c k:Nat} {u:List Sg} (h:GRd w (.slice a n c) u) (hk:k≤n):GRd w (.slice a k c) (u.take k):=by
  obtain⟨hs,h1,h2,h3⟩:=h;refine⟨hs.take k,?_,by rw [List.length_take,List.length_take,h2],fun j x b e1 e2=>?_⟩
  · rcases h1.ways with⟨e,a',c',e'⟩ |⟨hne,g,off,c',e',hc,hg,hcl⟩
    · injection e' with q1 q2 q3
      subst q1 q2 q3;left;have hk0:k=0:=(by omega);subst hk0;exact⟨by simp,_,_,rfl⟩
    · injection e' with q1 q2 q3
      subst q1 q2 q3;by_cases hk0:k=0
      · subst hk0
        left;exact⟨by simp,_,_,rfl⟩
      · have hl:(hs.take k).length=k:=by rw [List.length_take];omega
        right;refine⟨g,off,c,by rw [hl],by omega,hg,fun j x hj kk u hu=>?_⟩;rw [List.getElem?_take] at hj
        split at hj
        · exact hcl j x hj kk u hu
        · cases hj
  · rw [List.getElem?_take] at e1 e2
    split at e1
    · rename_i c1
      rw [if_pos c1] at e2;exact h3 j x b e1 e2
    · cases e1
theorem GRd.capLe{w:World}{a:Option Addr}{n c:Nat}{u:List Sg}(h:GRd w (.slice a n c) u)(hn:0 < n):n≤c:=by
  obtain⟨hs,h1,h2,h3⟩:=h;rcases h1.ways with⟨e,a',c',e'⟩ |⟨hne,g,off,c',e',hc,hg,hcl⟩
  · injection e' with q1 q2 q3;omega
  · injection e' with q1 q2 q3
    subst q1 q2 q3;exact hc
theorem xA{a:Option Addr}{n cap i:Nat}(h:i≤cap)(wx:World):(Instr.slice 28 (.slice a n cap) none (some (.int .i64 (i:Int))) none).run Tryz.prog wx=.ok (.slice a i cap) wx:=by
  rw [run_slice_h (P:=Tryz.prog) wx 28 _ n cap (by kernel_rfl) .i64 (i:Int) (by omega) (by omega)];rw [show Tryz.prog.elem 28=60 by kernel_rfl,Tryz.sizeOf60];simp [Result.andThen,sliced,Addr.add]
theorem xU (L :Lg) (v:Value) (w:World) (h:LRd w v L) (hl:L.used.length≤1048576) (hil:∀ b∈L.used,b.items.length≤1048576) (hsm:L.d.small) (ht:∀ s∈L.d.sec,s.size≤1048576) (hu:∀ x∈L.d.cache,x.text.size≤1048576) (htab:SumTab w):
    Calls Tryz.prog 34 #[v] w fun e w'=>e=.returned (.bool (sameP (usedP L)))∧Below w.heap.size w w':=by
  obtain⟨va,vb,vu,rfl,hdr,hgr⟩:=h;obtain⟨au,cu,rfl,hrow⟩:=hgr.segs;have b0:=zb w (.cells #[va,vb,.int .i64 L.segs,.slice au L.used.length cu,.int .i64 L.ng,.int .i64 L.ns,.int .i64 L.st,.int .i64 L.nv] 30);have X0:=Box.new w #[va,vb,.int .i64 L.segs,.slice au L.used.length cu,.int .i64 L.ng,.int .i64 L.ns,.int .i64 L.st,.int .i64 L.nv] 30;obtain⟨D,hD⟩:∃ D,sameP (usedP L)=D:=⟨_,rfl⟩;rw [hD];have HLEN:Hid (¬(1≤L.used.length∧(L.used.length:Int)≤L.segs)→D=false):=fun c=>by rw [←hD];exact zi (fun e=>c e.1)
  have HBAD:Hid (∀(i:Nat) (s:Sg),L.used[i]? =some s→¬stepP L i s→D=false):=fun i s hs c=>by rw [←hD];exact zi (fun e=>c (e.2 i s hs))
  have HGOOD:Hid ((1≤L.used.length∧(L.used.length:Int)≤L.segs)→(∀(i:Nat) (s:Sg),L.used[i]? =some s→stepP L i s)→D=true):=fun c1 c2=>by rw [←hD];exact zx ⟨c1,c2⟩
  have HHO:Hid (∀(s:Sg) (am:Option Addr) (nm cm:Nat) X,Below w.heap.size w X→Rows' itE X (.slice am nm cm) s.items→Calls Tryz.prog 63 #[.agg #[va,vb],.agg #[.int .i64 s.no,.int .i64 s.gen,.int .i64 s.ende,.slice am nm cm]] X fun e w'=>e=.returned (.bool (sameP (holdsP L.d s)))∧Below X.heap.size X w'):=fun s am nm cm X hX hi=>zaA L.d va vb s am nm cm X (hdr.later hX) hsm ht hu (htab.later hX) hi;have HBN:Hid (∀(s:Sg) (am:Option Addr) (nm cm:Nat) X,s∈L.used→Rows' itE X (.slice am nm cm) s.items→Calls Tryz.prog 64 #[.agg #[va,vb,.int .i64 L.segs,.slice au L.used.length cu,.int .i64 L.ng,.int .i64 L.ns,.int .i64 L.st,.int .i64 L.nv],.agg #[.int .i64 s.no,.int .i64 s.gen,.int .i64 s.ende,.slice am nm cm]] X fun e w'=>e=.returned (.bool (sameP (belowP L s)))∧Below X.heap.size X w'):=fun s am nm cm X hs hi=>vz L va vb _ s am nm cm X hi (by have:=hil s hs;omega);have HHN0:Hid (∀(k:Nat) (no:Int) X,k≤L.used.length→Below w.heap.size w X→Calls Tryz.prog 62 #[.slice au k cu,.int .i64 no] X fun e w'=>e=.returned (.bool (hasB (L.used.take k) no))∧Below X.heap.size X w'):=fun k no X hk hX=>V6 _ _ no X ((hgr.later hX).take hk) (by rw [List.length_take];omega);have HCAP:Hid (0 < L.used.length→L.used.length≤cu):=fun c=>hgr.capLe c;have HR:Hid _:=hrow;clear hD hrow hgr hdr hsm ht hu htab hil;obtain⟨W,hW⟩:∃ W,w.alloc (.cells #[va,vb,.int .i64 L.segs,.slice au L.used.length cu,.int .i64 L.ng,.int .i64 L.ns,.int .i64 L.st,.int .i64 L.nv] 30)=W:=⟨_,rfl⟩;rw [hW] at b0 X0;have HW:=hid hW;clear hW;obtain⟨n,hn⟩:∃ n,L.used.length=n:=⟨_,rfl⟩;have HN:=hid hn;simp only [hn] at X0 HW HLEN HGOOD HBN HHN0 HCAP hl ⊢;clear hn;obtain⟨g0,hg0⟩:∃ g0,w.heap.size=g0:=⟨_,rfl⟩;rw [hg0] at X0;have HG0:=hid hg0;clear hg0;have HX0:=hid X0;have HB0:=hid b0;obtain⟨l0,l1,l2,l3,l4,l5,l6,l7⟩:=X0.eightK;clear X0 b0;by_cases hlen:1≤n∧(n:Int)≤L.segs
  case neg=>
    have HV:=hid (HLEN.out hlen);by_cases c1:n < 1
    · have hn0:n=0:=by omega
      clear HLEN HGOOD HBAD HHO HBN HHN0 HCAP HN;subst hn0;go_enter Tryz.func34,Tryz.ntmps34
      go_upto_region 1 with fail
      rw [HW.out,HG0.out];go_wp2;go_ret;exact⟨by rw [HV.out];first | done | rfl | simp,HB0.out⟩
    · have c2:¬((n:Int) < 1):=by omega
      have c3:(n:Int) > L.segs:=(by omega);have c4:L.segs <(n:Int):=c3;clear HLEN HGOOD HBAD HHO HBN HHN0 HCAP;go_enter Tryz.func34,Tryz.ntmps34
      go_upto_region 1 with fail
      rw [HW.out,HG0.out];go_wp2;go_ret;exact⟨by rw [HV.out];first | done | rfl | simp,HB0.out⟩
  have c2:¬((n:Int) < 1):=by omega
  have c3:¬((n:Int) > L.segs):=by omega
  have c4:¬(L.segs <(n:Int)):=c3;have HGD:=hid (HGOOD.out hlen);clear HLEN HGOOD;go_enter Tryz.func34,Tryz.ntmps34
  go_upto_region 1 with fail
  rw [HW.out,HG0.out];have B0:Below W.heap.size W W:=Below.refl _ _;go_wp2_with fail
  clear l0 l1 l2 l3 l4 l5 l6 l7 c2 c3 c4;go_loopw [3,21] (fun lv iv wr=>∃ k:Nat,k≤n∧iv=.int .i64 (k:Int)∧lv=.int .i64 (lastG L.used k)∧Hid (∀(i:Nat) (s:Sg),i < k→L.used[i]? =some s→stepP L i s)∧Below W.heap.size W wr) (fun _ iv _=>n -(intOf iv).toNat)
  case atStart=>exact⟨0,by omega,rfl,rfl,fun i s hi=>by omega,B0⟩
  case round=>
    clear B0;obtain⟨k,hk,rfl,rfl,HOK,bq⟩:=hrel;have bw:=HB0.out.trans (bq.mono HB0.out.size);by_cases hlt:k < n
    · obtain ⟨s,hgs⟩:∃ s,L.used[k]? =some s:=⟨_,List.getElem?_eq_getElem (by rw [HN.out];exact hlt)⟩
      obtain⟨ga,oa,am,nm,cm,rfl,a0,a1,a2,a3,rm⟩:=HR.out _ bw k s hgs;have kS:=zb wr (.cells #[.int .i64 s.no,.int .i64 s.gen,.int .i64 s.ende,.slice am nm cm] 60);have XS:=Box.new wr #[.int .i64 s.no,.int .i64 s.gen,.int .i64 s.ende,.slice am nm cm] 60;have XL:=(HX0.out.later bq).later kS;have bS:=bq.trans (kS.mono bq.size);have bSw:=bw.trans (kS.mono bw.size);have HMEM:Hid (s∈L.used):=List.mem_of_getElem? hgs;have HNEXT:=hid (jc hgs);have HB1:=hid (HBAD.out k s hgs);have HS1:Hid (stepP L k s→∀(i:Nat) (t:Sg),i < k+1→L.used[i]? =some t→stepP L i t):=fun hb i t hi ht=>by
        rcases Nat.lt_succ_iff_lt_or_eq.1 hi with c | rfl
        · exact HOK.out i t c ht
        · rw [hgs] at ht;cases ht;exact hb
      obtain⟨lg,hlg⟩:∃ lg,lastG L.used k=lg:=⟨_,rfl⟩;have HLG:=hid hlg;have hcap:=HCAP.out (by omega);have hsl:=fun X=>xA (a:=some ⟨ga,oa,none⟩) (n:=n) (cap:=cu) (i:=k) (by omega) X;rw [hlg];have hi0:(0:Int)≤(k:Int):=(by omega);have hi1:(k:Int) <(n:Int):=(by omega);clear hgs hlg hcap bq bw HOK;go_upto_region 7 with fail
      clear a0 a1 a2 a3;obtain⟨wS,hwS⟩:∃ wS,wr.alloc (.cells #[.int .i64 s.no,.int .i64 s.gen,.int .i64 s.ende,.slice am nm cm] 60)=wS:=⟨_,rfl⟩;obtain⟨gs,hgs⟩:∃ gs,wr.heap.size=gs:=⟨_,rfl⟩;have hri:Rows' itE wS (.slice am nm cm) s.items:=(by rw [←hwS];exact rm.later bSw);rw [hwS] at XS XL bS bSw ⊢;rw [hgs] at XS ⊢;clear hwS hgs kS rm;have s0:∀ X,Below wS.heap.size wS X→X.cell? ⟨gs,0,none⟩=some (.int .i64 s.no):=fun X hX=>(XS.later hX).cell 0 _ rfl;have s1:∀ X,Below wS.heap.size wS X→X.cell? ⟨gs,1,none⟩=some (.int .i64 s.gen):=fun X hX=>(XS.later hX).cell 1 _ rfl;have l2:∀ X,Below wS.heap.size wS X→X.cell? ⟨g0,2,none⟩=some (.int .i64 L.segs):=fun X hX=>(XL.later hX).cell 2 _ rfl;have l3:∀ X,Below wS.heap.size wS X→X.cell? ⟨g0,3,none⟩=some (.slice (some ⟨ga,oa,none⟩) n cu):=fun X hX=>(XL.later hX).cell 3 _ rfl;have HHN1:Hid (∀ X,Below wS.heap.size wS X→Calls Tryz.prog 62 #[.slice (some ⟨ga,oa,none⟩) k cu,.int .i64 s.no] X fun e w'=>e=.returned (.bool (hasB (L.used.take k) s.no))∧Below X.heap.size X w'):=fun X hX=>HHN0.out k s.no X (by omega) (bSw.trans (hX.mono bSw.size));have HXS:=hid XS;have HXL:=hid XL;have HBS:=hid bS;have HBW:=hid bSw;have HRI:=hid hri;clear XS XL bS bSw hri;by_cases cA:s.gen≤lg
      · have HV:=hid (HB1.out (fun e=>by have:=e.1;rw [HLG.out] at this;omega))
        clear HB1 HS1;refine wp_region_held_drew (S:=fun x=>Below wS.heap.size wS x) (by kernel_rfl) ((Below.refl _ _).drew) (fun hHeld=>?_);refine tk 0 (.pointer (some ⟨gs,1,none⟩)) ?_;refine tk 1 (.int .i64 s.gen) ?_ (hr:=fun x hSx=>by have q0:=s1 x hSx;go_simp);refine tk 2 (.int .i64 lg) ?_;refine tk 3 (.bool true) ?_;refine tk 4 (.bool true) ?_;refine tu 5 ?_;refine tu 6 ?_;refine tu 7 ?_;refine tk 8 (.bool true) ?_;refine tk 9 (.bool true) ?_;refine tu 10 ?_;refine tu 11 ?_;refine tu 12 ?_;refine tu 13 ?_;refine tu 14 ?_;refine tk 15 (.bool true) ?_;refine tk 16 (.bool true) ?_;refine tu 17 ?_;refine tu 18 ?_;refine tu 19 ?_;refine tu 20 ?_
        refine tu 21 ?_;refine tu 22 ?_;refine tu 23 ?_;refine tk 24 (.bool true) ?_;refine wpAnyH_done (by kernel_rfl) ?_ _;go_wp2;go_ret;exact⟨by rw [HV.out];first | done | rfl | simp,HBW.out.trans (hHeld.mono HBW.out.size)⟩
      by_cases cB:s.no < 0
      · have HV:=hid (HB1.out (fun e=>by have:=e.2.1;omega))
        clear HB1 HS1;refine wp_region_held_drew (S:=fun x=>Below wS.heap.size wS x) (by kernel_rfl) ((Below.refl _ _).drew) (fun hHeld=>?_);refine tk 0 (.pointer (some ⟨gs,1,none⟩)) ?_;refine tk 1 (.int .i64 s.gen) ?_ (hr:=fun x hSx=>by have q0:=s1 x hSx;go_simp);refine tk 2 (.int .i64 lg) ?_;refine tk 3 (.bool false) ?_;refine tk 4 (.bool false) ?_;refine tk 5 (.pointer (some ⟨gs,0,none⟩)) ?_;refine tk 6 (.int .i64 s.no) ?_ (hr:=fun x hSx=>by have q0:=s0 x hSx;go_simp);refine tk 7 (.bool true) ?_;refine tk 8 (.bool true) ?_;refine tk 9 (.bool true) ?_;refine tu 10 ?_;refine tu 11 ?_;refine tu 12 ?_;refine tu 13 ?_;refine tu 14 ?_;refine tk 15 (.bool true) ?_;refine tk 16 (.bool true) ?_;refine tu 17 ?_;refine tu 18 ?_;refine tu 19 ?_;refine tu 20 ?_;refine tu 21 ?_;refine tu 22 ?_;refine tu 23 ?_;refine tk 24 (.bool true) ?_;refine wpAnyH_done (by kernel_rfl) ?_ _;go_wp2;go_ret;exact⟨by rw [HV.out];first | done | rfl | simp,HBW.out.trans (hHeld.mono HBW.out.size)⟩
      by_cases cC:L.segs≤s.no
      · have HV:=hid (HB1.out (fun e=>by have:=e.2.2.1;omega))
        clear HB1 HS1;refine wp_region_held_drew (S:=fun x=>Below wS.heap.size wS x) (by kernel_rfl) ((Below.refl _ _).drew) (fun hHeld=>?_);refine tk 0 (.pointer (some ⟨gs,1,none⟩)) ?_;refine tk 1 (.int .i64 s.gen) ?_ (hr:=fun x hSx=>by have q0:=s1 x hSx;go_simp);refine tk 2 (.int .i64 lg) ?_;refine tk 3 (.bool false) ?_;refine tk 4 (.bool false) ?_;refine tk 5 (.pointer (some ⟨gs,0,none⟩)) ?_;refine tk 6 (.int .i64 s.no) ?_ (hr:=fun x hSx=>by have q0:=s0 x hSx;go_simp);refine tk 7 (.bool false) ?_;refine tk 8 (.bool false) ?_;refine tk 9 (.bool false) ?_;refine tk 10 (.pointer (some ⟨gs,0,none⟩)) ?_;refine tk 11 (.int .i64 s.no) ?_ (hr:=fun x hSx=>by have q0:=s0 x hSx;go_simp);refine tk 12 (.pointer (some ⟨g0,2,none⟩)) ?_;refine tk 13 (.int .i64 L.segs) ?_ (hr:=fun x hSx=>by have q0:=l2 x hSx;go_simp);refine tk 14 (.bool true) ?_;refine tk 15 (.bool true) ?_;refine tk 16 (.bool true) ?_
        refine tu 17 ?_;refine tu 18 ?_;refine tu 19 ?_;refine tu 20 ?_;refine tu 21 ?_;refine tu 22 ?_;refine tu 23 ?_;refine tk 24 (.bool true) ?_;refine wpAnyH_done (by kernel_rfl) ?_ _;go_wp2;go_ret;exact⟨by rw [HV.out];first | done | rfl | simp,HBW.out.trans (hHeld.mono HBW.out.size)⟩
      obtain⟨H,hH⟩:∃ H,hasB (L.used.take k) s.no=H:=⟨_,rfl⟩;have HHN:=hid HHN1.out;rw [hH] at HHN;have HHH:=hid hH;clear hH HHN1;go_cut [50] (fun c wc=>c=.bool H∧Below wS.heap.size wS wc)
      case first=>
        clear HB1 HS1;refine wp_region_held_drew (S:=fun x=>Below wS.heap.size wS x) (by kernel_rfl) ((Below.refl _ _).drew) (fun hHeld=>?_);refine tk 0 (.pointer (some ⟨gs,1,none⟩)) ?_;refine tk 1 (.int .i64 s.gen) ?_ (hr:=fun x hSx=>by have q0:=s1 x hSx;go_simp);refine tk 2 (.int .i64 lg) ?_;refine tk 3 (.bool false) ?_;refine tk 4 (.bool false) ?_;refine tk 5 (.pointer (some ⟨gs,0,none⟩)) ?_;refine tk 6 (.int .i64 s.no) ?_ (hr:=fun x hSx=>by have q0:=s0 x hSx;go_simp);refine tk 7 (.bool false) ?_;refine tk 8 (.bool false) ?_;refine tk 9 (.bool false) ?_;refine tk 10 (.pointer (some ⟨gs,0,none⟩)) ?_;refine tk 11 (.int .i64 s.no) ?_ (hr:=fun x hSx=>by have q0:=s0 x hSx;go_simp);refine tk 12 (.pointer (some ⟨g0,2,none⟩)) ?_;refine tk 13 (.int .i64 L.segs) ?_ (hr:=fun x hSx=>by have q0:=l2 x hSx;go_simp);refine tk 14 (.bool false) ?_;refine tk 15 (.bool false) ?_;refine tk 16 (.bool false) ?_
        refine tk 17 (.pointer (some ⟨g0,3,none⟩)) ?_;refine tk 18 (.slice (some ⟨ga,oa,none⟩) n cu) ?_ (hr:=fun x hSx=>by have q0:=l3 x hSx;go_simp);refine tk 19 (.int .i64 (k:Int)) ?_;refine tk 20 (.slice (some ⟨ga,oa,none⟩) k cu) ?_;refine tk 21 (.pointer (some ⟨gs,0,none⟩)) ?_;refine tk 22 (.int .i64 s.no) ?_ (hr:=fun x hSx=>by have q0:=s0 x hSx;go_simp);refine ro 23 (fun K' hK=>?_);go_simp;refine(HHN.out _ hHeld).mono ?_;rintro e wT ⟨rfl,kT⟩;go_wp2_with fail
        refine hK.out _ _ (hHeld.trans (kT.mono hHeld.size)) (fun hS2=>?_);clear hK K' hHeld;have hHeld:=hS2;clear hS2;(try simp only [pu1,pu3,pu4,pu5]);refine tk 24 (.bool H) ?_;refine wpAnyH_done (by kernel_rfl) ?_ _;go_wp2_with fail
        go_meet;exact⟨rfl,hHeld⟩
      case rest=>
      obtain⟨rfl,k5⟩:=hcut;cases H with
      | true=>
        have HV:=hid (HB1.out (fun e=>by have:=e.2.2.2.1;rw [HHH.out] at this;cases this));have bZ:=hid (HBW.out.trans (k5.mono HBW.out.size));clear HB1 HS1;go_wp2;go_ret;exact⟨by rw [HV.out];first | done | rfl | simp,bZ.out⟩
      | false =>
        obtain⟨l0,l1,l2,l3,l4,l5,l6,l7⟩:=(HXL.out.later k5).eightK;obtain⟨s0,s1,s2,s3,_⟩:=(HXS.out.later k5).fourG;have HH:=hid (HHO.out s am nm cm wc (HBW.out.trans (k5.mono HBW.out.size)) (HRI.out.later k5));obtain⟨P,hP⟩:∃ P,sameP (holdsP L.d s)=P:=⟨_,rfl⟩;rw [hP] at HH;have HP:=hid hP;clear hP;go_wp2_with fail
        clear l0 l1 l2 l3 l4 l5 l6 l7 s0 s1 s2 s3;refine HH.out.mono ?_;rintro e w6 ⟨rfl,k6⟩;have k7:=k5.trans (k6.mono k5.size);cases P with
        | false=>
          have HV:=hid (HB1.out (fun e=>by have h8:=HP.out;rw [zx e.2.2.2.2.1] at h8;cases h8));have bZ:=hid (HBW.out.trans (k7.mono HBW.out.size));clear HB1 HS1;go_wp2;go_ret;exact⟨by rw [HV.out];first | done | rfl | simp,bZ.out⟩
        | true=>
          obtain⟨l0,l1,l2,l3,l4,l5,l6,l7⟩:=(HXL.out.later k7).eightK;obtain⟨s0,s1,s2,s3,_⟩:=(HXS.out.later k7).fourG;have HQ:=hid (HBN.out s am nm cm w6 HMEM.out (HRI.out.later k7));obtain⟨R,hR⟩:∃ R,sameP (belowP L s)=R:=⟨_,rfl⟩;rw [hR] at HQ;have HRR:=hid hR;clear hR;go_wp2_with fail
          clear l0 l1 l2 l3 l4 l5 l6 l7 s0 s1 s2 s3;refine HQ.out.mono ?_;rintro e w8 ⟨rfl,k8⟩;have k9:=k7.trans (k8.mono k7.size);have bZ:=hid (HBW.out.trans (k9.mono HBW.out.size));have bY:=hid (HBS.out.trans (k9.mono HBS.out.size));cases R with
          | false=>
            have HV:=hid (HB1.out (fun e=>by have h8:=HRR.out;rw [zx e.2.2.2.2.2] at h8;cases h8));clear HB1 HS1;go_wp2;go_ret;exact⟨by rw [HV.out];first | done | rfl | simp,bZ.out⟩
          | true=>
            have hp1:holdsP L.d s:=by
              have h8:=HP.out;by_cases c:holdsP L.d s
              · exact c
              · rw [zi c] at h8;cases h8
            have hp2:belowP L s:=by
              have h8:=HRR.out;by_cases c:belowP L s
              · exact c
              · rw [zi c] at h8;cases h8
            have hst:stepP L k s:=⟨(by rw [HLG.out];omega),(by omega),(by omega),HHH.out,hp1,hp2⟩;clear hp1 hp2;have HS2:=hid (HS1.out hst);have s1:=((HXS.out.later k9).fourG).2.1;clear HB1 HS1 hst;go_wp2;exact⟨⟨k+1,by omega,by simp,by rw [HNEXT.out],HS2,bY.out⟩,by first | omega |(simp [intOf];omega)⟩
    · have HV:=hid (HGD.out (fun i s hs=>HOK.out i s (by have:=(List.getElem?_eq_some_iff.1 hs).1;have:=HN.out;omega) hs))
      have bZ:=hid bw;go_wp2;go_ret;exact⟨by rw [HV.out];first | done | rfl | simp,bZ.out⟩

/- Maps of a call's own, as functions: at each key what stands there, or nothing. -/
open Go.Maps (Keyed)
section
variable {β : Type}
open Classical in
noncomputable def shp (mk:β→Value) (v:Value):Option (DataW β×List MemPlace):=
  if h:∃ c,v=mk c then some (.held (Classical.choose h),[]) else none
theorem zcn{mk:β→Value}{v:Value}{y:DataW β×List MemPlace}(h:shp mk v=some y):∃ c,v=mk c∧y=(.held c,[]):=by
  unfold shp at h
  split at h
  · rename_i hc
    cases h
    exact⟨_,Classical.choose_spec hc,rfl⟩
  · cases h
theorem zc2{mk:β→Value}(hi:∀ x y,mk x=mk y→x=y)(c:β):shp mk (mk c)=some (.held c,[]):=by
  unfold shp;have h:∃ c',mk c=mk c':=⟨c,rfl⟩;rw [dif_pos h];have:=hi _ _ (Classical.choose_spec h);rw [←this]
end
structure KeyE (P:Program) (κ:Type) where
  ty:TypeId
  law:Keyed P ty
  val:κ→Value
  lit:κ→Lit
  ok:κ→Prop
  key:∀ x,ok x→keyOf P ty (val x)=some (lit x)
  inv:∀ v l,keyOf P ty v=some l→∃ x,ok x∧v=val x
  inj:∀ x y,val x=val y→x=y
def intK {P:Program} (t:TypeId) (h:P.underlying t=some (.int .i64)):KeyE P Int where
  ty:=t
  law:=Maps.int_keyed h
  val:=Value.int .i64
  lit:=Lit.int .i64
  ok:=fun x=>(Lit.int .i64 x).wf=true
  key:=fun _ hx=>Maps.keyOf_int_mk h hx
  inv:=fun v l hv=>by
    obtain⟨x,rfl,rfl,hx⟩:=Maps.keyOf_int_inv h hv
    exact⟨x,hx,rfl⟩
  inj:=fun x y e=>by cases e;rfl
section
variable {P : Program} {κ β : Type}
theorem KeyE.lit_inj(K:KeyE P κ){x y:κ}(hx:K.ok x)(hy:K.ok y)(h:K.lit x=K.lit y):x=y:=by
  have h1:=K.key x hx;have h2:=K.key y hy;rw [h] at h1;exact K.inj _ _ (K.law.inj h1 h2)
theorem KeyE.isKey(K:KeyE P κ){x:κ}(hx:K.ok x):WideAt.IsKeyLit (K.lit x):=K.law.key (K.key x hx)
def Looks (K:KeyE P κ) (D:DataW β) (f:κ→Option β):Prop:=
  ∀ x,K.ok x→(f x=none∧Maps.has D (K.lit x)=false)∨∃ c,f x=some c∧Maps.has D (K.lit x)=true∧∀ z,D.atKey (K.lit x) z=.held c
def MapIs (K:KeyE P κ) (mk:β→Value) (w:World) (b n:Nat) (f:κ→Option β):Prop:=
  ∃ D:DataW β,w.ownsMap P K.ty (shp mk) b n D∧Looks K D f
variable {K : KeyE P κ} {mk : β → Value} {w w' : World} {b r n cnt : Nat} {f : κ → Option β} {todo : κ → Bool}
theorem MapIs.made(K:KeyE P κ)(mk:β→Value)(w:World):MapIs K mk (w.alloc (.map #[] 0)) w.heap.size 0 (fun _=>none):=
  ⟨.map [],World.ownsMap_made w P K.ty (shp mk),fun _ _=>.inl ⟨rfl,rfl⟩⟩
theorem MapIs.kept{row:Option Nat}(h:MapIs K mk w b n f)(hg:w.grownBy w' row)(hne:some b≠row):MapIs K mk w' b n f:=by
  obtain⟨D,h1,h2⟩:=h;exact⟨D,h1.kept hg hne,h2⟩
theorem MapIs.later(h:MapIs K mk w b n f)(hb:Below w.heap.size w w'):MapIs K mk w' b n f:=
  h.kept (row:=none) ⟨hb.os,hb.tape,hb.output,hb.size,fun k hk _=>hb.block k hk⟩ (by simp)
theorem MapIs.look_there{t e:TypeId}(h:MapIs K mk w b n f)(ht:P.underlying t=some (.map K.ty e)){z:Value}(hz:(zeroValue e).run P w=.ok z w){x:κ}(hx:K.ok x){c:β}(hf:f x=some c)(ok:Bool):
    (Instr.lookup t (.map (some b)) (K.val x) ok).run P w=.ok (if ok then .tuple #[mk c,.bool true] else mk c) w:=by
  obtain⟨D,⟨es,clock,hb,F,_,rfl⟩,hL⟩:=h;rcases hL x hx with⟨h1,_⟩ |⟨c',h1,hh,h2⟩
  · rw [hf] at h1;cases h1
  · rw [hf] at h1
    cases h1
    rcases Maps.fit_look ok K.law ht hz hb F (K.key x hx) with⟨hrun,_,hat⟩ |⟨e0,y,_,_,hrun,hRv,hat,_⟩
    · have h3:=Maps.has_false_of_atKey hat
      rw [hh] at h3;cases h3
    · obtain⟨c2,e1,e2⟩:=zcn hRv
      have h3:y.1=.held c:=(hat .nil).symm.trans (h2 .nil);rw [e2] at h3;cases h3
      rw [e1] at hrun;exact hrun
theorem MapIs.look_gone{t e:TypeId}(h:MapIs K mk w b n f)(ht:P.underlying t=some (.map K.ty e)){z:Value}(hz:(zeroValue e).run P w=.ok z w){x:κ}(hx:K.ok x)(hf:f x=none)(ok:Bool):
    (Instr.lookup t (.map (some b)) (K.val x) ok).run P w=.ok (if ok then .tuple #[z,.bool false] else z) w:=by
  obtain⟨D,⟨es,clock,hb,F,_,rfl⟩,hL⟩:=h;rcases hL x hx with⟨_,hh⟩ |⟨c',h1,_⟩
  · rcases Maps.fit_look ok K.law ht hz hb F (K.key x hx) with⟨hrun,_,hat⟩ |⟨e0,y,_,_,hrun,hRv,hat,_⟩
    · exact hrun
    · have h3:=Maps.has_true_of_atKey hat
      rw [hh] at h3;cases h3
  · rw [hf] at h1;cases h1
variable [DecidableEq κ]
theorem Looks.put{D:DataW β}(h:Looks K D f)(hD:Maps.IsMap D){x:κ}(hx:K.ok x)(c:β):Looks K (D.put (K.lit x) (.held c)) (fun y=>if y=x then some c else f y):=by
  intro y hy;by_cases e:y=x
  · subst e
    refine .inr ⟨c,by simp,Maps.has_put_same hD (K.isKey hy) _,fun z=>Maps.atKey_put_same hD (K.isKey hy) _ z⟩
  · have hne:K.lit y≠K.lit x:=fun e2=>e (K.lit_inj hy hx e2)
    rcases h y hy with⟨h1,h2⟩ |⟨c',h1,h2,h3⟩
    · exact .inl ⟨by simp [e,h1],by rw [Maps.has_put_other hne];exact h2⟩
    · exact .inr ⟨c',by simp [e,h1],by rw [Maps.has_put_other hne];exact h2,fun z=>by rw [Maps.atKey_put_other hne];exact h3 z⟩
theorem MapIs.put{t e:TypeId}(h:MapIs K mk w b n f)(hi:∀ x y,mk x=mk y→x=y)(ht:P.underlying t=some (.map K.ty e))(hn:n < maxLen){x:κ}(hx:K.ok x)(c:β):
    ∃ w',(Instr.mapUpdate t (.map (some b)) (K.val x) (mk c)).run P w=.ok () w'∧MapIs K mk w' b (n+1) (fun y=>if y=x then some c else f y)∧w.grownBy w' (some b)∧w'.heap.size=w.heap.size:=by
  obtain⟨D,h1,h2⟩:=h;obtain⟨w',r1,r2,r3⟩:=h1.store K.law ht hn (K.key x hx) (zc2 hi c);refine⟨w',r1,⟨_,r2,h2.put h1.isMap hx c⟩,r3.grown,?_⟩;obtain⟨_,_,_,_,_,rfl⟩:=r3;simp [ChangeMaps.setBlock]
theorem vH{ops:Array Oper}{rest:List Oper}{o:Oper}{a:Act}{Q:Exit→Act→World→Prop}(hg:o.guard=none)(m x v:Operand)(t:TypeId)(hop:o.op=Op.mapUpdate t m x v)
    (K:KeyE P κ) (mk:β→Value) (hi:∀ x y,mk x=mk y→x=y) (e:TypeId) (ht:P.underlying t=some (.map K.ty e)) (b n:Nat) (f:κ→Option β)
    (hm:a.eval m=.map (some b)) (h:MapIs K mk w b n f) (hn:n < maxLen) (y:κ) (c:β) (hx:a.eval x=K.val y) (hv:a.eval v=mk c) (hok:K.ok y)
    (hK:∀ w',MapIs K mk w' b (n+1) (fun z=>if z=y then some c else f z)→w.grownBy w' (some b)→w'.heap.size=w.heap.size→wpList P ops Q rest (a.put o.dst undef) w'):
    wpList P ops Q (o::rest) a w:=by
  refine wpList_plain hg fun K' hK'=>?_;obtain⟨w',hrun,r1,r2,r3⟩:=h.put hi ht hn hok c;unfold Oper.wp;simp [execOp,hop,hm,hx,hv,hrun,Result.andThen];exact hK' _ _ (hK w' r1 r2 r3)
end
end Go.Proofs.YtklkhllkjnbhjaaGreatDoor
