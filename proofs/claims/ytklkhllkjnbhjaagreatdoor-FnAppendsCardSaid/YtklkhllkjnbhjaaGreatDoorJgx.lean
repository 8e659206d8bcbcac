/- Texts of our own, joined. -/
import Derived.Test.YtklkhllkjnbhjaaGreatDoorJz
import Derived.Test.YtklkhllkjnbhjaaGreatDoorJw
/- A log copied: the program's copySegs. -/
namespace Go.Proofs.YtklkhllkjnbhjaaGreatDoor
open Go.RowKit
open Lib (hid)
set_option maxRecDepth 100000
set_option maxHeartbeats 8000000
theorem Xc(l:List SgH)(v:Value)(w:World)(h:Rows' sgE w v l)(hl:l.length≤1073741824):
    Calls Tryz.prog 100 #[v] w fun e w'=>∃ v',e=.returned v'∧RBuf sgE w.heap.size w w' v' l:=by
  have q:∀(w:World) (a:Option Addr) (n c n' c':Nat),(binOp .eql 28 (.slice a n c) (.slice none n' c')).run Tryz.prog w=.ok (.bool a.isNone) w:=fun w a n c n' c'=>Lib.run_eql_slice_nil w _ _ a n c n' c' Tryz.underlying28;have hv:∃(a:Option Addr) (c:Nat),v=.slice a l.length c∧(a=none→l= []):=by
    rcases h with⟨rfl,a,c,rfl⟩ |⟨g,off,cap,rfl,_⟩
    · exact⟨a,c,rfl,fun _=>rfl⟩
    · exact⟨_,_,rfl,fun e=>by cases e⟩
  obtain⟨a,c,rfl,hn⟩:=hv;cases a with
  | none=>
    obtain rfl:=hn rfl;clear h hn;go_enter Tryz.func100,Tryz.ntmps100
    go_wp2;go_ret;exact⟨_,rfl,RBuf.nil sgE w⟩
  | some p=>
    clear hn;have hb:=(RBuf.fresh sgE w).here;have hx:=hid (h.later (zb w (.cells #[] sgE.ty)));clear h;go_enter Tryz.func100,Tryz.ntmps100
    go_wp2_with (at_builtin;refine zX rfl _ _ sgE rfl w.heap.size _ [] rfl hb _ l rfl hx.out (by simp [sgE];omega) ?_;intro v1 w1 r1 g1 _;obtain⟨a1,c1,rfl⟩:=r1.form)
    go_ret;rw [List.nil_append] at r1;exact⟨_,rfl,⟨r1.own,((Below.refl w.heap.size w).alloc (Nat.le_refl _) _).grown g1 (by simp) (fun k hk=>by have:w.heap.size=k:=Option.some.inj hk;omega),r1.le⟩⟩
structure CpG (B:Nat) (W:World) (bs:List Sg) (hs0:List SgH) (i:Nat) (wr:World) (g cap:Nat) (hs:List SgH):Prop where
  row:RBuf sgE B W wr (.slice (some ⟨g,0,none⟩) hs.length cap) hs
  len:hs.length=bs.length
  old:∀ j,i≤j→hs[j]? =hs0[j]?
  new:∀(j:Nat) (h:SgH) (b:Sg),j < i→hs[j]? =some h→bs[j]? =some b→(h.no=b.no∧h.gen=b.gen∧h.ende=b.ende)∧RBuf itE (g+1) wr wr h.mv b.items
  apart:∀(j k:Nat) (h h':SgH),j < i→k < i→hs[j]? =some h→hs[k]? =some h'→j≠k→∀ q,h.mv.ownBlock=some q→h'.mv.ownBlock≠some q
theorem CpG.start{B:Nat}{W wr:World}{bs:List Sg}{hs:List SgH}{g cap:Nat}(h:RBuf sgE B W wr (.slice (some ⟨g,0,none⟩) hs.length cap) hs)(hl:hs.length=bs.length):CpG B W bs hs 0 wr g cap hs:=
  ⟨h,hl,fun _ _=>rfl,fun _ _ _ hj=>by omega,fun _ _ _ _ hj=>by omega⟩
theorem CpG.step {B:Nat} {W wr w2:World} {bs:List Sg} {hs0 hs:List SgH} {i g cap:Nat} (h:CpG B W bs hs0 i wr g cap hs) {x:SgH} {b:Sg} (hx:hs[i]? =some x) (hb:bs[i]? =some b) (he:x.no=b.no∧x.gen=b.gen∧x.ende=b.ende)
    (a2:Option Addr) (n2 c2:Nat) (hr:RBuf itE wr.heap.size wr w2 (.slice a2 n2 c2) b.items):CpG B W bs hs0 (i+1) (w2.setCell ⟨g,i * 4+3,none⟩ (.slice a2 n2 c2)) g cap (hs.set i ⟨x.no,x.gen,x.ende,a2,n2,c2⟩):=by
  have hil:i < hs.length:=(List.getElem?_eq_some_iff.1 hx).1;have hg:g < wr.heap.size:=(h.row.own.lt g rfl).2;have hk2:=hr.bel;have hg4:=za w2 g (i * 4+3) (.slice a2 n2 c2);have hst:=(h.row.later hk2).stored i x ⟨x.no,x.gen,x.ende,a2,n2,c2⟩ hx 3 (by decide) (.slice a2 n2 c2) rfl;have hl:(hs.set i (⟨x.no,x.gen,x.ende,a2,n2,c2⟩:SgH)).length=hs.length:=by simp
  have hown:∀(j:Nat) (y:SgH) (c:Sg),j < i→hs[j]? =some y→bs[j]? =some c→∀ q,y.mv.ownBlock=some q→g+1≤q∧q < wr.heap.size:=fun j y c h1 h2 h3 q hq=>(h.new j y c h1 h2 h3).2.own.lt q hq;have hnw:∀ q,(Value.slice a2 n2 c2).ownBlock=some q→wr.heap.size≤q:=fun q hq=>(hr.own.lt q hq).1;refine⟨by rw [hl];exact hst,by rw [hl];exact h.len,fun j hj=>?_,fun j y c h1 h2 h3=>?_,fun j k y z h1 h2 h3 h4 hjk q hq=>?_⟩
  · rw [List.getElem?_set_ne (by omega)]
    exact h.old j (by omega)
  · by_cases c1:j=i
    · subst c1
      rw [List.getElem?_set_self hil] at h2;cases h2
      rw [hb] at h3;cases h3
      refine⟨he,?_⟩;have h6:RBuf itE (g+1) w2 w2 (.slice a2 n2 c2) b.items:=hr.down (Below.refl _ _) (by omega);exact h6.shift hg4 (by
        cases ho:(Value.slice a2 n2 c2).ownBlock with
        | none=>exact .inl rfl
        | some q=>exact .inr (fun e=>by have:=Option.some.inj e;have:=hnw q ho;omega))
    · rw [List.getElem?_set_ne (fun e=>c1 e.symm)] at h2
      obtain⟨p1,p2⟩:=h.new j y c (by omega) h2 h3;refine⟨p1,(p2.later hk2).here.shift hg4 ?_⟩;cases ho:y.mv.ownBlock with
      | none=>exact .inl rfl
      | some q=>exact .inr (fun e=>by have:=Option.some.inj e;have:=hown j y c (by omega) h2 h3 q ho;omega)
  · have hbl:∀ t,t < hs.length→∃ c,bs[t]? =some c:=fun t ht=>⟨_,List.getElem?_eq_getElem (by rw [←h.len];exact ht)⟩
    by_cases c1:j=i
    · subst c1
      rw [List.getElem?_set_self hil] at h3;cases h3
      rw [List.getElem?_set_ne (by omega)] at h4;obtain⟨c,hc⟩:=hbl k (List.getElem?_eq_some_iff.1 h4).1;intro e;have:=hown k z c (by omega) h4 hc q e;have:=hnw q hq;omega
    · rw [List.getElem?_set_ne (fun e=>c1 e.symm)] at h3
      obtain⟨c,hc⟩:=hbl j (List.getElem?_eq_some_iff.1 h3).1;have hjq:=hown j y c (by omega) h3 hc q hq;by_cases c2':k=i
      · subst c2'
        rw [List.getElem?_set_self hil] at h4;cases h4
        intro e;have:=hnw q e;omega
      · rw [List.getElem?_set_ne (fun e=>c2' e.symm)] at h4
        exact h.apart j k y z (by omega) (by omega) h3 h4 hjk q hq
theorem CpG.done{B:Nat}{W wr:World}{bs:List Sg}{hs0 hs:List SgH}{g cap:Nat}(h:CpG B W bs hs0 bs.length wr g cap hs):GOwn B wr.heap.size wr (.slice (some ⟨g,0,none⟩) hs.length cap) bs hs:=by
  have hgB:B≤g:=(h.row.own.lt g rfl).1;have hbl:∀ t,t < hs.length→∃ c,bs[t]? =some c:=fun t ht=>⟨_,List.getElem?_eq_getElem (by rw [←h.len];exact ht)⟩;refine SgO.gown ⟨h.row.here,h.len,fun j x b h1 h2=>?_,fun j x h1 k hk e=>?_,fun i j x y h1 h2 hij k hk=>?_⟩
  · obtain⟨p1,p2⟩:=h.new j x b (by have:=(List.getElem?_eq_some_iff.1 h2).1;omega) h1 h2
    exact⟨p1,p2.down (Below.refl _ _) (by omega)⟩
  · obtain⟨c,hc⟩:=hbl j (List.getElem?_eq_some_iff.1 h1).1
    obtain⟨_,p2⟩:=h.new j x c (by have:=(List.getElem?_eq_some_iff.1 hc).1;omega) h1 hc;have:=(p2.own.lt k hk).1;have e1:g=k:=Option.some.inj e;omega
  · have h3:=(List.getElem?_eq_some_iff.1 h1).1
    have h4:=(List.getElem?_eq_some_iff.1 h2).1;exact h.apart i j x y (by rw [←h.len];exact h3) (by rw [←h.len];exact h4) h1 h2 hij k hk
theorem qE (bs:List Sg) (v:Value) (w:World) (h:GRd w v bs) (hl:bs.length≤1048576) (hil:∀ b∈bs,b.items.length≤1048576) (hz:∀ b∈bs,∀ x∈b.items,x.2.user.size≤1048576∧x.2.name.size≤1048576∧x.2.text.size≤1048576):
    Calls Tryz.prog 72 #[v] w fun e w'=>∃ v' hs,e=.returned v'∧GOwn w.heap.size w'.heap.size w' v' bs hs∧Below w.heap.size w w':=by
  obtain⟨hs0,hr,hlen,hat⟩:=h;have HC:=hid (Xc hs0 v w hr (by omega));have HAT:=hid hat
  have HZ:=hid hz;have HIL:=hid hil;obtain⟨ad,cap,rfl⟩:∃(a:Option Addr) (cap:Nat),v=.slice a hs0.length cap:=by
    rcases hr with⟨e,a,c,rfl⟩ |⟨g,off,c,rfl,_⟩
    · exact⟨a,c,by rw [e];rfl⟩
    · exact⟨_,c,rfl⟩
  have HLN:=hid hlen;clear hr hat hz hil hlen;go_enter Tryz.func72,Tryz.ntmps72
  go_wp2_with fail
  refine HC.out.mono ?_;rintro e w1 ⟨v1,rfl,R1⟩;clear HC;have hlen:=HLN.out;by_cases h0:bs.length=0
  · have hb0:bs= []:=List.length_eq_zero_iff.1 h0
    have hh0:hs0= []:=List.length_eq_zero_iff.1 (by omega);subst hb0 hh0;obtain⟨a1,c1,rfl⟩:=R1.form;have HZZ:Hid (GOwn w.heap.size w1.heap.size w1 (.slice a1 0 c1) [] []∧Below w.heap.size w w1):=⟨SgO.gown ⟨R1.here,rfl,fun j x b h1=>(by cases h1),fun j x h1=>(by cases h1),fun i j x y h1=>(by cases h1)⟩,R1.bel⟩;clear R1;go_wp2;go_loopw [9] (fun iv wr=>iv=.int .i64 0∧wr=w1) (fun _ _=>0)
    case atStart=>exact⟨rfl,rfl⟩
    case round=>
      obtain⟨rfl,rfl⟩:=hrel;go_wp2;go_ret;exact⟨_,_,rfl,HZZ.out.1,HZZ.out.2⟩
  have hn0:0 < hs0.length:=by omega
  obtain⟨g,c1,rfl⟩:∃ g c1,v1=.slice (some ⟨g,0,none⟩) hs0.length c1:=by
    rcases R1.own.2 with⟨_,h2⟩ |⟨g,cp,cur,hv,_⟩
    · omega
    · exact⟨g,cp,hv⟩
  have I0:=hid (CpG.start (bs:=bs) R1 hlen);have HB1:=hid R1.bel;obtain⟨n,hn⟩:∃ n,hs0.length=n:=⟨_,rfl⟩;have HN:=hid hn;have HBL:Hid (bs.length=n):=by show _=_;omega
  rw [hn] at hn0 ⊢;have hnl:n≤1048576:=by omega
  clear R1 h0 hl hlen hn;go_wp2_with fail
  go_loopw [9] (fun iv wr=>∃(i:Nat) (hs:List SgH),i≤n∧iv=.int .i64 (i:Int)∧Hid (CpG w.heap.size w bs hs0 i wr g c1 hs)) (fun iv _=>n -(intOf iv).toNat)
  case atStart=>exact⟨0,hs0,by omega,rfl,I0⟩
  case round=>
    clear I0;obtain⟨i,hs,hi,rfl,HI⟩:=hrel;by_cases hlt:i < n
    · obtain⟨b,hgb⟩:∃ b,bs[i]? =some b:=⟨_,List.getElem?_eq_getElem (by rw [HBL.out];exact hlt)⟩
      obtain⟨x,hgx⟩:∃ x,hs0[i]? =some x:=⟨_,List.getElem?_eq_getElem (by rw [HN.out];exact hlt)⟩;have hgy:hs[i]? =some x:=(HI.out.old i (Nat.le_refl _)).trans hgx;obtain⟨he,hri⟩:=HAT.out i x b hgx hgb;have bw:=HI.out.row.bel;have HCI:=hid (YM b.items _ wr (hri.later bw) (HIL.out b (List.mem_of_getElem? hgb)) (HZ.out b (List.mem_of_getElem? hgb)));have hc3:=HI.out.row.cell rfl i _ hgy 3 _ rfl;change wr.cell? ⟨g,i * 4+3,none⟩=some (.slice x.a x.n x.c) at hc3;have HSTEP:Hid (∀(w2:World) (a2:Option Addr) (n2 c2:Nat),RBuf itE wr.heap.size wr w2 (.slice a2 n2 c2) b.items→CpG w.heap.size w bs hs0 (i+1) (w2.setCell ⟨g,i * 4+3,none⟩ (.slice a2 n2 c2)) g c1 (hs.set i ⟨x.no,x.gen,x.ende,a2,n2,c2⟩)):=fun w2 a2 n2 c2 hr=>HI.out.step hgy hgb he a2 n2 c2 hr;have HCELL:Hid (∀ w2,Below wr.heap.size wr w2→w2.cell? ⟨g,i * 4+3,none⟩=some (.slice x.a x.n x.c)∧w2.frozen? ⟨g,i * 4+3,none⟩=false):=fun w2 hb2=>by
        have h8:=HI.out.row.later hb2;have h9:=h8.cell rfl i _ hgy 3 _ rfl;exact⟨h9,h8.loose _⟩
      have hi0:(0:Int)≤(i:Int):=(by omega);have hi1:(i:Int) <(n:Int):=(by omega);unfold SgH.mv at HCI;clear hgb hgx hgy he hri bw HI;go_wp2_with fail
      clear hc3;refine HCI.out.mono ?_;rintro e w2 ⟨v2,rfl,R2⟩;obtain⟨a2,c2,rfl⟩:=R2.form;obtain⟨c3,f3⟩:=HCELL.out w2 R2.bel;have HS2:=hid (HSTEP.out w2 _ _ _ R2);clear HCI HSTEP HCELL R2;go_wp2;exact⟨⟨i+1,_,by omega,by simp,HS2⟩,by first | omega |(simp [intOf];omega)⟩
    · have hin:i=bs.length:=by have:=HBL.out;omega
      have hd:=HI.out;rw [hin] at hd;have hz1:hs.length=n:=(by rw [hd.len];exact HBL.out);have HD:=hid hd.done;have HBB:=hid hd.row.bel;rw [hz1] at HD;clear hd hin hz1 HI;go_wp2;go_ret;exact⟨_,_,rfl,HD.out,HBB.out⟩

/- A log that was opened is closed again: closed of the program. -/
theorem vP(aa ab au:Option Addr)(n1 n2 n3 ca cb cu:Nat)(segs ng ns st nv:Int)(pg:Nat)(w:World)(hb:Box w pg #[.slice aa n1 ca,.slice ab n2 cb,.int .i64 segs,.slice au n3 cu,.int .i64 ng,.int .i64 ns,.int .i64 st,.int .i64 nv] 104):
    Calls Tryz.prog 45 #[.pointer (some ⟨pg,0,none⟩)] w fun e w'=>e=.returned (.agg #[.slice aa n1 ca,.slice ab n2 cb,.int .i64 segs,.slice au n3 cu,.int .i64 ng,.int .i64 ns,.int .i64 st,.int .i64 nv])∧Below w.heap.size w w':=by
  have b1:=zb w (.cells #[.slice none 0 0,.slice none 0 0,.int .i64 0,.slice none 0 0,.int .i64 0,.int .i64 0,.int .i64 0,.int .i64 0] 30);have XR:=Box.new w #[.slice none 0 0,.slice none 0 0,.int .i64 0,.slice none 0 0,.int .i64 0,.int .i64 0,.int .i64 0,.int .i64 0] 30;have BP:=hb.later b1;have HNE:Hid (pg≠w.heap.size):=by have:=hb.lt;show _≠_;omega
  clear hb;go_enter Tryz.func45,Tryz.ntmps45
  go_upto_region 1 with fail
  generalize w.alloc (.cells #[.slice none 0 0,.slice none 0 0,.int .i64 0,.slice none 0 0,.int .i64 0,.int .i64 0,.int .i64 0,.int .i64 0] 30)=w1 at b1 XR BP ⊢;refine wp_region_held_drew (S:=fun x=>Box x pg #[.slice aa n1 ca,.slice ab n2 cb,.int .i64 segs,.slice au n3 cu,.int .i64 ng,.int .i64 ns,.int .i64 st,.int .i64 nv] 104) (by kernel_rfl) BP (fun hHeld=>?_);refine tk 0 (.pointer (some ⟨pg,0,none⟩)) ?_;refine tk 1 (.pointer (some ⟨pg,0,none⟩)) ?_;refine tk 2 (.pointer (some ⟨pg,0,none⟩)) ?_;refine tk 3 (.agg #[.slice aa n1 ca,.slice ab n2 cb]) ?_ (hr:=fun x hSx=>by obtain⟨b0,b1,b2,b3,b4,b5,b6,b7⟩:=Box.eightO hSx;go_simp);refine tk 4 (.pointer (some ⟨pg,0,none⟩)) ?_;refine tk 5 (.pointer (some ⟨pg,0,none⟩)) ?_;refine tk 6 (.pointer (some ⟨pg,2,none⟩)) ?_;refine tk 7 (.int .i64 segs) ?_ (hr:=fun x hSx=>by obtain⟨b0,b1,b2,b3,b4,b5,b6,b7⟩:=Box.eightO hSx;go_simp);refine tk 8 (.pointer (some ⟨pg,0,none⟩)) ?_;refine tk 9 (.pointer (some ⟨pg,0,none⟩)) ?_;refine tk 10 (.pointer (some ⟨pg,3,none⟩)) ?_;refine tk 11 (.slice au n3 cu) ?_ (hr:=fun x hSx=>by obtain⟨b0,b1,b2,b3,b4,b5,b6,b7⟩:=Box.eightO hSx;go_simp);refine tk 12 (.pointer (some ⟨pg,0,none⟩)) ?_;refine tk 13 (.pointer (some ⟨pg,0,none⟩)) ?_
  refine tk 14 (.pointer (some ⟨pg,4,none⟩)) ?_;refine tk 15 (.int .i64 ng) ?_ (hr:=fun x hSx=>by obtain⟨b0,b1,b2,b3,b4,b5,b6,b7⟩:=Box.eightO hSx;go_simp);refine tk 16 (.pointer (some ⟨pg,0,none⟩)) ?_;refine tk 17 (.pointer (some ⟨pg,0,none⟩)) ?_;refine tk 18 (.pointer (some ⟨pg,5,none⟩)) ?_;refine tk 19 (.int .i64 ns) ?_ (hr:=fun x hSx=>by obtain⟨b0,b1,b2,b3,b4,b5,b6,b7⟩:=Box.eightO hSx;go_simp);refine tk 20 (.pointer (some ⟨pg,0,none⟩)) ?_;refine tk 21 (.pointer (some ⟨pg,0,none⟩)) ?_;refine tk 22 (.pointer (some ⟨pg,6,none⟩)) ?_;refine tk 23 (.int .i64 st) ?_ (hr:=fun x hSx=>by obtain⟨b0,b1,b2,b3,b4,b5,b6,b7⟩:=Box.eightO hSx;go_simp);refine tk 24 (.pointer (some ⟨pg,0,none⟩)) ?_;refine tk 25 (.pointer (some ⟨pg,0,none⟩)) ?_;refine tk 26 (.pointer (some ⟨pg,7,none⟩)) ?_;refine tk 27 (.int .i64 nv) ?_ (hr:=fun x hSx=>by obtain⟨b0,b1,b2,b3,b4,b5,b6,b7⟩:=Box.eightO hSx;go_simp);refine tk 28 (.agg #[.slice aa n1 ca,.slice ab n2 cb,.int .i64 segs,.slice au n3 cu,.int .i64 ng,.int .i64 ns,.int .i64 st,.int .i64 nv]) ?_;replace XR:Box w1.drew w.heap.size _ _:=XR;replace b1:Below w.heap.size w w1.drew:=b1.drew
  generalize w1.drew=Y0 at hHeld XR b1 ⊢;refine ro 29 (fun K' hK=>?_);obtain⟨r0,r1,r2,r3,r4,r5,r6,r7,f0,f1,f2,f3,f4,f5,f6,f7⟩:=XR.eightL;go_simp;clear r0 r1 r2 r3 r4 r5 r6 r7 f0 f1 f2 f3 f4 f5 f6 f7;have RX:=XR.set8L (.slice aa n1 ca) (.slice ab n2 cb) (.int .i64 segs) (.slice au n3 cu) (.int .i64 ng) (.int .i64 ns) (.int .i64 st) (.int .i64 nv);have BXX:=zB b1 (Nat.le_refl _) (.slice aa n1 ca) (.slice ab n2 cb) (.int .i64 segs) (.slice au n3 cu) (.int .i64 ng) (.int .i64 ns) (.int .i64 st) (.int .i64 nv);have HS8:Box (set8L Y0 w.heap.size (.slice aa n1 ca) (.slice ab n2 cb) (.int .i64 segs) (.slice au n3 cu) (.int .i64 ng) (.int .i64 ns) (.int .i64 st) (.int .i64 nv)) pg #[.slice aa n1 ca,.slice ab n2 cb,.int .i64 segs,.slice au n3 cu,.int .i64 ng,.int .i64 ns,.int .i64 st,.int .i64 nv] 104:=((zI Y0 w.heap.size (.slice aa n1 ca) (.slice ab n2 cb) (.int .i64 segs) (.slice au n3 cu) (.int .i64 ng) (.int .i64 ns) (.int .i64 st) (.int .i64 nv)).block pg hHeld.lt (fun e=>HNE.out (Option.some.inj e))).trans hHeld;unfold set8L at RX BXX HS8;refine hK.out _ _ HS8 (fun hS2=>?_);clear hK K' hS2 HS8;(try simp only [pu1,pu3,pu4,pu5]);refine wpAnyH_done (by kernel_rfl) ?_ _;obtain⟨u0,u1,u2,u3,u4,u5,u6,u7⟩:=RX.eightO;have HBX:=hid BXX;clear RX BXX XR hHeld b1;go_wp2;refine bodyPost_ret (v:=.agg #[.slice aa n1 ca,.slice ab n2 cb,.int .i64 segs,.slice au n3 cu,.int .i64 ng,.int .i64 ns,.int .i64 st,.int .i64 nv]) (by simp [results,Tryz.results45,go_sem,u0,u1,u2,u3,u4,u5,u6,u7]) rfl ?_;exact⟨rfl,HBX.out⟩

/- A log copied, and opened: the program's openedLog, copyLog. -/
theorem YT(L:Lg)(B T:Nat)(va vb vu:Value)(hs:List SgH)(w:World)(hp:LgP B T w va vb vu L hs)(hL:L.lean 1048576):
    Calls Tryz.prog 42 #[.agg #[va,vb,.int .i64 L.segs,vu,.int .i64 L.ng,.int .i64 L.ns,.int .i64 L.st,.int .i64 L.nv]] w fun e w'=>∃(pg:Nat) (va' vb' vu':Value) (hs':List SgH),e=.returned (.pointer (some ⟨pg,0,none⟩))∧Box w' pg (lgC va' vb' vu' L) 104∧LgP w.heap.size pg w' va' vb' vu' L hs'∧Below w.heap.size w w'∧w.heap.size≤pg:=by
  obtain⟨hsm,hun,_,_,_⟩:=L.lean_small hL;have b0:=zb w (.cells #[va,vb,.int .i64 L.segs,vu,.int .i64 L.ng,.int .i64 L.ns,.int .i64 L.st,.int .i64 L.nv] 30);have X0:=Box.new w #[va,vb,.int .i64 L.segs,vu,.int .i64 L.ng,.int .i64 L.ns,.int .i64 L.st,.int .i64 L.nv] 30;have HCD:Hid (∀ X,Below w.heap.size w X→Calls Tryz.prog 71 #[.agg #[va,vb]] X fun e w'=>∃ v',e=.returned v'∧DOwn X.heap.size w'.heap.size w' v' L.d∧Below X.heap.size X w'):=fun X hX=>Zc L.d _ B T X (hp.later hX).down hsm (fun s hs=>by have:=hL.1.2.2.1 s hs;omega) (fun x hx=>by have:=hL.1.2.2.2 x hx;omega);have HCS:Hid (∀ X,Below w.heap.size w X→Calls Tryz.prog 72 #[vu] X fun e w'=>∃ v' hs,e=.returned v'∧GOwn X.heap.size w'.heap.size w' v' L.used hs∧Below X.heap.size X w'):=fun X hX=>qE L.used _ X (hp.later hX).use.own.rd hun (fun b hb=>by have:=yE hb;have:=hL.2.1;omega) (L.lean_texts hL);obtain⟨W,hW⟩:∃ W,w.alloc (.cells #[va,vb,.int .i64 L.segs,vu,.int .i64 L.ng,.int .i64 L.ns,.int .i64 L.st,.int .i64 L.nv] 30)=W:=⟨_,rfl⟩;rw [hW] at b0 X0;have HW:=hid hW;obtain⟨g0,hg0⟩:∃ g0,w.heap.size=g0:=⟨_,rfl⟩;rw [hg0] at X0;have HG0:=hid hg0;have HX:Hid (∀ X,Below W.heap.size W X→(X.cell? ⟨g0,0,none⟩=some (va)∧X.cell? ⟨g0,1,none⟩=some (vb)∧X.cell? ⟨g0,2,none⟩=some (.int .i64 L.segs)∧X.cell? ⟨g0,3,none⟩=some (vu)∧X.cell? ⟨g0,4,none⟩=some (.int .i64 L.ng)∧X.cell? ⟨g0,5,none⟩=some (.int .i64 L.ns)∧X.cell? ⟨g0,6,none⟩=some (.int .i64 L.st)∧X.cell? ⟨g0,7,none⟩=some (.int .i64 L.nv))∧Below w.heap.size w X):=fun X hX=>⟨(X0.later hX).eightO,b0.trans (hX.mono b0.size)⟩;have HBW:=hid b0;obtain⟨a1,a2,a3,c1,c2,c3,e1,e2,e3⟩:=hp.form;clear hg0 hW X0 b0 hp hL hsm hun;subst e1 e2 e3;go_enter Tryz.func42,Tryz.ntmps42
  go_upto_region 1 with fail
  rw [HW.out,HG0.out];have kk:Below W.heap.size W W.drew:=(Below.refl _ _).drew;obtain⟨⟨x0,x1,x2,x3,x4,x5,x6,x7⟩,_⟩:=HX.out _ kk;go_region_held3 (fun X=>(X.cell? ⟨g0,0,none⟩=some (.slice a1 L.d.sec.length c1)∧X.cell? ⟨g0,1,none⟩=some (.slice a2 L.d.cache.length c2)∧X.cell? ⟨g0,2,none⟩=some (.int .i64 L.segs)∧X.cell? ⟨g0,3,none⟩=some (.slice a3 L.used.length c3)∧X.cell? ⟨g0,4,none⟩=some (.int .i64 L.ng)∧X.cell? ⟨g0,5,none⟩=some (.int .i64 L.ns)∧X.cell? ⟨g0,6,none⟩=some (.int .i64 L.st)∧X.cell? ⟨g0,7,none⟩=some (.int .i64 L.nv)))
    (first | exact(HX.out _ kk).1 | exact(HX.out _ (kk.trans ((zb _ _).mono kk.size))).1)
    (first
      |(go_at_call 71;refine(HCD.out _ (HX.out _ kk).2).mono ?_;rintro e wD ⟨vD,rfl,oD,kD⟩;obtain⟨aD,bD,cD,dD,rfl⟩:=oD.form;have kk:=kk.trans (kD.mono kk.size);try (have oG:=oG.later kD;have tG:=Nat.le_refl wD.heap.size))
      |(go_at_call 72;refine(HCS.out _ (HX.out _ kk).2).mono ?_;rintro e wG ⟨vG,hsG,rfl,oG,kG⟩;obtain⟨aG,cG,rfl⟩:=oG.own.row.form;have kk:=kk.trans (kG.mono kk.size);try (have oD:=oD.later kG;have tD:=Nat.le_refl wG.heap.size)))
  all_goals
    have hWs:=HBW.out.size
    go_wp2
    go_ret
    first
      | exact⟨_,_,_,_,hsG,rfl,Box.new wG _ _,(((LgP.mk2 (L:=L) oD oG (Nat.le_refl _) kD.size kG.size).widen (B':=w.heap.size) hWs (Nat.le_refl _) (Nat.le_refl _)).later (zb wG _)),(HX.out _ kk).2.trans ((zb wG _).mono (HX.out _ kk).2.size),(HX.out _ kk).2.size⟩
      | exact⟨_,_,_,_,hsG,rfl,Box.new wD _ _,(((LgP.mkU (L:=L) oD oG kG.size (Nat.le_refl _)).widen (B':=w.heap.size) hWs (Nat.le_refl _) (Nat.le_refl _)).later (zb wD _)),(HX.out _ kk).2.trans ((zb wD _).mono (HX.out _ kk).2.size),(HX.out _ kk).2.size⟩
theorem Jo(L:Lg)(B T:Nat)(va vb vu:Value)(hs:List SgH)(w:World)(hp:LgP B T w va vb vu L hs)(hL:L.lean 1048576):
    Calls Tryz.prog 41 #[.agg #[va,vb,.int .i64 L.segs,vu,.int .i64 L.ng,.int .i64 L.ns,.int .i64 L.st,.int .i64 L.nv]] w fun e w'=>∃ v',e=.returned v'∧LgO w.heap.size w'.heap.size w' v' L∧Below w.heap.size w w':=by
  have b0:=zb w (.cells #[va,vb,.int .i64 L.segs,vu,.int .i64 L.ng,.int .i64 L.ns,.int .i64 L.st,.int .i64 L.nv] 30);have X0:=Box.new w #[va,vb,.int .i64 L.segs,vu,.int .i64 L.ng,.int .i64 L.ns,.int .i64 L.st,.int .i64 L.nv] 30;have k1:=zb (w.alloc (.cells #[va,vb,.int .i64 L.segs,vu,.int .i64 L.ng,.int .i64 L.ns,.int .i64 L.st,.int .i64 L.nv] 30)) (.cells #[.slice none 0 0,.slice none 0 0,.int .i64 0,.slice none 0 0,.int .i64 0,.int .i64 0,.int .i64 0,.int .i64 0] 30);have z0:(w.alloc (.cells #[va,vb,.int .i64 L.segs,vu,.int .i64 L.ng,.int .i64 L.ns,.int .i64 L.st,.int .i64 L.nv] 30)).heap.size=w.heap.size+1:=by simp
  have XR:=Box.new (w.alloc (.cells #[va,vb,.int .i64 L.segs,vu,.int .i64 L.ng,.int .i64 L.ns,.int .i64 L.st,.int .i64 L.nv] 30)) #[.slice none 0 0,.slice none 0 0,.int .i64 0,.slice none 0 0,.int .i64 0,.int .i64 0,.int .i64 0,.int .i64 0] 30;rw [z0] at XR;have X1:=X0.later k1;have b2:=b0.trans (k1.mono b0.size);obtain⟨W,hW⟩:∃ W,(w.alloc (.cells #[va,vb,.int .i64 L.segs,vu,.int .i64 L.ng,.int .i64 L.ns,.int .i64 L.st,.int .i64 L.nv] 30)).alloc (.cells #[.slice none 0 0,.slice none 0 0,.int .i64 0,.slice none 0 0,.int .i64 0,.int .i64 0,.int .i64 0,.int .i64 0] 30)=W:=⟨_,rfl⟩;rw [hW] at XR X1 b2;have HOL:=hid (YT L B T va vb vu hs W (hp.later b2) hL);have HW:=hid hW;obtain⟨gr,hgr⟩:∃ gr,w.heap.size+1=gr:=⟨_,rfl⟩;obtain⟨g0,hg0⟩:∃ g0,w.heap.size=g0:=⟨_,rfl⟩;rw [hgr] at XR;rw [hg0] at X1;have HG:Hid (w.heap.size+1=gr∧w.heap.size=g0):=⟨hgr,hg0⟩;have HXR:=hid XR;have HB2:=hid b2;obtain⟨a1,a2,a3,c1,c2,c3,e1,e2,e3⟩:=hp.form;subst e1 e2 e3;obtain⟨y0,y1,y2,y3,y4,y5,y6,y7⟩:=X1.eightO;clear X0 X1 XR b0 b2 k1 z0 hW hgr hg0 hp;go_enter Tryz.func41,Tryz.ntmps41
  go_upto_region 1 with fail
  rw [HW.out,HG.out.1,HG.out.2];go_wp2_with fail
  clear y0 y1 y2 y3 y4 y5 y6 y7;refine HOL.out.mono ?_;rintro e w1 ⟨pg,va',vb',vu',hs',rfl,XP,P1,k1,_⟩;obtain⟨p1,p2,p3,q1,q2,q3,f1,f2,f3⟩:=P1.form;subst f1 f2 f3;unfold lgC at XP;have HCL:=hid (vP _ _ _ _ _ _ _ _ _ _ _ _ _ _ pg w1 XP);have HP1:=hid P1;have HK1:=hid k1;clear HOL XP P1 k1;go_wp2_with fail
  refine HCL.out.mono ?_;rintro e w3 ⟨rfl,k3⟩;have XT:=(HXR.out.later HK1.out).later k3;have bT:=HB2.out.trans ((HK1.out.trans (k3.mono HK1.out.size)).mono HB2.out.size);have RX:=XT.set8L (.slice p1 L.d.sec.length q1) (.slice p2 L.d.cache.length q2) (.int .i64 L.segs) (.slice p3 L.used.length q3) (.int .i64 L.ng) (.int .i64 L.ns) (.int .i64 L.st) (.int .i64 L.nv);have hgrw:w.heap.size≤gr:=by have:=HG.out.1;omega
  have BXX:=zB bT hgrw (.slice p1 L.d.sec.length q1) (.slice p2 L.d.cache.length q2) (.int .i64 L.segs) (.slice p3 L.used.length q3) (.int .i64 L.ng) (.int .i64 L.ns) (.int .i64 L.st) (.int .i64 L.nv);obtain⟨u0,u1,u2,u3,u4,u5,u6,u7⟩:=RX.eightO;have g9:=zI w3 gr (.slice p1 L.d.sec.length q1) (.slice p2 L.d.cache.length q2) (.int .i64 L.segs) (.slice p3 L.used.length q3) (.int .i64 L.ng) (.int .i64 L.ns) (.int .i64 L.st) (.int .i64 L.nv);have hgW:gr < W.heap.size:=HXR.out.lt;have P3:=HP1.out.later k3;have HL2:Hid (LgO w.heap.size (set8L w3 gr (.slice p1 L.d.sec.length q1) (.slice p2 L.d.cache.length q2) (.int .i64 L.segs) (.slice p3 L.used.length q3) (.int .i64 L.ng) (.int .i64 L.ns) (.int .i64 L.st) (.int .i64 L.nv)).heap.size (set8L w3 gr (.slice p1 L.d.sec.length q1) (.slice p2 L.d.cache.length q2) (.int .i64 L.segs) (.slice p3 L.used.length q3) (.int .i64 L.ng) (.int .i64 L.ns) (.int .i64 L.st) (.int .i64 L.nv)) (.agg #[.slice p1 L.d.sec.length q1,.slice p2 L.d.cache.length q2,.int .i64 L.segs,.slice p3 L.used.length q3,.int .i64 L.ng,.int .i64 L.ns,.int .i64 L.st,.int .i64 L.nv]) L):=by
    have hs9:=P3.stay g9.size (fun q h1 h2=>g9.block q (Nat.lt_of_lt_of_le h2 (by have:=P3.sec.2.1;omega)) (fun e=>by have:=Option.some.inj e;omega));exact⟨_,_,_,hs',rfl,hs9.widen (by have:=HB2.out.size;omega) (by have:=hs9.sec.2.1;omega) (Nat.le_refl _)⟩
  have HBZ:=hid BXX;obtain⟨r0,r1,r2,r3,r4,r5,r6,r7,f0,f1,f2,f3,f4,f5,f6,f7⟩:=XT.eightL;unfold set8L at u0 u1 u2 u3 u4 u5 u6 u7 HL2 HBZ;clear HCL k3 XT bT RX BXX g9 P3;go_wp2;refine bodyPost_ret (v:=.agg #[.slice p1 L.d.sec.length q1,.slice p2 L.d.cache.length q2,.int .i64 L.segs,.slice p3 L.used.length q3,.int .i64 L.ng,.int .i64 L.ns,.int .i64 L.st,.int .i64 L.nv]) (by simp [results,Tryz.results41,go_sem,u0,u1,u2,u3,u4,u5,u6,u7]) rfl ?_;exact⟨_,rfl,HL2.out,HBZ.out⟩
end Go.Proofs.YtklkhllkjnbhjaaGreatDoor
