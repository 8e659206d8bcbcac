/- Texts of our own, joined. -/
import Derived.Test.YtklkhllkjnbhjaaGreatDoorJgx
import Derived.Test.YtklkhllkjnbhjaaGreatDoorJpx
import Derived.Test.YtklkhllkjnbhjaaGreatDoorJax
/- OpenSeg of the program: a new head of a log, of whatever log in memory of its own. -/
namespace Go.Proofs.YtklkhllkjnbhjaaGreatDoor
open Go.RowKit
open Lib (hid)
set_option maxRecDepth 100000
set_option maxHeartbeats 8000000
theorem QA{d:Dk}(h:sgN d≠0):5≤sgN d∧sgN d≤11∧8+8 *(sgN d).toNat≤d.sec.length:=by
  unfold sgN at h ⊢
  split at h
  · rename_i c
    rw [if_pos c];by_cases c2:d.sec.length < 8
    · rw [show((d.sec.length:Int) - 8)=-((8 - d.sec.length:Nat):Int) by omega,Int.neg_tdiv] at c
      have:=Int.tdiv_nonneg (a:=((8 - d.sec.length:Nat):Int)) (b:=8) (by omega) (by omega);omega
    · rw [Int.tdiv_eq_ediv_of_nonneg (by omega)] at c ⊢
      omega
  · exact absurd rfl h
theorem lgOkI.oph{L:Lg}(h:lgOkI L):OpH L:=by
  obtain⟨h1,h2,h3,h4,h5,_⟩:=h;have h6:=QA (d:=L.d) (by rw [←h4];exact h3);rw [←h4] at h6;exact⟨h1,⟨by omega,by omega⟩,h6.2.2,h5.1⟩
def OsR (L:Lg) (O:Option Lg) (w:World) (e:Ending) (w':World):Prop:=
  ∃ v,e=.returned (.tuple #[v,.bool O.isSome])∧LgO w.heap.size w'.heap.size w' v (O.getD L)∧Below w.heap.size w w'

/- Logs that were written on are right, as the program asks it; what opening a head makes of them; they are small. -/
theorem zai{u:List Sg}{x:Itm}(h:x∈its u):∃ s∈u,x∈s.items:=by
  induction u with
  | nil=>cases h
  | cons s u ih=>
    have h1:x∈s.items++its u:=h;rcases List.mem_append.1 h1 with h2 | h2
    · exact⟨s,by simp,h2⟩
    · obtain⟨t,t1,t2⟩:=ih h2
      exact⟨t,by simp [t1],t2⟩
theorem SgR.holds{d:Dk}{s:Sg}(h:SgR d s):holdsP d s:=by
  obtain⟨h1,h2,h3⟩:=h.frames;refine⟨h1,h3,?_⟩;rw [h2,List.map_map];exact List.map_congr_left (fun x hx=>zal h.gen (h.its x hx))
theorem LgQ.segsN{L:Lg}(h:LgQ L):L.segs=sgN L.d:=by
  have h1:=h.room;have h2:=h.segs;have e:((L.d.sec.length:Int) - 8).tdiv 8=L.segs:=by
    rw [show(L.d.sec.length:Int) - 8=8 * L.segs by omega];exact Int.mul_tdiv_cancel_left _ (by decide)
  unfold sgN;rw [e,if_pos h2]
theorem LgQ.itemsOk{L:Lg}(h:LgQ L):itemsOk (its L.used):=by
  refine⟨fun x hx=>?_,h.uniq,h.few⟩;obtain⟨s,hs,hxs⟩:=zai hx;exact(h.seg s hs).1.its x hxs
theorem LgW.okI{L:Lg}(h:LgW L):lgOkI L:=by
  have hs:=h.q.segs;have hc:=h.q.cnt;refine⟨h.q.ok,h.q.cac,by omega,h.q.segsN,⟨h.q.ng,h.q.ns,h.q.nv,h.st⟩,⟨⟨h.len,by omega⟩,fun i s hi=>?_⟩,h.q.itemsOk⟩;have hm:s∈L.used:=List.mem_of_getElem? hi;obtain⟨q1,q2,q3,q4⟩:=h.q.seg s hm;obtain⟨hil,rfl⟩:=List.getElem?_eq_some_iff.1 hi;have hp:=List.pairwise_iff_getElem.1 h.q.pw;refine⟨?_,q1.no.1,q2,?_,q1.holds,fun x hx=>q4 x hx,q3⟩
  · cases i with
    | zero=>show 0 < _;have:=q1.gen.1;omega
    | succ i=>
      have hi2:i < L.used.length:=(by omega);rw [jc (List.getElem?_eq_getElem hi2)];exact(hp i (i+1) hi2 hil (by omega)).1
  · refine YD.2 (fun t ht e=>?_)
    obtain⟨j,hj,rfl⟩:=List.getElem_of_mem ht;rw [List.length_take] at hj;rw [List.getElem_take] at e;exact(hp j i (by omega) hil (by omega)).2 e
theorem LgW.lean{L:Lg}(h:LgW L):L.lean 1048576:=by
  have hok:=h.q.ok;have hs:=h.q.segs;have hc:=h.q.cnt;have hf:=h.q.few;rw [ZL] at hf;refine⟨⟨by have:=hok.2.1;omega,by rw [h.q.cac];decide,fun s hs=>by have:=hok.2.2.2.1 s hs;omega,fun x hx=>(by rw [h.q.cac] at hx;cases hx)⟩,by omega,fun b hb x hx=>?_⟩;have h2:=Rc.ok_small ((h.q.seg b hb).1.its x hx).2;omega

/- SegOf of the model: a segment as it is on a disk. -/
theorem vj (d:Dk) (v:Value) (s:Int) (w:World) (h:DRd w v d) (hs:d.small) (ht:∀ s∈d.sec,s.size≤137438953472) (hu:∀ x∈d.cache,x.text.size≤137438953472):
    Calls Tryz.prog 53 #[v,.int .i64 s] w fun e w'=>SoR (sgOf d s) w e w':=by
  obtain⟨aa,ab,ca,cb,rfl,_,_⟩:=h.form;have hz:=Z6 ht hu s;have X1:=Box.new w #[.slice aa d.sec.length ca,.slice ab d.cache.length cb] 27;have k1:=zb w (.cells #[.slice aa d.sec.length ca,.slice ab d.cache.length cb] 27);obtain⟨w1,hw1⟩:∃ y,w.alloc (.cells #[.slice aa d.sec.length ca,.slice ab d.cache.length cb] 27)=y:=⟨_,rfl⟩;have z1:w1.heap.size=w.heap.size+1:=by rw [←hw1];simp
  have X2:=Box.new w1 #[.int .i64 0,.int .i64 0,.int .i64 0,.slice none 0 0] 60;have k2:=zb w1 (.cells #[.int .i64 0,.int .i64 0,.int .i64 0,.slice none 0 0] 60);obtain⟨w2,hw2⟩:∃ y,w1.alloc (.cells #[.int .i64 0,.int .i64 0,.int .i64 0,.slice none 0 0] 60)=y:=⟨_,rfl⟩;have z2:w2.heap.size=w.heap.size+2:=by rw [←hw2];simp;omega
  rw [hw1] at k1 X1;rw [hw2] at k2 X2;rw [z1] at X2;replace X1:=X1.later k2;have b2:Below w.heap.size w w2:=k1.trans (k2.mono k1.size);have hr:=h.later b2;obtain⟨t,ht0⟩:∃ t,sgT d s=t:=⟨_,rfl⟩;have HSG:Hid (∀ x (hx:Below w.heap.size w x),Calls Tryz.prog 81 #[.agg #[.slice aa d.sec.length ca,.slice ab d.cache.length cb],.int .i64 s] x fun e w'=>e=.returned (.int .i64 (sgG t))∧Below x.heap.size x w'):=by
    intro x hx;rw [←ht0];exact yh d _ s _ (h.later hx) hs ht hu
  have HSF:Hid (Calls Tryz.prog 80 #[.agg #[.slice aa d.sec.length ca,.slice ab d.cache.length cb],.int .i64 s] w2 fun e w'=>∃ v,e=.returned (.tuple #[v,.int .i64 (sfE t:Int)])∧Rows' frE w' v (sfL t)∧Below w2.heap.size w2 w'):=by
    show Calls _ _ _ _ _
    refine(jR d _ s _ hr hs ht hu).mono ?_;rintro e x ⟨v,e1,r1⟩;rw [ht0] at e1 r1;exact⟨v,e1,r1.rows,r1.bel⟩
  have HE:Hid (sgOf d s=⟨s,sgG t,(sfE t:Int),((sfL t).take (sfL t).length).filterMap fiO⟩):=by show _=_;unfold sgOf;rw [ht0,List.take_length];rfl
  generalize sgOf d s=SO at HE ⊢;have HOK:Hid (∀ f∈sfL t,f.ok):=zbx t;have hfl:(sfL t).length≤1099511627776:=by have:=xN t;rw [ht0] at hz;omega
  have HW:Hid ((w.alloc (.cells #[.slice aa d.sec.length ca,.slice ab d.cache.length cb] 27)).alloc (.cells #[.int .i64 0,.int .i64 0,.int .i64 0,.slice none 0 0] 60)=w2):=by show _=_;rw [hw1,hw2]
  have HB2:=hid b2;generalize sgG t=gn at HSG HE ⊢;generalize hen:(sfE t:Int)=en at HSF HE ⊢;generalize sfL t=fs at HSF HE HOK hfl ⊢;have HZ2:=hid z2;clear ht0 hz h hr k1 k2 z1 z2 hw1 hw2 hs ht hu hen b2;obtain⟨g1,hg1⟩:∃ g1,w.heap.size+1=g1:=⟨_,rfl⟩;have HG1:=hid hg1;obtain⟨g0,hg0⟩:∃ g0,w.heap.size=g0:=⟨_,rfl⟩;have HG0:=hid hg0;rw [hg1] at X2;rw [hg0] at X1;clear hg0 hg1;go_enter Tryz.func53,Tryz.ntmps53
  go_upto_region 1 with fail
  rw [HW.out,HG1.out,HG0.out];obtain⟨x0,x1⟩:w2.cell? ⟨g0,0,none⟩=some (.slice aa d.sec.length ca)∧w2.cell? ⟨g0,1,none⟩=some (.slice ab d.cache.length cb):=⟨X1.cell 0 _ rfl,X1.cell 1 _ rfl⟩;go_wp2_with fail
  clear x0 x1;refine HSF.out.mono ?_;rintro e w3 ⟨vf,rfl,hrows,k3⟩;obtain⟨ad,cap,rfl,hrow⟩:=hrows.framesG;have HR3:=hid hrow;clear hrows hrow HSF;replace X1:=X1.later k3;replace X2:=X2.later k3;obtain⟨x0,x1⟩:w3.cell? ⟨g0,0,none⟩=some (.slice aa d.sec.length ca)∧w3.cell? ⟨g0,1,none⟩=some (.slice ab d.cache.length cb):=⟨X1.cell 0 _ rfl,X1.cell 1 _ rfl⟩;have b3:Below w.heap.size w w3:=HB2.out.trans (k3.mono HB2.out.size);have HB3:=hid b3;have HK3:=hid k3;clear b3 k3;go_wp2_with fail
  clear x0 x1;refine(HSG.out _ HB3.out).mono ?_;rintro e w4 ⟨rfl,k4⟩;replace X2:=X2.later k4;have HB4:Hid (Below w.heap.size w w4∧w.heap.size+2≤w4.heap.size):=⟨HB3.out.trans (k4.mono HB3.out.size),by have:=HZ2.out;have:=HK3.out.size;have:=k4.size;omega⟩;have HR4:Hid (∀ X,Below w4.heap.size w4 X→∀(i:Nat) (f:Fr),fs[i]? =some f→∃ g off:Nat,ad=some ⟨g,off,none⟩∧
    X.cell? ⟨g,off+i * 3,none⟩=some (.int .i64 f.gen)∧X.cell? ⟨g,off+i * 3+1,none⟩=some (.int .i64 f.seq)∧X.cell? ⟨g,off+i * 3+2,none⟩=some (.string f.body)):=fun X hX=>HR3.out X (k4.trans (hX.mono k4.size))
  clear HSG X1 k4 HR3 HB3 HK3;have k5:=zb w4 (.cells #[.int .i64 s,.int .i64 gn,.int .i64 en,.slice none 0 0] 60);have X5:=Box.new w4 #[.int .i64 s,.int .i64 gn,.int .i64 en,.slice none 0 0] 60;have z5:(w4.alloc (.cells #[.int .i64 s,.int .i64 gn,.int .i64 en,.slice none 0 0] 60)).heap.size=w4.heap.size+1:=by simp
  have I0:SgL w4 (w4.heap.size+1) 60 s gn en (w4.alloc (.cells #[.int .i64 s,.int .i64 gn,.int .i64 en,.slice none 0 0] 60)) none 0 []:=⟨X5,by rw [←z5];exact RBuf.nil itE _,k5,by omega⟩;have HI0:=hid I0;have HX2:Hid (∀ x,Below w4.heap.size w4 x→Box x g1 #[.int .i64 0,.int .i64 0,.int .i64 0,.slice none 0 0] 60):=fun x hx=>X2.later hx;clear I0 k5 X5 z5 X2;generalize hB:w4.heap.size+1=B at HI0 ⊢;have HBB:=hid hB;clear hB;obtain⟨m,hm⟩:∃ m,fs.length=m:=⟨_,rfl⟩;have HM:=hid hm;rw [hm] at hfl HE ⊢;clear hm;go_upto_region 3 with fail
  generalize w4.alloc (.cells #[.int .i64 s,.int .i64 gn,.int .i64 en,.slice none 0 0] 60)=w5 at HI0 ⊢;go_wp2_with fail
  go_loopw [8] (fun iv wr=>∃(i:Nat) (a:Option Addr) (c:Nat),i≤m∧iv=.int .i64 (i:Int)∧SgL w4 B 60 s gn en wr a c ((fs.take i).filterMap fiO)) (fun iv _=>m -(intOf iv).toNat)
  case atStart=>exact⟨0,none,0,by omega,rfl,HI0.out⟩
  case round=>
    clear HI0;obtain⟨i,a,c,hi,rfl,I⟩:=hrel;by_cases hlt:i < m
    · obtain⟨f,hgf⟩:∃ f,fs[i]? =some f:=⟨_,List.getElem?_eq_getElem (by rw [HM.out];exact hlt)⟩
      obtain⟨gp,op,rfl,p0,p1,p2⟩:=HR4.out _ I.bel i _ hgf;have hi0:(0:Int)≤(i:Int):=(by omega);have hi1:(i:Int) <(m:Int):=(by omega);have hle:=VR fs i;have HFI:=hid (fun x=>jz f x (by have:=(HOK.out f (List.mem_of_getElem? hgf)).2.2.2;omega));cases ho:fiO f with
      | none=>
        have HT1:Hid ((fs.take (i+1)).filterMap fiO=(fs.take i).filterMap fiO):=Jz hgf ho;rw [V8 ho] at HFI;generalize (fs.take i).filterMap fiO=l at I HT1 hle;clear ho hgf;obtain⟨gen,seq,body⟩:=f;unfold Fr.v itV at HFI;simp only at p0 p1 p2 HFI;have I1:=I;go_wp2_with fail
        refine(HFI.out _).mono ?_;rintro e w6 ⟨rfl,k6⟩;have I2:=(I1.later k6).later (zb w6 (.cells #[.int .i64 0,.int .i64 Rc.nil.kind,.int .i64 Rc.nil.valid,.int .i64 Rc.nil.uid,.int .i64 Rc.nil.next,.int .i64 Rc.nil.flags,.string Rc.nil.user,.string Rc.nil.name,.string Rc.nil.text] 44));clear I I1 k6;go_wp2;exact⟨⟨i+1,a,c,by omega,by simp,by rw [HT1.out];exact I2⟩,by first | omega |(simp [intOf];omega)⟩
      | some x=>
        have HT1:Hid ((fs.take (i+1)).filterMap fiO=(fs.take i).filterMap fiO++ [x]):=JT hgf ho;rw [ql ho] at HFI;generalize (fs.take i).filterMap fiO=l at I HT1 hle;clear ho hgf;obtain⟨gen,seq,body⟩:=f;obtain⟨sq,K,V,U,N,FL,US,NM,TX⟩:=x;unfold Fr.v itV at HFI;simp only at p0 p1 p2 HFI;have I1:=I;go_wp2_with fail
        refine(HFI.out _).mono ?_;rintro e w6 ⟨rfl,k6⟩;have I2:=(I1.later k6).later (zb w6 (.cells #[.int .i64 sq,.int .i64 K,.int .i64 V,.int .i64 U,.int .i64 N,.int .i64 FL,.string US,.string NM,.string TX] 44));have XI:=Box.new w6 #[.int .i64 sq,.int .i64 K,.int .i64 V,.int .i64 U,.int .i64 N,.int .i64 FL,.string US,.string NM,.string TX] 44;clear I I1 k6 p0 p1 p2;go_upto_region 8 with fail
        generalize w6.alloc (.cells #[.int .i64 sq,.int .i64 K,.int .i64 V,.int .i64 U,.int .i64 N,.int .i64 FL,.string US,.string NM,.string TX] 44)=w7 at XI I2 ⊢;generalize w6.heap.size=gi at XI ⊢;obtain⟨q0,q1,q2,q3,q4,q5,q6,q7,q8⟩:=XI.nineG;have c3:=I2.seg.cell 3 _ rfl;have kL:=zb w7 (.cells #[.int .i64 sq,.int .i64 K,.int .i64 V,.int .i64 U,.int .i64 N,.int .i64 FL,.string US,.string NM,.string TX] 44);have I3:=hid (I2.later kL);have HL:=hid (RBuf.lit1 itE w7 (sq,⟨K,V,U,N,FL,US,NM,TX⟩));have HLE:Hid (l.length≤1099511627776):=(by show _≤_;have:=HM.out;omega);clear XI I2 kL hle;go_wp2_with (at_builtin;refine zA rfl _ _ itE rfl B _ l rfl I3.out.its w7.heap.size _ [(sq,⟨K,V,U,N,FL,US,NM,TX⟩)] rfl HL.out (by show _ * 97≤_;simp only [List.length_cons,List.length_nil];have:=HLE.out;omega) ?_;intro v8 w8 r8 g8 at8;obtain⟨a8,c8,e8⟩:=r8.form;subst e8;obtain⟨d4,f4⟩:=I3.out.cells g8;have I9:=hid (I3.out.push a8 c8 r8 g8))
        exact⟨⟨i+1,a8,c8,by omega,by simp,by rw [HT1.out];have h9:=I9.out;simp only [List.length_append,List.length_cons,List.length_nil,Nat.zero_add] at h9;exact h9⟩,by first | omega |(simp [intOf];omega)⟩
    · have hin:i=m:=by omega
      have HF:Hid (SO=⟨s,gn,en,(fs.take i).filterMap fiO⟩):=(by show _=_;rw [HE.out,hin]);generalize (fs.take i).filterMap fiO=l at I HF;clear hin;obtain⟨x0,x1,x2,x3,_⟩:=I.seg.fourG;have XR:=HX2.out _ I.bel;obtain⟨y0,y1,y2,y3,f0,f1,f2,f3⟩:=XR.fourG;have R5:=XR.set4G (.int .i64 s) (.int .i64 gn) (.int .i64 en) (.slice a l.length c);obtain⟨u0,u1,u2,u3,_⟩:=R5.fourG;have HD:=hid (I.its.set4G (g:=g1) (HB4.out.1.trans (I.bel.mono HB4.out.1.size)) (by have:=HBB.out;have:=HB4.out.2;omega) (by have:=HBB.out;have:=HB4.out.2;have:=HG1.out;omega) (by have:=HG1.out;omega) (.int .i64 s) (.int .i64 gn) (.int .i64 en) (.slice a l.length c));have hge:¬(i:Int) <(m:Int):=(by omega);clear I R5 XR HX2;go_wp2;refine bodyPost_ret (v:=.agg #[.int .i64 s,.int .i64 gn,.int .i64 en,.slice a l.length c]) (by simp [results,Tryz.results53,go_sem,u0,u1,u2,u3]) rfl ?_;rw [HF.out];exact⟨a,c,rfl,HD.out⟩
end Go.Proofs.YtklkhllkjnbhjaaGreatDoor
