/- Texts of our own, joined. -/
import Derived.Test.YtklkhllkjnbhjaaGreatDoorJn
/- FreeSegs of both. -/
namespace Go.Proofs.YtklkhllkjnbhjaaGreatDoor
open Go.RowKit
open Lib (hid)
set_option maxRecDepth 100000
set_option maxHeartbeats 8000000
def noB (n:Int) (s:Sg):Bool:=decide (s.no=n)
def hasB (u:List Sg) (n:Int):Bool:=u.any (noB n)
def frT (u:List Sg):Nat→List Int
  | 0=> []
  | n+1=>frT u n++(if hasB u (n:Int) then [] else [(n:Int)])
theorem yM{u:List Sg}{n:Nat}(h:hasB u (n:Int)=true):frT u (n+1)=frT u n:=by
  show frT u n++_=_
  rw [if_pos h,List.append_nil]
theorem yC{u:List Sg}{n:Nat}(h:hasB u (n:Int)=false):frT u (n+1)=frT u n++ [(n:Int)]:=by
  show frT u n++_=_
  rw [if_neg (by rw [h];exact Bool.false_ne_true)]
theorem JZ(u:List Sg):∀ n,(frT u n).length≤n
  | 0=>Nat.le_refl _
  | n+1=>by
    have:=JZ u n
    cases h:hasB u (n:Int) with
    | true=>rw [yM h];omega
    | false=>rw [yC h,List.length_append];simp;omega
def frN (segs:Int):Nat:=(min segs 11).toNat
theorem xM(s:Int):frN s≤11:=by unfold frN;omega
theorem zc5(s:Int)(n:Nat):n < frN s↔(n:Int) < s∧(n:Int) < 11:=by unfold frN;omega
def fr (L:Lg):List Int:=frT L.used (frN L.segs)
theorem zbS(L:Lg):(fr L).length≤11:=Nat.le_trans (JZ _ _) (xM _)
theorem Qr{u:List Sg}{i:Nat}{s:Sg}(h:u[i]? =some s)(n:Int):hasB (u.take (i+1)) n=(hasB (u.take i) n || noB n s):=by
  unfold hasB;rw [List.take_add_one,h,List.any_append];simp
theorem jV (L :Lg) (v:Value) (w:World) (h:LRd w v L) (hl:L.used.length≤1048576):
    Calls Tryz.prog 25 #[v] w fun e w'=>∃ v',e=.returned v'∧RBuf intE w.heap.size w w' v' (fr L):=by
  obtain⟨va,vb,vu,rfl,_,hu⟩:=h;obtain⟨ad,cap,rfl,hrow⟩:=hu.segs;have b0:=zb w (.cells #[va,vb,.int .i64 L.segs,.slice ad L.used.length cap,.int .i64 L.ng,.int .i64 L.ns,.int .i64 L.st,.int .i64 L.nv] 30);have q0:=Box.new w #[va,vb,.int .i64 L.segs,.slice ad L.used.length cap,.int .i64 L.ng,.int .i64 L.ns,.int .i64 L.st,.int .i64 L.nv] 30;have HR:Hid _:=hrow;clear hu hrow;obtain⟨n,hn⟩:∃ n,L.used.length=n:=⟨_,rfl⟩;rw [hn] at hl q0 b0 ⊢;have HN:=hid hn;clear hn;have HF:Hid (fr L=frT L.used (frN L.segs)):=rfl;have hfn:=xM L.segs;have HLT:=hid (fun k=>zc5 L.segs k);generalize fr L=A at HF ⊢;obtain⟨N,hN⟩:∃ N,frN L.segs=N:=⟨_,rfl⟩;rw [hN] at HF hfn HLT;clear hN;obtain⟨W,hW⟩:∃ W,w.alloc (.cells #[va,vb,.int .i64 L.segs,.slice ad n cap,.int .i64 L.ng,.int .i64 L.ns,.int .i64 L.st,.int .i64 L.nv] 30)=W:=⟨_,rfl⟩;rw [hW] at q0 b0;have HW:=hid hW;clear hW;have I0:=RBuf.fresh intE W;go_enter Tryz.func25,Tryz.ntmps25
  go_upto_region 1 with fail
  rw [HW.out];have HQ:=hid q0;have HB0:=hid b0;clear q0 b0 HW;go_wp2;go_loopw [3,4] (fun v iv wr=>∃ k:Nat,k≤N∧iv=.int .i64 (k:Int)∧RBuf intE W.heap.size W wr v (frT L.used k)) (fun _ iv _=>N -(intOf iv).toNat)
  case atStart=>exact⟨0,by omega,rfl,I0⟩
  case round=>
    clear I0;obtain⟨k,hk,rfl,I⟩:=hrel;obtain⟨c0,c1,c2,c3,c4,c5,c6,c7,_⟩:=(HQ.out.later I.bel).eightL;by_cases hlt:k < N
    · obtain ⟨hk1,hk2⟩:=(HLT.out k).1 hlt
      have hlen:=JZ L.used k;have HU:=hid (@yM L.used k);have HV:=hid (@yC L.used k);obtain⟨us,hus⟩:∃ us,frT L.used k=us:=⟨_,rfl⟩;rw [hus] at I hlen HU HV;clear hus;obtain⟨a3,p3,rfl⟩:=I.form;go_wp2;go_loop [5,6] (fun bv iv=>∃ i:Nat,i≤n∧iv=.int .i64 (i:Int)∧bv=.bool (hasB (L.used.take i) (k:Int))) (fun _ iv=>n -(intOf iv).toNat)
      case atStart=>exact⟨0,by omega,rfl,by simp [hasB]⟩
      case round=>
        obtain⟨i,hi,rfl,rfl⟩:=hrel;by_cases hli:i < n
        · obtain⟨s,hgs⟩:∃ s,L.used[i]? =some s:=⟨_,List.getElem?_eq_getElem (by rw [HN.out];exact hli)⟩
          obtain⟨ga,oa,am,nm,cm,rfl,a0,a1,a2,a4,_⟩:=HR.out _ (HB0.out.trans (I.bel.mono HB0.out.size)) i s hgs;have HT:=hid (Qr hgs (k:Int));have hi0:(0:Int)≤(i:Int):=(by omega);have hi1:(i:Int) <(n:Int):=(by omega);generalize hasB (L.used.take i) (k:Int)=D at HT ⊢;clear hgs;cases D with
          | true=>
            go_wp2;exact⟨⟨i+1,by omega,by simp,by rw [HT.out,Bool.true_or]⟩,by first | omega |(simp [intOf];omega)⟩
          | false=>
            rw [Bool.false_or] at HT;by_cases hs:s.no=(k:Int)
            · have HT':Hid (hasB (L.used.take (i+1)) (k:Int)=true):=by show _=_;rw [HT.out];exact decide_eq_true hs
              have hs':(s.no==(k:Int))=true:=(by rw [hs];exact beq_self_eq_true _);clear HT;go_wp2;exact⟨⟨i+1,by omega,by simp,by rw [HT'.out]⟩,by first | omega |(simp [intOf];omega)⟩
            · have HT':Hid (hasB (L.used.take (i+1)) (k:Int)=false):=by show _=_;rw [HT.out];exact decide_eq_false hs
              have hs':(s.no==(k:Int))=false:=beq_eq_false_iff_ne.2 hs;clear HT;go_wp2;exact⟨⟨i+1,by omega,by simp,by rw [HT'.out]⟩,by first | omega |(simp [intOf];omega)⟩
        · have HT:Hid (hasB (L.used.take i) (k:Int)=hasB L.used (k:Int)):=by show _=_;rw [List.take_of_length_le (by rw [HN.out];omega)]
          rw [HT.out];clear HT;cases hD:hasB L.used (k:Int) with
          | true=>
            have HU':=hid (HU.out hD);clear HU HV hD;go_wp2;exact⟨⟨k+1,by omega,by simp,by rw [HU'.out];exact I⟩,by first | omega |(simp [intOf];omega)⟩
          | false=>
            have HV':=hid (HV.out hD);have HR6:=hid (I.alloc (.cells #[.int .i64 (k:Int)] 3));have HL6:=hid (RBuf.lit1 intE wr (k:Int));clear HU HV hD I;go_wp2_with (at_builtin;refine zA rfl _ _ intE rfl W.heap.size _ _ rfl HR6.out.here wr.heap.size _ [(k:Int)] rfl HL6.out (by show _ * 9≤_;simp only [List.length_cons,List.length_nil];omega) ?_;intro v6 w6 r6 g6 at6)
            exact⟨⟨k+1,by omega,by simp,by rw [HV'.out];exact⟨r6.own,HR6.out.bel.grown g6 HR6.out.le (fun q hq=>(HR6.out.own.lt q hq).1),r6.le⟩⟩,by first | omega |(simp [intOf];omega)⟩
    · have hkn:k=N:=by omega
      have hnot:¬((k:Int) < L.segs∧(k:Int) < 11):=fun e=>hlt ((HLT.out k).2 e);have HE:Hid (A=frT L.used k):=(by show _=_;rw [HF.out,hkn]);have HI:=hid I;clear I hkn hlt;by_cases h1:(k:Int) < L.segs
      · have h2:¬(k:Int) < 11:=fun e=>hnot ⟨h1,e⟩
        go_wp2;go_ret;exact⟨_,rfl,by rw [HE.out];exact HI.out.down (HB0.out.trans (HI.out.bel.mono HB0.out.size)) HB0.out.size⟩
      · go_wp2
        go_ret;exact⟨_,rfl,by rw [HE.out];exact HI.out.down (HB0.out.trans (HI.out.bel.mono HB0.out.size)) HB0.out.size⟩
theorem xm(s:Sg)(a:Option Addr)(n c:Nat)(k:Int)(g:Nat)(w:World)(h:w.cell? ⟨g,0,none⟩=some (.int .i64 k)):
    Calls Tryz.prog 90 #[.agg #[.int .i64 s.no,.int .i64 s.gen,.int .i64 s.ende,.slice a n c],.pointer (some ⟨g,0,none⟩)] w fun e w'=>e=.returned (.bool (noB k s))∧Below w.heap.size w w':=by
  have b1:=zb w (.cells #[.int .i64 s.no,.int .i64 s.gen,.int .i64 s.ende,.slice a n c] 60);have c0:=(b1.cell (p:=⟨g,0,none⟩) (World.block_lt_of_cell? _ _ h)).trans h;have q:=(Box.new w #[.int .i64 s.no,.int .i64 s.gen,.int .i64 s.ende,.slice a n c] 60).cell 0 _ rfl;clear h;by_cases hs:s.no=k
  · subst hs
    have HD:Hid (noB s.no s=true):=decide_eq_true rfl;go_enter Tryz.func90,Tryz.ntmps90
    go_wp2;go_ret;exact⟨by rw [HD.out];first | rfl | simp,b1⟩
  · have HD:Hid (noB k s=false):=decide_eq_false hs
    have hs':(s.no==k)=false:=beq_eq_false_iff_ne.2 hs;go_enter Tryz.func90,Tryz.ntmps90
    go_wp2;go_ret;exact⟨by rw [HD.out];first | rfl | simp [hs'],b1⟩
theorem Qm (l:List Sg) (v:Value) (k:Int) (gr:Nat) (w:World) (h:GRd w v l) (hl:l.length≤1048576) (h0:w.cell? ⟨gr,0,none⟩=some (.int .i64 k)):
    Calls Tryz.prog 118 #[v,.func (.func 90) #[] #[.pointer (some ⟨gr,0,none⟩)]] w fun e w'=>(∃ r:Int,e=.returned (.int .i64 r)∧((0≤r∧hasB l k=true)∨(¬0≤r∧hasB l k=false)))∧Below w.heap.size w w':=by
  obtain⟨ad,cap,rfl,hrow⟩:=h.segs;have HR:Hid _:=hrow;clear h hrow;obtain⟨n,hn⟩:∃ n,l.length=n:=⟨_,rfl⟩;rw [hn] at hl ⊢;have HN:=hid hn;clear hn;have l0:=World.block_lt_of_cell? _ _ h0;have HO:Hid (∀(y:Sg) a m c x,Below w.heap.size w x→Calls Tryz.prog 90 #[.agg #[.int .i64 y.no,.int .i64 y.gen,.int .i64 y.ende,.slice a m c],.pointer (some ⟨gr,0,none⟩)] x fun e w'=>e=.returned (.bool (noB k y))∧Below x.heap.size x w'):=fun y a m c x hx=>xm y a m c k gr x ((hx.cell (p:=⟨gr,0,none⟩) l0).trans h0);clear h0 l0;obtain⟨Q,hQ⟩:∃ Q,hasB l k=Q:=⟨_,rfl⟩;rw [hQ];have HQ:=hid hQ;clear hQ;go_enter Tryz.func118,Tryz.ntmps118
  go_wp2;go_loopw [8] (fun iv wr=>∃ i:Nat,i≤n∧iv=.int .i64 (i:Int)∧Hid (hasB (l.take i) k=false)∧Below w.heap.size w wr) (fun iv _=>n -(intOf iv).toNat)
  case atStart=>exact⟨0,by omega,rfl,show _=_ by simp [hasB],Below.refl _ _⟩
  case round=>
    obtain⟨i,hi,rfl,HNO,bq⟩:=hrel;by_cases hlt:i < n
    · obtain⟨y,hgy⟩:∃ y,l[i]? =some y:=⟨_,List.getElem?_eq_getElem (by rw [HN.out];omega)⟩
      obtain⟨ga,oa,am,nm,cm,rfl,a0,a1,a2,a3,_⟩:=HR.out _ bq i y hgy;have HOY:=hid (HO.out y am nm cm _ bq);have HT:=hid (Qr hgy k);rw [HNO.out,Bool.false_or] at HT;have HFA:Hid (noB k y=true→Q=true):=fun hy=>by rw [←HQ.out];exact List.any_eq_true.2 ⟨y,List.mem_of_getElem? hgy,hy⟩
      clear hgy;generalize noB k y=D at HOY HT HFA;have hi0:(0:Int)≤(i:Int):=(by omega);have hi1:(i:Int) <(n:Int):=(by omega);cases D with
      | true=>
        have HF:=hid (HFA.out rfl);clear HFA HT;go_wp2_with (go_at_call 90;refine HOY.out.mono ?_;rintro e w1 ⟨rfl,k1⟩)
        go_ret;exact⟨⟨(i:Int),rfl,.inl ⟨hi0,HF.out⟩⟩,bq.trans (k1.mono bq.size)⟩
      | false=>
        clear HFA;go_wp2_with (go_at_call 90;refine HOY.out.mono ?_;rintro e w1 ⟨rfl,k1⟩)
        exact⟨⟨i+1,by omega,by simp,HT,bq.trans (k1.mono bq.size)⟩,by first | omega |(simp [intOf];omega)⟩
    · have HF:Hid (Q=false):=by
        have h1:=HNO.out;rw [List.take_of_length_le (by rw [HN.out];omega)] at h1;rw [←HQ.out];exact h1
      clear HNO;go_wp2;go_ret;exact⟨⟨-1,rfl,.inr ⟨by omega,HF.out⟩⟩,bq⟩
theorem JQ(l:List Sg)(v:Value)(k:Int)(gr:Nat)(w:World)(h:GRd w v l)(hl:l.length≤1048576)(h0:w.cell? ⟨gr,0,none⟩=some (.int .i64 k)):
    Calls Tryz.prog 89 #[v,.func (.func 90) #[] #[.pointer (some ⟨gr,0,none⟩)]] w fun e w'=>e=.returned (.bool (hasB l k))∧Below w.heap.size w w':=by
  have HI:=hid (Qm l v k gr w h hl h0);obtain⟨ad,cap,rfl,_⟩:=h.segs;clear h h0;go_enter Tryz.func89,Tryz.ntmps89
  go_wp2_with fail
  refine HI.out.mono ?_;rintro e w1 ⟨⟨r,rfl,hr⟩,k1⟩;clear HI;rcases hr with⟨hr,he⟩ |⟨hr,he⟩
  · have HE:=hid he
    clear he;go_wp2;go_ret;exact⟨by rw [HE.out];first | rfl | simp [hr],k1⟩
  · have HE:=hid he
    clear he;go_wp2;go_ret;exact⟨by rw [HE.out];first | rfl | simp [hr],k1⟩
theorem V6(l:List Sg)(v:Value)(k:Int)(w:World)(h:GRd w v l)(hl:l.length≤1048576):
    Calls Tryz.prog 62 #[v,.int .i64 k] w fun e w'=>e=.returned (.bool (hasB l k))∧Below w.heap.size w w':=by
  have b1:=zb w (.cells #[.int .i64 k] 3);have q:=(Box.new w #[.int .i64 k] 3).cell 0 _ rfl;have HC:=hid (JQ l v k w.heap.size _ (h.later b1) hl q);obtain⟨ad,cap,rfl,_⟩:=h.segs;have hmf:∀(fn:Fn) (first cap:Array Value) (w:World),(Instr.makeFunc fn first cap).run Tryz.prog w=.ok (.func fn first cap) w:=fun _ _ _ _=>rfl;generalize hasB l k=D at HC;clear h q;go_enter Tryz.func62,Tryz.ntmps62
  go_wp2_with (go_at_call 89;refine HC.out.mono ?_;rintro e w1 ⟨rfl,k1⟩)
  go_ret;exact⟨rfl,b1.trans (k1.mono b1.size)⟩
theorem VC (u:List Sg) (v:Value) (segs:Int) (w:World) (h:GRd w v u) (hl:u.length≤1048576):
    Calls Tryz.prog 55 #[.int .i64 segs,v] w fun e w'=>∃ v',e=.returned v'∧RBuf intE w.heap.size w w' v' (frT u (frN segs)):=by
  have HH:Hid (∀(k:Int) x,Below w.heap.size w x→Calls Tryz.prog 62 #[v,.int .i64 k] x fun e w'=>e=.returned (.bool (hasB u k))∧Below x.heap.size x w'):=fun k x hx=>V6 u v k x (h.later hx) hl;obtain⟨ad,cap,rfl,_⟩:=h.segs;clear h;obtain⟨n,hn⟩:∃ n,u.length=n:=⟨_,rfl⟩;rw [hn] at HH ⊢;clear hn hl;have hfn:=xM segs;have hmin:min segs 11=(frN segs:Int)∨(min segs 11 < 0∧frN segs=0):=by unfold frN;omega
  obtain⟨N,hN⟩:∃ N,frN segs=N:=⟨_,rfl⟩;rw [hN] at hfn hmin ⊢;clear hN;obtain⟨M,hM⟩:∃ M:Int,min segs 11=M:=⟨_,rfl⟩;have hM2:(if segs < 11 then segs else 11)=M:=by rw [←hM];omega
  have HMM:Hid (M=(N:Int)∨(M < 0∧N=0)):=by rw [←hM];exact hmin
  clear hmin;have I0:=RBuf.fresh intE w;go_enter Tryz.func55,Tryz.ntmps55
  go_wp2;go_loopw [5,10] (fun v iv wr=>∃ k:Nat,k≤N∧iv=.int .i64 (k:Int)∧RBuf intE w.heap.size w wr v (frT u k)) (fun _ iv _=>N -(intOf iv).toNat)
  case atStart=>exact⟨0,by omega,rfl,I0⟩
  case round=>
    clear I0;obtain⟨k,hk,rfl,I⟩:=hrel;by_cases hlt:k < N
    · have hk1:(k:Int) < M:=by have:=HMM.out;omega
      have hlen:=JZ u k;have HU:=hid (@yM u k);have HV:=hid (@yC u k);obtain⟨us,hus⟩:∃ us,frT u k=us:=⟨_,rfl⟩;rw [hus] at I hlen HU HV;clear hus;obtain⟨a3,p3,rfl⟩:=I.form;have HK:=hid (HH.out (k:Int) _ I.bel);cases hD:hasB u (k:Int) with
      | true=>
        rw [hD] at HK;have HU':=hid (HU.out hD);clear HU HV hD;go_wp2_with (go_at_call 62;refine HK.out.mono ?_;rintro e w1 ⟨rfl,k1⟩)
        exact⟨⟨k+1,by omega,by simp,by rw [HU'.out];exact I.later k1⟩,by first | omega |(simp [intOf];omega)⟩
      | false=>
        rw [hD] at HK;have HV':=hid (HV.out hD);clear HU HV hD;go_wp2_with fail
        refine HK.out.mono ?_;rintro e w1 ⟨rfl,k1⟩;have I1:=I.later k1;have HR6:=hid (I1.alloc (.cells #[.int .i64 (k:Int)] 3));have HL6:=hid (RBuf.lit1 intE w1 (k:Int));clear I1 I HK k1;go_wp2_with (at_builtin;refine zA rfl _ _ intE rfl w.heap.size _ _ rfl HR6.out.here w1.heap.size _ [(k:Int)] rfl HL6.out (by show _ * 9≤_;simp only [List.length_cons,List.length_nil];omega) ?_;intro v6 w6 r6 g6 at6)
        exact⟨⟨k+1,by omega,by simp,by rw [HV'.out];exact⟨r6.own,HR6.out.bel.grown g6 HR6.out.le (fun q hq=>(HR6.out.own.lt q hq).1),r6.le⟩⟩,by first | omega |(simp [intOf];omega)⟩
    · have hk1:¬(k:Int) < M:=by have:=HMM.out;omega
      have hkn:Hid (k=N):=(by show _=_;omega);go_wp2;go_ret;exact⟨_,rfl,by rw [←hkn.out];exact I⟩

/- The model's way to write bytes, plainly: step by step it is wbL. -/
theorem zbV{d:Dk}{kq fr i n:Nat}{ws t:ByteArray}(hr:rdO d (kq:Int)=some ws)(hw:ws.size=32)(hf:fr < 32)(hn:n=min (32 - fr) (t.size - i))(hi:i < t.size):wbS d kq fr (t.data.toList.drop i)=ws.extract 0 fr++t.extract i (i+n) ++ws.extract (fr+n) ws.size:=by
  have hsz:∀ b:ByteArray,b.size=b.data.toList.length:=fun b=>by simp
  have hwl:ws.data.toList.length=32:=by rw [←hsz];exact hw
  have htl:t.data.toList.length=t.size:=(hsz t).symm;refine Yr ?_;rw [zY,zY,zG,zG,zG];show splice (secL ((rdO d (kq:Int)).getD ⟨#[]⟩)) fr ((t.data.toList.drop i).take (32 - fr))=_
  rw [hr,Option.getD_some,Xs hw];unfold splice;have e1:(t.data.toList.drop i).take (32 - fr)=(t.data.toList.drop i).take n:=by
    rcases Nat.le_total (32 - fr) (t.size - i) with h | h
    · rw [show n=32 - fr by omega]
    · rw [show n=t.size - i by omega,List.take_of_length_le (by rw [List.length_drop];omega),List.take_of_length_le (by rw [List.length_drop];omega)]
  have e2:((t.data.toList.drop i).take n).length=n:=by rw [List.length_take,List.length_drop];omega
  rw [e1,e2,List.drop_zero,Nat.sub_zero,Nat.add_sub_cancel_left,hw];rw [List.take_of_length_le (l:=ws.data.toList.drop (fr+n)) (by rw [List.length_drop];omega),List.append_assoc]
theorem QN{d:Dk}{se A i n kq fr:Nat}{ws t S:ByteArray}(hr:rdO d (kq:Int)=some ws)(hw:ws.size=32)(hkq:se+(A+i) / 32=kq)(hfr:(A+i) % 32=fr)(hn:n=min (32 - fr) (t.size - i))(hi:i < t.size)(hS:S=ws.extract 0 fr++t.extract i (i+n) ++ws.extract (fr+n) ws.size)(h:wrOk d (kq:Int) S):
    wbL d (se+(A+i) / 32) ((A+i) % 32) (t.data.toList.drop i)=wbL (wrD d (kq:Int) S) (se+(A+(i+n)) / 32) ((A+(i+n)) % 32) (t.data.toList.drop (i+n)):=by
  have hf:fr < 32:=by omega
  have hsz:t.data.toList.length=t.size:=by simp
  have he:=zbV hr hw hf hn hi;rw [←hS] at he;have hne:t.data.toList.drop i≠ []:=fun e=>by have:=congrArg List.length e;rw [List.length_drop] at this;simp at this;omega
  rw [hkq,hfr,qH hne hf (by rw [he];exact h),he];rcases Nat.le_total (32 - fr) (t.size - i) with h1 | h1
  · have hn':n=32 - fr:=by omega
    rw [List.drop_drop,show(A+(i+n)) % 32=0 by omega,show se+(A+(i+n)) / 32=kq+1 by omega,hn']
  · have hn':n=t.size - i:=by omega
    rw [List.drop_drop,List.drop_eq_nil_of_le (by omega),List.drop_eq_nil_of_le (by omega),yl,yl]
theorem VB{d:Dk}{se A i n kq fr:Nat}{ws t S:ByteArray}(hr:rdO d (kq:Int)=some ws)(hw:ws.size=32)(hkq:se+(A+i) / 32=kq)(hfr:(A+i) % 32=fr)(hn:n=min (32 - fr) (t.size - i))(hi:i < t.size)(hS:S=ws.extract 0 fr++t.extract i (i+n) ++ws.extract (fr+n) ws.size)(h:¬wrOk d (kq:Int) S):
    wbL d (se+(A+i) / 32) ((A+i) % 32) (t.data.toList.drop i)=none:=by
  have hf:fr < 32:=by omega
  have he:=zbV hr hw hf hn hi;rw [←hS] at he;have hne:t.data.toList.drop i≠ []:=fun e=>by have:=congrArg List.length e;rw [List.length_drop] at this;simp at this;omega
  rw [hkq,hfr];exact Ys hne (by rw [he];exact h)
theorem qc{d:Dk}{se A i:Nat}{t:ByteArray}(hi:i < t.size)(h:¬se+(A+i) / 32 < d.sec.length):wbL d (se+(A+i) / 32) ((A+i) % 32) (t.data.toList.drop i)=none:=by
  have hne:t.data.toList.drop i≠ []:=fun e=>by have:=congrArg List.length e;rw [List.length_drop] at this;simp at this;omega
  exact Ys hne fun hk=>h (by have:=hk.2.1.2;omega)
end Go.Proofs.YtklkhllkjnbhjaaGreatDoor
