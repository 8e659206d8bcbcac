/- Texts of our own, joined. -/
import Derived.Test.YtklkhllkjnbhjaaGreatDoorJjx
/- Records: what the program's readAnyRec and ReadRec hand back. -/
namespace Go.Proofs.YtklkhllkjnbhjaaGreatDoor
open Go.RowKit
open Lib (hid)
set_option maxRecDepth 100000
set_option maxHeartbeats 8000000
def rdN (L:List UInt8):Nat→Option (List Nat×Nat)
  | 0=>some ([],1)
  | k +1=>match rdN L k with
    | none=>none
    | some (ns,p)=>match rv L p with
      | none=>none
      | some (n,q)=>some (ns++ [n],q)
def rdSv (t:ByteArray) (d:Nat):Nat→Option (List ByteArray×Nat)
  | 0=>some ([],d)
  | k +1=>match rdSv t d k with
    | none=>none
    | some (xs,p)=>match rsO t p with
      | none=>none
      | some (x,q)=>some (xs++ [x],q)
theorem zbM{L:List UInt8}{k:Nat}(h:rdN L k=none):∀ m,rdN L (k+m)=none
  | 0=>h
  | m+1=>by
    show rdN L (k+m+1)=none
    rw [rdN,zbM h m]
theorem zbN{t:ByteArray}{d k:Nat}(h:rdSv t d k=none):∀ m,rdSv t d (k+m)=none
  | 0=>h
  | m+1=>by
    show rdSv t d (k+m+1)=none
    rw [rdSv,zbN h m]
theorem XX {L:List UInt8}:∀ {k:Nat} {ns:List Nat} {p:Nat},rdN L k=some (ns,p)→ns.length=k
  | 0,ns,p,h=>by cases h;rfl
  | k + 1,ns,p,h=>by
    rw [rdN] at h
    split at h
    · cases h
    · rename_i ns' p' h'
      split at h
      · cases h
      · cases h
        have:=XX h'
        simp [this]
theorem zab {t:ByteArray} {d:Nat}:∀ {k:Nat} {xs:List ByteArray} {p:Nat},rdSv t d k=some (xs,p)→xs.length=k
  | 0,xs,p,h=>by cases h;rfl
  | k + 1,xs,p,h=>by
    rw [rdSv] at h
    split at h
    · cases h
    · rename_i ns' p' h'
      split at h
      · cases h
      · cases h
        have:=zab h'
        simp [this]
theorem zcS (t:ByteArray) (k:UInt8) (rest:List UInt8) (hk:t.data.toList=k::rest):
    prs t=match rdN t.data.toList 4 with
      | none=>none
      | some (ns,d)=>match rdSv t d 3 with
        | none=>none
        | some (xs,_)=>some ⟨k.toNat,(ns.getD 0 0:Nat),(ns.getD 1 0:Nat),(ns.getD 2 0:Nat),(ns.getD 3 0:Nat),xs.getD 0 emp,xs.getD 1 emp,xs.getD 2 emp⟩:=by
  obtain⟨L,hL⟩:∃ L,t.data.toList=L:=⟨_,rfl⟩;unfold prs;rw [hL];rw [hL] at hk;rw [hk];simp only [rdN,rdSv,←hk];rcases h1:rv L 1 with _ |⟨v,a⟩
  · rfl
  simp only;rcases h2:rv L a with _ |⟨u,b⟩
  · rfl
  simp only;rcases h3:rv L b with _ |⟨n,c⟩
  · rfl
  simp only;rcases h4:rv L c with _ |⟨f,d⟩
  · rfl
  simp only;rcases h5:rsO t d with _ |⟨x,e⟩
  · rfl
  simp only;rcases h6:rsO t e with _ |⟨y,g⟩
  · rfl
  simp only;rcases h7:rsO t g with _ |⟨z,q⟩
  · rfl
  rfl
def numC (ns:List Nat):Array Value:=#[.int .i64 (ns.getD 0 0:Nat),.int .i64 (ns.getD 1 0:Nat),.int .i64 (ns.getD 2 0:Nat),.int .i64 (ns.getD 3 0:Nat)]
def txtC (xs:List ByteArray):Array Value:=#[.string (xs.getD 0 emp),.string (xs.getD 1 emp),.string (xs.getD 2 emp)]
theorem za8(ns:List Nat)(n:Nat)(h:ns.length < 4):(numC ns).setIfInBounds ns.length (.int .i64 (n:Int))=numC (ns++ [n]):=by
  match ns,h with
  | [],_=>rfl
  | [a],_=>rfl
  | [a,b],_=>rfl
  | [a,b,c],_=>rfl
  | a::b::c::d::l,h=>simp at h;omega
theorem zbc(xs:List ByteArray)(x:ByteArray)(h:xs.length < 3):(txtC xs).setIfInBounds xs.length (.string x)=txtC (xs++ [x]):=by
  match xs,h with
  | [],_=>rfl
  | [a],_=>rfl
  | [a,b],_=>rfl
  | a::b::c::l,h=>simp at h;omega
theorem zcy(ns:List Nat)(k:Nat)(h:k < 4):(numC ns)[k]? =some (.int .i64 (ns.getD k 0:Nat)):=by
  rcases jN h with rfl | rfl | rfl | rfl <;> rfl
theorem zb1(xs:List ByteArray)(k:Nat)(h:k < 3):(txtC xs)[k]? =some (.string (xs.getD k emp)):=by
  rcases YC h with rfl | rfl | rfl <;> rfl
def raT (t:ByteArray):Value:=match prs t with
  | some r=>.tuple #[r.v,.bool true]
  | none=>.tuple #[Rc.nil.v,.bool false]
theorem jm{t:ByteArray}(h:prs t=none):raT t=.tuple #[Rc.nil.v,.bool false]:=by rw [raT,h]
theorem Qq{t:ByteArray}{r:Rc}(h:prs t=some r):raT t=.tuple #[r.v,.bool true]:=by rw [raT,h]
theorem zc6(t:ByteArray)(p:Nat)(hp:p≤t.size):
    (rsO t p=none∧rsT t p=zeroS)∨∃(x:ByteArray) (q:Nat),rsO t p=some (x,q)∧rsT t p=.tuple #[.string x,.int .i64 q,.bool true]:=by
  rcases h:rv t.data.toList p with _ |⟨n,q⟩
  · exact .inl ⟨by simp [rsO,h],jn hp h⟩
  · by_cases h2:n≤20000∧n+q≤t.size
    · exact .inr ⟨t.extract q (q+n),q+n,by simp [rsO,h,h2],by rw [J2 hp h h2,Int.natCast_add]⟩
    · exact .inl ⟨by simp [rsO,h,h2],Qg hp h h2⟩
theorem Vl (t : ByteArray) (w:World) (hs:t.size≤1099511627776):
    Calls Tryz.prog 157 #[.string t] w fun e w'=>e=.returned (raT t)∧Below w.heap.size w w':=by
  have b0:Below w.heap.size w (w.alloc (.cells #[.int .i64 0,.int .i64 0,.int .i64 0,.int .i64 0,.int .i64 0,.string ⟨#[]⟩,.string ⟨#[]⟩,.string ⟨#[]⟩] 33)):=zb _ _;have y0:=Box.new w #[.int .i64 0,.int .i64 0,.int .i64 0,.int .i64 0,.int .i64 0,.string ⟨#[]⟩,.string ⟨#[]⟩,.string ⟨#[]⟩] 33;rcases hL:t.data.toList with _ |⟨k0,rest⟩
  · have he:t=⟨#[]⟩:=by
      obtain⟨⟨l⟩⟩:=t;simp only at hL;rw [hL]
    have HT:=hid (jm (t:=t) (by rw [prs,hL]));subst he;clear hL;obtain⟨u0,u1,u2,u3,u4,u5,u6,u7,_⟩:=y0.eight;go_enter Tryz.func157,Tryz.ntmps157
    go_wp2;refine bodyPost_ret (v:=.tuple #[.agg #[.int .i64 0,.int .i64 0,.int .i64 0,.int .i64 0,.int .i64 0,.string ⟨#[]⟩,.string ⟨#[]⟩,.string ⟨#[]⟩],.bool false]) (by simp [results,Tryz.results157,go_sem,u0,u1,u2,u3,u4,u5,u6,u7]) rfl ?_;exact⟨by rw [HT.out];rfl,b0⟩
  · have hz : (t.toList==([]:List UInt8))=false:=by
      rw [ByteArray.toList_eq,hL];rfl
    have HP:=hid (zcS t k0 rest hL);have hsz:1≤t.size:=by rw [←zQ,hL];simp
    have hix:∀ wx,(Instr.index 9 (.string t) (.int .i64 0)).run Tryz.prog wx=.ok (.int .u8 (k0.toNat:Int)) wx:=by
      have e:=j1 t 0 (by omega);have h4:t.data[0]? =some k0:=(by rw [←Array.getElem?_toList,hL];rfl);obtain⟨h5,h6⟩:=Array.getElem?_eq_some_iff.1 h4;have e2:t[0]'(by omega)=k0:=h6;rw [e2] at e;exact e
    have HIX:=hid hix;clear hix;obtain⟨L,hLL⟩:∃ L,t.data.toList=L:=⟨_,rfl⟩;have HL:=hid hLL;have HP:Hid (prs t=match rdN L 4 with
      | none=>none
      | some (ns,d)=>match rdSv t d 3 with
        | none=>none
        | some (xs,_)=>some ⟨k0.toNat,(ns.getD 0 0:Nat),(ns.getD 1 0:Nat),(ns.getD 2 0:Nat),(ns.getD 3 0:Nat),xs.getD 0 emp,xs.getD 1 emp,xs.getD 2 emp⟩):=by rw [←hLL];exact HP.out
    have hLs:L.length=t.size:=by rw [←hLL,zQ]
    clear hL hLL;have b1:=b0.trans ((zb _ (.cells #[.int .i64 0,.int .i64 0,.int .i64 0,.int .i64 0] 89)).mono b0.size);have y1:=y0.later (zb _ (.cells #[.int .i64 0,.int .i64 0,.int .i64 0,.int .i64 0] 89));have z1:=Box.new (w.alloc (.cells #[.int .i64 0,.int .i64 0,.int .i64 0,.int .i64 0,.int .i64 0,.string ⟨#[]⟩,.string ⟨#[]⟩,.string ⟨#[]⟩] 33)) #[.int .i64 0,.int .i64 0,.int .i64 0,.int .i64 0] 89;have hg:(w.alloc (.cells #[.int .i64 0,.int .i64 0,.int .i64 0,.int .i64 0,.int .i64 0,.string ⟨#[]⟩,.string ⟨#[]⟩,.string ⟨#[]⟩] 33)).heap.size=w.heap.size+1:=by simp
    rw [hg] at z1;clear y0 b0 hg;go_enter Tryz.func157,Tryz.ntmps157
    go_wp2;clear hz;obtain⟨g5,hg5⟩:∃ g5,w.heap.size+1=g5:=⟨_,rfl⟩;have hl5:w.heap.size < g5:=by omega
    rw [hg5] at z1 ⊢;clear hg5;generalize (w.alloc (.cells #[.int .i64 0,.int .i64 0,.int .i64 0,.int .i64 0,.int .i64 0,.string ⟨#[]⟩,.string ⟨#[]⟩,.string ⟨#[]⟩] 33)).alloc (.cells #[.int .i64 0,.int .i64 0,.int .i64 0,.int .i64 0] 89)=W1 at b1 y1 z1 ⊢;go_loopw [4,18] (fun av iv wr=>∃(k p:Nat) (ns:List Nat),k≤4∧iv=.int .i64 (k:Int)∧av=.int .i64 (p:Int)∧p≤t.size∧rdN L k=some (ns,p)∧Box wr g5 (numC ns) 89∧Box wr w.heap.size #[.int .i64 0,.int .i64 0,.int .i64 0,.int .i64 0,.int .i64 0,.string ⟨#[]⟩,.string ⟨#[]⟩,.string ⟨#[]⟩] 33∧Below w.heap.size w wr) (fun _ iv _=>4 -(intOf iv).toNat)
    case atStart=>exact⟨0,1,[],by omega,rfl,rfl,hsz,rfl,z1,y1,b1⟩
    case round=>
      obtain⟨k,p,ns,hk,rfl,rfl,hp,hrd,hz5,hy,hb⟩:=hrel;clear b1 y1 z1;have hlen:=XX hrd;by_cases hlt:k < 4
      · have hlt':(k:Int) < 4:=by omega
        rcases hv:rv L p with _ |⟨n,q⟩
        · have hR:Hid (rvT t p=zeroT):=Zt hp (by rw [HL.out];exact hv)
          have HT:Hid (raT t=.tuple #[Rc.nil.v,.bool false]):=by
            refine jm ?_;have h1:rdN L (k+1)=none:=(by rw [rdN,hrd];simp only [hv]);have h4:=zbM h1 (3 - k);rw [show k+1+(3 - k)=4 by omega] at h4;rw [HP.out,h4]
          clear hv hrd HP hz5;go_wp2_with (go_at_call 163;refine(zw _ _ _ hs).mono ?_;rintro e w2 ⟨rfl,hb2⟩;rw [hR.out,zeroT];obtain⟨u0,u1,u2,u3,u4,u5,u6,u7,v0,v1,v2,v3,v4,v5,v6,v7⟩:=(hy.later hb2).eight)
          refine bodyPost_ret (v:=.tuple #[.agg #[.int .i64 0,.int .i64 0,.int .i64 0,.int .i64 0,.int .i64 0,.string ⟨#[]⟩,.string ⟨#[]⟩,.string ⟨#[]⟩],.bool false]) (by simp [results,Tryz.results157,go_sem,u0,u1,u2,u3,u4,u5,u6,u7]) rfl ?_;exact⟨by rw [HT.out];rfl,zN (hb.trans (hb2.mono hb.size)) (Nat.le_refl _) _ _ _ _ _ _ _ _⟩
        · have hR:Hid (rvT t p=.tuple #[.int .i64 n,.int .i64 q,.bool true]):=ye hp (by rw [HL.out];exact hv)
          have hq:=(XU (by omega) hv).2.2;have HS:Hid (rdN L (k+1)=some (ns++ [n],q)):=by
            show rdN L (k+1)=_
            rw [rdN,hrd];simp only [hv]
          clear hv hrd HP;go_wp2_with (go_at_call 163;refine(zw _ _ _ hs).mono ?_;rintro e w2 ⟨rfl,hb2⟩;rw [hR.out];have hc5:=(hz5.later hb2).cell k _ (zcy ns k hlt);have hf5:=(hz5.later hb2).loose k)
          go_roundw
          case rel=>exact⟨k+1,q,ns++ [n],by omega,by go_num,rfl,by omega,HS.out,by rw [←za8 ns n (by omega),hlen];exact(hz5.later hb2).set k _,(hy.later hb2).other (by omega) _ _,(hb.trans (hb2.mono hb.size)).setCell (p:=⟨g5,k,none⟩) (Nat.le_of_lt hl5) _⟩
          case measure=>simp [intOf];omega
      · have hk4:k=4:=by omega
        have hge:¬(k:Int) < 4:=(by omega);rw [hk4] at hrd;clear hlt hk4 hk hlen;have HP2:Hid (prs t=match rdSv t p 3 with
          | none=>none
          | some (xs,_)=>some ⟨k0.toNat,(ns.getD 0 0:Nat),(ns.getD 1 0:Nat),(ns.getD 2 0:Nat),(ns.getD 3 0:Nat),xs.getD 0 emp,xs.getD 1 emp,xs.getD 2 emp⟩):=by
          show prs t=_
          rw [HP.out,hrd]
        clear hrd HP;obtain⟨wa,hwa⟩:∃ wa,wa=wr:=⟨_,rfl⟩;subst hwa;have b2:Below w.heap.size w (wa.alloc (.cells #[.string ⟨#[]⟩,.string ⟨#[]⟩,.string ⟨#[]⟩] 170)):=hb.alloc hb.size _;have y2:=hy.later (zb wa (.cells #[.string ⟨#[]⟩,.string ⟨#[]⟩,.string ⟨#[]⟩] 170));have z2:=hz5.later (zb wa (.cells #[.string ⟨#[]⟩,.string ⟨#[]⟩,.string ⟨#[]⟩] 170));have t2:=Box.new wa #[.string ⟨#[]⟩,.string ⟨#[]⟩,.string ⟨#[]⟩] 170;have lT1:g5 < wa.heap.size:=hz5.lt;go_wp2;clear hge hb hy hz5;generalize wa.alloc (.cells #[.string ⟨#[]⟩,.string ⟨#[]⟩,.string ⟨#[]⟩] 170)=W2 at b2 y2 z2 t2 ⊢;generalize wa.heap.size=gT at lT1 t2 ⊢;go_loopw [4,36] (fun av iv wr=>∃(j d:Nat) (xs:List ByteArray),j≤3∧iv=.int .i64 (j:Int)∧av=.int .i64 (d:Int)∧d≤t.size∧rdSv t p j=some (xs,d)∧Box wr gT (txtC xs) 170∧Box wr g5 (numC ns) 89∧Box wr w.heap.size #[.int .i64 0,.int .i64 0,.int .i64 0,.int .i64 0,.int .i64 0,.string ⟨#[]⟩,.string ⟨#[]⟩,.string ⟨#[]⟩] 33∧Below w.heap.size w wr) (fun _ iv _=>3 -(intOf iv).toNat)
        case atStart=>exact⟨0,p,[],by omega,rfl,rfl,hp,rfl,t2,z2,y2,b2⟩
        case round=>
          obtain⟨j,d,xs,hj,rfl,rfl,hd,hrd,hzT,hz5,hy,hb⟩:=hrel;clear b2 y2 z2 t2;have hlen:=zab hrd;by_cases hlt:j < 3
          · have hlt':(j:Int) < 3:=by omega
            rcases zc6 t d hd with⟨hv,hR0⟩ |⟨x,q,hv,hR0⟩
            · have hR:=hid hR0
              have HT:Hid (raT t=.tuple #[Rc.nil.v,.bool false]):=by
                refine jm ?_;have h1:rdSv t p (j+1)=none:=(by rw [rdSv,hrd];simp only [hv]);have h4:=zbN h1 (2 - j);rw [show j+1+(2 - j)=3 by omega] at h4;rw [HP2.out,h4]
              clear hv hR0 hrd HP2 hz5 hzT;go_wp2_with (go_at_call 164;refine(Zj _ _ _ hs).mono ?_;rintro e w2 ⟨rfl,hb2⟩;rw [hR.out,zeroS];obtain⟨u0,u1,u2,u3,u4,u5,u6,u7,v0,v1,v2,v3,v4,v5,v6,v7⟩:=(hy.later hb2).eight)
              refine bodyPost_ret (v:=.tuple #[.agg #[.int .i64 0,.int .i64 0,.int .i64 0,.int .i64 0,.int .i64 0,.string ⟨#[]⟩,.string ⟨#[]⟩,.string ⟨#[]⟩],.bool false]) (by simp [results,Tryz.results157,go_sem,u0,u1,u2,u3,u4,u5,u6,u7]) rfl ?_;exact⟨by rw [HT.out];rfl,zN (hb.trans (hb2.mono hb.size)) (Nat.le_refl _) _ _ _ _ _ _ _ _⟩
            · have hR:=hid hR0
              have hq:=(zbJ hv).1;have HS:Hid (rdSv t p (j+1)=some (xs++ [x],q)):=by
                show rdSv t p (j+1)=_
                rw [rdSv,hrd];simp only [hv]
              clear hv hR0 hrd HP2;go_wp2_with (go_at_call 164;refine(Zj _ _ _ hs).mono ?_;rintro e w2 ⟨rfl,hb2⟩;rw [hR.out];have hc5:=(hzT.later hb2).cell j _ (zb1 xs j hlt);have hf5:=(hzT.later hb2).loose j)
              go_roundw
              case rel=>exact⟨j+1,q,xs++ [x],by omega,by go_num,rfl,hq,HS.out,by rw [←zbc xs x (by omega),hlen];exact(hzT.later hb2).set j _,(hz5.later hb2).other (by omega) _ _,(hy.later hb2).other (by omega) _ _,(hb.trans (hb2.mono hb.size)).setCell (p:=⟨gT,j,none⟩) (show w.heap.size≤gT by omega) _⟩
              case measure=>simp [intOf];omega
          · have hj3:j=3:=by omega
            have hge:¬(j:Int) < 3:=(by omega);rw [hj3] at hrd;clear hlt hj3 hj hlen;have HT:Hid (raT t=.tuple #[Rc.v ⟨k0.toNat,(ns.getD 0 0:Nat),(ns.getD 1 0:Nat),(ns.getD 2 0:Nat),(ns.getD 3 0:Nat),xs.getD 0 emp,xs.getD 1 emp,xs.getD 2 emp⟩,.bool true]):=by
              refine Qq ?_;rw [HP2.out,hrd]
            clear hrd HP2;have hix:=HIX.out;unfold numC at hz5;unfold txtC at hzT;obtain⟨u0,u1,u2,u3,u4,u5,u6,u7,v0,v1,v2,v3,v4,v5,v6,v7⟩:=hy.eight;have n0:=hz5.cell 0 _ rfl;have n1:=hz5.cell 1 _ rfl;have n2:=hz5.cell 2 _ rfl;have n3:=hz5.cell 3 _ rfl;have x0:=hzT.cell 0 _ rfl;have x1:=hzT.cell 1 _ rfl;have x2:=hzT.cell 2 _ rfl;have hk8:IntKind.i64.wrap (k0.toNat:Int)=(k0.toNat:Int):=by
              have:=UInt8.toNat_lt k0;rw [IntKind.wrap_i64];omega
            have hne5:w.heap.size≠g5:=(by omega);have hneT:w.heap.size≠gT:=(by omega);generalize ns.getD 0 0=m0 at *;generalize ns.getD 1 0=m1 at *;generalize ns.getD 2 0=m2 at *;generalize ns.getD 3 0=m3 at *;generalize xs.getD 0 emp=s0 at *;generalize xs.getD 1 emp=s1 at *;generalize xs.getD 2 emp=s2 at *;go_wp2_with fail
            go_region_held3 (fun x=>x.cell? ⟨g5,0,none⟩=some (.int .i64 (m0:Int))∧x.cell? ⟨g5,1,none⟩=some (.int .i64 (m1:Int))∧x.cell? ⟨g5,2,none⟩=some (.int .i64 (m2:Int))∧x.cell? ⟨g5,3,none⟩=some (.int .i64 (m3:Int))∧x.cell? ⟨gT,0,none⟩=some (.string s0)∧x.cell? ⟨gT,1,none⟩=some (.string s1)∧x.cell? ⟨gT,2,none⟩=some (.string s2))
              (go_keep) (fail)
            all_goals
              clear n0 n1 n2 n3 x0 x1 x2
              rename_i hHeld
              clear hHeld
              go_wp2
              refine bodyPost_ret (v:=.tuple #[.agg #[.int .i64 (k0.toNat:Int),.int .i64 (m0:Int),.int .i64 (m1:Int),.int .i64 (m2:Int),.int .i64 (m3:Int),.string s0,.string s1,.string s2],.bool true]) (by simp [results,Tryz.results157,go_sem,u0,u1,u2,u3,u4,u5,u6,u7]) rfl ?_
              exact⟨by rw [HT.out];rfl,(zN hb (Nat.le_refl _) _ _ _ _ _ _ _ _).drew⟩

/- Records: what the program's ReadRec hands back. -/
theorem JA (t:ByteArray) (w:World) (hs:t.size≤1099511627776):
    Calls Tryz.prog 144 #[.string t] w fun e w'=>e=.returned (rrT t)∧Below w.heap.size w w':=by
  have hRA:=fun wx=>Vl t wx hs;obtain⟨T,hTT⟩:∃ T,rrT t=T:=⟨_,rfl⟩;have HTT:=hid hTT;rw [hTT];clear hTT;have b0:Below w.heap.size w (w.alloc (.cells #[.int .i64 0,.int .i64 0,.int .i64 0,.int .i64 0,.int .i64 0,.string ⟨#[]⟩,.string ⟨#[]⟩,.string ⟨#[]⟩] 33)):=zb _ _;have hI:=Box.new w #[.int .i64 0,.int .i64 0,.int .i64 0,.int .i64 0,.int .i64 0,.string ⟨#[]⟩,.string ⟨#[]⟩,.string ⟨#[]⟩] 33;rcases hp:prs t with _ | r
  · have HE:Hid (T=.tuple #[Rc.nil.v,.bool false]):=by rw [←HTT.out];exact ZT (qw hp)
    rw [jm hp] at hRA;have HRA:Hid (∀ wx,Calls Tryz.prog 157 #[.string t] wx fun e w'=>e=.returned (.tuple #[.agg #[.int .i64 0,.int .i64 0,.int .i64 0,.int .i64 0,.int .i64 0,.string ⟨#[]⟩,.string ⟨#[]⟩,.string ⟨#[]⟩],.bool false])∧Below wx.heap.size wx w'):=hRA;clear hRA hp HTT;go_enter Tryz.func144,Tryz.ntmps144
    go_wp2_with fail
    generalize w.alloc (.cells #[.int .i64 0,.int .i64 0,.int .i64 0,.int .i64 0,.int .i64 0,.string ⟨#[]⟩,.string ⟨#[]⟩,.string ⟨#[]⟩] 33)=W at hI b0 ⊢;refine(HRA.out _).mono ?_;rintro e w1 ⟨rfl,k1⟩;have b1:=b0.trans (k1.mono b0.size);have b2:=b1.trans ((zb w1 (.cells #[.int .i64 0,.int .i64 0,.int .i64 0,.int .i64 0,.int .i64 0,.string ⟨#[]⟩,.string ⟨#[]⟩,.string ⟨#[]⟩] 33)).mono b1.size);obtain⟨u0,u1,u2,u3,u4,u5,u6,u7,v0,v1,v2,v3,v4,v5,v6,v7⟩:=((hI.later k1).later (zb w1 (.cells #[.int .i64 0,.int .i64 0,.int .i64 0,.int .i64 0,.int .i64 0,.string ⟨#[]⟩,.string ⟨#[]⟩,.string ⟨#[]⟩] 33))).eight;clear hI b0 b1 k1 HRA;go_wp2;refine bodyPost_ret (v:=.tuple #[.agg #[.int .i64 0,.int .i64 0,.int .i64 0,.int .i64 0,.int .i64 0,.string ⟨#[]⟩,.string ⟨#[]⟩,.string ⟨#[]⟩],.bool false]) (by simp [results,Tryz.results144,go_sem,u0,u1,u2,u3,u4,u5,u6,u7]) rfl ?_;exact⟨by rw [HE.out];rfl,zN b2 (Nat.le_refl _) _ _ _ _ _ _ _ _⟩
  · rw [Qq hp] at hRA
    have hRT:=fun wx=>yV r wx;obtain⟨bk,o,hT,hE⟩:=zbn (t:=t) (r:=r) (d:=false) hp;rw [hT] at hRT;obtain⟨eq,hq⟩:∃ eq,decide (bk=t)=eq:=⟨_,rfl⟩;rw [hq] at hE;have qb:(bk.toList==t.toList)=eq:=by rw [vN,hq]
    rw [HTT.out] at hE;have HE:=hid hE;obtain⟨kind,valid,uid,next,flags,user,name,text⟩:=r;unfold Rc.v at hRA hRT;simp only at hRA hRT;have HRA:=hid hRA;have HRT:=hid hRT;clear hRA hRT hp hT hq hE HTT;go_enter Tryz.func144,Tryz.ntmps144
    go_wp2_with fail
    generalize w.alloc (.cells #[.int .i64 0,.int .i64 0,.int .i64 0,.int .i64 0,.int .i64 0,.string ⟨#[]⟩,.string ⟨#[]⟩,.string ⟨#[]⟩] 33)=W at hI b0 ⊢;refine(HRA.out _).mono ?_;rintro e w1 ⟨rfl,k1⟩;have b1:=b0.trans (k1.mono b0.size);have b2:=b1.trans ((zb w1 (.cells #[.int .i64 kind,.int .i64 valid,.int .i64 uid,.int .i64 next,.int .i64 flags,.string user,.string name,.string text] 33)).mono b1.size);have hI2:=(hI.later k1).later (zb w1 (.cells #[.int .i64 kind,.int .i64 valid,.int .i64 uid,.int .i64 next,.int .i64 flags,.string user,.string name,.string text] 33));have hR2:=Box.new w1 #[.int .i64 kind,.int .i64 valid,.int .i64 uid,.int .i64 next,.int .i64 flags,.string user,.string name,.string text] 33;obtain⟨y0,y1,y2,y3,y4,y5,y6,y7,_,_,_,_,_,_,_,_⟩:=hR2.eight;clear hI b0 b1 k1 HRA;go_wp2_with fail
    clear y0 y1 y2 y3 y4 y5 y6 y7;generalize w1.alloc (.cells #[.int .i64 kind,.int .i64 valid,.int .i64 uid,.int .i64 next,.int .i64 flags,.string user,.string name,.string text] 33)=X at hI2 hR2 b2 ⊢;refine(HRT.out _).mono ?_;rintro e w2 ⟨rfl,k2⟩;obtain⟨y0,y1,y2,y3,y4,y5,y6,y7,_,_,_,_,_,_,_,_⟩:=(hR2.later k2).eight;obtain⟨u0,u1,u2,u3,u4,u5,u6,u7,v0,v1,v2,v3,v4,v5,v6,v7⟩:=(hI2.later k2).eight;have BB:=hid (b2.trans (k2.mono b2.size));clear hI2 hR2 b2 k2 HRT;cases o with
    | false=>
      go_wp2;refine bodyPost_ret (v:=.tuple #[.agg #[.int .i64 0,.int .i64 0,.int .i64 0,.int .i64 0,.int .i64 0,.string ⟨#[]⟩,.string ⟨#[]⟩,.string ⟨#[]⟩],.bool false]) (by simp [results,Tryz.results144,go_sem,u0,u1,u2,u3,u4,u5,u6,u7]) rfl ?_;exact⟨by rw [HE.out];rfl,zN BB.out (Nat.le_refl _) _ _ _ _ _ _ _ _⟩
    | true=>
      cases eq with
      | false=>
        go_wp2;refine bodyPost_ret (v:=.tuple #[.agg #[.int .i64 0,.int .i64 0,.int .i64 0,.int .i64 0,.int .i64 0,.string ⟨#[]⟩,.string ⟨#[]⟩,.string ⟨#[]⟩],.bool false]) (by simp [results,Tryz.results144,go_sem,u0,u1,u2,u3,u4,u5,u6,u7]) rfl ?_;exact⟨by rw [HE.out];rfl,zN BB.out (Nat.le_refl _) _ _ _ _ _ _ _ _⟩
      | true=>
        go_wp2;refine bodyPost_ret (v:=.tuple #[.agg #[.int .i64 kind,.int .i64 valid,.int .i64 uid,.int .i64 next,.int .i64 flags,.string user,.string name,.string text],.bool true]) (by simp [results,Tryz.results144,go_sem,u0,u1,u2,u3,u4,u5,u6,u7]) rfl ?_;exact⟨by rw [HE.out];rfl,zN BB.out (Nat.le_refl _) _ _ _ _ _ _ _ _⟩
end Go.Proofs.YtklkhllkjnbhjaaGreatDoor
