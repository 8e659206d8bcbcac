/- Texts of our own, joined. -/
import Derived.Test.YtklkhllkjnbhjaaGreatDoorJz
/- Logs that were written on, plainly: each segment in use is its frames' texts and zeros behind them, what is free is zeros. -/
namespace Go.Proofs.YtklkhllkjnbhjaaGreatDoor
open Go.RowKit
set_option maxRecDepth 100000
set_option maxHeartbeats 8000000
theorem Qz(n:Nat):(zer n).data.toList=List.replicate n 0:=by simp [zer]
theorem QL{T X t:ByteArray}(hT:T=X++zer (256 - X.size))(h:X.size+t.size≤256):
    T.extract 0 X.size++t++T.extract (X.size+t.size) 256=(X++t) ++zer (256 -(X++t).size):=by
  apply yn;have hx:X.data.toList.length=X.size:=zQ X;rw [hT];simp only [ByteArray.data_append,Array.toList_append,ByteArray.data_extract,Array.toList_extract,List.extract_eq_take_drop,Qz,ByteArray.size_append];rw [List.drop_zero,Nat.sub_zero,List.take_append_of_le_length (by omega),List.take_of_length_le (by omega),List.drop_append,List.drop_of_length_le (by omega),List.nil_append,List.drop_replicate,List.take_replicate,List.append_assoc,List.append_assoc];rw [show min (256 -(X.size+t.size)) (256 - X.size -(X.size+t.size - X.data.toList.length))=256 -(X.size+t.size) by omega]
structure LgQ (L:Lg):Prop where
  ok:L.d.ok
  cac:L.d.cache= []
  segs:5≤L.segs∧L.segs≤11
  room:(L.d.sec.length:Int)=8+8 * L.segs
  ng:Fr.numOk L.ng
  ns:Fr.numOk L.ns
  nv:Fr.numOk L.nv
  seg:∀ s∈L.used,SgR L.d s∧s.no < L.segs∧s.gen < L.ng∧∀ x∈s.items,x.1 < L.ns∧x.2.valid < L.nv
  pw:L.used.Pairwise (fun a b=>a.gen < b.gen∧a.no≠b.no)
  cnt:(fr L).length+L.used.length=L.segs.toNat
  free:∀ n:Nat,(n:Int) < L.segs→hasB L.used (n:Int)=false→sgT L.d (n:Int)=zer 256
  uniq:Uniq (its L.used)
  few:(its L.used).length≤200
theorem SgR.disk{d D:Dk}{s:Sg}(h:SgR d s)(he:sgT D s.no=sgT d s.no):SgR D s:=⟨h.no,h.gen,h.its,h.len,h.ende,by rw [he];exact h.text⟩
theorem jK{u:List Sg}{n:Int}:hasB u n=true↔∃ s∈u,s.no=n:=by
  unfold hasB noB;rw [List.any_eq_true];constructor
  · rintro⟨s,h1,h2⟩
    exact⟨s,h1,by simpa using h2⟩
  · rintro⟨s,h1,h2⟩
    exact⟨s,h1,by simpa using h2⟩
theorem YD{u:List Sg}{n:Int}:hasB u n=false↔∀ s∈u,s.no≠n:=by
  cases h:hasB u n with
  | true=>
    obtain⟨s,h1,h2⟩:=jK.1 h;exact⟨(fun c=>by cases c),fun c=>absurd h2 (c s h1)⟩
  | false=>
    refine⟨fun _ s h1 h2=>?_,fun _=>rfl⟩;rw [jK.2 ⟨s,h1,h2⟩] at h;cases h
theorem Z5{u:List Sg}{s:Sg}(n:Int):hasB (u++ [s]) n=(hasB u n || decide (s.no=n)):=by
  cases h:hasB (u++ [s]) n with
  | true=>
    obtain⟨t,h1,h2⟩:=jK.1 h;rcases List.mem_append.1 h1 with h3 | h3
    · rw [jK.2 ⟨t,h3,h2⟩];rfl
    · rw [List.mem_singleton.1 h3] at h2
      rw [decide_eq_true h2,Bool.or_true]
  | false=>
    have h1:=YD.1 h;rw [YD.2 (fun t ht=>h1 t (List.mem_append.2 (.inl ht))),decide_eq_false (h1 s (List.mem_append.2 (.inr (List.mem_singleton.2 rfl))))];rfl
theorem Vb{u v:List Sg}:∀(n:Nat),(∀ k:Nat,k < n→hasB u (k:Int)=hasB v (k:Int))→frT u n=frT v n
  | 0,_=>rfl
  | n+1,h=>by
    show frT u n++_=frT v n++_
    rw [Vb n (fun k hk=>h k (by omega)),h n (by omega)]
theorem QB{u:List Sg}{s:Sg}{m:Nat}(hs:s.no=(m:Int))(hu:hasB u (m:Int)=false):∀(n:Nat),m < n→(frT (u++ [s]) n).length+1=(frT u n).length
  | 0,h=>by omega
  | n +1,h=>by
    by_cases c:m=n
    · subst c
      rw [yM (by rw [Z5,decide_eq_true hs,Bool.or_true]),yC hu,List.length_append,Vb (u:=u++ [s]) (v:=u) m (fun k hk=>by rw [Z5,decide_eq_false (by omega),Bool.or_false])]
      rfl
    · have ih:=QB hs hu n (by omega)
      have e:hasB (u++ [s]) (n:Int)=hasB u (n:Int):=by rw [Z5,decide_eq_false (by omega),Bool.or_false]
      cases hb:hasB u (n:Int) with
      | true=>rw [yM (by rw [e,hb]),yM hb];exact ih
      | false=>rw [yC (by rw [e,hb]),yC hb,List.length_append,List.length_append];simp only [List.length_cons,List.length_nil];omega
theorem zad{u:List Sg}:∀(n:Nat) (k:Int),k∈frT u n→hasB u k=false
  | 0,k,h=>by cases h
  | n +1,k,h=>by
    have h1:k∈frT u n++(if hasB u (n:Int) then [] else [(n:Int)]):=h
    rcases List.mem_append.1 h1 with h2 | h2
    · exact zad n k h2
    · cases hb:hasB u (n:Int) with
      | true=>rw [hb] at h2;cases h2
      | false=>rw [hb] at h2;simp at h2;rw [h2,hb]
theorem zbh{L:Lg}(h:0 <(fr L).length):hasB L.used (opN L:Int)=false:=
  zad _ _ (List.mem_of_getElem? (Jl h).1)
theorem vi(g:Int)(a:Int)(e:Int):sgX ⟨a,g,e,[]⟩=hdT g:=by
  unfold sgX;simp only [List.map_nil,txs];exact ByteArray.append_empty
theorem Vy(s:Sg)(x:Itm)(e:Int):sgX ⟨s.no,s.gen,e,s.items++ [x]⟩=sgX s++(itF s.gen x).tx:=by
  unfold sgX;simp only [List.map_append,List.map_cons,List.map_nil];rw [←List.cons_append,zaX];rfl
theorem LgQ.roomN{L:Lg}(h:LgQ L){i:Nat}(hi:(i:Int) < L.segs):i≤10∧16+8 * i≤L.d.sec.length:=by
  have:=h.room;have:=h.segs;omega
theorem LgQ.oph{L:Lg}(h:LgQ L):OpH L:=⟨h.ok,by have:=h.segs;omega,by have:=h.room;have:=h.segs;omega,h.ng⟩
theorem LgQ.open {L L':Lg} {keep:Int} (h:LgQ L) (ho:opO L keep=some L'):LgQ L'∧1≤L'.used.length∧L'.st=L.st:=by
  unfold opO at ho
  split at ho
  case isFalse=>cases ho
  case isTrue hc=>
    have hf:0 <(fr L).length:=by omega
    have hN:=Jl hf;have hsg:frN L.segs=L.segs.toNat:=by unfold frN;have:=h.segs;omega
    have hNs:(opN L:Int) < L.segs:=by have:=hN.2;have:=h.segs;omega
    have hfree:=zbh hf;have hr:=h.roomN hNs;have hsz:=yk h.ng;obtain⟨d,p1,p2,p3,p4,p5,p6,p7⟩:=J5 h.ok h.cac (s:=opN L) (A:=0) (t:=hdT L.ng) hr.2 (by omega);rw [p1] at ho;have ho2:opL L d=L':=Option.some.inj ho;subst ho2;have hz:=h.free (opN L) hNs hfree;have hnew:SgR (flD d) ⟨(opN L:Int),L.ng,((hdT L.ng).size:Int),[]⟩:=by
      refine⟨⟨by show(0:Int)≤(opN L:Int);omega,by show(opN L:Int)≤10;omega⟩,h.ng,fun x hx=>(by cases hx),by rw [vi];omega,by rw [vi],?_⟩;show sgT (flD d) (opN L:Int)=_
      rw [p7 (opN L) hr.1 hr.2,if_pos rfl,vi];have h1:=QL (T:=sgT L.d (opN L:Int)) (X:=⟨#[]⟩) (t:=hdT L.ng) (by rw [hz];exact(ByteArray.empty_append).symm) (by show 0+_≤256;omega);have z0:(⟨#[]⟩:ByteArray).size=0:=rfl;have e0:(⟨#[]⟩:ByteArray)=ByteArray.empty:=rfl;rw [z0,e0,ByteArray.empty_append] at h1;exact h1
    have hold:∀ n:Nat,(n:Int) < L.segs→n≠opN L→sgT (flD d) (n:Int)=sgT L.d (n:Int):=fun n hn hne=>by
      have:=h.roomN hn;rw [p7 n this.1 this.2,if_neg hne]
    refine⟨⟨p4,p6,h.segs,by show((flD d).sec.length:Int)=_;rw [p5];exact h.room,⟨by show 1≤L.ng+1;have:=h.ng.1;omega,by show L.ng+1≤1000000000;omega⟩,h.ns,h.nv,?_,?_,?_,?_,?_,?_⟩,?_,rfl⟩
    · intro s hs
      rcases List.mem_append.1 hs with h1 | h1
      · obtain⟨q1,q2,q3,q4⟩:=h.seg s h1
        have hne:s.no≠(opN L:Int):=YD.1 hfree s h1;have h0:=q1.no.1;refine⟨q1.disk ?_,q2,by show s.gen < L.ng+1;omega,q4⟩;have:=hold s.no.toNat (by omega) (by omega);rw [show((s.no.toNat:Nat):Int)=s.no by omega] at this;exact this
      · rw [List.mem_singleton.1 h1]
        exact⟨hnew,hNs,by show L.ng < L.ng+1;omega,fun x hx=>(by cases hx)⟩
    · show(L.used++ [_]).Pairwise _
      refine List.pairwise_append.2 ⟨h.pw,List.pairwise_singleton _ _,fun s hs t ht=>?_⟩;rw [List.mem_singleton.1 ht];exact⟨(h.seg s hs).2.2.1,YD.1 hfree s hs⟩
    · show(frT (L.used++ [_]) (frN L.segs)).length+(L.used++ [_]).length=L.segs.toNat
      have h1:=QB (u:=L.used) (s:=⟨(opN L:Int),L.ng,((hdT L.ng).size:Int),[]⟩) (m:=opN L) rfl hfree (frN L.segs) (by omega);have h2:(frT L.used (frN L.segs)).length+L.used.length=L.segs.toNat:=h.cnt;rw [List.length_append];simp only [List.length_cons,List.length_nil];omega
    · intro n hn hb
      have hb1:hasB (L.used++ [_]) (n:Int)=false:=hb;rw [Z5,Bool.or_eq_false_iff] at hb1;have hne:n≠opN L:=fun e=>by
        have:=of_decide_eq_false hb1.2;exact this (by rw [e])
      show sgT (flD d) (n:Int)=_
      rw [hold n hn hne];exact h.free n hn hb1.1
    · show Uniq (its (L.used++ [_]))
      rw [Zf];simp only [its,List.append_nil];exact h.uniq
    · show(its (L.used++ [_])).length≤200
      rw [Zf];simp only [its,List.append_nil];exact h.few
    · show 1≤(L.used++ [_]).length
      rw [List.length_append];simp only [List.length_cons,List.length_nil];omega
theorem LgQ.write {L:Lg} {x:Itm} (h:LgQ L) (hx:itR x) (hx1:x.1 < 1000000000) (hu:Uniq (its L.used++ [x])) (hn:(its L.used).length < 200):LgQ (wrO L x).1∧(wrO L x).1.used.length=L.used.length∧(wrO L x).1.st=L.st:=by
  rcases List.eq_nil_or_concat L.used with hl |⟨u,s,hl⟩
  · have e:wrO L x=(L,false):=by unfold wrO;rw [hl];rfl
    rw [e];exact⟨h,rfl,rfl⟩
  rw [List.concat_eq_append] at hl;have hsm:s∈L.used:=by rw [hl];simp
  obtain⟨q1,q2,q3,q4⟩:=h.seg s hsm;cases hw:sgW L.d s.no.toNat s.ende.toNat (itF s.gen x).tx with
  | none=>rw [Z8 hl hw];exact⟨h,rfl,rfl⟩
  | some D=>
    rw [yI hl hw];have hno:=q1.no;have hende:=q1.ende;have hA:s.ende.toNat=(sgX s).size:=by omega
    rw [hA] at hw;have hsz:(sgX s).size+(itF s.gen x).tx.size≤256:=(Xj h.ok hw).2.2;have hr:=h.roomN (i:=s.no.toNat) (by omega);obtain⟨d,p1,p2,p3,p4,p5,p6,p7⟩:=J5 h.ok h.cac (s:=s.no.toNat) (A:=(sgX s).size) (t:=(itF s.gen x).tx) hr.2 hsz;rw [p1] at hw;have hdD:=Option.some.inj hw;subst hdD;have hcast:((s.no.toNat:Nat):Int)=s.no:=by omega
    have hvalid:1≤x.2.valid∧x.2.valid≤9999:=hx.2.2.1;have hnew:SgR (flD d) ⟨s.no,s.gen,s.ende+((itF s.gen x).tx.size:Int),s.items++ [x]⟩:=by
      refine⟨hno,q1.gen,fun y hy=>?_,?_,?_,?_⟩
      · rcases List.mem_append.1 hy with h1 | h1
        · exact q1.its y h1
        · rw [List.mem_singleton.1 h1];exact hx
      · rw [Vy,ByteArray.size_append];exact hsz
      · rw [Vy,ByteArray.size_append]
        show s.ende+_=_
        omega
      · show sgT (flD d) s.no=_
        rw [Vy];have h1:=p7 s.no.toNat hr.1 hr.2;rw [if_pos rfl,hcast] at h1;rw [h1];exact QL q1.text hsz
    have hold:∀ n:Nat,(n:Int) < L.segs→(n:Int)≠s.no→sgT (flD d) (n:Int)=sgT L.d (n:Int):=fun n hn hne=>by
      have:=h.roomN hn;rw [p7 n this.1 this.2,if_neg (by omega)]
    have hits:its (u++ [(⟨s.no,s.gen,s.ende+((itF s.gen x).tx.size:Int),s.items++ [x]⟩:Sg)])=its L.used++ [x]:=by
      rw [hl,Zf,Zf];simp only [its,List.append_nil,List.append_assoc]
    have hhas:∀ n:Int,hasB (u++ [(⟨s.no,s.gen,s.ende+((itF s.gen x).tx.size:Int),s.items++ [x]⟩:Sg)]) n=hasB L.used n:=fun n=>by rw [hl,Z5,Z5]
    have hns:L.ns≤(if L.ns≤x.1 then x.1+1 else L.ns)∧x.1 <(if L.ns≤x.1 then x.1+1 else L.ns)∧(if L.ns≤x.1 then x.1+1 else L.ns)≤1000000000:=by
      have:=h.ns.2
      split <;> omega
    have hnv:L.nv≤(if L.nv≤x.2.valid then x.2.valid+1 else L.nv)∧x.2.valid <(if L.nv≤x.2.valid then x.2.valid+1 else L.nv)∧(if L.nv≤x.2.valid then x.2.valid+1 else L.nv)≤1000000000:=by
      have:=h.nv.2
      split <;> omega
    have hpw:=h.pw;rw [hl] at hpw;obtain⟨w1,w2,w3⟩:=List.pairwise_append.1 hpw;refine⟨⟨p4,p6,h.segs,by show((flD d).sec.length:Int)=_;rw [p5];exact h.room,h.ng,⟨by show 1≤(if L.ns≤x.1 then x.1+1 else L.ns);have:=h.ns.1;omega,hns.2.2⟩,⟨by show 1≤(if L.nv≤x.2.valid then x.2.valid+1 else L.nv);have:=h.nv.1;omega,hnv.2.2⟩,?_,?_,?_,?_,?_,?_⟩,?_,rfl⟩
    · intro t ht
      have ht2:t∈u++ [(⟨s.no,s.gen,s.ende+((itF s.gen x).tx.size:Int),s.items++ [x]⟩:Sg)]:=ht;rcases List.mem_append.1 ht2 with h1 | h1
      · have htm:t∈L.used:=by rw [hl];exact List.mem_append.2 (.inl h1)
        obtain⟨t1,t2,t3,t4⟩:=h.seg t htm;have hne:t.no≠s.no:=(w3 t h1 s (List.mem_singleton.2 rfl)).2;have h0:=t1.no.1;refine⟨t1.disk ?_,t2,t3,fun y hy=>?_⟩
        · have:=hold t.no.toNat (by omega) (by omega)
          rw [show((t.no.toNat:Nat):Int)=t.no by omega] at this;exact this
        · have:=t4 y hy
          exact⟨by show y.1 <(if L.ns≤x.1 then x.1+1 else L.ns);omega,by show y.2.valid <(if L.nv≤x.2.valid then x.2.valid+1 else L.nv);omega⟩
      · rw [List.mem_singleton.1 h1]
        refine⟨hnew,q2,q3,fun y hy=>?_⟩;have hy2:y∈s.items++ [x]:=hy;rcases List.mem_append.1 hy2 with h2 | h2
        · have:=q4 y h2
          exact⟨by show y.1 <(if L.ns≤x.1 then x.1+1 else L.ns);omega,by show y.2.valid <(if L.nv≤x.2.valid then x.2.valid+1 else L.nv);omega⟩
        · rw [List.mem_singleton.1 h2]
          exact⟨hns.2.1,hnv.2.1⟩
    · refine List.pairwise_append.2 ⟨w1,List.pairwise_singleton _ _,fun a ha b hb=>?_⟩
      have:=w3 a ha s (List.mem_singleton.2 rfl);rw [List.mem_singleton.1 hb];exact this
    · show(frT (u++ [_]) (frN L.segs)).length+(u++ [_]).length=L.segs.toNat
      rw [Vb _ (fun k _=>hhas (k:Int))];have:=h.cnt;have h2:(u++ [(⟨s.no,s.gen,s.ende+((itF s.gen x).tx.size:Int),s.items++ [x]⟩:Sg)]).length=L.used.length:=(by rw [hl];simp);rw [h2];exact this
    · intro n hnn hb
      have hb1:hasB (u++ [_]) (n:Int)=false:=hb;rw [hhas] at hb1;show sgT (flD d) (n:Int)=_
      rw [hold n hnn (fun e=>YD.1 hb1 s hsm e.symm)];exact h.free n hnn hb1
    · show Uniq (its (u++ [_]))
      rw [hits];exact hu
    · show(its (u++ [_])).length≤200
      rw [hits,List.length_append];simp only [List.length_cons,List.length_nil];omega
    · show(u++ [_]).length=L.used.length
      rw [hl];simp
structure LgW (L:Lg):Prop where
  q:LgQ L
  len:1≤L.used.length
  st:Fr.numOk L.st
theorem LgW.open{L L':Lg}{keep:Int}(h:LgW L)(ho:opO L keep=some L'):LgW L':=by
  obtain⟨h1,h2,h3⟩:=h.q.open ho;exact⟨h1,h2,by rw [h3];exact h.st⟩
theorem LgW.write{L:Lg}{x:Itm}(h:LgW L)(hx:itR x)(hx1:x.1 < 1000000000)(hu:Uniq (its L.used++ [x]))(hn:(its L.used).length < 200):LgW (wrO L x).1:=by
  obtain⟨h1,h2,h3⟩:=h.q.write hx hx1 hu hn;exact⟨h1,by rw [h2];exact h.len,by rw [h3];exact h.st⟩
theorem Qj{L L':Lg}{keep:Int}(h:OpH L)(ho:opO L keep=some L'):its L'.used=its L.used:=by
  rw [(J3 h ho).2.2.1,Zf];simp only [its,List.append_nil]
theorem LgW.append{L:Lg}{x:Itm}{keep:Int}(h:LgW L)(hx:itR x)(hx1:x.1 < 1000000000)(hu:Uniq (its L.used++ [x]))(hn:(its L.used).length < 200):LgW (apO L x keep).1:=by
  by_cases hf:fitsP L x
  · rw [Yv hf];exact h.write hx hx1 hu hn
  · cases ho:opO L keep with
    | none=>rw [Ye hf ho];exact h
    | some L1=>
      rw [yF hf ho];have e:=Qj h.q.oph ho;exact(h.open ho).write hx hx1 (by rw [e];exact hu) (by rw [e];exact hn)
theorem zc1{n:Nat}(h:1≤n∧n≤100){P:Nat}(hP:P < 32 * n):bt (newD (n:Int)) P=some 0:=by
  have e:newD (n:Int)=⟨List.replicate n zero32,[]⟩:=by unfold newD;rw [if_pos (by omega),Int.toNat_natCast]
  unfold bt rdO;rw [e];simp only [List.length_replicate];rw [if_pos (by omega)];simp only [Option.bind_some,lastAt,Option.getD_none,Int.toNat_natCast];rw [List.getD_eq_getElem?_getD,List.getElem?_replicate,if_pos (by omega)];have hm:P % 32 < 32:=Nat.mod_lt _ (by decide);show zero32.data.toList[P % 32]? =some 0
  have hz:zero32.data.toList=List.replicate 32 0:=by decide
  rw [hz,List.getElem?_replicate,if_pos hm]
theorem zdg{segs:Int}(h:5≤segs∧segs≤11):LgQ (fm0 segs):=by
  obtain⟨n,rfl⟩:∃ n:Nat,segs=(n:Int):=⟨segs.toNat,by omega⟩;obtain⟨h1,h2,h3⟩:=Qh (n:=8+8 *(n:Int)) (by omega);refine⟨h1,h3,h,?_,⟨by show(1:Int)≤1;decide,by show(1:Int)≤1000000000;decide⟩,⟨by show(1:Int)≤1;decide,by show(1:Int)≤1000000000;decide⟩,⟨by show(1:Int)≤1;decide,by show(1:Int)≤1000000000;decide⟩,fun s hs=>(by cases hs),List.Pairwise.nil,?_,?_,fun x hx=>(by cases hx),Nat.zero_le _⟩
  · show((newD (8+8 *(n:Int))).sec.length:Int)=8+8 *(n:Int)
    rw [h2];omega
  · show(frT [] (frN (n:Int))).length+0=((n:Int)).toNat
    rw [VA];unfold frN;omega
  · intro i hi _
    have hi2:(i:Int) <(n:Int):=hi;obtain⟨b1,b2⟩:=ZB h1 (i:=i) (by omega) (by rw [h2];omega);apply yn;apply List.ext_getElem?;intro P;show(sgT (newD (8+8 *(n:Int))) (i:Int)).data.toList[P]? =_
    rw [Qz];by_cases c:P < 256
    · rw [b2 P c,List.getElem?_replicate,if_pos c]
      have:=zc1 (n:=8+8 * n) (by omega) (P:=32 *(8+8 * i) +P) (by omega);rw [←this];congr 2
    · rw [List.getElem?_eq_none (by omega),List.getElem?_eq_none (by rw [List.length_replicate];omega)]
theorem LgQ.disk{L:Lg}(h:LgQ L){d:Dk}(hd:d.ok)(hc:d.cache= [])(hl:d.sec.length=L.d.sec.length)(hT:∀ n:Nat,(n:Int) < L.segs→sgT d (n:Int)=sgT L.d (n:Int))(st:Int):LgQ ⟨d,L.segs,L.used,L.ng,L.ns,st,L.nv⟩:=by
  refine⟨hd,hc,h.segs,by show(d.sec.length:Int)=_;rw [hl];exact h.room,h.ng,h.ns,h.nv,fun s hs=>?_,h.pw,h.cnt,fun n hn hb=>?_,h.uniq,h.few⟩
  · obtain⟨q1,q2,q3,q4⟩:=h.seg s hs
    refine⟨q1.disk ?_,q2,q3,q4⟩;have h0:=q1.no.1;have:=hT s.no.toNat (by omega);rw [show((s.no.toNat:Nat):Int)=s.no by omega] at this;exact this
  · show sgT d (n:Int)=_
    rw [hT n hn];exact h.free n hn hb
theorem zcg{d d':Dk}(hd:d.ok)(hd':d'.ok)(hl:d'.sec.length=d.sec.length){lo hi:Nat}{t:List UInt8}(hhi:hi≤256)(hb:∀ P,bt d' P=if lo≤P∧P < hi then t[P - lo]? else bt d P){i:Nat}(hi10:i≤10)(hr:16+8 * i≤d.sec.length):sgT (flD d') (i:Int)=sgT d (i:Int):=by
  rw [zbo hd' hi10 (by rw [hl];exact hr)];obtain⟨l1,p1⟩:=ZB hd hi10 hr;obtain⟨l2,p2⟩:=ZB hd' hi10 (by rw [hl];exact hr);apply yn;apply List.ext_getElem?;intro P;by_cases hP:P < 256
  · rw [p1 P hP,p2 P hP,hb,if_neg (by omega)]
  · rw [List.getElem?_eq_none (by omega),List.getElem?_eq_none (by omega)]
theorem zdh {L:Lg} (h:LgQ L) {c:Ck} {D:Dk} (hw:wcO L.d c=some D) (st:Int):LgQ ⟨D,L.segs,L.used,L.ng,L.ns,st,L.nv⟩:=by
  cases hck:ckB c with
  | false=>rw [zah hck] at hw;cases hw
  | true=>
    by_cases hreg:regN c < L.d.sec.length
    · have hz:=(jG (qV.1 hck)).2.2
      have hr4:regN c≤4:=(by unfold regN;omega);have htl:(ckTx c).data.toList.length=(ckTx c).size:=zQ _;have hroom:=h.room;have hsegs:=h.segs;obtain⟨d',w1,w2,w3,_,w5⟩:=Jh (ckTx c).data.toList.length (ckTx c).data.toList (Nat.le_refl _) L.d (regN c) 0 h.ok (by omega) (by omega) (by rw [h.cac];simp only [List.length_nil];omega);have hw2:wcO L.d c=some (flD d'):=Vw hck hreg w1;rw [hw2] at hw;cases hw
      obtain⟨f1,f2,f3⟩:=YZ w2;have hl:d'.sec.length=L.d.sec.length:=(by rw [w3]);exact h.disk f1 f3 (by rw [f2,hl]) (fun n hn=>by
        have:=h.roomN hn;exact zcg h.ok w2 hl (by omega) w5 this.1 this.2) st
    · rw [Xz hreg] at hw;cases hw
theorem zdf {segs:Int} {G:Lg} (hg:fmO segs=some G):LgW G∧its G.used= []:=by
  unfold fmO at hg
  split at hg
  case isFalse=>cases hg
  case isTrue h=>
    cases ho:opO (fm0 segs) 0 with
    | none=>rw [ho] at hg;cases hg
    | some L=>
      rw [ho] at hg;simp only [Option.bind_some] at hg;cases hw:wcO L.d (ckOf L) with
      | none=>rw [hw] at hg;cases hg
      | some D=>
        rw [hw] at hg;cases hg
        obtain⟨h1,h2,_⟩:=(zdg h).open ho;exact⟨⟨zdh h1 hw 1,h2,by show(1:Int)≤1;decide,by show(1:Int)≤1000000000;decide⟩,(show its L.used= [] from Qj (Qa h) ho)⟩

/- The logs that are drawn, plainly: they are right. -/
inductive LgN:Lg→Nat→Prop
  | new {segs:Int} {G:Lg}:5≤segs∧segs≤8→fmO segs=some G→LgN G 0
  | app {L:Lg} {k:Nat} {x:Itm}:LgN L k→itR x→x.1=L.ns→x.2.valid≤3→fitsB L x→LgN (apO L x 1).1 (k+1)
theorem LgN.v{L:Lg}{k:Nat}(h:LgN L k):LgV L (2 * k):=by
  induction h with
  | new h1 h2=>
    obtain⟨G,h3,h4⟩:=XZ ⟨h1.1,by omega⟩;rw [h2] at h3;cases h3
    exact h4
  | app h1 h2 h3 _ _ ih=>exact ih.append (by rw [h3];exact ih.ns.2) (by rw [h3];exact ih.ns.1)
theorem qh{l:List Itm}{x:Itm}(h:Uniq l)(hf:∀(j:Nat) (y:Itm),l[j]? =some y→y.1=x.1→y=x):Uniq (l++ [x]):=by
  have hm:∀ y∈l,y.1=x.1→y=x:=fun y hy=>by
    obtain⟨j,hj⟩:=List.getElem?_of_mem hy;exact hf j y hj
  intro a ha b hb e;rcases List.mem_append.1 ha with h1 | h1
  · rcases List.mem_append.1 hb with h2 | h2
    · exact h a h1 b h2 e
    · rw [List.mem_singleton.1 h2] at e ⊢
      exact hm a h1 e
  · rw [List.mem_singleton.1 h1] at e ⊢
    rcases List.mem_append.1 hb with h2 | h2
    · exact(hm b h2 e.symm).symm
    · exact(List.mem_singleton.1 h2).symm
theorem LgN.w{L:Lg}{k:Nat}(h:LgN L k)(hk:k≤1000):LgW L:=by
  induction h with
  | new h1 h2=>exact(zdf h2).1
  | app h1 h2 h3 _ h5 ih=>
    have hw:=ih (by omega);have:=h1.v.ns;exact hw.append h2 (by rw [h3];omega) (qh hw.q.uniq h5.1) h5.2
end Go.Proofs.YtklkhllkjnbhjaaGreatDoor
