/- Texts of our own, joined. -/
import Derived.Test.YtklkhllkjnbhjaaGreatDoorJrx
import Derived.Test.YtklkhllkjnbhjaaGreatDoorJfx
/- An item appended to a log, as the program does it; the head of a right log. -/
namespace Go.Proofs.YtklkhllkjnbhjaaGreatDoor
open Go.RowKit
open Lib (hid)
set_option maxRecDepth 100000
set_option maxHeartbeats 8000000
theorem zaq{L:Lg}{x:Itm}(h:(wrO L x).2=false):(wrO L x).1=L:=by
  unfold wrO at h ⊢
  split
  · split
    · rename_i h1 _ _ h2
      rw [h1] at h;simp only [h2] at h;cases h
    · rfl
  · rfl
noncomputable def aiO (L:Lg) (x:Itm) (keep:Int):Option Lg:=by
  classical exact if lgOkI L∧0≤keep∧x.1≠1000000000∧itemsOk (its L.used++ [x]) then(if(wrO L x).2=true then some (wrO L x).1 else match opO L keep with | some L1=>if(wrO L1 x).2=true then some (wrO L1 x).1 else none | none=>none) else none
theorem zcu{L:Lg}{x:Itm}{keep:Int}(h:¬(lgOkI L∧0≤keep∧x.1≠1000000000∧itemsOk (its L.used++ [x]))):aiO L x keep=none:=by unfold aiO;rw [if_neg h]
theorem zaa{L:Lg}{x:Itm}{keep:Int}(h:lgOkI L∧0≤keep∧x.1≠1000000000∧itemsOk (its L.used++ [x]))(h2:(wrO L x).2=true):aiO L x keep=some (wrO L x).1:=by unfold aiO;rw [if_pos h,if_pos h2]
theorem Qv{L:Lg}{x:Itm}{keep:Int}(h:lgOkI L∧0≤keep∧x.1≠1000000000∧itemsOk (its L.used++ [x]))(h2:(wrO L x).2=false)(ho:opO L keep=none):aiO L x keep=none:=by unfold aiO;rw [if_pos h,if_neg (by rw [h2];exact Bool.false_ne_true),ho]
theorem QQ{L L1:Lg}{x:Itm}{keep:Int}(h:lgOkI L∧0≤keep∧x.1≠1000000000∧itemsOk (its L.used++ [x]))(h2:(wrO L x).2=false)(ho:opO L keep=some L1)(h3:(wrO L1 x).2=true):aiO L x keep=some (wrO L1 x).1:=by unfold aiO;rw [if_pos h,if_neg (by rw [h2];exact Bool.false_ne_true),ho];exact if_pos h3
theorem XY{L L1:Lg}{x:Itm}{keep:Int}(h:lgOkI L∧0≤keep∧x.1≠1000000000∧itemsOk (its L.used++ [x]))(h2:(wrO L x).2=false)(ho:opO L keep=some L1)(h3:(wrO L1 x).2=false):aiO L x keep=none:=by unfold aiO;rw [if_pos h,if_neg (by rw [h2];exact Bool.false_ne_true),ho];exact if_neg (by rw [h3];exact Bool.false_ne_true)
theorem XV(t:ByteArray):0≤sgG t∧sgG t≤1000000000:=by
  cases hr:rf fourOf t 0 with
  | none=>rw [jF hr];decide
  | some p=>
    obtain⟨f,e⟩:=p;by_cases hb:f.body=segB
    · rw [jT hr hb]
      have:=(yp hr (Nat.zero_le _)).1.1;omega
    · rw [Qd hr hb];decide
theorem zcr(t:ByteArray):sfE t≤t.size:=by
  unfold sfE
  split
  · exact Nat.zero_le _
  · have h:=(vK (four:=fourOf) (s:=t) (g:=sgG t) (k:=0) (Nat.zero_le _)).2.2
    unfold scanE scan;exact h
structure HdK (L:Lg) (u:List Sg) (s:Sg):Prop where
  used:L.used=u++ [s]
  no:0≤s.no∧s.no≤10∧8+8 * s.no.toNat < L.d.sec.length
  en:0≤s.ende∧s.ende≤256
  gen:1≤s.gen∧s.gen≤1000000000
  its:s.items.length≤1048576
theorem lgOkI.head{L:Lg}(h:lgOkI L):∃ u s,HdK L u s:=by
  obtain⟨hd,hc,h0,hn,hx,⟨⟨hl,hl2⟩,hst⟩,_⟩:=h;rcases List.eq_nil_or_concat L.used with he |⟨u,s,he⟩
  · rw [he] at hl;simp at hl
  rw [List.concat_eq_append] at he;have hr:=QA (d:=L.d) (by rw [←hn];exact h0);have hi:L.used[u.length]? =some s:=by rw [he];simp
  obtain⟨s1,s2,s3,_,⟨p1,p2,p3⟩,s6⟩:=hst u.length s hi;have hT:(sgT L.d s.no).size≤256:=by
    have:=Z6 (d:=L.d) (M:=32) (fun t ht=>Nat.le_of_eq (hd.2.2.2.1 t ht)) (fun t ht=>by rw [hc] at ht;cases ht) s.no;omega
  have hG:=XV (sgT L.d s.no);have hE:=zcr (sgT L.d s.no);have hlast:0≤lastG L.used u.length:=by
    cases hu:u.length with
    | zero=>exact Int.le_refl _
    | succ i=>
      have hlt:i < L.used.length:=(by rw [he,List.length_append];omega);rw [jc (List.getElem?_eq_getElem hlt)];obtain⟨_,_,_,_,⟨q1,_,_⟩,_⟩:=hst i _ (List.getElem?_eq_getElem hlt);rw [←q1];exact(XV _).1
  have hil:s.items.length≤256:=by
    have h1:((sfL (sgT L.d s.no)).map fiO).length=(s.items.map some).length:=by rw [p3]
    rw [List.length_map,List.length_map] at h1;have:=xN (sgT L.d s.no);omega
  exact⟨u,s,he,⟨s2,by omega,by omega⟩,⟨by omega,by omega⟩,⟨by omega,by omega⟩,by omega⟩
theorem za6{L L1:Lg}{keep:Int}(h:OpH L)(ho:opO L keep=some L1):(∃ s,HdK L1 L.used s)∧OpH L1∧L1.used.length=L.used.length+1∧L1.segs=L.segs:=by
  obtain⟨h1,h2,h3,h4,h5⟩:=J3 h ho;have hsz:=yk h.gen;have hgen:=h.gen;have hng:L.ng < 1000000000∧L1.ng=L.ng+1∧L1.segs=L.segs:=by
    unfold opO at ho
    split at ho
    case isFalse=>cases ho
    case isTrue hc=>
      cases hw:sgW L.d (opN L) 0 (hdT L.ng) with
      | none=>rw [hw] at ho;cases ho
      | some d=>rw [hw] at ho;cases ho;exact⟨hc.2.2,rfl,rfl⟩
  refine⟨⟨_,h3,⟨by show(0:Int)≤(opN L:Int);omega,by show(opN L:Int)≤10;omega,by show 8+8 *(opN L:Int).toNat < _;rw [h2];omega⟩,⟨by show(0:Int)≤((hdT L.ng).size:Int);omega,by show((hdT L.ng).size:Int)≤256;omega⟩,hgen,Nat.zero_le _⟩,⟨h1,by rw [hng.2.2];exact h.segs,by rw [hng.2.2,h2];exact h.room,by rw [hng.2.1];omega⟩,?_,hng.2.2⟩;rw [h3,List.length_append];rfl

/- On logs that were written on both append alike, plainly; they are right as the model asks it. -/
theorem LgW.okS{L:Lg}(h:LgW L):lgOkS L:=by
  have hs:=h.q.segs;have hc:=h.q.cnt;refine⟨⟨h.q.ok,h.q.cac,by omega,h.q.segsN,h.len,by omega⟩,⟨h.q.ng,h.q.ns,h.q.nv,h.st⟩,fun i s hi=>?_,fun x hx=>?_,h.q.itemsOk⟩
  · have hm:s∈L.used:=List.mem_of_getElem? hi
    obtain⟨q1,q2,q3,q4⟩:=h.q.seg s hm;obtain⟨hil,rfl⟩:=List.getElem?_eq_some_iff.1 hi;have hp:=List.pairwise_iff_getElem.1 h.q.pw;refine⟨⟨⟨q1.no.1,by omega⟩,by have:=q1.gen.1;omega,q3,fun t h0 ht=>?_,q1.same.symm⟩,fun q t hq ht=>?_⟩
    · obtain⟨htl,rfl⟩:=List.getElem?_eq_some_iff.1 ht
      exact(hp (i - 1) i htl hil (by omega)).1
    · obtain⟨htl,rfl⟩:=List.getElem?_eq_some_iff.1 ht
      exact(hp q i htl hil hq).2
  · obtain⟨s,h1,h2⟩:=zai hx
    exact(h.q.seg s h1).2.2.2 x h2
noncomputable def apS (L:Lg) (x:Itm) (keep:Int):Option Lg:=if(apO L x keep).2=true then some (apO L x keep).1 else none
theorem LgW.wr{L:Lg}{x:Itm}(h:LgW L):(wrO L x).2=true↔fitsP L x:=by
  obtain⟨u,s,hu⟩:∃ u s,L.used=u++ [s]:=by
    rcases List.eq_nil_or_concat L.used with he |⟨u,s,he⟩
    · have:=h.len;rw [he] at this;simp at this
    · exact⟨u,s,by rw [he,List.concat_eq_append]⟩
  have hl:L.used.getLast? =some s:=by rw [hu];simp
  have hsm:s∈L.used:=by rw [hu];simp
  obtain⟨q1,q2,q3,q4⟩:=h.q.seg s hsm;have hno:=q1.no;have hende:=q1.ende;have hr:=h.q.roomN (i:=s.no.toNat) (by omega);constructor
  · intro h1 t ht
    rw [hl] at ht;cases ht
    cases hw:sgW L.d s.no.toNat s.ende.toNat (itF s.gen x).tx with
    | none=>rw [Z8 hu hw] at h1;cases h1
    | some D=>have h2:=(Xj h.q.ok hw).2.2;omega
  · intro h1
    have h2:=h1 s hl;obtain⟨d,p1,_⟩:=J5 h.q.ok h.q.cac (s:=s.no.toNat) (A:=s.ende.toNat) (t:=(itF s.gen x).tx) hr.2 (by omega);rw [yI hu p1]
theorem LgW.ai{L:Lg}{x:Itm}{keep:Int}(h:LgW L)(hk:0≤keep)(hx:itR x)(hx1:x.1 < 1000000000)(hu:Uniq (its L.used++ [x]))(hn:(its L.used).length < 200):aiO L x keep=apS L x keep:=by
  have hio:itemsOk (its L.used++ [x]):=by
    refine⟨fun y hy=>?_,hu,by rw [List.length_append];simp only [List.length_cons,List.length_nil];omega⟩;rcases List.mem_append.1 hy with h1 | h1
    · exact h.q.itemsOk.1 y h1
    · rw [List.mem_singleton.1 h1];exact hx
  have hc:lgOkI L∧0≤keep∧x.1≠1000000000∧itemsOk (its L.used++ [x]):=⟨h.okI,hk,by omega,hio⟩;unfold apS;by_cases hf:fitsP L x
  · have h2:=h.wr.2 hf
    rw [zaa hc h2,Yv hf,if_pos h2]
  · have h2:(wrO L x).2=false:=by
      cases hb:(wrO L x).2 with
      | false=>rfl
      | true=>exact absurd (h.wr.1 hb) hf
    cases ho:opO L keep with
    | none=>rw [Qv hc h2 ho,Ye hf ho];rfl
    | some L1=>
      rw [yF hf ho];cases h3:(wrO L1 x).2 with
      | true=>rw [QQ hc h2 ho h3];rfl
      | false=>rw [XY hc h2 ho h3];rfl

/- What an append tells, plainly; a drawn record. -/
theorem XE{L:Lg}{x:Itm}(h:(wrO L x).2=true):its (wrO L x).1.used=its L.used++ [x]∧(wrO L x).1.ns=if L.ns≤x.1 then x.1+1 else L.ns:=by
  rcases List.eq_nil_or_concat L.used with he |⟨u,s,he⟩
  · have e:wrO L x=(L,false):=by unfold wrO;rw [he];rfl
    rw [e] at h;cases h
  rw [List.concat_eq_append] at he;cases hw:sgW L.d s.no.toNat s.ende.toNat (itF s.gen x).tx with
  | none=>rw [Z8 he hw] at h;cases h
  | some D=>
    rw [yI he hw];refine⟨?_,rfl⟩;show its (u++ [_])=_
    rw [Zf,he,Zf];simp only [its,List.append_nil,List.append_assoc]
theorem zc3{L L':Lg}{keep:Int}(ho:opO L keep=some L'):L'.ns=L.ns:=by
  unfold opO at ho
  split at ho
  case isFalse=>cases ho
  case isTrue=>
    cases hw:sgW L.d (opN L) 0 (hdT L.ng) with
    | none=>rw [hw] at ho;cases ho
    | some d=>rw [hw] at ho;cases ho;rfl
theorem LgW.ap_yes{L:Lg}{x:Itm}{keep:Int}(h:LgW L)(hx:x.1=L.ns)(h2:(apO L x keep).2=true):its (apO L x keep).1.used=its L.used++ [x]∧(apO L x keep).1.ns=L.ns+1:=by
  by_cases hf:fitsP L x
  · rw [Yv hf] at h2 ⊢
    obtain⟨e1,e2⟩:=XE h2;exact⟨e1,by rw [e2,if_pos (by omega)];omega⟩
  · cases ho:opO L keep with
    | none=>rw [Ye hf ho] at h2;cases h2
    | some L1=>
      rw [yF hf ho] at h2 ⊢;obtain⟨e1,e2⟩:=XE h2;have e3:=zc3 ho;exact⟨by rw [e1,Qj h.q.oph ho],by rw [e2,if_pos (by omega)];omega⟩
theorem xJ{a:Option Addr}{n cap i:Nat}(h:i≤cap)(wx:World):(Instr.slice 40 (.slice a n cap) none (some (.int .i64 (i:Int))) none).run Tryz.prog wx=.ok (.slice a i cap) wx:=by
  rw [run_slice_h (P:=Tryz.prog) wx 40 _ n cap (by kernel_rfl) .i64 (i:Int) (by omega) (by omega)];rw [show Tryz.prog.elem 40=44 by kernel_rfl,Tryz.sizeOf44];simp [Result.andThen,sliced,Addr.add]
theorem zba(x:Rc)(w:World):(binOp .eql 33 (.agg #[.int .i64 x.kind,.int .i64 x.valid,.int .i64 x.uid,.int .i64 x.next,.int .i64 x.flags,.string x.user,.string x.name,.string x.text]) (.agg #[.int .i64 x.kind,.int .i64 x.valid,.int .i64 x.uid,.int .i64 x.next,.int .i64 x.flags,.string x.user,.string x.name,.string x.text])).run Tryz.prog w=.ok (.bool true) w:=by
  have h:(Op.equalIn 10000 33 (.agg #[.int .i64 x.kind,.int .i64 x.valid,.int .i64 x.uid,.int .i64 x.next,.int .i64 x.flags,.string x.user,.string x.name,.string x.text]) (.agg #[.int .i64 x.kind,.int .i64 x.valid,.int .i64 x.uid,.int .i64 x.next,.int .i64 x.flags,.string x.user,.string x.name,.string x.text])).run Tryz.prog w=.ok true w:=by
    rw [run_equalIn_agg _ 9999 _ _ _ Jr (by kernel_rfl)];simp [go_sem,Op.eqFields,Tryz.underlying33,Program.fieldsOf]
  rw [run_eql_struct,h];rfl
theorem xg(a:Option Addr)(len cap:Nat)(w:World)(hcode:CodeIn w a len)(hs:len≤1048576):
    Calls Tryz.prog 7 #[.slice a len cap] w fun e w'=>∃ r:Rc,(r.ok∧r.slim)∧r.valid≤3∧e=.returned r.v∧Below w.heap.size w w':=by
  have X0:=Box.new w #[.int .i64 0,.int .i64 0,.int .i64 0,.int .i64 0,.int .i64 0,.string ⟨#[]⟩,.string ⟨#[]⟩,.string ⟨#[]⟩] 33;have b0:=zb w (.cells #[.int .i64 0,.int .i64 0,.int .i64 0,.int .i64 0,.int .i64 0,.string ⟨#[]⟩,.string ⟨#[]⟩,.string ⟨#[]⟩] 33);have hc0:=hcode.later b0;go_enter Tryz.func7,Tryz.ntmps7
  go_wp2_with fail
  obtain⟨W,hW⟩:∃ W,w.alloc (.cells #[.int .i64 0,.int .i64 0,.int .i64 0,.int .i64 0,.int .i64 0,.string ⟨#[]⟩,.string ⟨#[]⟩,.string ⟨#[]⟩] 33)=W:=⟨_,rfl⟩;obtain⟨g0,hg0⟩:∃ g0,w.heap.size=g0:=⟨_,rfl⟩;rw [hW] at X0 b0 hc0 ⊢;rw [hg0] at X0 ⊢;have HG0:=hid hg0;clear hW hcode hg0;refine(XM a len cap _ hc0 hs).mono ?_;rintro e w1 ⟨pc,hp,rfl,hc1,hb1⟩;have X1:=X0.later hb1;have b1:=b0.trans (hb1.mono b0.size);have hlt:=X0.lt;clear X0 b0 hc0;go_wp2_with fail
  refine(yU pc a len cap _ hc1).mono ?_;rintro e w2 ⟨r,⟨hr,hv⟩,rfl,hc2,hg2⟩;have X2:=X1.cur hg2 (by omega);obtain⟨r0,r1,r2,r3,r4,r5,r6,r7,f0,f1,f2,f3,f4,f5,f6,f7⟩:=X2.eightL;have RX:=X2.set8L (.int .i64 r.kind) (.int .i64 r.valid) (.int .i64 r.uid) (.int .i64 r.next) (.int .i64 r.flags) (.string r.user) (.string r.name) (.string r.text);obtain⟨u0,u1,u2,u3,u4,u5,u6,u7,_⟩:=RX.eightL;have HFIN:Hid (Below w.heap.size w (set8L w2 g0 (.int .i64 r.kind) (.int .i64 r.valid) (.int .i64 r.uid) (.int .i64 r.next) (.int .i64 r.flags) (.string r.user) (.string r.name) (.string r.text))):=by
    have hgw:=HG0.out;have hz1:=hb1.size;exact zB (YL b1 (by omega) hg2) (by omega) _ _ _ _ _ _ _ _
  unfold set8L at u0 u1 u2 u3 u4 u5 u6 u7 HFIN;have HU:=hid (And.intro u0 (And.intro u1 (And.intro u2 (And.intro u3 (And.intro u4 (And.intro u5 (And.intro u6 u7)))))));have HR:=hid hr;unfold Rc.v;clear RX X2 X1 u0 u1 u2 u3 u4 u5 u6 u7 hc1 hc2 hg2 hb1 b1 hr;go_wp2_with fail
  obtain⟨u0,u1,u2,u3,u4,u5,u6,u7⟩:=HU.out;refine bodyPost_ret (v:=.agg #[.int .i64 r.kind,.int .i64 r.valid,.int .i64 r.uid,.int .i64 r.next,.int .i64 r.flags,.string r.user,.string r.name,.string r.text]) (by simp [results,Tryz.results7,go_sem,u0,u1,u2,u3,u4,u5,u6,u7]) rfl ?_;exact⟨r,HR.out,hv,rfl,HFIN.out⟩

/- AppendRec of both, out of what AppendItem does. -/
theorem Jk(L:Lg)(O:Option Lg)(r:Rc)(keep:Int)(B T:Nat)(va vb vu:Value)(hs:List SgH)(w:World)(hp:LgP B T w va vb vu L hs)
    (hc:∀ X,Below w.heap.size w X→Calls Tryz.prog 17 #[.agg #[va,vb,.int .i64 L.segs,vu,.int .i64 L.ng,.int .i64 L.ns,.int .i64 L.st,.int .i64 L.nv],itV L.ns r,.int .i64 keep] X fun e w'=>OsR L O X e w'):
    Calls Tryz.prog 8 #[.agg #[va,vb,.int .i64 L.segs,vu,.int .i64 L.ng,.int .i64 L.ns,.int .i64 L.st,.int .i64 L.nv],r.v,.int .i64 keep] w fun e w'=>OsR L O w e w':=by
  obtain⟨a1,a2,a3,c1,c2,c3,rfl,rfl,rfl⟩:=hp.form;have X0:=Box.new w #[.slice a1 L.d.sec.length c1,.slice a2 L.d.cache.length c2,.int .i64 L.segs,.slice a3 L.used.length c3,.int .i64 L.ng,.int .i64 L.ns,.int .i64 L.st,.int .i64 L.nv] 30;have b0:=zb w (.cells #[.slice a1 L.d.sec.length c1,.slice a2 L.d.cache.length c2,.int .i64 L.segs,.slice a3 L.used.length c3,.int .i64 L.ng,.int .i64 L.ns,.int .i64 L.st,.int .i64 L.nv] 30);have z0:(w.alloc (.cells #[.slice a1 L.d.sec.length c1,.slice a2 L.d.cache.length c2,.int .i64 L.segs,.slice a3 L.used.length c3,.int .i64 L.ng,.int .i64 L.ns,.int .i64 L.st,.int .i64 L.nv] 30)).heap.size=w.heap.size+1:=by simp
  obtain⟨wA,hwA⟩:∃ wA,w.alloc (.cells #[.slice a1 L.d.sec.length c1,.slice a2 L.d.cache.length c2,.int .i64 L.segs,.slice a3 L.used.length c3,.int .i64 L.ng,.int .i64 L.ns,.int .i64 L.st,.int .i64 L.nv] 30)=wA:=⟨_,rfl⟩;rw [hwA] at X0 b0 z0;have XI:=Box.new wA #[.int .i64 r.kind,.int .i64 r.valid,.int .i64 r.uid,.int .i64 r.next,.int .i64 r.flags,.string r.user,.string r.name,.string r.text] 33;have b1:=zb wA (.cells #[.int .i64 r.kind,.int .i64 r.valid,.int .i64 r.uid,.int .i64 r.next,.int .i64 r.flags,.string r.user,.string r.name,.string r.text] 33);have z1:(wA.alloc (.cells #[.int .i64 r.kind,.int .i64 r.valid,.int .i64 r.uid,.int .i64 r.next,.int .i64 r.flags,.string r.user,.string r.name,.string r.text] 33)).heap.size=wA.heap.size+1:=by simp
  obtain⟨wB,hwB⟩:∃ wB,wA.alloc (.cells #[.int .i64 r.kind,.int .i64 r.valid,.int .i64 r.uid,.int .i64 r.next,.int .i64 r.flags,.string r.user,.string r.name,.string r.text] 33)=wB:=⟨_,rfl⟩;rw [hwB] at XI b1 z1;have XR:=Box.new wB #[.slice none 0 0,.slice none 0 0,.int .i64 0,.slice none 0 0,.int .i64 0,.int .i64 0,.int .i64 0,.int .i64 0] 30;have b2:=zb wB (.cells #[.slice none 0 0,.slice none 0 0,.int .i64 0,.slice none 0 0,.int .i64 0,.int .i64 0,.int .i64 0,.int .i64 0] 30);obtain⟨W,hW⟩:∃ W,wB.alloc (.cells #[.slice none 0 0,.slice none 0 0,.int .i64 0,.slice none 0 0,.int .i64 0,.int .i64 0,.int .i64 0,.int .i64 0] 30)=W:=⟨_,rfl⟩;rw [hW] at XR b2;have y:=(X0.later b1).later b2;have yi:=XI.later b2;have hbw:=(b0.trans (b1.mono b0.size)).trans (b2.mono (by omega));have HXR:=hid XR;have HB:=hid hbw;obtain⟨g0,hg0⟩:∃ g0,w.heap.size=g0:=⟨_,rfl⟩;obtain⟨gi,hgi⟩:∃ gi,wA.heap.size=gi:=⟨_,rfl⟩;obtain⟨gr,hgr⟩:∃ gr,wB.heap.size=gr:=⟨_,rfl⟩;have hww:W.heap.size=gr+1:=by rw [←hW,←hgr];simp
  rw [hg0] at y;rw [hgi] at yi;rw [hgr] at HXR;have HWA:=hid hwA;have HWB:=hid hwB;have HWW:=hid hW;have HG0:=hid hg0;have HG01:Hid (g0+1=gi):=by show _=_;omega
  have HG02:Hid (gi+1=gr):=by show _=_;omega
  have HGW:Hid (w.heap.size≤gr∧W.heap.size=gr+1):=⟨by omega,hww⟩;have HC:=hid (hc W hbw);unfold itV at HC;obtain⟨y0,y1,y2,y3,y4,y5,y6,y7⟩:=y.eightO;obtain⟨r0,r1,r2,r3,r4,r5,r6,r7⟩:=yi.eightO;unfold Rc.v;clear hp hc X0 b0 XI b1 XR b2 z0 z1 hwA hwB hW hg0 hgi hgr hww hbw y yi;go_enter Tryz.func8,Tryz.ntmps8
  go_upto_region 1 with fail
  rw [HWA.out,HWB.out,HWW.out,HG0.out,HG01.out,HG02.out];go_wp2_with fail
  refine HC.out.mono ?_;rintro e w8 ⟨v8,rfl,o8,k8⟩;clear HC y0 y1 y2 y3 y4 y5 y6 y7 r0 r1 r2 r3 r4 r5 r6 r7;obtain⟨M,hM⟩:∃ M,O.getD L=M:=⟨_,rfl⟩;obtain⟨D,hD⟩:∃ D,O.isSome=D:=⟨_,rfl⟩;have HM:=hid hM;have HD:=hid hD;rw [hM] at o8;rw [hD];obtain⟨va9,vb9,vu9,hs9,rfl,P9⟩:=o8;obtain⟨p1,p2,p3,q1,q2,q3,rfl,rfl,rfl⟩:=P9.form;have XT:=HXR.out.later k8;have bT:=HB.out.trans (k8.mono HB.out.size);have RX:=XT.set8L (.slice p1 M.d.sec.length q1) (.slice p2 M.d.cache.length q2) (.int .i64 M.segs) (.slice p3 M.used.length q3) (.int .i64 M.ng) (.int .i64 M.ns) (.int .i64 M.st) (.int .i64 M.nv);have BXX:=zB bT HGW.out.1 (.slice p1 M.d.sec.length q1) (.slice p2 M.d.cache.length q2) (.int .i64 M.segs) (.slice p3 M.used.length q3) (.int .i64 M.ng) (.int .i64 M.ns) (.int .i64 M.st) (.int .i64 M.nv);obtain⟨u0,u1,u2,u3,u4,u5,u6,u7⟩:=RX.eightO;have g9:=zI w8 gr (.slice p1 M.d.sec.length q1) (.slice p2 M.d.cache.length q2) (.int .i64 M.segs) (.slice p3 M.used.length q3) (.int .i64 M.ng) (.int .i64 M.ns) (.int .i64 M.st) (.int .i64 M.nv);have HL2:Hid (LgO w.heap.size (set8L w8 gr (.slice p1 M.d.sec.length q1) (.slice p2 M.d.cache.length q2) (.int .i64 M.segs) (.slice p3 M.used.length q3) (.int .i64 M.ng) (.int .i64 M.ns) (.int .i64 M.st) (.int .i64 M.nv)).heap.size (set8L w8 gr (.slice p1 M.d.sec.length q1) (.slice p2 M.d.cache.length q2) (.int .i64 M.segs) (.slice p3 M.used.length q3) (.int .i64 M.ng) (.int .i64 M.ns) (.int .i64 M.st) (.int .i64 M.nv)) (.agg #[.slice p1 M.d.sec.length q1,.slice p2 M.d.cache.length q2,.int .i64 M.segs,.slice p3 M.used.length q3,.int .i64 M.ng,.int .i64 M.ns,.int .i64 M.st,.int .i64 M.nv]) M):=by
    have h9:=P9.stay g9.size (fun q h1 h2=>g9.block q (Nat.lt_of_lt_of_le h2 P9.sec.2.1) (fun e=>by have h8:=Option.some.inj e;have h7:=HGW.out.2;omega));exact⟨_,_,_,hs9,rfl,h9.widen (by have h6:=HB.out.size;omega) h9.sec.2.1 (Nat.le_refl _)⟩
  have HBZ:=hid BXX;obtain⟨r0,r1,r2,r3,r4,r5,r6,r7,f0,f1,f2,f3,f4,f5,f6,f7⟩:=XT.eightL;unfold set8L at u0 u1 u2 u3 u4 u5 u6 u7 HL2 HBZ;have HU:=hid (And.intro u0 (And.intro u1 (And.intro u2 (And.intro u3 (And.intro u4 (And.intro u5 (And.intro u6 u7)))))));clear RX BXX g9 P9 XT bT k8 hM hD u0 u1 u2 u3 u4 u5 u6 u7;go_wp2_with fail
  obtain⟨u0,u1,u2,u3,u4,u5,u6,u7⟩:=HU.out;refine bodyPost_ret (v:=.tuple #[.agg #[.slice p1 M.d.sec.length q1,.slice p2 M.d.cache.length q2,.int .i64 M.segs,.slice p3 M.used.length q3,.int .i64 M.ng,.int .i64 M.ns,.int .i64 M.st,.int .i64 M.nv],.bool D]) (by simp [results,Tryz.results8,go_sem,u0,u1,u2,u3,u4,u5,u6,u7]) rfl ?_;exact⟨_,by rw [HD.out],by rw [HM.out];exact HL2.out,HBZ.out⟩
theorem Jc(L:Lg)(O:Option Lg)(r:Rc)(keep:Int)(B T:Nat)(va vb vu:Value)(hs:List SgH)(w:World)(hp:LgP B T w va vb vu L hs)
    (hc:∀ X,Below w.heap.size w X→Calls Tryz.prog 18 #[.agg #[va,vb,.int .i64 L.segs,vu,.int .i64 L.ng,.int .i64 L.ns,.int .i64 L.st,.int .i64 L.nv],itV L.ns r,.int .i64 keep] X fun e w'=>OsR L O X e w'):
    Calls Tryz.prog 9 #[.agg #[va,vb,.int .i64 L.segs,vu,.int .i64 L.ng,.int .i64 L.ns,.int .i64 L.st,.int .i64 L.nv],r.v,.int .i64 keep] w fun e w'=>OsR L O w e w':=by
  obtain⟨a1,a2,a3,c1,c2,c3,rfl,rfl,rfl⟩:=hp.form;have X0:=Box.new w #[.slice a1 L.d.sec.length c1,.slice a2 L.d.cache.length c2,.int .i64 L.segs,.slice a3 L.used.length c3,.int .i64 L.ng,.int .i64 L.ns,.int .i64 L.st,.int .i64 L.nv] 30;have b0:=zb w (.cells #[.slice a1 L.d.sec.length c1,.slice a2 L.d.cache.length c2,.int .i64 L.segs,.slice a3 L.used.length c3,.int .i64 L.ng,.int .i64 L.ns,.int .i64 L.st,.int .i64 L.nv] 30);have z0:(w.alloc (.cells #[.slice a1 L.d.sec.length c1,.slice a2 L.d.cache.length c2,.int .i64 L.segs,.slice a3 L.used.length c3,.int .i64 L.ng,.int .i64 L.ns,.int .i64 L.st,.int .i64 L.nv] 30)).heap.size=w.heap.size+1:=by simp
  obtain⟨wA,hwA⟩:∃ wA,w.alloc (.cells #[.slice a1 L.d.sec.length c1,.slice a2 L.d.cache.length c2,.int .i64 L.segs,.slice a3 L.used.length c3,.int .i64 L.ng,.int .i64 L.ns,.int .i64 L.st,.int .i64 L.nv] 30)=wA:=⟨_,rfl⟩;rw [hwA] at X0 b0 z0;have XI:=Box.new wA #[.int .i64 r.kind,.int .i64 r.valid,.int .i64 r.uid,.int .i64 r.next,.int .i64 r.flags,.string r.user,.string r.name,.string r.text] 33;have b1:=zb wA (.cells #[.int .i64 r.kind,.int .i64 r.valid,.int .i64 r.uid,.int .i64 r.next,.int .i64 r.flags,.string r.user,.string r.name,.string r.text] 33);have z1:(wA.alloc (.cells #[.int .i64 r.kind,.int .i64 r.valid,.int .i64 r.uid,.int .i64 r.next,.int .i64 r.flags,.string r.user,.string r.name,.string r.text] 33)).heap.size=wA.heap.size+1:=by simp
  obtain⟨wB,hwB⟩:∃ wB,wA.alloc (.cells #[.int .i64 r.kind,.int .i64 r.valid,.int .i64 r.uid,.int .i64 r.next,.int .i64 r.flags,.string r.user,.string r.name,.string r.text] 33)=wB:=⟨_,rfl⟩;rw [hwB] at XI b1 z1;have XR:=Box.new wB #[.slice none 0 0,.slice none 0 0,.int .i64 0,.slice none 0 0,.int .i64 0,.int .i64 0,.int .i64 0,.int .i64 0] 30;have b2:=zb wB (.cells #[.slice none 0 0,.slice none 0 0,.int .i64 0,.slice none 0 0,.int .i64 0,.int .i64 0,.int .i64 0,.int .i64 0] 30);obtain⟨W,hW⟩:∃ W,wB.alloc (.cells #[.slice none 0 0,.slice none 0 0,.int .i64 0,.slice none 0 0,.int .i64 0,.int .i64 0,.int .i64 0,.int .i64 0] 30)=W:=⟨_,rfl⟩;rw [hW] at XR b2;have y:=(X0.later b1).later b2;have yi:=XI.later b2;have hbw:=(b0.trans (b1.mono b0.size)).trans (b2.mono (by omega));have HXR:=hid XR;have HB:=hid hbw;obtain⟨g0,hg0⟩:∃ g0,w.heap.size=g0:=⟨_,rfl⟩;obtain⟨gi,hgi⟩:∃ gi,wA.heap.size=gi:=⟨_,rfl⟩;obtain⟨gr,hgr⟩:∃ gr,wB.heap.size=gr:=⟨_,rfl⟩;have hww:W.heap.size=gr+1:=by rw [←hW,←hgr];simp
  rw [hg0] at y;rw [hgi] at yi;rw [hgr] at HXR;have HWA:=hid hwA;have HWB:=hid hwB;have HWW:=hid hW;have HG0:=hid hg0;have HG01:Hid (g0+1=gi):=by show _=_;omega
  have HG02:Hid (gi+1=gr):=by show _=_;omega
  have HGW:Hid (w.heap.size≤gr∧W.heap.size=gr+1):=⟨by omega,hww⟩;have HC:=hid (hc W hbw);unfold itV at HC;obtain⟨y0,y1,y2,y3,y4,y5,y6,y7⟩:=y.eightO;obtain⟨r0,r1,r2,r3,r4,r5,r6,r7⟩:=yi.eightO;unfold Rc.v;clear hp hc X0 b0 XI b1 XR b2 z0 z1 hwA hwB hW hg0 hgi hgr hww hbw y yi;go_enter Tryz.func9,Tryz.ntmps9
  go_upto_region 1 with fail
  rw [HWA.out,HWB.out,HWW.out,HG0.out,HG01.out,HG02.out];go_wp2_with fail
  refine HC.out.mono ?_;rintro e w8 ⟨v8,rfl,o8,k8⟩;clear HC y0 y1 y2 y3 y4 y5 y6 y7 r0 r1 r2 r3 r4 r5 r6 r7;obtain⟨M,hM⟩:∃ M,O.getD L=M:=⟨_,rfl⟩;obtain⟨D,hD⟩:∃ D,O.isSome=D:=⟨_,rfl⟩;have HM:=hid hM;have HD:=hid hD;rw [hM] at o8;rw [hD];obtain⟨va9,vb9,vu9,hs9,rfl,P9⟩:=o8;obtain⟨p1,p2,p3,q1,q2,q3,rfl,rfl,rfl⟩:=P9.form;have XT:=HXR.out.later k8;have bT:=HB.out.trans (k8.mono HB.out.size);have RX:=XT.set8L (.slice p1 M.d.sec.length q1) (.slice p2 M.d.cache.length q2) (.int .i64 M.segs) (.slice p3 M.used.length q3) (.int .i64 M.ng) (.int .i64 M.ns) (.int .i64 M.st) (.int .i64 M.nv);have BXX:=zB bT HGW.out.1 (.slice p1 M.d.sec.length q1) (.slice p2 M.d.cache.length q2) (.int .i64 M.segs) (.slice p3 M.used.length q3) (.int .i64 M.ng) (.int .i64 M.ns) (.int .i64 M.st) (.int .i64 M.nv);obtain⟨u0,u1,u2,u3,u4,u5,u6,u7⟩:=RX.eightO;have g9:=zI w8 gr (.slice p1 M.d.sec.length q1) (.slice p2 M.d.cache.length q2) (.int .i64 M.segs) (.slice p3 M.used.length q3) (.int .i64 M.ng) (.int .i64 M.ns) (.int .i64 M.st) (.int .i64 M.nv);have HL2:Hid (LgO w.heap.size (set8L w8 gr (.slice p1 M.d.sec.length q1) (.slice p2 M.d.cache.length q2) (.int .i64 M.segs) (.slice p3 M.used.length q3) (.int .i64 M.ng) (.int .i64 M.ns) (.int .i64 M.st) (.int .i64 M.nv)).heap.size (set8L w8 gr (.slice p1 M.d.sec.length q1) (.slice p2 M.d.cache.length q2) (.int .i64 M.segs) (.slice p3 M.used.length q3) (.int .i64 M.ng) (.int .i64 M.ns) (.int .i64 M.st) (.int .i64 M.nv)) (.agg #[.slice p1 M.d.sec.length q1,.slice p2 M.d.cache.length q2,.int .i64 M.segs,.slice p3 M.used.length q3,.int .i64 M.ng,.int .i64 M.ns,.int .i64 M.st,.int .i64 M.nv]) M):=by
    have h9:=P9.stay g9.size (fun q h1 h2=>g9.block q (Nat.lt_of_lt_of_le h2 P9.sec.2.1) (fun e=>by have h8:=Option.some.inj e;have h7:=HGW.out.2;omega));exact⟨_,_,_,hs9,rfl,h9.widen (by have h6:=HB.out.size;omega) h9.sec.2.1 (Nat.le_refl _)⟩
  have HBZ:=hid BXX;obtain⟨r0,r1,r2,r3,r4,r5,r6,r7,f0,f1,f2,f3,f4,f5,f6,f7⟩:=XT.eightL;unfold set8L at u0 u1 u2 u3 u4 u5 u6 u7 HL2 HBZ;have HU:=hid (And.intro u0 (And.intro u1 (And.intro u2 (And.intro u3 (And.intro u4 (And.intro u5 (And.intro u6 u7)))))));clear RX BXX g9 P9 XT bT k8 hM hD u0 u1 u2 u3 u4 u5 u6 u7;go_wp2_with fail
  obtain⟨u0,u1,u2,u3,u4,u5,u6,u7⟩:=HU.out;refine bodyPost_ret (v:=.tuple #[.agg #[.slice p1 M.d.sec.length q1,.slice p2 M.d.cache.length q2,.int .i64 M.segs,.slice p3 M.used.length q3,.int .i64 M.ng,.int .i64 M.ns,.int .i64 M.st,.int .i64 M.nv],.bool D]) (by simp [results,Tryz.results9,go_sem,u0,u1,u2,u3,u4,u5,u6,u7]) rfl ?_;exact⟨_,by rw [HD.out],by rw [HM.out];exact HL2.out,HBZ.out⟩
end Go.Proofs.YtklkhllkjnbhjaaGreatDoor
