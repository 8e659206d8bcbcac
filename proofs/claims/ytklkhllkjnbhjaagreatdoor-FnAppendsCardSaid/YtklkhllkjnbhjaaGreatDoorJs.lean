/- Texts of our own, joined. -/
import Derived.Test.YtklkhllkjnbhjaaGreatDoorJr
/- What is fixed on a disk, plainly: the disk behind WriteCheck. -/
namespace Go.Proofs.YtklkhllkjnbhjaaGreatDoor
open Go.RowKit
set_option maxRecDepth 100000
set_option maxHeartbeats 8000000
theorem vq (n:Nat):∀(t:List UInt8),t.length≤n→∀(d d':Dk) (k fr:Nat),fr < 32→d.ok→wbL d k fr t=some d'→d'.ok∧d'.sec.length=d.sec.length:=by
  induction n with
  | zero=>
    intro t ht d d' k fr hf hok h;have:t= []:=List.length_eq_zero_iff.1 (by omega);subst this;rw [yl] at h;cases h
    exact⟨hok,rfl⟩
  | succ n ih=>
    intro t ht d d' k fr hf hok h;by_cases h0:t= []
    · subst h0
      rw [yl] at h;cases h
      exact⟨hok,rfl⟩
    · by_cases hw:wrOk d (k:Int) (wbS d k fr t)
      · rw [qH h0 hf hw] at h
        have hp:0 < t.length:=List.length_pos_iff.2 h0;obtain⟨w1,w2⟩:=xP hok (k:Int) (wbS d k fr t);obtain⟨r1,r2⟩:=ih (t.drop (32 - fr)) (by rw [List.length_drop];omega) _ d' (k+1) 0 (by omega) w1 h;exact⟨r1,r2.trans w2⟩
      · rw [Ys h0 hw] at h;cases h
theorem zca{d:Dk}{k fr:Nat}{t:List UInt8}(h0:t≠ [])(h:¬d.ok):wbL d k fr t=none:=Ys h0 (fun hw=>h hw.1)
def regN (c:Ck):Nat:=4 *(c.st % 2).toNat
theorem zcB(c:Ck):(ckTx c).data.toList≠ []:=by
  intro e;have h:(ckTx c).size=0:=by
    have h1:(ckTx c).data.toList.length=0:=by rw [e];rfl
    rw [Array.length_toList] at h1;exact h1
  unfold ckTx ckSe at h;rw [ByteArray.size_append,ByteArray.size_append,Zb] at h;omega
noncomputable def wcO (d:Dk) (c:Ck):Option Dk:=if ckB c=true then(if regN c < d.sec.length then(wbL d (regN c) 0 (ckTx c).data.toList).map flD else none) else none
theorem zah{d:Dk}{c:Ck}(h:ckB c=false):wcO d c=none:=by unfold wcO;rw [h];rfl
theorem Xz{d:Dk}{c:Ck}(h:¬regN c < d.sec.length):wcO d c=none:=by unfold wcO;rw [if_neg h];exact ite_self _
theorem Qy{d:Dk}{c:Ck}(h:wbL d (regN c) 0 (ckTx c).data.toList=none):wcO d c=none:=by unfold wcO;rw [h];simp
theorem Vw{d d':Dk}{c:Ck}(h1:ckB c=true)(h2:regN c < d.sec.length)(h:wbL d (regN c) 0 (ckTx c).data.toList=some d'):wcO d c=some (flD d'):=by unfold wcO;rw [if_pos h1,if_pos h2,h];rfl
theorem zcc{d:Dk}{c:Ck}(h:¬d.ok):wcO d c=none:=Qy (zca (zcB c) h)
theorem QU(w:World)(c0 c1 c2:Array Value)(t0 t1 t2:TypeId):
    Box (((w.alloc (.cells c0 t0)).alloc (.cells c1 t1)).alloc (.cells c2 t2)) w.heap.size c0 t0∧Box (((w.alloc (.cells c0 t0)).alloc (.cells c1 t1)).alloc (.cells c2 t2)) (w.heap.size+1) c1 t1∧Box (((w.alloc (.cells c0 t0)).alloc (.cells c1 t1)).alloc (.cells c2 t2)) (w.heap.size+2) c2 t2∧
      Below w.heap.size w (((w.alloc (.cells c0 t0)).alloc (.cells c1 t1)).alloc (.cells c2 t2))∧(((w.alloc (.cells c0 t0)).alloc (.cells c1 t1)).alloc (.cells c2 t2)).heap.size=w.heap.size+3:=by
  have z1:(w.alloc (.cells c0 t0)).heap.size=w.heap.size+1:=by simp
  have z2:((w.alloc (.cells c0 t0)).alloc (.cells c1 t1)).heap.size=w.heap.size+2:=by simp
  have X0:=((Box.new w c0 t0).later (zb _ (.cells c1 t1))).later (zb _ (.cells c2 t2));have X1:=(Box.new (w.alloc (.cells c0 t0)) c1 t1).later (zb _ (.cells c2 t2));have X2:=Box.new ((w.alloc (.cells c0 t0)).alloc (.cells c1 t1)) c2 t2;rw [z1] at X1;rw [z2] at X2;exact⟨X0,X1,X2,(((Below.refl _ _).alloc (Nat.le_refl _) _).alloc (by omega) _).alloc (by omega) _,by simp⟩
theorem Box.fiveW{w:World}{b:Nat}{u0 u1 u2 u3 u4:Value}{t:TypeId}(h:Box w b #[u0,u1,u2,u3,u4] t):w.cell? ⟨b,0,none⟩=some u0∧w.cell? ⟨b,1,none⟩=some u1∧w.cell? ⟨b,2,none⟩=some u2∧w.cell? ⟨b,3,none⟩=some u3∧w.cell? ⟨b,4,none⟩=some u4:=
  ⟨h.cell 0 _ rfl,h.cell 1 _ rfl,h.cell 2 _ rfl,h.cell 3 _ rfl,h.cell 4 _ rfl⟩

/- A list that can be read, appended to one of the call's own. -/
variable {α : Type} {E : Enc α}
theorem JH{P:Program}{w:World}(base:Nat)(t ty e:TypeId)(i:TypeInfo)(size:Nat)(ht:P.underlying t=some (.slice e))(hi:P.info? e=some i)
    (v:Value) (n:Nat) (xs:List Value) (hown:w.ownsRow base e size v n xs) (a:Option Addr) (c:Nat):
    (Builtin.append_ #[t,t] ty #[v,.slice a 0 c]).run P w=.ok v w:=by
  rcases hown.2 with⟨rfl,rfl⟩ |⟨g,cap,cur,rfl,_,_,hnc,_⟩
  · cases a <;> simp [Builtin.append_,run_underlying ht,sizeOf,typeInfo,hi,Builtin.lenOf,Builtin.firstCells,loadCells,loadCellsFrom]
  · cases a <;> simp [Builtin.append_,run_underlying ht,sizeOf,typeInfo,hi,Builtin.lenOf,Builtin.firstCells,hnc,storeCells,loadCells,loadCellsFrom]
theorem VN {w:World} (ty:TypeId) (B:Nat) (v:Value) (l:List α) (hb:RBuf E B w w v l) (vx:Value) (m:List α) (hx:Rows' E w vx m)
    (hlen:(l.length+m.length) *(E.bytes+1)≤140737488355328):
    ∃ v' w',(Builtin.append_ #[E.sty,E.sty] ty #[v,vx]).run Tryz.prog w=.ok v' w'∧RBuf E B w' w' v' (l++m)∧w.grownBy w' v.ownBlock∧(v'.ownBlock=v.ownBlock∨v'.ownBlock=some w.heap.size):=by
  obtain⟨i0,hi,hz0,hz1,hz2⟩:=info_parts E.info;have e0:(l.length+m.length) *(E.bytes+1)=(l.length+m.length) * E.bytes+(l.length+m.length):=Nat.mul_succ _ _;rcases hx with⟨rfl,a,c,rfl⟩ |⟨g,off,cap,rfl,hc,hg,hcl⟩
  · exact⟨v,w,JH (P:=Tryz.prog) B E.sty ty E.ty i0 E.sz E.und hi v l.length (E.row l) hb.own a c,by simpa using hb,World.grownBy.refl _ _,.inl rfl⟩
  · obtain⟨v',w',h1,h2,h3,_,h5⟩:=run_append_own_at (P:=Tryz.prog) w B E.sty ty E.ty i0 E.zero E.sz E.bytes E.und hi hz0 hz1 hz2 E.zc E.pos v l.length (E.row l) hb.own ⟨g,off,none⟩ m.length cap (E.row m) (E.row_length m)
      (fun j u hu=>by
        have hjl:j < m.length * E.sz:=by have:=(List.getElem?_eq_some_iff.1 hu).1;rwa [E.row_length] at this
        have hp:=E.pos
        have hq:j / E.sz < m.length:=Nat.div_lt_of_lt_mul (by rw [Nat.mul_comm];exact hjl)
        have hr:j % E.sz < E.sz:=Nat.mod_lt _ hp
        have hj:j / E.sz * E.sz+j % E.sz=j:=Nat.div_add_mod' j E.sz
        have hgq:m[j / E.sz]? =some m[j / E.sz]:=List.getElem?_eq_getElem hq
        have h6:=E.row_at m (j / E.sz) _ hgq (j % E.sz) hr
        rw [hj,hu] at h6
        have h7:=hcl (j / E.sz) _ hgq (j % E.sz) u h6.symm
        rw [Nat.add_assoc,hj] at h7
        rw [Addr.add_lit]
        exact h7) (E.row_one' m) (by unfold maxLen;omega) (by omega) hb.le
    refine⟨v',w',h1,⟨?_,Below.refl _ _,Nat.le_trans hb.le h3.size⟩,h3,h5⟩;rw [List.length_append,E.row_append];exact h2
theorem jD{w:World}{o:Oper}{a:Act}{K:Act→World→Prop}{Q:Exit→Act→World→Prop}(s x:Operand)(E:Enc α)
    (ho:o.op=.call {callee:=.builtin .append,args:=#[s,x],argTypes:=#[E.sty,E.sty]})
    (B:Nat) (v:Value) (l:List α) (hs:a.eval s=v) (hb:RBuf E B w w v l) (vx:Value) (m:List α) (hxv:a.eval x=vx) (hx:Rows' E w vx m)
    (hlen:(l.length+m.length) *(E.bytes+1)≤140737488355328)
    (h:∀ v' w',RBuf E B w' w' v' (l++m)→w.grownBy w' v.ownBlock→(v'.ownBlock=v.ownBlock∨v'.ownBlock=some w.heap.size)→K (a.put o.dst v') w'):o.wp Tryz.prog a w K Q:=by
  obtain⟨v',w',hr,h2,h3,h4⟩:=VN o.type B v l hb vx m hx hlen;unfold Oper.wp execOp;simp only [ho,resolve,invoke,builtin,Sem.run_bind,Sem.run_pure,Result.andThen_ok,List.map_toArray,List.map_cons,List.map_nil,hs,hxv,hr];exact h v' w' h2 h3 h4
theorem zX{w:World}{ops:Array Oper}{rest:List Oper}{o:Oper}{a:Act}{Q:Exit→Act→World→Prop}(hgd:o.guard=none)(s x:Operand)(E:Enc α)
    (ho:o.op=.call {callee:=.builtin .append,args:=#[s,x],argTypes:=#[E.sty,E.sty]})
    (B:Nat) (v:Value) (l:List α) (hs:a.eval s=v) (hb:RBuf E B w w v l) (vx:Value) (m:List α) (hxv:a.eval x=vx) (hx:Rows' E w vx m)
    (hlen:(l.length+m.length) *(E.bytes+1)≤140737488355328)
    (h:∀ v' w',RBuf E B w' w' v' (l++m)→w.grownBy w' v.ownBlock→(v'.ownBlock=v.ownBlock∨v'.ownBlock=some w.heap.size)→wpList Tryz.prog ops Q rest (a.put o.dst v') w'):wpList Tryz.prog ops Q (o::rest) a w:=
  wpList_plain hgd fun _ hK=>jD s x E ho B v l hs hb vx m hxv hx hlen fun v' w' h2 h3 h4=>hK _ _ (h v' w' h2 h3 h4)

/- A new head of a log, plainly. -/
def hdF (g:Int):Fr:=⟨g,1,segB⟩
def hdT (g:Int):ByteArray:=(hdF g).tx
theorem Vg{g:Int}(h:1≤g∧g≤1000000000):(hdF g).ok:=⟨h,⟨(by decide:(1:Int)≤1),(by decide:(1:Int)≤1000000000)⟩,(by decide:1≤segB.size),(by decide:segB.size≤180)⟩
theorem yk{g:Int}(h:1≤g∧g≤1000000000):(hdT g).size≤196:=by
  obtain⟨t,b,h1,h2⟩:=jo (hdF g);rw [Zq (Vg h)] at h1;cases h1
  exact h2
theorem Xu{u:List Sg}:∀(n:Nat) (k:Int),k∈frT u n→0≤k∧k <(n:Int)
  | 0,k,h=>by cases h
  | n +1,k,h=>by
    have h1:k∈frT u n++(if hasB u (n:Int) then [] else [(n:Int)]):=h
    rcases List.mem_append.1 h1 with h2 | h2
    · have:=Xu n k h2;omega
    · cases hb:hasB u (n:Int) with
      | true=>rw [hb] at h2;cases h2
      | false=>rw [hb] at h2;simp at h2;omega
def opN (L:Lg):Nat:=((fr L).headD 0).toNat
theorem Jl{L:Lg}(h:0 <(fr L).length):(fr L)[0]? =some (opN L:Int)∧opN L < frN L.segs:=by
  unfold opN;have hm:∀ k∈fr L,0≤k∧k <(frN L.segs:Int):=fun k hk=>Xu _ _ hk;cases hf:fr L with
  | nil=>rw [hf] at h;simp at h
  | cons k l=>
    have hk:=hm k (by rw [hf];simp);simp only [List.getElem?_cons_zero,List.headD_cons,Option.some.injEq];omega
structure OpH (L:Lg):Prop where
  ok:L.d.ok
  segs:0≤L.segs∧L.segs≤11
  room:8+8 * L.segs.toNat≤L.d.sec.length
  gen:1≤L.ng∧L.ng≤1000000000
theorem OpH.first{L:Lg}(h:OpH L)(hf:0 <(fr L).length):opN L≤10∧8+8 * opN L < L.d.sec.length:=by
  have h1:=(Jl hf).2;have h2:frN L.segs=L.segs.toNat:=by unfold frN;have:=h.segs;omega
  have:=h.room;have:=h.segs;omega
def opL (L:Lg) (d:Dk):Lg:=⟨flD d,L.segs,L.used++ [⟨(opN L:Int),L.ng,((hdT L.ng).size:Int),[]⟩],L.ng+1,L.ns,L.st,L.nv⟩
def opO (L:Lg) (keep:Int):Option Lg:=if 0≤keep∧keep <((fr L).length:Int)∧L.ng < 1000000000 then(sgW L.d (opN L) 0 (hdT L.ng)).map (opL L) else none
theorem vL{L:Lg}{keep:Int}(h:¬(0≤keep∧keep <((fr L).length:Int)∧L.ng < 1000000000)):opO L keep=none:=if_neg h
theorem QS{L:Lg}{keep:Int}(h:sgW L.d (opN L) 0 (hdT L.ng)=none):opO L keep=none:=by unfold opO;rw [h];exact ite_self _
theorem vk{L:Lg}{keep:Int}{d:Dk}(h0:0≤keep∧keep <((fr L).length:Int)∧L.ng < 1000000000)(h:sgW L.d (opN L) 0 (hdT L.ng)=some d):opO L keep=some (opL L d):=by unfold opO;rw [if_pos h0,h];rfl
def lgC (va vb vu:Value) (L:Lg):Array Value:=#[va,vb,.int .i64 L.segs,vu,.int .i64 L.ng,.int .i64 L.ns,.int .i64 L.st,.int .i64 L.nv]
theorem Box.eightO{w:World}{b:Nat}{u0 u1 u2 u3 u4 u5 u6 u7:Value}{t:TypeId}(h:Box w b #[u0,u1,u2,u3,u4,u5,u6,u7] t):
    w.cell? ⟨b,0,none⟩=some u0∧w.cell? ⟨b,1,none⟩=some u1∧w.cell? ⟨b,2,none⟩=some u2∧w.cell? ⟨b,3,none⟩=some u3∧w.cell? ⟨b,4,none⟩=some u4∧w.cell? ⟨b,5,none⟩=some u5∧w.cell? ⟨b,6,none⟩=some u6∧w.cell? ⟨b,7,none⟩=some u7:=
  ⟨h.cell 0 _ rfl,h.cell 1 _ rfl,h.cell 2 _ rfl,h.cell 3 _ rfl,h.cell 4 _ rfl,h.cell 5 _ rfl,h.cell 6 _ rfl,h.cell 7 _ rfl⟩
structure LgFar (T S:Nat) (va vb vu:Value) (hs:List SgH):Prop where
  sec:∀ k,va.ownBlock=some k→k < T∨S≤k
  cac:∀ k,vb.ownBlock=some k→k < T∨S≤k
  row:∀ k,vu.ownBlock=some k→k < T∨S≤k
  its:∀(j:Nat) (x:SgH),hs[j]? =some x→∀ k,x.mv.ownBlock=some k→k < T∨S≤k
def OpR (L:Lg) (keep:Int) (pg B T:Nat) (tL:TypeId) (va vb vu:Value) (hs:List SgH) (w:World) (e:Ending) (w':World):Prop:=
  w.grownBy w' (some pg)∧
  ((opO L keep=none∧e=.returned (.bool false)∧Box w' pg (lgC va vb vu L) tL∧LgP B T w' va vb vu L hs)∨
   ∃ L' va' vb' vu' hs',opO L keep=some L'∧e=.returned (.bool true)∧Box w' pg (lgC va' vb' vu' L') tL∧LgP B w'.heap.size w' va' vb' vu' L' hs'∧LgFar T w.heap.size va' vb' vu' hs'∧LgFar pg (pg+1) va' vb' vu' hs')
theorem LgP.farOut{B T g:Nat}{w:World}{va vb vu:Value}{L:Lg}{hs:List SgH}(h:LgP B T w va vb vu L hs)(hg:g < B∨T≤g):LgFar g (g+1) va vb vu hs:=
  ⟨fun k hk=>by have h1:=(h.sec.1.own.lt k hk).1;have h2:=h.sec.2.2 k hk;omega,fun k hk=>by have h1:=(h.cac.1.own.lt k hk).1;have h2:=h.cac.2.2 k hk;omega,
   fun k hk=>by have h1:=(h.use.own.where'.1 k hk).1;have h2:=h.use.row k hk;omega,fun j x hj k hk=>by have h1:=(h.use.own.where'.2 j x hj k hk).1;have h2:=h.use.its j x hj k hk;omega⟩
theorem zl{α:Type}{w:World}{ops:Array Oper}{o:Oper}{a:Act}{K:Act→World→Prop}{Q:Exit→Act→World→Prop}{X:Prop}(hgd:o.guard=none)(s x:Operand)(E:Enc α)
    (ho:o.op=.call {callee:=.builtin .append,args:=#[s,x],argTypes:=#[E.sty,E.sty]})
    (B:Nat) (v:Value) (l:List α) (hs:a.eval s=v) (hb:RBuf E B w w v l) (vx:Value) (m:List α) (hxv:a.eval x=vx) (hx:Rows' E w vx m)
    (hlen:(l.length+m.length) *(E.bytes+1)≤140737488355328)
    (h:∀ v' w',RBuf E B w' w' v' (l++m)→w.grownBy w' v.ownBlock→(v'.ownBlock=v.ownBlock∨v'.ownBlock=some w.heap.size)→(∀ k,v.ownBlock=some k→B≤k∧k < w.heap.size)→K (a.put o.dst v') w'):
    if Region.wanted o (yielded ops a.tmps)=true then Oper.wp Tryz.prog o a w K Q else X:=by
  have hw:Region.wanted o (yielded ops a.tmps)=true:=by simp [Region.wanted,hgd]
  rw [if_pos hw];exact jD s x E ho B v l hs hb vx m hxv hx hlen fun v' w' h2 h3 h4=>h v' w' h2 h3 h4 (fun k hk=>hb.own.lt k hk)
theorem DOwn.stayO{B T:Nat}{w w':World}{v:Value}{d:Dk}(h:DOwn B T w v d)(hz:w.heap.size≤w'.heap.size)(hk:∀ q,B≤q→q < T→w'.heap[q]? =w.heap[q]?):DOwn B T w' v d:=by
  obtain⟨va,vb,e,h1,h2,h3⟩:=h;exact⟨va,vb,e,⟨h1.1.stayG hz (fun q e=>hk q (h1.1.own.lt q e).1 (h1.2.2 q e)),Nat.le_trans h1.2.1 hz,h1.2.2⟩,⟨h2.1.stayG hz (fun q e=>hk q (h2.1.own.lt q e).1 (h2.2.2 q e)),Nat.le_trans h2.2.1 hz,h2.2.2⟩,h3⟩
theorem LgP.mkO{B C T0 T1:Nat}{w:World}{va vb vu:Value}{L:Lg}{hs:List SgH}(hd:DOwn C T1 w (.agg #[va,vb]) L.d)(hg:GOwn B w.heap.size w vu L.used hs)(hB:B≤C)(h0:T0≤C)(h1:∀ k,vu.ownBlock=some k→T1≤k)(h2:∀(j:Nat) (x:SgH),hs[j]? =some x→∀ k,x.mv.ownBlock=some k→k < T0):LgP B w.heap.size w va vb vu L hs:=by
  obtain⟨ua,ub,e,l1,l2,l3⟩:=hd;simp only [Value.agg.injEq,Array.mk.injEq,List.cons.injEq,and_true] at e;obtain⟨rfl,rfl⟩:=e;refine⟨(l1.deeper hB).wider l1.2.1 (Nat.le_refl _),(l2.deeper hB).wider l2.2.1 (Nat.le_refl _),l3,hg,fun k hk=>?_⟩;have hlt:C≤k∧k < T1:=by
    rcases hk with e | e
    · exact⟨(l1.1.own.lt k e).1,l1.2.2 k e⟩
    · exact⟨(l2.1.own.lt k e).1,l2.2.2 k e⟩
  refine⟨fun e=>?_,fun j x hj e=>?_⟩
  · have:=h1 k e;omega
  · have:=h2 j x hj k e;omega
theorem GOwn.grow {B T C:Nat} {w w':World} {v v':Value} {bs:List Sg} {hs:List SgH} (h:GOwn B T w v bs hs) (hz:w.heap.size≤w'.heap.size) (hk:∀(j:Nat) (y:SgH),hs[j]? =some y→∀ q,y.mv.ownBlock=some q→w'.heap[q]? =w.heap[q]?) (b:Sg) (x:SgH)
    (hx:x.no=b.no∧x.gen=b.gen∧x.ende=b.ende) (hm:x.mv=.slice none 0 0) (hi:b.items= []) (hr:RBuf sgE C w' w' v' (hs++ [x])) (hC:T≤C) (hB:B≤C):GOwn B w'.heap.size w' v' (bs++ [b]) (hs++ [x]):=by
  have old:∀ {j:Nat} {y:SgH},(hs++ [x])[j]? =some y→(hs[j]? =some y∧j < hs.length)∨(j=hs.length∧y=x):=fun {j y} hj=>by
    by_cases c:j < hs.length
    · rw [List.getElem?_append_left c] at hj
      exact .inl ⟨hj,c⟩
    · rw [List.getElem?_append_right (by omega)] at hj
      have hj0:j - hs.length=0:=by
        have:=(List.getElem?_eq_some_iff.1 hj).1;simp at this;omega
      rw [hj0] at hj;simp at hj;exact .inr ⟨by omega,hj.symm⟩
  have nob:∀ k,x.mv.ownBlock≠some k:=fun k e=>by rw [hm] at e;cases e
  have hown:SgO B w' v' (bs++ [b]) (hs++ [x]):=by
    refine⟨hr.lower hB,by simp [h.own.len],fun j y c h1 h2=>?_,fun j y h1 k hk2=>?_,fun i j y z h1 h2 hij k hk2=>?_⟩
    · rcases old h1 with⟨h3,hl⟩ |⟨rfl,rfl⟩
      · rw [List.getElem?_append_left (by rw [←h.own.len];exact hl)] at h2
        obtain⟨p1,p2⟩:=h.own.at' j y c h3 h2;exact⟨p1,p2.stayG hz (fun q hq=>hk j y h3 q hq)⟩
      · rw [List.getElem?_append_right (by rw [h.own.len];omega),h.own.len] at h2
        simp at h2;subst h2;refine⟨hx,?_⟩;rw [hm,hi];exact⟨World.ownsRow_nil _ _ _ _,Below.refl _ _,Nat.le_trans h.own.row.le hz⟩
    · rcases old h1 with⟨h3,_⟩ |⟨_,rfl⟩
      · intro e
        have:=h.its j y h3 k hk2;have:=(hr.own.lt k e).1;omega
      · exact absurd hk2 (nob k)
    · rcases old h1 with⟨h3,_⟩ |⟨_,rfl⟩
      · rcases old h2 with⟨h4,_⟩ |⟨_,rfl⟩
        · exact h.own.apart i j y z h3 h4 hij k hk2
        · exact nob k
      · exact absurd hk2 (nob k)
  exact hown.gown
theorem zj{W x:World}{pg:Nat}(h:W.grownBy x (some pg))(i:Nat)(u:Value):W.grownBy (x.setCell ⟨pg,i,none⟩ u) (some pg):=h.trans (za x pg i u)
def KO (W:World) (pg:Nat) (ng:Value) (x:World):Prop:=W.grownBy x (some pg)∧x.cell? ⟨pg,4,none⟩=some ng
theorem KO.drew{W:World}{pg:Nat}{ng:Value}(h:W.cell? ⟨pg,4,none⟩=some ng):KO W pg ng W.drew:=⟨⟨rfl,rfl,rfl,Nat.le_refl _,fun _ _ _=>rfl⟩,h⟩
theorem KO.later{W x y:World}{pg:Nat}{ng:Value}(h:KO W pg ng x)(hb:Below x.heap.size x y):KO W pg ng y:=
  ⟨⟨hb.os.trans h.1.os,hb.tape.trans h.1.tape,hb.output.trans h.1.output,Nat.le_trans h.1.size hb.size,fun k hk hr=>(hb.block k (Nat.lt_of_lt_of_le hk h.1.size)).trans (h.1.block k hk hr)⟩,(hb.cell (p:=⟨pg,4,none⟩) (World.block_lt_of_cell? _ _ h.2)).trans h.2⟩
theorem KO.grown{W x y:World}{pg:Nat}{ng:Value}{r:Option Nat}(h:KO W pg ng x)(hg:x.grownBy y r)(hr:∀ k,r=some k→W.heap.size≤k)(hp:pg < W.heap.size):KO W pg ng y:=
  ⟨⟨hg.os.trans h.1.os,hg.tape.trans h.1.tape,hg.output.trans h.1.output,Nat.le_trans h.1.size hg.size,fun k hk hn=>(hg.block k (Nat.lt_of_lt_of_le hk h.1.size) (fun e=>by have:=hr k e.symm;omega)).trans (h.1.block k hk hn)⟩,hg.cell h.2 (fun e=>by have:=hr pg e.symm;omega)⟩
theorem KO.put{W x:World}{pg:Nat}{ng:Value}(h:KO W pg ng x)(u:Value):KO W pg ng (x.setCell ⟨pg,3,none⟩ u):=
  ⟨zj h.1 3 u,by rw [World.cell?_setCell_other _ _ _ _ (by simp)];exact h.2⟩
theorem KO.cell{W x:World}{pg g o:Nat}{ng u:Value}(h:KO W pg ng x)(hc:W.cell? ⟨g,o,none⟩=some u)(hne:g≠pg):x.cell? ⟨g,o,none⟩=some u:=
  h.1.cell hc (fun e=>hne (Option.some.inj e))
theorem RBuf.ko{α:Type}{E:Enc α}{B pg:Nat}{W x:World}{ng v:Value}{l:List α}(h:RBuf E B W W v l)(hk:KO W pg ng x)(hne:v.ownBlock≠some pg):RBuf E B x x v l:=
  h.stayG hk.1.size (fun k e=>hk.1.block k (h.own.lt k e).2 (fun e2=>hne (by rw [e,Option.some.inj e2])))
theorem vZ{P:Program}{md:Region.Mode}{l:List Oper}{Q:Exit→Act→World→Prop}{S:World→Prop}{i j k:Nat}{o o' o2:Oper}{fuel:Nat}{listed:Array Bool}{a:Act}{w:World}(hi:l[i]? =some o)(hj:l[j]? =some o')(hk:l[k]? =some o2)
    (h:∀ K':Act→World→Prop,Shut (∀ a w,S w→(S w→wpAnyH P md l.toArray Q S fuel (listed.setIfInBounds i true) a w)→K' a w)→if Region.wanted o (yielded l.toArray a.tmps)=true then Oper.wp P o a w K' Q else K' (a.put o.dst undef) w)
    (h':∀ K':Act→World→Prop,Shut (∀ a w,S w→(S w→wpAnyH P md l.toArray Q S fuel (listed.setIfInBounds j true) a w)→K' a w)→if Region.wanted o' (yielded l.toArray a.tmps)=true then Oper.wp P o' a w K' Q else K' (a.put o'.dst undef) w)
    (h2:∀ K':Act→World→Prop,Shut (∀ a w,S w→(S w→wpAnyH P md l.toArray Q S fuel (listed.setIfInBounds k true) a w)→K' a w)→if Region.wanted o2 (yielded l.toArray a.tmps)=true then Oper.wp P o2 a w K' Q else K' (a.put o2.dst undef) w):
    AllReadyH P md l.toArray Q S fuel listed a w [i,j,k]:=
  AllReadyH.cons (by rw [List.getElem?_toArray];exact hi) h (zD hj hk h' h2)
end Go.Proofs.YtklkhllkjnbhjaaGreatDoor
