/- Texts of our own, joined. -/
import Derived.Test.YtklkhllkjnbhjaaGreatDoorJg
import Derived.Maps.OwnIn
import Derived.Sort.QuietIn
import Derived.Sort.CutIn
/- A range over a function that keeps a variable of its own in memory, at the wide fence: what the caller holds to, round by round, while the variable's block is zbW by the function alone. -/
namespace Go.Proofs.YtklkhllkjnbhjaaGreatDoor
open Go.RowKit
open Lib (hid)
set_option maxRecDepth 100000
set_option maxHeartbeats 8000000
def RoundOk (D:Nat) (B:Nat) (I:World→Prop) (W:World):Exit→Act→World→Prop
  | .normal,_,W'=>I W'∧W.heap.size≤W'.heap.size∧W'.heap[D]? =W.heap[D]? ∧W'.heap[D+1]? =W.heap[D+1]? ∧W'.heap[B]? =W.heap[B]?
  | _,_,_=>False
def SeqVar {α:Type} (n:Nat) (P:Program) (gf:Nat) (lb:Array Value) (encs:α→Array Value) (Kn:World→Prop) (Ok:List α→α→Prop) (S:List α→Prop) (m:Nat):Prop:=
  ∀ (l:Nat) (J:Nat→List α→World→Prop) (W:World),W.heap.size=m→(∀ B pre X,J B pre X→Kn X∧m≤X.heap.size)→
    (∀ B pre X Y row,m≤B→J B pre X→X.grownBy Y row→(∀ r,row=some r→r=B)→J B pre Y)→
    (∀ B pre x X,m≤B→B < X.heap.size→J B pre X→Ok pre x→YieldAt Fence.wide (n - 1) P l (encs x) X fun e X'=>e=.returned (.bool true)∧J B (pre++ [x]) X'∧X.heap.size≤X'.heap.size∧X'.heap[B]? =X.heap[B]?)→
    (∀ B,m≤B→J B [] W)→
    CallsIn Fence.wide n P gf (#[.func (.yield l) #[] #[]] ++lb) W fun e W'=>(∃ v,e=.returned v)∧∃ B xs,m≤B∧S xs∧J B xs W'
theorem vE {α:Type} {n:Nat} {P:Program} {g:Operand} {ps:Array Tmp} {assign body:Go.Code} {Q:Exit→Act→World→Prop} {a:Act} {w:World} (h1:1≤n)
    {gf:Nat} {lb:Array Value} (hg:a.eval g=.func (.func gf) #[] lb) (eg:∀ args w,(callFunc gf args).run P w=.ok (.enter gf args) w)
    {encs:α→Array Value} (hps:∀ x,(encs x).size=ps.size) {Kn:World→Prop} {Ok:List α→α→Prop} {S:List α→Prop} (hseq:SeqVar (n - 1) P gf lb encs Kn Ok S (w.heap.size+2))
    (I:Nat→List α→World→Prop) (hK:∀ B pre X,I B pre X→Kn X)
    (hI:∀ B pre X Y row,w.heap.size+2≤B→I B pre X→X.grownBy Y row→(∀ r,row=some r→r=B∨r=w.heap.size∨r=w.heap.size+1)→I B pre Y)
    (h0:∀ B,w.heap.size+2≤B→I B [] w) (Ax:α→Act→World→Prop)
    (hassign:∀(l:Nat) (x:α) (W:World) (K:Act→World→Prop),w.heap.size+2≤W.heap.size→(∀ a' W',W.grownBy W' none→Ax x a' W'→K a' W')→
      assign.wpIn (Fence.wide.inRound l) (n - 1 - 1) P (Exit.then K (fun _ _ _=>False)) {tmps:=(ps.zip (encs x)).foldl (fun t (p,v)=>t.setIfInBounds p v) a.tmps,defers:= []} W)
    (hbody:∀(l B:Nat) (pre:List α) (x:α) (a':Act) (W:World),w.heap.size+2≤B→B < W.heap.size→I B pre W→Ok pre x→(∀ W0,W0.grownBy W (some (w.heap.size+1))→Ax x a' W0→body.wpIn (Fence.wide.inRound l) (n - 1 - 1) P (RoundOk w.heap.size B (fun W'=>I B (pre++ [x]) W') W) a' W))
    (hdone:∀(D B:Nat) (xs:List α) (W:World),D=w.heap.size→w.heap.size+2≤B→S xs→I B xs W→W.heap[D]? =some (.deferred (some []))→Q .normal {a with defers:= {target:=.collected D,args:=#[]}::a.defers} W):
    (Code.rangeFunc g ps assign body).wpIn Fence.wide n P Q a w:=by
  refine wpIn_rangeFunc ?_;intro fn hfn;obtain⟨rec,hrec⟩:∃ rec:LoopState→Loop,rec=fun st=> {state:=st,pending:=none,fn,tmps:=a.tmps,params:=ps,assign,body,defers:=w.heap.size}:=⟨_,rfl⟩;obtain⟨W1,hW1⟩:∃ W1,(w.alloc (.deferred (some []))).alloc (.loop (rec .ready))=W1:=⟨_,rfl⟩;have hs1:W1.heap.size=w.heap.size+2:=by rw [←hW1];simp
  have hD:W1.heap[w.heap.size]? =some (.deferred (some [])):=by
    rw [←hW1];exact(Below.heap_alloc _ _ _ (by simp)).trans (World.alloc_heap_new w _)
  have hL:W1.heap[w.heap.size+1]? =some (.loop (rec .ready)):=by
    rw [←hW1];have:=World.alloc_heap_new (w.alloc (.deferred (some []))) (.loop (rec .ready));rwa [World.size_alloc] at this
  have hg1:w.grownBy W1 none:=by
    rw [←hW1];exact(World.grownBy_alloc w _ none).trans (World.grownBy_alloc _ _ none)
  refine⟨w.heap.size+1,[{target:=.collected w.heap.size,args:=#[]}],W1,{target:=.fn (.func gf) lb,args:=#[.func (.yield (w.heap.size+1)) #[] #[]]},W1,gf,
    #[.func (.yield (w.heap.size+1)) #[] #[]] ++lb,W1,?_,?_,fun _ _=>trivial,?_,fun _=>h1,?_⟩
  · rw [←hW1,hrec];exact run_enterLoop_outer _ _ _ _ _
  · simp only [resolve,hg];simp [go_sem]
  · simp [invoke,go_sem,eg]
  refine(hseq (w.heap.size+1) (fun B pre X=>I B pre X∧w.heap.size+2≤X.heap.size∧X.heap[w.heap.size+1]? =some (.loop (rec .ready))∧X.heap[w.heap.size]? =some (.deferred (some []))) W1 hs1 (fun B pre X h=>⟨hK B pre X h.1,h.2.1⟩) ?_ ?_ ?_).mono ?_
  · rintro B pre X Y row hB ⟨hi,hz,hl,hd⟩ hg' hr
    refine⟨hI B pre X Y row hB hi hg' (fun r e=>.inl (hr r e)),Nat.le_trans hz hg'.size,?_,?_⟩
    · exact(hg'.block _ (by omega) (fun e=>by have:=hr _ e.symm;omega)).trans hl
    · exact(hg'.block _ (by omega) (fun e=>by have:=hr _ e.symm;omega)).trans hd
  · rintro B pre x X hB hBX ⟨hi,hz,hl,hd⟩ hok
    have hy:=run_yield (P:=P) (args:=encs x) hl (by rw [hrec];exact hps x);rw [hrec] at hy;refine⟨fn,_,assign,body,hy,roundIn_of_wpIn hfn (hassign _ x X _ hz ?_)⟩;intro a' Xa hga hax;have hza:w.heap.size+2≤Xa.heap.size:=Nat.le_trans hz hga.size;have hla:Xa.heap[w.heap.size+1]? =some (.loop (rec .ready)):=(hga.block _ (by omega) (by simp)).trans hl;have hda:Xa.heap[w.heap.size]? =some (.deferred (some [])):=(hga.block _ (by omega) (by simp)).trans hd;have hia:=hI B pre X Xa none hB hi hga (fun r e=>by cases e);refine⟨_,run_beginRound hla (by rw [hrec]),?_⟩;obtain⟨Xb,hXb⟩:∃ Xb,Xa.putObj (w.heap.size+1) (.loop {rec .ready with state:=.busy})=Xb:=⟨_,rfl⟩;have hgb:Xa.grownBy Xb (some (w.heap.size+1)):=by rw [←hXb];exact grownBy_putObj' _ _ _
    have hlb:Xb.heap[w.heap.size+1]? =some (.loop {rec .ready with state:=.busy}):=by rw [←hXb];exact World.putObj_heap_same (by omega)
    have hdb:Xb.heap[w.heap.size]? =some (.deferred (some [])):=(hgb.block _ (by omega) (by simp)).trans hda;have hib:=hI B pre Xa Xb _ hB hia hgb (fun r e=>.inr (.inr (by cases e;rfl)));have hzb:w.heap.size+2≤Xb.heap.size:=Nat.le_trans hza hgb.size;rw [hXb];refine wpIn_mono (hbody _ B pre x a' Xb hB (Nat.lt_of_lt_of_le hBX (Nat.le_trans hga.size hgb.size)) hib hok Xa hgb hax) ?_;rintro e a3 X3 hp;cases e with
    | normal=>
      obtain⟨hi3,hz3,hd3,hl3,hb3⟩:=hp;have hl3':=hl3.trans hlb;have hend:=run_endRound (P:=P) none hl3';have hsz3:w.heap.size+2≤X3.heap.size:=Nat.le_trans hzb hz3;have hge:=grownBy_putObj' X3 (w.heap.size+1) (.loop (rec .ready));refine⟨_,_,hend,rfl,⟨?_,?_,?_,?_⟩,?_,?_⟩
      · rw [hrec] at hge ⊢
        exact hI B (pre++ [x]) X3 _ _ hB hi3 hge (fun r e=>.inr (.inr (by cases e;rfl)))
      · simp [World.putObj];omega
      · rw [hrec];exact World.putObj_heap_same (by omega)
      · exact(World.putObj_heap_other (by omega)).trans (hd3.trans hdb)
      · have s1:=hga.size
        have s2:=hgb.size;simp [World.putObj];omega
      · have s1:=hga.size
        have s2:=hgb.size;rw [World.putObj_heap_other (by omega),hb3,hgb.block B (by omega) (fun e=>by have:=Option.some.inj e;omega),hga.block B hBX (by simp)]
    | ret=>exact hp.elim
    | exit id=>exact hp.elim
    | goto t=>exact hp.elim
    | panic ch=>exact hp.elim
    | outgrown=>exact hp.elim
  · intro B hB
    exact⟨hI B [] w W1 none hB (h0 B hB) hg1 (fun r e=>by cases e),by omega,hL,hD⟩
  · rintro e W2 ⟨⟨v,rfl⟩,B,xs,hB,hS,hi,hz,hl,hd⟩
    refine⟨none,_,by have:=run_endLoop (P:=P) hl (by rw [hrec];simp);rw [hrec] at this;exact this,?_⟩;refine hdone _ B xs _ rfl hB hS (hI B xs W2 _ _ hB hi (grownBy_putObj' _ _ _) (fun r e=>.inr (.inr (by cases e;rfl)))) ?_;exact(World.putObj_heap_other (by omega)).trans hd

/- Frames: what the program's ScanFrames hands back: a range over a reader that is handed a yield. -/
open Go.RowKit Go.Shelf
attribute [local go_sem] Oper.semAt_some
theorem YH{α:Type}{F:Fence}{nF:Nat}{w0 w:World}{ops:Array Oper}{rest:List Oper}{o:Oper}{a:Act}{Q:Exit→Act→World→Prop}(hgd:o.guard=none)(s x:Operand)
    (E:Enc α) (ho:o.op=.call {callee:=.builtin .append,args:=#[s,x],argTypes:=#[E.sty,E.sty]})
    (B:Nat) (v:Value) (l:List α) (hs:a.eval s=v) (hb:RBuf E B w0 w v l)
    (ad:Addr) (news:List α) (c:Nat) (hx:a.eval x=.slice (some ad) news.length c)
    (hnews:∀ j u,(E.row news)[j]? =some u→w.cell? (ad.add j)=some u)
    (hlen:(l.length+news.length) *(E.bytes+1)≤140737488355328)
    (h:∀ v' w',RBuf E B w0 w' v' (l++news)→w.grownBy w' v.ownBlock→(v'.ownBlock=v.ownBlock∨v'.ownBlock=some w.heap.size)→wpListIn F nF Tryz.prog ops Q rest (a.put o.dst v') w'):wpListIn F nF Tryz.prog ops Q (o::rest) a w:=by
  obtain⟨i0,hi,hz0,hz1,hz2⟩:=info_parts E.info;have e0:(l.length+news.length) *(E.bytes+1)=(l.length+news.length) * E.bytes+(l.length+news.length):=Nat.mul_succ _ _;refine wpListIn_append_own_at _ hgd s x E.sty ho B E.ty i0 E.zero E.sz E.bytes E.und hi hz0 hz1 hz2 E.zc E.pos v l.length (E.row l) hs hb.own ad news.length c (E.row news) hx (E.row_length news) hnews (E.row_one' news) (by unfold maxLen;omega) (by omega) hb.le ?_;intro v' w' hown hgrow _ hat
  refine h v' w' ⟨?_,hb.bel.grown hgrow hb.le (fun k hk=>(hb.own.lt k hk).1),Nat.le_trans hb.le hgrow.size⟩ hgrow hat
  have e1:(l++news).length=l.length+news.length:=by simp
  rw [e1,E.row_append];exact hown
def frEncs (x:Fr×Nat):Array Value:=#[x.1.v,.int .i64 (x.2:Int)]
theorem zap(s:ByteArray)(k:Nat)(hk:k≤s.size):(∃ f e,rf fourOf s k=some (f,e)∧rfT s k=.tuple #[f.v,.int .i64 (e:Int),.bool true])∨(rf fourOf s k=none∧rfT s k=.tuple #[zeroFr.v,.int .i64 ((0:Nat):Int),.bool false]):=by
  cases h:rf fourOf s k with
  | none=>exact .inr ⟨rfl,Za ((ZR hk).trans h)⟩
  | some x=>obtain⟨f,e⟩:=x;exact .inl ⟨f,e,rfl,yA ((ZR hk).trans h)⟩
def rdAt (s:ByteArray) (k:Nat):Fr×Nat×Bool:=
  match rf fourOf s k with
  | some (f,e)=>(f,e,true)
  | none=>(zeroFr,0,false)
theorem za2(s:ByteArray)(k:Nat)(hk:k≤s.size):rfT s k=.tuple #[(rdAt s k).1.v,.int .i64 ((rdAt s k).2.1:Int),.bool (rdAt s k).2.2]:=by
  unfold rdAt;rcases zap s k hk with⟨f,e,h,h2⟩ |⟨h,h2⟩
  · rw [h2,h]
  · rw [h2,h]
theorem J7{w w':World}(hb:Below w.heap.size w w'):w.grownBy w' none:=⟨hb.os,hb.tape,hb.output,hb.size,fun k hk _=>hb.block k hk⟩
theorem JM{w w':World}(hb:Below w.heap.size w w')(r:Option Nat):w.grownBy w' r:=⟨hb.os,hb.tape,hb.output,hb.size,fun k hk _=>hb.block k hk⟩
theorem VF (n:Nat) (hn:1≤n) (s:ByteArray) (g:Int) (Bt Bg m:Nat) (hs:s.size≤1099511627776):
    SeqVar n Tryz.prog 156 #[.pointer (some ⟨Bt,0,none⟩),.pointer (some ⟨Bg,0,none⟩)] frEncs (fun X=>X.cell? ⟨Bt,0,none⟩=some (.string s)∧X.cell? ⟨Bg,0,none⟩=some (.int .i64 g)∧SumTab X) (fun pre _=>pre.length≤s.size) (fun xs=>xs=scan s g) m:=by
  intro l J W hW hKn hJ hY h0;have HKn:=hid hKn;have HJ:=hid hJ;have HY:=hid hY;obtain⟨⟨ct,cg,htab⟩,_⟩:=hKn m [] W (h0 m (Nat.le_refl _));have H0:=hid h0;clear hKn hJ hY h0;refine callsIn_of_wp Tryz.func156 rfl trivial ?_ rfl;simp only [Tryz.ntmps156,List.size_toArray,List.length_cons,List.length_nil,Nat.reduceAdd,Nat.reduceSub,Array.replicate_succ,Array.replicate_zero,List.push_toArray,List.append_toArray,List.nil_append,List.cons_append];have hT:=hid (za2 s 0 (Nat.zero_le _));gi_wp2_with (refine⟨trivial,?_⟩;gi_at_call 142;refine(callsIn_wide.2 (zU s (0:Nat) _ (by omega) htab)).mono ?_;rintro e w1 ⟨rfl,k1⟩;rw [hT.out];unfold Fr.v);have hk1:m≤w1.heap.size:=by have:=k1.size;omega
  have y0:=Box.new w1 #[.int .i64 (rdAt s 0).1.gen,.int .i64 (rdAt s 0).1.seq,.string (rdAt s 0).1.body] 107;have j0:J w1.heap.size [] (w1.alloc (.cells #[.int .i64 (rdAt s 0).1.gen,.int .i64 (rdAt s 0).1.seq,.string (rdAt s 0).1.body] 107)):=
    HJ.out w1.heap.size [] W _ none hk1 (H0.out _ hk1) ((J7 k1).trans (World.grownBy_alloc _ _ none)) (fun r e=>by cases e)
  clear H0 ct cg htab k1 hT;generalize hB:w1.heap.size=Bf at *;generalize w1.alloc (.cells #[.int .i64 (rdAt s 0).1.gen,.int .i64 (rdAt s 0).1.seq,.string (rdAt s 0).1.body] 107)=W2 at *;gi_loopw [5,6] (fun bv tv wr=>∃(pre:List (Fr×Nat)) (k:Nat),k≤s.size∧behind 0 pre=k∧pre++sq fourOf s g k=scan s g∧bv=.int .i64 ((rdAt s k).2.1:Int)∧tv=.bool (rdAt s k).2.2∧Box wr Bf #[.int .i64 (rdAt s k).1.gen,.int .i64 (rdAt s k).1.seq,.string (rdAt s k).1.body] 107∧J Bf pre wr)
    (fun bv tv _=>match tv with | .bool true=>s.size+2 -(intOf bv).toNat | _=>0)
  case atStart=>exact⟨[],0,Nat.zero_le _,rfl,rfl,rfl,rfl,y0,j0⟩
  case round=>
    clear y0 j0;obtain⟨pre,k,hk,hbe,hpre,rfl,rfl,y,j⟩:=hrel;have HBE:=hid hbe;have HPRE:=hid hpre;have hlen:pre.length≤s.size:=by
      have h1:=congrArg List.length hpre;have h2:=(vK (four:=fourOf) (s:=s) (g:=g) (k:=0) (Nat.zero_le _)).2.1;rw [List.length_append] at h1;unfold scan at h1;omega
    clear hbe hpre;cases hr:rf fourOf s k with
    | none=>
      have hrd:rdAt s k=(zeroFr,0,false):=(by rw [rdAt,hr]);rw [hrd] at y ⊢;have HQ:=hid (qB (g:=g) hr);clear hr hrd;gi_wp2;refine⟨fun _ h=>(by cases h),?_⟩;gi_wp2;go_end0
      have e0:=HPRE.out;rw [HQ.out,List.append_nil] at e0;exact⟨⟨_,rfl⟩,Bf,pre,hk1,e0,j⟩
    | some x=>
      obtain⟨f,e⟩:=x;have hrd:rdAt s k=(f,e,true):=(by rw [rdAt,hr]);rw [hrd] at y ⊢;obtain⟨hok,hke,hes,_⟩:=yp hr hk;obtain⟨c0,c1,c2,f0,f1,f2⟩:=y.three;simp only at c0 c1 c2;obtain⟨⟨ct,cg,_⟩,_⟩:=HKn.out _ _ _ j;by_cases hg:f.gen=g
      · have HQ:=hid (qL hk hr hg)
        have hgq:(f.gen==g)=true:=(by simp [hg]);have HG:=hid hg;obtain⟨fn,tmps,assign,body,hy,hR⟩:=HY.out Bf pre (f,e) wr hk1 y.lt j hlen;unfold frEncs Fr.v at hy;simp only at hy;clear hr hrd hg;gi_wp2;refine hR.mono ?_;rintro e' W3 ⟨rfl,j3,z3,b3⟩;obtain⟨⟨ct3,cg3,ht3⟩,m3⟩:=HKn.out _ _ _ j3;have y3:Box W3 Bf #[.int .i64 f.gen,.int .i64 f.seq,.string f.body] 107:=b3.trans y;have hT:=hid (za2 s e hes);clear c0 c1 c2 f0 f1 f2 hy ct cg b3 y hR;gi_wp2_with (refine⟨trivial,?_⟩;gi_at_call 142;refine(callsIn_wide.2 (zU s (e:Nat) _ (by omega) ht3)).mono ?_;rintro e'' w4 ⟨rfl,k4⟩;rw [hT.out];unfold Fr.v;obtain⟨c0,c1,c2,f0,f1,f2⟩:=(y3.later k4).three);have y4:=(y3.later k4).set3 (.int .i64 (rdAt s e).1.gen) (.int .i64 (rdAt s e).1.seq) (.string (rdAt s e).1.body);have g4:W3.grownBy (set3 w4 Bf (.int .i64 (rdAt s e).1.gen) (.int .i64 (rdAt s e).1.seq) (.string (rdAt s e).1.body)) (some Bf):=
          (((JM k4 (some Bf)).trans (za _ Bf 0 _)).trans (za _ Bf 1 _)).trans (za _ Bf 2 _)
        have j4:=HJ.out Bf (pre++ [(f,e)]) W3 _ (some Bf) hk1 j3 g4 (fun r e=>by cases e;rfl);unfold set3 at y4 j4;go_roundw
        case rel=>exact⟨pre++ [(f,e)],e,hes,Yf _ _ _,by rw [←HPRE.out,HQ.out];simp,rfl,rfl,y4,j4⟩
        case measure=>
          unfold rdAt;cases hr':rf fourOf s e with
          | none=>simp [intOf];omega
          | some x=>
            obtain⟨f',e'⟩:=x;obtain⟨_,h1,h2,_⟩:=yp hr' hes;simp [intOf];omega
      · have HQ:=hid (zcJ hr hg)
        have hgq:(f.gen==g)=false:=(by simp [hg]);clear hr hrd hg;gi_wp2;refine⟨fun _ h=>(by cases h),?_⟩;gi_wp2;go_end0
        have e0:=HPRE.out;rw [HQ.out,List.append_nil] at e0;exact⟨⟨_,rfl⟩,Bf,pre,hk1,e0,j⟩
theorem Q2(n:Nat)(s:ByteArray)(g:Int)(w:World):
    CallsIn Fence.wide n Tryz.prog 143 #[.string s,.int .i64 g] w fun e w'=>e=.returned (.func (.func 156) #[] #[.pointer (some ⟨w.heap.size,0,none⟩),.pointer (some ⟨w.heap.size+1,0,none⟩)])∧w'=(w.alloc (.cells #[.string s] 9)).alloc (.cells #[.int .i64 g] 3):=by
  refine callsIn_of_wp Tryz.func143 rfl trivial ?_ rfl;simp only [Tryz.ntmps143,List.size_toArray,List.length_cons,List.length_nil,Nat.reduceAdd,Nat.reduceSub,Array.replicate_succ,Array.replicate_zero,List.push_toArray,List.append_toArray,List.nil_append,List.cons_append];gi_wp2;go_ret;exact⟨by simp,rfl⟩
theorem vv(w:World)(n:Nat)(r:Option Nat):w.grownBy (w.drewN n) r:=⟨rfl,rfl,rfl,Nat.le_refl _,fun _ _ _=>rfl⟩
structure ScanI (s:ByteArray) (g:Int) (w:World) (B:Nat) (pre:List (Fr×Nat)) (X:World):Prop where
  bel:Below w.heap.size w X
  le:w.heap.size+5≤X.heap.size
  list:∃ v,Boxed X (w.heap.size+1) 114 v∧RBuf frE w.heap.size X X v (pre.map (·.1))∧v.ownBlock≠some B∧∀ k,v.ownBlock=some k→k=w.heap.size∨w.heap.size+7≤k
  fin:Boxed X (w.heap.size+1+1) 3 (.int .i64 (behind 0 pre:Int))
  str:Boxed X (w.heap.size+1+1+1) 9 (.string s)
  gen:Boxed X (w.heap.size+1+1+1+1) 3 (.int .i64 g)
theorem ScanI.grown{s:ByteArray}{g:Int}{w:World}{B:Nat}{pre:List (Fr×Nat)}{X Y:World}{row:Option Nat}(h:ScanI s g w B pre X)(hg:X.grownBy Y row)
    (hB:w.heap.size+7≤B) (hr:∀ r,row=some r→r=B∨r=w.heap.size+5∨r=w.heap.size+6):ScanI s g w B pre Y:=by
  have ne:∀ b,b < w.heap.size+5→some b≠row:=fun b hb e=>by have:=hr b e.symm;omega
  obtain⟨v,v1,v2,v3,v4⟩:=h.list;refine⟨h.bel.grown hg h.bel.size (fun k hk=>by have:=hr k hk;omega),Nat.le_trans h.le hg.size,⟨v,v1.kept hg (ne _ (by omega)),v2.shift hg ?_,v3,v4⟩,h.fin.kept hg (ne _ (by omega)),h.str.kept hg (ne _ (by omega)),h.gen.kept hg (ne _ (by omega))⟩;cases hv:v.ownBlock with
  | none=>exact .inl rfl
  | some k=>
    refine .inr (fun e=>?_);have h1:=hr k e.symm;have h2:=v4 k hv;have h3:k≠B:=fun e=>v3 (by rw [hv,e]);omega
theorem jg (s:ByteArray) (g:Int) (w:World) (hs:s.size≤1099511627776) (ht:SumTab w):
    Calls Tryz.prog 121 #[.string s,.int .i64 g] w fun e w'=>ScanR s g w e w':=by
  refine(callsIn_wide (n:=5)).1 ?_;refine callsIn_of_wp_marks Tryz.func121 rfl trivial ?_ rfl;simp only [Tryz.ntmps121,List.size_toArray,List.length_cons,List.length_nil,Nat.reduceAdd,Nat.reduceSub,Array.replicate_succ,Array.replicate_zero,List.push_toArray,List.append_toArray,List.nil_append,List.cons_append];gi_wp2_with (refine⟨trivial,?_⟩;gi_at_call 143;refine(Q2 _ _ _ _).mono ?_;rintro e w' ⟨rfl,rfl⟩);obtain⟨W0,hW0⟩:∃ W0,(((((w.alloc (.cells #[] 107)).alloc (.cells #[.slice (some ⟨w.heap.size,0,none⟩) 0 0] 114)).alloc (.cells #[.int .i64 0] 3)).alloc (.cells #[.string s] 9)).alloc (.cells #[.int .i64 g] 3))=W0:=⟨_,rfl⟩;have hsz:W0.heap.size=w.heap.size+5:=by rw [←hW0];simp
  have I0:∀ B,w.heap.size+7≤B→ScanI s g w B [] W0:=by
    intro B hB;have r0:RBuf frE w.heap.size w (w.alloc (.cells #[] 107)) (.slice (some ⟨w.heap.size,0,none⟩) 0 0) []:=RBuf.fresh frE w;have x1:=(((Boxed.new (w.alloc (.cells #[] 107)) 114 (.slice (some ⟨w.heap.size,0,none⟩) 0 0)).alloc (.cells #[.int .i64 0] 3)).alloc (.cells #[.string s] 9)).alloc (.cells #[.int .i64 g] 3);have x2:=((Boxed.new ((w.alloc (.cells #[] 107)).alloc (.cells #[.slice (some ⟨w.heap.size,0,none⟩) 0 0] 114)) 3 (.int .i64 0)).alloc (.cells #[.string s] 9)).alloc (.cells #[.int .i64 g] 3);have x3:=(Boxed.new (((w.alloc (.cells #[] 107)).alloc (.cells #[.slice (some ⟨w.heap.size,0,none⟩) 0 0] 114)).alloc (.cells #[.int .i64 0] 3)) 9 (.string s)).alloc (.cells #[.int .i64 g] 3);have x4:=Boxed.new ((((w.alloc (.cells #[] 107)).alloc (.cells #[.slice (some ⟨w.heap.size,0,none⟩) 0 0] 114)).alloc (.cells #[.int .i64 0] 3)).alloc (.cells #[.string s] 9)) 3 (.int .i64 g);have r1:=(((r0.alloc (.cells #[.slice (some ⟨w.heap.size,0,none⟩) 0 0] 114)).alloc (.cells #[.int .i64 0] 3)).alloc (.cells #[.string s] 9)).alloc (.cells #[.int .i64 g] 3);have hb:=r1.bel;rw [hW0] at x1 x2 x3 x4 hb;simp only [World.size_alloc] at x1 x2 x3 x4;refine⟨hb,by omega,⟨_,x1,?_,?_,?_⟩,x2,x3,x4⟩
    · have:=r1.here
      rw [←hW0];exact this
    · show some w.heap.size≠some B
      intro e;have:=Option.some.inj e;omega
    · intro k hk
      have:w.heap.size=k:=Option.some.inj hk;omega
  rw [hW0];clear hW0;have HT:Hid (∀ x,Below w.heap.size w x→SumTab x):=fun x hb=>ht.later hb;refine vE (by omega) (gf:=156) (lb:=#[.pointer (some ⟨w.heap.size+1+1+1,0,none⟩),.pointer (some ⟨w.heap.size+1+1+1+1,0,none⟩)]) rfl (enters_of Tryz.func156 (by kernel_rfl) rfl)
    (encs:=frEncs) (fun _=>rfl) (VF 4 (by omega) s g (w.heap.size+1+1+1) (w.heap.size+1+1+1+1) (W0.heap.size+2) hs)
    (fun B pre X=>ScanI s g w B pre X) ?hK ?hI ?h0
    (fun x a' W=>∃ Bx,w.heap.size+7≤Bx∧Box W Bx #[.int .i64 x.1.gen,.int .i64 x.1.seq,.string x.1.body] 107∧a'= {tmps:=#[.string s,.int .i64 g,undef,undef,.slice none 0 0,.int .i64 0,.pointer (some ⟨w.heap.size+1,0,none⟩),.pointer (some ⟨w.heap.size+1+1,0,none⟩),.pointer (some ⟨Bx,0,none⟩),.int .i64 (x.2:Int),.slice (some ⟨w.heap.size,0,none⟩) 0 0,.string s,.int .i64 g,.func (.func 156) #[] #[.pointer (some ⟨w.heap.size+1+1+1,0,none⟩),.pointer (some ⟨w.heap.size+1+1+1+1,0,none⟩)],.agg #[.int .i64 x.1.gen,.int .i64 x.1.seq,.string x.1.body],.int .i64 (x.2:Int),undef,undef,undef,undef,undef,undef,undef],defers:= []})
    ?assign ?body ?done
  case hK=>
    intro B pre X h;exact⟨h.str.cell,h.gen.cell,HT.out _ h.bel⟩
  case hI=>
    intro B pre X Y row hB h hg hr;exact h.grown hg (by omega) (fun r e=>by have:=hr r e;omega)
  case h0=>
    intro B hB;exact I0 B (by omega)
  case assign=>
    intro l x W K hW hK;unfold frEncs Fr.v;gi_wp2;exact hK _ _ (World.grownBy_alloc _ _ none) ⟨W.heap.size,by omega,Box.new W _ _,rfl⟩
  case body=>
    rintro l B pre x a' W hB hW hI hok W0' hg0 ⟨Bx,hBx,yx,rfl⟩;obtain⟨f,e⟩:=x;have yb:Box W Bx #[.int .i64 f.gen,.int .i64 f.seq,.string f.body] 107:=(hg0.block _ yx.lt (fun e=>by have:=Option.some.inj e;omega)).trans yx;obtain⟨v,v1,v2,v3,v4⟩:=hI.list;obtain⟨c0,c1,c2,_,_,_⟩:=yb.three;have cv:=v1.cell;have fv:=v1.frozen;have ce:=hI.fin.cell;have fe:=hI.fin.frozen;have hb3:=hid (v2.alloc (.cells #[.int .i64 f.gen,.int .i64 f.seq,.string f.body] 107));have hnew:Hid (∀ j u,(frE.row [f])[j]? =some u→(W.alloc (.cells #[.int .i64 f.gen,.int .i64 f.seq,.string f.body] 107)).cell? ((⟨W.heap.size,0,none⟩:Addr).add j)=some u):=XC frE W f;have hl0:Hid (((pre.map (·.1)).length+ [f].length) *(frE.bytes+1)≤140737488355328):=by show _≤_;simp only [frE,List.length_cons,List.length_nil,List.length_map];omega
    have HI:=hid hI;have HV:Hid (Boxed W (w.heap.size+1) 114 v∧v.ownBlock≠some B∧∀ k,v.ownBlock=some k→k=w.heap.size∨w.heap.size+7≤k):=⟨v1,v3,v4⟩;have hvw:∀ k,v.ownBlock=some k→k < W.heap.size:=fun k hk=>(v2.own.lt k hk).2;have HVW:=hid hvw;simp only;clear hI v1 v2 v3 v4 hvw yx hg0;gi_wp2_with (gi_at_builtin;refine YH rfl _ _ frE rfl w.heap.size _ (pre.map (·.1)) rfl hb3.out ⟨W.heap.size,0,none⟩ [f] 1 rfl ?c1 ?c2 ?_)
    case c1=>exact hnew.out
    case c2=>exact hl0.out
    intro v5' w5 hb5 hg5 hat5;obtain⟨p5,q5,rfl⟩:=hb5.form;obtain⟨L,hL⟩:∃ L,(pre.map (·.1) ++ [f]).length=L:=⟨_,rfl⟩;rw [hL] at hb5 hat5 ⊢;clear hL;generalize hv5:Value.slice p5 L q5=v5 at hb5 hat5;have sA:(W.alloc (.cells #[.int .i64 f.gen,.int .i64 f.seq,.string f.body] 107)).heap.size=W.heap.size+1:=by simp
    have s5:=hg5.size;obtain⟨v1,v3,v4⟩:=HV.out;have ne:∀ b,(b < w.heap.size+5∧b≠w.heap.size)∨b=w.heap.size+5∨b=w.heap.size+6∨b=B→some b≠v.ownBlock:=by
      intro b hb e;have h4:=v4 b e.symm;have h3:b≠B:=fun e2=>v3 (by rw [←e,e2]);omega
    have kp:∀ b (o:Obj),W.heap[b]? =some o→some b≠v.ownBlock→w5.heap[b]? =some o:=fun b o ho hne=>
      (hg5.block b (by have:=(Array.getElem?_eq_some_iff.1 ho).1;omega) hne).trans (Jw ho _)
    have q1:Boxed w5 (w.heap.size+1) 114 v:=kp _ _ v1 (ne _ (by omega));have q2:Boxed w5 (w.heap.size+1+1) 3 (.int .i64 (behind 0 pre:Int)):=kp _ _ HI.out.fin (ne _ (by omega));have q3:Boxed w5 (w.heap.size+1+1+1) 9 (.string s):=kp _ _ HI.out.str (ne _ (by omega));have q4:Boxed w5 (w.heap.size+1+1+1+1) 3 (.int .i64 g):=kp _ _ HI.out.gen (ne _ (by omega));have bl5:Below w.heap.size w w5:=(HI.out.bel.alloc HI.out.bel.size _).grown hg5 (by have:=HI.out.bel.size;omega) (fun k hk=>by have:=v4 k hk;omega);have own5:v5.ownBlock≠some B∧∀ k,v5.ownBlock=some k→k=w.heap.size∨w.heap.size+7≤k:=by
      rcases hat5 with e | e
      · rw [e];exact⟨v3,v4⟩
      · rw [e]
        refine⟨fun e2=>?_,fun k hk=>?_⟩
        · have:=Option.some.inj e2;omega
        · have:=Option.some.inj hk;omega
    have ZC:∀ b,b≠w.heap.size+1→b≠w.heap.size+1+1→((w5.setCell ⟨w.heap.size+1,0,none⟩ v5).setCell ⟨w.heap.size+1+1,0,none⟩ (.int .i64 (e:Int))).heap[b]? =w5.heap[b]? :=by
      intro b h1 h2;rw [Below.heap_setCell _ _ _ _ (fun e=>h2 e),Below.heap_setCell _ _ _ _ (fun e=>h1 e)]
    have z1:=q1.cell;have z2:=q2.cell;have y1:=q1.frozen;have y2:=q2.frozen;have RO:Hid (∀ ac:Act,RoundOk W0.heap.size B (fun W'=>ScanI s g w B (pre++ [(f,e)]) W') W .normal ac ((w5.setCell ⟨w.heap.size+1,0,none⟩ v5).setCell ⟨w.heap.size+1+1,0,none⟩ (.int .i64 (e:Int)))):=by
      intro ac;refine⟨⟨?_,?_,⟨v5,(q1.set v5).other (by omega) _,?_,own5⟩,?_,?_,?_⟩,?_,?_,?_,?_⟩
      · exact(bl5.setCell (p:=⟨w.heap.size+1,0,none⟩) (by simp) _).setCell (p:=⟨w.heap.size+1+1,0,none⟩) (by simp;omega) _
      · have:=HI.out.le;simp;omega
      · rw [List.map_append]
        have n1:v5.ownBlock=none∨v5.ownBlock≠some (w.heap.size+1):=by
          cases hv:v5.ownBlock with
          | none=>exact .inl rfl
          | some k=>exact .inr (fun e=>by have:=own5.2 k hv;have:=Option.some.inj e;omega)
        have n2:v5.ownBlock=none∨v5.ownBlock≠some (w.heap.size+1+1):=by
          cases hv:v5.ownBlock with
          | none=>exact .inl rfl
          | some k=>exact .inr (fun e=>by have:=own5.2 k hv;have:=Option.some.inj e;omega)
        exact(hb5.here.shift (za _ _ 0 _) n1).shift (za _ _ 0 _) n2
      · rw [Yf];exact(q2.other (by omega) _).set _
      · exact(q3.other (by omega) _).other (by omega) _
      · exact(q4.other (by omega) _).other (by omega) _
      · simp;omega
      · have hl:W0.heap.size < W.heap.size:=by omega
        rw [ZC _ (by omega) (by omega),hg5.block _ (by omega) (ne _ (by omega)),Below.heap_alloc _ _ _ hl]
      · have hl:W0.heap.size+1 < W.heap.size:=by omega
        rw [ZC _ (by omega) (by omega),hg5.block _ (by omega) (ne _ (by omega)),Below.heap_alloc _ _ _ hl]
      · rw [ZC _ (by omega) (by omega),hg5.block _ (by omega) (ne _ (by omega)),Below.heap_alloc _ _ _ hW]
    clear HI HV HVW hb3 hnew hl0 c0 c1 c2 cv fv ce fe kp ne own5 ZC q1 q2 q3 q4 hb5 hg5 hat5 v1 v3 v4 bl5;subst hv5;gi_wp2;exact RO.out _
  case done=>
    rintro D B xs W rfl hB rfl h hD;obtain⟨v,v1,v2,v3,v4⟩:=h.list;have cv:=v1.cell;have ce:=h.fin.cell;have HV:=hid v2;have HB:=hid h.bel;have HD:=hid hD;have HO:=hid v4;clear v1 v2 v3 v4 h hD I0 HT ht;gi_wp2;gi_quiet (fail);gi_wp2;have HD2:(W.drewN nq).heap[W0.heap.size]? =some (.deferred (some [])):=HD.out;have gP:=grownBy_putObj' (W.drewN nq) W0.heap.size (.deferred none);have gD:=vv W nq (some W0.heap.size);refine⟨by simp,.inl ⟨_,_,rfl,run_takeDeferred HD2,?_⟩⟩;refine⟨.tuple #[v,.int .i64 (behind 0 (scan s g):Int)],by simp [results,Tryz.results121],v,rfl,?_⟩;have nD:v.ownBlock=none∨v.ownBlock≠some W0.heap.size:=by
      cases hv:v.ownBlock with
      | none=>exact .inl rfl
      | some k=>exact .inr (fun e=>by have:=HO.out k hv;have:=Option.some.inj e;omega)
    have hl:=hsz;refine((HV.out.shift gD nD).shift gP nD).down ?_ (Nat.le_refl _);exact(HB.out.grown gD HB.out.size (fun k hk=>by have:=Option.some.inj hk;omega)).grown gP (Nat.le_trans HB.out.size gD.size) (fun k hk=>by have:=Option.some.inj hk;omega)

/- Segments: whether one is in use, and its frames: SegGen, the model's and the program's. -/
def segB:ByteArray:=⟨#[115,101,103]⟩
def sgG (t:ByteArray):Int:=match rf fourOf t 0 with
  | some (f,_)=>if f.body=segB then f.gen else 0
  | none=>0
theorem jF{t:ByteArray}(h:rf fourOf t 0=none):sgG t=0:=by unfold sgG;rw [h]
theorem jT{t:ByteArray}{f:Fr}{e:Nat}(h:rf fourOf t 0=some (f,e))(hb:f.body=segB):sgG t=f.gen:=by unfold sgG;rw [h];exact if_pos hb
theorem Qd{t:ByteArray}{f:Fr}{e:Nat}(h:rf fourOf t 0=some (f,e))(hb:¬f.body=segB):sgG t=0:=by unfold sgG;rw [h];exact if_neg hb
theorem qd{t:ByteArray}(h:¬sgG t=0):∃(f:Fr) (l:List Fr),scanL t (sgG t)=f::l:=by
  cases hr:rf fourOf t 0 with
  | none=>exact absurd (jF hr) h
  | some x=>
    obtain⟨f,e⟩:=x;by_cases hb:f.body=segB
    · have hg:=jT hr hb
      have:=qL (Nat.zero_le _) hr hg.symm;refine⟨f,(sq fourOf t (sgG t) e).map (·.1),?_⟩;unfold scanL scan;rw [this];rfl
    · exact absurd (Qd hr hb) h
theorem zas:segB.toList= [115,101,103]:=by rw [Go.ByteArray.toList_eq];rfl
theorem J4(b:ByteArray):(b.toList== [115,101,103])=decide (b=segB):=by rw [←zas];exact YB b segB
theorem jZ(t:ByteArray)(w:World)(hs:t.size≤1099511627776)(htab:SumTab w):
    Calls Tryz.prog 120 #[.string t] w fun e w'=>e=.returned (.int .i64 (sgG t))∧Below w.heap.size w w':=by
  cases hr:rf fourOf t 0 with
  | none=>
    have HR:=hid (Za ((ZR (Nat.zero_le t.size)).trans hr));rw [jF hr];clear hr;go_enter Tryz.func120,Tryz.ntmps120
    go_wp2_with (go_at_call 142;refine(zU t (0:Nat) _ hs htab).mono ?_;rintro e w1 ⟨rfl,k1⟩;rw [HR.out];unfold zeroFr Fr.v)
    go_ret;exact⟨rfl,k1.alloc k1.size _⟩
  | some x=>
    obtain⟨f,e⟩:=x;have HR:=hid (yA ((ZR (Nat.zero_le t.size)).trans hr));by_cases hb:f.body=segB
    · rw [jT hr hb]
      have e1:(f.body.toList== [115,101,103])=true:=(by rw [J4];exact decide_eq_true hb);clear hr hb;go_enter Tryz.func120,Tryz.ntmps120
      go_wp2_with (go_at_call 142;refine(zU t (0:Nat) _ hs htab).mono ?_;rintro e w1 ⟨rfl,k1⟩;rw [HR.out];unfold Fr.v)
      go_ret;exact⟨rfl,k1.alloc k1.size _⟩
    · rw [Qd hr hb]
      have e1:(f.body.toList== [115,101,103])=false:=(by rw [J4];exact decide_eq_false hb);clear hr hb;go_enter Tryz.func120,Tryz.ntmps120
      go_wp2_with (go_at_call 142;refine(zU t (0:Nat) _ hs htab).mono ?_;rintro e w1 ⟨rfl,k1⟩;rw [HR.out];unfold Fr.v)
      go_ret;exact⟨rfl,k1.alloc k1.size _⟩
theorem Vi(d:Dk)(v:Value)(s:Int)(w:World)(h:DRd w v d)(hs:d.small)(ht:∀ s∈d.sec,s.size≤137438953472)(hu:∀ x∈d.cache,x.text.size≤137438953472)(htab:SumTab w):
    Calls Tryz.prog 92 #[v,.int .i64 s] w fun e w'=>e=.returned (.int .i64 (sgG (sgT d s)))∧Below w.heap.size w w':=by
  obtain⟨aa,ab,ca,cb,rfl,_,_⟩:=h.form;have hx:=Box.new w #[.slice aa d.sec.length ca,.slice ab d.cache.length cb] 27;have b0:Below w.heap.size w (w.alloc (.cells #[.slice aa d.sec.length ca,.slice ab d.cache.length cb] 27)):=(Below.refl _ _).alloc (Nat.le_refl _) _;have h':=h.later b0;have c0:=hx.cell 0 (.slice aa d.sec.length ca) rfl;have c1:=hx.cell 1 (.slice ab d.cache.length cb) rfl;have hz:=Z6 ht hu s;have HT:Hid (∀ x,Below w.heap.size w x→SumTab x):=fun x hb=>htab.later hb;have HM:Hid ((∀ s∈d.sec,s.size≤1099511627776)∧∀ x∈d.cache,x.text.size≤1099511627776):=⟨fun s hs=>by have:=ht s hs;omega,fun x hx=>by have:=hu x hx;omega⟩;clear h htab ht hu;go_enter Tryz.func92,Tryz.ntmps92
  go_wp2_with (first
    |(go_at_call 119;refine(ZW d _ s _ h' hs HM.out.1 HM.out.2).mono ?_;rintro e w1 ⟨rfl,k1⟩)
    |(go_at_call 120;refine(jZ _ _ (by omega) (HT.out _ (b0.trans (k1.mono b0.size)))).mono ?_;rintro e w2 ⟨rfl,k2⟩))
  go_ret;have b1:=b0.trans (k1.mono b0.size);exact⟨rfl,b1.trans (k2.mono b1.size)⟩
theorem yh (d:Dk) (v:Value) (s:Int) (w:World) (h:DRd w v d) (hs:d.small) (ht:∀ s∈d.sec,s.size≤137438953472) (hu:∀ x∈d.cache,x.text.size≤137438953472):
    Calls Tryz.prog 81 #[v,.int .i64 s] w fun e w'=>e=.returned (.int .i64 (sgG (sgT d s)))∧Below w.heap.size w w':=by
  obtain⟨aa,ab,ca,cb,rfl,_,_⟩:=h.form;have hx:=Box.new w #[.slice aa d.sec.length ca,.slice ab d.cache.length cb] 27;have b0:Below w.heap.size w (w.alloc (.cells #[.slice aa d.sec.length ca,.slice ab d.cache.length cb] 27)):=(Below.refl _ _).alloc (Nat.le_refl _) _;have h':=h.later b0;have c0:=hx.cell 0 (.slice aa d.sec.length ca) rfl;have c1:=hx.cell 1 (.slice ab d.cache.length cb) rfl;have hz:=Z6 ht hu s;have HM:Hid ((∀ s∈d.sec,s.size≤1099511627776)∧∀ x∈d.cache,x.text.size≤1099511627776):=⟨fun s hs=>by have:=ht s hs;omega,fun x hx=>by have:=hu x hx;omega⟩;clear h ht hu;have FIN:Hid (∀ x y,Below (w.alloc (.cells #[.slice aa d.sec.length ca,.slice ab d.cache.length cb] 27)).heap.size (w.alloc (.cells #[.slice aa d.sec.length ca,.slice ab d.cache.length cb] 27)) x→Below x.heap.size x y→∀ o,Below w.heap.size w (y.alloc o)):=by
    intro x y k1 k2 o;have b1:=b0.trans (k1.mono b0.size);have b2:=b1.trans (k2.mono b1.size);exact b2.alloc b2.size _
  obtain⟨t,ht0⟩:∃ t,sgT d s=t:=⟨_,rfl⟩;have HTT:=hid ht0;rw [ht0] at hz ⊢;clear ht0;cases hr:rf fourOf t 0 with
  | none=>
    have HR:=hid (Za ((ZR (Nat.zero_le t.size)).trans hr));rw [jF hr];clear hr;go_enter Tryz.func81,Tryz.ntmps81
    go_wp2_with (first
      |(go_at_call 112;refine(Zv d _ s _ h' hs HM.out.1 HM.out.2).mono ?_;rintro e w1 ⟨rfl,k1⟩;rw [HTT.out])
      |(go_at_call 113;refine(Zi t (0:Nat) _ (by omega)).mono ?_;rintro e w2 ⟨rfl,k2⟩;rw [HR.out];unfold zeroFr Fr.v))
    go_ret;exact⟨rfl,FIN.out _ _ k1 k2 _⟩
  | some x=>
    obtain⟨f,e⟩:=x;have HR:=hid (yA ((ZR (Nat.zero_le t.size)).trans hr));by_cases hb:f.body=segB
    · rw [jT hr hb]
      have e1:(f.body.toList== [115,101,103])=true:=(by rw [J4];exact decide_eq_true hb);clear hr hb;go_enter Tryz.func81,Tryz.ntmps81
      go_wp2_with (first
        |(go_at_call 112;refine(Zv d _ s _ h' hs HM.out.1 HM.out.2).mono ?_;rintro e w1 ⟨rfl,k1⟩;rw [HTT.out])
        |(go_at_call 113;refine(Zi t (0:Nat) _ (by omega)).mono ?_;rintro e w2 ⟨rfl,k2⟩;rw [HR.out];unfold Fr.v))
      go_ret;exact⟨rfl,FIN.out _ _ k1 k2 _⟩
    · rw [Qd hr hb]
      have e1:(f.body.toList== [115,101,103])=false:=(by rw [J4];exact decide_eq_false hb);clear hr hb;go_enter Tryz.func81,Tryz.ntmps81
      go_wp2_with (first
        |(go_at_call 112;refine(Zv d _ s _ h' hs HM.out.1 HM.out.2).mono ?_;rintro e w1 ⟨rfl,k1⟩;rw [HTT.out])
        |(go_at_call 113;refine(Zi t (0:Nat) _ (by omega)).mono ?_;rintro e w2 ⟨rfl,k2⟩;rw [HR.out];unfold Fr.v))
      go_ret;exact⟨rfl,FIN.out _ _ k1 k2 _⟩

/- Segments: their frames: SegFrames, the model's and the program's; the program's list stands behind the first frame, in a row of the call's own. -/
def sfL (t:ByteArray):List Fr:=if sgG t=0 then [] else(scanL t (sgG t)).drop 1
def sfE (t:ByteArray):Nat:=if sgG t=0 then 0 else scanE t (sgG t)
theorem xN(t:ByteArray):(sfL t).length≤t.size:=by
  unfold sfL
  split
  · exact Nat.zero_le _
  · rw [List.length_drop];have:=xi t (sgG t);omega
def Tail (B:Nat) (w0 w:World) (v:Value) (l:List Fr):Prop:=
  ∃(g off cap c0:Nat) (pre:List Fr),v=.slice (some ⟨g,off,none⟩) l.length cap∧l.length≤cap∧(l≠ []→off=pre.length * 3)∧RBuf frE B w0 w (.slice (some ⟨g,0,none⟩) (pre++l).length c0) (pre++l)
theorem Tail.bel{B:Nat}{w0 w:World}{v:Value}{l:List Fr}(h:Tail B w0 w v l):Below B w0 w:=by
  obtain⟨g,off,cap,c0,pre,h1,h2,h3,h4⟩:=h;exact h4.bel
theorem Tail.rows{B:Nat}{w0 w:World}{v:Value}{l:List Fr}(h:Tail B w0 w v l):Rows' frE w v l:=by
  obtain⟨g,off,cap,c0,pre,rfl,h2,h3,h4⟩:=h;by_cases hl:l= []
  · subst hl;exact .inl ⟨rfl,_,_,rfl⟩
  · refine .inr ⟨g,off,cap,rfl,h2,(h4.own.lt g rfl).2,fun j x hj k u hk=>?_⟩
    have hj2:(pre++l)[pre.length+j]? =some x:=by rw [List.getElem?_append_right (by omega)];simpa using hj
    have:=h4.cell rfl _ _ hj2 k u hk;rw [h3 hl];rw [Nat.add_mul,Nat.add_assoc] at this;rw [Nat.add_assoc];exact this
theorem Tail.of_row{B:Nat}{w0 w:World}{f:Fr}{l:List Fr}{g c:Nat}(h:RBuf frE B w0 w (.slice (some ⟨g,0,none⟩) (f::l).length c) (f::l))(hc:(f::l).length≤c):Tail B w0 w (.slice (some ⟨g,if c=1 then 0 else 3,none⟩) l.length (c - 1)) l:=by
  refine⟨g,_,_,c,[f],rfl,by simp at hc;omega,fun hl=>?_,h⟩;have:0 < l.length:=List.length_pos_iff.2 hl;simp at hc;rw [if_neg (by omega)];rfl
theorem Tail.of_fresh{B:Nat}{w0 w:World}{g:Nat}(h:RBuf frE B w0 w (.slice (some ⟨g,0,none⟩) 0 0) []):Tail B w0 w (.slice (some ⟨g,0,none⟩) 0 0) []:=
  ⟨g,0,0,0,[],rfl,by simp,fun h=>absurd rfl h,h⟩
theorem RBuf.cons_form{B:Nat}{w0 w:World}{v:Value}{f:Fr}{l:List Fr}(h:RBuf frE B w0 w v (f::l)):∃ g c:Nat,v=.slice (some ⟨g,0,none⟩) (f::l).length c∧(f::l).length≤c:=by
  rcases h.own.2 with⟨_,h0⟩ |⟨g,cap,cur,hv,_,_,hnc,_⟩
  · cases h0
  · exact⟨g,cap,hv,hnc⟩
theorem Rows'.rowAt{α:Type}{E:Enc α}{w:World}{g off c:Nat}{l:List α}(h:Rows' E w (.slice (some ⟨g,off,none⟩) l.length c) l)(j:Nat)(u:Value)(hj:(E.row l)[j]? =some u):w.cell? ⟨g,off+j,none⟩=some u:=by
  have hjl:j < l.length * E.sz:=by rw [←E.row_length];exact(List.getElem?_eq_some_iff.1 hj).1
  rcases h with⟨rfl,_⟩ |⟨g',off',cap,hv,hc,hg,hcl⟩
  · simp at hjl
  · simp only [Value.slice.injEq,Option.some.injEq,Addr.mk.injEq,and_true,true_and] at hv
    obtain⟨⟨rfl,rfl⟩,rfl⟩:=hv;have hdm:j / E.sz * E.sz+j % E.sz=j:=Nat.div_add_mod' j E.sz;have hq:j / E.sz < l.length:=(Nat.div_lt_iff_lt_mul E.pos).2 hjl;have hk:j % E.sz < E.sz:=Nat.mod_lt _ E.pos;have h1:=List.getElem?_eq_getElem hq;have h2:=E.row_at l _ _ h1 _ hk;rw [hdm,hj] at h2;have:=hcl _ _ h1 _ _ h2.symm;rw [Nat.add_assoc,hdm] at this;exact this
def SfR (t:ByteArray) (w:World) (e:Ending) (w':World):Prop:=∃ v,e=.returned (.tuple #[v,.int .i64 (sfE t:Int)])∧RBuf frE w.heap.size w w' v (sfL t)
def SfT (t:ByteArray) (w:World) (e:Ending) (w':World):Prop:=∃ v,e=.returned (.tuple #[v,.int .i64 (sfE t:Int)])∧Tail w.heap.size w w' v (sfL t)
theorem jO (d:Dk) (v:Value) (s:Int) (w:World) (h:DRd w v d) (hs:d.small) (ht:∀ s∈d.sec,s.size≤137438953472) (hu:∀ x∈d.cache,x.text.size≤137438953472) (htab:SumTab w):
    Calls Tryz.prog 91 #[v,.int .i64 s] w fun e w'=>SfT (sgT d s) w e w':=by
  obtain⟨aa,ab,ca,cb,rfl,_,_⟩:=h.form;have hx:=Box.new w #[.slice aa d.sec.length ca,.slice ab d.cache.length cb] 27;have b0:Below w.heap.size w (w.alloc (.cells #[.slice aa d.sec.length ca,.slice ab d.cache.length cb] 27)):=(Below.refl _ _).alloc (Nat.le_refl _) _;have h':=h.later b0;have c0:=hx.cell 0 (.slice aa d.sec.length ca) rfl;have c1:=hx.cell 1 (.slice ab d.cache.length cb) rfl;have hz:=Z6 ht hu s;have HT:Hid (∀ x,Below w.heap.size w x→SumTab x):=fun x hb=>htab.later hb;have HM:Hid ((∀ s∈d.sec,s.size≤1099511627776)∧∀ x∈d.cache,x.text.size≤1099511627776):=⟨fun s hs=>by have:=ht s hs;omega,fun x hx=>by have:=hu x hx;omega⟩;clear h htab ht hu;obtain⟨t,ht0⟩:∃ t,sgT d s=t:=⟨_,rfl⟩;have HTT:=hid ht0;rw [ht0] at hz ⊢;clear ht0;by_cases hg:sgG t=0
  · have HG:=hid hg
    have E1:Hid (sfL t= []∧sfE t=0):=⟨if_pos hg,if_pos hg⟩;go_enter Tryz.func91,Tryz.ntmps91
    go_wp2_with (first
      |(go_at_call 119;refine(ZW d _ s _ h' hs HM.out.1 HM.out.2).mono ?_;rintro e w1 ⟨rfl,k1⟩;rw [HTT.out])
      |(go_at_call 120;refine(jZ t _ (by omega) (HT.out _ (b0.trans (k1.mono b0.size)))).mono ?_;rintro e w2 ⟨rfl,k2⟩;rw [HG.out]))
    go_ret2
    have b1:=b0.trans (k1.mono b0.size);have b2:=b1.trans (k2.mono b1.size);have hf:=(RBuf.fresh frE w2).down (b2.alloc b2.size _) b2.size;exact⟨_,by rw [E1.out.2];rfl,by rw [E1.out.1];exact Tail.of_fresh hf⟩
  · obtain ⟨f,l,hfl⟩:=qd hg
    obtain⟨gn,hgn⟩:∃ gn,sgG t=gn:=⟨_,rfl⟩;obtain⟨en,hen⟩:∃ en,scanE t gn=en:=⟨_,rfl⟩;rw [hgn] at hfl hg;have E1:Hid (sfL t=l∧sfE t=en):=by
      unfold sfL sfE;rw [hgn,if_neg hg,if_neg hg,hfl,hen];exact⟨rfl,rfl⟩
    have HG:=hid hgn;have HL:=hid hfl;have HE:=hid hen;clear hgn hfl hen;go_enter Tryz.func91,Tryz.ntmps91
    go_wp2_with (first
      |(go_at_call 119;refine(ZW d _ s _ h' hs HM.out.1 HM.out.2).mono ?_;rintro e w1 ⟨rfl,k1⟩;rw [HTT.out])
      |(go_at_call 120;refine(jZ t _ (by omega) (HT.out _ (b0.trans (k1.mono b0.size)))).mono ?_;rintro e w2 ⟨rfl,k2⟩;rw [HG.out])
      |(go_at_call 121;refine(jg t gn _ (by omega) (HT.out _ ((b0.trans (k1.mono b0.size)).trans (k2.mono (b0.trans (k1.mono b0.size)).size)))).mono ?_;rintro e w3 ⟨v3,rfl,r3⟩;rw [HL.out] at r3;rw [HE.out];obtain⟨g,c,rfl,hc⟩:=r3.cons_form;rw [List.length_cons]))
    all_goals
      go_ret2
      have b1:=b0.trans (k1.mono b0.size)
      have b2:=b1.trans (k2.mono b1.size)
      have r4:=r3.down (b2.trans (r3.bel.mono b2.size)) b2.size
      refine⟨_,by rw [E1.out.2];rfl,?_⟩
      rw [E1.out.1]
      have t4:=Tail.of_row r4 hc
      first
        | (have hc1:c=1:=by omega
           subst hc1
           rw [if_pos rfl] at t4
           exact t4)
        |(rw [if_neg (by omega)] at t4;exact t4)
theorem jR (d:Dk) (v:Value) (s:Int) (w:World) (h:DRd w v d) (hs:d.small) (ht:∀ s∈d.sec,s.size≤137438953472) (hu:∀ x∈d.cache,x.text.size≤137438953472):
    Calls Tryz.prog 80 #[v,.int .i64 s] w fun e w'=>SfR (sgT d s) w e w':=by
  obtain⟨aa,ab,ca,cb,rfl,_,_⟩:=h.form;have hx:=Box.new w #[.slice aa d.sec.length ca,.slice ab d.cache.length cb] 27;have b0:Below w.heap.size w (w.alloc (.cells #[.slice aa d.sec.length ca,.slice ab d.cache.length cb] 27)):=(Below.refl _ _).alloc (Nat.le_refl _) _;have hz:=Z6 ht hu s;have h':=h.later b0;have HM:Hid ((∀ s∈d.sec,s.size≤1099511627776)∧∀ x∈d.cache,x.text.size≤1099511627776):=⟨fun s hs=>by have:=ht s hs;omega,fun x hx=>by have:=hu x hx;omega⟩;have HM2:=hid (And.intro ht hu);clear h ht hu;obtain⟨t,ht0⟩:∃ t,sgT d s=t:=⟨_,rfl⟩;have HTT:=hid ht0;rw [ht0] at hz ⊢;clear ht0;have c0:=hx.cell 0 (.slice aa d.sec.length ca) rfl;have c1:=hx.cell 1 (.slice ab d.cache.length cb) rfl;by_cases hg:sgG t=0
  · have HG:=hid hg
    have E1:Hid (sfL t= []∧sfE t=0):=⟨if_pos hg,if_pos hg⟩;go_enter Tryz.func80,Tryz.ntmps80
    go_wp2_with (go_at_call 81;refine(yh d _ s _ h' hs HM2.out.1 HM2.out.2).mono ?_;rintro e w1 ⟨rfl,k1⟩;rw [HTT.out,HG.out])
    go_ret2
    have b1:=b0.trans (k1.mono b0.size);have hf:=(RBuf.fresh frE w1).down (b1.alloc b1.size _) b1.size;exact⟨_,by rw [E1.out.2];rfl,by rw [E1.out.1];exact hf⟩
  · obtain⟨f,l,hfl⟩:=qd hg
    have hll:=xi t (sgG t);obtain⟨gn,hgn⟩:∃ gn,sgG t=gn:=⟨_,rfl⟩;obtain⟨en,hen⟩:∃ en,scanE t gn=en:=⟨_,rfl⟩;rw [hgn] at hfl hg hll;rw [hfl] at hll;have E1:Hid (sfL t=l∧sfE t=en):=by
      unfold sfL sfE;rw [hgn,if_neg hg,if_neg hg,hfl,hen];exact⟨rfl,rfl⟩
    have HG:=hid hgn;have HL:=hid hfl;have HE:=hid hen;clear hgn hfl hen;have hl0:Hid (([]:List Fr).length+l.length≤1099511627776):=by simp at hll ⊢;show _≤_;omega
    clear hll;go_enter Tryz.func80,Tryz.ntmps80
    go_upto_region 5 with(first
      |(go_at_call 81;refine(yh d _ s _ h' hs HM2.out.1 HM2.out.2).mono ?_;rintro e w1 ⟨rfl,k1⟩;rw [HTT.out,HG.out];clear c0 c1;have c0:=(hx.later k1).cell 0 (.slice aa d.sec.length ca) rfl;have c1:=(hx.later k1).cell 1 (.slice ab d.cache.length cb) rfl)
      |(go_at_call 112;refine(Zv d _ s _ (h'.later k1) hs HM.out.1 HM.out.2).mono ?_;rintro e w2 ⟨rfl,k2⟩;rw [HTT.out])
      |(go_at_call 111;refine(jf t gn _ (by omega)).mono ?_;rintro e w3 ⟨v3,rfl,r3⟩;rw [HL.out] at r3;rw [HE.out];obtain⟨g,c,rfl,hc⟩:=r3.cons_form;rw [List.length_cons]))
    have b1:=b0.trans (k1.mono b0.size);have b2:=b1.trans (k2.mono b1.size);have b3:=hid (b2.trans (r3.bel.mono b2.size));have HF3:=hid (RBuf.fresh frE w3);have HTL:=hid (Tail.of_row r3 hc);have HLT:Hid (g < w3.heap.size):=(r3.own.lt g rfl).2;have HLL:Hid ((([]:List Fr).length+l.length) *(frE.bytes+1)≤140737488355328):=by
      have:=hl0.out;simp only [List.length_nil,Nat.zero_add] at this;show _≤_
      simp only [List.length_nil,Nat.zero_add,frE];omega
    clear r3 b1 b2 c0 c1 hl0;by_cases hc1:c=1
    · subst hc1
      obtain rfl:l= []:=List.length_eq_zero_iff.1 (by have:=hc;rw [List.length_cons] at this;omega);go_wp2_with (at_builtin;refine ZE rfl _ _ frE rfl w3.heap.size _ ([]:List Fr) rfl HF3.out ⟨g,0,none⟩ [] 0 rfl ?c1 ?c2 ?_)
      case c1=>intro j u hj;cases hj
      intro v4 w4 hb4 _ _;go_wp2;go_ret2
      exact⟨_,by rw [E1.out.2];rfl,by rw [E1.out.1];exact hb4.down (b3.out.trans (hb4.bel.mono b3.out.size)) b3.out.size⟩
    · go_wp2_with (at_builtin;refine ZE rfl _ _ frE rfl w3.heap.size _ ([]:List Fr) rfl HF3.out ⟨g,3,none⟩ l (c - 1) rfl ?d1 ?d2 ?_)
      case d1=>
        intro j u hj;have hr:=HTL.out.rows;rw [if_neg hc1] at hr;rw [Addr.add_lit,World.cell?_alloc_lt _ _ _ HLT.out];exact hr.rowAt j u hj
      case d2=>exact HLL.out
      intro v4 w4 hb4 _ _;go_wp2;go_ret2
      exact⟨_,by rw [E1.out.2];rfl,by rw [E1.out.1];exact hb4.down (b3.out.trans (hb4.bel.mono b3.out.size)) b3.out.size⟩

/- Plain facts on records: what is right, their texts, and that they come back from them. -/
structure Rc where
  kind:Int
  valid:Int
  uid:Int
  next:Int
  flags:Int
  user:ByteArray
  name:ByteArray
  text:ByteArray
def wdOk (s:ByteArray):Prop:=(1≤s.size∧s.size≤8)∧∀ b∈s.data.toList,97≤b.toNat∧b.toNat≤122
instance decWdOk (s : ByteArray) : Decidable (wdOk s) := by unfold wdOk; infer_instance
def emp:ByteArray:=⟨#[]⟩
def Rc.ok (r:Rc):Prop:=(1≤r.kind∧r.kind≤5)∧(1≤r.valid∧r.valid≤9999)∧
  (if r.kind=1 then wdOk r.user∧wdOk r.name∧1≤r.next∧r.next≤10000 else r.user=emp∧r.name=emp∧r.next=0)∧
  (if 3≤r.kind then 1≤r.uid∧r.uid≤9999 else r.uid=0)∧
  (if r.kind=3∨r.kind=4 then 0≤r.flags∧r.flags≤7 else r.flags=0)∧
  (if r.kind=3 then r.text.size≤100 else r.text=emp)
instance decRcOk (r : Rc) : Decidable r.ok := by unfold Rc.ok; infer_instance
def Rc.tl (r:Rc):List UInt8:=UInt8.ofNat r.kind.toNat::(vt r.valid.toNat++(vt r.uid.toNat++(vt r.next.toNat++(vt r.flags.toNat++((vt r.user.size++r.user.data.toList) ++((vt r.name.size++r.name.data.toList) ++(vt r.text.size++r.text.data.toList)))))))
def Rc.tx (r:Rc):ByteArray:=⟨r.tl.toArray⟩
theorem Rc.tx_list(r:Rc):r.tx.data.toList=r.tl:=by simp [Rc.tx]
theorem Rc.ok_small{r:Rc}(h:r.ok):(1≤r.kind∧r.kind≤5)∧(0≤r.valid∧r.valid≤9999)∧(0≤r.uid∧r.uid≤9999)∧(0≤r.next∧r.next≤10000)∧(0≤r.flags∧r.flags≤7)∧r.user.size≤8∧r.name.size≤8∧r.text.size≤100:=by
  obtain⟨h1,h2,h3,h4,h5,h6⟩:=h;have he:emp.size=0:=rfl;have a3:(0≤r.next∧r.next≤10000)∧r.user.size≤8∧r.name.size≤8:=by
    split at h3
    · exact⟨by omega,h3.1.1.2,h3.2.1.1.2⟩
    · rw [h3.1,h3.2.1,he];omega
  have a4:0≤r.uid∧r.uid≤9999:=by split at h4 <;> omega
  have a5:0≤r.flags∧r.flags≤7:=by split at h5 <;> omega
  have a6:r.text.size≤100:=by
    split at h6
    · exact h6
    · rw [h6,he];omega
  exact⟨h1,by omega,a4,a3.1,a5,a3.2.1,a3.2.2,a6⟩
theorem zQ(s:ByteArray):s.data.toList.length=s.size:=by rw [Array.length_toList];rfl
theorem ZO{n:Nat}(h:n≤10000):(vt n).length≤2:=vC 1 n (by omega)
theorem Rc.tl_le{r:Rc}(h:r.ok):r.tl.length≤131∧1≤r.tl.length:=by
  obtain⟨_,h2,h3,h4,h5,h6,h7,h8⟩:=r.ok_small h;have a1:=ZO (n:=r.valid.toNat) (by omega);have a2:=ZO (n:=r.uid.toNat) (by omega);have a3:=ZO (n:=r.next.toNat) (by omega);have a4:=ZO (n:=r.flags.toNat) (by omega);have a5:=ZO (n:=r.user.size) (by omega);have a6:=ZO (n:=r.name.size) (by omega);have a7:=ZO (n:=r.text.size) (by omega);unfold Rc.tl;simp only [List.length_cons,List.length_append,zQ];omega
theorem Rc.tx_le{r:Rc}(h:r.ok):r.tx.size≤131∧1≤r.tx.size:=by
  have:=r.tl_le h;have e:r.tx.size=r.tl.length:=by rw [←zQ,r.tx_list]
  rw [e];exact this
def rsO (s:ByteArray) (k:Nat):Option (ByteArray×Nat):=
  match rv s.data.toList k with
  | some (n,b)=>if n≤20000∧n+b≤s.size then some (s.extract b (b+n),b+n) else none
  | none=>none
def prs (t:ByteArray):Option Rc:=
  match t.data.toList with
  | []=>none
  | k :: _ => match rv t.data.toList 1 with
    | none=>none
    | some (v,a)=>match rv t.data.toList a with
      | none=>none
      | some (u,b)=>match rv t.data.toList b with
        | none=>none
        | some (n,c)=>match rv t.data.toList c with
          | none=>none
          | some (f,d)=>match rsO t d with
            | none=>none
            | some (x,e)=>match rsO t e with
              | none=>none
              | some (y,g)=>match rsO t g with
                | none=>none
                | some (z,_)=>some ⟨k.toNat,v,u,n,f,x,y,z⟩
def rrO (t:ByteArray):Option Rc:=match prs t with
  | some r=>if r.ok∧r.tx=t then some r else none
  | none=>none
theorem zct(pre l rest:List UInt8):(⟨(pre++(l++rest)).toArray⟩:ByteArray).extract pre.length (pre.length+l.length)=⟨l.toArray⟩:=by
  obtain⟨x,hx⟩:∃ x:ByteArray,x=(⟨(pre++(l++rest)).toArray⟩:ByteArray).extract pre.length (pre.length+l.length):=⟨_,rfl⟩;have:x.data.toList=l:=by
    rw [hx,ByteArray.data_extract,Array.toList_extract,List.extract_eq_take_drop];simp
  rw [←hx];obtain⟨⟨y⟩⟩:=x;simp at this;rw [this]
theorem zbj(pre rest:List UInt8)(s:ByteArray)(h:s.size≤20000):rsO ⟨(pre++((vt s.size++s.data.toList) ++rest)).toArray⟩ pre.length=some (s,pre.length+(vt s.size).length+s.size):=by
  have e0:(⟨(pre++((vt s.size++s.data.toList) ++rest)).toArray⟩:ByteArray).data.toList=pre++(vt s.size++(s.data.toList++rest)):=by simp
  have e1:=qZ pre (s.data.toList++rest) s.size (by omega);unfold rsO;rw [e0,e1];have hz:(⟨(pre++((vt s.size++s.data.toList) ++rest)).toArray⟩:ByteArray).size=pre.length+(vt s.size).length+s.size+rest.length:=by
    rw [←zQ,e0];simp;omega
  simp only [hz];rw [if_pos ⟨h,by omega⟩];have e2:=zct (pre++vt s.size) s.data.toList rest;rw [List.length_append,zQ] at e2;have e3:(pre++((vt s.size++s.data.toList) ++rest))=(pre++vt s.size++(s.data.toList++rest)):=by simp
  rw [e3,e2]
theorem zaf{L pre rest:List UInt8}{n p:Nat}(hL:L=pre++(vt n++rest))(hp:p=pre.length)(hn:n≤1000000000):rv L p=some (n,p+(vt n).length):=by
  rw [hL,hp];exact qZ pre rest n hn
theorem zbL{t s:ByteArray}{pre rest:List UInt8}{p:Nat}(hL:t.data.toList=pre++((vt s.size++s.data.toList) ++rest))(hp:p=pre.length)(hn:s.size≤20000):rsO t p=some (s,p+(vt s.size).length+s.size):=by
  have e:t=⟨(pre++((vt s.size++s.data.toList) ++rest)).toArray⟩:=by
    obtain⟨⟨l⟩⟩:=t;simp only at hL;rw [hL]
  rw [e,hp];exact zbj pre rest s hn
theorem zbP{r:Rc}(h:r.ok):prs r.tx=some r:=by
  obtain⟨h1,h2,h3,h4,h5,h6,h7,h8⟩:=r.ok_small h;obtain⟨kind,valid,uid,next,flags,user,name,text⟩:=r;simp only at h1 h2 h3 h4 h5 h6 h7 h8;obtain⟨V,rfl⟩:=Int.eq_ofNat_of_zero_le h2.1;obtain⟨U,rfl⟩:=Int.eq_ofNat_of_zero_le h3.1;obtain⟨N,rfl⟩:=Int.eq_ofNat_of_zero_le h4.1;obtain⟨F,rfl⟩:=Int.eq_ofNat_of_zero_le h5.1;obtain⟨K,rfl⟩:=Int.eq_ofNat_of_zero_le (show 0≤kind by omega);have hk:(UInt8.ofNat K).toNat=K:=by
    rw [show(UInt8.ofNat K).toNat=K % 256 from rfl];omega
  obtain⟨t,ht⟩:∃ t,Rc.tx ⟨K,V,U,N,F,user,name,text⟩=t:=⟨_,rfl⟩;obtain⟨L,hL⟩:∃ L,t.data.toList=L:=⟨_,rfl⟩;have hLL:L=UInt8.ofNat K::(vt V++(vt U++(vt N++(vt F++((vt user.size++user.data.toList) ++((vt name.size++name.data.toList) ++(vt text.size++text.data.toList))))))):=by
    rw [←hL,←ht,Rc.tx_list];rfl
  rw [ht];have s1:rv L 1=_:=zaf (pre:= [UInt8.ofNat K]) (n:=V) (by rw [hLL];rfl) rfl (by omega);have s2:rv L (1+(vt V).length)=_:=zaf (pre:= [UInt8.ofNat K] ++vt V) (n:=U) (by rw [hLL];simp only [List.append_assoc];rfl) (by simp;omega) (by omega);have s3:rv L (1+(vt V).length+(vt U).length)=_:=zaf (pre:= [UInt8.ofNat K] ++vt V++vt U) (n:=N) (by rw [hLL];simp only [List.append_assoc];rfl) (by simp;omega) (by omega);have s4:rv L (1+(vt V).length+(vt U).length+(vt N).length)=_:=zaf (pre:= [UInt8.ofNat K] ++vt V++vt U++vt N) (n:=F) (by rw [hLL];simp only [List.append_assoc];rfl) (by simp;omega) (by omega);have s5:rsO t (1+(vt V).length+(vt U).length+(vt N).length+(vt F).length)=_:=zbL (pre:= [UInt8.ofNat K] ++vt V++vt U++vt N++vt F) (s:=user) (by rw [hL,hLL];simp only [List.append_assoc];rfl) (by simp;omega) (by omega);have s6:rsO t (1+(vt V).length+(vt U).length+(vt N).length+(vt F).length+(vt user.size).length+user.size)=_:=zbL (pre:= [UInt8.ofNat K] ++vt V++vt U++vt N++vt F++(vt user.size++user.data.toList)) (s:=name) (by rw [hL,hLL];simp only [List.append_assoc];rfl) (by simp;omega) (by omega);have s7:rsO t (1+(vt V).length+(vt U).length+(vt N).length+(vt F).length+(vt user.size).length+user.size+(vt name.size).length+name.size)=_:=zbL (pre:= [UInt8.ofNat K] ++vt V++vt U++vt N++vt F++(vt user.size++user.data.toList) ++(vt name.size++name.data.toList)) (s:=text) (rest:= []) (by rw [hL,hLL];simp only [List.append_assoc,List.append_nil];rfl) (by simp;omega) (by omega);unfold prs;rw [hL];rw [hLL] at s1 s2 s3 s4 ⊢;simp only [s1,s2,s3,s4,s5,s6,s7,hk]
theorem zbi{r:Rc}(h:r.ok):rrO r.tx=some r:=by
  unfold rrO;rw [zbP h];exact if_pos ⟨h,rfl⟩
end Go.Proofs.YtklkhllkjnbhjaaGreatDoor
