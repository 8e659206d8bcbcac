/- Texts of our own, joined. -/
import Derived.Test.YtklkhllkjnbhjaaGreatDoorJy
import Derived.Deep.SlicePairs
/- ItemsOf of both. -/
namespace Go.Proofs.YtklkhllkjnbhjaaGreatDoor
open Go.RowKit
open Lib (hid)
set_option maxRecDepth 100000
set_option maxHeartbeats 8000000
def its:List Sg→List Itm
  | []=> []
  | s::u=>s.items++its u
theorem Zf:∀(u v:List Sg),its (u++v)=its u++its v
  | [],v=>rfl
  | s::u,v=>by simp [its,Zf u v]
theorem Qs{u:List Sg}{i:Nat}{s:Sg}(h:u[i]? =some s):its (u.take (i+1))=its (u.take i) ++s.items:=by
  rw [List.take_add_one,h,Zf];simp [its]
theorem ZL:∀ u:List Sg,(its u).length=gIts u
  | []=>rfl
  | s::u=>by simp [its,gIts,ZL u]
theorem jE(u:List Sg)(i:Nat):gIts (u.take i)≤gIts u:=by
  have:=Jp (u.take i) (u.drop i);rw [List.take_append_drop] at this;omega
theorem Xk(l:List Itm)(v:Value)(w:World)(h:Rows' itE w v l)(hl:l.length≤1073741824):
    Calls Tryz.prog 66 #[v] w fun e w'=>∃ v',e=.returned v'∧RBuf itE w.heap.size w w' v' l:=by
  have q:∀(w:World) (a:Option Addr) (n c n' c':Nat),(binOp .eql 40 (.slice a n c) (.slice none n' c')).run Tryz.prog w=.ok (.bool a.isNone) w:=fun w a n c n' c'=>Lib.run_eql_slice_nil w _ _ a n c n' c' Tryz.underlying40;have hv:∃(a:Option Addr) (c:Nat),v=.slice a l.length c∧(a=none→l= []):=by
    rcases h with⟨rfl,a,c,rfl⟩ |⟨g,off,cap,rfl,_⟩
    · exact⟨a,c,rfl,fun _=>rfl⟩
    · exact⟨_,_,rfl,fun e=>by cases e⟩
  obtain⟨a,c,rfl,hn⟩:=hv;cases a with
  | none=>
    obtain rfl:=hn rfl;clear h hn;go_enter Tryz.func66,Tryz.ntmps66
    go_wp2;go_ret;exact⟨_,rfl,RBuf.nil itE w⟩
  | some p=>
    clear hn;have hb:=(RBuf.fresh itE w).here;have hx:=hid (h.later (zb w (.cells #[] itE.ty)));clear h;go_enter Tryz.func66,Tryz.ntmps66
    go_wp2_with (at_builtin;refine zX rfl _ _ itE rfl w.heap.size _ [] rfl hb _ l rfl hx.out (by simp [itE];omega) ?_;intro v1 w1 r1 g1 _;obtain⟨a1,c1,rfl⟩:=r1.form)
    go_ret;rw [List.nil_append] at r1;exact⟨_,rfl,⟨r1.own,((Below.refl w.heap.size w).alloc (Nat.le_refl _) _).grown g1 (by simp) (fun k hk=>by have:w.heap.size=k:=Option.some.inj hk;omega),r1.le⟩⟩
theorem YM (l:List Itm) (v:Value) (w:World) (h:Rows' itE w v l) (hl:l.length≤1048576) (hz:∀ x∈l,x.2.user.size≤1048576∧x.2.name.size≤1048576∧x.2.text.size≤1048576):
    Calls Tryz.prog 36 #[v] w fun e w'=>∃ v',e=.returned v'∧RBuf itE w.heap.size w w' v' l:=by
  have HC:=hid (Xk l v w h (by omega));have HZ:=hid hz;obtain⟨ad,cap,rfl,_⟩:=h.items;clear h hz;go_enter Tryz.func36,Tryz.ntmps36
  go_wp2_with fail
  refine HC.out.mono ?_;rintro e w1 ⟨v1,rfl,R1⟩;obtain⟨a1,c1,rfl⟩:=R1.form;clear HC;go_wp2;go_loopw [9] (fun iv wr=>∃ i:Nat,i≤l.length∧iv=.int .i64 (i:Int)∧RBuf itE w.heap.size w wr (.slice a1 l.length c1) l) (fun iv _=>l.length -(intOf iv).toNat)
  case atStart=>exact⟨0,by omega,rfl,R1⟩
  case round=>
    clear R1;obtain⟨i,hi,rfl,I⟩:=hrel;by_cases hlt:i < l.length
    · obtain⟨x,hgx⟩:∃ x,l[i]? =some x:=⟨_,List.getElem?_eq_getElem hlt⟩
      obtain⟨zu,zn,zt⟩:=HZ.out _ (List.mem_of_getElem? hgx);have HIT:=hid I;rcases I.own.2 with⟨h1,h2⟩ |⟨g,cp,cur,hv,_⟩
      · omega
      · obtain⟨rfl,rfl⟩:a1=some ⟨g,0,none⟩∧c1=cp:=by simpa using hv
        clear hv;have hi0:(0:Int)≤(i:Int):=(by omega);have hi1:(i:Int) <(l.length:Int):=(by omega);have HF:Hid (∀ X,Below wr.heap.size wr X→RBuf itE w.heap.size w X (.slice (some ⟨g,0,none⟩) l.length c1) l):=fun X hX=>I.later hX;obtain⟨sq,r⟩:=x;simp only at zu zn zt;have HCI:=hid (jU sq r wr (by omega) (by omega) (by omega));unfold itV at HCI;have p0:=I.cell rfl i _ hgx 0 _ rfl;have p1:=I.cell rfl i _ hgx 1 _ rfl;have p2:=I.cell rfl i _ hgx 2 _ rfl;have p3:=I.cell rfl i _ hgx 3 _ rfl;have p4:=I.cell rfl i _ hgx 4 _ rfl;have p5:=I.cell rfl i _ hgx 5 _ rfl;have p6:=I.cell rfl i _ hgx 6 _ rfl;have p7:=I.cell rfl i _ hgx 7 _ rfl;have p8:=I.cell rfl i _ hgx 8 _ rfl;change wr.cell? ⟨g,i * 9,none⟩=some (.int .i64 sq) at p0;change wr.cell? ⟨g,i * 9+1,none⟩=some (.int .i64 r.kind) at p1;change wr.cell? ⟨g,i * 9+2,none⟩=some (.int .i64 r.valid) at p2;change wr.cell? ⟨g,i * 9+3,none⟩=some (.int .i64 r.uid) at p3;change wr.cell? ⟨g,i * 9+4,none⟩=some (.int .i64 r.next) at p4;change wr.cell? ⟨g,i * 9+5,none⟩=some (.int .i64 r.flags) at p5;change wr.cell? ⟨g,i * 9+6,none⟩=some (.string r.user) at p6;change wr.cell? ⟨g,i * 9+7,none⟩=some (.string r.name) at p7;change wr.cell? ⟨g,i * 9+8,none⟩=some (.string r.text) at p8;have HGX:=hid hgx;clear hgx I HIT;go_wp2_with fail
        clear p0 p1 p2 p3 p4 p5 p6 p7 p8;refine HCI.out.mono ?_;rintro e w2 ⟨rfl,k2⟩;have I2:=HF.out _ k2;have p0:=I2.cell rfl i _ HGX.out 0 _ rfl;have p1:=I2.cell rfl i _ HGX.out 1 _ rfl;have p2:=I2.cell rfl i _ HGX.out 2 _ rfl;have p3:=I2.cell rfl i _ HGX.out 3 _ rfl;have p4:=I2.cell rfl i _ HGX.out 4 _ rfl;have p5:=I2.cell rfl i _ HGX.out 5 _ rfl;have p6:=I2.cell rfl i _ HGX.out 6 _ rfl;have p7:=I2.cell rfl i _ HGX.out 7 _ rfl;have p8:=I2.cell rfl i _ HGX.out 8 _ rfl;change w2.cell? ⟨g,i * 9,none⟩=some (.int .i64 sq) at p0;change w2.cell? ⟨g,i * 9+1,none⟩=some (.int .i64 r.kind) at p1;change w2.cell? ⟨g,i * 9+2,none⟩=some (.int .i64 r.valid) at p2;change w2.cell? ⟨g,i * 9+3,none⟩=some (.int .i64 r.uid) at p3;change w2.cell? ⟨g,i * 9+4,none⟩=some (.int .i64 r.next) at p4;change w2.cell? ⟨g,i * 9+5,none⟩=some (.int .i64 r.flags) at p5;change w2.cell? ⟨g,i * 9+6,none⟩=some (.string r.user) at p6;change w2.cell? ⟨g,i * 9+7,none⟩=some (.string r.name) at p7;change w2.cell? ⟨g,i * 9+8,none⟩=some (.string r.text) at p8;have f0:=I2.loose (i * 9);have f1:=I2.loose (i * 9+1);have f2:=I2.loose (i * 9+2);have f3:=I2.loose (i * 9+3);have f4:=I2.loose (i * 9+4);have f5:=I2.loose (i * 9+5);have f6:=I2.loose (i * 9+6);have f7:=I2.loose (i * 9+7);have f8:=I2.loose (i * 9+8);have s0:=zH p0;have s1:=zH p1;have s2:=zH p2;have s3:=zH p3;have s4:=zH p4;have s5:=zH p5;have s6:=zH p6;have s7:=zH p7;have s8:=zH p8;have HI2:=hid I2;clear I2 HF HCI k2;go_wp2;exact⟨⟨i+1,by omega,by simp,by first | exact HI2.out |(simp only [s0,s1,s2,s3,s4,s5,s6,s7,s8];exact HI2.out)⟩,by first | omega |(simp [intOf];omega)⟩
    · go_wp2
      go_ret;exact⟨_,rfl,I⟩
theorem ZX (L:Lg) (v:Value) (w:World) (h:LRd w v L) (hl:L.used.length+gIts L.used≤1048576):
    Calls Tryz.prog 14 #[v] w fun e w'=>∃ v',e=.returned v'∧RBuf itE w.heap.size w w' v' (its L.used):=by
  obtain⟨va,vb,vu,rfl,_,hu⟩:=h;obtain⟨ad,cap,rfl,hrow⟩:=hu.segs;have HR:Hid _:=hrow;clear hu hrow;have b0:=zb w (.cells #[va,vb,.int .i64 L.segs,.slice ad L.used.length cap,.int .i64 L.ng,.int .i64 L.ns,.int .i64 L.st,.int .i64 L.nv] 30);have q0:=Box.new w #[va,vb,.int .i64 L.segs,.slice ad L.used.length cap,.int .i64 L.ng,.int .i64 L.ns,.int .i64 L.st,.int .i64 L.nv] 30;obtain⟨W,hW⟩:∃ W,w.alloc (.cells #[va,vb,.int .i64 L.segs,.slice ad L.used.length cap,.int .i64 L.ng,.int .i64 L.ns,.int .i64 L.st,.int .i64 L.nv] 30)=W:=⟨_,rfl⟩;rw [hW] at q0 b0;have HW:=hid hW;clear hW;have HGL:=hid (fun i=>jE L.used i);obtain⟨n,hn⟩:∃ n,L.used.length=n:=⟨_,rfl⟩;rw [hn] at hl q0 HW ⊢;have HN:=hid hn;clear hn;have I0:=RBuf.fresh itE W;go_enter Tryz.func14,Tryz.ntmps14
  go_upto_region 1 with fail
  rw [HW.out];have HQ:=hid q0;have HB0:=hid b0;clear q0 b0 HW;go_wp2;go_loopw [3,4] (fun v iv wr=>∃ k:Nat,k≤n∧iv=.int .i64 (k:Int)∧RBuf itE W.heap.size W wr v (its (L.used.take k))) (fun _ iv _=>n -(intOf iv).toNat)
  case atStart=>exact⟨0,by omega,rfl,I0⟩
  case round=>
    clear I0;obtain⟨k,hk,rfl,I⟩:=hrel;obtain⟨c0,c1,c2,c3,c4,c5,c6,c7,_⟩:=(HQ.out.later I.bel).eightL;by_cases hlt:k < n
    · obtain⟨s,hgs⟩:∃ s,L.used[k]? =some s:=⟨_,List.getElem?_eq_getElem (by rw [HN.out];exact hlt)⟩
      have bW:=HB0.out.trans (I.bel.mono HB0.out.size);obtain⟨ga,oa,am,nm,cm,rfl,a0,a1,a2,a4,rm⟩:=HR.out _ bW k s hgs;have HT:=hid (Qs hgs);have hlen:(its (L.used.take k)).length+s.items.length≤1048576:=by
        have h1:=HGL.out (k+1);rw [←ZL,HT.out,List.length_append] at h1;omega
      obtain⟨us,hus⟩:∃ us,its (L.used.take k)=us:=⟨_,rfl⟩;rw [hus] at I hlen HT;have hi0:(0:Int)≤(k:Int):=(by omega);have hi1:(k:Int) <(n:Int):=(by omega);have HM:=hid (rm.later bW);have HI:=hid I;obtain⟨a3,p3,rfl⟩:=I.form;clear hgs hus rm I;go_wp2_with (at_builtin;refine zX rfl _ _ itE rfl W.heap.size _ us rfl HI.out.here _ s.items rfl HM.out (by show _ * 97≤_;omega) ?_;intro v6 w6 r6 g6 at6)
      exact⟨⟨k+1,by omega,by simp,by rw [HT.out];exact⟨r6.own,HI.out.bel.grown g6 HI.out.le (fun q hq=>(HI.out.own.lt q hq).1),r6.le⟩⟩,by first | omega |(simp [intOf];omega)⟩
    · have HE:Hid (its L.used=its (L.used.take k)):=by show _=_;rw [List.take_of_length_le (by rw [HN.out];omega)]
      have HI:=hid I;clear I;go_wp2;go_ret;exact⟨_,rfl,by rw [HE.out];exact HI.out.down (HB0.out.trans (HI.out.bel.mono HB0.out.size)) HB0.out.size⟩
theorem Zx (L:Lg) (v:Value) (w:World) (h:LRd w v L) (hl:L.used.length+gIts L.used≤1048576) (hz:∀ b∈L.used,∀ x∈b.items,x.2.user.size≤1048576∧x.2.name.size≤1048576∧x.2.text.size≤1048576):
    Calls Tryz.prog 13 #[v] w fun e w'=>∃ v',e=.returned v'∧RBuf itE w.heap.size w w' v' (its L.used):=by
  obtain⟨va,vb,vu,rfl,_,hu⟩:=h;obtain⟨ad,cap,rfl,hrow⟩:=hu.segs;have HR:Hid _:=hrow;have HZ:=hid hz;clear hu hrow hz;have b0:=zb w (.cells #[va,vb,.int .i64 L.segs,.slice ad L.used.length cap,.int .i64 L.ng,.int .i64 L.ns,.int .i64 L.st,.int .i64 L.nv] 30);obtain⟨W,hW⟩:∃ W,w.alloc (.cells #[va,vb,.int .i64 L.segs,.slice ad L.used.length cap,.int .i64 L.ng,.int .i64 L.ns,.int .i64 L.st,.int .i64 L.nv] 30)=W:=⟨_,rfl⟩;have q0:=Box.new w #[va,vb,.int .i64 L.segs,.slice ad L.used.length cap,.int .i64 L.ng,.int .i64 L.ns,.int .i64 L.st,.int .i64 L.nv] 30;rw [hW] at b0 q0;have q3:=(q0.later (zb W (.cells #[] 44))).cell 3 (.slice ad L.used.length cap) rfl;clear q0;have HW:=hid hW;clear hW;have HGL:=hid (fun i=>jE L.used i);obtain⟨n,hn⟩:∃ n,L.used.length=n:=⟨_,rfl⟩;rw [hn] at hl HW q3 ⊢;have HN:=hid hn;clear hn;have I0:=RBuf.fresh itE W;go_enter Tryz.func13,Tryz.ntmps13
  go_upto_region 1 with fail
  rw [HW.out];have HB0:=hid b0;clear b0 HW;go_wp2;clear q3;go_loopw [3,10] (fun v iv wr=>∃ k:Nat,k≤n∧iv=.int .i64 (k:Int)∧RBuf itE W.heap.size W wr v (its (L.used.take k))) (fun _ iv _=>n -(intOf iv).toNat)
  case atStart=>exact⟨0,by omega,rfl,I0⟩
  case round=>
    clear I0;obtain⟨k,hk,rfl,I⟩:=hrel;by_cases hlt:k < n
    · obtain⟨s,hgs⟩:∃ s,L.used[k]? =some s:=⟨_,List.getElem?_eq_getElem (by rw [HN.out];exact hlt)⟩
      have bW:=HB0.out.trans (I.bel.mono HB0.out.size);obtain⟨ga,oa,am,nm,cm,rfl,a0,a1,a2,a4,rm⟩:=HR.out _ bW k s hgs;have HT:=hid (Qs hgs);have hlen:(its (L.used.take k)).length+s.items.length≤1048576:=by
        have h1:=HGL.out (k+1);rw [←ZL,HT.out,List.length_append] at h1;omega
      have hzx:=HZ.out s (List.mem_of_getElem? hgs);obtain⟨us,hus⟩:∃ us,its (L.used.take k)=us:=⟨_,rfl⟩;rw [hus] at I hlen HT;have hi0:(0:Int)≤(k:Int):=(by omega);have hi1:(k:Int) <(n:Int):=(by omega);have I4:=I.alloc (.cells #[.int .i64 s.no,.int .i64 s.gen,.int .i64 s.ende,.slice am nm cm] 60);have HCP:=hid (YM s.items (.slice am nm cm) _ (rm.later (bW.alloc bW.size (.cells #[.int .i64 s.no,.int .i64 s.gen,.int .i64 s.ende,.slice am nm cm] 60))) (by omega) hzx);obtain⟨a3,p3,rfl⟩:=I.form;clear hgs hus rm hzx I;go_wp2_with fail
      refine HCP.out.mono ?_;rintro e w5 ⟨v5,rfl,R5⟩;have I5:=I4.later R5.bel;have HI:=hid I5;have HM:=hid R5.rows;obtain⟨a5,c5,rfl⟩:=R5.form;clear I4 I5 R5 HCP a0 a1 a2 a4;go_wp2_with (at_builtin;refine zX rfl _ _ itE rfl W.heap.size _ us rfl HI.out.here _ s.items rfl HM.out (by show _ * 97≤_;omega) ?_;intro v6 w6 r6 g6 at6)
      exact⟨⟨k+1,by omega,by simp,by rw [HT.out];exact⟨r6.own,HI.out.bel.grown g6 HI.out.le (fun q hq=>(HI.out.own.lt q hq).1),r6.le⟩⟩,by first | omega |(simp [intOf];omega)⟩
    · have HE:Hid (its L.used=its (L.used.take k)):=by show _=_;rw [List.take_of_length_le (by rw [HN.out];omega)]
      have HI:=hid I;clear I;go_wp2;go_ret;exact⟨_,rfl,by rw [HE.out];exact HI.out.down (HB0.out.trans (HI.out.bel.mono HB0.out.size)) HB0.out.size⟩

/- What a disk is that comes in as an argument: its rows can be read. -/
open Go.RowKit Go.ChangeShapes Go.WideShapes Go.ChangeAt Go.Deep Go.Joins
section
variable {H : Type} {enc : TypeId × Value → H} {W : World}
end

/- Records and items that come in as arguments. -/
open Go.RowKit Go.ChangeShapes Go.WideShapes Go.ChangeAt Go.Deep Go.Joins
section
variable {H : Type} {enc : TypeId × Value → H} {P : Program} {w : World} {base : Nat} {spare : Nat → Bool} {held : Bool}
end
section
variable {H : Type} {enc : TypeId × Value → H} {W : World}
end

/- Lists of items that come in as an argument. -/
open Go.RowKit Go.ChangeShapes Go.WideShapes Go.ChangeAt Go.Deep Go.Joins
instance : Inhabited Itm := ⟨(0, Rc.nil)⟩
section
variable {H : Type} {enc : TypeId × Value → H} {W : World}
end

/- Logs that come in as arguments. -/
open Go.RowKit Go.ChangeShapes Go.WideShapes Go.ChangeAt Go.Deep Go.Joins
instance : Inhabited SgH := ⟨⟨0, 0, 0, none, 0, 0⟩⟩
section
variable {H : Type} {enc : TypeId × Value → H} {P : Program} {w : World} {base : Nat} {spare : Nat → Bool} {held : Bool}
end
section
variable {H : Type} {enc : TypeId × Value → H} {W : World}
end

/- May an item stand beside the others of a log? The model's l09Fits. -/
def fitsB (L:Lg) (x:Itm):Prop:=(∀(j:Nat) (y:Itm),(its L.used)[j]? =some y→y.1=x.1→y=x)∧(its L.used).length < 200
def FiR (L:Lg) (x:Itm) (w:World) (e:Ending) (w':World):Prop:=∃ D:Bool,(D=true↔fitsB L x)∧e=.returned (.bool D)∧Below w.heap.size w w'
theorem Jt (L:Lg) (v:Value) (x:Itm) (w:World) (h:LRd w v L) (hl:L.used.length+gIts L.used≤1048576):
    Calls Tryz.prog 47 #[v,itV x.1 x.2] w fun e w'=>FiR L x w e w':=by
  have HIO:=hid (fun X hX=>ZX L v X (h.later hX) hl);obtain⟨va,vb,vu,rfl,_,_⟩:=id h;have hlen:Hid ((its L.used).length≤1048576):=by show _≤_;rw [ZL];omega
  obtain⟨sx,K1,V1,U1,N1,FL1,US1,NM1,TX1⟩:=x;unfold itV;simp only;obtain⟨q0,q1,b0,_⟩:=zO w #[va,vb,.int .i64 L.segs,vu,.int .i64 L.ng,.int .i64 L.ns,.int .i64 L.st,.int .i64 L.nv] #[.int .i64 sx,.int .i64 K1,.int .i64 V1,.int .i64 U1,.int .i64 N1,.int .i64 FL1,.string US1,.string NM1,.string TX1] 30 44;clear h hl;obtain⟨x0,x1,x2,x3,x4,x5,x6,x7⟩:=q0.eightO;go_enter Tryz.func47,Tryz.ntmps47
  go_wp2_with fail
  clear x0 x1 x2 x3 x4 x5 x6 x7;obtain⟨W,hW⟩:∃ W,(w.alloc (.cells #[va,vb,.int .i64 L.segs,vu,.int .i64 L.ng,.int .i64 L.ns,.int .i64 L.st,.int .i64 L.nv] 30)).alloc (.cells #[.int .i64 sx,.int .i64 K1,.int .i64 V1,.int .i64 U1,.int .i64 N1,.int .i64 FL1,.string US1,.string NM1,.string TX1] 44)=W:=⟨_,rfl⟩;rw [hW] at q0 q1 b0 ⊢;clear hW q0;obtain⟨gx,hgx⟩:∃ gx,w.heap.size+1=gx:=⟨_,rfl⟩;rw [hgx] at q1 ⊢;clear hgx;refine(HIO.out W b0).mono ?_;rintro e w1 ⟨v1,rfl,R1⟩;obtain⟨af,cf,rfl⟩:=R1.form;have b1:=b0.trans (R1.bel.mono b0.size);have HQ:=hid (q1.later R1.bel);obtain⟨ad,cap,hv,hrow⟩:=R1.rows.items;injection hv with h1 h2 h3;subst h1;have HR:=hid hrow;obtain⟨l,hll⟩:∃ l,its L.used=l:=⟨_,rfl⟩;have HL:=hid hll;rw [hll] at HR hlen;have hln:=hlen.out;obtain⟨n,hn⟩:∃ n,l.length=n:=⟨_,rfl⟩;rw [hll,hn];rw [hn] at hln;have HN:=hid hn;clear HIO h2 h3 hrow q1 hll hn R1 b0;have HB1:=hid b1;clear b1;go_wp2_with fail
  go_loopw [6] (fun iv wr=>∃ k:Nat,k≤n∧iv=.int .i64 (k:Int)∧(∀(j:Nat) (y:Itm),l[j]? =some y→j < k→y.1=sx→y=(sx,⟨K1,V1,U1,N1,FL1,US1,NM1,TX1⟩))∧Below w1.heap.size w1 wr) (fun iv _=>n -(intOf iv).toNat)
  case atStart=>exact⟨0,by omega,rfl,fun j y _ hj=>by omega,Below.refl _ _⟩
  case round=>
    obtain⟨k,hk,rfl,hU,hb⟩:=hrel;have HU:=hid hU;clear hU;by_cases hlk:k < n
    · have bD:Below w1.heap.size w1 wr.drew:=hb.trans ((Below.refl wr.heap.size wr).drew.mono hb.size)
      have hgy:l[k]? =some (l[k]'(by rw [HN.out];exact hlk)):=List.getElem?_eq_getElem _;obtain⟨ga,oa,rfl,c0,c1,c2,c3,c4,c5,c6,c7,c8⟩:=HR.out _ bD k _ hgy;obtain⟨y,hy⟩:∃ y,l[k]'(by rw [HN.out];exact hlk)=y:=⟨_,rfl⟩;rw [hy] at hgy c0 c1 c2 c3 c4 c5 c6 c7 c8;clear hy;have HY:=hid hgy;obtain⟨sq,K,V,U,N,FL,US,NM,TX⟩:=y;simp only at c0 c1 c2 c3 c4 c5 c6 c7 c8;obtain⟨a0,a1,a2,a3,a4,a5,a6,a7,a8⟩:=(HQ.out.later bD).nineG;have hk0:(0:Int)≤(k:Int):=(by omega);have hk1:(k:Int) <(n:Int):=(by omega);clear hgy hb;by_cases hq:sq=sx
      · subst hq
        by_cases hsame:K=K1∧V=V1∧U=U1∧N=N1∧FL=FL1∧US=US1∧NM=NM1∧TX=TX1
        · obtain⟨rfl,rfl,rfl,rfl,rfl,rfl,rfl,rfl⟩:=hsame
          go_wp2_with fail
          refine wp_region_held_drew (S:=fun x9=>wr.drew=x9) (by kernel_rfl) rfl (fun hHeld=>?_);refine tk 0 (.slice (some ⟨ga,oa,none⟩) n cf) ?_ (hr:=fun x9 hSx=>by subst hSx;go_simp);refine tk 1 (.int .i64 (k:Int)) ?_ (hr:=fun x9 hSx=>by subst hSx;go_simp);refine tk 2 (.pointer (some ⟨ga,oa+k * 9,none⟩)) ?_ (hr:=fun x9 hSx=>by subst hSx;go_simp);refine tk 3 (.pointer (some ⟨ga,oa+k * 9,none⟩)) ?_ (hr:=fun x9 hSx=>by subst hSx;go_simp);refine tk 4 (.int .i64 sq) ?_ (hr:=fun x9 hSx=>by subst hSx;go_simp);refine tk 5 (.pointer (some ⟨gx,0,none⟩)) ?_ (hr:=fun x9 hSx=>by subst hSx;go_simp);refine tk 6 (.int .i64 sq) ?_ (hr:=fun x9 hSx=>by subst hSx;go_simp);refine tk 7 (.bool true) ?_ (hr:=fun x9 hSx=>by subst hSx;go_simp);refine tk 8 (.bool true) ?_ (hr:=fun x9 hSx=>by subst hSx;go_simp);refine tk 9 (.slice (some ⟨ga,oa,none⟩) n cf) ?_ (hr:=fun x9 hSx=>by subst hSx;go_simp);refine tk 10 (.int .i64 (k:Int)) ?_ (hr:=fun x9 hSx=>by subst hSx;go_simp);refine tk 11 (.pointer (some ⟨ga,oa+k * 9,none⟩)) ?_ (hr:=fun x9 hSx=>by subst hSx;go_simp);refine tk 12 (.agg #[.int .i64 sq,.int .i64 K,.int .i64 V,.int .i64 U,.int .i64 N,.int .i64 FL,.string US,.string NM,.string TX]) ?_ (hr:=fun x9 hSx=>by subst hSx;go_simp);refine tk 13 (.agg #[.int .i64 sq,.int .i64 K,.int .i64 V,.int .i64 U,.int .i64 N,.int .i64 FL,.string US,.string NM,.string TX]) ?_ (hr:=fun x9 hSx=>by subst hSx;go_simp);refine tk 14 (.bool false) ?_ (hr:=fun x9 hSx=>by subst hSx;go_simp);refine tk 15 (.bool false) ?_ (hr:=fun x9 hSx=>by subst hSx;go_simp);refine wpAnyH_done (by kernel_rfl) ?_ _;go_wp2;exact⟨⟨k+1,by omega,by go_num,fun j z hj hjk e=>by
            by_cases c:j=k
            · subst c;have:=HY.out;rw [hj] at this;cases this;rfl
            · exact HU.out j z hj (by omega) e,bD⟩,by first | omega |(simp [intOf];omega)⟩
        · have HNE:=hid hsame
          clear hsame;go_wp2_with fail
          refine wp_region_held_drew (S:=fun x9=>wr.drew=x9) (by kernel_rfl) rfl (fun hHeld=>?_);refine tk 0 (.slice (some ⟨ga,oa,none⟩) n cf) ?_ (hr:=fun x9 hSx=>by subst hSx;go_simp);refine tk 1 (.int .i64 (k:Int)) ?_ (hr:=fun x9 hSx=>by subst hSx;go_simp);refine tk 2 (.pointer (some ⟨ga,oa+k * 9,none⟩)) ?_ (hr:=fun x9 hSx=>by subst hSx;go_simp);refine tk 3 (.pointer (some ⟨ga,oa+k * 9,none⟩)) ?_ (hr:=fun x9 hSx=>by subst hSx;go_simp);refine tk 4 (.int .i64 sq) ?_ (hr:=fun x9 hSx=>by subst hSx;go_simp);refine tk 5 (.pointer (some ⟨gx,0,none⟩)) ?_ (hr:=fun x9 hSx=>by subst hSx;go_simp);refine tk 6 (.int .i64 sq) ?_ (hr:=fun x9 hSx=>by subst hSx;go_simp);refine tk 7 (.bool true) ?_ (hr:=fun x9 hSx=>by subst hSx;go_simp);refine tk 8 (.bool true) ?_ (hr:=fun x9 hSx=>by subst hSx;go_simp);refine tk 9 (.slice (some ⟨ga,oa,none⟩) n cf) ?_ (hr:=fun x9 hSx=>by subst hSx;go_simp);refine tk 10 (.int .i64 (k:Int)) ?_ (hr:=fun x9 hSx=>by subst hSx;go_simp);refine tk 11 (.pointer (some ⟨ga,oa+k * 9,none⟩)) ?_ (hr:=fun x9 hSx=>by subst hSx;go_simp);refine tk 12 (.agg #[.int .i64 sq,.int .i64 K,.int .i64 V,.int .i64 U,.int .i64 N,.int .i64 FL,.string US,.string NM,.string TX]) ?_ (hr:=fun x9 hSx=>by subst hSx;go_simp);refine tk 13 (.agg #[.int .i64 sq,.int .i64 K1,.int .i64 V1,.int .i64 U1,.int .i64 N1,.int .i64 FL1,.string US1,.string NM1,.string TX1]) ?_ (hr:=fun x9 hSx=>by subst hSx;go_simp);refine tk 14 (.bool true) ?_ (hr:=fun x9 hSx=>by subst hSx;go_simp;simp only [qY];exact fun h0 h1 h2 h3 h4 h5 h6 h7=>HNE.out ⟨h0,h1,h2,h3,h4,h5,h6,h7⟩);refine tk 15 (.bool true) ?_ (hr:=fun x9 hSx=>by subst hSx;go_simp);refine wpAnyH_done (by kernel_rfl) ?_ _;go_wp2;go_ret;refine⟨false,⟨fun h0=>(by cases h0),fun h0=>?_⟩,rfl,HB1.out.trans (bD.mono HB1.out.size)⟩;have h1:=h0.1 k (sq,⟨K,V,U,N,FL,US,NM,TX⟩) (by rw [HL.out];exact HY.out) rfl;exact absurd (by cases h1;exact⟨rfl,rfl,rfl,rfl,rfl,rfl,rfl,rfl⟩) HNE.out
      · have hq2:(sq==sx)=false:=beq_eq_false_iff_ne.2 hq
        go_wp2_with fail
        refine wp_region_held_drew (S:=fun x9=>wr.drew=x9) (by kernel_rfl) rfl (fun hHeld=>?_);refine tk 0 (.slice (some ⟨ga,oa,none⟩) n cf) ?_ (hr:=fun x9 hSx=>by subst hSx;go_simp);refine tk 1 (.int .i64 (k:Int)) ?_ (hr:=fun x9 hSx=>by subst hSx;go_simp);refine tk 2 (.pointer (some ⟨ga,oa+k * 9,none⟩)) ?_ (hr:=fun x9 hSx=>by subst hSx;go_simp);refine tk 3 (.pointer (some ⟨ga,oa+k * 9,none⟩)) ?_ (hr:=fun x9 hSx=>by subst hSx;go_simp);refine tk 4 (.int .i64 sq) ?_ (hr:=fun x9 hSx=>by subst hSx;go_simp);refine tk 5 (.pointer (some ⟨gx,0,none⟩)) ?_ (hr:=fun x9 hSx=>by subst hSx;go_simp);refine tk 6 (.int .i64 sx) ?_ (hr:=fun x9 hSx=>by subst hSx;go_simp);refine tk 7 (.bool false) ?_ (hr:=fun x9 hSx=>by subst hSx;go_simp);refine tk 8 (.bool false) ?_ (hr:=fun x9 hSx=>by subst hSx;go_simp);refine tu 9 ?_;refine tu 10 ?_;refine tu 11 ?_;refine tu 12 ?_;refine tu 13 ?_;refine tu 14 ?_;refine tk 15 (.bool false) ?_ (hr:=fun x9 hSx=>by subst hSx;go_simp);refine wpAnyH_done (by kernel_rfl) ?_ _;go_wp2;exact⟨⟨k+1,by omega,by go_num,fun j z hj hjk e=>by
          by_cases c:j=k
          · subst c;have:=HY.out;rw [hj] at this;cases this;exact absurd e hq
          · exact HU.out j z hj (by omega) e,bD⟩,by first | omega |(simp [intOf];omega)⟩
    · have HE:Hid ((decide ((n:Int) < 200)=true)↔fitsB L (sx,⟨K1,V1,U1,N1,FL1,US1,NM1,TX1⟩)):=by
        refine⟨fun h0=>⟨fun j y hj=>?_,?_⟩,fun h0=>?_⟩
        · rw [HL.out] at hj
          exact HU.out j y hj (by have:=(List.getElem?_eq_some_iff.1 hj).1;have:=HN.out;omega)
        · rw [HL.out,HN.out]
          have:=of_decide_eq_true h0;omega
        · have:=h0.2
          rw [HL.out,HN.out] at this;exact decide_eq_true (by omega)
      have HBE:=hid (HB1.out.trans (hb.mono HB1.out.size));clear hb;go_wp2;go_ret;exact⟨_,HE.out,rfl,HBE.out⟩
end Go.Proofs.YtklkhllkjnbhjaaGreatDoor
