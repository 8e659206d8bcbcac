/- Texts of our own, joined. -/
import Derived.Test.YtklkhllkjnbhjaaGreatDoorJc
import Derived.Lib.SliceRun
import Derived.Deep.DeepCutAuto
import Derived.Deep.RegionLaw
import Derived.Deep.Cut
import Derived.Great.BuildSlice
/- Copies: slices.Clone, and what copyDisk hands back: a disk of its own. -/
namespace Go.Proofs.YtklkhllkjnbhjaaGreatDoor
open Go.RowKit
open Lib (hid)
set_option maxRecDepth 100000
set_option maxHeartbeats 8000000
theorem jS {w:World} {g i:Nat} {v:Value} (h:w.cell? ⟨g,i,none⟩=some v):w.setCell ⟨g,i,none⟩ v=w:=by
  have:w.heap.modify g (fun
      | .cells c elem frozen=>.cells (if(none:Option Nat).isSome then c else c.setIfInBounds i v) elem frozen
      | o=>o)=w.heap:=by
    apply Array.ext_getElem?;intro k;rw [Array.getElem?_modify];by_cases hk:g=k
    · subst hk
      rw [if_pos rfl];unfold World.cell? at h;cases ho:w.heap[g]? with
      | none=>rfl
      | some o=>
        rw [ho] at h;cases o <;> simp_all
        rename_i c _ _;apply Array.ext_getElem?;intro j;rw [Array.getElem?_setIfInBounds];by_cases hj:i=j
        · subst hj;simp_all;exact(Array.getElem?_eq_some_iff.1 h).1
        · simp [hj]
    · rw [if_neg hk]
  show {w with heap:=_}=w
  exact congrArg (fun hp=> {w with heap:=hp}) this
theorem Xd(l:List _)(v:Value)(B:Nat)(w:World)(h:RBuf strE B w w v l)(hl:l.length≤1073741824):
    Calls Tryz.prog 98 #[v] w fun e w'=>∃ v',e=.returned v'∧RBuf strE w.heap.size w w' v' l:=by
  have q:∀(w:World) (a:Option Addr) (n c n' c':Nat),(binOp .eql 24 (.slice a n c) (.slice none n' c')).run Tryz.prog w=.ok (.bool a.isNone) w:=fun w a n c n' c'=>Lib.run_eql_slice_nil w _ _ a n c n' c' Tryz.underlying24;rcases h.own.2 with⟨rfl,h0⟩ |⟨g,cap,cur,rfl,hr⟩
  · obtain rfl:=List.length_eq_zero_iff.1 h0
    go_enter Tryz.func98,Tryz.ntmps98
    go_wp2;go_ret;exact⟨_,rfl,RBuf.nil strE w⟩
  · clear hr
    have hb:=(RBuf.fresh strE w).here;have hx:=(h.alloc (.cells #[] strE.ty)).here;go_enter Tryz.func98,Tryz.ntmps98
    go_wp2_with (at_builtin;refine zA rfl _ _ strE rfl w.heap.size _ [] rfl hb B _ l rfl hx (by simp [strE];omega) ?_;intro v1 w1 r1 g1 _;obtain⟨a1,c1,rfl⟩:=r1.form)
    go_ret;rw [List.nil_append] at r1;exact⟨_,rfl,⟨r1.own,((Below.refl w.heap.size w).alloc (Nat.le_refl _) _).grown g1 (by simp) (fun k hk=>by have:w.heap.size=k:=Option.some.inj hk;omega),r1.le⟩⟩
theorem xn(l:List _)(v:Value)(B:Nat)(w:World)(h:RBuf wrE B w w v l)(hl:l.length≤1073741824):
    Calls Tryz.prog 99 #[v] w fun e w'=>∃ v',e=.returned v'∧RBuf wrE w.heap.size w w' v' l:=by
  have q:∀(w:World) (a:Option Addr) (n c n' c':Nat),(binOp .eql 25 (.slice a n c) (.slice none n' c')).run Tryz.prog w=.ok (.bool a.isNone) w:=fun w a n c n' c'=>Lib.run_eql_slice_nil w _ _ a n c n' c' Tryz.underlying25;rcases h.own.2 with⟨rfl,h0⟩ |⟨g,cap,cur,rfl,hr⟩
  · obtain rfl:=List.length_eq_zero_iff.1 h0
    go_enter Tryz.func99,Tryz.ntmps99
    go_wp2;go_ret;exact⟨_,rfl,RBuf.nil wrE w⟩
  · clear hr
    have hb:=(RBuf.fresh wrE w).here;have hx:=(h.alloc (.cells #[] wrE.ty)).here;go_enter Tryz.func99,Tryz.ntmps99
    go_wp2_with (at_builtin;refine zA rfl _ _ wrE rfl w.heap.size _ [] rfl hb B _ l rfl hx (by simp [wrE];omega) ?_;intro v1 w1 r1 g1 _;obtain⟨a1,c1,rfl⟩:=r1.form)
    go_ret;rw [List.nil_append] at r1;exact⟨_,rfl,⟨r1.own,((Below.refl w.heap.size w).alloc (Nat.le_refl _) _).grown g1 (by simp) (fun k hk=>by have:w.heap.size=k:=Option.some.inj hk;omega),r1.le⟩⟩
section
variable {α β : Type} {E1 : Enc α} {E2 : Enc β}
theorem vl{B1 B2:Nat}{w0 w1 x y:World}{v u:Value}{l:List α}{m:List β}(h1:RBuf E1 B1 w0 x v l)(h2:RBuf E2 B2 w1 y u m)(h:x.heap.size≤B2):v.ownBlock=none∨v.ownBlock≠u.ownBlock:=by
  cases hv:v.ownBlock with
  | none=>exact .inl rfl
  | some k=>
    refine .inr fun e=>?_;have a:=(h1.own.lt k hv).2;have b:=(h2.own.lt k e.symm).1;omega
theorem RBuf.under{B g:Nat}{w0 x:World}{v:Value}{l:List α}(h:RBuf E1 B w0 x v l)(hg:g < B):v.ownBlock≠some g:=fun e=>by have:=(h.own.lt g e).1;omega
theorem RBuf.above{B g:Nat}{w0 x:World}{v:Value}{l:List α}(h:RBuf E1 B w0 x v l)(hg:x.heap.size≤g):v.ownBlock≠some g:=fun e=>by have:=(h.own.lt g e).2;omega
theorem RBuf.at0{B B0:Nat}{w0 x:World}{v:Value}{l:List α}(h:RBuf E1 B w0 x v l)(hB:B0≤B):RBuf E1 B0 x x v l:=h.here.lower hB
end
theorem ZC{b:Nat}{va vb:Value}{W x y:World}(h:x.cell? ⟨b,0,none⟩=some va∧x.cell? ⟨b,1,none⟩=some vb∧Below W.heap.size W x)(hb:Below x.heap.size x y):y.cell? ⟨b,0,none⟩=some va∧y.cell? ⟨b,1,none⟩=some vb∧Below W.heap.size W y:=
  ⟨(hb.cell (p:=⟨b,0,none⟩) (World.block_lt_of_cell? _ _ h.1)).trans h.1,(hb.cell (p:=⟨b,1,none⟩) (World.block_lt_of_cell? _ _ h.2.1)).trans h.2.1,h.2.2.trans (hb.mono h.2.2.size)⟩
theorem ja{b g:Nat}{va vb y z:Value}{W x:World}(hb:b < W.heap.size)(hg:W.heap.size≤g)(h:x.cell? ⟨b,0,none⟩=some va∧x.cell? ⟨b,1,none⟩=some vb∧Below W.heap.size W x):
    ((x.setCell ⟨g,0,none⟩ y).setCell ⟨g,1,none⟩ z).cell? ⟨b,0,none⟩=some va∧((x.setCell ⟨g,0,none⟩ y).setCell ⟨g,1,none⟩ z).cell? ⟨b,1,none⟩=some vb∧Below W.heap.size W ((x.setCell ⟨g,0,none⟩ y).setCell ⟨g,1,none⟩ z):=by
  refine⟨?_,?_,(h.2.2.setCell (p:=⟨g,0,none⟩) hg y).setCell (p:=⟨g,1,none⟩) hg z⟩
  · rw [World.cell?_setCell_other _ _ _ _ (by simp <;> omega),World.cell?_setCell_other _ _ _ _ (by simp <;> omega)];exact h.1
  · rw [World.cell?_setCell_other _ _ _ _ (by simp <;> omega),World.cell?_setCell_other _ _ _ _ (by simp <;> omega)];exact h.2.1
theorem zp(x:World)(o:Obj):Below x.heap.size x (x.alloc o):=(Below.refl _ _).alloc (Nat.le_refl _) _
structure CpyE (d:Dk) (W x:World) (g:Nat) (vS vW:Value):Prop where
  box:Box x g #[vS,vW] 27
  sec:LOwn strE W.heap.size x.heap.size x vS d.sec
  cache:LOwn wrE W.heap.size x.heap.size x vW d.cache
  ap:vS.ownBlock=none∨vS.ownBlock≠vW.ownBlock
  n1:vS.ownBlock≠some g
  n2:vW.ownBlock≠some g
  le:W.heap.size≤g
  bel:Below W.heap.size W x
theorem zdm{d:Dk}{W x:World}{vS vW:Value}(h1:RBuf strE W.heap.size x x vS d.sec)(h2:RBuf wrE W.heap.size x x vW d.cache)(h3:vS.ownBlock=none∨vS.ownBlock≠vW.ownBlock)(hb:Below W.heap.size W x):
    CpyE d W (x.alloc (.cells #[vS,vW] 27)) x.heap.size vS vW:=
  ⟨Box.new x _ _,(h1.alloc _).lown,(h2.alloc _).lown,h3,h1.above (Nat.le_refl _),h2.above (Nat.le_refl _),hb.size,hb.alloc hb.size _⟩
theorem zdd{d:Dk}{W x:World}{vS vW:Value}{g:Nat}{z0 z1:Value}(hx:Box x g #[z0,z1] 27)(h1:RBuf strE W.heap.size x x vS d.sec)(h2:RBuf wrE W.heap.size x x vW d.cache)(h3:vS.ownBlock=none∨vS.ownBlock≠vW.ownBlock)(hb:Below W.heap.size W x)
    (n1:vS.ownBlock≠some g) (n2:vW.ownBlock≠some g) (hg:W.heap.size≤g):CpyE d W ((x.setCell ⟨g,0,none⟩ vS).setCell ⟨g,1,none⟩ vW) g vS vW:=by
  have hs:((x.setCell ⟨g,0,none⟩ vS).setCell ⟨g,1,none⟩ vW).heap.size=x.heap.size:=by simp
  refine⟨?_,?_,?_,h3,n1,n2,hg,(hb.setCell (p:=⟨g,0,none⟩) hg _).setCell (p:=⟨g,1,none⟩) hg _⟩
  · have:=(hx.set 0 vS).set 1 vW
    simpa using this
  · rw [hs];exact(h1.lown.grown (za _ _ _ _) (.inr n1)).grown (za _ _ _ _) (.inr n1)
  · rw [hs];exact(h2.lown.grown (za _ _ _ _) (.inr n2)).grown (za _ _ _ _) (.inr n2)
theorem CpyE.later{d:Dk}{W x y:World}{g:Nat}{vS vW:Value}(h:CpyE d W x g vS vW)(hb:Below x.heap.size x y):CpyE d W y g vS vW:=
  ⟨h.box.later hb,(h.sec.later hb).wider hb.size (Nat.le_refl _),(h.cache.later hb).wider hb.size (Nat.le_refl _),h.ap,h.n1,h.n2,h.le,h.bel.trans (hb.mono h.bel.size)⟩
theorem Zc (d :Dk) (v:Value) (B T:Nat) (w:World) (h:DOwn B T w v d) (hs:d.small) (ht:∀ s∈d.sec,s.size≤1099511627776) (hu:∀ x∈d.cache,x.text.size≤1099511627776):
    Calls Tryz.prog 71 #[v] w fun e w'=>∃ v',e=.returned v'∧DOwn w.heap.size w'.heap.size w' v' d∧Below w.heap.size w w':=by
  obtain⟨va,vb,rfl,h1,h2,h3⟩:=h;obtain⟨aa,ca,rfl⟩:=h1.1.form;obtain⟨ab,cb,rfl⟩:=h2.1.form;obtain⟨s1,s2⟩:=hs;obtain⟨hx0,hx1,b0,hsz⟩:=zO w #[.slice aa d.sec.length ca,.slice ab d.cache.length cb] #[.slice none 0 0,.slice none 0 0] 27 27;go_enter Tryz.func71,Tryz.ntmps71
  go_upto_region 1 with fail
  generalize ((w.alloc (.cells #[.slice aa d.sec.length ca,.slice ab d.cache.length cb] 27)).alloc (.cells #[.slice none 0 0,.slice none 0 0] 27))=W at hx0 hx1 b0 hsz ⊢;have c0:=hx0.cell 0 (.slice aa d.sec.length ca) rfl;have c1:=hx0.cell 1 (.slice ab d.cache.length cb) rfl;go_cut [3] (fun p wx=>∃(g:Nat) (pS pW:Option Addr) (qS qW:Nat),p=.pointer (some ⟨g,0,none⟩)∧CpyE d W wx g (.slice pS d.sec.length qS) (.slice pW d.cache.length qW))
  case first=>
    have HS:Hid (∀ x:World,(x.cell? ⟨w.heap.size,0,none⟩=some (.slice aa d.sec.length ca)∧x.cell? ⟨w.heap.size,1,none⟩=some (.slice ab d.cache.length cb)∧Below W.heap.size W x)→RBuf strE B x x (.slice aa d.sec.length ca) d.sec∧RBuf wrE B x x (.slice ab d.cache.length cb) d.cache):=
      fun x hx=>⟨(h1.later (b0.trans (hx.2.2.mono b0.size))).1,(h2.later (b0.trans (hx.2.2.mono b0.size))).1⟩
    have HK0:Hid (W.drew.cell? ⟨w.heap.size,0,none⟩=some (.slice aa d.sec.length ca)∧W.drew.cell? ⟨w.heap.size,1,none⟩=some (.slice ab d.cache.length cb)∧Below W.heap.size W W.drew):=⟨c0,c1,(Below.refl _ _).drew⟩;have hlt:w.heap.size < W.heap.size:=hx0.lt;have HB0:Hid (Box (W.alloc (.cells #[.slice none 0 0,.slice none 0 0] 27)).drew W.heap.size #[.slice none 0 0,.slice none 0 0] 27):=Box.new W _ _;clear hx0 hx1 ht hu h1 h2 h3 c0 c1 hsz;go_region_held3 (fun x=>x.cell? ⟨w.heap.size,0,none⟩=some (.slice aa d.sec.length ca)∧x.cell? ⟨w.heap.size,1,none⟩=some (.slice ab d.cache.length cb)∧Below W.heap.size W x)
      (first | exact HK0.out | exact ZC (by assumption) (zp _ _) | exact ZC (by assumption) kS | exact ZC (by assumption) kW | exact ZC hSS.out (zp _ _) | exact ZC hSW.out (zp _ _) | exact ja hlt (Nat.le_refl _) (by assumption) | exact ja hlt tS (by assumption) | exact ja hlt tW (by assumption))
      (first
        |(go_at_call 98;refine(Xd d.sec _ B _ (HS.out _ (by assumption)).1 s1).mono ?_;rintro e wS ⟨vS,rfl,rS⟩;have kS:=rS.bel;have hSS:=hid (ZC (by assumption) kS);have tS:W.heap.size≤wS.heap.size:=hSS.out.2.2.size;obtain⟨pS,qS,rfl⟩:=rS.form;(first |(have bx:Box wS W.heap.size #[.slice none 0 0,.slice none 0 0] 27:=HB0.out.later kS;have z0:=bx.cell 0 _ rfl;have z1:=bx.cell 1 _ rfl;have f0:=bx.loose 0;have f1:=bx.loose 1) |(have bx:Box wS wW.heap.size #[.slice none 0 0,.slice none 0 0] 27:=(Box.new wW _ _).later kS;have z0:=bx.cell 0 _ rfl;have z1:=bx.cell 1 _ rfl;have f0:=bx.loose 0;have f1:=bx.loose 1) |(have bx2:=bx.later kS;have z0:=bx2.cell 0 _ rfl;have z1:=bx2.cell 1 _ rfl;have f0:=bx2.loose 0;have f1:=bx2.loose 1) | skip))
        |(go_at_call 99;refine(xn d.cache _ B _ (HS.out _ (by assumption)).2 s2).mono ?_;rintro e wW ⟨vW,rfl,rW⟩;have kW:=rW.bel;have hSW:=hid (ZC (by assumption) kW);have tW:W.heap.size≤wW.heap.size:=hSW.out.2.2.size;obtain⟨pW,qW,rfl⟩:=rW.form;(first |(have bx:Box wW W.heap.size #[.slice none 0 0,.slice none 0 0] 27:=HB0.out.later kW;have z0:=bx.cell 0 _ rfl;have z1:=bx.cell 1 _ rfl;have f0:=bx.loose 0;have f1:=bx.loose 1) |(have bx:Box wW wS.heap.size #[.slice none 0 0,.slice none 0 0] 27:=(Box.new wS _ _).later kW;have z0:=bx.cell 0 _ rfl;have z1:=bx.cell 1 _ rfl;have f0:=bx.loose 0;have f1:=bx.loose 1) |(have bx2:=bx.later kW;have z0:=bx2.cell 0 _ rfl;have z1:=bx2.cell 1 _ rfl;have f0:=bx2.loose 0;have f1:=bx2.loose 1) | skip)))
    all_goals
      go_wp2_with fail
      go_meet
      first
        | exact⟨_,_,_,_,_,rfl,zdm ((rS.later kW).at0 (Nat.le_refl _)) (rW.at0 tS) (vl rS rW (Nat.le_refl _)) hSW.out.2.2⟩
        | exact⟨_,_,_,_,_,rfl,zdd bx (((rS.alloc _).later kW).at0 (Nat.le_refl _)) (rW.at0 (by simp;omega)) (vl rS rW (by simp)) hSW.out.2.2 (rS.above (Nat.le_refl _)) (rW.under (by simp)) tS⟩
        | exact⟨_,_,_,_,_,rfl,zdd bx2 ((rS.later kW).at0 (by show W.heap.size≤(W.alloc _).heap.size;simp)) (rW.at0 tS) (vl rS rW (Nat.le_refl _)) hSW.out.2.2 (rS.under (by show W.heap.size <(W.alloc _).heap.size;simp)) (rW.under (Nat.lt_of_lt_of_le (by show W.heap.size <(W.alloc _).heap.size;simp) kS.size)) (Nat.le_refl _)⟩
  case rest =>
    obtain⟨g,pS,pW,qS,qW,rfl,hE⟩:=hcut;have hX1:=hid hx1;have HE:=hid hE;have m0:=hE.box.cell 0 _ rfl;have m1:=hE.box.cell 1 _ rfl;clear hx0 hx1 h1 h2 h3 c0 c1 hE;simp only [List.getElem_toArray,List.getElem_cons_zero,List.getElem_cons_succ] at m0 m1;go_wp2;go_loopw [16] (fun iv wr=>∃ i:Nat,i≤d.sec.length∧iv=.int .i64 (i:Int)∧Below wc.heap.size wc wr) (fun iv _=>d.sec.length -(intOf iv).toNat)
    case atStart=>exact⟨0,by omega,rfl,Below.refl _ _⟩
    case round=>
      obtain⟨i,hi,rfl,hbr⟩:=hrel;have E1:=HE.out.later hbr;by_cases hlt:i < d.sec.length
      · have hi0:(0:Int)≤(i:Int):=by omega
        have hi1:(i:Int) <(d.sec.length:Int):=(by omega);obtain⟨g1,rfl⟩:∃ g1:Nat,pS=some ⟨g1,0,none⟩:=by
          rcases E1.sec.1.own.2 with⟨_,e⟩ |⟨g,cap,cur,e,_⟩
          · omega
          · simp only [Value.slice.injEq] at e;exact⟨g,e.1⟩
        have hat:=List.getElem?_eq_getElem hlt;have cS:wr.cell? ⟨g1,i,none⟩=some (.string d.sec[i]):=by
          have:=E1.sec.1.cell rfl i _ hat 0 _ rfl;rw [show strE.sz=1 from rfl,Nat.mul_one,Nat.add_zero] at this;exact this
        have fS:=E1.sec.1.loose i;have k0:=E1.box.cell 0 (.slice (some ⟨g1,0,none⟩) d.sec.length qS) rfl;have htz:=ht _ (List.getElem_mem hlt);clear hat E1 ht hu;generalize d.sec[i]=t at *;have HK0:Hid (wr.drew.cell? ⟨g,0,none⟩=some (.slice (some ⟨g1,0,none⟩) d.sec.length qS)∧wr.drew.cell? ⟨g1,i,none⟩=some (.string t)∧wr.drew.frozen? ⟨g1,i,none⟩=false∧Below wr.heap.size wr wr.drew):=⟨k0,cS,fS,(Below.refl _ _).drew⟩;have HK1:Hid (∀ x y:World,(x.cell? ⟨g,0,none⟩=some (.slice (some ⟨g1,0,none⟩) d.sec.length qS)∧x.cell? ⟨g1,i,none⟩=some (.string t)∧x.frozen? ⟨g1,i,none⟩=false∧Below wr.heap.size wr x)→Below x.heap.size x y→(y.cell? ⟨g,0,none⟩=some (.slice (some ⟨g1,0,none⟩) d.sec.length qS)∧y.cell? ⟨g1,i,none⟩=some (.string t)∧y.frozen? ⟨g1,i,none⟩=false∧Below wr.heap.size wr y)):=
          fun x y h hb=>⟨(hb.cell (p:=⟨g,0,none⟩) (World.block_lt_of_cell? _ _ h.1)).trans h.1,(hb.cell (p:=⟨g1,i,none⟩) (World.block_lt_of_cell? _ _ h.2.1)).trans h.2.1,(hb.frozen (p:=⟨g1,i,none⟩) (World.block_lt_of_cell? _ _ h.2.1)).trans h.2.2.1,h.2.2.2.trans (hb.mono h.2.2.2.size)⟩
        have HK2:Hid (∀ x:World,(x.cell? ⟨g,0,none⟩=some (.slice (some ⟨g1,0,none⟩) d.sec.length qS)∧x.cell? ⟨g1,i,none⟩=some (.string t)∧x.frozen? ⟨g1,i,none⟩=false∧Below wr.heap.size wr x)→((x.setCell ⟨g1,i,none⟩ (.string t)).cell? ⟨g,0,none⟩=some (.slice (some ⟨g1,0,none⟩) d.sec.length qS)∧(x.setCell ⟨g1,i,none⟩ (.string t)).cell? ⟨g1,i,none⟩=some (.string t)∧(x.setCell ⟨g1,i,none⟩ (.string t)).frozen? ⟨g1,i,none⟩=false∧Below wr.heap.size wr (x.setCell ⟨g1,i,none⟩ (.string t)))):=
          fun x h=>by rw [jS h.2.1];exact h
        go_wp2;go_region_held3 (fun x=>x.cell? ⟨g,0,none⟩=some (.slice (some ⟨g1,0,none⟩) d.sec.length qS)∧x.cell? ⟨g1,i,none⟩=some (.string t)∧x.frozen? ⟨g1,i,none⟩=false∧Below wr.heap.size wr x)
          (first | exact HK0.out | exact HK1.out _ _ (by assumption) k1 | exact HK2.out _ (by assumption))
          (first |(go_at_call 97;refine(Zp _ _ (by omega)).mono ?_;rintro e w1 ⟨rfl,k1⟩))
        all_goals
          rename_i hHeld
          have BH:=hid hHeld.2.2.2
          clear hHeld HK0 HK1 HK2
          go_wp2
          go_roundw
          case rel=>exact⟨i+1,by omega,by go_num,hbr.trans (BH.out.mono hbr.size)⟩
          case measure=>simp [intOf];omega
      · have HE1:=hid E1
        have k1:=E1.box.cell 1 (.slice pW d.cache.length qW) rfl;clear E1 HE m0 m1 ht;go_wp2;obtain⟨wa,hwa⟩:∃ wa,wa=wr:=⟨_,rfl⟩;subst hwa;go_loopw [33] (fun iv wr=>∃ j:Nat,j≤d.cache.length∧iv=.int .i64 (j:Int)∧Below wa.heap.size wa wr) (fun iv _=>d.cache.length -(intOf iv).toNat)
        case atStart=>exact⟨0,by omega,rfl,Below.refl _ _⟩
        case round=>
          obtain⟨j,hj,rfl,hbr2⟩:=hrel;have E1:=HE1.out.later hbr2;by_cases hlt:j < d.cache.length
          · have hi0:(0:Int)≤(j:Int):=by omega
            have hi1:(j:Int) <(d.cache.length:Int):=(by omega);obtain⟨g2,rfl⟩:∃ g2:Nat,pW=some ⟨g2,0,none⟩:=by
              rcases E1.cache.1.own.2 with⟨_,e⟩ |⟨g,cap,cur,e,_⟩
              · omega
              · simp only [Value.slice.injEq] at e;exact⟨g,e.1⟩
            have hat:=List.getElem?_eq_getElem hlt;have cS:wr.cell? ⟨g2,j * 2+1,none⟩=some (.string d.cache[j].text):=E1.cache.1.cell rfl j _ hat 1 _ rfl;have fS:=E1.cache.1.loose (j * 2+1);have k0:=E1.box.cell 1 (.slice (some ⟨g2,0,none⟩) d.cache.length qW) rfl;have htz:=hu _ (List.getElem_mem hlt);clear hat E1 hu k1;generalize d.cache[j].text=t at *;have HK0:Hid (wr.drew.cell? ⟨g,1,none⟩=some (.slice (some ⟨g2,0,none⟩) d.cache.length qW)∧wr.drew.cell? ⟨g2,j * 2+1,none⟩=some (.string t)∧wr.drew.frozen? ⟨g2,j * 2+1,none⟩=false∧Below wr.heap.size wr wr.drew):=⟨k0,cS,fS,(Below.refl _ _).drew⟩;have HK1:Hid (∀ x y:World,(x.cell? ⟨g,1,none⟩=some (.slice (some ⟨g2,0,none⟩) d.cache.length qW)∧x.cell? ⟨g2,j * 2+1,none⟩=some (.string t)∧x.frozen? ⟨g2,j * 2+1,none⟩=false∧Below wr.heap.size wr x)→Below x.heap.size x y→(y.cell? ⟨g,1,none⟩=some (.slice (some ⟨g2,0,none⟩) d.cache.length qW)∧y.cell? ⟨g2,j * 2+1,none⟩=some (.string t)∧y.frozen? ⟨g2,j * 2+1,none⟩=false∧Below wr.heap.size wr y)):=
              fun x y h hb=>⟨(hb.cell (p:=⟨g,1,none⟩) (World.block_lt_of_cell? _ _ h.1)).trans h.1,(hb.cell (p:=⟨g2,j * 2+1,none⟩) (World.block_lt_of_cell? _ _ h.2.1)).trans h.2.1,(hb.frozen (p:=⟨g2,j * 2+1,none⟩) (World.block_lt_of_cell? _ _ h.2.1)).trans h.2.2.1,h.2.2.2.trans (hb.mono h.2.2.2.size)⟩
            have HK2:Hid (∀ x:World,(x.cell? ⟨g,1,none⟩=some (.slice (some ⟨g2,0,none⟩) d.cache.length qW)∧x.cell? ⟨g2,j * 2+1,none⟩=some (.string t)∧x.frozen? ⟨g2,j * 2+1,none⟩=false∧Below wr.heap.size wr x)→((x.setCell ⟨g2,j * 2+1,none⟩ (.string t)).cell? ⟨g,1,none⟩=some (.slice (some ⟨g2,0,none⟩) d.cache.length qW)∧(x.setCell ⟨g2,j * 2+1,none⟩ (.string t)).cell? ⟨g2,j * 2+1,none⟩=some (.string t)∧(x.setCell ⟨g2,j * 2+1,none⟩ (.string t)).frozen? ⟨g2,j * 2+1,none⟩=false∧Below wr.heap.size wr (x.setCell ⟨g2,j * 2+1,none⟩ (.string t)))):=
              fun x h=>by rw [jS h.2.1];exact h
            go_wp2;go_region_held3 (fun x=>x.cell? ⟨g,1,none⟩=some (.slice (some ⟨g2,0,none⟩) d.cache.length qW)∧x.cell? ⟨g2,j * 2+1,none⟩=some (.string t)∧x.frozen? ⟨g2,j * 2+1,none⟩=false∧Below wr.heap.size wr x)
              (first | exact HK0.out | exact HK1.out _ _ (by assumption) k1 | exact HK2.out _ (by assumption))
              (first |(go_at_call 97;refine(Zp _ _ (by omega)).mono ?_;rintro e w1 ⟨rfl,k1⟩))
            all_goals
              rename_i hHeld
              have BH:=hid hHeld.2.2.2
              clear hHeld HK0 HK1 HK2
              go_wp2
              go_roundw
              case rel=>exact⟨j+1,by omega,by go_num,hbr2.trans (BH.out.mono hbr2.size)⟩
              case measure=>simp [intOf];omega
          · have bW:Below W.heap.size W wr:=E1.bel
            have x5:=hX1.out.later bW;have m0:=E1.box.cell 0 (.slice pS d.sec.length qS) rfl;have m1:=E1.box.cell 1 (.slice pW d.cache.length qW) rfl;have r0:=x5.cell 0 (.slice none 0 0) rfl;have r1:=x5.cell 1 (.slice none 0 0) rfl;have f0:=x5.loose 0;have f1:=x5.loose 1;have EE:=hid E1;have bF:=hid (b0.trans (bW.mono b0.size));have HSZ:=hid hsz;clear E1 bW k1 hsz x5 hu;go_wp2;have hWl:w.heap.size+1 < W.heap.size:=(by have:=HSZ.out;omega);have q1:=(EE.out.sec.store (w.heap.size+1) 0 (.slice pS d.sec.length qS) hWl).store (w.heap.size+1) 1 (.slice pW d.cache.length qW) hWl;have q2:=(EE.out.cache.store (w.heap.size+1) 0 (.slice pS d.sec.length qS) hWl).store (w.heap.size+1) 1 (.slice pW d.cache.length qW) hWl;refine bodyPost_ret (v:=.agg #[.slice pS d.sec.length qS,.slice pW d.cache.length qW]) (by simp [results,Tryz.results71,go_sem,r0,r1]) rfl ?_;exact⟨_,rfl,⟨_,_,rfl,(q1.deeper (by omega)).wider (by simp) (Nat.le_refl _),(q2.deeper (by omega)).wider (by simp) (Nat.le_refl _),EE.out.ap⟩,(bF.out.setCell (p:=⟨w.heap.size+1,0,none⟩) (by simp) _).setCell (p:=⟨w.heap.size+1,1,none⟩) (by simp) _⟩

/- Disks: what the program's WriteSector hands back. -/
theorem jC(d:Dk)(a:Int)(t:ByteArray):(⟨d.sec,d.cache++ [⟨a,t⟩]⟩:Dk).ok↔wrOk d a t:=by
  constructor
  · rintro⟨h1,h2,h3,h4,h5⟩
    have hl:(d.cache++ [(⟨a,t⟩:Wr)]).length=d.cache.length+1:=by simp
    simp only [hl] at h3;obtain⟨x1,x2,x3⟩:=h5 ⟨a,t⟩ (by simp);exact⟨⟨h1,h2,by omega,h4,fun x hx=>h5 x (by simp [hx])⟩,⟨x1,x2⟩,x3,by omega⟩
  · rintro⟨⟨h1,h2,_,h4,h5⟩,⟨x1,x2⟩,x3,h3⟩
    refine⟨h1,h2,?_,h4,fun x hx=>?_⟩
    · show(d.cache++ [(⟨a,t⟩:Wr)]).length≤60
      simp;omega
    · rcases List.mem_append.1 hx with h | h
      · exact h5 x h
      · simp at h;subst h;exact⟨x1,x2,x3⟩
theorem YG (d:Dk) (v:Value) (a:Int) (t:ByteArray) (B T:Nat) (w:World) (h:DOwn B T w v d) (hs:d.small) (ht:∀ s∈d.sec,s.size≤1099511627776) (hu:∀ x∈d.cache,x.text.size≤1099511627776) (htz:t.size≤1099511627776) (hs':d.cache.length < 1073741824):
    Calls Tryz.prog 159 #[v,.int .i64 a,.string t] w fun e w'=>DiskR (wrD d a t) (decide (wrOk d a t)) w e w':=by
  obtain⟨aa,ab,ca,cb,rfl⟩:=h.form;obtain⟨hx0,hx1,b0,hsz⟩:=zO w #[.slice aa d.sec.length ca,.slice ab d.cache.length cb] #[.slice none 0 0,.slice none 0 0] 27 27;have h':=h.later b0;go_enter Tryz.func159,Tryz.ntmps159
  go_wp2_with fail
  generalize ((w.alloc (.cells #[.slice aa d.sec.length ca,.slice ab d.cache.length cb] 27)).alloc (.cells #[.slice none 0 0,.slice none 0 0] 27))=W at hx0 hx1 b0 hsz h' ⊢;refine(Zc d _ B T _ h' hs ht hu).mono ?_;rintro e w2 ⟨v2,rfl,o2,k2⟩;obtain⟨a1,a2,q1,q2,rfl⟩:=o2.form;have k3:Below w2.heap.size w2 (w2.alloc (.cells #[.slice a1 d.sec.length q1,.slice a2 d.cache.length q2] 27)):=zp _ _;have y3:=Box.new w2 #[.slice a1 d.sec.length q1,.slice a2 d.cache.length q2] 27;have s3:(w2.alloc (.cells #[.slice a1 d.sec.length q1,.slice a2 d.cache.length q2] 27)).heap.size=w2.heap.size+1:=by simp
  have j3:=k2.trans (k3.mono k2.size);have o3:=o2.later k3;have h3:=h'.later j3;have X0:=hid (hx0.later j3);have X1:=hid (hx1.later j3);have s2:=k2.size;go_upto_region 2 with fail
  generalize w2.alloc (.cells #[.slice a1 d.sec.length q1,.slice a2 d.cache.length q2] 27)=w3 at k3 y3 s3 j3 o3 h3 X0 X1 ⊢;obtain⟨va,vb,hv,l1,l2,hap⟩:=o3;simp only [Value.agg.injEq,Array.mk.injEq,List.cons.injEq,and_true] at hv;obtain⟨rfl,rfl⟩:=hv;have hD1:=hs.1;have hD2:=hs.2;have L1:=hid l1;have L2:=hid l2;have Y3:=hid y3;have hin1:∀ k,(Value.slice a1 d.sec.length q1).ownBlock=some k→W.heap.size≤k∧k < w2.heap.size:=fun k hk=>⟨(l1.1.own.lt k hk).1,l1.2.2 k hk⟩;have hin2:∀ k,(Value.slice a2 d.cache.length q2).ownBlock=some k→W.heap.size≤k∧k < w2.heap.size:=fun k hk=>⟨(l2.1.own.lt k hk).1,l2.2.2 k hk⟩;have HIN:=hid (And.intro hin1 hin2);have HAP:=hid hap;have S3:=hid s3;go_cut [] (fun wx=>∃(a6:Option Addr) (q6:Nat),Box wx w2.heap.size #[.slice a1 d.sec.length q1,.slice a6 (d.cache.length+1) q6] 27∧DOwn W.heap.size wx.heap.size wx (.agg #[.slice a1 d.sec.length q1,.slice a6 (d.cache.length+1) q6]) ⟨d.sec,d.cache++ [⟨a,t⟩]⟩∧Below W.heap.size W wx)
  case first=>
    have HC:Hid (∀(x:World) (o:Obj),Below w3.drew.heap.size w3.drew x→RBuf wrE W.heap.size (x.alloc o) (x.alloc o) (.slice a2 d.cache.length q2) d.cache∧x.cell? ⟨w2.heap.size,1,none⟩=some (.slice a2 d.cache.length q2)∧(x.alloc o).cell? ⟨w2.heap.size,1,none⟩=some (.slice a2 d.cache.length q2)):=by
      intro x o hx;have hx2:Below w3.heap.size w3 x:=((Below.refl _ _).drew).trans hx;exact⟨((L2.out.later hx2).1.alloc o).here,(Y3.out.later hx2).cell 1 _ rfl,((Y3.out.later hx2).later (zp _ _)).cell 1 _ rfl⟩
    have HC6:Hid (∀(x y:World) (o:Obj),Below w3.drew.heap.size w3.drew x→(x.alloc o).grownBy y (Value.slice a2 d.cache.length q2).ownBlock→Box y w2.heap.size #[.slice a1 d.sec.length q1,.slice a2 d.cache.length q2] 27∧Below W.heap.size W y∧LOwn strE W.heap.size w2.heap.size y (.slice a1 d.sec.length q1) d.sec∧w2.heap.size < x.heap.size):=by
      intro x y o hx hg;have hx2:Below w3.heap.size w3 x:=((Below.refl _ _).drew).trans hx;have hxo:Below w3.heap.size w3 (x.alloc o):=hx2.trans ((zp x o).mono hx2.size);have bo:=Y3.out.later hxo;have jx:=j3.trans (hxo.mono j3.size);refine⟨(hg.block _ bo.lt (fun e=>by have:=HIN.out.2 _ e.symm;omega)).trans bo,jx.grown hg jx.size (fun k hk=>by have:=HIN.out.2 k hk;omega),(L1.out.later hxo).grown hg HAP.out,?_⟩;have:=hx2.size;have:=S3.out;omega
    have c1:=y3.cell 1 (.slice a2 d.cache.length q2) rfl;clear hx0 hx1 h h' h3 y3 l1 l2 hap hin1 hin2 o2 k2 k3 j3 s3 ht hu hsz;go_region_law (first
      |(go_simp;go_at_call 97;refine(Zp _ _ (by omega)).mono ?_;rintro e w5 ⟨rfl,k5⟩;have c5:=(HC.out _ (.cells #[] 0) k5).2.1;have d5:=(HC.out _ (.cells #[.int .i64 a,.string t] 63) k5).2.2;dsimp only)
      |(refine zd (by rfl) _ _ wrE (by rfl) W.heap.size _ d.cache (by rfl) (HC.out _ _ k5).1 w5.heap.size _ [⟨a,t⟩] (by rfl) (RBuf.lit1 wrE w5 ⟨a,t⟩) (by simp [wrE];omega) ?_;intro v6 w6 hr6 hg6 at6 lt6;obtain⟨a6,q6,rfl⟩:=hr6.form;obtain⟨bx6,bel6,ls6,sz6⟩:=HC6.out _ _ _ k5 hg6;have z1:=bx6.cell 1 (.slice a2 d.cache.length q2) rfl;have f1:=bx6.loose 1))
    all_goals
      go_wp2_with fail
      go_meet
      have e6:(d.cache++ [(⟨a,t⟩:Wr)]).length=d.cache.length+1:=by simp
      rw [e6] at hr6 at6
      have at7:(Value.slice a6 (d.cache.length+1) q6).ownBlock=(Value.slice a2 d.cache.length q2).ownBlock∨(Value.slice a6 (d.cache.length+1) q6).ownBlock=some (w5.heap.size+1):=by
        have sx:(w5.alloc (.cells #[.int .i64 a,.string t] 63)).heap.size=w5.heap.size+1:=by simp
        rw [←sx];exact at6
      have nO:(Value.slice a6 (d.cache.length+1) q6).ownBlock≠some w2.heap.size:=by
        rcases at7 with e | e
        · rw [e];intro h;have:=HIN.out.2 _ h;omega
        · rw [e];intro h;have:=Option.some.inj h;omega
      have f1':=ls6.storeHi w2.heap.size 1 (.slice a6 (d.cache.length+1) q6) (Nat.le_refl _);have f2':=hr6.lown.grown (za w6 w2.heap.size 1 (.slice a6 (d.cache.length+1) q6)) (.inr nO);have ss:(w6.setCell ⟨w2.heap.size,1,none⟩ (.slice a6 (d.cache.length+1) q6)).heap.size=w6.heap.size:=(by simp);refine⟨a6,q6,?_,⟨_,_,rfl,f1'.wider (Nat.le_trans ls6.2.1 (Nat.le_of_eq ss.symm)) (Nat.le_refl _),by rw [ss];exact f2',?_⟩,bel6.setCell (p:=⟨w2.heap.size,1,none⟩) (by simpa using s2) _⟩
      · have:=bx6.set 1 (.slice a6 (d.cache.length+1) q6)
        simpa using this
      · rcases at7 with e | e
        · rw [e];exact HAP.out
        · rw [e]
          refine .inr fun h=>?_;have:=HIN.out.1 _ h;omega
  case rest=>
    obtain⟨a6,q6,bx,ow,bel⟩:=hcut;have m0:=bx.cell 0 (.slice a1 d.sec.length q1) rfl;have m1:=bx.cell 1 (.slice a6 (d.cache.length+1) q6) rfl;have hsm:(⟨d.sec,d.cache++ [⟨a,t⟩]⟩:Dk).small:=⟨hs.1,by show(d.cache++ [(⟨a,t⟩:Wr)]).length≤_;simp;omega⟩;have HHX:=hid (And.intro (hx0.later bel) (hx1.later bel));have HH:=hid (h'.later bel);have OW:=hid ow;have BX:=hid bx;have HSZ:=hid hsz;clear hx0 hx1 h h' o2 k2 k3 y3 s3 j3 h3 l1 l2 hap hin1 hin2 hsz bx;go_wp2_with fail
    clear m0 m1;refine(yd ⟨d.sec,d.cache++ [⟨a,t⟩]⟩ _ _ ow.rd hsm).mono ?_;rintro e w7 ⟨rfl,k7⟩;rw [decide_eq_decide.2 (jC d a t)];have bel7:=bel.trans (k7.mono bel.size);have x1:=HHX.out.2.later k7;have r0:=x1.cell 0 (.slice none 0 0) rfl;have r1:=x1.cell 1 (.slice none 0 0) rfl;have f0:=x1.loose 0;have f1:=x1.loose 1;have hWl:Hid (w.heap.size+1 < W.heap.size):=show _ < _ by have:=HSZ.out;omega
    have bF:=hid (b0.trans (bel7.mono b0.size));by_cases hw:wrOk d a t
    · have E2:=hid (show wrD d a t=⟨d.sec,d.cache++ [⟨a,t⟩]⟩ from if_pos hw)
      rw [decide_eq_true hw];have y7:=BX.out.later k7;have m0:=y7.cell 0 (.slice a1 d.sec.length q1) rfl;have m1:=y7.cell 1 (.slice a6 (d.cache.length+1) q6) rfl;have O7:=hid ((OW.out.later k7).widen (Nat.le_refl _) k7.size (Nat.le_refl _));clear y7 x1 bel bel7;go_wp2;refine bodyPost_ret (v:=.tuple #[.agg #[.slice a1 d.sec.length q1,.slice a6 (d.cache.length+1) q6],.bool true]) (by simp [results,Tryz.results159,go_sem,r0,r1]) rfl ?_;rw [E2.out,decide_eq_true hw];exact⟨_,rfl,((O7.out.store (w.heap.size+1) 0 (.slice a1 d.sec.length q1) hWl.out).store (w.heap.size+1) 1 (.slice a6 (d.cache.length+1) q6) hWl.out).widen (by have:=hWl.out;omega) (by simp) (Nat.le_refl _),(bF.out.setCell (p:=⟨w.heap.size+1,0,none⟩) (by simp) _).setCell (p:=⟨w.heap.size+1,1,none⟩) (by simp) _⟩
    · have E2:=hid (show wrD d a t=d from if_neg hw)
      rw [decide_eq_false hw];have x7:=HHX.out.1.later k7;have m0:=x7.cell 0 (.slice aa d.sec.length ca) rfl;have m1:=x7.cell 1 (.slice ab d.cache.length cb) rfl;have H7:=HH.out.later k7;clear x7 r0 r1 f0 f1;go_wp2_with fail
      clear m0 m1;refine(Zc d _ B T _ H7 hs ht hu).mono ?_;rintro e w8 ⟨v8,rfl,o8,k8⟩;obtain⟨a8,a9,q8,q9,rfl⟩:=o8.form;have x8:=x1.later k8;have r0:=x8.cell 0 (.slice none 0 0) rfl;have r1:=x8.cell 1 (.slice none 0 0) rfl;have f0:=x8.loose 0;have f1:=x8.loose 1;have b8:=hid (bF.out.trans (k8.mono bF.out.size));have O8:=hid o8;have s7:Hid (W.heap.size≤w7.heap.size):=bel7.size;clear x8 x1 o8 bel bel7 H7 k8;go_wp2;refine bodyPost_ret (v:=.tuple #[.agg #[.slice a8 d.sec.length q8,.slice a9 d.cache.length q9],.bool false]) (by simp [results,Tryz.results159,go_sem,r0,r1]) rfl ?_;rw [E2.out,decide_eq_false hw];have hl7:w.heap.size+1 < w7.heap.size:=Nat.lt_of_lt_of_le hWl.out s7.out;exact⟨_,rfl,((O8.out.store (w.heap.size+1) 0 (.slice a8 d.sec.length q8) hl7).store (w.heap.size+1) 1 (.slice a9 d.cache.length q9) hl7).widen (by omega) (by simp) (Nat.le_refl _),(b8.out.setCell (p:=⟨w.heap.size+1,0,none⟩) (by simp) _).setCell (p:=⟨w.heap.size+1,1,none⟩) (by simp) _⟩

/- Plain facts on bytes that are written over sectors: what WriteBytes makes of a disk, and what is read there. -/
def wbS (d:Dk) (k fr:Nat) (t:List UInt8):ByteArray:=⟨(splice (secL ((rdO d (k:Int)).getD ⟨#[]⟩)) fr (t.take (32 - fr))).toArray⟩
def wbL (d:Dk) (k fr:Nat) (t:List UInt8):Option Dk:=
  match t with
  | []=>some d
  | x::l=>if wrOk d (k:Int) (wbS d k fr (x::l)) then wbL (wrD d (k:Int) (wbS d k fr (x::l))) (k+1) 0 (l.drop (31 - fr)) else none
termination_by t.length
decreasing_by simp;omega
theorem yl(d:Dk)(k fr:Nat):wbL d k fr []=some d:=by rw [wbL]
theorem qH{d:Dk}{k fr:Nat}{t:List UInt8}(ht:t≠ [])(hf:fr < 32)(h:wrOk d (k:Int) (wbS d k fr t)):wbL d k fr t=wbL (wrD d (k:Int) (wbS d k fr t)) (k+1) 0 (t.drop (32 - fr)):=by
  cases t with
  | nil=>exact absurd rfl ht
  | cons x l=>
    rw [wbL,if_pos h];have:32 - fr=(31 - fr) +1:=by omega
    rw [this,List.drop_succ_cons]
theorem Ys{d:Dk}{k fr:Nat}{t:List UInt8}(ht:t≠ [])(h:¬wrOk d (k:Int) (wbS d k fr t)):wbL d k fr t=none:=by
  cases t with
  | nil=>exact absurd rfl ht
  | cons x l=>rw [wbL,if_neg h]
theorem zbE(d:Dk)(k fr:Nat)(t:List UInt8)(hf:fr < 32):(wbS d k fr t).size=32:=by
  show(splice (secL ((rdO d (k:Int)).getD ⟨#[]⟩)) fr (t.take (32 - fr))).toArray.size=32
  rw [List.size_toArray,length_splice]
  · exact Zn _
  · rw [Zn,List.length_take];omega
theorem vO{α:Type}{l m:List α}{o:Nat}(h:o+m.length≤l.length)(r:Nat):(splice l o m)[r]? =if o≤r∧r < o+m.length then m[r - o]? else l[r]? :=by
  unfold splice;have h1:(l.take o).length=o:=by rw [List.length_take];omega
  by_cases hr:r < o
  · rw [if_neg (by omega),List.getElem?_append_left (by omega),List.getElem?_take,if_pos hr]
  · rw [List.getElem?_append_right (by omega),h1]
    by_cases hr2:r < o+m.length
    · rw [if_pos (by omega),List.getElem?_append_left (by omega)]
    · rw [if_neg (by omega),List.getElem?_append_right (by omega),List.getElem?_drop]
      congr 1;omega
def bt (d:Dk) (P:Nat):Option UInt8:=(rdO d ((P / 32:Nat):Int)).bind fun t=>t.data.toList[P % 32]?
theorem zbI{d:Dk}(h:d.ok){k:Nat}(hk:k < d.sec.length):∃ t:ByteArray,rdO d (k:Int)=some t∧t.size=32:=by
  unfold rdO;rw [if_pos ⟨by omega,by omega⟩];refine⟨_,rfl,?_⟩;cases hl:lastAt d.cache (k:Int) with
  | some u=>
    obtain⟨x,hx,e⟩:=YW hl;rw [Option.getD_some,←e];exact(h.2.2.2.2 x hx).2.2
  | none=>
    rw [Option.getD_none,Int.toNat_natCast,List.getD_eq_getElem?_getD,List.getElem?_eq_getElem hk];exact h.2.2.2.1 _ (List.getElem_mem hk)
theorem zcQ{d:Dk}{k:Nat}{s:ByteArray}(h:wrOk d (k:Int) s)(j:Nat):rdO (wrD d (k:Int) s) (j:Int)=if j=k then some s else rdO d (j:Int):=by
  have hk:(k:Int) < d.sec.length:=h.2.1.2;have e:wrD d (k:Int) s=⟨d.sec,d.cache++ [⟨(k:Int),s⟩]⟩:=if_pos h;rw [e];unfold rdO;simp only [yy];by_cases hj:j=k
  · subst hj
    rw [if_pos rfl,if_pos ⟨by omega,hk⟩,if_pos rfl];rfl
  · rw [if_neg hj]
    have hne:¬(k:Int)=(j:Int):=by omega
    simp only [hne,if_false]
theorem Xs{t:ByteArray}(h:t.size=32):secL t=t.data.toList:=by
  have hl:t.data.toList.length=32:=by rw [Array.length_toList];exact h
  unfold secL splice;rw [List.take_of_length_le (l:=t.data.toList) (by omega),hl];simp
theorem Jh (n:Nat):∀(t:List UInt8),t.length≤n→∀(d:Dk) (k fr:Nat),d.ok→fr < 32→32 * k+fr+t.length≤32 * d.sec.length→d.cache.length+(fr+t.length+31) / 32≤60→
    ∃ d',wbL d k fr t=some d'∧d'.ok∧d'.sec=d.sec∧d'.cache.length≤d.cache.length+(fr+t.length+31) / 32∧∀ P,bt d' P=if 32 * k+fr≤P∧P < 32 * k+fr+t.length then t[P -(32 * k+fr)]? else bt d P:=by
  induction n with
  | zero=>
    intro t ht d k fr hok hf hl hc;obtain rfl:t= []:=List.length_eq_zero_iff.1 (by omega);exact⟨d,yl _ _ _,hok,rfl,by omega,fun P=>by rw [if_neg (by simp)]⟩
  | succ n ih=>
    intro t ht d k fr hok hf hl hc;by_cases h0:t= []
    · subst h0
      exact⟨d,yl _ _ _,hok,rfl,by omega,fun P=>by rw [if_neg (by simp)]⟩
    · have htl:0 < t.length:=List.length_pos_iff.2 h0
      have hk:k < d.sec.length:=(by omega);obtain⟨o,ho,hos⟩:=zbI hok hk;have hw:wrOk d (k:Int) (wbS d k fr t):=⟨hok,⟨by omega,by omega⟩,zbE d k fr t hf,by omega⟩;have e1:=qH h0 hf hw;have hd1:(wrD d (k:Int) (wbS d k fr t))=⟨d.sec,d.cache++ [⟨(k:Int),wbS d k fr t⟩]⟩:=if_pos hw;have hok1:(wrD d (k:Int) (wbS d k fr t)).ok:=(by rw [hd1];exact(jC d _ _).2 hw);have hs1:(wrD d (k:Int) (wbS d k fr t)).sec=d.sec:=(by rw [hd1]);have hc1:(wrD d (k:Int) (wbS d k fr t)).cache.length=d.cache.length+1:=(by rw [hd1];simp);have hdl:(t.drop (32 - fr)).length=t.length -(32 - fr):=List.length_drop;obtain⟨d',h1,h2,h3,h4,h5⟩:=ih (t.drop (32 - fr)) (by omega) (wrD d (k:Int) (wbS d k fr t)) (k+1) 0 hok1 (by omega) (by rw [hs1,hdl];omega) (by rw [hc1,hdl];omega);refine⟨d',e1.trans h1,h2,h3.trans hs1,by rw [hc1,hdl] at h4;omega,fun P=>?_⟩;rw [h5 P,hdl];have hb1:bt (wrD d (k:Int) (wbS d k fr t)) P=if P / 32=k then(wbS d k fr t).data.toList[P % 32]? else bt d P:=by
        unfold bt;rw [zcQ hw (P / 32)];by_cases hp:P / 32=k
        · rw [if_pos hp,if_pos hp];rfl
        · rw [if_neg hp,if_neg hp]
      have hs:(wbS d k fr t).data.toList=splice o.data.toList fr (t.take (32 - fr)):=by
        unfold wbS;rw [ho];show splice (secL o) fr (t.take (32 - fr))=_
        rw [Xs hos]
      have hol:o.data.toList.length=32:=(by rw [Array.length_toList];exact hos);have htk:(t.take (32 - fr)).length=min (32 - fr) t.length:=List.length_take;have hbk:P / 32=k→bt d P=o.data.toList[P % 32]? :=by
        intro hp;unfold bt;rw [hp,ho];rfl
      rw [hb1];by_cases c1:32 *(k+1) +0≤P∧P < 32 *(k+1) +0+(t.length -(32 - fr))
      · rw [if_pos c1,if_pos (by omega),List.getElem?_drop]
        congr 1;omega
      · rw [if_neg c1]
        by_cases hp:P / 32=k
        · rw [if_pos hp,hs,vO (by rw [htk,hol];omega),htk]
          by_cases c2:fr≤P % 32∧P % 32 < fr+min (32 - fr) t.length
          · rw [if_pos c2,if_pos (by omega),List.getElem?_take,if_pos (by omega)]
            congr 1;omega
          · rw [if_neg c2,if_neg (by omega),hbk hp]
        · rw [if_neg hp,if_neg (by omega)]
theorem zcR{d:Dk}(h:d.ok)(a:Nat):∀ n:Nat,a+n≤d.sec.length→∃ l,stL d (a:Int) n=some l∧l.length=32 * n∧∀ P,P < 32 * n→l[P]? =bt d (32 * a+P):=by
  intro n
  induction n with
  | zero=>intro _;exact⟨[],rfl,rfl,fun P hP=>by omega⟩
  | succ n ih=>
    intro hn;obtain⟨l,h1,h2,h3⟩:=ih (by omega);obtain⟨o,ho,hos⟩:=zbI h (k:=a+n) (by omega);have hol:o.data.toList.length=32:=by rw [Array.length_toList];exact hos
    refine⟨l++o.data.toList,Xh h1 (by rw [←ho];congr 1),by rw [List.length_append,h2,hol];omega,fun P hP=>?_⟩;by_cases hp:P < 32 * n
    · rw [List.getElem?_append_left (by omega),h3 P hp]
    · rw [List.getElem?_append_right (by omega),h2]
      unfold bt;rw [show(32 * a+P) / 32=a+n by omega,ho];show _=o.data.toList[(32 * a+P) % 32]?
      congr 1;omega

/- Segments: where they lie, and their texts: SegFirst, SegText, the model's and the program's. -/
def sgF (s:Int):Int:=if 0≤s∧s≤10 then 8+8 * s else 0
theorem Yy{s:Int}(h:0≤s∧s≤10):sgF s=8+8 * s:=if_pos h
theorem zby{s:Int}(h:¬(0≤s∧s≤10)):sgF s=0:=if_neg h
def sgT (d:Dk) (s:Int):ByteArray:=if 0≤s∧s≤10 then(match stL d (8+8 * s) 8 with
  | some l=>⟨l.toArray⟩
  | none=>⟨#[]⟩) else⟨#[]⟩
theorem zaW{d:Dk}{s:Int}(h:¬(0≤s∧s≤10)):sgT d s=⟨#[]⟩:=if_neg h
theorem X8{d:Dk}{s:Int}(h:0≤s∧s≤10):∃ f:Bool,stT d (8+8 * s) 8=.tuple #[.string (sgT d s),.bool f]:=by
  unfold sgT;rw [if_pos h];cases hl:stL d (8+8 * s) 8 with
  | some l=>exact⟨true,Vj (n:=8) (by omega) hl⟩
  | none=>exact⟨false,jL (n:=8) hl⟩
theorem zaD{d:Dk}{a:Int}{t:ByteArray}{M:Nat}(h:rdO d a=some t)(ht:∀ s∈d.sec,s.size≤M)(hu:∀ x∈d.cache,x.text.size≤M):t.size≤M:=by
  have hin:=Qb h;unfold rdO at h;rw [if_pos hin] at h;cases hl:lastAt d.cache a with
  | some u=>
    rw [hl] at h;obtain⟨x,hx,e⟩:=YW hl;cases h
    rw [←e];exact hu x hx
  | none=>
    rw [hl] at h;have hk:a.toNat < d.sec.length:=by omega
    simp [List.getD_eq_getElem?_getD,List.getElem?_eq_getElem hk] at h;rw [←h];exact ht _ (List.getElem_mem hk)
theorem zbg {d:Dk} {a:Int} {M:Nat} (ht:∀ s∈d.sec,s.size≤M) (hu:∀ x∈d.cache,x.text.size≤M):∀(n:Nat) (l:List UInt8),stL d a n=some l→l.length≤n * M:=by
  intro n
  induction n with
  | zero=>intro l h;unfold stL at h;cases h;simp
  | succ n ih=>
    intro l h;unfold stL at h;cases hl:stL d a n with
    | none=>rw [hl] at h;cases h
    | some l0=>
      rw [hl] at h;cases hr:rdO d (a+(n:Int)) with
      | none=>simp only [hr] at h;cases h
      | some t=>
        simp only [hr] at h;cases h
        have h1:=ih l0 hl;have h2:=zaD hr ht hu;have h3:t.data.toList.length=t.size:=(by rw [Array.length_toList];rfl);rw [List.length_append,Nat.succ_mul];omega
theorem Z6{d:Dk}{M:Nat}(ht:∀ s∈d.sec,s.size≤M)(hu:∀ x∈d.cache,x.text.size≤M)(s:Int):(sgT d s).size≤8 * M:=by
  unfold sgT
  split
  · cases hl:stL d (8+8 * s) 8 with
    | some l=>exact zbg ht hu 8 l hl
    | none=>exact Nat.zero_le _
  · exact Nat.zero_le _
theorem zS(s:Int)(w:World):
    Calls Tryz.prog 139 #[.int .i64 s] w fun e w'=>e=.returned (.bool (decide (0≤s∧s≤10)))∧w=w':=by
  by_cases h1:0≤s
  · have g2:decide (s < 11)=decide (0≤s∧s≤10):=decide_eq_decide.2 ⟨fun h=>⟨h1,by omega⟩,fun h=>by omega⟩
    rw [←g2];clear g2;go_enter Tryz.func139,Tryz.ntmps139
    go_wp2;go_ret;exact⟨rfl,rfl⟩
  · rw [decide_eq_false (show ¬(0≤s∧s≤10) by omega)]
    go_enter Tryz.func139,Tryz.ntmps139
    go_wp2;go_ret;exact⟨rfl,rfl⟩
theorem yL(s:Int)(w:World):
    Calls Tryz.prog 141 #[.int .i64 s] w fun e w'=>e=.returned (.int .i64 (sgF s))∧w=w':=by
  by_cases h:0≤s∧s≤10
  · rw [Yy h]
    have hd:=decide_eq_true h;go_enter Tryz.func141,Tryz.ntmps141
    go_wp2_with (go_at_call 139;refine(zS _ _).mono ?_;rintro e w1 ⟨rfl,rfl⟩;rw [hd])
    go_ret;exact⟨rfl,rfl⟩
  · rw [zby h]
    have hd:=decide_eq_false h;go_enter Tryz.func141,Tryz.ntmps141
    go_wp2_with (go_at_call 139;refine(zS _ _).mono ?_;rintro e w1 ⟨rfl,rfl⟩;rw [hd])
    go_ret;exact⟨rfl,rfl⟩
theorem yJ(s:Int)(w:World):
    Calls Tryz.prog 110 #[.int .i64 s] w fun e w'=>e=.returned (.int .i64 (sgF s))∧w=w':=by
  by_cases h:0≤s∧s≤10
  · rw [Yy h]
    go_enter Tryz.func110,Tryz.ntmps110
    go_wp2_with (go_at_call 52;refine(Zo _ _ _ _ (by omega) (by omega)).mono ?_;rintro e w5 ⟨rfl,rfl⟩)
    go_ret;exact⟨congrArg (fun z=>Ending.returned (.int .i64 z)) (by omega),rfl⟩
  · rw [zby h]
    go_enter Tryz.func110,Tryz.ntmps110
    go_wp2_with (go_at_call 52;refine(Yu _ _ _ _ h).mono ?_;rintro e w5 ⟨rfl,rfl⟩)
    go_ret;exact⟨rfl,rfl⟩
theorem ZW (d:Dk) (v:Value) (s:Int) (w:World) (h:DRd w v d) (hs:d.small) (ht:∀ s∈d.sec,s.size≤1099511627776) (hu:∀ x∈d.cache,x.text.size≤1099511627776):
    Calls Tryz.prog 119 #[v,.int .i64 s] w fun e w'=>e=.returned (.string (sgT d s))∧Below w.heap.size w w':=by
  obtain⟨aa,ab,ca,cb,rfl,_,_⟩:=h.form;have hx:=Box.new w #[.slice aa d.sec.length ca,.slice ab d.cache.length cb] 27;have b0:Below w.heap.size w (w.alloc (.cells #[.slice aa d.sec.length ca,.slice ab d.cache.length cb] 27)):=(Below.refl _ _).alloc (Nat.le_refl _) _;have h':=h.later b0;by_cases hin:0≤s∧s≤10
  · have hd:=decide_eq_true hin
    obtain⟨f,hf⟩:=X8 (d:=d) hin;have HF:=hid hf;have hsf:=Yy hin;clear hf h;go_enter Tryz.func119,Tryz.ntmps119
    go_upto_region 3 with(go_at_call 139;refine(zS _ _).mono ?_;rintro e w1 ⟨rfl,rfl⟩;rw [hd])
    generalize w.alloc (.cells #[.slice aa d.sec.length ca,.slice ab d.cache.length cb] 27)=W at hx b0 h' ⊢;have hD:=h'.later ((Below.refl W.heap.size W).drew);have c0:=hx.cell 0 (.slice aa d.sec.length ca) rfl;have c1:=hx.cell 1 (.slice ab d.cache.length cb) rfl;have HS:Hid (∀ x,Below W.drew.heap.size W.drew x→x.cell? ⟨w.heap.size,0,none⟩=some (.slice aa d.sec.length ca)∧x.cell? ⟨w.heap.size,1,none⟩=some (.slice ab d.cache.length cb)∧Below w.heap.size w x):=by
      intro x hb;have hb2:Below W.heap.size W x:=((Below.refl W.heap.size W).drew).trans hb;exact⟨(hx.later hb2).cell 0 _ rfl,(hx.later hb2).cell 1 _ rfl,b0.trans (hb2.mono b0.size)⟩
    clear hx h';go_region_held3 (fun x=>x.cell? ⟨w.heap.size,0,none⟩=some (.slice aa d.sec.length ca)∧x.cell? ⟨w.heap.size,1,none⟩=some (.slice ab d.cache.length cb))
      (first | go_keep | exact⟨(HS.out _ k2).1,(HS.out _ k2).2.1⟩)
      (first
        |(go_at_call 141;refine(yL _ _).mono ?_;rintro e w1 ⟨rfl,rfl⟩;rw [hsf])
        |(go_at_call 140;refine(YV d _ (8+8 * s) 8 _ hD hs ht hu (by omega)).mono ?_;rintro e w2 ⟨rfl,k2⟩;rw [HF.out]))
    all_goals
      go_wp2
      go_ret
      exact⟨rfl,(HS.out _ k2).2.2⟩
  · rw [zaW hin]
    have hd:=decide_eq_false hin;clear h h';go_enter Tryz.func119,Tryz.ntmps119
    go_wp2_with (go_at_call 139;refine(zS _ _).mono ?_;rintro e w1 ⟨rfl,rfl⟩;rw [hd])
    go_ret;exact⟨rfl,b0⟩
theorem Zv (d:Dk) (v:Value) (s:Int) (w:World) (h:DRd w v d) (hs:d.small) (ht:∀ s∈d.sec,s.size≤1099511627776) (hu:∀ x∈d.cache,x.text.size≤1099511627776):
    Calls Tryz.prog 112 #[v,.int .i64 s] w fun e w'=>e=.returned (.string (sgT d s))∧Below w.heap.size w w':=by
  obtain⟨aa,ab,ca,cb,rfl,_,_⟩:=h.form;have hx:=Box.new w #[.slice aa d.sec.length ca,.slice ab d.cache.length cb] 27;have b0:Below w.heap.size w (w.alloc (.cells #[.slice aa d.sec.length ca,.slice ab d.cache.length cb] 27)):=(Below.refl _ _).alloc (Nat.le_refl _) _;have h':=h.later b0;by_cases hin:0≤s∧s≤10
  · obtain⟨f,hf⟩:=X8 (d:=d) hin
    have HF:=hid hf;have hsf:=Yy hin;clear hf h;go_enter Tryz.func112,Tryz.ntmps112
    go_upto_region 3 with(go_at_call 52;refine(Zo _ _ _ _ (by omega) (by omega)).mono ?_;rintro e w5 ⟨rfl,rfl⟩)
    generalize w.alloc (.cells #[.slice aa d.sec.length ca,.slice ab d.cache.length cb] 27)=W at hx b0 h' ⊢;have hD:=h'.later ((Below.refl W.heap.size W).drew);have c0:=hx.cell 0 (.slice aa d.sec.length ca) rfl;have c1:=hx.cell 1 (.slice ab d.cache.length cb) rfl;have HS:Hid (∀ x,Below W.drew.heap.size W.drew x→x.cell? ⟨w.heap.size,0,none⟩=some (.slice aa d.sec.length ca)∧x.cell? ⟨w.heap.size,1,none⟩=some (.slice ab d.cache.length cb)∧Below w.heap.size w x):=by
      intro x hb;have hb2:Below W.heap.size W x:=((Below.refl W.heap.size W).drew).trans hb;exact⟨(hx.later hb2).cell 0 _ rfl,(hx.later hb2).cell 1 _ rfl,b0.trans (hb2.mono b0.size)⟩
    clear hx h';go_region_held3 (fun x=>x.cell? ⟨w.heap.size,0,none⟩=some (.slice aa d.sec.length ca)∧x.cell? ⟨w.heap.size,1,none⟩=some (.slice ab d.cache.length cb))
      (first | go_keep | exact⟨(HS.out _ k2).1,(HS.out _ k2).2.1⟩)
      (first
        |(go_at_call 110;refine(yJ _ _).mono ?_;rintro e w1 ⟨rfl,rfl⟩;rw [hsf])
        |(go_at_call 133;refine(jj d _ (8+8 * s) 8 _ hD hs ht hu).mono ?_;rintro e w2 ⟨rfl,k2⟩;rw [HF.out]))
    all_goals
      go_wp2
      go_ret
      exact⟨rfl,(HS.out _ k2).2.2⟩
  · rw [zaW hin]
    clear h h';go_enter Tryz.func112,Tryz.ntmps112
    go_wp2_with (go_at_call 52;refine(Yu _ _ _ _ hin).mono ?_;rintro e w5 ⟨rfl,rfl⟩)
    go_ret;exact⟨rfl,b0⟩

/- Plain facts on segments: what is written in one stands there, and nowhere else. -/
theorem yn{a b:ByteArray}(h:a.data.toList=b.data.toList):a=b:=by
  obtain⟨⟨x⟩⟩:=a;obtain⟨⟨y⟩⟩:=b;simp at h;rw [h]
theorem ZB{d:Dk}(h:d.ok){i:Nat}(hi:i≤10)(hl:16+8 * i≤d.sec.length):(sgT d (i:Int)).data.toList.length=256∧∀ P,P < 256→(sgT d (i:Int)).data.toList[P]? =bt d (32 *(8+8 * i) +P):=by
  obtain⟨l,h1,h2,h3⟩:=zcR h (8+8 * i) 8 (by omega);have e:sgT d (i:Int)=⟨l.toArray⟩:=by
    unfold sgT;rw [if_pos ⟨by omega,by omega⟩,show(8+8 *(i:Int))=((8+8 * i:Nat):Int) by omega,h1]
  rw [e];exact⟨h2,fun P hP=>h3 P hP⟩
theorem Qn{d:Dk}(h:d.ok){i:Nat}(hi:i≤10)(hl:16+8 * i≤d.sec.length):(sgT d (i:Int)).size=256:=by
  have:=(ZB h hi hl).1;rw [Array.length_toList] at this;exact this
theorem zaw {d d':Dk} (h:d.ok) (h':d'.ok) (hs:d'.sec=d.sec) {s A:Nat} {t:ByteArray} (hA:A+t.size≤256)
    (hb:∀ P,bt d' P=if 32 *(8+8 * s) +A≤P∧P < 32 *(8+8 * s) +A+t.data.toList.length then t.data.toList[P -(32 *(8+8 * s) +A)]? else bt d P) {i:Nat} (hi:i≤10) (hl:16+8 * i≤d.sec.length):
    sgT d' (i:Int)=if i=s then(sgT d (i:Int)).extract 0 A++t++(sgT d (i:Int)).extract (A+t.size) (sgT d (i:Int)).size else sgT d (i:Int):=by
  obtain⟨l1,p1⟩:=ZB h hi hl;obtain⟨l2,p2⟩:=ZB h' hi (by rw [hs];exact hl);have htl:t.data.toList.length=t.size:=by rw [Array.length_toList];rfl
  have hsz:=Qn h hi hl;by_cases e:i=s
  · subst e
    rw [if_pos rfl];apply yn;have e1:((sgT d (i:Int)).extract 0 A++t++(sgT d (i:Int)).extract (A+t.size) (sgT d (i:Int)).size).data.toList=(sgT d (i:Int)).data.toList.take A++t.data.toList++(sgT d (i:Int)).data.toList.drop (A+t.size):=by
      rw [ByteArray.data_append,ByteArray.data_append,Array.toList_append,Array.toList_append,ByteArray.data_extract,ByteArray.data_extract,Array.toList_extract,Array.toList_extract,List.extract_eq_take_drop,List.extract_eq_take_drop,hsz];rw [List.drop_zero,Nat.sub_zero];congr 1;rw [List.take_of_length_le];rw [List.length_drop,l1];exact Nat.le_refl _
    rw [e1];apply List.ext_getElem?;intro P;have hAl:((sgT d (i:Int)).data.toList.take A).length=A:=by rw [List.length_take,l1];omega
    by_cases hP:P < 256
    · rw [p2 P hP,hb,htl]
      by_cases c1:P < A
      · rw [if_neg (by omega),List.append_assoc,List.getElem?_append_left (by omega),List.getElem?_take,if_pos c1,p1 P hP]
      · by_cases c2:P < A+t.size
        · rw [if_pos (by omega),List.append_assoc,List.getElem?_append_right (by omega),hAl,List.getElem?_append_left (by omega)]
          congr 1;omega
        · rw [if_neg (by omega),List.getElem?_append_right (by rw [List.length_append,hAl];omega),List.length_append,hAl,htl,List.getElem?_drop,←p1 P hP]
          congr 1;omega
    · rw [List.getElem?_eq_none (by omega),List.getElem?_eq_none]
      rw [List.length_append,List.length_append,hAl,List.length_drop,l1];omega
  · rw [if_neg e]
    apply yn;apply List.ext_getElem?;intro P;by_cases hP:P < 256
    · rw [p2 P hP,p1 P hP,hb,htl,if_neg (by omega)]
    · rw [List.getElem?_eq_none (by omega),List.getElem?_eq_none (by omega)]

/- Rows of sectors: how they lie in memory, and the texts of them. -/
def secE:Enc Sec where
  ty:=127
  sty:=205
  sz:=32
  bytes:=32
  zero:=.agg z32
  f:=fun s=>bytesV s.1
  len:=fun s=>by rw [zF,s.2]
  pos:=by decide
  one:=fun s=>yS _
  und:=Tryz.underlying205
  info:=by kernel_rfl
  zc:=rfl
  z0:=⟨List.replicate 32 0,rfl⟩
  zf:=rfl
theorem jX{w:World}{ops:Array Oper}{rest:List Oper}{o:Oper}{a:Act}{Q:Exit→Act→World→Prop}(hgd:o.guard=none)(x:Operand)(ho:o.op=.buildSlice 205 1 #[(0,x)])(s:Sec)(hx:a.eval x=s.v)
    (h:wpList Tryz.prog ops Q rest (a.put o.dst (.slice (some ⟨w.heap.size,0,none⟩) 1 1)) (w.alloc (.cells (bytesV s.1).toArray 127))):wpList Tryz.prog ops Q (o::rest) a w:=by
  obtain⟨i0,hi,hz0,hz1,hz2⟩:=info_parts secE.info;have hz1':i0.size=32:=hz1;refine wpList_buildSlice hgd _ _ 1 _ ho (bytesV s.1).toArray i0 secE.zero secE.und hi hz0 (by rw [hz1'];decide) (by rw [hz1'];decide) ?_ h;have:=Great.fill_whole (s:=32) (by decide) [s.v] ((Array.range (1 * 32)).map (secE.zero.cells[· % secE.zero.cells.size]!)) (fun v hv=>by simp at hv;subst hv;exact s.size) (by simp);rw [hz1'];have e1:(#[(0,x)].map fun(i,y)=>(i,a.eval y)).toList=([s.v].zipIdx 0).map fun x=>(x.2,x.1):=by simp [hx]
  rw [e1,this];congr 1;simp [Sec.v,Value.cells]
def Sec.str (s:Sec):ByteArray:=⟨s.1.toArray⟩
theorem yO{α:Type}{w:World}{ops:Array Oper}{rest:List Oper}{o:Oper}{a:Act}{Q:Exit→Act→World→Prop}(hg:o.guard=none)(x c:Operand)(E:Enc α)(hop:o.op=Op.makeSlice E.sty x c)
    (kl kc:IntKind) (C:Int) (n:Nat) (hl:a.eval x=.int kl 0) (hc:a.eval c=.int kc C) (hC:C=(n:Int)) (hn:(E.bytes+1) * n≤281474976710656)
    (h:∀ w',RBuf E w.heap.size w w' (.slice (some ⟨w.heap.size,0,none⟩) 0 n) []→wpList Tryz.prog ops Q rest (a.put o.dst (.slice (some ⟨w.heap.size,0,none⟩) 0 n)) w'):wpList Tryz.prog ops Q (o::rest) a w:=by
  obtain⟨i0,hi,hz0,hz1,hz2⟩:=info_parts E.info;have e0:(E.bytes+1) * n=E.bytes * n+n:=Nat.succ_mul _ _;refine wpList_make_own w hg x c E.sty hop w.heap.size E.ty i0 E.zero E.sz E.und hi hz0 hz1 kl kc C n hl hc hC (by rw [hz2];omega) (by unfold maxLen;omega) (Nat.le_refl _) ?_;intro w' hown hgrow;exact h w' ⟨hown,(Below.refl _ _).grown hgrow (Nat.le_refl _) (fun k hk=>by cases hk),hgrow.size⟩
theorem RBuf.range{B:Nat}{w0 w:World}{g cap:Nat}{l:List Sec}(h:RBuf secE B w0 w (.slice (some ⟨g,0,none⟩) l.length cap) l)(i:Nat)(s:Sec)(hi:l[i]? =some s):w.rangeAt g (i * 32) (bytesV s.1):=
  fun j v hv=>h.cell rfl i s hi j v hv
theorem JS (l:List Sec) (v:Value) (B:Nat) (w:World) (h:RBuf secE B w w v l) (hl:l.length≤1048576):
    Calls Tryz.prog 160 #[v] w fun e w'=>∃ v',e=.returned v'∧RBuf strE w.heap.size w w' v' (l.map Sec.str):=by
  obtain⟨av,cv,rfl⟩:=h.form;have H:=hid h;clear h;go_enter Tryz.func160,Tryz.ntmps160
  go_wp2_with (at_make;refine yO rfl _ _ strE rfl .i64 .i64 _ l.length rfl rfl rfl (by show 17 * l.length≤_;omega) ?_;intro w1 hr1)
  have HR1:=hid hr1;clear hr1;go_loopw [3,11] (fun tv iv wr=>∃ i:Nat,i≤l.length∧iv=.int .i64 (i:Int)∧RBuf strE w.heap.size w wr tv ((l.take i).map Sec.str)) (fun _ iv _=>l.length -(intOf iv).toNat)
  case atStart=>exact⟨0,by omega,rfl,HR1.out⟩
  case round=>
    obtain⟨i,hi,rfl,hr⟩:=hrel;obtain⟨pt,ct,rfl⟩:=hr.form;by_cases hlt:i < l.length
    · have hlen:((l.take i).map Sec.str).length=i:=by simp;omega
      rw [hlen] at hr ⊢;have hat:=List.getElem?_eq_getElem hlt;have hs:=hid (H.out.later hr.bel);obtain⟨g,rfl⟩:∃ g:Nat,av=some ⟨g,0,none⟩:=by
        rcases H.out.own.2 with⟨_,e⟩ |⟨g,cap,cur,e,_⟩
        · omega
        · simp only [Value.slice.injEq] at e;exact⟨g,e.1⟩
      have rg:=hs.out.range i _ hat
      have htk:=hid (List.take_succ_eq_append_getElem hlt);clear hat
      generalize l[i]=s at *;have hi0:(0:Int)≤(i:Int):=(by omega);have hi1:(i:Int) <(l.length:Int):=(by omega);have HR:=hid hr;have ne:(Value.slice pt i ct).ownBlock≠some wr.heap.size:=fun e=>by have:=(hr.own.lt _ e).2;omega
      have NE:=hid ne;have SW:Hid (w.heap.size≤wr.heap.size):=hr.le;have hcp:((l.take i).map Sec.str).length+ [s.str].length≤1048577:=(by simp;omega);clear hr hlen ne;go_wp2_with (first
        |((with_reducible refine YF rfl _ rfl g (i * 32) ?_ s rg ?_);exact rfl)
        |((with_reducible refine ZQ rfl _ _ rfl wr.heap.size s ?_ ?_ _ _ (Box.new wr _ _) ?_ ?_);exact rfl;exact rfl;exact rfl;intro w3 x3 g3)
        |((with_reducible refine yY rfl _ rfl wr.heap.size ?_ s _ x3 ?_);exact rfl)
        |(go_at_call 88;refine(Yj s _).mono ?_;rintro e w4 ⟨rfl,k4⟩;have r4:=(((HR.out.alloc _).grown g3 (.inr NE.out) (fun k hk=>by have:wr.heap.size=k:=Option.some.inj hk;have:=SW.out;omega)).later k4);have R4:=hid r4;have R5:=hid ((r4.alloc (.cells #[.string s.str] 9)).here);clear r4)
        |(at_builtin;refine zA rfl _ _ strE rfl w.heap.size _ _ rfl R5.out w4.heap.size _ [s.str] rfl (RBuf.lit1 strE w4 s.str) (by show _ * 17≤_;omega) ?_;intro v6 w6 r6 g6 at6;obtain⟨a6,q6,rfl⟩:=r6.form))
      have e6:((l.take i).map Sec.str++ [s.str]).length=i+1:=(by simp;omega);rw [e6] at r6;have b6:Below w.heap.size w w6:=(R4.out.alloc (.cells #[.string s.str] 9)).bel.grown g6 (R4.out.alloc (.cells #[.string s.str] 9)).le (fun k hk=>(R4.out.own.lt k hk).1);have f6:RBuf strE w.heap.size w w6 (.slice a6 (i+1) q6) ((l.take (i+1)).map Sec.str):=by
        rw [htk.out,List.map_append];exact⟨r6.own,b6,r6.le⟩
      go_roundw
      case rel=>exact⟨i+1,by omega,by go_num,f6⟩
      case measure=>simp [intOf];omega
    · have hfin:Hid (l.take i=l):=List.take_of_length_le (by omega)
      rw [hfin.out] at hr ⊢;have HR:=hid hr;clear hr;go_wp2;go_ret;exact⟨_,rfl,HR.out⟩
end Go.Proofs.YtklkhllkjnbhjaaGreatDoor
