/- Texts of our own, joined. -/
import Derived.Test.YtklkhllkjnbhjaaGreatDoorJt
import Derived.Test.YtklkhllkjnbhjaaGreatDoorJw
/- The head of a log written in its row, cell by cell: its end, and its items. -/
namespace Go.Proofs.YtklkhllkjnbhjaaGreatDoor
open Go.RowKit
set_option maxRecDepth 100000
set_option maxHeartbeats 8000000
theorem SgO.putAt {B:Nat} {w w':World} {g cap n:Nat} {bs:List Sg} {hs:List SgH} (h:SgO B w (.slice (some ⟨g,0,none⟩) n cap) bs hs) {i:Nat} (x:SgH) (b:Sg)
    (hx:x.no=b.no∧x.gen=b.gen∧x.ende=b.ende) (hm:RBuf itE B w w x.mv b.items) (hf:∀ k,x.mv.ownBlock=some k→k≠g)
    (ha:∀(j:Nat) (y:SgH),j≠i→hs[j]? =some y→∀ k,x.mv.ownBlock=some k→y.mv.ownBlock≠some k)
    (hg:w.grownBy w' (some g)) (hr:RBuf sgE B w' w' (.slice (some ⟨g,0,none⟩) n cap) (hs.set i x)):
    SgO B w' (.slice (some ⟨g,0,none⟩) n cap) (bs.set i b) (hs.set i x):=by
  have kept:∀(m:Value) (l:List Itm),RBuf itE B w w m l→(∀ k,m.ownBlock=some k→k≠g)→RBuf itE B w' w' m l:=fun m l hm hf=>by
    refine hm.shift hg ?_;cases hmb:m.ownBlock with
    | none=>exact .inl rfl
    | some k=>exact .inr (fun e=>hf k hmb (Option.some.inj e))
  have far0:∀ {j:Nat} {y:SgH},hs[j]? =some y→∀ k,y.mv.ownBlock=some k→k≠g:=fun {j y} hj k hk e=>h.far j y hj k hk (by rw [e];rfl);refine⟨hr,by simp [h.len],fun j y d h1 h2=>?_,fun j y h1 k hk=>?_,fun j k y z h1 h2 hjk q hq=>?_⟩
  · rcases zq h1 with⟨rfl,rfl⟩ |⟨hne,h1⟩
    · rcases zq h2 with⟨_,rfl⟩ |⟨hne,_⟩
      · exact⟨hx,kept _ _ hm hf⟩
      · exact absurd rfl hne
    · rcases zq h2 with⟨e,_⟩ |⟨_,h2⟩
      · exact absurd e hne
      · exact⟨(h.at' j y d h1 h2).1,kept _ _ (h.at' j y d h1 h2).2 (far0 h1)⟩
  · rcases zq h1 with⟨rfl,rfl⟩ |⟨hne,h1⟩
    · intro e;exact hf k hk (Option.some.inj e).symm
    · exact h.far j y h1 k hk
  · rcases zq h1 with⟨ej,ey⟩ |⟨nj,g1⟩
    · rcases zq h2 with⟨ek,_⟩ |⟨nk,g2⟩
      · exact absurd (ej.trans ek.symm) hjk
      · rw [ey] at hq
        exact ha k z nk g2 q hq
    · rcases zq h2 with⟨_,ez⟩ |⟨_,g2⟩
      · rw [ez];intro e;exact ha j y nj g1 q e hq
      · exact h.apart j k y z g1 g2 hjk q hq
theorem SgO.itemsAt {B:Nat} {w w5:World} {g cap n:Nat} {bs:List Sg} {hs:List SgH} (h:SgO B w (.slice (some ⟨g,0,none⟩) n cap) bs hs) (hn:n=hs.length) {i:Nat} {x0:SgH} {b0:Sg} (hi:hs[i]? =some x0) (hb:bs[i]? =some b0)
    (a':Option Addr) (n' c':Nat) (l:List Itm) (hr:RBuf itE B w5 w5 (.slice a' n' c') l) (hg:w.grownBy w5 x0.mv.ownBlock) (ho:(Value.slice a' n' c').ownBlock=x0.mv.ownBlock∨(Value.slice a' n' c').ownBlock=some w.heap.size):
    SgO B (w5.setCell ⟨g,i * 4+3,none⟩ (.slice a' n' c')) (.slice (some ⟨g,0,none⟩) n cap) (bs.set i ⟨b0.no,b0.gen,b0.ende,l⟩) (hs.set i ⟨x0.no,x0.gen,x0.ende,a',n',c'⟩):=by
  subst hn;have hgl:g < w.heap.size:=(h.row.own.lt g rfl).2;have hs5:w5.grownBy (w5.setCell ⟨g,i * 4+3,none⟩ (.slice a' n' c')) (some g):=za _ _ _ _;have new0:∀ k,(Value.slice a' n' c').ownBlock=some k→k≠g:=fun k hk e=>by
    rcases ho with h1 | h1
    · exact h.far i x0 hi k (h1 ▸ hk) (by rw [e];rfl)
    · rw [h1] at hk;have:=Option.some.inj hk;omega
  have row5:RBuf sgE B w5 w5 (.slice (some ⟨g,0,none⟩) hs.length cap) hs:=h.row.stayG hg.size (fun k hk=>by
    have hk':g=k:=Option.some.inj hk;subst hk';exact hg.block g hgl (fun e=>h.far i x0 hi g e.symm rfl))
  have kept:∀(j:Nat) (y:SgH) (m:List Itm),j≠i→hs[j]? =some y→RBuf itE B w w y.mv m→RBuf itE B (w5.setCell ⟨g,i * 4+3,none⟩ (.slice a' n' c')) (w5.setCell ⟨g,i * 4+3,none⟩ (.slice a' n' c')) y.mv m:=fun j y m hj hy hm=>by
    have h5:RBuf itE B w5 w5 y.mv m:=hm.stayG hg.size (fun k hk=>hg.block k (hm.own.lt k hk).2 (fun e=>h.apart j i y x0 hy hi hj k hk e.symm));refine h5.shift hs5 ?_;cases hmb:y.mv.ownBlock with
    | none=>exact .inl rfl
    | some k=>exact .inr (fun e=>h.far j y hy k hmb (by rw [←Option.some.inj e];rfl))
  have mine:RBuf itE B (w5.setCell ⟨g,i * 4+3,none⟩ (.slice a' n' c')) (w5.setCell ⟨g,i * 4+3,none⟩ (.slice a' n' c')) (.slice a' n' c') l:=by
    refine hr.shift hs5 ?_;cases hmb:(Value.slice a' n' c').ownBlock with
    | none=>exact .inl rfl
    | some k=>exact .inr (fun e=>new0 k hmb (Option.some.inj e))
  have other:∀(j:Nat) (y:SgH),j≠i→hs[j]? =some y→∀ k,(Value.slice a' n' c').ownBlock=some k→y.mv.ownBlock≠some k:=fun j y hj hy k hk e=>by
    rcases ho with h1 | h1
    · exact h.apart j i y x0 hy hi hj k e (h1 ▸ hk)
    · rw [h1] at hk;have:=Option.some.inj hk;have:=h.lt hy e;omega
  have hst:=row5.stored i x0 ⟨x0.no,x0.gen,x0.ende,a',n',c'⟩ hi 3 (by decide) (.slice a' n' c') rfl;refine⟨hst.here,by simp [h.len],fun j y d h1 h2=>?_,fun j y h1 k hk=>?_,fun j k y z h1 h2 hjk q hq=>?_⟩
  · rcases zq h1 with⟨rfl,rfl⟩ |⟨hne,h1⟩
    · rcases zq h2 with⟨_,rfl⟩ |⟨hne,_⟩
      · exact⟨(h.at' _ _ _ hi hb).1,mine⟩
      · exact absurd rfl hne
    · rcases zq h2 with⟨e,_⟩ |⟨_,h2⟩
      · exact absurd e hne
      · exact⟨(h.at' j y d h1 h2).1,kept j y _ hne h1 (h.at' j y d h1 h2).2⟩
  · rcases zq h1 with⟨rfl,rfl⟩ |⟨hne,h1⟩
    · intro e;exact new0 k hk (Option.some.inj e).symm
    · exact h.far j y h1 k hk
  · rcases zq h1 with⟨ej,ey⟩ |⟨nj,g1⟩
    · rcases zq h2 with⟨ek,_⟩ |⟨nk,g2⟩
      · exact absurd (ej.trans ek.symm) hjk
      · rw [ey] at hq
        exact other k z nk g2 q hq
    · rcases zq h2 with⟨_,ez⟩ |⟨_,g2⟩
      · rw [ez];intro e;exact other j y nj g1 q e hq
      · exact h.apart j k y z g1 g2 hjk q hq
theorem LgP.endeAt{B T pg gr n cu m:Nat}{w y:World}{va vb sa sb:Value}{L:Lg}{hs:List SgH}(h:LgP B T w va vb (.slice (some ⟨gr,0,none⟩) m cu) L hs)(hf:LgFar pg (pg+1) va vb (.slice (some ⟨gr,0,none⟩) m cu) hs)(hm:m=hs.length)(hpg:pg < w.heap.size)
    (hy:Below w.heap.size w y) {d:Dk} (hd:DOwn w.heap.size y.heap.size y (.agg #[sa,sb]) d) {x0:SgH} {s:Sg} (hi:hs[n]? =some x0) (hs0:L.used[n]? =some s) (en:Int) (segs ng ns st nv:Int):
    LgP B (((y.setCell ⟨pg,0,none⟩ sa).setCell ⟨pg,1,none⟩ sb).setCell ⟨gr,n * 4+2,none⟩ (.int .i64 en)).heap.size (((y.setCell ⟨pg,0,none⟩ sa).setCell ⟨pg,1,none⟩ sb).setCell ⟨gr,n * 4+2,none⟩ (.int .i64 en)) sa sb (.slice (some ⟨gr,0,none⟩) m cu) ⟨d,segs,L.used.set n ⟨s.no,s.gen,en,s.items⟩,ng,ns,st,nv⟩ (hs.set n ⟨x0.no,x0.gen,en,x0.a,x0.n,x0.c⟩):=by
  have hgr:=h.use.row gr rfl;have hgrw:gr < w.heap.size:=Nat.lt_of_lt_of_le hgr h.use.le;have g2:y.grownBy ((y.setCell ⟨pg,0,none⟩ sa).setCell ⟨pg,1,none⟩ sb) (some pg):=(za y pg 0 sa).trans (za _ pg 1 sb);obtain⟨Y,hY⟩:∃ Y,(y.setCell ⟨pg,0,none⟩ sa).setCell ⟨pg,1,none⟩ sb=Y:=⟨_,rfl⟩;rw [hY] at g2 ⊢;have hP:=(h.later hy).aside hf ⟨Nat.le_refl _,Nat.lt_succ_self _⟩ g2;have g3:Y.grownBy (Y.setCell ⟨gr,n * 4+2,none⟩ (.int .i64 en)) (some gr):=za _ _ _ _;have hrow:=hP.use.own.row;rw [hm] at hrow;have hst:=hrow.stored n x0 ⟨x0.no,x0.gen,en,x0.a,x0.n,x0.c⟩ hi 2 (by decide) (.int .i64 en) rfl;have hat:=hP.use.own.at' n x0 s hi hs0;have hown:SgO B (Y.setCell ⟨gr,n * 4+2,none⟩ (.int .i64 en)) (.slice (some ⟨gr,0,none⟩) m cu) (L.used.set n ⟨s.no,s.gen,en,s.items⟩) (hs.set n ⟨x0.no,x0.gen,en,x0.a,x0.n,x0.c⟩):=
    hP.use.own.putAt _ _ ⟨hat.1.1,hat.1.2.1,rfl⟩ hat.2 (fun k hk e=>hP.use.own.far n x0 hi k hk (by rw [e];rfl)) (fun j z hj hz k hk=>hP.use.own.apart n j x0 z hi hz (fun e=>hj e.symm) k hk) g3 (by rw [hm];exact hst.here)
  have hd2:DOwn w.heap.size y.heap.size (Y.setCell ⟨gr,n * 4+2,none⟩ (.int .i64 en)) (.agg #[sa,sb]) d:=(hd.stayO g2.size (fun q h1 h2=>g2.block q h2 (fun e=>by have:=Option.some.inj e;omega))).stayO g3.size (fun q h1 h2=>g3.block q (Nat.lt_of_lt_of_le h2 g2.size) (fun e=>by have:=Option.some.inj e;omega));have hBle:B≤w.heap.size:=by have:=(h.use.own.row.own.lt gr rfl).1;omega
  refine LgP.mkW hd2 hown.gown hBle (fun k hk=>?_) (fun j z hj k hk=>?_)
  · have:=h.use.row k hk;have:=h.use.le;exact .inl (by omega)
  · have hl:=h.use.le
    rcases zq hj with⟨_,rfl⟩ |⟨_,hj⟩
    · exact .inl (by have:=h.use.its n x0 hi k hk;omega)
    · exact .inl (by have:=h.use.its j z hj k hk;omega)
theorem LgP.itemsAt{B T gr n cu m:Nat}{w w5:World}{va vb:Value}{L:Lg}{hs:List SgH}(h:LgP B T w va vb (.slice (some ⟨gr,0,none⟩) m cu) L hs)(hm:m=hs.length){x0:SgH}{s:Sg}(hi:hs[n]? =some x0)(hs0:L.used[n]? =some s)
    (a':Option Addr) (n' c':Nat) (l:List Itm) (hr:RBuf itE B w5 w5 (.slice a' n' c') l) (hg:w.grownBy w5 x0.mv.ownBlock) (ho:(Value.slice a' n' c').ownBlock=x0.mv.ownBlock∨(Value.slice a' n' c').ownBlock=some w.heap.size):
    LgP B (w5.setCell ⟨gr,n * 4+3,none⟩ (.slice a' n' c')).heap.size (w5.setCell ⟨gr,n * 4+3,none⟩ (.slice a' n' c')) va vb (.slice (some ⟨gr,0,none⟩) m cu) ⟨L.d,L.segs,L.used.set n ⟨s.no,s.gen,s.ende,l⟩,L.ng,L.ns,L.st,L.nv⟩ (hs.set n ⟨x0.no,x0.gen,x0.ende,a',n',c'⟩):=by
  have hown:=h.use.own.itemsAt hm hi hs0 a' n' c' l hr hg ho;have g3:w5.grownBy (w5.setCell ⟨gr,n * 4+3,none⟩ (.slice a' n' c')) (some gr):=za _ _ _ _;have same:∀ k,va.ownBlock=some k∨vb.ownBlock=some k→k < w.heap.size→(w5.setCell ⟨gr,n * 4+3,none⟩ (.slice a' n' c')).heap[k]? =w.heap[k]? :=fun k hk hlt=>by
    have hfk:=h.far k hk;have h1:=hg.block k hlt (fun e=>hfk.2 n x0 hi e.symm);exact(g3.block k (Nat.lt_of_lt_of_le hlt hg.size) (fun e=>hfk.1 (by rw [Option.some.inj e];rfl))).trans h1
  have hz:w.heap.size≤(w5.setCell ⟨gr,n * 4+3,none⟩ (.slice a' n' c')).heap.size:=Nat.le_trans hg.size g3.size;have hT:=h.use.le;refine⟨⟨h.sec.1.stayG hz (fun k hk=>same k (.inl hk) (h.sec.1.own.lt k hk).2),Nat.le_refl _,fun k hk=>by have:=h.sec.2.2 k hk;omega⟩,⟨h.cac.1.stayG hz (fun k hk=>same k (.inr hk) (h.cac.1.own.lt k hk).2),Nat.le_refl _,fun k hk=>by have:=h.cac.2.2 k hk;omega⟩,h.two,hown.gown,fun k hk=>⟨(h.far k hk).1,fun j z hj=>?_⟩⟩;rcases zq hj with⟨_,rfl⟩ |⟨_,hj⟩
  · rcases ho with h1 | h1
    · intro e;exact(h.far k hk).2 n x0 hi (h1 ▸ e)
    · intro e
      have e2:(Value.slice a' n' c').ownBlock=some k:=e;rw [h1] at e2;have:=Option.some.inj e2;rcases hk with hk | hk
      · have:=(h.sec.1.own.lt k hk).2;omega
      · have:=(h.cac.1.own.lt k hk).2;omega
  · exact(h.far k hk).2 j z hj
end Go.Proofs.YtklkhllkjnbhjaaGreatDoor
