/- Texts of our own, joined. -/
import Derived.Test.YtklkhllkjnbhjaaGreatDoorJl
/- A segment as it is on a disk: its items, and while they are gathered. -/
namespace Go.Proofs.YtklkhllkjnbhjaaGreatDoor
open Go.RowKit
open Lib (hid)
set_option maxRecDepth 100000
set_option maxHeartbeats 8000000
def fiO (f:Fr):Option Itm:=if f.ok then(rrO f.body).map (fun r=>(f.seq,r)) else none
theorem ql{f:Fr}{x:Itm}(h:fiO f=some x):fiT f=.tuple #[itV x.1 x.2,.bool true]:=by
  unfold fiO at h;by_cases c:f.ok
  · rw [if_pos c] at h
    cases hr:rrO f.body with
    | none=>rw [hr] at h;cases h
    | some r=>rw [hr] at h;cases h;exact vQ c hr
  · rw [if_neg c] at h;cases h
theorem V8{f:Fr}(h:fiO f=none):fiT f=.tuple #[itV 0 Rc.nil,.bool false]:=by
  unfold fiO at h;by_cases c:f.ok
  · rw [if_pos c] at h
    cases hr:rrO f.body with
    | none=>exact Vu hr
    | some r=>rw [hr] at h;cases h
  · exact qq c
def sgI (t:ByteArray):List Itm:=(sfL t).filterMap fiO
def sgOf (d:Dk) (s:Int):Sg:=⟨s,sgG (sgT d s),(sfE (sgT d s):Int),sgI (sgT d s)⟩
theorem zbx(t:ByteArray):∀ f∈sfL t,f.ok:=by
  intro f hf;unfold sfL at hf
  split at hf
  · cases hf
  · have h1:=List.mem_of_mem_drop hf
    unfold scanL scan at h1;obtain⟨x,hx,rfl⟩:=List.mem_map.1 h1;exact((vK (four:=fourOf) (s:=t) (g:=sgG t) (k:=0) (Nat.zero_le _)).1 x hx).1
theorem JT{fs:List Fr}{i:Nat}{f:Fr}{x:Itm}(h:fs[i]? =some f)(hx:fiO f=some x):(fs.take (i+1)).filterMap fiO=(fs.take i).filterMap fiO++ [x]:=by
  rw [List.take_add_one,h,List.filterMap_append];simp [hx]
theorem Jz{fs:List Fr}{i:Nat}{f:Fr}(h:fs[i]? =some f)(hx:fiO f=none):(fs.take (i+1)).filterMap fiO=(fs.take i).filterMap fiO:=by
  rw [List.take_add_one,h,List.filterMap_append];simp [hx]
theorem VR(fs:List Fr)(i:Nat):((fs.take i).filterMap fiO).length≤fs.length:=by
  refine Nat.le_trans (List.length_filterMap_le _ _) ?_;rw [List.length_take];omega
theorem Rows'.framesG{w:World}{v:Value}{l:List Fr}(h:Rows' frE w v l):∃(ad:Option Addr) (cap:Nat),v=.slice ad l.length cap∧∀ X,Below w.heap.size w X→∀(i:Nat) (f:Fr),l[i]? =some f→∃ g off:Nat,ad=some ⟨g,off,none⟩∧
    X.cell? ⟨g,off+i * 3,none⟩=some (.int .i64 f.gen)∧X.cell? ⟨g,off+i * 3+1,none⟩=some (.int .i64 f.seq)∧X.cell? ⟨g,off+i * 3+2,none⟩=some (.string f.body):=by
  rcases h.ways with⟨rfl,a,c,rfl⟩ |⟨hne,g,off,c,rfl,hc,hg,hcl⟩
  · exact⟨a,c,rfl,fun X _ i b hi=>by cases hi⟩
  · refine⟨_,c,rfl,fun X hb i f hi=>⟨g,off,rfl,?_,?_,?_⟩⟩
    · exact(hb.cell (p:=⟨g,off+i * 3,none⟩) hg).trans (hcl i f hi 0 _ rfl)
    · exact(hb.cell (p:=⟨g,off+i * 3+1,none⟩) hg).trans (hcl i f hi 1 _ rfl)
    · exact(hb.cell (p:=⟨g,off+i * 3+2,none⟩) hg).trans (hcl i f hi 2 _ rfl)
theorem Box.butG{w X:World}{b:Nat}{cs:Array Value}{t:TypeId}{r:Option Nat}(h:Box w b cs t)(hg:w.grownBy X r)(hne:∀ k,r=some k→k≠b):Box X b cs t:=(hg.block b h.lt (fun e=>hne b e.symm rfl)).trans h
theorem Box.fourG{w:World}{b:Nat}{u0 u1 u2 u3:Value}{t:TypeId}(h:Box w b #[u0,u1,u2,u3] t):w.cell? ⟨b,0,none⟩=some u0∧w.cell? ⟨b,1,none⟩=some u1∧w.cell? ⟨b,2,none⟩=some u2∧w.cell? ⟨b,3,none⟩=some u3∧w.frozen? ⟨b,0,none⟩=false∧w.frozen? ⟨b,1,none⟩=false∧w.frozen? ⟨b,2,none⟩=false∧w.frozen? ⟨b,3,none⟩=false:=
  ⟨h.cell 0 _ rfl,h.cell 1 _ rfl,h.cell 2 _ rfl,h.cell 3 _ rfl,h.loose 0,h.loose 1,h.loose 2,h.loose 3⟩
theorem Box.set4G{w:World}{b:Nat}{u0 u1 u2 u3:Value}{t:TypeId}(h:Box w b #[u0,u1,u2,u3] t)(v0 v1 v2 v3:Value):Box ((((w.setCell ⟨b,0,none⟩ v0).setCell ⟨b,1,none⟩ v1).setCell ⟨b,2,none⟩ v2).setCell ⟨b,3,none⟩ v3) b #[v0,v1,v2,v3] t:=(((h.set 0 v0).set 1 v1).set 2 v2).set 3 v3
theorem RBuf.set4G{α:Type}{E:Enc α}{B g:Nat}{w0 x:World}{v:Value}{l:List α}(h:RBuf E B x x v l)(hb:Below w0.heap.size w0 x)(hB:w0.heap.size≤B)(hg:g < B)(hw:w0.heap.size≤g)(v0 v1 v2 v3:Value):RBuf E w0.heap.size w0 ((((x.setCell ⟨g,0,none⟩ v0).setCell ⟨g,1,none⟩ v1).setCell ⟨g,2,none⟩ v2).setCell ⟨g,3,none⟩ v3) v l:=by
  have hne:v.ownBlock=none∨v.ownBlock≠some g:=.inr (fun e=>by have:=(h.own.lt g e).1;omega);have h0:=h.shift (za _ g 0 v0) hne;have h1:=h0.shift (za _ g 1 v1) hne;have h2:=h1.shift (za _ g 2 v2) hne;have h3:=h2.shift (za _ g 3 v3) hne;exact h3.down ((((hb.setCell (p:=⟨g,0,none⟩) hw v0).setCell (p:=⟨g,1,none⟩) hw v1).setCell (p:=⟨g,2,none⟩) hw v2).setCell (p:=⟨g,3,none⟩) hw v3) hB
theorem Box.nineG{w:World}{b:Nat}{u0 u1 u2 u3 u4 u5 u6 u7 u8:Value}{t:TypeId}(h:Box w b #[u0,u1,u2,u3,u4,u5,u6,u7,u8] t):w.cell? ⟨b,0,none⟩=some u0∧w.cell? ⟨b,1,none⟩=some u1∧w.cell? ⟨b,2,none⟩=some u2∧w.cell? ⟨b,3,none⟩=some u3∧w.cell? ⟨b,4,none⟩=some u4∧w.cell? ⟨b,5,none⟩=some u5∧w.cell? ⟨b,6,none⟩=some u6∧w.cell? ⟨b,7,none⟩=some u7∧w.cell? ⟨b,8,none⟩=some u8:=
  ⟨h.cell 0 _ rfl,h.cell 1 _ rfl,h.cell 2 _ rfl,h.cell 3 _ rfl,h.cell 4 _ rfl,h.cell 5 _ rfl,h.cell 6 _ rfl,h.cell 7 _ rfl,h.cell 8 _ rfl⟩
structure SgL (w1:World) (B:Nat) (tS:TypeId) (no gn en:Int) (x:World) (a:Option Addr) (cap:Nat) (l:List Itm):Prop where
  seg:Box x w1.heap.size #[.int .i64 no,.int .i64 gn,.int .i64 en,.slice a l.length cap] tS
  its:RBuf itE B x x (.slice a l.length cap) l
  bel:Below w1.heap.size w1 x
  lt:w1.heap.size < B
theorem SgL.later{w1:World}{B:Nat}{tS:TypeId}{no gn en:Int}{x y:World}{a:Option Addr}{cap:Nat}{l:List Itm}(h:SgL w1 B tS no gn en x a cap l)(hb:Below x.heap.size x y):SgL w1 B tS no gn en y a cap l:=
  ⟨h.seg.later hb,(h.its.later hb).here,h.bel.trans (hb.mono h.bel.size),h.lt⟩
theorem SgL.push{w1:World}{B:Nat}{tS:TypeId}{no gn en:Int}{x y:World}{a:Option Addr}{cap:Nat}{l m:List Itm}(h:SgL w1 B tS no gn en x a cap l)
    (a2:Option Addr) (c2:Nat) (hr:RBuf itE B y y (.slice a2 m.length c2) m) (hg:x.grownBy y (Value.slice a l.length cap).ownBlock):SgL w1 B tS no gn en (y.setCell ⟨w1.heap.size,3,none⟩ (.slice a2 m.length c2)) a2 c2 m:=by
  have hne:∀ k,(Value.slice a l.length cap).ownBlock=some k→B≤k:=fun k hk=>(h.its.own.lt k hk).1;have b3:=h.seg.butG hg (fun k hk=>by have:=hne k hk;have:=h.lt;omega);refine⟨b3.set 3 _,hr.shift (za _ w1.heap.size 3 _) ?_,(h.bel.grown hg h.bel.size (fun k hk=>by have:=hne k hk;have:=h.lt;omega)).setCell (p:=⟨w1.heap.size,3,none⟩) (Nat.le_refl _) _,h.lt⟩;cases hb:(Value.slice a2 m.length c2).ownBlock with
  | none=>exact .inl rfl
  | some k=>
    right;intro e;have e1:k=w1.heap.size:=Option.some.inj e;have:=(hr.own.lt k hb).1;have:=h.lt;omega
theorem SgL.cells{w1:World}{B:Nat}{tS:TypeId}{no gn en:Int}{x y:World}{a:Option Addr}{cap:Nat}{l:List Itm}(h:SgL w1 B tS no gn en x a cap l)
    (hg:x.grownBy y (Value.slice a l.length cap).ownBlock):y.cell? ⟨w1.heap.size,3,none⟩=some (.slice a l.length cap)∧y.frozen? ⟨w1.heap.size,3,none⟩=false:=by
  have hne:∀ k,(Value.slice a l.length cap).ownBlock=some k→B≤k:=fun k hk=>(h.its.own.lt k hk).1;have b3:=h.seg.butG hg (fun k hk=>by have:=hne k hk;have:=h.lt;omega);exact⟨b3.cell 3 _ rfl,b3.loose 3⟩
def SoR (s:Sg) (w:World) (e:Ending) (w':World):Prop:=∃(a:Option Addr) (cap:Nat),e=.returned (.agg #[.int .i64 s.no,.int .i64 s.gen,.int .i64 s.ende,.slice a s.items.length cap])∧RBuf itE w.heap.size w w' (.slice a s.items.length cap) s.items

/- What records tell: the model's choice of a record. -/
structure BsI (w:World) (g0 g1:Nat) (x:Itm) (X:World):Prop where
  res:Box X g0 #[.int .i64 0,.int .i64 0,.int .i64 0,.int .i64 0,.int .i64 0,.int .i64 0,.string ⟨#[]⟩,.string ⟨#[]⟩,.string ⟨#[]⟩] 44
  out:Box X g1 #[.int .i64 x.1,.int .i64 x.2.kind,.int .i64 x.2.valid,.int .i64 x.2.uid,.int .i64 x.2.next,.int .i64 x.2.flags,.string x.2.user,.string x.2.name,.string x.2.text] 44
  bel:Below w.heap.size w X
  l0:w.heap.size≤g0
  l1:w.heap.size≤g1
  n01:g0≠g1

/- Right items, plainly: as they are gone through. -/
def itOk (x:Itm):Prop:=(1≤x.1∧x.1≤1000000000)∧x.2.ok
def ItG (l:List Itm) (i:Nat):Prop:=(∀(j:Nat) (x:Itm),l[j]? =some x→j < i→itOk x)∧∀(j k:Nat) (x y:Itm),l[j]? =some x→l[k]? =some y→j < k→k < i→x.1=y.1→x=y
noncomputable instance decItemsOk (l:List Itm):Decidable (itemsOk l):=Classical.propDecidable _
theorem ItG.zero(l:List Itm):ItG l 0:=⟨fun _ _ _ h=>by omega,fun _ _ _ _ _ _ _ h=>by omega⟩
theorem ItG.next{l:List Itm}{i:Nat}{x:Itm}(h:ItG l i)(hx:l[i]? =some x)(hok:itOk x)(hd:∀(j:Nat) (y:Itm),l[j]? =some y→j < i→y.1=x.1→y=x):ItG l (i+1):=by
  refine⟨fun j y hy hj=>?_,fun j k y z hy hz hjk hk e=>?_⟩
  · by_cases e:j=i
    · subst e;rw [hx] at hy;cases hy;exact hok
    · exact h.1 j y hy (by omega)
  · by_cases e2:k=i
    · subst e2;rw [hx] at hz;cases hz;exact hd j y hy hjk e
    · exact h.2 j k y z hy hz hjk (by omega) e
theorem ItG.done{l:List Itm}(h:ItG l l.length):decide (itemsOk l)=decide (l.length≤200):=by
  apply decide_eq_decide.2;constructor
  · exact fun c=>c.2.2
  · intro hl
    refine⟨fun x hx=>?_,fun x hx y hy e=>?_,hl⟩
    · obtain⟨j,hj,rfl⟩:=List.getElem_of_mem hx
      exact h.1 j _ (List.getElem?_eq_getElem hj) hj
    · obtain⟨j,hj,rfl⟩:=List.getElem_of_mem hx
      obtain⟨k,hk,rfl⟩:=List.getElem_of_mem hy;rcases Nat.lt_trichotomy j k with c | c | c
      · exact h.2 j k _ _ (List.getElem?_eq_getElem hj) (List.getElem?_eq_getElem hk) c hk e
      · subst c;rfl
      · exact(h.2 k j _ _ (List.getElem?_eq_getElem hk) (List.getElem?_eq_getElem hj) c hj e.symm).symm
theorem Yx{l:List Itm}{i:Nat}{x:Itm}(hx:l[i]? =some x)(h:¬itOk x):decide (itemsOk l)=false:=
  decide_eq_false fun c=>h (c.1 x (List.mem_of_getElem? hx))
theorem Ve{l:List Itm}{j i:Nat}{x y:Itm}(hx:l[j]? =some x)(hy:l[i]? =some y)(e:x.1=y.1)(h:x≠y):decide (itemsOk l)=false:=
  decide_eq_false fun c=>h (c.2.1 x (List.mem_of_getElem? hx) y (List.mem_of_getElem? hy) e)

/- What records tell: the model's ItemsOk. -/
theorem qY(a b:ByteArray):a.toList=b.toList↔a=b:=by
  have h:=vN a b;constructor
  · intro e
    rw [beq_iff_eq.2 e] at h;exact of_decide_eq_true h.symm
  · intro e;rw [e]
def ItRow (w:World) (ad:Option Addr) (l:List Itm):Prop:=∀ X,Below w.heap.size w X→∀ i x,l[i]? =some x→∃ g off,ad=some ⟨g,off,none⟩∧X.cell? ⟨g,off+i * 9,none⟩=some (.int .i64 x.1)∧X.cell? ⟨g,off+i * 9+1,none⟩=some (.int .i64 x.2.kind)∧X.cell? ⟨g,off+i * 9+2,none⟩=some (.int .i64 x.2.valid)∧X.cell? ⟨g,off+i * 9+3,none⟩=some (.int .i64 x.2.uid)∧X.cell? ⟨g,off+i * 9+4,none⟩=some (.int .i64 x.2.next)∧X.cell? ⟨g,off+i * 9+5,none⟩=some (.int .i64 x.2.flags)∧X.cell? ⟨g,off+i * 9+6,none⟩=some (.string x.2.user)∧X.cell? ⟨g,off+i * 9+7,none⟩=some (.string x.2.name)∧X.cell? ⟨g,off+i * 9+8,none⟩=some (.string x.2.text)
theorem Rows'.items{w:World}{v:Value}{l:List Itm}(h:Rows' itE w v l):∃(ad:Option Addr) (cap:Nat),v=.slice ad l.length cap∧ItRow w ad l:=by
  rcases h.ways with⟨rfl,a,c,rfl⟩ |⟨hne,g,off,c,rfl,hc,hg,hcl⟩
  · exact⟨a,c,rfl,fun X _ i x hi=>by cases hi⟩
  · exact⟨_,c,rfl,fun X hb i x hi=>⟨g,off,rfl,zaU hcl hg hb i x hi⟩⟩
theorem Jy (l : List Itm) (v:Value) (w:World) (h:Rows' itE w v l) (hl:l.length≤1099511627776) (hsz:∀ x∈l,x.2.user.size≤1099511627776∧x.2.name.size≤1099511627776∧x.2.text.size≤1099511627776):
    Calls Tryz.prog 54 #[v] w fun e w'=>e=.returned (.bool (decide (itemsOk l)))∧Below w.heap.size w w':=by
  obtain⟨ad,cap,rfl,hrow⟩:=h.items;have HR:=hid hrow;have HZ:=hid hsz;clear h hrow hsz;obtain⟨D,hD⟩:∃ D,decide (itemsOk l)=D:=⟨_,rfl⟩;have HD:=hid hD;rw [hD];clear hD;go_enter Tryz.func54,Tryz.ntmps54
  go_wp2;go_loopw [3] (fun iv wr=>∃ i:Nat,i≤l.length∧iv=.int .i64 (i:Int)∧ItG l i∧Below w.heap.size w wr) (fun iv _=>l.length -(intOf iv).toNat)
  case atStart=>exact⟨0,by omega,rfl,ItG.zero l,Below.refl _ _⟩
  case round=>
    obtain⟨i,hi,rfl,hG,hb⟩:=hrel;have HG:=hid hG;clear hG;by_cases hlt:i < l.length
    · have hgx:l[i]? =some l[i]:=List.getElem?_eq_getElem hlt
      have hzx:=HZ.out l[i] (List.getElem_mem hlt);obtain⟨ga,oa,rfl,a0,a1,a2,a3,a4,a5,a6,a7,a8⟩:=HR.out _ hb i _ hgx;obtain⟨x,hx⟩:∃ x,l[i]=x:=⟨_,rfl⟩;rw [hx] at hgx hzx a0 a1 a2 a3 a4 a5 a6 a7 a8;clear hx;have HX:=hid hgx;obtain⟨sq,K,V,U,N,FL,US,NM,TX⟩:=x;simp only at a0 a1 a2 a3 a4 a5 a6 a7 a8 hzx;have hi0:(0:Int)≤(i:Int):=(by omega);have hi1:(i:Int) <(l.length:Int):=(by omega);clear hgx;by_cases hs:1≤sq∧sq≤1000000000
      · obtain ⟨hs1,hs2⟩:=hs
        have hRO:=fun wx=>yw ⟨K,V,U,N,FL,US,NM,TX⟩ wx hzx.1 hzx.2.1 hzx.2.2;by_cases hok:(⟨K,V,U,N,FL,US,NM,TX⟩:Rc).ok
        · rw [decide_eq_true hok] at hRO
          have HOK:Hid (itOk (sq,⟨K,V,U,N,FL,US,NM,TX⟩)):=⟨⟨hs1,hs2⟩,hok⟩;unfold Rc.v at hRO;simp only at hRO;have HRO:=hid hRO;clear hRO hok;go_wp2_with (first |(go_at_call 52;refine(zg _ _ _ _ hs1 hs2).mono ?_;rintro e w5 ⟨rfl,rfl⟩) |(go_at_call 83;refine(HRO.out _).mono ?_;rintro e w6 ⟨rfl,k6⟩))
          have b6:=hb.trans (k6.mono hb.size);clear a0 a1 a2 a3 a4 a5 a6 a7 a8 k6 hb HRO hzx hs1 hs2;go_loopw [4] (fun kv wr2=>∃ k:Nat,k≤i∧kv=.int .i64 (k:Int)∧(∀(j:Nat) (y:Itm),l[j]? =some y→j < k→y.1=sq→y=(sq,⟨K,V,U,N,FL,US,NM,TX⟩))∧Below w.heap.size w wr2) (fun kv _=>i -(intOf kv).toNat)
          case atStart=>exact⟨0,by omega,rfl,fun j y _ hj=>by omega,b6⟩
          case round=>
            obtain⟨k,hk,rfl,hU,hb⟩:=hrel;have HU:=hid hU;clear hU b6;by_cases hlk:k < i
            · have hgy:l[k]? =some (l[k]'(by omega)):=List.getElem?_eq_getElem (by omega)
              obtain⟨ga2,oa2,he,c0,c1,c2,c3,c4,c5,c6,c7,c8⟩:=HR.out _ (hb.trans ((Below.refl wr.heap.size wr).drew.mono hb.size)) k _ hgy;cases he
              obtain⟨ga3,oa3,he,a0,a1,a2,a3,a4,a5,a6,a7,a8⟩:=HR.out _ (hb.trans ((Below.refl wr.heap.size wr).drew.mono hb.size)) i _ HX.out;cases he
              obtain⟨y,hy⟩:∃ y,l[k]'(by omega)=y:=⟨_,rfl⟩;rw [hy] at hgy c0 c1 c2 c3 c4 c5 c6 c7 c8;clear hy;have HY:=hid hgy;obtain⟨sq2,K2,V2,U2,N2,FL2,US2,NM2,TX2⟩:=y;simp only at a0 a1 a2 a3 a4 a5 a6 a7 a8 c0 c1 c2 c3 c4 c5 c6 c7 c8;have hk0:(0:Int)≤(k:Int):=(by omega);have hk1:(k:Int) <(l.length:Int):=(by omega);have hk2:(k:Int) <(i:Int):=(by omega);clear hgy;have bD:Below w.heap.size w wr.drew:=hb.trans ((Below.refl wr.heap.size wr).drew.mono hb.size);clear hb;by_cases hq:sq2=sq
              · subst hq
                by_cases hsame:K2=K∧V2=V∧U2=U∧N2=N∧FL2=FL∧US2=US∧NM2=NM∧TX2=TX
                · obtain⟨rfl,rfl,rfl,rfl,rfl,rfl,rfl,rfl⟩:=hsame
                  go_wp2_with fail
                  refine wp_region_held_drew (S:=fun x=>wr.drew=x) (by kernel_rfl) rfl (fun hHeld=>?_);refine tk 0 (.slice (some ⟨ga,oa,none⟩) l.length cap) ?_ (hr:=fun x hSx=>by subst hSx;go_simp);refine tk 1 (.int .i64 (k:Int)) ?_ (hr:=fun x hSx=>by subst hSx;go_simp);refine tk 2 (.pointer (some ⟨ga,oa+k * 9,none⟩)) ?_ (hr:=fun x hSx=>by subst hSx;go_simp);refine tk 3 (.pointer (some ⟨ga,oa+k * 9,none⟩)) ?_ (hr:=fun x hSx=>by subst hSx;go_simp);refine tk 4 (.int .i64 sq2) ?_ (hr:=fun x hSx=>by subst hSx;go_simp);refine tk 5 (.slice (some ⟨ga,oa,none⟩) l.length cap) ?_ (hr:=fun x hSx=>by subst hSx;go_simp);refine tk 6 (.int .i64 (i:Int)) ?_ (hr:=fun x hSx=>by subst hSx;go_simp);refine tk 7 (.pointer (some ⟨ga,oa+i * 9,none⟩)) ?_ (hr:=fun x hSx=>by subst hSx;go_simp);refine tk 8 (.pointer (some ⟨ga,oa+i * 9,none⟩)) ?_ (hr:=fun x hSx=>by subst hSx;go_simp);refine tk 9 (.int .i64 sq2) ?_ (hr:=fun x hSx=>by subst hSx;go_simp);refine tk 10 (.bool true) ?_ (hr:=fun x hSx=>by subst hSx;go_simp);refine tk 11 (.bool true) ?_ (hr:=fun x hSx=>by subst hSx;go_simp);refine tk 12 (.slice (some ⟨ga,oa,none⟩) l.length cap) ?_ (hr:=fun x hSx=>by subst hSx;go_simp);refine tk 13 (.int .i64 (k:Int)) ?_ (hr:=fun x hSx=>by subst hSx;go_simp);refine tk 14 (.pointer (some ⟨ga,oa+k * 9,none⟩)) ?_ (hr:=fun x hSx=>by subst hSx;go_simp);refine tk 15 (.agg #[.int .i64 sq2,.int .i64 K2,.int .i64 V2,.int .i64 U2,.int .i64 N2,.int .i64 FL2,.string US2,.string NM2,.string TX2]) ?_ (hr:=fun x hSx=>by subst hSx;go_simp);refine tk 16 (.slice (some ⟨ga,oa,none⟩) l.length cap) ?_ (hr:=fun x hSx=>by subst hSx;go_simp);refine tk 17 (.int .i64 (i:Int)) ?_ (hr:=fun x hSx=>by subst hSx;go_simp);refine tk 18 (.pointer (some ⟨ga,oa+i * 9,none⟩)) ?_ (hr:=fun x hSx=>by subst hSx;go_simp);refine tk 19 (.agg #[.int .i64 sq2,.int .i64 K2,.int .i64 V2,.int .i64 U2,.int .i64 N2,.int .i64 FL2,.string US2,.string NM2,.string TX2]) ?_ (hr:=fun x hSx=>by subst hSx;go_simp);refine tk 20 (.bool false) ?_ (hr:=fun x hSx=>by subst hSx;go_simp);refine tk 21 (.bool false) ?_ (hr:=fun x hSx=>by subst hSx;go_simp);refine wpAnyH_done (by kernel_rfl) ?_ _;go_wp2;exact⟨⟨k+1,by omega,by go_num,fun j y hj hjk e=>by
                    by_cases c:j=k
                    · subst c;have:=HY.out;rw [hj] at this;cases this;rfl
                    · exact HU.out j y hj (by omega) e,bD⟩,by first | omega |(simp [intOf];omega)⟩
                · have HE:Hid (D=false):=by
                    rw [←HD.out];exact Ve HY.out HX.out rfl (fun e=>hsame (by cases e;exact⟨rfl,rfl,rfl,rfl,rfl,rfl,rfl,rfl⟩))
                  have HNE:=hid hsame;clear hsame;go_wp2_with fail
                  refine wp_region_held_drew (S:=fun x=>wr.drew=x) (by kernel_rfl) rfl (fun hHeld=>?_);refine tk 0 (.slice (some ⟨ga,oa,none⟩) l.length cap) ?_ (hr:=fun x hSx=>by subst hSx;go_simp);refine tk 1 (.int .i64 (k:Int)) ?_ (hr:=fun x hSx=>by subst hSx;go_simp);refine tk 2 (.pointer (some ⟨ga,oa+k * 9,none⟩)) ?_ (hr:=fun x hSx=>by subst hSx;go_simp);refine tk 3 (.pointer (some ⟨ga,oa+k * 9,none⟩)) ?_ (hr:=fun x hSx=>by subst hSx;go_simp);refine tk 4 (.int .i64 sq2) ?_ (hr:=fun x hSx=>by subst hSx;go_simp);refine tk 5 (.slice (some ⟨ga,oa,none⟩) l.length cap) ?_ (hr:=fun x hSx=>by subst hSx;go_simp);refine tk 6 (.int .i64 (i:Int)) ?_ (hr:=fun x hSx=>by subst hSx;go_simp);refine tk 7 (.pointer (some ⟨ga,oa+i * 9,none⟩)) ?_ (hr:=fun x hSx=>by subst hSx;go_simp);refine tk 8 (.pointer (some ⟨ga,oa+i * 9,none⟩)) ?_ (hr:=fun x hSx=>by subst hSx;go_simp);refine tk 9 (.int .i64 sq2) ?_ (hr:=fun x hSx=>by subst hSx;go_simp);refine tk 10 (.bool true) ?_ (hr:=fun x hSx=>by subst hSx;go_simp);refine tk 11 (.bool true) ?_ (hr:=fun x hSx=>by subst hSx;go_simp);refine tk 12 (.slice (some ⟨ga,oa,none⟩) l.length cap) ?_ (hr:=fun x hSx=>by subst hSx;go_simp);refine tk 13 (.int .i64 (k:Int)) ?_ (hr:=fun x hSx=>by subst hSx;go_simp);refine tk 14 (.pointer (some ⟨ga,oa+k * 9,none⟩)) ?_ (hr:=fun x hSx=>by subst hSx;go_simp);refine tk 15 (.agg #[.int .i64 sq2,.int .i64 K2,.int .i64 V2,.int .i64 U2,.int .i64 N2,.int .i64 FL2,.string US2,.string NM2,.string TX2]) ?_ (hr:=fun x hSx=>by subst hSx;go_simp);refine tk 16 (.slice (some ⟨ga,oa,none⟩) l.length cap) ?_ (hr:=fun x hSx=>by subst hSx;go_simp);refine tk 17 (.int .i64 (i:Int)) ?_ (hr:=fun x hSx=>by subst hSx;go_simp);refine tk 18 (.pointer (some ⟨ga,oa+i * 9,none⟩)) ?_ (hr:=fun x hSx=>by subst hSx;go_simp);refine tk 19 (.agg #[.int .i64 sq2,.int .i64 K,.int .i64 V,.int .i64 U,.int .i64 N,.int .i64 FL,.string US,.string NM,.string TX]) ?_ (hr:=fun x hSx=>by subst hSx;go_simp);refine tk 20 (.bool true) ?_ (hr:=fun x hSx=>by subst hSx;go_simp;simp only [qY];exact fun h0 h1 h2 h3 h4 h5 h6 h7=>HNE.out ⟨h0,h1,h2,h3,h4,h5,h6,h7⟩);refine tk 21 (.bool true) ?_ (hr:=fun x hSx=>by subst hSx;go_simp);refine wpAnyH_done (by kernel_rfl) ?_ _;go_wp2;go_ret;exact⟨by rw [HE.out];rfl,bD⟩
              · have hq2:(sq2==sq)=false:=beq_eq_false_iff_ne.2 hq
                go_wp2_with fail
                refine wp_region_held_drew (S:=fun x=>wr.drew=x) (by kernel_rfl) rfl (fun hHeld=>?_);refine tk 0 (.slice (some ⟨ga,oa,none⟩) l.length cap) ?_ (hr:=fun x hSx=>by subst hSx;go_simp);refine tk 1 (.int .i64 (k:Int)) ?_ (hr:=fun x hSx=>by subst hSx;go_simp);refine tk 2 (.pointer (some ⟨ga,oa+k * 9,none⟩)) ?_ (hr:=fun x hSx=>by subst hSx;go_simp);refine tk 3 (.pointer (some ⟨ga,oa+k * 9,none⟩)) ?_ (hr:=fun x hSx=>by subst hSx;go_simp);refine tk 4 (.int .i64 sq2) ?_ (hr:=fun x hSx=>by subst hSx;go_simp);refine tk 5 (.slice (some ⟨ga,oa,none⟩) l.length cap) ?_ (hr:=fun x hSx=>by subst hSx;go_simp);refine tk 6 (.int .i64 (i:Int)) ?_ (hr:=fun x hSx=>by subst hSx;go_simp);refine tk 7 (.pointer (some ⟨ga,oa+i * 9,none⟩)) ?_ (hr:=fun x hSx=>by subst hSx;go_simp);refine tk 8 (.pointer (some ⟨ga,oa+i * 9,none⟩)) ?_ (hr:=fun x hSx=>by subst hSx;go_simp);refine tk 9 (.int .i64 sq) ?_ (hr:=fun x hSx=>by subst hSx;go_simp);refine tk 10 (.bool false) ?_ (hr:=fun x hSx=>by subst hSx;go_simp);refine tk 11 (.bool false) ?_ (hr:=fun x hSx=>by subst hSx;go_simp);refine tu 12 ?_;refine tu 13 ?_;refine tu 14 ?_;refine tu 15 ?_;refine tu 16 ?_;refine tu 17 ?_;refine tu 18 ?_;refine tu 19 ?_;refine tu 20 ?_;refine tk 21 (.bool false) ?_ (hr:=fun x hSx=>by subst hSx;go_simp);refine wpAnyH_done (by kernel_rfl) ?_ _;go_wp2;exact⟨⟨k+1,by omega,by go_num,fun j y hj hjk e=>by
                  by_cases c:j=k
                  · subst c;have:=HY.out;rw [hj] at this;cases this;exact absurd e hq
                  · exact HU.out j y hj (by omega) e,bD⟩,by first | omega |(simp [intOf];omega)⟩
            · have hge:¬(k:Int) <(i:Int):=by omega
              have hki:k=i:=(by omega);go_wp2;exact⟨⟨i+1,by omega,by go_num,HG.out.next HX.out HOK.out (fun j y hj hji e=>HU.out j y hj (by omega) e),hb⟩,by first | omega |(simp [intOf];omega)⟩
        · have HE:Hid (D=false):=by rw [←HD.out];exact Yx HX.out (fun c=>hok c.2)
          rw [decide_eq_false hok] at hRO;unfold Rc.v at hRO;simp only at hRO;have HRO:=hid hRO;clear hRO hok;go_wp2_with (first |(go_at_call 52;refine(zg _ _ _ _ hs1 hs2).mono ?_;rintro e w5 ⟨rfl,rfl⟩) |(go_at_call 83;refine(HRO.out _).mono ?_;rintro e w6 ⟨rfl,k6⟩))
          go_ret;exact⟨by rw [HE.out];rfl,hb.trans (k6.mono hb.size)⟩
      · have HE:Hid (D=false):=by rw [←HD.out];exact Yx HX.out (fun c=>hs c.1)
        go_wp2_with (go_at_call 52;refine(zk _ _ _ _ hs).mono ?_;rintro e w5 ⟨rfl,rfl⟩)
        go_ret;exact⟨by rw [HE.out];rfl,hb⟩
    · have hge:¬(i:Int) <(l.length:Int):=by omega
      have hil:i=l.length:=(by omega);have HE:Hid (D=decide ((l.length:Int)≤200)):=by
        rw [←HD.out];have h:=HG.out;rw [hil] at h;rw [h.done];exact decide_eq_decide.2 (by omega)
      go_wp2;go_ret;exact⟨by rw [HE.out];rfl,hb⟩

/- Records and items: the helpers of the exact laws. -/

/- Lists of items that come in: how great they are, copies of them, and that two alike are alike; items marked. -/

/- The helpers of the exact laws over lists of items: each is marked, and the marks are held. -/
def markI (k:Nat) (j:Nat):Itm:=(((k+9 * j:Nat):Int),⟨((k+9 * j+1:Nat):Int),((k+9 * j+2:Nat):Int),((k+9 * j+3:Nat):Int),((k+9 * j+4:Nat):Int),((k+9 * j+5:Nat):Int),mark (k+9 * j+6),mark (k+9 * j+7),mark (k+9 * j+8)⟩)
def marksI (k n:Nat):List Itm:=(List.range n).map (markI k)

/- The helpers of the exact laws over segments: two alike are alike. -/
def GRd (w:World) (v:Value) (bs:List Sg):Prop:=∃ hs:List SgH,Rows' sgE w v hs∧hs.length=bs.length∧
  ∀(j:Nat) (h:SgH) (b:Sg),hs[j]? =some h→bs[j]? =some b→(h.no=b.no∧h.gen=b.gen∧h.ende=b.ende)∧Rows' itE w h.mv b.items
theorem SgO.rd{B:Nat}{w:World}{v:Value}{bs:List Sg}{hs:List SgH}(h:SgO B w v bs hs):GRd w v bs:=
  ⟨hs,h.row.rows,h.len,fun j x b h1 h2=>⟨(h.at' j x b h1 h2).1,(h.at' j x b h1 h2).2.rows⟩⟩
theorem GRd.later{w w':World}{v:Value}{bs:List Sg}(h:GRd w v bs)(hb:Below w.heap.size w w'):GRd w' v bs:=by
  obtain⟨hs,h1,h2,h3⟩:=h;exact⟨hs,h1.later hb,h2,fun j x b e1 e2=>⟨(h3 j x b e1 e2).1,(h3 j x b e1 e2).2.later hb⟩⟩
theorem GRd.segs{w:World}{v:Value}{bs:List Sg}(h:GRd w v bs):∃(ad:Option Addr) (cap:Nat),v=.slice ad bs.length cap∧∀ X,Below w.heap.size w X→∀(i:Nat) (b:Sg),bs[i]? =some b→∃(g off:Nat) (a:Option Addr) (n c:Nat),ad=some ⟨g,off,none⟩∧
    X.cell? ⟨g,off+i * 4,none⟩=some (.int .i64 b.no)∧X.cell? ⟨g,off+i * 4+1,none⟩=some (.int .i64 b.gen)∧X.cell? ⟨g,off+i * 4+2,none⟩=some (.int .i64 b.ende)∧X.cell? ⟨g,off+i * 4+3,none⟩=some (.slice a n c)∧Rows' itE w (.slice a n c) b.items:=by
  obtain⟨hs,h1,h2,h3⟩:=h;rcases h1.ways with⟨rfl,a,c,rfl⟩ |⟨hne,g,off,c,rfl,hc,hg,hcl⟩
  · have:bs= []:=by rw [←List.length_eq_zero_iff,←h2];rfl
    subst this;exact⟨a,c,rfl,fun X _ i b hi=>by cases hi⟩
  · refine⟨_,c,by rw [h2],fun X hb i b hi=>?_⟩
    have hl:i < hs.length:=by rw [h2];exact(List.getElem?_eq_some_iff.1 hi).1
    have hx:hs[i]? =some hs[i]:=List.getElem?_eq_getElem hl;obtain⟨⟨e1,e2,e3⟩,hm⟩:=h3 i _ b hx hi;have hk:∀ k u,(sgE.f hs[i])[k]? =some u→X.cell? ⟨g,off+i * 4+k,none⟩=some u:=fun k u hu=>(hb.cell (p:=⟨g,off+i * 4+k,none⟩) hg).trans (hcl i _ hx k u hu);refine⟨g,off,hs[i].a,hs[i].n,hs[i].c,rfl,?_,?_,?_,hk 3 _ rfl,hm⟩
    · rw [←e1];exact hk 0 _ rfl
    · rw [←e2];exact hk 1 _ rfl
    · rw [←e3];exact hk 2 _ rfl
end Go.Proofs.YtklkhllkjnbhjaaGreatDoor
