/- Texts of our own, joined. -/
import Derived.Test.YtklkhllkjnbhjaaGreatDoorJd
import Derived.Laws.Strings2
import Derived.Deep.CutRange
/- Disks: what the model's FlushDisk hands back. -/
namespace Go.Proofs.YtklkhllkjnbhjaaGreatDoor
open Go.RowKit
open Lib (hid)
set_option maxRecDepth 100000
set_option maxHeartbeats 8000000
def flush (sec:List ByteArray) (c:List Wr):List ByteArray:=c.foldl (fun s x=>s.set x.at_.toNat x.text) sec
theorem ZM(sec:List ByteArray)(c:List Wr):(flush sec c).length=sec.length:=by
  induction c generalizing sec with
  | nil=>rfl
  | cons x c ih=>
    have:flush sec (x::c)=flush (sec.set x.at_.toNat x.text) c:=rfl;rw [this,ih];simp
theorem Vz{sec:List ByteArray}{c:List Wr}{i:Nat}(h:i < c.length):flush sec (c.take (i+1))=(flush sec (c.take i)).set c[i].at_.toNat c[i].text:=by
  rw [List.take_succ_eq_append_getElem h,flush,flush,List.foldl_append];rfl
theorem zaB{sec:List ByteArray}{c:List Wr}{i:Nat}(h:c.length≤i):flush sec (c.take i)=flush sec c:=by rw [List.take_of_length_le h]
def flD (d:Dk):Dk:=if d.ok then⟨flush d.sec d.cache,[]⟩ else d
def DiskR1 (d:Dk) (w:World) (e:Ending) (w':World):Prop:=∃ v',e=.returned v'∧DOwn w.heap.size w'.heap.size w' v' d∧Below w.heap.size w w'
theorem RBuf.drew'{α:Type}{E:Enc α}{B:Nat}{w:World}{v:Value}{l:List α}(h:RBuf E B w w v l):RBuf E B w.drew w.drew v l:=⟨h.own.drew,Below.refl _ _,h.le⟩
theorem Box.kept{b B T:Nat}{w w':World}{cs:Array Value}{t:TypeId}(h:Box w b cs t)(hk:Kept B T w w')(hb:b < B∨T≤b):Box w' b cs t:=(hk.block b h.lt hb).trans h
theorem ZK (d:Dk) (v:Value) (B T:Nat) (w:World) (h:DOwn B T w v d) (hs:d.small) (ht:∀ s∈d.sec,s.size≤1099511627776) (hu:∀ x∈d.cache,x.text.size≤1099511627776):
    Calls Tryz.prog 79 #[v] w fun e w'=>DiskR1 (flD d) w e w':=by
  obtain⟨aa,ab,ca,cb,rfl⟩:=h.form;obtain⟨hx0,hx1,b0,hsz⟩:Box ((w.alloc (.cells #[.slice aa d.sec.length ca,.slice ab d.cache.length cb] 27)).alloc (.cells #[.slice none 0 0,.slice none 0 0] 27)) w.heap.size #[.slice aa d.sec.length ca,.slice ab d.cache.length cb] 27∧
      Box ((w.alloc (.cells #[.slice aa d.sec.length ca,.slice ab d.cache.length cb] 27)).alloc (.cells #[.slice none 0 0,.slice none 0 0] 27)) (w.heap.size+1) #[.slice none 0 0,.slice none 0 0] 27∧
      Below w.heap.size w ((w.alloc (.cells #[.slice aa d.sec.length ca,.slice ab d.cache.length cb] 27)).alloc (.cells #[.slice none 0 0,.slice none 0 0] 27))∧
      ((w.alloc (.cells #[.slice aa d.sec.length ca,.slice ab d.cache.length cb] 27)).alloc (.cells #[.slice none 0 0,.slice none 0 0] 27)).heap.size=w.heap.size+2:=by
    have e1:(w.alloc (.cells #[.slice aa d.sec.length ca,.slice ab d.cache.length cb] 27)).heap.size=w.heap.size+1:=by simp
    have q0:=Box.new w #[.slice aa d.sec.length ca,.slice ab d.cache.length cb] 27;have q1:=Box.new (w.alloc (.cells #[.slice aa d.sec.length ca,.slice ab d.cache.length cb] 27)) #[.slice none 0 0,.slice none 0 0] 27;rw [e1] at q1;exact⟨q0.later ((Below.refl _ _).alloc (Nat.le_refl _) _),q1,((Below.refl _ _).alloc (Nat.le_refl _) _).alloc (by simp) _,by simp⟩
  have h':=h.later b0;have hTw:T≤w.heap.size:=by obtain⟨_,_,_,l1,_⟩:=h;exact l1.2.1
  go_enter Tryz.func79,Tryz.ntmps79
  go_wp2_with fail
  generalize ((w.alloc (.cells #[.slice aa d.sec.length ca,.slice ab d.cache.length cb] 27)).alloc (.cells #[.slice none 0 0,.slice none 0 0] 27))=W at hx0 hx1 b0 hsz h' ⊢;refine(zE d _ B T _ h' hs).mono ?_;rintro e w2 ⟨v2,rfl,o2,k2⟩;obtain⟨a1,a2,q1,q2,rfl⟩:=o2.form;have k3:Below w2.heap.size w2 (w2.alloc (.cells #[.slice a1 d.sec.length q1,.slice a2 d.cache.length q2] 27)):=(Below.refl _ _).alloc (Nat.le_refl _) _;have y3:=Box.new w2 #[.slice a1 d.sec.length q1,.slice a2 d.cache.length q2] 27;have j3:=k2.trans (k3.mono k2.size);have o3:=o2.later k3;have c0:=(hx0.later j3).cell 0 (.slice aa d.sec.length ca) rfl;have c1:=(hx0.later j3).cell 1 (.slice ab d.cache.length cb) rfl;have h3:=h'.later j3;have s2:=k2.size;clear h h' o2;go_wp2_with fail
  clear c0 c1;generalize hw3:w2.alloc (.cells #[.slice a1 d.sec.length q1,.slice a2 d.cache.length q2] 27)=w3 at *;have s3:w3.heap.size=w2.heap.size+1:=by rw [←hw3];simp
  refine(Zm d _ _ h3.rd hs ht hu).mono ?_;rintro e w4 ⟨rfl,k4⟩;have j4:=j3.trans (k4.mono j3.size);have x4:=hx0.later j4;have r4:=hx1.later j4;have y4:=y3.later k4;have o4:=o3.later k4;have h4:=h3.later k4;have bF:Below w.heap.size w w4:=b0.trans (j4.mono b0.size);have s4:=k4.size;have hD1:=hs.1;have hD2:=hs.2;clear hx0 hx1 y3 h3 o3 ht hu hs;by_cases hok:d.ok
  · rw [decide_eq_true hok]
    have HYES:=hid (show flD d=⟨flush d.sec d.cache,[]⟩ from if_pos hok);obtain⟨va,vb,hv,l1,l2,hap⟩:=o4;simp only [Value.agg.injEq,Array.mk.injEq,List.cons.injEq,and_true] at hv;obtain⟨rfl,rfl⟩:=hv;obtain⟨g1,rfl⟩:∃ g1:Nat,a1=some ⟨g1,0,none⟩:=by
      rcases l1.1.own.2 with⟨_,e⟩ |⟨g,cap,cur,e,_⟩
      · have:=hok.1;omega
      · simp only [Value.slice.injEq] at e;exact⟨g,e.1⟩
    have hg1:W.heap.size≤g1∧g1 < w2.heap.size:=⟨(l1.1.own.lt g1 rfl).1,l1.2.2 g1 rfl⟩;have hcells:∀ x∈d.cache,0≤x.at_∧x.at_ < d.sec.length:=fun x hx=>⟨(hok.2.2.2.2 x hx).1,(hok.2.2.2.2 x hx).2.1⟩;have H4:=hid h4;have X4:=hid x4;have R4:=hid r4;have Y4:=hid y4;have HC:=hid hcells;clear h4 x4 r4 y4 hcells l2 hap;go_wp2;go_loopw [4] (fun iv wr=>∃ i:Nat,i≤d.cache.length∧iv=.int .i64 (i:Int)∧RBuf strE W.heap.size wr wr (.slice (some ⟨g1,0,none⟩) d.sec.length q1) (flush d.sec (d.cache.take i))∧Kept W.heap.size w2.heap.size w4 wr) (fun iv _=>d.cache.length -(intOf iv).toNat)
    case atStart=>exact⟨0,by omega,rfl,l1.1,Kept.of_below (Below.refl _ _) _ _⟩
    case round=>
      obtain⟨i,hi,rfl,hbr,hkp⟩:=hrel;have x5:=X4.out.kept hkp (.inl (by omega));have r5:=R4.out.kept hkp (.inl (by omega));have y5:=Y4.out.kept hkp (.inr (Nat.le_refl _));by_cases hlt:i < d.cache.length
      · have h5:=H4.out.kept hkp (.inl (by omega))
        obtain⟨_,_,hv5,_,l5,_⟩:=h5;simp only [Value.agg.injEq,Array.mk.injEq,List.cons.injEq,and_true] at hv5;obtain⟨rfl,rfl⟩:=hv5;obtain⟨g,off,rfl,hcl⟩:=l5.rows.at i hlt;have d0:wr.cell? ⟨g,off+i * 2,none⟩=some (.int .i64 d.cache[i].at_):=hcl wr (Below.refl _ _) 0 _ rfl;have d1:wr.cell? ⟨g,off+i * 2+1,none⟩=some (.string d.cache[i].text):=hcl wr (Below.refl _ _) 1 _ rfl;obtain⟨hx1,hx2⟩:=HC.out _ (List.getElem_mem hlt);have hft:=hid (Vz (sec:=d.sec) hlt);have hfl:=ZM d.sec (d.cache.take i);clear hcl l5;generalize d.cache[i]=x at *;obtain⟨n,t⟩:=x;simp only at d0 d1 hx1 hx2 hft;obtain⟨k,rfl⟩:=Int.eq_ofNat_of_zero_le hx1;rw [Int.toNat_natCast] at hft;have hk:k <(flush d.sec (d.cache.take i)).length:=(by omega);have hat:=List.getElem?_eq_getElem hk;rw [←hfl] at hbr;have cs:wr.cell? ⟨g1,k,none⟩=some (.string (flush d.sec (d.cache.take i))[k]):=by
          have:=hbr.cell rfl k _ hat 0 _ rfl;rw [show strE.sz=1 from rfl,Nat.mul_one,Nat.add_zero] at this;exact this
        have fs:=hbr.loose k;have hst:=hbr.stored k _ t hat 0 (by decide) (.string t) rfl;rw [show strE.sz=1 from rfl,Nat.mul_one,Nat.add_zero,←hft.out,hfl] at hst;have hk2:Kept W.heap.size w2.heap.size w4 (wr.setCell ⟨g1,k,none⟩ (.string t)):=hkp.trans (Kept.of_grown (za wr g1 k (.string t)) (fun j hj=>by have:=Option.some.inj hj;omega));have m1:=x5.cell 1 (.slice (some ⟨g,off,none⟩) d.cache.length cb) rfl;have n0:=y5.cell 0 (.slice (some ⟨g1,0,none⟩) d.sec.length q1) rfl;have hi0:(0:Int)≤(i:Int):=(by omega);have hi1:(i:Int) <(d.cache.length:Int):=(by omega);have hk0:(0:Int)≤(k:Int):=(by omega);generalize (flush d.sec (d.cache.take i))[k]=old at cs;have HST:=hid hst;have HK2:=hid hk2;clear hbr hkp hat x5 r5 y5 hst hk2 hk hfl;go_wp2;go_region
        all_goals
          go_wp2
          go_roundw
          case rel=>exact⟨i+1,by omega,by go_num,HST.out.here.drew',HK2.out.trans (Kept.of_below ((Below.refl _ _).drew) _ _)⟩
          case measure=>simp [intOf];omega
      · rw [zaB (by omega)] at hbr
        have x1:=x5.cell 1 (.slice ab d.cache.length cb) rfl;have kA:Below wr.heap.size wr (wr.alloc (.cells #[] 63)):=(Below.refl _ _).alloc (Nat.le_refl _) _;have y6:=y5.later kA;have r6:=r5.later kA;have m0:=y6.cell 0 (.slice (some ⟨g1,0,none⟩) d.sec.length q1) rfl;have m1:=y6.cell 1 (.slice a2 d.cache.length q2) rfl;have n1:=y6.loose 1;have r0:=r6.cell 0 (.slice none 0 0) rfl;have r1:=r6.cell 1 (.slice none 0 0) rfl;have f0:=r6.loose 0;have f1:=r6.loose 1;have sA:(wr.alloc (.cells #[] 63)).heap.size=wr.heap.size+1:=(by simp);have hfl:=ZM d.sec d.cache;have hwr:w4.heap.size≤wr.heap.size:=hkp.size;have LS:=hid (show LOwn strE W.heap.size w2.heap.size (wr.alloc (.cells #[] 63)) (.slice (some ⟨g1,0,none⟩) d.sec.length q1) (flush d.sec d.cache) from LOwn.later ⟨hbr,by omega,fun j hj=>by have:g1=j:=Option.some.inj hj;omega⟩ kA);have LC:=hid (show LOwn wrE wr.heap.size (wr.alloc (.cells #[] 63)).heap.size (wr.alloc (.cells #[] 63)) (.slice (some ⟨wr.heap.size,0,none⟩) 0 0) [] from(RBuf.fresh wrE wr).lown);have BA:=hid ((hkp.below bF (by omega) bF.size).alloc (Nat.le_trans bF.size hkp.size) (.cells #[] 63));clear x5 r5 y5 y6 r6 hbr hkp kA;go_wp2;have q1':=((LS.out.storeHi w2.heap.size 1 (.slice (some ⟨wr.heap.size,0,none⟩) 0 0) (Nat.le_refl _)).store (w.heap.size+1) 0 (.slice (some ⟨g1,0,none⟩) d.sec.length q1) (by omega)).store (w.heap.size+1) 1 (.slice (some ⟨wr.heap.size,0,none⟩) 0 0) (by omega);have q2':=((LC.out.store w2.heap.size 1 (.slice (some ⟨wr.heap.size,0,none⟩) 0 0) (by omega)).store (w.heap.size+1) 0 (.slice (some ⟨g1,0,none⟩) d.sec.length q1) (by omega)).store (w.heap.size+1) 1 (.slice (some ⟨wr.heap.size,0,none⟩) 0 0) (by omega);have bE:=((BA.out.setCell (p:=⟨w2.heap.size,1,none⟩) (by simp;omega) (.slice (some ⟨wr.heap.size,0,none⟩) 0 0)).setCell (p:=⟨w.heap.size+1,0,none⟩) (by simp) (.slice (some ⟨g1,0,none⟩) d.sec.length q1)).setCell (p:=⟨w.heap.size+1,1,none⟩) (by simp) (.slice (some ⟨wr.heap.size,0,none⟩) 0 0);refine bodyPost_ret (v:=.agg #[.slice (some ⟨g1,0,none⟩) d.sec.length q1,.slice (some ⟨wr.heap.size,0,none⟩) 0 0]) (by simp [results,Tryz.results79,go_sem,r0,r1]) rfl ?_;rw [HYES.out];refine⟨_,rfl,⟨_,_,rfl,(q1'.deeper (by omega)).wider (by simp;omega) (Nat.le_refl _),(q2'.deeper (by omega)).wider (by simp) (Nat.le_refl _),.inr fun e=>?_⟩,bE⟩;have:g1=wr.heap.size:=Option.some.inj e;omega
  · rw [decide_eq_false hok]
    have HNO:=hid (show flD d=d from if_neg hok);have r0:=r4.cell 0 (.slice none 0 0) rfl;have r1:=r4.cell 1 (.slice none 0 0) rfl;have f0:=r4.loose 0;have f1:=r4.loose 1;have m0:=y4.cell 0 (.slice a1 d.sec.length q1) rfl;have m1:=y4.cell 1 (.slice a2 d.cache.length q2) rfl;clear x4 r4 y4 h4;go_wp2;refine bodyPost_ret (v:=.agg #[.slice a1 d.sec.length q1,.slice a2 d.cache.length q2]) (by simp [results,Tryz.results79,go_sem,r0,r1]) rfl ?_;rw [HNO.out];exact⟨_,rfl,((o4.store (w.heap.size+1) 0 (.slice a1 d.sec.length q1) (by omega)).store (w.heap.size+1) 1 (.slice a2 d.cache.length q2) (by omega)).widen (by omega) (by simp;omega) (Nat.le_refl _),(bF.setCell (p:=⟨w.heap.size+1,0,none⟩) (by simp) _).setCell (p:=⟨w.heap.size+1,1,none⟩) (by simp) _⟩

/- What the program's landed and FlushDisk hand back. -/
theorem VW{P:Program}(w:World)(dT sT ty elem:TypeId)(g o dLen dCap:Nat)(s:ByteArray)(cur:Array Value)(t:TypeId)
    (hu:P.underlying dT=some (.slice elem)) (hs:(P.info? elem).map (·.size)=some 1) (hg:w.heap[g]? =some (.cells cur t (0,0))) (hfit:o+dLen≤cur.size):
    ∃ w',(Builtin.copy_ #[dT,sT] ty #[.slice (some ⟨g,o,none⟩) dLen dCap,.string s]).run P w=.ok (.int .i64 ((Nat.min s.size dLen:Nat):Int)) w'∧w'.heap[g]? =some (.cells (splice cur.toList o (bytesV (s.data.toList.take dLen))).toArray t (0,0))∧w.grownBy w' (some g):=by
  have hsz:s.data.toList.length=s.size:=by rw [Array.length_toList];rfl
  have hml:Nat.min s.size dLen≤dLen:=Nat.min_le_right _ _;have htl:(s.data.toList.take (Nat.min s.size dLen))=s.data.toList.take dLen:=by
    rcases Nat.le_total s.size dLen with h | h
    · rw [show Nat.min s.size dLen=s.size from Nat.min_eq_left h,List.take_of_length_le (by omega),List.take_of_length_le (by omega)]
    · rw [show Nat.min s.size dLen=dLen from Nat.min_eq_right h]
  have hlen:(bytesV (s.data.toList.take (Nat.min s.size dLen))).length=Nat.min s.size dLen:=by
    rw [zF,List.length_take,hsz];exact Nat.min_eq_left (Nat.min_le_left _ _)
  have hst:=run_storeCells_at P g o t (bytesV (s.data.toList.take (Nat.min s.size dLen))) 0 cur w hg (by rw [hlen];omega) (yS _);refine⟨_,?_,?_,yf w g (cur.toList.take (o+0) ++bytesV (s.data.toList.take (Nat.min s.size dLen)) ++cur.toList.drop (o+0+(bytesV (s.data.toList.take (Nat.min s.size dLen))).length)).toArray⟩
  · cases hq:P.info? elem with
    | none=>simp [hq] at hs
    | some i=>
      have hmap:List.take (Nat.min s.size dLen) (List.map (fun b:UInt8=>Value.int IntKind.u8 (b.toNat:Int)) s.data.toList)=bytesV (s.data.toList.take (Nat.min s.size dLen)):=(by rw [bytesV,List.map_take]);simp [Builtin.copy_,run_underlying hu,Builtin.lenOf,Builtin.firstCells,sizeOf,typeInfo,hq];rw [hmap,hst];simp [Result.andThen,goInt]
  · have:=setRow_heap w g _ (cur.toList.take (o+0) ++bytesV (s.data.toList.take (Nat.min s.size dLen)) ++cur.toList.drop (o+0+(bytesV (s.data.toList.take (Nat.min s.size dLen))).length)).toArray t _ hg
    rw [this];congr 3;rw [htl,splice];simp
def overS (s:Sec) (t:ByteArray) (n:Nat):Sec:=⟨splice s.1 0 (t.data.toList.take (min n 32)),by rw [length_splice];exact s.2;rw [s.2,List.length_take];omega⟩
theorem xy(l:List Sec)(i:Nat)(s:Sec)(hi:l[i]? =some s)(t:ByteArray)(n:Nat)(hn:n≤32):splice (secE.row l) (i * 32) (bytesV (t.data.toList.take n))=secE.row (l.set i (overS s t n)):=by
  induction l generalizing i with
  | nil=>simp at hi
  | cons x l ih=>
    have e:secE.row (x::l)=bytesV x.1++secE.row l:=rfl;have hx:(bytesV x.1).length=32:=by rw [zF,x.2]
    have hc:(bytesV (t.data.toList.take n)).length≤32:=by rw [zF,List.length_take];omega
    rw [e];cases i with
    | zero=>
      have:x=s:=(by simpa using hi);subst this;have e2:secE.row ((x::l).set 0 (overS x t n))=bytesV (overS x t n).1++secE.row l:=rfl;rw [e2];unfold overS splice;simp only [Nat.zero_mul,List.take_zero,List.nil_append,Nat.zero_add];rw [List.drop_append_of_le_length (by omega),←List.append_assoc];congr 1;rw [Nat.min_eq_left hn];simp [bytesV]
    | succ i=>
      have hi':l[i]? =some s:=(by simpa using hi);have e2:secE.row ((x::l).set (i+1) (overS s t n))=bytesV x.1++secE.row (l.set i (overS s t n)):=rfl;rw [e2,←ih i hi'];unfold splice;have h1:(i+1) * 32=(bytesV x.1).length+i * 32:=(by rw [hx];omega);rw [h1,List.take_length_add_append,Nat.add_assoc,List.drop_length_add_append];simp
theorem QV{α:Type}(L:List α)(o m:Nat)(cs:List α)(h:o+cs.length≤m)(hm:m≤L.length):(splice L o cs).take m=splice (L.take m) o cs:=by
  unfold splice;rw [List.take_append,List.take_append,List.take_take,List.length_take,List.drop_take];have h1:min o L.length=o:=by omega
  have h2:min m o=o:=by omega
  rw [h1,h2,List.take_take,Nat.min_eq_left (show o≤m by omega)];congr 1;rw [List.take_of_length_le (show cs.length≤m - o by omega)];congr 1;congr 1;omega
theorem RBuf.copied{B g cap:Nat}{w w':World}{l:List Sec}(h:RBuf secE B w w (.slice (some ⟨g,0,none⟩) l.length cap) l)(i:Nat)(s:Sec)(hi:l[i]? =some s)(t:ByteArray)(n:Nat)(hn:n≤32)
    (hw:∀ cur ty,w.heap[g]? =some (.cells cur ty (0,0))→w'.heap[g]? =some (.cells (splice cur.toList (i * 32) (bytesV (t.data.toList.take n))).toArray ty (0,0))) (hg:w.grownBy w' (some g)):
    RBuf secE B w' w' (.slice (some ⟨g,0,none⟩) l.length cap) (l.set i (overS s t n)):=by
  have hlt:i < l.length:=(List.getElem?_eq_some_iff.1 hi).1;have hc:(bytesV (t.data.toList.take n)).length≤32:=by rw [zF,List.length_take];omega
  have hl:(l.set i (overS s t n)).length=l.length:=by simp
  have hmul:(i+1) * 32≤l.length * 32:=Nat.mul_le_mul_right _ hlt;rcases h.own.2 with⟨e,_⟩ |⟨g',cap',cur,e,hB,hh,hnc,hcp,hcs,htake⟩
  · cases e
  · simp only [Value.slice.injEq,Option.some.injEq,Addr.mk.injEq,true_and,and_true] at e
    obtain⟨rfl,rfl⟩:=e;have hsz:secE.sz=32:=rfl;rw [hsz] at hcs;have hcl:l.length * 32≤cap * 32:=Nat.mul_le_mul_right _ hnc;have hcl2:cur.toList.length=cap * 32:=by rw [Array.length_toList];exact hcs
    refine⟨⟨?_,.inr ⟨g,cap,_,by rw [hl],hB,hw _ _ hh,by rw [hl];exact hnc,hcp,?_,?_⟩⟩,Below.refl _ _,Nat.le_trans h.le hg.size⟩
    · rw [secE.row_length]
    · rw [List.size_toArray,length_splice _ _ _ (by rw [hcl2];omega),hcl2];rfl
    · rw [hl,hsz,List.toList_toArray,QV _ _ _ _ (by omega) (by rw [hcl2];exact hcl)]
      rw [hsz] at htake;rw [htake];exact xy l i s hi t n hn
theorem Yd{w:World}{ops:Array Oper}{o:Oper}{a:Act}{K:Act→World→Prop}{Q:Exit→Act→World→Prop}{X:Prop}(hgd:o.guard=none)(d s:Operand)(dT sT:TypeId)
    (ho:o.op=.call {callee:=.builtin .copy,args:=#[d,s],argTypes:=#[dT,sT]}) (elem:TypeId) (hu:Tryz.prog.underlying dT=some (.slice elem)) (hsz:(Tryz.prog.info? elem).map (·.size)=some 1)
    (g off dLen dCap:Nat) (hd:a.eval d=.slice (some ⟨g,off,none⟩) dLen dCap) (t:ByteArray) (hs:a.eval s=.string t) (cur:Array Value) (ty:TypeId) (hg:w.heap[g]? =some (.cells cur ty (0,0))) (hfit:off+dLen≤cur.size)
    (h:∀ w',w'.heap[g]? =some (.cells (splice cur.toList off (bytesV (t.data.toList.take dLen))).toArray ty (0,0))→w.grownBy w' (some g)→K (a.put o.dst (.int .i64 ((Nat.min t.size dLen:Nat):Int))) w'):
    if Region.wanted o (yielded ops a.tmps)=true then Oper.wp Tryz.prog o a w K Q else X:=by
  have hw:Region.wanted o (yielded ops a.tmps)=true:=by simp [Region.wanted,hgd]
  rw [if_pos hw];obtain⟨w',hrun,hb,hgr⟩:=VW (P:=Tryz.prog) w dT sT o.type elem g off dLen dCap t cur ty hu hsz hg hfit;unfold Oper.wp;simp [execOp,ho,resolve,invoke,builtin,hd,hs,hrun,Result.andThen];exact h w' hb hgr
def putS (l:List Sec) (k:Nat) (t:ByteArray) (m:Nat):List Sec:=match l[k]? with
  | some s=>l.set k (overS s t m)
  | none=>l
theorem QK(l:List Sec)(k:Nat)(t:ByteArray)(m:Nat):(putS l k t m).length=l.length:=by unfold putS;split <;> simp
theorem zam{l:List Sec}{k:Nat}(h:k < l.length)(t:ByteArray)(m:Nat):putS l k t m=l.set k (overS l[k] t m):=by unfold putS;rw [List.getElem?_eq_getElem h]
def landI (l:List Sec) (ws:List Wr) (n:Nat):Nat→List Sec
  | 0=>l
  | i+1=>match ws[i]? with
    | some x=>putS (landI l ws n i) x.at_.toNat x.text (if i+1=ws.length then n else 32)
    | none=>landI l ws n i
theorem jJ(l:List Sec)(ws:List Wr)(n i:Nat):(landI l ws n i).length=l.length:=by
  induction i with
  | zero=>rfl
  | succ i ih=>unfold landI;split <;> simp [QK,ih]
theorem Vk{l:List Sec}{ws:List Wr}{n i:Nat}(h:i < ws.length):landI l ws n (i+1)=putS (landI l ws n i) ws[i].at_.toNat ws[i].text (if i+1=ws.length then n else 32):=by
  rw [landI,List.getElem?_eq_getElem h]
def landD (d:Dk) (ws:List Wr) (n:Nat):Dk:=if d.ok then⟨(landI (d.sec.map secOf) ws n ws.length).map Sec.str,[]⟩ else d
theorem Xl (d : Dk) (v:Value) (B T:Nat) (w:World) (h:DOwn B T w v d) (hs:d.small) (ht:∀ s∈d.sec,s.size≤1099511627776) (hu:∀ x∈d.cache,x.text.size≤1099511627776)
    (vw:Value) (ws:List Wr) (hw:Rows' wrE w vw ws) (hwl:ws.length≤1048576) (n:Nat) (hn:n≤32) (hin:d.ok→∀ x∈ws,0≤x.at_∧x.at_ < d.sec.length):
    Calls Tryz.prog 149 #[v,vw,.int .i64 (n:Int)] w fun e w'=>DiskR1 (landD d ws n) w e w':=by
  obtain⟨aa,ab,ca,cb,rfl⟩:=h.form;obtain⟨aw,cw,rfl⟩:∃(a:Option Addr) (c:Nat),vw=.slice a ws.length c:=by
    rcases hw with⟨e,a,c,rfl⟩ |⟨g,o,c,rfl,_⟩
    · exact⟨a,c,by rw [e];rfl⟩
    · exact⟨_,c,rfl⟩
  obtain⟨hx0,hx1,b0,hsz⟩:=zO w #[.slice aa d.sec.length ca,.slice ab d.cache.length cb] #[.slice none 0 0,.slice none 0 0] 27 27;have h':=h.later b0;have hw':=hw.later b0;go_enter Tryz.func149,Tryz.ntmps149
  go_wp2_with fail
  generalize ((w.alloc (.cells #[.slice aa d.sec.length ca,.slice ab d.cache.length cb] 27)).alloc (.cells #[.slice none 0 0,.slice none 0 0] 27))=W at hx0 hx1 b0 hsz h' hw' ⊢;have HSZ:=hid hsz;refine(yd d _ _ h'.rd hs).mono ?_;rintro e w2 ⟨rfl,k2⟩;have b2:=b0.trans (k2.mono b0.size);have X0:=hid (hx0.later k2);have X1:=hid (hx1.later k2);have H2:=hid (h'.later k2);have HW2:=hid (hw'.later k2);have hWl:Hid (w.heap.size+1 < W.heap.size):=show _ < _ by omega
  have s2:W.heap.size≤w2.heap.size:=k2.size;clear h hw hx0 hx1 hsz hw';by_cases hok:d.ok
  · have E2 :=hid (show landD d ws n=⟨(landI (d.sec.map secOf) ws n ws.length).map Sec.str,[]⟩ from if_pos hok)
    have HIN:=hid (hin hok);have hD1:d.sec.length≤100:=hok.2.1;have hD0:1≤d.sec.length:=hok.1;rw [decide_eq_true hok];have c0:=X0.out.cell 0 (.slice aa d.sec.length ca) rfl;clear hin ht hu h';go_wp2_with (at_make;refine yO rfl _ _ secE rfl .i64 .i64 _ d.sec.length rfl rfl rfl (by show 33 * d.sec.length≤_;omega) ?_;intro w3 hr3;have c3:=(X0.out.later hr3.bel).cell 0 (.slice aa d.sec.length ca) rfl)
    have HR3:=hid hr3;clear hr3 c3 c0;go_loopw [7,25] (fun tv iv wr=>∃ i:Nat,i≤d.sec.length∧iv=.int .i64 (i:Int)∧RBuf secE w2.heap.size w2 wr tv ((d.sec.map secOf).take i)) (fun _ iv _=>d.sec.length -(intOf iv).toNat)
    case atStart=>exact⟨0,by omega,rfl,HR3.out⟩
    case round=>
      obtain⟨i,hi,rfl,hr⟩:=hrel;obtain⟨pt,ct,rfl⟩:=hr.form;have hlen:((d.sec.map secOf).take i).length=i:=(by simp;omega);rw [hlen] at hr ⊢;by_cases hlt:i < d.sec.length
      · obtain⟨_,_,hv,l1,_,_⟩:=H2.out.later hr.bel
        simp only [Value.agg.injEq,Array.mk.injEq,List.cons.injEq,and_true] at hv;obtain⟨rfl,_⟩:=hv;obtain⟨ga,rfl⟩:∃ g1:Nat,aa=some ⟨g1,0,none⟩:=by
          rcases l1.1.own.2 with⟨_,e⟩ |⟨g,cap,cur,e,_⟩
          · omega
          · simp only [Value.slice.injEq] at e;exact⟨g,e.1⟩
        have hat:=List.getElem?_eq_getElem hlt;have cS:wr.cell? ⟨ga,i,none⟩=some (.string d.sec[i]):=by
          have:=l1.1.cell rfl i _ hat 0 _ rfl;rw [show strE.sz=1 from rfl,Nat.mul_one,Nat.add_zero] at this;exact this
        have htk:Hid ((d.sec.map secOf).take (i+1)=(d.sec.map secOf).take i++ [secOf d.sec[i]]):=by
          show(d.sec.map secOf).take (i+1)=(d.sec.map secOf).take i++ [secOf d.sec[i]]
          rw [List.take_succ_eq_append_getElem (by simpa using hlt)];simp
        clear hat l1;generalize d.sec[i]=t at *;have hi0:(0:Int)≤(i:Int):=(by omega);have hi1:(i:Int) <(d.sec.length:Int):=(by omega);have HR:=hid hr;have hcp:((d.sec.map secOf).take i).length+ [secOf t].length≤101:=(by simp;omega);clear hr hlen;go_wp2_with (first
          |(go_at_call 87;refine(ZI t _).mono ?_;rintro e w4 ⟨rfl,k4⟩;have r4:=HR.out.later k4;have R4:=hid r4;have R5:=hid ((r4.alloc (.cells (bytesV (secOf t).1).toArray 127)).here);clear r4)
          |((with_reducible refine jX rfl _ rfl (secOf t) ?_ ?_);exact rfl)
          |(at_builtin;refine zA rfl _ _ secE rfl w2.heap.size _ _ rfl R5.out w4.heap.size _ [secOf t] rfl (RBuf.lit1 secE w4 (secOf t)) (by show _ * 33≤_;omega) ?_;intro v6 w6 r6 g6 at6;obtain⟨a6,q6,rfl⟩:=r6.form))
        have e6:((d.sec.map secOf).take i++ [secOf t]).length=i+1:=(by simp;omega);rw [e6] at r6;have b6:Below w2.heap.size w2 w6:=(R4.out.alloc (.cells (bytesV (secOf t).1).toArray 127)).bel.grown g6 (R4.out.alloc (.cells (bytesV (secOf t).1).toArray 127)).le (fun k hk=>(R4.out.own.lt k hk).1);have f6:RBuf secE w2.heap.size w2 w6 (.slice a6 (i+1) q6) ((d.sec.map secOf).take (i+1)):=by
          rw [htk.out];exact⟨r6.own,b6,r6.le⟩
        refine⟨⟨_,_,_,⟨i+1,by omega,?_,f6⟩,rfl,rfl,rfl⟩,?_⟩
        · go_num
        · simp [intOf];omega
      · have hie:i=d.sec.length:=by omega
        subst hie;rw [List.take_of_length_le (by simp)] at hr;have HR:=hid hr;have s5:Hid (w2.heap.size≤wr.heap.size):=hr.le;have B5:=hid hr.bel;obtain⟨g7,rfl⟩:∃ g1:Nat,pt=some ⟨g1,0,none⟩:=by
          rcases hr.own.2 with⟨_,e⟩ |⟨g,cap,cur,e,_⟩
          · rw [List.length_map] at e;omega
          · simp only [Value.slice.injEq] at e;exact⟨g,e.1⟩
        have hg7:w2.heap.size≤g7∧g7 < wr.heap.size:=hr.own.lt g7 rfl;clear hr hlen hlt HR3;go_wp2;obtain⟨wa,hwa⟩:∃ wa,wa=wr:=⟨_,rfl⟩;subst hwa;go_loopw [37] (fun iv wr=>∃ i:Nat,i≤ws.length∧iv=.int .i64 (i:Int)∧RBuf secE w2.heap.size wr wr (.slice (some ⟨g7,0,none⟩) d.sec.length ct) (landI (d.sec.map secOf) ws n i)∧Below w2.heap.size w2 wr) (fun iv _=>ws.length -(intOf iv).toNat)
        case atStart=>exact⟨0,by omega,rfl,HR.out.here,B5.out⟩
        case round=>
          obtain⟨i,hi,rfl,hbr,hbel⟩:=hrel;have hll:(landI (d.sec.map secOf) ws n i).length=d.sec.length:=(by rw [jJ];simp);by_cases hlt:i < ws.length
          · obtain⟨g,off,rfl,hcl⟩:=(HW2.out.later hbel).at i hlt
            have d0:wr.cell? ⟨g,off+i * 2,none⟩=some (.int .i64 ws[i].at_):=hcl wr (Below.refl _ _) 0 _ rfl;have d1:wr.cell? ⟨g,off+i * 2+1,none⟩=some (.string ws[i].text):=hcl wr (Below.refl _ _) 1 _ rfl;obtain⟨hx1,hx2⟩:=HIN.out _ (List.getElem_mem hlt);have hsu:=hid (Vk (l:=d.sec.map secOf) (n:=n) hlt);clear hcl;generalize ws[i]=x at *;obtain⟨na,t⟩:=x;simp only at d0 d1 hx1 hx2 hsu;obtain⟨k,rfl⟩:=Int.eq_ofNat_of_zero_le hx1;rw [Int.toNat_natCast] at hsu;have hk:k <(landI (d.sec.map secOf) ws n i).length:=(by omega);have hat:=List.getElem?_eq_getElem hk;rw [←hll] at hbr;obtain⟨cur,hh,hcs⟩:∃ cur,wr.heap[g7]? =some (.cells cur secE.ty (0,0))∧(k+1) * 32≤cur.size:=by
              rcases hbr.own.2 with⟨e,_⟩ |⟨g',cap',cur,e,hB,hh,hnc,hcp,hcs,htake⟩
              · cases e
              · simp only [Value.slice.injEq,Option.some.injEq,Addr.mk.injEq,true_and,and_true] at e
                obtain⟨rfl,rfl⟩:=e;refine⟨cur,hh,?_⟩;rw [hcs,show secE.sz=32 from rfl];exact Nat.mul_le_mul_right _ (by omega)
            obtain⟨m,hm⟩:∃ m,(if i+1=ws.length then n else 32)=m:=⟨_,rfl⟩;have hm32:m≤32:=(by rw [←hm];split <;> omega);rw [hm] at hsu;have FIN:Hid (∀ w6:World,(((wr.alloc (.cells #[.int .i64 (k:Int),.string t] 63)).drew)).grownBy w6 (some g7)→w6.heap[g7]? =some (.cells (splice cur.toList (k * 32) (bytesV (t.data.toList.take m))).toArray secE.ty (0,0))→
                RBuf secE w2.heap.size w6 w6 (.slice (some ⟨g7,0,none⟩) d.sec.length ct) (landI (d.sec.map secOf) ws n (i+1))∧Below w2.heap.size w2 w6):=by
              intro w6 hg6 hh6;have bA:=zp wr (.cells #[.int .i64 (k:Int),.string t] 63);have hx:((wr.alloc (.cells #[.int .i64 (k:Int),.string t] 63)).drew).heap[g7]? =some (.cells cur secE.ty (0,0)):=(bA.block g7 (Array.getElem?_eq_some_iff.1 hh).1).trans hh;have:=(((hbr.alloc (.cells #[.int .i64 (k:Int),.string t] 63)).here).drew').copied k _ hat t m hm32 (fun c ty hc=>by rw [hx] at hc;simp only [Option.some.injEq,Obj.cells.injEq] at hc;obtain⟨rfl,rfl,_⟩:=hc;exact hh6) hg6;rw [hll] at this;refine⟨?_,?_⟩
              · rw [hsu.out,zam hk];exact this
              · have b1:Below w2.heap.size w2 ((wr.alloc (.cells #[.int .i64 (k:Int),.string t] 63)).drew):=(hbel.trans (bA.mono hbel.size)).drew
                exact b1.grown hg6 b1.size (fun j hj=>by have:g7=j:=Option.some.inj hj;omega)
            have HX:Hid ((((wr.alloc (.cells #[.int .i64 (k:Int),.string t] 63)).drew)).heap[g7]? =some (.cells cur secE.ty (0,0))):=((zp wr (.cells #[.int .i64 (k:Int),.string t] 63)).block g7 (Array.getElem?_eq_some_iff.1 hh).1).trans hh;have hfit:Hid (k * 32+m≤cur.size):=show _≤_ by omega
            have hi0:(0:Int)≤(i:Int):=(by omega);have hi1:(i:Int) <(ws.length:Int):=(by omega);have hk0:(0:Int)≤(k:Int):=(by omega);have hm0:(0:Int)≤(m:Int):=(by omega);have hm1:(m:Int)≤32:=(by omega);have HKK:=hid hk;have HLL:=hid hll;clear hat hbr hh hcs hsu hk hll hg7;by_cases hlast:i+1=ws.length
            · rw [if_pos hlast] at hm
              subst hm;have hq:((i:Int)==(ws.length:Int) - 1)=true:=(by simp;omega);go_wp2;go_region_law (first |(refine Yd (by rfl) _ _ 22 9 (by rfl) 5 Tryz.underlying22 (by kernel_rfl) g7 (k * 32) n 32 (by rfl) t (by rfl) cur secE.ty HX.out hfit.out ?_;intro w6 hh6 hg6))
              all_goals
                obtain⟨fR,fB⟩:=FIN.out w6 hg6 hh6
                have FR:=hid fR
                have FB:=hid fB
                clear fR fB hh6 hg6 FIN HX hq
                go_wp2
                go_roundw
                case rel=>exact⟨i+1,by omega,by go_num,FR.out,FB.out⟩
                case measure=>simp [intOf];omega
            · rw [if_neg hlast] at hm
              subst hm;have hq:((i:Int)==(ws.length:Int) - 1)=false:=(by simp;omega);go_wp2;go_region_law (first |(refine Yd (by rfl) _ _ 22 9 (by rfl) 5 Tryz.underlying22 (by kernel_rfl) g7 (k * 32) 32 32 (by rfl) t (by rfl) cur secE.ty HX.out hfit.out ?_;intro w6 hh6 hg6))
              all_goals
                obtain⟨fR,fB⟩:=FIN.out w6 hg6 hh6
                have FR:=hid fR
                have FB:=hid fB
                clear fR fB hh6 hg6 FIN HX hq
                go_wp2
                go_roundw
                case rel=>exact⟨i+1,by omega,by go_num,FR.out,FB.out⟩
                case measure=>simp [intOf];omega
          · have hie:i=ws.length:=by omega
            subst hie;have HB:=hid hbr;have X7:=hid (X1.out.later hbel);have b7:=b2.trans (hbel.mono b2.size);rw [←hll] at hbr;have hl7:(landI (d.sec.map secOf) ws n ws.length).length≤1048576:=(by omega);go_wp2_with fail
            rw [←hll];refine(JS _ _ _ _ hbr hl7).mono ?_;rintro e w8 ⟨v8,rfl,r8⟩;obtain⟨a8,q8,rfl⟩:=r8.form;rw [List.length_map] at r8 ⊢;have x8:=X7.out.later r8.bel;have r0:=x8.cell 0 (.slice none 0 0) rfl;have r1:=x8.cell 1 (.slice none 0 0) rfl;have f0:=x8.loose 0;have f1:=x8.loose 1;have b8:=hid (b7.trans (r8.bel.mono b7.size));have R8:=hid r8;have SZ:Hid (w.heap.size+1 < wr.heap.size∧w.heap.size≤wr.heap.size):=⟨Nat.lt_of_lt_of_le hWl.out (Nat.le_trans s2 hbel.size),b7.size⟩;clear x8 r8 hbr hll;go_wp2;refine bodyPost_ret (v:=.agg #[.slice a8 (landI (d.sec.map secOf) ws n ws.length).length q8,.slice none 0 0]) (by simp [results,Tryz.results149,go_sem,r0,r1]) rfl ?_;rw [E2.out];have q1:=(R8.out.lown.store (w.heap.size+1) 0 (.slice a8 (landI (d.sec.map secOf) ws n ws.length).length q8) SZ.out.1).store (w.heap.size+1) 1 (.slice none 0 0) SZ.out.1;refine⟨_,rfl,⟨_,_,rfl,(q1.deeper SZ.out.2).wider (by simp) (Nat.le_refl _),⟨⟨World.ownsRow_nil _ _ _ _,Below.refl _ _,?_⟩,Nat.le_refl _,fun k hk=>by cases hk⟩,?_⟩,?_⟩
            · have:=b8.out.size;simpa using this
            · cases hv:(Value.slice a8 (landI (d.sec.map secOf) ws n ws.length).length q8).ownBlock with
              | none=>exact .inl rfl
              | some k=>exact .inr (by simp [Value.ownBlock])
            · exact(b8.out.setCell (p:=⟨w.heap.size+1,0,none⟩) (by simp) _).setCell (p:=⟨w.heap.size+1,1,none⟩) (by simp) _
  · have E2:=hid (show landD d ws n=d from if_neg hok)
    rw [decide_eq_false hok];have m0:=X0.out.cell 0 (.slice aa d.sec.length ca) rfl;have m1:=X0.out.cell 1 (.slice ab d.cache.length cb) rfl;have H7:=H2.out;clear hin h';go_wp2_with fail
    clear m0 m1;refine(Zc d _ B T _ H7 hs ht hu).mono ?_;rintro e w8 ⟨v8,rfl,o8,k8⟩;obtain⟨a8,a9,q8,q9,rfl⟩:=o8.form;have x8:=X1.out.later k8;have r0:=x8.cell 0 (.slice none 0 0) rfl;have r1:=x8.cell 1 (.slice none 0 0) rfl;have f0:=x8.loose 0;have f1:=x8.loose 1;have b8:=hid (b2.trans (k8.mono b2.size));have O8:=hid o8;have S2:=hid s2;clear x8 o8 H7 k8 s2;go_wp2;refine bodyPost_ret (v:=.agg #[.slice a8 d.sec.length q8,.slice a9 d.cache.length q9]) (by simp [results,Tryz.results149,go_sem,r0,r1]) rfl ?_;have hl7:w.heap.size+1 < w2.heap.size:=Nat.lt_of_lt_of_le hWl.out S2.out;rw [E2.out];exact⟨_,rfl,((O8.out.store (w.heap.size+1) 0 (.slice a8 d.sec.length q8) hl7).store (w.heap.size+1) 1 (.slice a9 d.cache.length q9) hl7).widen (by omega) (by simp) (Nat.le_refl _),(b8.out.setCell (p:=⟨w.heap.size+1,0,none⟩) (by simp) _).setCell (p:=⟨w.heap.size+1,1,none⟩) (by simp) _⟩

/- Which writes are chosen: what the program's kept hands back. -/

/- What the program's CrashDisk hands back. -/

/- What the program's FlushDisk hands back. -/
theorem QE(s:Sec){t:ByteArray}(h:t.size=32):(overS s t 32).str=t:=by
  have hl:t.data.toList.length=32:=by rw [Array.length_toList];exact h
  have e:(overS s t 32).1=t.data.toList:=by
    unfold overS splice;simp only [Nat.min_self];rw [List.take_of_length_le (l:=t.data.toList) (by omega),hl];simp [List.drop_of_length_le,s.2]
  show(⟨(overS s t 32).1.toArray⟩:ByteArray)=t
  rw [e]
theorem zaN{t:ByteArray}(h:t.size=32):(secOf t).str=t:=qv h
theorem zaM{l:List ByteArray}(h:∀ s∈l,s.size=32):(l.map secOf).map Sec.str=l:=by
  rw [List.map_map]
  conv=>rhs;rw [←List.map_id l]
  exact List.map_congr_left fun s hs=>zaN (h s hs)
theorem QM{d:Dk}(hok:d.ok)(i:Nat)(hi:i≤d.cache.length):(landI (d.sec.map secOf) d.cache 32 i).map Sec.str=flush d.sec (d.cache.take i):=by
  induction i with
  | zero=>
    show(d.sec.map secOf).map Sec.str=d.sec
    exact zaM hok.2.2.2.1
  | succ i ih=>
    have hlt:i < d.cache.length:=by omega
    obtain⟨h1,h2,h3⟩:=hok.2.2.2.2 _ (List.getElem_mem hlt);rw [Vk hlt,Vz hlt,←ih (by omega)];have hk:d.cache[i].at_.toNat <(landI (d.sec.map secOf) d.cache 32 i).length:=by rw [jJ,List.length_map];omega
    rw [zam hk,List.map_set];congr 1;rw [ite_self];exact QE _ h3
theorem xj(d:Dk):landD d d.cache 32=flD d:=by
  unfold landD flD;by_cases h:d.ok
  · rw [if_pos h,if_pos h,QM h _ (Nat.le_refl _),List.take_length]
  · rw [if_neg h,if_neg h]
theorem js(d:Dk)(v:Value)(B T:Nat)(w:World)(h:DOwn B T w v d)(hs:d.small)(hc:d.cache.length≤1048576)(ht:∀ s∈d.sec,s.size≤1099511627776)(hu:∀ x∈d.cache,x.text.size≤1099511627776):
    Calls Tryz.prog 128 #[v] w fun e w'=>DiskR1 (flD d) w e w':=by
  obtain⟨aa,ab,ca,cb,rfl⟩:=h.form;obtain⟨hx0,hx1,b0,hsz⟩:=zO w #[.slice aa d.sec.length ca,.slice ab d.cache.length cb] #[.slice none 0 0,.slice none 0 0] 27 27;have h':=h.later b0;go_enter Tryz.func128,Tryz.ntmps128
  go_wp2_with fail
  generalize ((w.alloc (.cells #[.slice aa d.sec.length ca,.slice ab d.cache.length cb] 27)).alloc (.cells #[.slice none 0 0,.slice none 0 0] 27))=W at hx0 hx1 b0 hsz h' ⊢;have hrw:Rows' wrE W (.slice ab d.cache.length cb) d.cache:=by
    obtain⟨_,_,hv,_,l2,_⟩:=h';simp only [Value.agg.injEq,Array.mk.injEq,List.cons.injEq,and_true] at hv;obtain⟨_,rfl⟩:=hv;exact l2.rows
  have hl:=Xl d _ B T W h' hs ht hu _ d.cache hrw hc 32 (by omega) (fun hok x hx=>⟨(hok.2.2.2.2 x hx).1,(hok.2.2.2.2 x hx).2.1⟩);rw [xj] at hl;refine hl.mono ?_;rintro e w8 ⟨v8,rfl,o8,k8⟩;obtain⟨a8,a9,q8,q9,rfl⟩:=o8.form;have x8:=hx1.later k8;have r0:=x8.cell 0 (.slice none 0 0) rfl;have r1:=x8.cell 1 (.slice none 0 0) rfl;have f0:=x8.loose 0;have f1:=x8.loose 1;have b8:=hid (b0.trans (k8.mono b0.size));have O8:=hid o8;have HW:Hid (w.heap.size+1 < W.heap.size):=show _ < _ by omega
  clear x8 hx0 hx1 o8 k8 hsz h h' hrw hl;go_wp2;refine bodyPost_ret (v:=.agg #[.slice a8 (flD d).sec.length q8,.slice a9 (flD d).cache.length q9]) (by simp [results,Tryz.results128,go_sem,r0,r1]) rfl ?_;exact⟨_,rfl,((O8.out.store (w.heap.size+1) 0 (.slice a8 (flD d).sec.length q8) HW.out).store (w.heap.size+1) 1 (.slice a9 (flD d).cache.length q9) HW.out).widen (by have:=HW.out;omega) (by simp) (Nat.le_refl _),(b8.out.setCell (p:=⟨w.heap.size+1,0,none⟩) (by simp) _).setCell (p:=⟨w.heap.size+1,1,none⟩) (by simp) _⟩

/- Plain facts on crashes: which writes are chosen, and what is in the sectors behind them. -/

/- What is flushed is right. -/
theorem zbu(c:List Wr):∀ sec:List ByteArray,(∀ s∈sec,s.size=32)→(∀ x∈c,x.text.size=32)→∀ s∈flush sec c,s.size=32:=by
  induction c with
  | nil=>intro sec h _;exact h
  | cons x c ih=>
    intro sec h hc;have e:flush sec (x::c)=flush (sec.set x.at_.toNat x.text) c:=rfl;rw [e];refine ih _ (fun s hs=>?_) (fun y hy=>hc y (by simp [hy]));rcases List.mem_or_eq_of_mem_set hs with h1 | h1
    · exact h s h1
    · rw [h1];exact hc x (by simp)
theorem YZ{d:Dk}(h:d.ok):(flD d).ok∧(flD d).sec.length=d.sec.length∧(flD d).cache= []:=by
  unfold flD;rw [if_pos h];obtain⟨h1,h2,h3,h4,h5⟩:=h;have hl:=ZM d.sec d.cache;exact⟨⟨by show 1≤(flush d.sec d.cache).length;omega,by show(flush d.sec d.cache).length≤100;omega,by simp,zbu _ _ h4 (fun x hx=>(h5 x hx).2.2),by simp⟩,hl,rfl⟩

/- Disks: what the model's WriteBytes hands back of a right disk: a right disk of as many sectors. -/
theorem Box.notRow{α:Type}{E:Enc α}{B:Nat}{w0 w:World}{v:Value}{l:List α}{g:Nat}{cs:Array Value}{t:TypeId}(h:Box w g cs t)(hr:RBuf E B w0 w v l)(ht:E.ty≠t):v.ownBlock≠some g:=by
  rcases hr.own.2 with⟨rfl,_⟩ |⟨g',cap,cur,rfl,_,hh,_⟩
  · intro e;cases e
  · intro e
    have:g'=g:=Option.some.inj e;subst this;rw [show w.heap[g']? =_ from h] at hh;simp only [Option.some.injEq,Obj.cells.injEq] at hh;exact ht hh.2.1.symm
theorem DOwn.boxStore{B T:Nat}{w:World}{v:Value}{d:Dk}{g:Nat}{cs:Array Value}(h:DOwn B T w v d)(hb:Box w g cs 27)(i:Nat)(u:Value):DOwn B T (w.setCell ⟨g,i,none⟩ u) v d:=by
  obtain⟨va,vb,hv,h1,h2,h3⟩:=h;exact⟨va,vb,hv,h1.grown (za _ _ _ _) (.inr (hb.notRow h1.1 (by decide))),h2.grown (za _ _ _ _) (.inr (hb.notRow h2.1 (by decide))),h3⟩
theorem DOwn.top{B T:Nat}{w:World}{v:Value}{d:Dk}(h:DOwn B T w v d):DOwn B w.heap.size w v d:=by
  obtain⟨va,vb,hv,h1,h2,h3⟩:=h;exact⟨va,vb,hv,h1.wider h1.2.1 (Nat.le_refl _),h2.wider h2.2.1 (Nat.le_refl _),h3⟩
theorem DOwn.base{B B' T:Nat}{w:World}{v:Value}{d:Dk}(h:DOwn B T w v d)(hB:B'≤B):DOwn B' T w v d:=by
  obtain⟨va,vb,hv,h1,h2,h3⟩:=h;exact⟨va,vb,hv,h1.deeper hB,h2.deeper hB,h3⟩
theorem Dk.ok_small{d:Dk}(h:d.ok):d.small∧(∀ s∈d.sec,s.size≤1099511627776)∧∀ x∈d.cache,x.text.size≤1099511627776:=by
  obtain⟨h1,h2,h3,h4,h5⟩:=h;exact⟨⟨by omega,by omega⟩,fun s hs=>by have:=h4 s hs;omega,fun x hx=>by have:=(h5 x hx).2.2;omega⟩
theorem xl{c:List Wr}{a:Int}{t:ByteArray}(h:lastAt c a=some t):∃ x∈c,x.text=t:=by
  induction c with
  | nil=>cases h
  | cons x c ih=>
    unfold lastAt at h
    split at h
    · rename_i t' ht
      obtain⟨y,hy,he⟩:=ih (by rw [ht];exact h);exact⟨y,by simp [hy],he⟩
    · split at h
      · exact⟨x,by simp,Option.some.inj h⟩
      · cases h
theorem zaY{d:Dk}(h:d.ok)(a:Int):(¬(0≤a∧a < d.sec.length)∧rdT d a=.tuple #[.string ⟨#[]⟩,.bool false])∨∃ t:ByteArray,t.size=32∧(0≤a∧a < d.sec.length)∧rdT d a=.tuple #[.string t,.bool true]:=by
  by_cases hin:0≤a∧a < d.sec.length
  · refine .inr ?_
    cases hl:lastAt d.cache a with
    | some t=>
      obtain⟨x,hx,rfl⟩:=xl hl;exact⟨_,(h.2.2.2.2 x hx).2.2,hin,Vv hin hl⟩
    | none=>
      obtain⟨k,rfl⟩:=Int.eq_ofNat_of_zero_le hin.1;have hk:k < d.sec.length:=(by omega);exact⟨d.sec[k],h.2.2.2.1 _ (List.getElem_mem hk),hin,Qc hk hl⟩
  · exact .inl ⟨hin,xS hin⟩
theorem xP{d:Dk}(h:d.ok)(a:Int)(t:ByteArray):(wrD d a t).ok∧(wrD d a t).sec.length=d.sec.length:=by
  unfold wrD
  split
  · rename_i hw;exact⟨(jC d a t).2 hw,rfl⟩
  · exact⟨h,rfl⟩
theorem Q0(d:Dk)(a:Int)(t:ByteArray):(wrD d a t).cache.length≤d.cache.length+1:=by
  unfold wrD
  split
  · simp
  · omega
def WbQ (A i n:Nat) (d d':Dk):Prop:=(i=0∧d'.cache.length=d.cache.length)∨(((A+i) % 32=0∨i=n)∧d'.cache.length+A / 32≤d.cache.length+(A+i+31) / 32)
theorem WbQ.fin{A i n:Nat}{d d':Dk}(h:WbQ A i n d d')(hi:i≤n):d'.cache.length≤d.cache.length+(n+62) / 32:=by
  unfold WbQ at h;omega
theorem WbQ.next{A i n m:Nat}{d d' D:Dk}(h:WbQ A i n d d')(hi:i < n)(hm:0 < m)(hfr:(A+i) % 32+m≤32)(he:(A+(i+m)) % 32=0∨i+m=n)(hD:D.cache.length≤d'.cache.length+1):WbQ A (i+m) n d D:=by
  unfold WbQ at h ⊢;omega
structure WbI (w:World) (v1 v2:Value) (b2:Nat) (va vb:Value) (d d':Dk) (B T:Nat) (X:World):Prop where
  bel:Below w.heap.size w X
  inn:Box X w.heap.size #[v1,v2] 27
  res:Box X (w.heap.size+1) #[.slice none 0 0,.slice none 0 0] 27
  out:Box X b2 #[va,vb] 27
  dsk:DOwn w.heap.size X.heap.size X (.agg #[va,vb]) d'
  was:DOwn B T X (.agg #[v1,v2]) d
  lt:w.heap.size+1 < b2
theorem WbI.later{w:World}{v1 v2:Value}{b2:Nat}{va vb:Value}{d d':Dk}{B T:Nat}{X Y:World}(h:WbI w v1 v2 b2 va vb d d' B T X)(hb:Below X.heap.size X Y):WbI w v1 v2 b2 va vb d d' B T Y:=
  ⟨h.bel.trans (hb.mono h.bel.size),h.inn.later hb,h.res.later hb,h.out.later hb,(h.dsk.later hb).top,h.was.later hb,h.lt⟩

/- What spec.l01Long hands back. -/
theorem Buf.stored{B:Nat}{w0 w:World}{g cap:Nat}{l:List UInt8}(h:Buf B w0 w (.slice (some ⟨g,0,none⟩) l.length cap) l)(j:Nat)(t:UInt8):
    Buf B w0 (w.setCell ⟨g,j,none⟩ (.int .u8 (t.toNat:Int))) (.slice (some ⟨g,0,none⟩) l.length cap) (l.set j t):=by
  have hst:=h.own.stored j (.int .u8 (t.toNat:Int));have e:bytesV (l.set j t)=(bytesV l).set j (.int .u8 (t.toNat:Int)):=by simp [bytesV,List.map_set]
  refine⟨?_,h.bel.setCell (h.own.lt g rfl).1 _,by have:=h.le;simpa using this⟩;have hl:(l.set j t).length=l.length:=by simp
  rw [hl,e];exact hst.1
theorem ZP{w:World}{ops:Array Oper}{rest:List Oper}{o:Oper}{a:Act}{Q:Exit→Act→World→Prop}(hg:o.guard=none)(l c:Operand)(hop:o.op=Op.makeSlice 22 l c)
    (kl kc:IntKind) (L C:Int) (n:Nat) (hl:a.eval l=.int kl L) (hc:a.eval c=.int kc C) (hL:L=(n:Int)) (hC:C=(n:Int)) (hn:n≤281474976710656)
    (h:∀ w' g,Buf w.heap.size w w' (.slice (some ⟨g,0,none⟩) n n) (List.replicate n 0)→wpList Tryz.prog ops Q rest (a.put o.dst (.slice (some ⟨g,0,none⟩) n n)) w'):wpList Tryz.prog ops Q (o::rest) a w:=by
  obtain⟨i0,hi,hz0,hz1,hz2⟩:=info_parts Tryz.info_u8;refine wpList_make_full w hg l c 22 hop w.heap.size 5 i0 (.int .u8 0) 1 Tryz.underlying22 hi hz0 hz1 kl kc L C n hl hc hL hC (by rw [hz2];omega) (by unfold maxLen;omega) (Nat.le_refl _) ?_;intro w' hown hgrow;refine h w' w.heap.size ⟨?_,(Below.refl _ _).grown hgrow (Nat.le_refl _) (fun k hk=>by cases hk),hgrow.size⟩;have e:(madeCells (Value.int .u8 0).cells (n * 1)).toList=bytesV (List.replicate n 0):=by
    rw [Nat.mul_one];show(madeCells #[Value.int .u8 0] n).toList=_
    rw [toList_madeCells_one];simp [bytesV]
  rw [e] at hown;simpa using hown
def longTo (n k:Nat) (x:UInt8):List UInt8:=List.replicate k x++List.replicate (n - k) 0
theorem VY{n k:Nat}{x:UInt8}(h:k≤n):(longTo n k x).length=n:=by simp [longTo];omega
theorem Xf{n k:Nat}{x:UInt8}(h:k < n):(longTo n k x).set k x=longTo n (k+1) x:=by
  unfold longTo;rw [List.set_append_right _ _ (by simp)];simp only [List.length_replicate,Nat.sub_self];rw [show n - k=(n -(k+1)) +1 by omega,List.replicate_succ,List.set_cons_zero,List.replicate_succ',List.append_assoc];rfl
theorem Xm(n:Nat)(x:UInt8):longTo n n x=List.replicate n x:=by simp [longTo]
theorem zbr (n:Nat) (x:UInt8) (w:World) (hn:n≤1048576):
    Calls Tryz.prog 69 #[.int .i64 (n:Int),.int .u8 (x.toNat:Int)] w fun e w'=>e=.returned (.string ⟨(List.replicate n x).toArray⟩)∧Below w.heap.size w w':=by
  go_enter Tryz.func69,Tryz.ntmps69
  go_wp2_with (at_make;refine ZP rfl _ _ rfl .i64 .i64 _ _ n rfl rfl rfl rfl (by omega) ?_;intro w1 g hb1)
  go_loopw [6] (fun iv wr=>∃ k:Nat,k≤n∧iv=.int .i64 (k:Int)∧Buf w.heap.size w wr (.slice (some ⟨g,0,none⟩) n n) (longTo n k x)) (fun iv _=>n -(intOf iv).toNat)
  case atStart=>exact⟨0,by omega,rfl,by simpa [longTo] using hb1⟩
  case round=>
    obtain⟨k,hk,rfl,hb⟩:=hrel;by_cases hlt:k < n
    · have hml:=VY (x:=x) hk
      have hms:Hid ((longTo n k x).set k x=longTo n (k+1) x):=Xf hlt;have hbm:Buf w.heap.size w wr (.slice (some ⟨g,0,none⟩) (longTo n k x).length n) (longTo n k x):=(by rw [hml];exact hb);have hc1:wr.cell? ⟨g,k,none⟩=some (.int .u8 (((longTo n k x)[k]'(by omega)).toNat:Int)):=by
        rw [hbm.own.cellAt k (by omega)];simp only [bytesV,List.getElem?_map];rw [List.getElem?_eq_getElem (by omega)];rfl
      have hf1:wr.frozen? ⟨g,k,none⟩=false:=hbm.own.frozenAt k;have hst:=hbm.stored k x;rw [hms.out,hml] at hst;generalize (longTo n k x)[k]'(by omega)=t at hc1;clear hml hbm;go_wp2;go_roundw
      case rel=>exact⟨k+1,by omega,by go_num,hst⟩
      case measure=>simp [intOf];omega
    · have hfin:Hid (k=n):=by show k=n;omega
      have hcv:=hb.toString;go_wp2;go_ret;exact⟨by rw [hfin.out,Xm];rfl,hb.bel⟩

/- What DiskNew hands back, the model's and the program's. -/
def zero32:ByteArray:=⟨(List.replicate 32 0).toArray⟩
def newD (n:Int):Dk:=if 1≤n∧n≤100 then⟨List.replicate n.toNat zero32,[]⟩ else⟨[],[]⟩
theorem zbw(w:World):Calls Tryz.prog 116 #[] w fun e w'=>e=.returned (.string zero32)∧Below w.heap.size w w':=by
  go_enter Tryz.func116,Tryz.ntmps116
  go_wp2_with (go_at_call 69;refine(zbr 32 0 _ (by omega)).mono ?_;rintro e w1 ⟨rfl,k1⟩)
  go_ret;exact⟨rfl,k1⟩
theorem vs{α:Type}{E:Enc α}{B T:Nat}{w:World}(hB:B≤w.heap.size)(hT:T≤w.heap.size):LOwn E B T w (.slice none 0 0) []:=⟨⟨World.ownsRow_nil _ _ _ _,Below.refl _ _,hB⟩,hT,fun k hk=>by cases hk⟩
theorem zcI(v:Value):v.ownBlock=none∨v.ownBlock≠(Value.slice none 0 0).ownBlock:=by
  cases hv:v.ownBlock with
  | none=>exact .inl rfl
  | some k=>exact .inr (by simp [Value.ownBlock])
theorem JC (n:Int) (w:World):Calls Tryz.prog 84 #[.int .i64 n] w fun e w'=>DiskR (newD n) (decide (1≤n∧n≤100)) w e w':=by
  have b00:Below w.heap.size w (w.alloc (.cells #[.slice none 0 0,.slice none 0 0] 27)):=(Below.refl _ _).alloc (Nat.le_refl _) _;by_cases hin:1≤n∧n≤100
  · obtain⟨k,rfl⟩:=Int.eq_ofNat_of_zero_le (show 0≤n by omega)
    have E2:=hid (show newD (k:Int)=⟨List.replicate k zero32,[]⟩ from by unfold newD;rw [if_pos hin,Int.toNat_natCast]);have hk1:1≤k:=by omega
    have hk2:k≤100:=by omega
    have HD:=hid (decide_eq_true hin);obtain⟨hx0,hx1,b0,hsz⟩:=zO w #[.slice none 0 0,.slice none 0 0] #[.slice none 0 0,.slice none 0 0] 27 27;clear b00;go_enter Tryz.func84,Tryz.ntmps84
    go_wp2_with (go_at_call 52;refine(Zo _ _ _ _ (by omega) (by omega)).mono ?_;rintro e w5 ⟨rfl,rfl⟩)
    generalize ((w.alloc (.cells #[.slice none 0 0,.slice none 0 0] 27)).alloc (.cells #[.slice none 0 0,.slice none 0 0] 27))=W at hx0 hx1 b0 hsz ⊢;have X0:=hid hx0;have X1:=hid hx1;have HSZ:=hid hsz;have B0:=hid b0;clear hx0 hx1 hsz b0;go_loopw [5] (fun iv wr=>∃ i:Nat,i≤k∧iv=.int .i64 (i:Int)∧∃(a:Option Addr) (q:Nat),Box wr (w.heap.size+1) #[.slice a i q,.slice none 0 0] 27∧RBuf strE W.heap.size wr wr (.slice a i q) (List.replicate i zero32)∧Box wr w.heap.size #[.slice none 0 0,.slice none 0 0] 27∧Below w.heap.size w wr) (fun iv _=>k -(intOf iv).toNat)
    case atStart=>exact⟨0,by omega,rfl,none,0,X1.out,⟨World.ownsRow_nil _ _ _ _,Below.refl _ _,Nat.le_refl _⟩,X0.out,B0.out⟩
    case round=>
      obtain⟨i,hi,rfl,a,q,bx,rb,by0,bel⟩:=hrel;have hW:w.heap.size+1 < W.heap.size:=(by have:=HSZ.out;omega);by_cases hlt:i < k
      · have c0:=bx.cell 0 (.slice a i q) rfl
        have hlr:(List.replicate i zero32).length=i:=List.length_replicate;have HC:Hid (∀(x:World) (o:Obj),Below wr.drew.heap.size wr.drew x→RBuf strE W.heap.size (x.alloc o) (x.alloc o) (.slice a i q) (List.replicate i zero32)∧x.cell? ⟨w.heap.size+1,0,none⟩=some (.slice a i q)∧(x.alloc o).cell? ⟨w.heap.size+1,0,none⟩=some (.slice a i q)):=by
          intro x o hx;have hx2:Below wr.heap.size wr x:=((Below.refl _ _).drew).trans hx;exact⟨((rb.later hx2).alloc o).here,(bx.later hx2).cell 0 _ rfl,((bx.later hx2).later ((Below.refl _ _).alloc (Nat.le_refl _) _)).cell 0 _ rfl⟩
        have HC6:Hid (∀(x y:World) (o:Obj),Below wr.drew.heap.size wr.drew x→(x.alloc o).grownBy y (Value.slice a i q).ownBlock→Box y (w.heap.size+1) #[.slice a i q,.slice none 0 0] 27∧Box y w.heap.size #[.slice none 0 0,.slice none 0 0] 27∧Below w.heap.size w y):=by
          intro x y o hx hg;have hx2:Below wr.heap.size wr x:=((Below.refl _ _).drew).trans hx;have hxo:Below wr.heap.size wr (x.alloc o):=hx2.trans (((Below.refl x.heap.size x).alloc (Nat.le_refl _) o).mono hx2.size);have bo:=bx.later hxo;have bo0:=by0.later hxo;have hb:=bel.trans (hxo.mono bel.size);refine⟨(hg.block _ bo.lt (fun e=>by have:=(rb.own.lt _ e.symm).1;omega)).trans bo,(hg.block _ bo0.lt (fun e=>by have:=(rb.own.lt _ e.symm).1;omega)).trans bo0,hb.grown hg hb.size (fun j hj=>by have:=(rb.own.lt j hj).1;omega)⟩
        clear bx rb by0 bel;go_wp2;go_region_law (first
          |(go_simp;go_at_call 116;refine(zbw _).mono ?_;rintro e w5 ⟨rfl,k5⟩;have c5:=(HC.out _ (.cells #[] 0) k5).2.1;have d5:=(HC.out _ (.cells #[.string zero32] 9) k5).2.2;dsimp only)
          |(refine zd (by rfl) _ _ strE (by rfl) W.heap.size _ (List.replicate i zero32) (by rfl) (HC.out _ _ k5).1 w5.heap.size _ [zero32] (by rfl) (RBuf.lit1 strE w5 zero32) (by simp [strE];omega) ?_;intro v6 w6 hr6 hg6 at6 lt6;obtain⟨a6,q6,rfl⟩:=hr6.form;obtain⟨bx6,by6,bel6⟩:=HC6.out _ _ _ k5 hg6;have z1:=bx6.cell 0 (.slice a i q) rfl;have f1:=bx6.loose 0))
        all_goals
          have e6:(List.replicate i zero32++ [zero32]).length=i+1:=by simp
          have e7:List.replicate i zero32++ [zero32]=List.replicate (i+1) zero32:=List.replicate_succ'.symm
          rw [e7,List.length_replicate] at hr6
          have g1:=bx6.set 0 (.slice a6 (i+1) q6)
          have g2:=by6.other (g:=w.heap.size+1) (by omega) 0 (.slice a6 (i+1) q6)
          have nO:(Value.slice a6 (i+1) q6).ownBlock≠some (w.heap.size+1):=fun e=>by have:=(hr6.own.lt _ e).1;omega
          have g3:=(hr6.lown.grown (za w6 (w.heap.size+1) 0 (.slice a6 (i+1) q6)) (.inr nO)).1
          have g4:=bel6.setCell (p:=⟨w.heap.size+1,0,none⟩) (by simp) (.slice a6 (i+1) q6)
          have G:=hid (show Box (w6.setCell ⟨w.heap.size+1,0,none⟩ (.slice a6 (i+1) q6)) (w.heap.size+1) #[.slice a6 (i+1) q6,.slice none 0 0] 27∧_∧_∧_ from⟨by simpa using g1,g3,g2,g4⟩)
          clear g1 g2 g3 g4 bx6 by6 bel6 hr6 hg6 at6 lt6 nO HC HC6 e6 e7
          go_wp2
          go_roundw
          case rel=>exact⟨i+1,by omega,by go_num,a6,q6,G.out⟩
          case measure=>simp [intOf];omega
      · have hie:i=k:=by omega
        subst hie;have m0:=bx.cell 0 (.slice a i q) rfl;have m1:=bx.cell 1 (.slice none 0 0) rfl;have r0:=by0.cell 0 (.slice none 0 0) rfl;have r1:=by0.cell 1 (.slice none 0 0) rfl;have f0:=by0.loose 0;have f1:=by0.loose 1;have RB:=hid rb;have BL:=hid bel;clear bx rb by0 bel;go_wp2;refine bodyPost_ret (v:=.tuple #[.agg #[.slice a i q,.slice none 0 0],.bool true]) (by simp [results,Tryz.results84,go_sem,r0,r1]) rfl ?_;rw [E2.out,HD.out];have q1:=(RB.out.lown.store w.heap.size 0 (.slice a i q) (by omega)).store w.heap.size 1 (.slice none 0 0) (by omega);have bE:=(BL.out.setCell (p:=⟨w.heap.size,0,none⟩) (Nat.le_refl _) (.slice a i q)).setCell (p:=⟨w.heap.size,1,none⟩) (Nat.le_refl _) (.slice none 0 0);exact⟨_,rfl,⟨_,_,rfl,(q1.deeper (by omega)).wider (by simp) (Nat.le_refl _),vs bE.size (Nat.le_refl _),zcI _⟩,bE⟩
  · have E2:=hid (show newD n=⟨[],[]⟩ from if_neg hin)
    have HD:=hid (decide_eq_false hin);go_enter Tryz.func84,Tryz.ntmps84
    go_wp2_with (go_at_call 52;refine(Yu _ _ _ _ hin).mono ?_;rintro e w5 ⟨rfl,rfl⟩)
    refine bodyPost_ret (v:=.tuple #[.agg #[.slice none 0 0,.slice none 0 0],.bool false]) (by simp [results,Tryz.results84,go_sem]) rfl ?_;rw [E2.out,HD.out];exact⟨_,rfl,⟨_,_,rfl,vs b00.size (Nat.le_refl _),vs b00.size (Nat.le_refl _),zcI _⟩,b00⟩
end Go.Proofs.YtklkhllkjnbhjaaGreatDoor
