/- Texts of our own, joined. -/
import Derived.Test.YtklkhllkjnbhjaaGreatDoorJb
import Derived.Laws.OwnMore
/- What SectorText hands back, the model's and the program's. -/
namespace Go.Proofs.YtklkhllkjnbhjaaGreatDoor
open Go.RowKit
open Lib (hid)
set_option maxRecDepth 100000
set_option maxHeartbeats 8000000
def rdO (d:Dk) (a:Int):Option ByteArray:=if 0≤a∧a < d.sec.length then some ((lastAt d.cache a).getD (d.sec.getD a.toNat ⟨#[]⟩)) else none
theorem vp{d:Dk}{a:Int}{t:ByteArray}(h:rdO d a=some t):rdT d a=.tuple #[.string t,.bool true]:=by
  unfold rdO at h;unfold rdT
  split at h
  · rename_i hc;rw [if_pos hc,Option.some.inj h]
  · cases h
theorem J9{d:Dk}{a:Int}(h:rdO d a=none):rdT d a=.tuple #[.string ⟨#[]⟩,.bool false]:=by
  unfold rdO at h;unfold rdT
  split at h
  · cases h
  · rename_i hc;rw [if_neg hc]
theorem Qb{d:Dk}{a:Int}{t:ByteArray}(h:rdO d a=some t):0≤a∧a < d.sec.length:=by
  unfold rdO at h
  split at h
  · assumption
  · cases h
theorem YW{c:List Wr}{a:Int}{t:ByteArray}(h:lastAt c a=some t):∃ x∈c,x.text=t:=by
  induction c with
  | nil=>cases h
  | cons x c ih=>
    unfold lastAt at h
    split at h
    · rename_i t' ht
      cases h
      obtain⟨y,hy,e⟩:=ih ht;exact⟨y,List.mem_cons_of_mem _ hy,e⟩
    · split at h
      · cases h;exact⟨x,by simp,rfl⟩
      · cases h
theorem Q9{d:Dk}{a:Int}{t:ByteArray}(h:rdO d a=some t)(ht:∀ s∈d.sec,s.size≤1099511627776)(hu:∀ x∈d.cache,x.text.size≤1099511627776):t.size≤1099511627776:=by
  have hin:=Qb h;unfold rdO at h;rw [if_pos hin] at h;cases hl:lastAt d.cache a with
  | some u=>
    rw [hl] at h;obtain⟨x,hx,e⟩:=YW hl;cases h
    rw [←e];exact hu x hx
  | none=>
    rw [hl] at h;have hk:a.toNat < d.sec.length:=by omega
    simp [List.getD_eq_getElem?_getD,List.getElem?_eq_getElem hk] at h;rw [←h];exact ht _ (List.getElem_mem hk)
def stL (d:Dk) (a:Int):Nat→Option (List UInt8)
  | 0=>some []
  | i +1=>match stL d a i with
    | none=>none
    | some l=>match rdO d (a+(i:Int)) with
      | some t=>some (l++t.data.toList)
      | none=>none
theorem zbX {d:Dk} {a:Int} {i:Nat} (h:stL d a i=none):∀ j,i≤j→stL d a j=none:=by
  intro j hj
  induction j with
  | zero => have:i=0:=by omega
            subst this;exact h
  | succ j ih=>
    by_cases e:i=j+1
    · subst e;exact h
    · unfold stL;rw [ih (by omega)]
theorem Xh{d:Dk}{a:Int}{i:Nat}{l:List UInt8}{t:ByteArray}(h:stL d a i=some l)(ht:rdO d (a+(i:Int))=some t):stL d a (i+1)=some (l++t.data.toList):=by unfold stL;rw [h,ht]
theorem Va{d:Dk}{a:Int}{i n:Nat}{l:List UInt8}(h:stL d a i=some l)(ht:rdO d (a+(i:Int))=none)(hn:i < n):stL d a n=none:=
  zbX (i:=i+1) (by unfold stL;rw [h,ht]) n hn
def stT (d:Dk) (a n:Int):Value:=if 0≤n∧n≤100 then(match stL d a n.toNat with
  | some l=>.tuple #[.string ⟨l.toArray⟩,.bool true]
  | none=>.tuple #[.string ⟨#[]⟩,.bool false]) else .tuple #[.string ⟨#[]⟩,.bool false]
theorem zbB{d:Dk}{a n:Int}(h:¬(0≤n∧n≤100)):stT d a n=.tuple #[.string ⟨#[]⟩,.bool false]:=by rw [stT,if_neg h]
theorem jL{d:Dk}{a:Int}{n:Nat}(h:stL d a n=none):stT d a (n:Int)=.tuple #[.string ⟨#[]⟩,.bool false]:=by
  unfold stT
  split
  · rw [Int.toNat_natCast,h]
  · rfl
theorem Vj{d:Dk}{a:Int}{n:Nat}{l:List UInt8}(hn:n≤100)(h:stL d a n=some l):stT d a (n:Int)=.tuple #[.string ⟨l.toArray⟩,.bool true]:=by
  unfold stT;rw [if_pos ⟨by omega,by omega⟩,Int.toNat_natCast,h]
theorem Ja(l:List UInt8):Lib.byteCells l=bytesV l:=rfl
theorem VV{T e:TypeId}{B b:Nat}{bs:List Value}{w w':World}(h:Lib.IsBuilder T e B b bs w)(hb:Below w.heap.size w w'):Lib.IsBuilder T e B b bs w':=by
  have hg:w.grownBy w' none:=⟨hb.os,hb.tape,hb.output,hb.size,fun k hk _=>hb.block k hk⟩;have one:∀ p,Lib.BuilderAt T e B b p bs w→Lib.BuilderAt T e B b p bs w':=by
    rintro p ⟨hB,v,hk,ho,hn⟩;refine⟨hB,v,(hb.block b (Array.getElem?_eq_some_iff.1 hk).1).trans hk,ho.kept hg ?_,hn⟩;cases hv:v.ownBlock with
    | none=>exact .inl rfl
    | some k=>exact .inr (by simp)
  rcases h with h | h
  · exact .inl (one _ h)
  · exact .inr (one _ h)
theorem YV (d:Dk) (v:Value) (a n:Int) (w:World) (h:DRd w v d) (hs:d.small) (ht:∀ s∈d.sec,s.size≤1099511627776) (hu:∀ x∈d.cache,x.text.size≤1099511627776)
    (ha:-9223372036854775808≤a∧a≤9223372036854775807):
    Calls Tryz.prog 140 #[v,.int .i64 a,.int .i64 n] w fun e w'=>e=.returned (stT d a n)∧Below w.heap.size w w':=by
  obtain⟨aa,ab,ca,cb,rfl,_,_⟩:=h.form;have hx:=Box.new w #[.slice aa d.sec.length ca,.slice ab d.cache.length cb] 27;have b0:Below w.heap.size w (w.alloc (.cells #[.slice aa d.sec.length ca,.slice ab d.cache.length cb] 27)):=(Below.refl _ _).alloc (Nat.le_refl _) _;by_cases hin:0≤n∧n≤100
  · obtain ⟨N,rfl⟩:=Int.eq_ofNat_of_zero_le hin.1
    have hN:N≤100:=by omega
    obtain⟨hx0,hx1,bT,hsz⟩:=zO w #[.slice aa d.sec.length ca,.slice ab d.cache.length cb] #[.pointer none,.slice none 0 0] 27 197;clear hx b0;go_enter Tryz.func140,Tryz.ntmps140
    go_wp2;generalize ((w.alloc (.cells #[.slice aa d.sec.length ca,.slice ab d.cache.length cb] 27)).alloc (.cells #[.pointer none,.slice none 0 0] 197))=W at hx0 hx1 bT hsz ⊢;have B0:Hid (Lib.IsBuilder 197 5 (w.heap.size+1) (w.heap.size+1) (Lib.byteCells []) W∧Box W w.heap.size #[.slice aa d.sec.length ca,.slice ab d.cache.length cb] 27∧Below w.heap.size w W∧w.heap.size+1≤W.heap.size):=
      ⟨.inl ⟨Nat.le_refl _,.slice none 0 0,hx1,World.ownsRow_nil _ _ _ _,by simp [Value.ownBlock]⟩,hx0,bT,by omega⟩
    have HD:=hid h;clear hx0 hx1 bT hsz h;go_loopw [19] (fun iv wr=>∃ i:Nat,i≤N∧iv=.int .i64 (i:Int)∧(i=0∨(0≤a∧a < d.sec.length))∧∃ l:List UInt8,stL d a i=some l∧l.length≤i * 1099511627776∧Lib.IsBuilder 197 5 (w.heap.size+1) (w.heap.size+1) (Lib.byteCells l) wr∧Box wr w.heap.size #[.slice aa d.sec.length ca,.slice ab d.cache.length cb] 27∧Below w.heap.size w wr∧w.heap.size+1≤wr.heap.size) (fun iv _=>N -(intOf iv).toNat)
    case atStart=>exact⟨0,by omega,rfl,.inl rfl,[],rfl,by simp,B0.out⟩
    case round=>
      obtain⟨i,hi,rfl,hor,l,hst,hll,hbd,hbx,hbl,hsz⟩:=hrel;by_cases hlt:i < N
      · have c0:=hbx.cell 0 (.slice aa d.sec.length ca) rfl
        have c1:=hbx.cell 1 (.slice ab d.cache.length cb) rfl;have hs1:=hs.1;have hwr:IntKind.i64.wrap (a+(i:Int))=a+(i:Int):=IntWalk.i64_in _ ⟨by rcases hor with e | e <;> omega,by rcases hor with e | e <;> omega⟩;have hD:=HD.out.later hbl;cases hrd:rdO d (a+(i:Int)) with
        | none=>
          have HZ:=hid (jL (Va hst hrd hlt));have HR:=hid (J9 hrd);have HB:=hid hbl;clear hst hrd hbd hor;go_wp2_with (go_at_call 151;refine(Zy d _ (a+(i:Int)) _ hD hs ht hu).mono ?_;rintro e w1 ⟨rfl,k1⟩;rw [HR.out])
          go_ret2
          exact⟨by rw [HZ.out];rfl,HB.out.trans (k1.mono HB.out.size)⟩
        | some t=>
          have htz:=Q9 hrd ht hu;have hin2:=Qb hrd;have HS:=hid (Xh hst hrd);have HR:=hid (vp hrd);have HO:Hid (0≤a∧a < d.sec.length∨i=0):=by rcases hor with e | e;exact .inr e;exact .inl e
          have HB:=hid hbl;have HBX:=hid hbx;have HBD:=hid hbd;clear hst hrd hbd hor hbx;have hlc:(Lib.byteCells l).length=l.length:=(by rw [Ja,zF]);have hlen:l.length+t.size≤140737488355328:=by
            have:i * 1099511627776≤99 * 1099511627776:=Nat.mul_le_mul_right _ (by omega);omega
          have HLN:=hid hlen;have HLC:=hid hlc;have HLL:=hid hll;clear hlen hlc hll;go_wp2_with (first
            |(go_at_call 151;refine(Zy d _ (a+(i:Int)) _ hD hs ht hu).mono ?_;rintro e w1 ⟨rfl,k1⟩;rw [HR.out])
            |(go_at_call 152;refine(zbD (w.heap.size+1) (w.heap.size+1) (Lib.byteCells l) t _ (VV HBD.out k1) (by rw [HLC.out];exact HLN.out) (Nat.le_trans hsz k1.size)).mono ?_;rintro e w2 ⟨rfl,bd2,k2⟩))
          have bF:Below w.heap.size w w2:=(HB.out.trans (k1.mono HB.out.size)).trans (k2.mono (by omega));have bx2:=(HBX.out.later k1).under k2 (by omega);have es:Lib.byteCells l++Lib.strCells t=Lib.byteCells (l++t.data.toList):=(by simp [Lib.byteCells,Lib.strCells]);rw [es] at bd2;have hsz2:w.heap.size+1≤w2.heap.size:=Nat.le_trans (Nat.le_trans hsz k1.size) k2.size;have hl2:(l++t.data.toList).length≤(i+1) * 1099511627776:=by
            have:t.data.toList.length=t.size:=(by rw [Array.length_toList];rfl);have:=HLL.out;rw [List.length_append,Nat.succ_mul];omega
          have hor2:i+1=0∨(0≤a∧a < d.sec.length):=by
            rcases HO.out with e | e
            · exact .inr e
            · subst e;exact .inr (by simpa using hin2)
          have FIN:=hid (show ∃ l:List UInt8,stL d a (i+1)=some l∧l.length≤(i+1) * 1099511627776∧Lib.IsBuilder 197 5 (w.heap.size+1) (w.heap.size+1) (Lib.byteCells l) w2∧_∧_∧_ from⟨_,HS.out,hl2,.inr bd2,bx2,bF,hsz2⟩);clear bd2 bx2 bF es hl2;go_roundw
          case rel=>exact⟨i+1,by omega,by go_num,hor2,FIN.out⟩
          case measure=>simp [intOf];omega
      · have hie:i=N:=by omega
        subst hie;have HZ:=hid (Vj hN hst);have HB:=hid hbl;have HBD:=hid hbd;clear hst hbd hor;go_wp2_with (go_at_call 153;refine(zat (w.heap.size+1) (w.heap.size+1) l _ HBD.out hsz).mono ?_;rintro e w1 ⟨rfl,k1⟩)
        go_ret2
        exact⟨by rw [HZ.out];rfl,HB.out.trans (k1.mono (by omega))⟩
  · have HZ:=hid (zbB (d:=d) (a:=a) hin)
    clear h;go_enter Tryz.func140,Tryz.ntmps140
    go_wp2
    all_goals
      go_ret2
      exact⟨by rw [HZ.out];rfl,b0⟩
theorem Qi(l:List UInt8)(t:ByteArray):(⟨l.toArray⟩:ByteArray) ++t=⟨(l++t.data.toList).toArray⟩:=by
  obtain⟨⟨r⟩⟩:=t;apply ByteArray.ext;simp
theorem jj (d :Dk) (v:Value) (a n:Int) (w:World) (h:DRd w v d) (hs:d.small) (ht:∀ s∈d.sec,s.size≤1099511627776) (hu:∀ x∈d.cache,x.text.size≤1099511627776):
    Calls Tryz.prog 133 #[v,.int .i64 a,.int .i64 n] w fun e w'=>e=.returned (stT d a n)∧Below w.heap.size w w':=by
  obtain⟨aa,ab,ca,cb,rfl,_,_⟩:=h.form;have hx:=Box.new w #[.slice aa d.sec.length ca,.slice ab d.cache.length cb] 27;have b0:Below w.heap.size w (w.alloc (.cells #[.slice aa d.sec.length ca,.slice ab d.cache.length cb] 27)):=(Below.refl _ _).alloc (Nat.le_refl _) _;by_cases hin:0≤n∧n≤100
  · obtain ⟨N,rfl⟩:=Int.eq_ofNat_of_zero_le hin.1
    have hN:N≤100:=by omega
    go_enter Tryz.func133,Tryz.ntmps133
    go_wp2_with (go_at_call 52;refine(Zo _ _ _ _ (by omega) (by omega)).mono ?_;rintro e w5 ⟨rfl,rfl⟩)
    generalize w.alloc (.cells #[.slice aa d.sec.length ca,.slice ab d.cache.length cb] 27)=W at hx b0 ⊢;have HD:=hid h;have HX:=hid hx;have B0:=hid b0;clear hx b0 h;go_loopw [8,9] (fun sv iv wr=>∃ i:Nat,i≤N∧iv=.int .i64 (i:Int)∧(i=0∨(0≤a∧a < d.sec.length))∧∃ l:List UInt8,stL d a i=some l∧l.length≤i * 1099511627776∧sv=.string ⟨l.toArray⟩∧Below W.heap.size W wr) (fun _ iv _=>N -(intOf iv).toNat)
    case atStart=>exact⟨0,by omega,rfl,.inl rfl,[],rfl,by simp,rfl,Below.refl _ _⟩
    case round=>
      obtain⟨i,hi,rfl,hor,l,hst,hll,rfl,hbr⟩:=hrel;have hbl:Below w.heap.size w wr:=B0.out.trans (hbr.mono B0.out.size);by_cases hlt:i < N
      · have hbx:=HX.out.later hbr
        have c0:=hbx.cell 0 (.slice aa d.sec.length ca) rfl;have c1:=hbx.cell 1 (.slice ab d.cache.length cb) rfl;have hs1:=hs.1;by_cases hg:0≤a∧a≤d.sec.length
        · have hg0:(0:Int)≤a:=hg.1
          have hg1:a≤(d.sec.length:Int):=hg.2;have hD:=HD.out.later hbl;cases hrd:rdO d (a+(i:Int)) with
          | none=>
            have HZ:=hid (jL (Va hst hrd hlt));have HR:=hid (J9 hrd);have HB:=hid hbl;clear hst hrd hor;go_wp2_with (go_at_call 132;refine(Ze d _ (a+(i:Int)) _ hD hs).mono ?_;rintro e w1 ⟨rfl,k1⟩;rw [HR.out])
            go_ret2
            exact⟨by rw [HZ.out];rfl,HB.out.trans (k1.mono HB.out.size)⟩
          | some t=>
            have htz:=Q9 hrd ht hu;have hin2:=Qb hrd;have HS:=hid (Xh hst hrd);have HR:=hid (vp hrd);have HO:Hid (0≤a∧a < d.sec.length∨i=0):=by rcases hor with e | e;exact .inr e;exact .inl e
            clear hst hrd hor;go_wp2_with (go_at_call 132;refine(Ze d _ (a+(i:Int)) _ hD hs).mono ?_;rintro e w1 ⟨rfl,k1⟩;rw [HR.out])
            have hl2:(l++t.data.toList).length≤(i+1) * 1099511627776:=by
              have:t.data.toList.length=t.size:=(by rw [Array.length_toList];rfl);rw [List.length_append,Nat.succ_mul];omega
            have hor2:i+1=0∨(0≤a∧a < d.sec.length):=by
              rcases HO.out with e | e
              · exact .inr e
              · subst e;exact .inr (by simpa using hin2)
            go_roundw
            case rel=>exact⟨i+1,by omega,by go_num,hor2,_,HS.out,hl2,congrArg Value.string (Qi l t),hbr.trans (k1.mono hbr.size)⟩
            case measure=>simp [intOf];omega
        · have hrd:rdO d (a+(i:Int))=none:=by
            rcases hor with e | e
            · subst e;unfold rdO;rw [if_neg];simp;omega
            · omega
          have HZ:=hid (jL (Va hst hrd hlt));have HB:=hid hbl;clear hst hrd hor;go_wp2
          all_goals
            go_ret2
            exact⟨by rw [HZ.out];rfl,HB.out⟩
      · have hie:i=N:=by omega
        subst hie;have HZ:=hid (Vj hN hst);have HB:=hid hbl;clear hst hor;go_wp2;go_ret2
        exact⟨by rw [HZ.out];rfl,HB.out⟩
  · have HZ:=hid (zbB (d:=d) (a:=a) hin)
    clear h;go_enter Tryz.func133,Tryz.ntmps133
    go_wp2_with (go_at_call 52;refine(Yu _ _ _ _ hin).mono ?_;rintro e w5 ⟨rfl,rfl⟩)
    go_ret2
    exact⟨by rw [HZ.out];rfl,b0⟩

/- Disks: what the program's DiskOk hands back. -/
theorem yd (d : Dk) (v:Value) (w:World) (h:DRd w v d) (hs:d.small):
    Calls Tryz.prog 31 #[v] w fun e w'=>e=.returned (.bool (decide d.ok))∧Below w.heap.size w w':=by
  obtain⟨va,vb,rfl,ha,hb⟩:=h;obtain⟨s1,s2⟩:=hs;have b0:Below w.heap.size w (w.alloc (.cells #[va,vb] 27)):=(Below.refl _ _).alloc (Nat.le_refl _) _;have hx:=Box.new w #[va,vb] 27;obtain⟨aa,ca,rfl⟩:∃(a:Option Addr) (c:Nat),va=.slice a d.sec.length c:=by
    rcases ha with⟨e,a,c,rfl⟩ |⟨g,c,rfl,_⟩
    · exact⟨a,c,by rw [e];rfl⟩
    · exact⟨_,c,rfl⟩
  obtain⟨ab,cb,rfl⟩:∃(a:Option Addr) (c:Nat),vb=.slice a d.cache.length c:=by
    rcases hb with⟨e,a,c,rfl⟩ |⟨g,o,c,rfl,_⟩
    · exact⟨a,c,by rw [e];rfl⟩
    · exact⟨_,c,rfl⟩
  have c0:=hx.cell 0 (.slice aa d.sec.length ca) rfl;have c1:=hx.cell 1 (.slice ab d.cache.length cb) rfl;by_cases hin:1≤d.sec.length∧d.sec.length≤100
  · by_cases hc : d.cache.length≤60
    · have HA :=hid (ha.later b0)
      have HB:=hid (hb.later b0);clear ha hb;go_enter Tryz.func31,Tryz.ntmps31
      go_wp2;generalize w.alloc (.cells #[.slice aa d.sec.length ca,.slice ab d.cache.length cb] 27)=W at *;go_loopw [26] (fun iv wr=>∃ i:Nat,i≤d.sec.length∧iv=.int .i64 (i:Int)∧(∀ s∈d.sec.take i,s.size=32)∧Below W.heap.size W wr) (fun iv _=>d.sec.length -(intOf iv).toNat)
      case atStart=>exact⟨0,by omega,rfl,by simp,Below.refl _ _⟩
      case round=>
        obtain⟨i,hi,rfl,hall,hbr⟩:=hrel;have br:Below w.heap.size w wr:=b0.trans (hbr.mono b0.size);by_cases hlt:i < d.sec.length
        · have HL:=hid hall
          have HM:=hid (List.getElem_mem hlt);have htk:=hid (List.take_succ_eq_append_getElem hlt);obtain⟨g,rfl,hcs⟩:=(HA.out.later hbr).at i hlt;have hi0:(0:Int)≤(i:Int):=(by omega);have hi1:(i:Int) <(d.sec.length:Int):=(by omega);clear hall;generalize d.sec[i]=t at *;by_cases h32:t.size=32
          · go_wp2_with (go_at_call 59;refine(jB _ _).mono ?_;rintro e w1 ⟨rfl,k1⟩;rw [decide_eq_true h32])
            go_roundw
            case rel=>exact⟨i+1,by omega,by go_num,by
              rw [htk.out];intro x hx;rcases List.mem_append.1 hx with h | h
              · exact HL.out x h
              · simp at h;rw [h];exact h32,hbr.trans (k1.mono hbr.size)⟩
            case measure=>simp [intOf];omega
          · have HNO:=hid (show decide d.ok=false from decide_eq_false (fun h=>h32 (h.2.2.2.1 t HM.out)))
            go_wp2_with (go_at_call 59;refine(jB _ _).mono ?_;rintro e w1 ⟨rfl,k1⟩;rw [decide_eq_false h32])
            go_ret;exact⟨by rw [HNO.out];rfl,br.trans (k1.mono br.size)⟩
        · have hall':∀ s∈d.sec,s.size=32:=by rw [List.take_of_length_le (by omega)] at hall;exact hall
          have HALL:=hid hall';have e1:=(hbr.cell (p:=⟨w.heap.size,1,none⟩) hx.lt).trans c1;clear hall hall';have HB2:=hid (HB.out.later hbr);go_wp2;obtain⟨wa,hwa⟩:∃ wa,wa=wr:=⟨_,rfl⟩;subst hwa;go_loopw [37] (fun iv wx=>∃ j:Nat,j≤d.cache.length∧iv=.int .i64 (j:Int)∧(∀ x∈d.cache.take j,0≤x.at_∧x.at_ < d.sec.length∧x.text.size=32)∧Below wa.heap.size wa wx) (fun iv _=>d.cache.length -(intOf iv).toNat)
          case atStart=>exact⟨0,by omega,rfl,by simp,Below.refl _ _⟩
          case round=>
            obtain⟨j,hj,rfl,hall,hbx⟩:=hrel;have bx:Below w.heap.size w wr:=br.trans (hbx.mono br.size);by_cases hlt2:j < d.cache.length
            · have HL:=hid hall
              have HM:=hid (List.getElem_mem hlt2);have htk:=hid (List.take_succ_eq_append_getElem hlt2);obtain⟨g,off,rfl,hcl⟩:=HB2.out.at j hlt2;have d0:wr.cell? ⟨g,off+j * 2,none⟩=some (.int .i64 d.cache[j].at_):=hcl wr hbx 0 _ rfl;have d1:wr.cell? ⟨g,off+j * 2+1,none⟩=some (.string d.cache[j].text):=hcl wr hbx 1 _ rfl;clear hall hcl e1 c0 c1;generalize d.cache[j]=x at *;obtain⟨n,t⟩:=x;simp only at d0 d1;have hj0:(0:Int)≤(j:Int):=(by omega);have hj1:(j:Int) <(d.cache.length:Int):=(by omega);have bA:Below wr.heap.size wr (wr.alloc (.cells #[.int .i64 n,.string t] 63)):=(Below.refl _ _).alloc (Nat.le_refl _) _;by_cases hat:0≤n∧n <(d.sec.length:Int)∧t.size=32
              · go_wp2_with (go_at_call 60;refine(Ju ⟨n,t⟩ _ _).mono ?_;rintro e w1 ⟨rfl,k1⟩;rw [decide_eq_true hat])
                have k2:=bA.trans (k1.mono bA.size);go_roundw
                case rel=>exact⟨j+1,by omega,by go_num,by
                  rw [htk.out];intro x hx;rcases List.mem_append.1 hx with h | h
                  · exact HL.out x h
                  · simp at h;rw [h];exact hat,hbx.trans (k2.mono hbx.size)⟩
                case measure=>simp [intOf];omega
              · have HNO:=hid (show decide d.ok=false from decide_eq_false (fun h=>hat (h.2.2.2.2 _ HM.out)))
                go_wp2_with (go_at_call 60;refine(Ju ⟨n,t⟩ _ _).mono ?_;rintro e w1 ⟨rfl,k1⟩;rw [decide_eq_false hat])
                have k2:=bA.trans (k1.mono bA.size);go_ret;exact⟨by rw [HNO.out];rfl,bx.trans (k2.mono bx.size)⟩
            · have hyes:decide d.ok=true:=decide_eq_true ⟨hin.1,hin.2,hc,HALL.out,by rw [List.take_of_length_le (by omega)] at hall;exact hall⟩
              have HY:=hid hyes;clear hall hyes;go_wp2;go_ret;exact⟨by rw [HY.out];rfl,bx⟩
    · have hno:decide d.ok=false:=decide_eq_false (fun h=>hc h.2.2.1)
      rw [hno];go_enter Tryz.func31,Tryz.ntmps31
      go_wp2;go_ret;exact⟨rfl,b0⟩
  · have hno:decide d.ok=false:=decide_eq_false (fun h=>hin ⟨h.1,h.2.1⟩)
    rw [hno];go_enter Tryz.func31,Tryz.ntmps31
    go_wp2
    all_goals
      go_ret
      exact⟨rfl,b0⟩

/- Appends of one list of the call's own to another, at an operation, in a list of operations and in a region that draws its order. -/
variable {α : Type} {E : Enc α}
theorem RBuf.shift{B:Nat}{w w':World}{v:Value}{l:List α}{r:Option Nat}(h:RBuf E B w w v l)(hg:w.grownBy w' r)(hne:v.ownBlock=none∨v.ownBlock≠r):RBuf E B w' w' v l:=
  ⟨h.own.kept hg hne,Below.refl _ _,Nat.le_trans h.le hg.size⟩
theorem RBuf.lower{B B0:Nat}{w:World}{v:Value}{l:List α}(h:RBuf E B w w v l)(hB:B0≤B):RBuf E B0 w w v l:=h.down (Below.refl _ _) hB
theorem JN {w:World} (ty:TypeId) (B:Nat) (v:Value) (l:List α) (hb:RBuf E B w w v l) (Bx:Nat) (vx:Value) (m:List α) (hx:RBuf E Bx w w vx m)
    (hlen:(l.length+m.length) *(E.bytes+1)≤140737488355328):
    ∃ v' w',(Builtin.append_ #[E.sty,E.sty] ty #[v,vx]).run Tryz.prog w=.ok v' w'∧RBuf E B w' w' v' (l++m)∧w.grownBy w' v.ownBlock∧(v'.ownBlock=v.ownBlock∨v'.ownBlock=some w.heap.size):=by
  obtain⟨i0,hi,hz0,hz1,hz2⟩:=info_parts E.info;have e0:(l.length+m.length) *(E.bytes+1)=(l.length+m.length) * E.bytes+(l.length+m.length):=Nat.mul_succ _ _;rcases hx.own.2 with⟨rfl,h0⟩ |⟨g,cap,cur,rfl,hg,hh,hnc,hcp,hcs,htake⟩
  · obtain rfl:=List.length_eq_zero_iff.1 h0
    refine⟨v,w,run_append_owned_none (P:=Tryz.prog) w B E.sty ty E.ty i0 E.sz E.und hi v l.length (E.row l) hb.own,by simpa using hb,World.grownBy.refl _ _,.inl rfl⟩
  · obtain⟨v',w',h1,h2,h3,_,h5⟩:=run_append_own_at (P:=Tryz.prog) w B E.sty ty E.ty i0 E.zero E.sz E.bytes E.und hi hz0 hz1 hz2 E.zc E.pos v l.length (E.row l) hb.own ⟨g,0,none⟩ m.length cap (E.row m) (E.row_length m)
      (fun j u hu=>by
        have hjl:j < m.length * E.sz:=by have:=(List.getElem?_eq_some_iff.1 hu).1;rwa [E.row_length] at this
        rw [Addr.add_lit,Nat.zero_add,hx.own.cellAt j hjl];exact hu) (E.row_one' m) (by unfold maxLen;omega) (by omega) hb.le
    refine⟨v',w',h1,⟨?_,Below.refl _ _,Nat.le_trans hb.le h3.size⟩,h3,h5⟩;rw [List.length_append,E.row_append];exact h2
theorem yj{w:World}{o:Oper}{a:Act}{K:Act→World→Prop}{Q:Exit→Act→World→Prop}(s x:Operand)(E:Enc α)
    (ho:o.op=.call {callee:=.builtin .append,args:=#[s,x],argTypes:=#[E.sty,E.sty]})
    (B:Nat) (v:Value) (l:List α) (hs:a.eval s=v) (hb:RBuf E B w w v l) (Bx:Nat) (vx:Value) (m:List α) (hxv:a.eval x=vx) (hx:RBuf E Bx w w vx m)
    (hlen:(l.length+m.length) *(E.bytes+1)≤140737488355328)
    (h:∀ v' w',RBuf E B w' w' v' (l++m)→w.grownBy w' v.ownBlock→(v'.ownBlock=v.ownBlock∨v'.ownBlock=some w.heap.size)→K (a.put o.dst v') w'):o.wp Tryz.prog a w K Q:=by
  obtain⟨v',w',hr,h2,h3,h4⟩:=JN o.type B v l hb Bx vx m hx hlen;unfold Oper.wp execOp;simp only [ho,resolve,invoke,builtin,Sem.run_bind,Sem.run_pure,Result.andThen_ok,List.map_toArray,List.map_cons,List.map_nil,hs,hxv,hr];exact h v' w' h2 h3 h4
theorem zA{w:World}{ops:Array Oper}{rest:List Oper}{o:Oper}{a:Act}{Q:Exit→Act→World→Prop}(hgd:o.guard=none)(s x:Operand)(E:Enc α)
    (ho:o.op=.call {callee:=.builtin .append,args:=#[s,x],argTypes:=#[E.sty,E.sty]})
    (B:Nat) (v:Value) (l:List α) (hs:a.eval s=v) (hb:RBuf E B w w v l) (Bx:Nat) (vx:Value) (m:List α) (hxv:a.eval x=vx) (hx:RBuf E Bx w w vx m)
    (hlen:(l.length+m.length) *(E.bytes+1)≤140737488355328)
    (h:∀ v' w',RBuf E B w' w' v' (l++m)→w.grownBy w' v.ownBlock→(v'.ownBlock=v.ownBlock∨v'.ownBlock=some w.heap.size)→wpList Tryz.prog ops Q rest (a.put o.dst v') w'):wpList Tryz.prog ops Q (o::rest) a w:=
  wpList_plain hgd fun _ hK=>yj s x E ho B v l hs hb Bx vx m hxv hx hlen fun v' w' h2 h3 h4=>hK _ _ (h v' w' h2 h3 h4)
theorem zd{w:World}{ops:Array Oper}{o:Oper}{a:Act}{K:Act→World→Prop}{Q:Exit→Act→World→Prop}{X:Prop}(hgd:o.guard=none)(s x:Operand)(E:Enc α)
    (ho:o.op=.call {callee:=.builtin .append,args:=#[s,x],argTypes:=#[E.sty,E.sty]})
    (B:Nat) (v:Value) (l:List α) (hs:a.eval s=v) (hb:RBuf E B w w v l) (Bx:Nat) (vx:Value) (m:List α) (hxv:a.eval x=vx) (hx:RBuf E Bx w w vx m)
    (hlen:(l.length+m.length) *(E.bytes+1)≤140737488355328)
    (h:∀ v' w',RBuf E B w' w' v' (l++m)→w.grownBy w' v.ownBlock→(v'.ownBlock=v.ownBlock∨v'.ownBlock=some w.heap.size)→(∀ k,v.ownBlock=some k→B≤k∧k < w.heap.size)→K (a.put o.dst v') w'):
    if Region.wanted o (yielded ops a.tmps)=true then Oper.wp Tryz.prog o a w K Q else X:=by
  have hw:Region.wanted o (yielded ops a.tmps)=true:=by simp [Region.wanted,hgd]
  rw [if_pos hw];exact yj s x E ho B v l hs hb Bx vx m hxv hx hlen fun v' w' h2 h3 h4=>h v' w' h2 h3 h4 (fun k hk=>hb.own.lt k hk)
theorem RBuf.lit1(E:Enc α)(w:World)(x:α):RBuf E w.heap.size (w.alloc (.cells (E.f x).toArray E.ty)) (w.alloc (.cells (E.f x).toArray E.ty)) (.slice (some ⟨w.heap.size,0,none⟩) 1 1) [x]:=by
  refine⟨?_,Below.refl _ _,by simp⟩;have:=World.ownsRow_lit (base:=w.heap.size) (e:=E.ty) (size:=E.sz) w (E.f x).toArray 1 (Nat.le_refl _) (by decide) (by simp [E.len]);simpa [E.row_one] using this

/- Disks: what the model's functions hand back that make disks. -/
theorem yK{α:Type}(E:Enc α){B g g':Nat}{w:World}(h:w.heap[g']? =some (.cells #[] E.ty (0,0)))(hg:g=g')(hB:B≤g)(hs:B≤w.heap.size):RBuf E B w w (.slice (some ⟨g,0,none⟩) 0 0) []:=by
  subst hg;exact⟨⟨by simp [Enc.row],.inr ⟨g,0,#[],rfl,hB,h,Nat.le_refl _,by decide,by simp,by simp [Enc.row]⟩⟩,Below.refl _ _,hs⟩
theorem zdj{w w':World}{r:Option Nat}{g:Nat}{o:Obj}(hg:w.grownBy w' r)(h:w.heap[g]? =some o)(hne:some g≠r):w'.heap[g]? =some o:=by
  have hlt:g < w.heap.size:=(Array.getElem?_eq_some_iff.1 h).1;rw [hg.block g hlt hne,h]
theorem J6{l:List ByteArray}{C gb:Nat}{wA X wB:World}{vA vB:Value}(hA:RBuf strE C wA wA vA l)(hX:RBuf strE C X X vA l)(hs:wA.heap.size≤X.heap.size)(gB:X.grownBy wB (some gb))(hne:vA.ownBlock≠some gb)
    (atB:vB.ownBlock=some gb∨vB.ownBlock=some X.heap.size):RBuf strE C wB wB vA l∧(vA.ownBlock=none∨vA.ownBlock≠vB.ownBlock):=by
  refine⟨hX.shift gB (.inr hne),.inr ?_⟩;rcases atB with e | e
  · rw [e];exact hne
  · intro h
    rw [e] at h;have:=(hA.own.lt _ h).2;omega
theorem zan{l:List ByteArray}{C:Nat}{wA wB:World}{o:Obj}{vA vB:Value}(hA:RBuf strE C wA wA vA l)(gB:(wA.alloc o).grownBy wB (some wA.heap.size))
    (atB:vB.ownBlock=some wA.heap.size∨vB.ownBlock=some (wA.alloc o).heap.size):RBuf strE C wB wB vA l∧(vA.ownBlock=none∨vA.ownBlock≠vB.ownBlock):=
  J6 hA (hA.alloc o).here (by simp) gB (fun h=>by have:=(hA.own.lt _ h).2;omega) atB
theorem zao{l:List ByteArray}{C:Nat}{W wA wB:World}{o1 o2:Obj}{vA vB:Value}(hA:RBuf strE C wA wA vA l)(gB:wA.grownBy wB (some (W.heap.size+1)))
    (atA:vA.ownBlock=some W.heap.size∨vA.ownBlock=some ((W.alloc o1).alloc o2).drew.heap.size) (atB:vB.ownBlock=some (W.heap.size+1)∨vB.ownBlock=some wA.heap.size):RBuf strE C wB wB vA l∧(vA.ownBlock=none∨vA.ownBlock≠vB.ownBlock):=
  J6 hA hA (Nat.le_refl _) gB (fun h=>by
    have e:((W.alloc o1).alloc o2).drew.heap.size=W.heap.size+2:=by show((W.alloc o1).alloc o2).heap.size=_;simp
    rcases atA with a | a <;> rw [a] at h <;> have:=Option.some.inj h <;> omega) atB
theorem zau{l:List ByteArray}{C:Nat}{W wA wB:World}{o1 o2:Obj}{vA vB:Value}(hA:RBuf strE C wA wA vA l)(gB:wA.grownBy wB (some W.heap.size))
    (atA:vA.ownBlock=some (W.heap.size+1)∨vA.ownBlock=some ((W.alloc o1).alloc o2).drew.heap.size) (atB:vB.ownBlock=some W.heap.size∨vB.ownBlock=some wA.heap.size):RBuf strE C wB wB vA l∧(vA.ownBlock=none∨vA.ownBlock≠vB.ownBlock):=
  J6 hA hA (Nat.le_refl _) gB (fun h=>by
    have e:((W.alloc o1).alloc o2).drew.heap.size=W.heap.size+2:=by show((W.alloc o1).alloc o2).heap.size=_;simp
    rcases atA with a | a <;> rw [a] at h <;> have:=Option.some.inj h <;> omega) atB
theorem zE (d:Dk) (v:Value) (B T:Nat) (w:World) (h:DOwn B T w v d) (hs:d.small):
    Calls Tryz.prog 75 #[v] w fun e w'=>∃ v',e=.returned v'∧DOwn w.heap.size w'.heap.size w' v' d∧Below w.heap.size w w':=by
  obtain⟨va,vb,rfl,h1,h2,h3⟩:=h;obtain⟨aa,ca,rfl⟩:=h1.1.form;obtain⟨ab,cb,rfl⟩:=h2.1.form;obtain⟨s1,s2⟩:=hs;obtain⟨hx0,hx1,b0,hsz⟩:Box ((w.alloc (.cells #[.slice aa d.sec.length ca,.slice ab d.cache.length cb] 27)).alloc (.cells #[.slice none 0 0,.slice none 0 0] 27)) w.heap.size #[.slice aa d.sec.length ca,.slice ab d.cache.length cb] 27∧
      Box ((w.alloc (.cells #[.slice aa d.sec.length ca,.slice ab d.cache.length cb] 27)).alloc (.cells #[.slice none 0 0,.slice none 0 0] 27)) (w.heap.size+1) #[.slice none 0 0,.slice none 0 0] 27∧
      Below w.heap.size w ((w.alloc (.cells #[.slice aa d.sec.length ca,.slice ab d.cache.length cb] 27)).alloc (.cells #[.slice none 0 0,.slice none 0 0] 27))∧
      ((w.alloc (.cells #[.slice aa d.sec.length ca,.slice ab d.cache.length cb] 27)).alloc (.cells #[.slice none 0 0,.slice none 0 0] 27)).heap.size=w.heap.size+2:=by
    have e1:(w.alloc (.cells #[.slice aa d.sec.length ca,.slice ab d.cache.length cb] 27)).heap.size=w.heap.size+1:=by simp
    have q0:=Box.new w #[.slice aa d.sec.length ca,.slice ab d.cache.length cb] 27;have q1:=Box.new (w.alloc (.cells #[.slice aa d.sec.length ca,.slice ab d.cache.length cb] 27)) #[.slice none 0 0,.slice none 0 0] 27;rw [e1] at q1;exact⟨q0.later ((Below.refl _ _).alloc (Nat.le_refl _) _),q1,((Below.refl _ _).alloc (Nat.le_refl _) _).alloc (by simp) _,by simp⟩
  go_enter Tryz.func75,Tryz.ntmps75
  go_wp2;generalize ((w.alloc (.cells #[.slice aa d.sec.length ca,.slice ab d.cache.length cb] 27)).alloc (.cells #[.slice none 0 0,.slice none 0 0] 27))=W at hx0 hx1 b0 hsz ⊢;have c0:=hx0.cell 0 (.slice aa d.sec.length ca) rfl;have c1:=hx0.cell 1 (.slice ab d.cache.length cb) rfl;have hd1:Below w.heap.size w W.drew:=b0.drew;have HK0:Hid (W.drew.cell? ⟨w.heap.size,0,none⟩=some (.slice aa d.sec.length ca)∧W.drew.cell? ⟨w.heap.size,1,none⟩=some (.slice ab d.cache.length cb)∧Below w.heap.size w W.drew∧W.heap.size≤W.drew.heap.size∧∃ u0 u1,Box W.drew (w.heap.size+1) #[u0,u1] 27):=⟨c0,c1,b0.drew,Nat.le_refl _,_,_,hx1⟩;have HK1:Hid (∀(x:World) (o:Obj),(x.cell? ⟨w.heap.size,0,none⟩=some (.slice aa d.sec.length ca)∧x.cell? ⟨w.heap.size,1,none⟩=some (.slice ab d.cache.length cb)∧Below w.heap.size w x∧W.heap.size≤x.heap.size∧∃ u0 u1,Box x (w.heap.size+1) #[u0,u1] 27)→((x.alloc o).cell? ⟨w.heap.size,0,none⟩=some (.slice aa d.sec.length ca)∧(x.alloc o).cell? ⟨w.heap.size,1,none⟩=some (.slice ab d.cache.length cb)∧Below w.heap.size w (x.alloc o)∧W.heap.size≤(x.alloc o).heap.size∧∃ u0 u1,Box (x.alloc o) (w.heap.size+1) #[u0,u1] 27)):=by
    intro x o ⟨h1,h2,h3,h4,u0,u1,h5⟩;have hb:Below x.heap.size x (x.alloc o):=(Below.refl _ _).alloc (Nat.le_refl _) _;refine⟨(hb.cell (p:=⟨w.heap.size,0,none⟩) (World.block_lt_of_cell? _ _ h1)).trans h1,(hb.cell (p:=⟨w.heap.size,1,none⟩) (World.block_lt_of_cell? _ _ h2)).trans h2,h3.alloc (by omega) o,Nat.le_trans h4 hb.size,u0,u1,h5.later hb⟩
  have HK2:Hid (∀(x y:World) (r:Option Nat),(x.cell? ⟨w.heap.size,0,none⟩=some (.slice aa d.sec.length ca)∧x.cell? ⟨w.heap.size,1,none⟩=some (.slice ab d.cache.length cb)∧Below w.heap.size w x∧W.heap.size≤x.heap.size∧∃ u0 u1,Box x (w.heap.size+1) #[u0,u1] 27)→x.grownBy y r→(∀ k,r=some k→W.heap.size≤k∧k < x.heap.size)→(y.cell? ⟨w.heap.size,0,none⟩=some (.slice aa d.sec.length ca)∧y.cell? ⟨w.heap.size,1,none⟩=some (.slice ab d.cache.length cb)∧Below w.heap.size w y∧W.heap.size≤y.heap.size∧∃ u0 u1,Box y (w.heap.size+1) #[u0,u1] 27)):=by
    intro x y r ⟨h1,h2,h3,h4,u0,u1,h5⟩ hg hr;refine⟨hg.cell h1 (fun e=>by have:=hr _ e.symm;simp at this;omega),hg.cell h2 (fun e=>by have:=hr _ e.symm;simp at this;omega),h3.grown hg (by omega) (fun k hk=>by have:=hr k hk;omega),Nat.le_trans h4 hg.size,u0,u1,?_⟩;exact(hg.block _ h5.lt (fun e=>by have:=hr _ e.symm;omega)).trans h5
  have HK3:Hid (∀(x:World) (y z:Value),(x.cell? ⟨w.heap.size,0,none⟩=some (.slice aa d.sec.length ca)∧x.cell? ⟨w.heap.size,1,none⟩=some (.slice ab d.cache.length cb)∧Below w.heap.size w x∧W.heap.size≤x.heap.size∧∃ u0 u1,Box x (w.heap.size+1) #[u0,u1] 27)→(((x.setCell ⟨w.heap.size+1,0,none⟩ y).setCell ⟨w.heap.size+1,1,none⟩ z).cell? ⟨w.heap.size,0,none⟩=some (.slice aa d.sec.length ca)∧((x.setCell ⟨w.heap.size+1,0,none⟩ y).setCell ⟨w.heap.size+1,1,none⟩ z).cell? ⟨w.heap.size,1,none⟩=some (.slice ab d.cache.length cb)∧Below w.heap.size w ((x.setCell ⟨w.heap.size+1,0,none⟩ y).setCell ⟨w.heap.size+1,1,none⟩ z)∧W.heap.size≤((x.setCell ⟨w.heap.size+1,0,none⟩ y).setCell ⟨w.heap.size+1,1,none⟩ z).heap.size∧∃ u0 u1,Box ((x.setCell ⟨w.heap.size+1,0,none⟩ y).setCell ⟨w.heap.size+1,1,none⟩ z) (w.heap.size+1) #[u0,u1] 27)):=by
    intro x y z ⟨h1,h2,h3,h4,u0,u1,h5⟩;refine⟨?_,?_,(h3.setCell (p:=⟨w.heap.size+1,0,none⟩) (by simp) y).setCell (p:=⟨w.heap.size+1,1,none⟩) (by simp) z,by simpa using h4,y,z,?_⟩
    · rw [World.cell?_setCell_other _ _ _ _ (by simp),World.cell?_setCell_other _ _ _ _ (by simp)];exact h1
    · rw [World.cell?_setCell_other _ _ _ _ (by simp),World.cell?_setCell_other _ _ _ _ (by simp)];exact h2
    · have:=(h5.set 0 y).set 1 z
      simpa using this
  have HS:Hid (∀ w',(w'.cell? ⟨w.heap.size,0,none⟩=some (.slice aa d.sec.length ca)∧w'.cell? ⟨w.heap.size,1,none⟩=some (.slice ab d.cache.length cb)∧Below w.heap.size w w'∧W.heap.size≤w'.heap.size∧∃ u0 u1,Box w' (w.heap.size+1) #[u0,u1] 27)→RBuf strE B w' w' (.slice aa d.sec.length ca) d.sec∧RBuf wrE B w' w' (.slice ab d.cache.length cb) d.cache):=fun w' hw=>⟨(h1.later hw.2.2.1).1,(h2.later hw.2.2.1).1⟩;have sAB:(W.alloc (.cells #[] 9)).heap.size=W.heap.size+1:=by simp
  have sBA:(W.alloc (.cells #[] 63)).heap.size=W.heap.size+1:=by simp
  have HA1:Hid (RBuf strE W.heap.size (W.alloc (.cells #[] 9)).drew (W.alloc (.cells #[] 9)).drew (.slice (some ⟨W.heap.size,0,none⟩) 0 0) []):=
    yK strE (Box.new W #[] 9) rfl (Nat.le_refl _) (by show W.heap.size≤(W.alloc _).heap.size;simp)
  have HA2:Hid (RBuf strE W.heap.size ((W.alloc (.cells #[] 9)).alloc (.cells #[] 63)).drew ((W.alloc (.cells #[] 9)).alloc (.cells #[] 63)).drew (.slice (some ⟨W.heap.size,0,none⟩) 0 0) []):=
    yK strE ((Box.new W #[] 9).later (((Below.refl _ _).alloc (Nat.le_refl _) _).drew)) rfl (Nat.le_refl _) (by show W.heap.size≤((W.alloc _).alloc _).heap.size;simp;omega)
  have HA3:Hid (RBuf strE W.heap.size ((W.alloc (.cells #[] 63)).alloc (.cells #[] 9)).drew ((W.alloc (.cells #[] 63)).alloc (.cells #[] 9)).drew (.slice (some ⟨W.heap.size+1,0,none⟩) 0 0) []):=
    yK strE (Box.new (W.alloc (.cells #[] 63)) #[] 9) sBA.symm (by omega) (by show W.heap.size≤((W.alloc _).alloc _).heap.size;simp;omega)
  have HB1:Hid (∀(x:World) (r:Option Nat),(W.alloc (.cells #[] 9)).drew.grownBy x r→RBuf wrE W.heap.size (x.alloc (.cells #[] 63)) (x.alloc (.cells #[] 63)) (.slice (some ⟨x.heap.size,0,none⟩) 0 0) []):=
    fun x r hg=>by
      have hx:W.heap.size≤x.heap.size:=Nat.le_trans (by show W.heap.size≤(W.alloc _).heap.size;simp) hg.size
      exact yK wrE (Box.new x #[] 63) rfl hx (by simp;omega)
  have HB2:Hid (∀(x:World),((W.alloc (.cells #[] 9)).alloc (.cells #[] 63)).drew.grownBy x (some W.heap.size)→RBuf wrE W.heap.size x x (.slice (some ⟨W.heap.size+1,0,none⟩) 0 0) []):=by
    intro x hg;have hbx:=Box.new (W.alloc (.cells #[] 9)) #[] 63;rw [sAB] at hbx;exact yK wrE (zdj hg hbx (fun e=>by have:=Option.some.inj e;omega)) rfl (by omega) (Nat.le_trans (by show W.heap.size≤((W.alloc _).alloc _).heap.size;simp;omega) hg.size)
  have HB3:Hid (∀(x:World),((W.alloc (.cells #[] 63)).alloc (.cells #[] 9)).drew.grownBy x (some (W.heap.size+1))→RBuf wrE W.heap.size x x (.slice (some ⟨W.heap.size,0,none⟩) 0 0) []):=by
    intro x hg;have hbx:=(Box.new W #[] 63).later ((Below.refl _ _).alloc (Nat.le_refl _) (.cells #[] 9));exact yK wrE (zdj hg hbx (fun e=>by have:=Option.some.inj e;omega)) rfl (Nat.le_refl _) (Nat.le_trans (by show W.heap.size≤((W.alloc _).alloc _).heap.size;simp;omega) hg.size)
  have HSZ:=hid hsz;clear hx0 h1 h2 h3 hsz sAB sBA;go_region_held3 (fun w'=>w'.cell? ⟨w.heap.size,0,none⟩=some (.slice aa d.sec.length ca)∧w'.cell? ⟨w.heap.size,1,none⟩=some (.slice ab d.cache.length cb)∧Below w.heap.size w w'∧W.heap.size≤w'.heap.size∧∃ u0 u1,Box w' (w.heap.size+1) #[u0,u1] 27)
    (first | exact HK0.out | exact HK1.out _ _ (by assumption) | exact HK2.out _ _ _ (by assumption) gA lA | exact HK2.out _ _ _ (by assumption) gB lB | exact HK3.out _ _ _ (by assumption))
    (first
      |(refine zd (by rfl) _ _ strE (by rfl) W.heap.size _ [] (by rfl) (by first | exact HA1.out | exact HA2.out | exact HA3.out) B _ d.sec (by rfl) (by first | exact(HS.out _ (by assumption)).1) (by simp [strE];omega) ?_;intro vA wA hA gA atA lA;rw [List.nil_append] at hA;obtain⟨pA,cA,rfl⟩:=hA.form;obtain⟨_,_,_,_,u0,u1,hbx⟩:=HK2.out _ _ _ (by assumption) gA lA;have z0:=hbx.cell 0 u0 rfl;have z1:=hbx.cell 1 u1 rfl;have f0:=hbx.loose 0;have f1:=hbx.loose 1;clear hbx)
      |(refine zd (by rfl) _ _ wrE (by rfl) W.heap.size _ [] (by rfl) (by first | exact HB1.out _ _ gA | exact HB2.out _ gA | exact HB3.out _ gA) B _ d.cache (by rfl) (by first | exact(HS.out _ (by assumption)).2) (by simp [wrE];omega) ?_;intro vB wB hB gB atB lB;rw [List.nil_append] at hB;obtain⟨pB,cB,rfl⟩:=hB.form;obtain⟨_,_,_,_,u0,u1,hbx⟩:=HK2.out _ _ _ (by assumption) gB lB;have z0:=hbx.cell 0 u0 rfl;have z1:=hbx.cell 1 u1 rfl;have f0:=hbx.loose 0;have f1:=hbx.loose 1;clear hbx))
  all_goals
    have hF:(((wB.setCell ⟨w.heap.size+1,0,none⟩ (.slice pA d.sec.length cA)).setCell ⟨w.heap.size+1,1,none⟩ (.slice pB d.cache.length cB)).cell? ⟨w.heap.size,0,none⟩=some (.slice aa d.sec.length ca)∧((wB.setCell ⟨w.heap.size+1,0,none⟩ (.slice pA d.sec.length cA)).setCell ⟨w.heap.size+1,1,none⟩ (.slice pB d.cache.length cB)).cell? ⟨w.heap.size,1,none⟩=some (.slice ab d.cache.length cb)∧Below w.heap.size w ((wB.setCell ⟨w.heap.size+1,0,none⟩ (.slice pA d.sec.length cA)).setCell ⟨w.heap.size+1,1,none⟩ (.slice pB d.cache.length cB))∧W.heap.size≤((wB.setCell ⟨w.heap.size+1,0,none⟩ (.slice pA d.sec.length cA)).setCell ⟨w.heap.size+1,1,none⟩ (.slice pB d.cache.length cB)).heap.size∧∃ u0 u1,Box ((wB.setCell ⟨w.heap.size+1,0,none⟩ (.slice pA d.sec.length cA)).setCell ⟨w.heap.size+1,1,none⟩ (.slice pB d.cache.length cB)) (w.heap.size+1) #[u0,u1] 27):=by assumption
    have hfin:RBuf strE W.heap.size wB wB (.slice pA d.sec.length cA) d.sec∧((Value.slice pA d.sec.length cA).ownBlock=none∨(Value.slice pA d.sec.length cA).ownBlock≠(Value.slice pB d.cache.length cB).ownBlock):=by
      first
        | exact zan hA gB atB
        | exact zao hA gB atA atB
        | exact zau hA gB atA atB
    have HF:=hid hF;have HFIN:=hid hfin;have HHB:=hid hB;clear hF hfin hB hA gA gB atA atB lA lB hd1;go_wp2;obtain⟨_,_,bF,_,_⟩:=HF.out;refine bodyPost_ret (v:=.agg #[.slice pA d.sec.length cA,.slice pB d.cache.length cB]) (by simp [results,Tryz.results75,go_sem,z0,z1]) rfl ⟨_,rfl,?_,bF⟩;have hWl:w.heap.size+1 < W.heap.size:=by have:=HSZ.out;omega
    have q1:=(HFIN.out.1.lown.store (w.heap.size+1) 0 (.slice pA d.sec.length cA) hWl).store (w.heap.size+1) 1 (.slice pB d.cache.length cB) hWl;have q2:=(HHB.out.lown.store (w.heap.size+1) 0 (.slice pA d.sec.length cA) hWl).store (w.heap.size+1) 1 (.slice pB d.cache.length cB) hWl;exact⟨_,_,rfl,(q1.deeper (by omega)).wider (by simp) (Nat.le_refl _),(q2.deeper (by omega)).wider (by simp) (Nat.le_refl _),HFIN.out.2⟩
theorem DOwn.store{B T:Nat}{w:World}{v:Value}{d:Dk}(h:DOwn B T w v d)(g i:Nat)(u:Value)(hg:g < B):DOwn B T (w.setCell ⟨g,i,none⟩ u) v d:=by
  obtain⟨va,vb,hv,h1,h2,h3⟩:=h;exact⟨va,vb,hv,h1.store g i u hg,h2.store g i u hg,h3⟩
theorem DOwn.widen{B T B' T':Nat}{w:World}{v:Value}{d:Dk}(h:DOwn B T w v d)(hB:B'≤B)(hT:T≤T')(hs:T'≤w.heap.size):DOwn B' T' w v d:=by
  obtain⟨va,vb,hv,h1,h2,h3⟩:=h;exact⟨va,vb,hv,(h1.deeper hB).wider hT hs,(h2.deeper hB).wider hT hs,h3⟩
def wrOk (d:Dk) (a:Int) (t:ByteArray):Prop:=d.ok∧(0≤a∧a < d.sec.length)∧t.size=32∧d.cache.length < 60
instance (d : Dk) (a : Int) (t : ByteArray) : Decidable (wrOk d a t) := by unfold wrOk; infer_instance
def wrD (d:Dk) (a:Int) (t:ByteArray):Dk:=if wrOk d a t then⟨d.sec,d.cache++ [⟨a,t⟩]⟩ else d
def DiskR (d:Dk) (f:Bool) (w:World) (e:Ending) (w':World):Prop:=∃ v',e=.returned (.tuple #[v',.bool f])∧DOwn w.heap.size w'.heap.size w' v' d∧Below w.heap.size w w'
theorem Z0 (d :Dk) (v:Value) (a:Int) (t:ByteArray) (B T:Nat) (w:World) (h:DOwn B T w v d) (hs:d.small) (ht:∀ s∈d.sec,s.size≤1099511627776) (hu:∀ x∈d.cache,x.text.size≤1099511627776) (_htz:t.size≤1099511627776):
    Calls Tryz.prog 70 #[v,.int .i64 a,.string t] w fun e w'=>DiskR (wrD d a t) (decide (wrOk d a t)) w e w':=by
  obtain⟨aa,ab,ca,cb,rfl⟩:=h.form;obtain⟨hx0,hx1,b0,hsz⟩:Box ((w.alloc (.cells #[.slice aa d.sec.length ca,.slice ab d.cache.length cb] 27)).alloc (.cells #[.slice none 0 0,.slice none 0 0] 27)) w.heap.size #[.slice aa d.sec.length ca,.slice ab d.cache.length cb] 27∧
      Box ((w.alloc (.cells #[.slice aa d.sec.length ca,.slice ab d.cache.length cb] 27)).alloc (.cells #[.slice none 0 0,.slice none 0 0] 27)) (w.heap.size+1) #[.slice none 0 0,.slice none 0 0] 27∧
      Below w.heap.size w ((w.alloc (.cells #[.slice aa d.sec.length ca,.slice ab d.cache.length cb] 27)).alloc (.cells #[.slice none 0 0,.slice none 0 0] 27))∧
      ((w.alloc (.cells #[.slice aa d.sec.length ca,.slice ab d.cache.length cb] 27)).alloc (.cells #[.slice none 0 0,.slice none 0 0] 27)).heap.size=w.heap.size+2:=by
    have e1:(w.alloc (.cells #[.slice aa d.sec.length ca,.slice ab d.cache.length cb] 27)).heap.size=w.heap.size+1:=by simp
    have q0:=Box.new w #[.slice aa d.sec.length ca,.slice ab d.cache.length cb] 27;have q1:=Box.new (w.alloc (.cells #[.slice aa d.sec.length ca,.slice ab d.cache.length cb] 27)) #[.slice none 0 0,.slice none 0 0] 27;rw [e1] at q1;exact⟨q0.later ((Below.refl _ _).alloc (Nat.le_refl _) _),q1,((Below.refl _ _).alloc (Nat.le_refl _) _).alloc (by simp) _,by simp⟩
  have h':=h.later b0;go_enter Tryz.func70,Tryz.ntmps70
  go_wp2_with fail
  generalize ((w.alloc (.cells #[.slice aa d.sec.length ca,.slice ab d.cache.length cb] 27)).alloc (.cells #[.slice none 0 0,.slice none 0 0] 27))=W at hx0 hx1 b0 hsz h' ⊢;refine(zE d _ B T _ h' hs).mono ?_;rintro e w2 ⟨v2,rfl,o2,k2⟩;obtain⟨a1,a2,q1,q2,rfl⟩:=o2.form;have k3:Below w2.heap.size w2 (w2.alloc (.cells #[.slice a1 d.sec.length q1,.slice a2 d.cache.length q2] 27)):=(Below.refl _ _).alloc (Nat.le_refl _) _;have y3:=Box.new w2 #[.slice a1 d.sec.length q1,.slice a2 d.cache.length q2] 27;have j3:=k2.trans (k3.mono k2.size);have o3:=o2.later k3;have c0:=(hx0.later j3).cell 0 (.slice aa d.sec.length ca) rfl;have c1:=(hx0.later j3).cell 1 (.slice ab d.cache.length cb) rfl;have h3:=h'.later j3;have s2:=k2.size;clear h h' o2;go_wp2_with fail
  clear c0 c1;generalize hw3:w2.alloc (.cells #[.slice a1 d.sec.length q1,.slice a2 d.cache.length q2] 27)=w3 at *;have s3:w3.heap.size=w2.heap.size+1:=by rw [←hw3];simp
  refine(Zm d _ _ h3.rd hs ht hu).mono ?_;rintro e w4 ⟨rfl,k4⟩;have j4:=j3.trans (k4.mono j3.size);have c0:=(hx0.later j4).cell 0 (.slice aa d.sec.length ca) rfl;have c1:=(hx0.later j4).cell 1 (.slice ab d.cache.length cb) rfl;have r0:=(hx1.later j4).cell 0 (.slice none 0 0) rfl;have r1:=(hx1.later j4).cell 1 (.slice none 0 0) rfl;have g0:=(hx1.later j4).loose 0;have g1:=(hx1.later j4).loose 1;have y4:=y3.later k4;have m0:=y4.cell 0 (.slice a1 d.sec.length q1) rfl;have m1:=y4.cell 1 (.slice a2 d.cache.length q2) rfl;have n1:=y4.loose 1;have o4:=hid (o3.later k4);have bF:Below w.heap.size w w4:=b0.trans (j4.mono b0.size);have s4:=k4.size;have hD1:=hs.1;have hD2:=hs.2;have YO:=hid y4;have YR:=hid (hx1.later j4);clear hx0 hx1 y3 y4 h3 o3 ht hu hs;by_cases hok:d.ok
  · rw [decide_eq_true hok]
    by_cases hin:0≤a∧a < d.sec.length
    · by_cases h32:t.size=32
      · by_cases hc:d.cache.length < 60
        · have HYES:=hid (show wrD d a t=⟨d.sec,d.cache++ [⟨a,t⟩]⟩∧decide (wrOk d a t)=true from⟨if_pos ⟨hok,hin,h32,hc⟩,decide_eq_true ⟨hok,hin,h32,hc⟩⟩)
          have hcc:(d.cache.length:Int) < 60:=(by omega);obtain⟨va,vb,hv,l1,l2,hap⟩:=o4.out;simp only [Value.agg.injEq,Array.mk.injEq,List.cons.injEq,and_true] at hv;obtain⟨rfl,rfl⟩:=hv;have L1:=hid l1;have L2:=hid l2;have HB2:Hid (RBuf wrE W.heap.size (w4.alloc (.cells #[.int .i64 a,.string t] 63)) (w4.alloc (.cells #[.int .i64 a,.string t] 63)) (.slice a2 d.cache.length q2) d.cache):=(l2.1.alloc _).here;have HX2:Hid (RBuf wrE w4.heap.size (w4.alloc (.cells #[.int .i64 a,.string t] 63)) (w4.alloc (.cells #[.int .i64 a,.string t] 63)) (.slice (some ⟨w4.heap.size,0,none⟩) 1 1) [⟨a,t⟩]):=RBuf.lit1 wrE w4 ⟨a,t⟩;have hin2:∀ k,(Value.slice a2 d.cache.length q2).ownBlock=some k→W.heap.size≤k∧k < w2.heap.size:=fun k hk=>⟨(l2.1.own.lt k hk).1,l2.2.2 k hk⟩;have hin1:∀ k,(Value.slice a1 d.sec.length q1).ownBlock=some k→W.heap.size≤k∧k < w2.heap.size:=fun k hk=>⟨(l1.1.own.lt k hk).1,l1.2.2 k hk⟩;have kX:Below w4.heap.size w4 (w4.alloc (.cells #[.int .i64 a,.string t] 63)):=(Below.refl _ _).alloc (Nat.le_refl _) _;have HC6:Hid (∀ x,(w4.alloc (.cells #[.int .i64 a,.string t] 63)).grownBy x (Value.slice a2 d.cache.length q2).ownBlock→x.cell? ⟨w2.heap.size,0,none⟩=some (.slice a1 d.sec.length q1)∧x.cell? ⟨w2.heap.size,1,none⟩=some (.slice a2 d.cache.length q2)∧x.frozen? ⟨w2.heap.size,1,none⟩=false∧
              x.cell? ⟨w.heap.size+1,0,none⟩=some (.slice none 0 0)∧x.cell? ⟨w.heap.size+1,1,none⟩=some (.slice none 0 0)∧x.frozen? ⟨w.heap.size+1,0,none⟩=false∧x.frozen? ⟨w.heap.size+1,1,none⟩=false∧Below w.heap.size w x∧LOwn strE W.heap.size w2.heap.size x (.slice a1 d.sec.length q1) d.sec∧w4.heap.size+1≤x.heap.size):=by
            intro x hg;have sx:(w4.alloc (.cells #[.int .i64 a,.string t] 63)).heap.size=w4.heap.size+1:=(by simp);have bo:=(YO.out.later kX);have br:=(YR.out.later kX);have bo2:Box x w2.heap.size #[.slice a1 d.sec.length q1,.slice a2 d.cache.length q2] 27:=(hg.block _ bo.lt (fun e=>by have:=hin2 _ e.symm;omega)).trans bo;have br2:Box x (w.heap.size+1) #[.slice none 0 0,.slice none 0 0] 27:=(hg.block _ br.lt (fun e=>by have:=hin2 _ e.symm;omega)).trans br;have bb:=(bF.alloc bF.size (.cells #[.int .i64 a,.string t] 63)).grown hg (by simp;omega) (fun k hk=>by have:=hin2 k hk;omega);refine⟨bo2.cell 0 _ rfl,bo2.cell 1 _ rfl,bo2.loose 1,br2.cell 0 _ rfl,br2.cell 1 _ rfl,br2.loose 0,br2.loose 1,bb,(l1.later kX).grown hg hap,by have:=hg.size;omega⟩
          have HAP:=hid hap;have HIN:=hid (And.intro hin1 hin2);clear l1 l2 hap hin1 hin2;go_wp2_with (first |(go_at_call 52;refine(Zo _ _ _ _ (by omega) (by omega)).mono ?_;rintro e w5 ⟨rfl,rfl⟩) |(at_builtin;refine zA rfl _ _ wrE rfl W.heap.size _ d.cache rfl HB2.out w4.heap.size _ [⟨a,t⟩] rfl HX2.out (by simp [wrE];omega) ?_;intro v6 w6 hr6 hg6 at6;obtain⟨a6,q6,rfl⟩:=hr6.form;obtain⟨z0,z1,z2,z3,z4,z5,z6,z7,z8,z9⟩:=HC6.out w6 hg6))
          have e6:(d.cache++ [(⟨a,t⟩:Wr)]).length=d.cache.length+1:=(by simp);rw [e6] at hr6 at6;have at7:(Value.slice a6 (d.cache.length+1) q6).ownBlock=(Value.slice a2 d.cache.length q2).ownBlock∨(Value.slice a6 (d.cache.length+1) q6).ownBlock=some (w4.heap.size+1):=by
            have sx:(w4.alloc (.cells #[.int .i64 a,.string t] 63)).heap.size=w4.heap.size+1:=(by simp);rw [←sx];exact at6
          have nO:(Value.slice a6 (d.cache.length+1) q6).ownBlock≠some w2.heap.size:=by
            rcases at7 with e | e
            · rw [e];intro h;have:=HIN.out.2 _ h;omega
            · rw [e];intro h;have:=Option.some.inj h;omega
          have f1:=((z8.storeHi w2.heap.size 1 (.slice a6 (d.cache.length+1) q6) (Nat.le_refl _)).store (w.heap.size+1) 0 (.slice a1 d.sec.length q1) (by omega)).store (w.heap.size+1) 1 (.slice a6 (d.cache.length+1) q6) (by omega);have f2:=((hr6.lown.grown (za w6 w2.heap.size 1 (.slice a6 (d.cache.length+1) q6)) (.inr nO)).store (w.heap.size+1) 0 (.slice a1 d.sec.length q1) (by omega)).store (w.heap.size+1) 1 (.slice a6 (d.cache.length+1) q6) (by omega);have bE:=((z7.setCell (p:=⟨w2.heap.size,1,none⟩) (by simp;omega) (.slice a6 (d.cache.length+1) q6)).setCell (p:=⟨w.heap.size+1,0,none⟩) (by simp) (.slice a1 d.sec.length q1)).setCell (p:=⟨w.heap.size+1,1,none⟩) (by simp) (.slice a6 (d.cache.length+1) q6);refine bodyPost_ret (v:=.tuple #[.agg #[.slice a1 d.sec.length q1,.slice a6 (d.cache.length+1) q6],.bool true]) (by simp [results,Tryz.results70,go_sem,z3,z4]) rfl ?_;rw [HYES.out.1,HYES.out.2];refine⟨_,rfl,⟨_,_,rfl,(f1.deeper (by omega)).wider (by simp;omega) (Nat.le_refl _),(f2.deeper (by omega)).wider (by simp) (Nat.le_refl _),?_⟩,bE⟩;rcases at7 with e | e
          · rw [e];exact HAP.out
          · rw [e]
            refine .inr fun h=>?_;have:=HIN.out.1 _ h;omega
        · have HNO:=hid (show wrD d a t=d∧decide (wrOk d a t)=false from⟨if_neg (fun h=>hc h.2.2.2),decide_eq_false (fun h=>hc h.2.2.2)⟩)
          have hcc:¬(d.cache.length:Int) < 60:=(by omega);go_wp2_with (go_at_call 52;refine(Zo _ _ _ _ (by omega) (by omega)).mono ?_;rintro e w5 ⟨rfl,rfl⟩)
          refine bodyPost_ret (v:=.tuple #[.agg #[.slice a1 d.sec.length q1,.slice a2 d.cache.length q2],.bool false]) (by simp [results,Tryz.results70,go_sem,r0,r1]) rfl ?_;rw [HNO.out.1,HNO.out.2];exact⟨_,rfl,((o4.out.store (w.heap.size+1) 0 (.slice a1 d.sec.length q1) (by omega)).store (w.heap.size+1) 1 (.slice a2 d.cache.length q2) (by omega)).widen (by omega) (by simp;omega) (Nat.le_refl _),(bF.setCell (p:=⟨w.heap.size+1,0,none⟩) (by simp) _).setCell (p:=⟨w.heap.size+1,1,none⟩) (by simp) _⟩
      · have HNO:=hid (show wrD d a t=d∧decide (wrOk d a t)=false from⟨if_neg (fun h=>h32 h.2.2.1),decide_eq_false (fun h=>h32 h.2.2.1)⟩)
        have h33:¬(t.size:Int)=32:=(by omega);go_wp2_with (go_at_call 52;refine(Zo _ _ _ _ (by omega) (by omega)).mono ?_;rintro e w5 ⟨rfl,rfl⟩)
        refine bodyPost_ret (v:=.tuple #[.agg #[.slice a1 d.sec.length q1,.slice a2 d.cache.length q2],.bool false]) (by simp [results,Tryz.results70,go_sem,r0,r1]) rfl ?_;rw [HNO.out.1,HNO.out.2];exact⟨_,rfl,((o4.out.store (w.heap.size+1) 0 (.slice a1 d.sec.length q1) (by omega)).store (w.heap.size+1) 1 (.slice a2 d.cache.length q2) (by omega)).widen (by omega) (by simp;omega) (Nat.le_refl _),(bF.setCell (p:=⟨w.heap.size+1,0,none⟩) (by simp) _).setCell (p:=⟨w.heap.size+1,1,none⟩) (by simp) _⟩
    · have HNO:=hid (show wrD d a t=d∧decide (wrOk d a t)=false from⟨if_neg (fun h=>hin h.2.1),decide_eq_false (fun h=>hin h.2.1)⟩)
      go_wp2_with (go_at_call 52;refine(Yu _ _ _ _ (by omega)).mono ?_;rintro e w5 ⟨rfl,rfl⟩)
      refine bodyPost_ret (v:=.tuple #[.agg #[.slice a1 d.sec.length q1,.slice a2 d.cache.length q2],.bool false]) (by simp [results,Tryz.results70,go_sem,r0,r1]) rfl ?_;rw [HNO.out.1,HNO.out.2];exact⟨_,rfl,((o4.out.store (w.heap.size+1) 0 (.slice a1 d.sec.length q1) (by omega)).store (w.heap.size+1) 1 (.slice a2 d.cache.length q2) (by omega)).widen (by omega) (by simp;omega) (Nat.le_refl _),(bF.setCell (p:=⟨w.heap.size+1,0,none⟩) (by simp) _).setCell (p:=⟨w.heap.size+1,1,none⟩) (by simp) _⟩
  · rw [decide_eq_false hok]
    have HNO:=hid (show wrD d a t=d∧decide (wrOk d a t)=false from⟨if_neg (fun h=>hok h.1),decide_eq_false (fun h=>hok h.1)⟩);go_wp2;refine bodyPost_ret (v:=.tuple #[.agg #[.slice a1 d.sec.length q1,.slice a2 d.cache.length q2],.bool false]) (by simp [results,Tryz.results70,go_sem,r0,r1]) rfl ?_;rw [HNO.out.1,HNO.out.2];exact⟨_,rfl,((o4.out.store (w.heap.size+1) 0 (.slice a1 d.sec.length q1) (by omega)).store (w.heap.size+1) 1 (.slice a2 d.cache.length q2) (by omega)).widen (by omega) (by simp;omega) (Nat.le_refl _),(bF.setCell (p:=⟨w.heap.size+1,0,none⟩) (by simp) _).setCell (p:=⟨w.heap.size+1,1,none⟩) (by simp) _⟩
end Go.Proofs.YtklkhllkjnbhjaaGreatDoor
