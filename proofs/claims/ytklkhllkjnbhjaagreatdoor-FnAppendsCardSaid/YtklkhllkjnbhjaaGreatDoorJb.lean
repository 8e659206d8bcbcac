/- Texts of our own, joined. -/
import Derived.Test.YtklkhllkjnbhjaaGreatDoorJa
import Derived.Shelf.LaysM
import Derived.Shelf.Strconv.Clone
import Derived.RangeFuncNested
import Derived.RangeFuncBound
import Derived.RangeFuncCalls
import Derived.RangeFuncLeaves
import Derived.RangeFuncBox
import Derived.Shelf.Abstract
import Derived.Shelf.RegionOpen
import Derived.OwnWalkIn
import Derived.TacticsInMore
import Derived.LoopNIn
import Derived.LoopIn
import Derived.Shelf.Strings.Builder1
import Derived.Shelf.Lays
import Derived.Laws.CopyOwn
import Derived.Laws.Rows
import Derived.Laws.Tables
import Derived.Deep.MidRow
import Derived.Laws.StructEq
/- Disks: what the model's functions hand back. -/
namespace Go.Proofs.YtklkhllkjnbhjaaGreatDoor
open Go.RowKit
open Lib (hid)
set_option maxRecDepth 100000
set_option maxHeartbeats 8000000
theorem Zo(n lo hi:Int)(w:World)(h1:lo≤n)(h2:n≤hi):
    Calls Tryz.prog 52 #[.int .i64 n,.int .i64 lo,.int .i64 hi] w fun e w'=>e=.returned (.bool true)∧w=w':=by
  have g2:decide (n≤hi)=true:=decide_eq_true h2;go_enter Tryz.func52,Tryz.ntmps52
  go_wp2;go_ret;exact⟨rfl,rfl⟩
theorem Yu(n lo hi:Int)(w:World)(h:¬(lo≤n∧n≤hi)):
    Calls Tryz.prog 52 #[.int .i64 n,.int .i64 lo,.int .i64 hi] w fun e w'=>e=.returned (.bool false)∧w=w':=by
  by_cases h1:lo≤n
  · have g2:decide (n≤hi)=false:=decide_eq_false (fun h2=>h ⟨h1,h2⟩)
    go_enter Tryz.func52,Tryz.ntmps52
    go_wp2;go_ret;exact⟨rfl,rfl⟩
  · go_enter Tryz.func52,Tryz.ntmps52
    go_wp2;go_ret;exact⟨rfl,rfl⟩
theorem Yw(n lo hi:Int)(w:World)(h1:lo≤n)(h2:n≤hi):
    Calls Tryz.prog 52 #[.int .i64 n,.int .i64 lo,.int .i64 hi] w fun e w'=>e=.returned (.bool true)∧w'=w:=
  (Zo n lo hi w h1 h2).mono fun _ _ h=>⟨h.1,h.2.symm⟩
theorem zcA(n lo hi:Int)(w:World)(h:¬(lo≤n∧n≤hi)):
    Calls Tryz.prog 52 #[.int .i64 n,.int .i64 lo,.int .i64 hi] w fun e w'=>e=.returned (.bool false)∧w'=w:=
  (Yu n lo hi w h).mono fun _ _ h=>⟨h.1,h.2.symm⟩
theorem Zm (d : Dk) (v:Value) (w:World) (h:DRd w v d) (hs:d.small) (ht:∀ s∈d.sec,s.size≤1099511627776) (hu:∀ x∈d.cache,x.text.size≤1099511627776):
    Calls Tryz.prog 50 #[v] w fun e w'=>e=.returned (.bool (decide d.ok))∧Below w.heap.size w w':=by
  obtain⟨va,vb,rfl,ha,hb⟩:=h;obtain⟨s1,s2⟩:=hs;have b0:Below w.heap.size w (w.alloc (.cells #[va,vb] 27)):=(Below.refl _ _).alloc (Nat.le_refl _) _;have hx:=Box.new w #[va,vb] 27;obtain⟨aa,ca,rfl⟩:∃(a:Option Addr) (c:Nat),va=.slice a d.sec.length c:=by
    rcases ha with⟨e,a,c,rfl⟩ |⟨g,c,rfl,_⟩
    · exact⟨a,c,by rw [e];rfl⟩
    · exact⟨_,c,rfl⟩
  obtain⟨ab,cb,rfl⟩:∃(a:Option Addr) (c:Nat),vb=.slice a d.cache.length c:=by
    rcases hb with⟨e,a,c,rfl⟩ |⟨g,o,c,rfl,_⟩
    · exact⟨a,c,by rw [e];rfl⟩
    · exact⟨_,c,rfl⟩
  have c0:=hx.cell 0 (.slice aa d.sec.length ca) rfl;have c1:=hx.cell 1 (.slice ab d.cache.length cb) rfl;by_cases hin:1≤d.sec.length∧d.sec.length≤100
  · by_cases hc : d.cache.length≤60
    · have HA :=hid (ha.later b0)
      have HB:=hid (hb.later b0);clear ha hb;go_enter Tryz.func50,Tryz.ntmps50
      go_wp2_with (go_at_call 52;refine(Zo _ _ _ _ (by omega) (by omega)).mono ?_;rintro e w1 ⟨rfl,rfl⟩)
      generalize w.alloc (.cells #[.slice aa d.sec.length ca,.slice ab d.cache.length cb] 27)=W at *;go_loopw [3] (fun iv wr=>∃ i:Nat,i≤d.sec.length∧iv=.int .i64 (i:Int)∧(∀ s∈d.sec.take i,s.size=32)∧wr=W) (fun iv _=>d.sec.length -(intOf iv).toNat)
      case atStart=>exact⟨0,by omega,rfl,by simp,rfl⟩
      case round=>
        obtain⟨i,hi,rfl,hall,hw⟩:=hrel;have hw':=hw.symm;clear hw;subst hw';by_cases hlt:i < d.sec.length
        · have HL:=hid hall
          have hz:=hid (ht _ (List.getElem_mem hlt));have HM:=hid (List.getElem_mem hlt);have htk:=hid (List.take_succ_eq_append_getElem hlt);obtain⟨g,rfl,hcs⟩:∃ g:Nat,aa=some ⟨g,0,none⟩∧W.cell? ⟨g,i,none⟩=some (.string d.sec[i]):=by
            rcases HA.out with⟨e,_⟩ |⟨g,c,hv,_,_,hcl⟩
            · rw [e] at hlt;simp at hlt
            · simp only [Value.slice.injEq] at hv
              exact⟨g,hv.1,hcl i _ (List.getElem?_eq_getElem hlt)⟩
          clear hall ht hu;generalize d.sec[i]=t at *;have hz2:=hz.out;by_cases h32:t.size=32
          · go_wp2
            go_roundw
            case rel=>exact⟨i+1,by omega,by go_num,by
              rw [htk.out];intro x hx;rcases List.mem_append.1 hx with h | h
              · exact HL.out x h
              · simp at h;rw [h];exact h32,trivial⟩
            case measure=>simp [intOf];omega
          · have HNO:=hid (show decide d.ok=false from decide_eq_false (fun h=>h32 (h.2.2.2.1 t HM.out)))
            go_wp2;go_ret;exact⟨by rw [HNO.out];rfl,b0⟩
        · have hall':∀ s∈d.sec,s.size=32:=by rw [List.take_of_length_le (by omega)] at hall;exact hall
          have HALL:=hid hall';clear hall hall' ht;go_wp2;go_loopw [4] (fun iv wx=>∃ j:Nat,j≤d.cache.length∧iv=.int .i64 (j:Int)∧(∀ x∈d.cache.take j,0≤x.at_∧x.at_ < d.sec.length∧x.text.size=32)∧Below W.heap.size W wx) (fun iv _=>d.cache.length -(intOf iv).toNat)
          case atStart=>exact⟨0,by omega,rfl,by simp,Below.refl _ _⟩
          case round=>
            obtain⟨j,hj,rfl,hall,hbx⟩:=hrel;have bx:Below w.heap.size w wr:=b0.trans (hbx.mono b0.size);have e0:=(hbx.cell (p:=⟨w.heap.size,0,none⟩) hx.lt).trans c0;have e1:=(hbx.cell (p:=⟨w.heap.size,1,none⟩) hx.lt).trans c1;clear c0 c1;by_cases hlt2:j < d.cache.length
            · have HL:=hid hall
              have hz:=hid (hu _ (List.getElem_mem hlt2));have HM:=hid (List.getElem_mem hlt2);have htk:=hid (List.take_succ_eq_append_getElem hlt2);obtain⟨g,off,rfl,hcl⟩:=HB.out.at j hlt2;have d0:wr.cell? ⟨g,off+j * 2,none⟩=some (.int .i64 d.cache[j].at_):=hcl wr hbx 0 _ rfl;have d1:wr.cell? ⟨g,off+j * 2+1,none⟩=some (.string d.cache[j].text):=hcl wr hbx 1 _ rfl;clear hall hu hcl;generalize d.cache[j]=x at *;obtain⟨n,t⟩:=x;simp only at d0 d1;have hz2:=hz.out;simp only at hz2;have hj0:(0:Int)≤(j:Int):=(by omega);have hj1:(j:Int) <(d.cache.length:Int):=(by omega);have hw1:IntKind.i64.wrap ((d.sec.length:Int) - 1)=(d.sec.length:Int) - 1:=IntWalk.i64_in _ ⟨by omega,by omega⟩;by_cases hat:0≤n∧n < d.sec.length
              · by_cases h32:t.size=32
                · have g1:((t.size:Int) !=32)=false:=by rw [h32];rfl
                  go_wp2;go_quiet (first |(go_at_call 52;exact Calls.quiet_of_same (Yw _ _ _ _ (by omega) (by omega))))
                  go_wp2;go_roundw
                  case rel=>exact⟨j+1,by omega,by go_num,by
                    rw [htk.out];intro x hx;rcases List.mem_append.1 hx with h | h
                    · exact HL.out x h
                    · simp at h;rw [h];exact⟨hat.1,hat.2,h32⟩,hbx.trans ⟨rfl,rfl,rfl,Nat.le_refl _,fun _ _=>rfl⟩⟩
                  case measure=>simp [intOf];omega
                · have g1:((t.size:Int) !=32)=true:=by simp;omega
                  have HNO:=hid (show decide d.ok=false from decide_eq_false (fun h=>h32 (h.2.2.2.2 _ HM.out).2.2));go_wp2;go_quiet (first |(go_at_call 52;exact Calls.quiet_of_same (Yw _ _ _ _ (by omega) (by omega))))
                  go_wp2;go_ret;exact⟨by rw [HNO.out];rfl,bx.trans ⟨rfl,rfl,rfl,Nat.le_refl _,fun _ _=>rfl⟩⟩
              · have HNO:=hid (show decide d.ok=false from decide_eq_false (fun h=>hat ⟨(h.2.2.2.2 _ HM.out).1,(h.2.2.2.2 _ HM.out).2.1⟩))
                go_wp2;go_quiet (first |(go_at_call 52;exact Calls.quiet_of_same (zcA _ _ _ _ (by omega))))
                go_wp2;go_ret;exact⟨by rw [HNO.out];rfl,bx.trans ⟨rfl,rfl,rfl,Nat.le_refl _,fun _ _=>rfl⟩⟩
            · have hyes:decide d.ok=true:=decide_eq_true ⟨hin.1,hin.2,hc,HALL.out,by rw [List.take_of_length_le (by omega)] at hall;exact hall⟩
              have HY:=hid hyes;clear hall hyes;go_wp2;go_ret;exact⟨by rw [HY.out];rfl,bx⟩
    · have hno:decide d.ok=false:=decide_eq_false (fun h=>hc h.2.2.1)
      go_enter Tryz.func50,Tryz.ntmps50
      go_wp2_with (go_at_call 52;refine(Zo _ _ _ _ (by omega) (by omega)).mono ?_;rintro e w1 ⟨rfl,rfl⟩)
      go_ret;exact⟨by rw [hno];rfl,b0⟩
  · have hno:decide d.ok=false:=decide_eq_false (fun h=>hin ⟨h.1,h.2.1⟩)
    go_enter Tryz.func50,Tryz.ntmps50
    go_wp2_with (go_at_call 52;refine(Yu _ _ _ _ (by omega)).mono ?_;rintro e w1 ⟨rfl,rfl⟩)
    go_ret;exact⟨by rw [hno];rfl,b0⟩
theorem DRd.form{w:World}{v:Value}{d:Dk}(h:DRd w v d):∃(aa ab:Option Addr) (ca cb:Nat),v=.agg #[.slice aa d.sec.length ca,.slice ab d.cache.length cb]∧Strs w (.slice aa d.sec.length ca) d.sec∧Rows' wrE w (.slice ab d.cache.length cb) d.cache:=by
  obtain⟨va,vb,rfl,ha,hb⟩:=h;obtain⟨aa,ca,rfl⟩:∃(a:Option Addr) (c:Nat),va=.slice a d.sec.length c:=by
    rcases ha with⟨e,a,c,rfl⟩ |⟨g,c,rfl,_⟩
    · exact⟨a,c,by rw [e];rfl⟩
    · exact⟨_,c,rfl⟩
  obtain⟨ab,cb,rfl⟩:∃(a:Option Addr) (c:Nat),vb=.slice a d.cache.length c:=by
    rcases hb with⟨e,a,c,rfl⟩ |⟨g,o,c,rfl,_⟩
    · exact⟨a,c,by rw [e];rfl⟩
    · exact⟨_,c,rfl⟩
  exact⟨aa,ab,ca,cb,rfl,ha,hb⟩
theorem Strs.at{w:World}{a:Option Addr}{cap:Nat}{l:List ByteArray}(h:Strs w (.slice a l.length cap) l)(i:Nat)(hi:i < l.length):∃ g:Nat,a=some ⟨g,0,none⟩∧w.cell? ⟨g,i,none⟩=some (.string l[i]):=by
  rcases h with⟨e,_⟩ |⟨g,c,hv,_,_,hcl⟩
  · rw [e] at hi;simp at hi
  · simp only [Value.slice.injEq] at hv
    exact⟨g,hv.1,hcl i _ (List.getElem?_eq_getElem hi)⟩
theorem Ze (d:Dk) (v:Value) (a:Int) (w:World) (h:DRd w v d) (hs:d.small):
    Calls Tryz.prog 132 #[v,.int .i64 a] w fun e w'=>e=.returned (rdT d a)∧Below w.heap.size w w':=by
  obtain⟨aa,ab,ca,cb,rfl,ha,hb⟩:=h.form;obtain⟨s1,s2⟩:=hs;have b0:Below w.heap.size w (w.alloc (.cells #[.slice aa d.sec.length ca,.slice ab d.cache.length cb] 27)):=(Below.refl _ _).alloc (Nat.le_refl _) _;have hx:=Box.new w #[.slice aa d.sec.length ca,.slice ab d.cache.length cb] 27;have c0:=hx.cell 0 (.slice aa d.sec.length ca) rfl;have c1:=hx.cell 1 (.slice ab d.cache.length cb) rfl;by_cases hin:0≤a∧a < d.sec.length
  · have HA:=hid (ha.later b0)
    have HB:=hid (hb.later b0);clear ha hb h hx;go_enter Tryz.func132,Tryz.ntmps132
    go_wp2_with (go_at_call 52;refine(Zo _ _ _ _ (by omega) (by omega)).mono ?_;rintro e w1 ⟨rfl,rfl⟩)
    generalize w.alloc (.cells #[.slice aa d.sec.length ca,.slice ab d.cache.length cb] 27)=W at *;go_loopw [6] (fun iv wr=>∃ j:Nat,j≤d.cache.length∧iv=.int .i64 ((j:Int) - 1)∧lastAt d.cache a=lastAt (d.cache.take j) a∧wr=W) (fun iv _=>(intOf iv+1).toNat)
    case atStart=>exact⟨d.cache.length,by omega,rfl,by rw [List.take_length],rfl⟩
    case round=>
      obtain⟨j,hj,rfl,hla,hw⟩:=hrel;have hw':=hw.symm;clear hw;subst hw';by_cases hj0:j=0
      · subst hj0
        have hnone:lastAt d.cache a=none:=(by rw [hla];rfl);obtain⟨k,rfl⟩:=Int.eq_ofNat_of_zero_le hin.1;have hk:k < d.sec.length:=(by omega);obtain⟨g,rfl,hcs⟩:=HA.out.at k hk;have HZ:=hid (Qc hk hnone);have hk1:(k:Int) <(d.sec.length:Int):=(by omega);clear hla hnone;generalize d.sec[k]=t at *;go_wp2;go_ret2
        exact⟨by rw [HZ.out];rfl,b0⟩
      · obtain⟨i,rfl⟩:∃ i,j=i+1:=⟨j - 1,by omega⟩
        have hi:i < d.cache.length:=(by omega);obtain⟨g,off,rfl,hcl⟩:=HB.out.at i hi;have d0:W.cell? ⟨g,off+i * 2,none⟩=some (.int .i64 d.cache[i].at_):=hcl W (Below.refl _ _) 0 _ rfl;have d1:W.cell? ⟨g,off+i * 2+1,none⟩=some (.string d.cache[i].text):=hcl W (Below.refl _ _) 1 _ rfl;rw [Yh hi] at hla;clear hcl;generalize d.cache[i]=x at *;obtain⟨n,t⟩:=x;simp only at d0 d1 hla;have hii:(((i+1:Nat):Int) - 1)=(i:Int):=(by omega);rw [hii];have hi0:(0:Int)≤(i:Int):=(by omega);have hi1:(i:Int) <(d.cache.length:Int):=(by omega);by_cases hna:n=a
        · rw [if_pos hna] at hla
          have HZ:=hid (Vv hin hla);clear hla;subst hna;go_wp2;go_ret2
          exact⟨by rw [HZ.out];rfl,b0⟩
        · rw [if_neg hna] at hla
          have HL:=hid hla;clear hla;go_wp2;go_roundw
          case rel=>exact⟨i,by omega,rfl,HL.out,trivial⟩
          case measure=>simp [intOf]
  · have HZ:=hid (xS hin)
    clear ha hb h hx;go_enter Tryz.func132,Tryz.ntmps132
    go_wp2_with (go_at_call 52;refine(Yu _ _ _ _ (by omega)).mono ?_;rintro e w1 ⟨rfl,rfl⟩)
    go_ret2
    exact⟨by rw [HZ.out];rfl,b0⟩

/- strings.Clone hands back the same bytes and changes nothing that was there: out of the library's own theorem on internal/stringslite.Clone, at the numbers of this program. -/
open Go.Shelf Go.RowKit
def cloneRen:Go.Shelf.Ren:=⟨fun | 316=>123 | n=>n,fun | 9=>9 | 3=>3 | 4=>4 | 37=>22 | 0=>0 | 127=>190 | 5=>5 | n=>n,fun | n=>n⟩
theorem zaH:Go.Proofs.LaysM.n316 Tryz.prog cloneRen:= {
  mixed:=by kernel_rfl
  f316:=Tryz.func123.trans (congrArg some (by kernel_rfl))
  t0:=Tryz.underlying0
  a0:=Tryz.isAgg0
  z0:=Tryz.sizeOf0
  v0:=Tryz.zeroValue0
  t3:=Tryz.underlying3
  a3:=Tryz.isAgg3
  z3:=Tryz.sizeOf3
  v3:=Tryz.zeroValue3
  t4:=Tryz.underlying4
  a4:=Tryz.isAgg4
  z4:=Tryz.sizeOf4
  v4:=Tryz.zeroValue4
  t9:=Tryz.underlying9
  a9:=Tryz.isAgg9
  z9:=Tryz.sizeOf9
  v9:=Tryz.zeroValue9
  t37:=Tryz.underlying22
  a37:=Tryz.isAgg22
  z37:=Tryz.sizeOf22
  v37:=Tryz.zeroValue22
  t127:=Tryz.underlying190
  a127:=Tryz.isAgg190
  z127:=Tryz.sizeOf190
  v127:=Tryz.zeroValue190
  t5:=Tryz.underlying5
  a5:=Tryz.isAgg5
  z5:=Tryz.sizeOf5
  v5:=Tryz.zeroValue5
  i0:=by kernel_rfl
  i3:=by kernel_rfl
  i4:=by kernel_rfl
  i5:=by kernel_rfl
  i9:=by kernel_rfl
  i37:=by kernel_rfl
  i127:=by kernel_rfl}
theorem vy(s:ByteArray)(w:World)(hlim:s.size≤281474976710656):
    Calls Tryz.prog 123 #[.string s] w fun e w'=>e=.returned (.string s)∧Below w.heap.size w w':=Any.stringslite_Clone zaH s w hlim
theorem Zp(s:ByteArray)(w:World)(hlim:s.size≤281474976710656):
    Calls Tryz.prog 97 #[.string s] w fun e w'=>e=.returned (.string s)∧Below w.heap.size w w':=by
  go_enter Tryz.func97,Tryz.ntmps97
  go_wp2_with (go_at_call 123;refine(vy _ _ hlim).mono ?_;rintro e w1 ⟨rfl,hb1⟩)
  go_ret;exact⟨rfl,hb1⟩

/- What the program's ReadSector hands back: a range over slices.Backward. -/
open Go.RowKit Go.Shelf
attribute [local go_sem] Oper.semAt_some
abbrev BkT:= {p:Int×Wr // p.2.text.size≤1099511627776}
def bkV (c:List Wr) (j:Nat):Int×Wr:=((c.length:Int) - 1 -(j:Int),(c[c.length - 1 - j]?).getD ⟨0,⟨#[]⟩⟩)
theorem zcZ{c:List Wr}(hu:∀ x∈c,x.text.size≤1099511627776)(j:Nat):(bkV c j).2.text.size≤1099511627776:=by
  unfold bkV;by_cases h:c.length - 1 - j < c.length
  · simp only [List.getElem?_eq_getElem h,Option.getD_some]
    exact hu _ (List.getElem_mem h)
  · simp only [List.getElem?_eq_none (Nat.le_of_not_lt h),Option.getD_none]
    exact Nat.zero_le _
def bkAt (c:List Wr) (hu:∀ x∈c,x.text.size≤1099511627776) (j:Nat):BkT:=⟨bkV c j,zcZ hu j⟩
def bkTo (c:List Wr) (hu:∀ x∈c,x.text.size≤1099511627776) (k:Nat):List BkT:=(List.range k).map (bkAt c hu)
theorem Jf(c:List Wr)(hu:∀ x∈c,x.text.size≤1099511627776)(k:Nat):bkTo c hu (k+1)=bkTo c hu k++ [bkAt c hu k]:=by simp [bkTo,List.range_succ]
theorem QZ(c:List Wr)(hu:∀ x∈c,x.text.size≤1099511627776)(k:Nat):(bkTo c hu k).length=k:=by simp [bkTo]
def bkE (x:BkT):Array Value:=#[.int .i64 x.1.1,.agg #[.int .i64 x.1.2.at_,.string x.1.2.text]]
theorem xr{c:List Wr}{k:Nat}(hk:k < c.length):bkV c k=((c.length:Int) - 1 -(k:Int),c[c.length - 1 - k]'(by omega)):=by
  unfold bkV;rw [List.getElem?_eq_getElem (by omega)];rfl
theorem za9 (n:Nat) (hn:1≤n) (l Bs n₀ b off cap:Nat) (c:List Wr) (hu:∀ x∈c,x.text.size≤1099511627776) (hl:c.length≤1073741824) (hb:b < n₀) (J Jx:List BkT→World→Prop)
    (hY:∀ pre x W,J pre W→pre.length < c.length→YieldAt Fence.wide (n - 1) Tryz.prog l (bkE x) W fun e W'=>
      (e=.returned (.bool true)∧J (pre++ [x]) W'∧Below n₀ W W')∨(e=.returned (.bool false)∧Jx (pre++ [x]) W'))
    (W:World) (hB:W.cell? ⟨Bs,0,none⟩=some (.slice (some ⟨b,off,none⟩) c.length cap)) (hBn:Bs < n₀)
    (hc:∀ j (hj:j < c.length),W.cell? ⟨b,off+j * 2,none⟩=some (.int .i64 c[j].at_)∧W.cell? ⟨b,off+j * 2+1,none⟩=some (.string c[j].text)) (h0:J [] W):
    CallsIn Fence.wide n Tryz.prog 167 #[.func (.yield l) #[] #[],.pointer (some ⟨Bs,0,none⟩)] W fun e W'=>(∃ v,e=.returned v)∧
      ((∃ ys,ys=bkTo c hu c.length∧J ys W')∨(∃ pre,(∃ k,k≤c.length∧pre=bkTo c hu k)∧Jx pre W')):=by
  refine callsIn_of_wp Tryz.func167 rfl trivial ?_ rfl;simp only [Tryz.ntmps167,List.size_toArray,List.length_cons,List.length_nil,Nat.reduceAdd,Nat.reduceSub,Array.replicate_succ,Array.replicate_zero,List.push_toArray,List.append_toArray,List.nil_append,List.cons_append];gi_wp2;gi_loopw [3] (fun i wr=>∃ k:Nat,k≤c.length∧i=.int .i64 ((c.length:Int) - 1 -(k:Int))∧J (bkTo c hu k) wr∧Below n₀ W wr) (fun i _=>(intOf i+1).toNat)
  case atStart=>exact⟨0,Nat.zero_le _,by simp,h0,Below.refl _ _⟩
  case round=>
    obtain⟨k,hk,rfl,hJs,hnx⟩:=hrel;by_cases hlt:k < c.length
    · obtain⟨m,hm⟩:∃ m:Nat,m=c.length - 1 - k:=⟨_,rfl⟩
      have hml:m < c.length:=(by omega);have hmi:(c.length:Int) - 1 -(k:Int)=(m:Int):=(by omega);have hbk:bkE (bkAt c hu k)=#[.int .i64 (m:Int),.agg #[.int .i64 c[m].at_,.string c[m].text]]:=by
        unfold bkE bkAt;simp only [xr hlt,hmi];subst hm;rfl
      obtain⟨q0,q1⟩:=hc m hml;have d0:=(hnx.cell (p:=⟨b,off+m * 2,none⟩) hb).trans q0;have d1:=(hnx.cell (p:=⟨b,off+m * 2+1,none⟩) hb).trans q1;have dB:=(hnx.cell (p:=⟨Bs,0,none⟩) hBn).trans hB;have hsu:=hid (Jf c hu k);obtain⟨fn,tmps,assign,body,hy,hR⟩:=hY _ (bkAt c hu k) wr hJs (by rw [QZ];exact hlt);rw [hbk] at hy;clear q0 q1;have HJ:Hid (∀ W,J (bkTo c hu k++ [bkAt c hu k]) W→J (bkTo c hu (k+1)) W):=fun W h=>by rw [hsu.out];exact h
      generalize c[m]=x at *;obtain⟨na,t⟩:=x;simp only at d0 d1 hy;rw [hmi];have hm0:(0:Int)≤(m:Int):=(by omega);have hm1:(m:Int) <(c.length:Int):=(by omega);have HM:=hid hmi;clear hmi hbk hm;gi_wp2;refine hR.mono ?_;rintro e W3 (⟨rfl,hJ3,hk3⟩ |⟨rfl,hJx3⟩)
      · gi_wp2
        go_roundw
        case rel=>exact⟨k+1,by omega,by have:=HM.out;simp;omega,HJ.out _ hJ3,hnx.trans hk3⟩
        case measure=>simp [intOf]
      · gi_wp2
        refine bodyPost_ret (results_none rfl _ _ _) rfl ?_;exact⟨⟨_,rfl⟩,.inr ⟨_,⟨k+1,by omega,hsu.out.symm⟩,hJx3⟩⟩
    · obtain rfl:k=c.length:=by omega
      gi_wp2;go_end0
      exact⟨⟨_,rfl⟩,.inl ⟨_,rfl,hJs⟩⟩
theorem qN(n:Nat)(l Bs cap:Nat)(a:Option Addr)(J:List BkT→World→Prop)(W:World)(hB:W.cell? ⟨Bs,0,none⟩=some (.slice a 0 cap))(h0:J [] W):
    CallsIn Fence.wide n Tryz.prog 167 #[.func (.yield l) #[] #[],.pointer (some ⟨Bs,0,none⟩)] W fun e W'=>(∃ v,e=.returned v)∧J [] W':=by
  refine callsIn_of_wp Tryz.func167 rfl trivial ?_ rfl;simp only [Tryz.ntmps167,List.size_toArray,List.length_cons,List.length_nil,Nat.reduceAdd,Nat.reduceSub,Array.replicate_succ,Array.replicate_zero,List.push_toArray,List.append_toArray,List.nil_append,List.cons_append];gi_wp2;gi_loopw [3] (fun i wr=>i=.int .i64 (-1)∧J [] wr) (fun _ _=>0)
  case atStart=>exact⟨rfl,h0⟩
  case round=>
    obtain⟨rfl,hJs⟩:=hrel;gi_wp2;go_end0
    exact⟨⟨_,rfl⟩,hJs⟩
theorem xF(n:Nat)(hn:1≤n)(Bs:Nat)(v:Value)(c:List Wr)(hu:∀ x∈c,x.text.size≤1099511627776)(hl:c.length≤1073741824)(w:World)(hBs:Bs < w.heap.size)(hc:w.cell? ⟨Bs,0,none⟩=some v)(hr:Rows' wrE w v c):
    SeqStopsK Fence.wide n Tryz.prog 167 #[.pointer (some ⟨Bs,0,none⟩)] bkE (Below w.heap.size) (fun ys=>ys=bkTo c hu c.length) (fun pre=>∃ k,k≤c.length∧pre=bkTo c hu k) c.length w:=fun l J Jx W hW _ _ hY h0=>by
  have hc':=(hW.cell (p:=⟨Bs,0,none⟩) hBs).trans hc
  rcases hr.ways with⟨rfl,a,cap,rfl⟩ |⟨_,b,off,cap,rfl,_,hb,hcs⟩
  · exact(qN n l Bs cap a J W hc' h0).mono fun e W' ⟨he,hj⟩=>⟨he,.inl ⟨_,rfl,hj⟩⟩
  · refine za9 n hn l Bs w.heap.size b off cap c hu hl hb J Jx hY W hc' hBs (fun j hj=>?_) h0
    have q:=List.getElem?_eq_getElem hj
    have q0:=hcs j _ q 0 (.int .i64 c[j].at_) rfl
    have q1:=hcs j _ q 1 (.string c[j].text) rfl
    exact⟨(hW.cell (p:=⟨b,off+j * 2,none⟩) hb).trans q0,(hW.cell (p:=⟨b,off+j * 2+1,none⟩) hb).trans q1⟩
theorem zb4(n:Nat)(a:Option Addr)(len cap:Nat)(w:World):
    CallsIn Fence.wide n Tryz.prog 161 #[.slice a len cap] w fun e w'=>e=.returned (.func (.func 167) #[] #[.pointer (some ⟨w.heap.size,0,none⟩)])∧w'=w.alloc (.cells #[.slice a len cap] 25):=by
  refine callsIn_of_wp Tryz.func161 rfl trivial ?_ rfl;simp only [Tryz.ntmps161,List.size_toArray,List.length_cons,List.length_nil,Nat.reduceAdd,Nat.reduceSub,Array.replicate_succ,Array.replicate_zero,List.push_toArray,List.append_toArray,List.nil_append,List.cons_append];gi_wp2;go_ret;exact⟨rfl,rfl⟩
theorem Yg{c:List Wr}(hu:∀ x∈c,x.text.size≤1099511627776){a:Int}{k:Nat}(hk:k≤c.length)(h:∀ p∈bkTo c hu k,p.1.2.at_≠a):lastAt c a=lastAt (c.take (c.length - k)) a:=by
  induction k with
  | zero=>simp
  | succ k ih=>
    rw [Jf] at h;rw [ih (by omega) (fun p hp=>h p (List.mem_append.2 (.inl hp)))];have hi:c.length - 1 - k < c.length:=by omega
    have e:c.length - k=c.length - 1 - k+1:=by omega
    have:=h (bkAt c hu k) (List.mem_append.2 (.inr (by simp)));have hv:(bkAt c hu k).1=_:=xr (by omega);rw [hv] at this;rw [e,Yh hi,if_neg this];congr 2;omega
theorem VO{c:List Wr}(hu:∀ x∈c,x.text.size≤1099511627776){a:Int}{k:Nat}(hk:k < c.length)(h:∀ p∈bkTo c hu k,p.1.2.at_≠a)(ha:(bkAt c hu k).1.2.at_=a):lastAt c a=some (bkAt c hu k).1.2.text:=by
  rw [Yg hu (by omega) h];have hi:c.length - 1 - k < c.length:=by omega
  have e:c.length - k=c.length - 1 - k+1:=by omega
  have hv:(bkAt c hu k).1=_:=xr hk;rw [hv] at ha ⊢;rw [e,Yh hi,if_pos ha]
theorem Zy (d:Dk) (v:Value) (a:Int) (w:World) (h:DRd w v d) (hs:d.small) (ht:∀ s∈d.sec,s.size≤1099511627776) (hu:∀ x∈d.cache,x.text.size≤1099511627776):
    Calls Tryz.prog 151 #[v,.int .i64 a] w fun e w'=>e=.returned (rdT d a)∧Below w.heap.size w w':=by
  obtain⟨aa,ab,ca,cb,rfl,ha,hb⟩:=h.form;obtain⟨s1,s2⟩:=hs;by_cases hin:0≤a∧a < d.sec.length
  · refine(callsIn_wide (n:=5)).1 ?_
    refine callsIn_of_wp_marks Tryz.func151 rfl trivial ?_ rfl;simp only [Tryz.ntmps151,List.size_toArray,List.length_cons,List.length_nil,Nat.reduceAdd,Nat.reduceSub,Array.replicate_succ,Array.replicate_zero,List.push_toArray,List.append_toArray,List.nil_append,List.cons_append];have hi0:(0:Int)≤a:=hin.1;have hi1:a <(d.sec.length:Int):=hin.2;gi_wp2_with (refine⟨trivial,?_⟩;gi_at_call 161;refine(zb4 _ _ _ _ _).mono ?_;rintro e w' ⟨rfl,rfl⟩);obtain⟨W0,hW0⟩:∃ W0,(((((w.alloc (.cells #[.slice aa d.sec.length ca,.slice ab d.cache.length cb] 27)).alloc (.cells #[.int .i64 a] 3)).alloc (.cells #[.string ⟨#[]⟩] 9)).alloc (.cells #[.bool false] 4)).alloc (.cells #[.slice ab d.cache.length cb] 25))=W0:=⟨_,rfl⟩;have hsz:W0.heap.size=w.heap.size+5:=by rw [←hW0];simp
    have hB0:Below w.heap.size w W0:=by rw [←hW0];exact(((((Below.refl _ w).alloc (Nat.le_refl _) _).alloc (by simp) _).alloc (by simp;omega) _).alloc (by simp;omega) _).alloc (by simp;omega) _
    have c0:W0.cell? ⟨w.heap.size,0,none⟩=some (.slice aa d.sec.length ca):=by rw [←hW0];simp [go_sem]
    have bA:Boxed W0 (w.heap.size+1) 3 (.int .i64 a):=by
      rw [←hW0];have:=((((Boxed.new (w.alloc (.cells #[.slice aa d.sec.length ca,.slice ab d.cache.length cb] 27)) 3 (.int .i64 a)).alloc (.cells #[.string ⟨#[]⟩] 9)).alloc (.cells #[.bool false] 4)).alloc (.cells #[.slice ab d.cache.length cb] 25));simpa using this
    have bS:Boxed W0 (w.heap.size+1+1) 9 (.string ⟨#[]⟩):=by
      rw [←hW0];have:=(((Boxed.new ((w.alloc (.cells #[.slice aa d.sec.length ca,.slice ab d.cache.length cb] 27)).alloc (.cells #[.int .i64 a] 3)) 9 (.string ⟨#[]⟩)).alloc (.cells #[.bool false] 4)).alloc (.cells #[.slice ab d.cache.length cb] 25));simpa using this
    have bB:Boxed W0 (w.heap.size+1+1+1) 4 (.bool false):=by
      rw [←hW0];have:=((Boxed.new (((w.alloc (.cells #[.slice aa d.sec.length ca,.slice ab d.cache.length cb] 27)).alloc (.cells #[.int .i64 a] 3)).alloc (.cells #[.string ⟨#[]⟩] 9)) 4 (.bool false)).alloc (.cells #[.slice ab d.cache.length cb] 25));simpa using this
    have bC:W0.cell? ⟨w.heap.size+1+1+1+1,0,none⟩=some (.slice ab d.cache.length cb):=by rw [←hW0];simp [go_sem]
    rw [hW0];clear hW0;refine wpIn_rangeFunc_ownH rfl (by omega) (gf:=167) (lb:=#[.pointer (some ⟨w.heap.size+1+1+1+1,0,none⟩)]) rfl trivial (enters_of Tryz.func167 (by kernel_rfl) rfl)
      (xF 4 (by omega) (w.heap.size+1+1+1+1) _ d.cache hu s2 W0 (by omega) bC (hb.later hB0)) belowK_t (belowK_b (Nat.le_refl _)) (Below.refl _ _) (fun _=>rfl)
      (fun pre W=>((∀ p∈pre,p.1.2.at_≠a)∧w.heap.size+5≤W.heap.size∧W.cell? ⟨w.heap.size,0,none⟩=some (.slice aa d.sec.length ca)∧Boxed W (w.heap.size+1) 3 (.int .i64 a)∧Boxed W (w.heap.size+1+1) 9 (.string ⟨#[]⟩)∧Boxed W (w.heap.size+1+1+1) 4 (.bool false))∧Below w.heap.size w W)
      (fun c pre W=>(c=.ret∧∃ ini last,pre=ini++ [last]∧(∀ p∈ini,p.1.2.at_≠a)∧last.1.2.at_=a∧Boxed W (w.heap.size+1+1) 9 (.string last.1.2.text)∧Boxed W (w.heap.size+1+1+1) 4 (.bool true))∧Below w.heap.size w W)
      ?hI ?hIx ?h0
      (fun x a' W=>∃ Bx,w.heap.size+5≤Bx∧W.cell? ⟨Bx,0,none⟩=some (.int .i64 x.1.2.at_)∧W.cell? ⟨Bx,1,none⟩=some (.string x.1.2.text)∧a'= {tmps:=#[.agg #[.slice aa d.sec.length ca,.slice ab d.cache.length cb],.int .i64 a,.pointer (some ⟨w.heap.size,0,none⟩),.pointer (some ⟨w.heap.size+1,0,none⟩),.pointer (some ⟨w.heap.size+1+1,0,none⟩),.pointer (some ⟨w.heap.size+1+1+1,0,none⟩),undef,.pointer (some ⟨Bx,0,none⟩),.int .i64 a,.bool (decide (a < 0)),.bool (decide (a < 0)),.int .i64 a,.pointer (some ⟨w.heap.size,0,none⟩),.slice aa d.sec.length ca,.int .i64 (d.sec.length:Int),.bool (decide ((d.sec.length:Int)≤a)),.bool (decide (a < 0) || decide ((d.sec.length:Int)≤a)),.pointer (some ⟨w.heap.size,1,none⟩),.slice ab d.cache.length cb,.func (.func 167) #[] #[.pointer (some ⟨w.heap.size+1+1+1+1,0,none⟩)],.int .i64 x.1.1,.agg #[.int .i64 x.1.2.at_,.string x.1.2.text],undef,undef,undef,undef,undef,undef,undef,undef,undef,undef,undef,undef,undef],defers:= []})
      ?hAx ?assign ?body ?done ?stop
    case hI=>
      rintro s X Y row ⟨⟨i1,i0,i2,i3,i4,i5⟩,i6⟩ hg hr;have ne:∀ b,b < W0.heap.size→some b≠row:=fun b hb e=>by have:=(hr b e.symm).1;omega
      exact⟨⟨i1,Nat.le_trans i0 hg.size,hg.cell i2 (ne _ (by simp;omega)),i3.kept hg (ne _ (by omega)),i4.kept hg (ne _ (by omega)),i5.kept hg (ne _ (by omega))⟩,i6.grown hg i6.size (fun k hk=>by have:=(hr k hk).1;omega)⟩
    case hIx=>
      rintro c s X Y row ⟨⟨e0,ini,last,e1,e2,e3,e4,e5⟩,i6⟩ hg hr;have ne:∀ b,b < W0.heap.size→some b≠row:=fun b hb e=>by have:=(hr b e.symm).1;omega
      exact⟨⟨e0,ini,last,e1,e2,e3,e4.kept hg (ne _ (by omega)),e5.kept hg (ne _ (by omega))⟩,i6.grown hg i6.size (fun k hk=>by have:=(hr k hk).1;omega)⟩
    case h0=>exact⟨⟨by simp,by omega,c0,bA,bS,bB⟩,hB0⟩
    case hAx=>
      rintro x a' _ X Y row ⟨Bx,q1,q2,q3,q4⟩ hg hr;exact⟨Bx,q1,cell_kept q2 hg (fun r e=>(hr r e).2),cell_kept q3 hg (fun r e=>(hr r e).2),q4⟩
    case assign=>
      rintro l pre x W K ⟨⟨i1,i0,i2,i3,i4,i5⟩,i6⟩ hK;simp only [bkE];gi_wp2;have bN:=Box.new W #[.int .i64 x.1.2.at_,.string x.1.2.text] 63;exact hK _ _ ((KeepsOthers.alloc _ _).from _) ((Below.refl _ W).alloc (by omega) _) ⟨⟨i1,by simp;omega,(((Below.refl W.heap.size W).alloc (Nat.le_refl _) _).cell (p:=⟨w.heap.size,0,none⟩) (World.block_lt_of_cell? _ _ i2)).trans i2,i3.alloc _,i4.alloc _,i5.alloc _⟩,i6.alloc i6.size _⟩ ⟨W.heap.size,i0,bN.cell 0 _ rfl,bN.cell 1 _ rfl,rfl⟩
    case body=>
      rintro l pre x a' W hl ⟨r,hr⟩ ⟨⟨i1,i0,i2,i3,i4,i5⟩,i6⟩ ⟨Bx,hBx,x0,x1,rfl⟩ hlt;have c3:=i3.cell;have hxs:=x.2;by_cases hxa:x.1.2.at_=a
      · have hq:(x.1.2.at_==a)=true:=by simp [hxa]
        have HB1:Hid (∀ w1:World,Below W.heap.size W w1→Boxed w1 (w.heap.size+1+1) 9 (.string ⟨#[]⟩)∧Boxed w1 (w.heap.size+1+1+1) 4 (.bool false)∧Below w.heap.size w w1∧KeepsFrom W0.heap.size W w1):=
          fun w1 k1=>⟨(k1.block _ i4.lt).trans i4,(k1.block _ i5.lt).trans i5,i6.trans (k1.mono i6.size),KeepsFrom.of_grownBy (row:=none) ⟨k1.os,k1.tape,k1.output,k1.size,fun k hk _=>k1.block k hk⟩ (fun j e=>by cases e)⟩
        have HX:=hid hxa;have HI1:=hid i1;clear i4 i5 i6 hxa i1;gi_wp2_with (refine⟨trivial,?_⟩;gi_at_call 97;refine(CallsIn.inRound l (callsIn_wide.2 (Zp _ _ (by omega)))).mono ?_;rintro e w1 ⟨rfl,k1⟩;obtain⟨g4,g5,g6,g7⟩:=HB1.out w1 k1;have z4:=g4.cell;have f4:=g4.frozen;have z5:=g5.cell;have f5:=g5.frozen);refine⟨g7.trans (((KeepsOthers.setCell _ _ _).from _).trans ((KeepsOthers.setCell _ _ _).from _)),⟨rfl,pre,x,rfl,HI1.out,HX.out,?_,?_⟩,?_⟩
        · exact(g4.set _).other (by omega) _
        · exact(g5.other (by omega) _).set _
        · exact(g6.setCell (p:=⟨w.heap.size+1+1,0,none⟩) (by simp;omega) _).setCell (p:=⟨w.heap.size+1+1+1,0,none⟩) (by simp;omega) _
      · have hq:(x.1.2.at_==a)=false:=by simp [hxa]
        have HX:=hid hxa;clear hxa;gi_wp2;exact⟨KeepsFrom.refl _ _,Below.refl _ _,⟨fun p hp=>(List.mem_append.1 hp).elim (i1 p) (fun e=>by simp at e;subst e;exact HX.out),i0,i2,i3,i4,i5⟩,i6⟩
    case done=>
      rintro D ys W hD rfl ⟨⟨i1,i0,i2,i3,i4,i5⟩,i6⟩ hK;have hnone:lastAt d.cache a=none:=by
        rw [Yg hu (Nat.le_refl _) i1];simp [lastAt]
      obtain⟨k,rfl⟩:=Int.eq_ofNat_of_zero_le hi0;have hk:k < d.sec.length:=(by omega);obtain⟨g,rfl,hcs⟩:=(ha.later i6).at k hk;have HZ:=hid (Qc hk hnone);have htz:=ht _ (List.getElem_mem hk);have c3:=i3.cell;have HB1:Hid (∀ w1:World,Below W.heap.size W w1→Boxed w1 (w.heap.size+1+1) 9 (.string ⟨#[]⟩)∧Boxed w1 (w.heap.size+1+1+1) 4 (.bool false)∧Below w.heap.size w w1∧w1.heap[D]? =some (.deferred (some []))):=
        fun w1 k1=>⟨(k1.block _ i4.lt).trans i4,(k1.block _ i5.lt).trans i5,i6.trans (k1.mono i6.size),(k1.block _ (Array.getElem?_eq_some_iff.1 hK).1).trans hK⟩
      clear i4 i5 i6 i1 hnone hK ht hu;generalize d.sec[k]=t at *;gi_wp2_with (refine⟨trivial,?_⟩;gi_at_call 97;refine(callsIn_wide.2 (Zp _ _ (by omega))).mono ?_;rintro e w1 ⟨rfl,k1⟩;obtain⟨g4,g5,g6,g7⟩:=HB1.out w1 k1;have z4:=g4.cell;have f4:=g4.frozen;have z5:=g5.cell;have f5:=g5.frozen);have G4:=(g4.set (.string t)).other (B':=w.heap.size+1+1+1) (by omega) (.bool true);have G5:=(g5.other (B':=w.heap.size+1+1) (by omega) (.string t)).set (.bool true);have GK:=(KeepsOthers.setCell (w1.setCell ⟨w.heap.size+1+1,0,none⟩ (.string t)) ⟨w.heap.size+1+1+1,0,none⟩ (.bool true)).same D _ ((KeepsOthers.setCell w1 ⟨w.heap.size+1+1,0,none⟩ (.string t)).same D _ g7 rfl) rfl;refine⟨by simp,.inl ⟨_,_,rfl,run_takeDeferred GK,?_⟩⟩;have q4:=(G4.kept (grownBy_putObj' _ D (.deferred none)) (by simp;omega)).cell;have q5:=(G5.kept (grownBy_putObj' _ D (.deferred none)) (by simp;omega)).cell;have b6:=(g6.setCell (p:=⟨w.heap.size+1+1,0,none⟩) (by simp;omega) (.string t)).setCell (p:=⟨w.heap.size+1+1+1,0,none⟩) (by simp;omega) (.bool true);refine⟨.tuple #[.string t,.bool true],?_,by rw [HZ.out],b6.trans (belowK_b (w:=w) (Nat.le_refl _) _ D _ _ (by omega) GK rfl rfl)⟩;simp [results,Tryz.f151,go_sem,q4,q5]
    case stop=>
      rintro D c pre W hD ⟨k,hk,rfl⟩ ⟨⟨rfl,ini,last,e1,e2,e3,e4,e5⟩,i6⟩ hK;gi_wp2;refine⟨by simp,.inl ⟨_,_,rfl,run_takeDeferred hK,?_⟩⟩;have q4:=(e4.kept (grownBy_putObj' _ D (.deferred none)) (by simp;omega)).cell;have q5:=(e5.kept (grownBy_putObj' _ D (.deferred none)) (by simp;omega)).cell;obtain⟨k',rfl⟩:∃ k',k=k'+1:=by
        cases k with
        | zero=>simp [bkTo] at e1
        | succ k'=>exact⟨k',rfl⟩
      rw [Jf] at e1;obtain⟨rfl,e6⟩:=List.append_inj' e1 rfl;obtain rfl:bkAt d.cache hu k'=last:=by simpa using e6
      have HZ:=Vv hin (VO hu (by omega) e2 e3);refine⟨.tuple #[.string (bkAt d.cache hu k').1.2.text,.bool true],?_,by rw [HZ],i6.trans (belowK_b (w:=w) (Nat.le_refl _) W D _ _ (by omega) hK rfl rfl)⟩;simp [results,Tryz.f151,go_sem,q4,q5]
  · have HZ:=hid (xS hin)
    have hB0:=hid ((((((Below.refl _ w).alloc (Nat.le_refl _) (.cells #[.slice aa d.sec.length ca,.slice ab d.cache.length cb] 27)).alloc (by simp) (.cells #[.int .i64 a] 3)).alloc (by simp;omega) (.cells #[.string ⟨#[]⟩] 9)).alloc (by simp;omega) (.cells #[.bool false] 4)));clear ha hb h;go_enter Tryz.func151,Tryz.ntmps151
    go_wp2
    all_goals
      refine bodyPost_ret (v:=.tuple #[.string ⟨#[]⟩,.bool false]) (by simp [results,Tryz.results151,go_sem]) rfl ?_
      exact⟨by rw [HZ.out],hB0.out⟩

/- strings.Builder: what WriteString and String hand back: String out of the library's own theorem, at the numbers of this program; copyCheck and WriteString walked. -/
open Go.Shelf Go.RowKit
def bldRen:Go.Shelf.Ren:=⟨fun | 169=>153 | n=>n,fun | 70=>195 | 9=>9 | 0=>0 | 72=>197 | 37=>22 | 127=>190 | 3=>3 | 5=>5 | n=>n,fun | n=>n⟩
theorem zcq:Go.Proofs.Lays.n169 Tryz.prog bldRen:= {
  mixed:=by kernel_rfl
  f169:=Tryz.func153.trans (congrArg some (by kernel_rfl))
  t0:=Tryz.underlying0
  a0:=Tryz.isAgg0
  z0:=Tryz.sizeOf0
  v0:=Tryz.zeroValue0
  t3:=Tryz.underlying3
  a3:=Tryz.isAgg3
  z3:=Tryz.sizeOf3
  v3:=Tryz.zeroValue3
  t9:=Tryz.underlying9
  a9:=Tryz.isAgg9
  z9:=Tryz.sizeOf9
  v9:=Tryz.zeroValue9
  t37:=Tryz.underlying22
  a37:=Tryz.isAgg22
  z37:=Tryz.sizeOf22
  v37:=Tryz.zeroValue22
  t70:=Tryz.underlying195
  a70:=Tryz.isAgg195
  z70:=Tryz.sizeOf195
  v70:=Tryz.zeroValue195
  t72:=Tryz.underlying197
  a72:=Tryz.isAgg197
  z72:=Tryz.sizeOf197
  v72:=Tryz.zeroValue197
  t127:=Tryz.underlying190
  a127:=Tryz.isAgg190
  z127:=Tryz.sizeOf190
  v127:=Tryz.zeroValue190}
theorem Yi:Builder.Extra Tryz.prog bldRen:= {
  sizeBuilder:=by kernel_rfl
  liesBuilder:=by kernel_rfl
  t5:=Tryz.underlying5
  a5:=Tryz.isAgg5
  z5:=Tryz.sizeOf5
  v5:=Tryz.zeroValue5
  infoByte:=by kernel_rfl
  cellsByte:=by kernel_rfl
  sizeByte:=by kernel_rfl
  neB5:=by decide}
theorem zat(B b:Nat)(l:List UInt8)(w:World)(h:Lib.IsBuilder 197 5 B b (Lib.byteCells l) w)(hBw:B≤w.heap.size):
    Calls Tryz.prog 153 #[.pointer (some ⟨b,0,none⟩)] w fun e w'=>e=.returned (.string ⟨l.toArray⟩)∧Below B w w':=Any.Builder_String_any zcq Yi B b l w h hBw
theorem Vf(b:Nat)(w:World)(h0:w.cell? ⟨b,0,none⟩=some (.pointer (some ⟨b,0,none⟩))):
    Calls Tryz.prog 162 #[.pointer (some ⟨b,0,none⟩)] w fun e w'=>e=.returned (.tuple #[])∧w'=w:=by
  obtain⟨j,hj,_⟩:=Option.map_eq_some_iff.1 Yi.sizeBuilder;go_enter Tryz.func162,Tryz.ntmps162
  go_wp2;rw [Lib.run_neq_ptr_same w _ Tryz.underlying195 hj];go_wp2;go_end0
  exact⟨rfl,rfl⟩
theorem JI(b:Nat)(w:World)(h0:w.cell? ⟨b,0,none⟩=some (.pointer none))(hsh:w.shape? b=some (197,2))(hfz:w.frozen? ⟨b,0,none⟩=false):
    Calls Tryz.prog 162 #[.pointer (some ⟨b,0,none⟩)] w fun e w'=>e=.returned (.tuple #[])∧w'=w.setCell ⟨b,0,none⟩ (.pointer (some ⟨b,0,none⟩)):=by
  obtain⟨j,hj,hjs⟩:=Option.map_eq_some_iff.1 Yi.sizeBuilder;go_enter Tryz.func162,Tryz.ntmps162
  go_wp2;rw [Lib.run_to_unsafe w ⟨b,0,none⟩ Tryz.underlying195 Tryz.underlying212 hj (by rw [hjs];decide) hsh (Nat.zero_lt_succ 1)];simp only [Result.andThen];rw [Oper.upon_value];go_wp2;rw [run_callFunc_extern Tryz.func168 (by kernel_rfl) (by kernel_rfl) (by kernel_rfl) (e:=Extern.AbiNoEscape.same) (by kernel_rfl)];rw [Lib.run_noEscape];simp only [Result.andThen];rw [Oper.upon_value];go_wp2;rw [Lib.run_from_unsafe w ⟨b,0,none⟩ Tryz.underlying212 Tryz.underlying195 hj hsh Yi.liesBuilder];simp only [Result.andThen];rw [Oper.upon_value];go_wp2;go_end0
  exact⟨rfl,rfl⟩
theorem VM(B b:Nat)(bs:List Value)(w:World)(h:Lib.IsBuilder 197 5 B b bs w):
    Calls Tryz.prog 162 #[.pointer (some ⟨b,0,none⟩)] w fun e w'=>e=.returned (.tuple #[])∧(Lib.BuilderAt 197 5 B b (.pointer (some ⟨b,0,none⟩)) bs w'∧Below B w w'):=by
  rcases h with h | h
  · refine(JI b w h.cell0 h.shape h.frozen0).mono ?_
    rintro e w' ⟨rfl,rfl⟩;exact⟨rfl,h.used _,(Below.refl B w).setCell (p:=⟨b,0,none⟩) h.1 _⟩
  · refine(Vf b w h.cell0).mono ?_
    rintro e w' ⟨rfl,rfl⟩;exact⟨rfl,h,Below.refl B _⟩
theorem zbD(B b:Nat)(bs:List Value)(s:ByteArray)(w:World)(h:Lib.IsBuilder 197 5 B b bs w)(hlen:bs.length+s.size≤140737488355328)(hBw:B≤w.heap.size):
    Calls Tryz.prog 152 #[.pointer (some ⟨b,0,none⟩),.string s] w fun e w'=>e=.returned (.tuple #[.int .i64 s.size,.nilIface])∧(Lib.BuilderAt 197 5 B b (.pointer (some ⟨b,0,none⟩)) (bs++Lib.strCells s) w'∧Below B w w'):=by
  obtain⟨i0,hi,hz0,hz1,hz2⟩:=info_parts Yi.infoByte;go_enter Tryz.func152,Tryz.ntmps152
  go_wp2_with (go_at_call 162;refine(VM B b bs _ h).mono ?_)
  rintro e w1 ⟨rfl,h1,hb1⟩;obtain⟨hB,v,hbk,hown,hne⟩:=h1;have c0:w1.cell? ⟨b,0,none⟩=some (.pointer (some ⟨b,0,none⟩)):=by rw [Lib.cell_of_heap hbk];rfl
  have c1:w1.cell? ⟨b,1,none⟩=some v:=by rw [Lib.cell_of_heap hbk];rfl
  go_wp2_with (at_builtin;refine Lib.wpList_append_own_string _ rfl _ _ 22 9 rfl B 5 i0 Tryz.underlying22 Tryz.underlying9 hi hz0 hz1 hz2 _ _ _ rfl hown s rfl ?c3 ?c4 ?c5 ?_)
  case c3=>unfold maxLen;omega
  case c4=>omega
  case c5=>have:=hb1.size;omega
  intro v' w2 hown' hgrow _;have hlt:b < w1.heap.size:=by
    rcases Nat.lt_or_ge b w1.heap.size with h' | h'
    · exact h'
    · simp [Array.getElem?_eq_none h'] at hbk
  have hb2:w2.heap[b]? =some (.cells #[.pointer (some ⟨b,0,none⟩),v] 197 (0,0)):=by
    rw [hgrow.block b hlt (fun e=>hne e.symm)];exact hbk
  have d0:w2.cell? ⟨b,0,none⟩=some (.pointer (some ⟨b,0,none⟩)):=by rw [Lib.cell_of_heap hb2];rfl
  have d1:w2.cell? ⟨b,1,none⟩=some v:=by rw [Lib.cell_of_heap hb2];rfl
  have f1:w2.frozen? ⟨b,1,none⟩=false:=Lib.frozen_of_heap hb2 1;obtain⟨ao,n',cap,rfl⟩:∃ ao n' cap,v'=.slice ao n' cap:=by
    rcases hown'.2 with⟨hv,_⟩ |⟨g,cap,cur,hv,_⟩
    · exact⟨_,_,_,hv⟩
    · exact⟨_,_,_,hv⟩
  go_wp2;go_ret2
  refine⟨rfl,?_,?_⟩
  · exact Lib.BuilderAt.put (T:=197) (e:=5) hB hb2 (bs':=bs++Lib.strCells s) (by simpa [Lib.strCells_length] using hown') (by decide)
  · exact(hb1.grown hgrow (by have:=hb1.size;omega) (fun k hk=>(hown.lt k hk).1)).setCell (p:=⟨b,1,none⟩) hB _

/- Sectors as arrays of bytes: sectorOf, text, sectorOk. -/
theorem yS(l:List UInt8):∀ v∈bytesV l,v.oneCell'=true:=by
  intro v hv;simp only [bytesV,List.mem_map] at hv;obtain⟨b,_,rfl⟩:=hv;rfl
theorem yf(w:World)(g:Nat)(cs:Array Value):w.grownBy (w.setRow g cs) (some g):=
  ⟨rfl,rfl,rfl,by simp [World.setRow],fun k _ hk=>setRow_other w g k cs (fun e=>hk (by simp [e]))⟩
theorem VJ{P:Program}(w:World)(dT sT ty elem:TypeId)(g o dLen dCap:Nat)(s:ByteArray)(l:List UInt8)(t:TypeId)
    (hu:P.underlying dT=some (.slice elem)) (hs:(P.info? elem).map (·.size)=some 1) (hg:Box w g (bytesV l).toArray t) (hfit:o+dLen≤l.length):
    ∃ w',(Builtin.copy_ #[dT,sT] ty #[.slice (some ⟨g,o,none⟩) dLen dCap,.string s]).run P w=.ok (.int .i64 ((Nat.min s.size dLen:Nat):Int)) w'∧Box w' g (bytesV (splice l o (s.data.toList.take dLen))).toArray t∧w.grownBy w' (some g):=by
  have hsz:s.data.toList.length=s.size:=by rw [Array.length_toList];rfl
  have hml:Nat.min s.size dLen≤dLen:=Nat.min_le_right _ _;have htl:(s.data.toList.take (Nat.min s.size dLen))=s.data.toList.take dLen:=by
    rcases Nat.le_total s.size dLen with h | h
    · rw [show Nat.min s.size dLen=s.size from Nat.min_eq_left h,List.take_of_length_le (by omega),List.take_of_length_le (by omega)]
    · rw [show Nat.min s.size dLen=dLen from Nat.min_eq_right h]
  have hlen:(bytesV (s.data.toList.take (Nat.min s.size dLen))).length=Nat.min s.size dLen:=by
    rw [zF,List.length_take,hsz];exact Nat.min_eq_left (Nat.min_le_left _ _)
  have hst:=run_storeCells_at P g o t (bytesV (s.data.toList.take (Nat.min s.size dLen))) 0 (bytesV l).toArray w hg (by rw [hlen];simp [zF];omega) (yS _);refine⟨_,?_,?_,yf w g ((bytesV l).toArray.toList.take (o+0) ++bytesV (s.data.toList.take (Nat.min s.size dLen)) ++(bytesV l).toArray.toList.drop (o+0+(bytesV (s.data.toList.take (Nat.min s.size dLen))).length)).toArray⟩
  · cases hq:P.info? elem with
    | none=>simp [hq] at hs
    | some i=>
      have hmap:List.take (Nat.min s.size dLen) (List.map (fun b:UInt8=>Value.int IntKind.u8 (b.toNat:Int)) s.data.toList)=bytesV (s.data.toList.take (Nat.min s.size dLen)):=(by rw [bytesV,List.map_take]);simp [Builtin.copy_,run_underlying hu,Builtin.lenOf,Builtin.firstCells,sizeOf,typeInfo,hq];rw [hmap,hst];simp [Result.andThen,goInt]
  · have:=setRow_heap w g _ ((bytesV l).toArray.toList.take (o+0) ++bytesV (s.data.toList.take (Nat.min s.size dLen)) ++(bytesV l).toArray.toList.drop (o+0+(bytesV (s.data.toList.take (Nat.min s.size dLen))).length)).toArray t _ hg
    unfold Box;rw [this];congr 3;rw [htl];simp [bytesV,splice]
theorem ZF{w:World}{a:Act}{K:Act→World→Prop}{Q:Exit→Act→World→Prop}{o:Oper}(dT sT ty elem:TypeId)(g off dLen dCap:Nat)(t:ByteArray)(l:List UInt8)(T:TypeId)
    (hu:Tryz.prog.underlying dT=some (.slice elem)) (hsz:(Tryz.prog.info? elem).map (·.size)=some 1) (hg:Box w g (bytesV l).toArray T) (hfit:off+dLen≤l.length)
    (h:∀ w',Box w' g (bytesV (splice l off (t.data.toList.take dLen))).toArray T→w.grownBy w' (some g)→Oper.upon Tryz.prog o a K Q (.ok (.value (.int .i64 ((Nat.min t.size dLen:Nat):Int))) w')):
    Oper.upon Tryz.prog o a K Q ((Sem.run Tryz.prog (Builtin.copy_ #[dT,sT] ty #[.slice (some ⟨g,off,none⟩) dLen dCap,.string t]) w).andThen fun v w'=>.ok (.value v) w'):=by
  obtain⟨w',hrun,hb,hgr⟩:=VJ (P:=Tryz.prog) w dT sT ty elem g off dLen dCap t l T hu hsz hg hfit;rw [hrun];exact h w' hb hgr
theorem zO(w:World)(c0 c1:Array Value)(t0 t1:TypeId):Box ((w.alloc (.cells c0 t0)).alloc (.cells c1 t1)) w.heap.size c0 t0∧Box ((w.alloc (.cells c0 t0)).alloc (.cells c1 t1)) (w.heap.size+1) c1 t1∧
    Below w.heap.size w ((w.alloc (.cells c0 t0)).alloc (.cells c1 t1))∧((w.alloc (.cells c0 t0)).alloc (.cells c1 t1)).heap.size=w.heap.size+2:=by
  have e1:(w.alloc (.cells c0 t0)).heap.size=w.heap.size+1:=by simp
  have q0:=Box.new w c0 t0;have q1:=Box.new (w.alloc (.cells c0 t0)) c1 t1;rw [e1] at q1;exact⟨q0.later ((Below.refl _ _).alloc (Nat.le_refl _) _),q1,((Below.refl _ _).alloc (Nat.le_refl _) _).alloc (by simp) _,by simp⟩
abbrev Sec:= {l:List UInt8 // l.length=32}
def Sec.v (s:Sec):Value:=.agg (bytesV s.1).toArray
theorem Sec.size(s:Sec):(bytesV s.1).toArray.size=32:=by simp [zF,s.2]
theorem Sec.one(s:Sec):(bytesV s.1).toArray.all (·.oneCell')=true:=all_oneCell_toArray (yS _)
theorem Tryz.secInfo:(Tryz.prog.info? 127).map (·.size)=some 32:=by kernel_rfl
theorem yY{w:World}{ops:Array Oper}{rest:List Oper}{o:Oper}{a:Act}{Q:Exit→Act→World→Prop}(hgd:o.guard=none)(x:Operand)(ho:o.op=.load 127 x)(g:Nat)(hx:a.eval x=.pointer (some ⟨g,0,none⟩))
    (s:Sec) (t:TypeId) (hg:Box w g (bytesV s.1).toArray t) (h:wpList Tryz.prog ops Q rest (a.put o.dst s.v) w):wpList Tryz.prog ops Q (o::rest) a w:=
  wpList_load_row hgd _ x ho g hx t _ (0,0) _ hg Tryz.underlying127 rfl (by rw [s.size];exact Tryz.secInfo) h
theorem ZQ{w:World}{ops:Array Oper}{rest:List Oper}{o:Oper}{a:Act}{Q:Exit→Act→World→Prop}(hgd:o.guard=none)(x y:Operand)(ho:o.op=.store 127 x y)(g:Nat)(s:Sec)(hx:a.eval x=.pointer (some ⟨g,0,none⟩))(hy:a.eval y=s.v)
    (t:TypeId) (old:Array Value) (hg:Box w g old t) (hold:old.size=32) (h:∀ w',Box w' g (bytesV s.1).toArray t→w.grownBy w' (some g)→wpList Tryz.prog ops Q rest (a.put o.dst undef) w'):wpList Tryz.prog ops Q (o::rest) a w:=
  wpList_store_row hgd _ x y ho g _ hx hy t old hg (by rw [s.size];exact Tryz.secInfo) (by rw [s.size];exact hold) s.one (h _ (setRow_heap _ _ _ _ _ _ hg) (yf _ _ _))
theorem xD{fn:Func}{p:Tmp}(h:fn.results=#[.cell p 127])(tmps:Array Value)(w:World)(g:Nat)(t:TypeId)(s:Sec)
    (hp:tmps.getD p undef=.pointer (some ⟨g,0,none⟩)) (hg:Box w g (bytesV s.1).toArray t):(results fn tmps).run Tryz.prog w=.ok s.v w:=
  results_cell_row h tmps w g t _ (0,0) _ hp hg Tryz.underlying127 rfl (by rw [s.size];exact Tryz.secInfo)
theorem YF{w:World}{ops:Array Oper}{rest:List Oper}{o:Oper}{a:Act}{Q:Exit→Act→World→Prop}(hgd:o.guard=none)(x:Operand)(ho:o.op=.load 127 x)(g off:Nat)(hx:a.eval x=.pointer (some ⟨g,off,none⟩))
    (s:Sec) (hg:w.rangeAt g off (bytesV s.1)) (h:wpList Tryz.prog ops Q rest (a.put o.dst s.v) w):wpList Tryz.prog ops Q (o::rest) a w:=
  wpList_load_mid hgd _ x ho g off hx _ _ hg Tryz.underlying127 rfl (by rw [zF,s.2];exact Tryz.secInfo) h
def secL (t:ByteArray):List UInt8:=splice (List.replicate 32 0) 0 (t.data.toList.take 32)
theorem Zn(t:ByteArray):(secL t).length=32:=by
  rw [secL,length_splice]
  · exact List.length_replicate
  · rw [List.length_replicate,List.length_take];omega
def z32:Array Value:=(bytesV (List.replicate 32 0)).toArray
theorem zcY:(#[.int .u8 0,.int .u8 0,.int .u8 0,.int .u8 0,.int .u8 0,.int .u8 0,.int .u8 0,.int .u8 0,.int .u8 0,.int .u8 0,.int .u8 0,.int .u8 0,.int .u8 0,.int .u8 0,.int .u8 0,.int .u8 0,.int .u8 0,.int .u8 0,.int .u8 0,.int .u8 0,.int .u8 0,.int .u8 0,.int .u8 0,.int .u8 0,.int .u8 0,.int .u8 0,.int .u8 0,.int .u8 0,.int .u8 0,.int .u8 0,.int .u8 0,.int .u8 0]:Array Value)=z32:=rfl
def secOf (t:ByteArray):Sec:=⟨secL t,Zn t⟩
theorem ZI(t:ByteArray)(w:World):
    Calls Tryz.prog 87 #[.string t] w fun e w'=>e=.returned (secOf t).v∧Below w.heap.size w w':=by
  obtain⟨x0,x1,b0,s0⟩:=zO w z32 z32 127 127;go_enter Tryz.func87,Tryz.ntmps87
  go_wp2_with fail
  rw [zcY];generalize (w.alloc (.cells z32 127)).alloc (.cells z32 127)=W at *;refine ZF 22 9 3 5 (w.heap.size+1) 0 32 32 t (List.replicate 32 0) 127 Tryz.underlying22 (by kernel_rfl) x1 (by simp) ?_;intro w2 x2 g2;have y0:Box w2 w.heap.size z32 127:=(g2.block _ x0.lt (by simp)).trans x0;have b2:=b0.grown g2 b0.size (fun k hk=>by have:=Option.some.inj hk;omega);have x2':Box w2 (w.heap.size+1) (bytesV (secOf t).1).toArray 127:=x2;clear x2;have hz:z32.size=32:=rfl;go_wp2_with (first |((with_reducible refine yY rfl _ rfl (w.heap.size+1) ?_ (secOf t) _ x2' ?_);exact rfl) |((with_reducible refine ZQ rfl _ _ rfl w.heap.size (secOf t) ?_ ?_ _ _ y0 hz ?_);exact rfl;exact rfl;intro w3 x3 g3))
  refine bodyPost_ret (v:=(secOf t).v) ?_ rfl ⟨rfl,?_⟩
  · exact xD rfl _ _ _ _ _ rfl x3
  · exact b2.grown g3 b2.size (fun k hk=>by have:=Option.some.inj hk;omega)
theorem Yj(s:Sec)(w:World):
    Calls Tryz.prog 88 #[s.v] w fun e w'=>e=.returned (.string ⟨s.1.toArray⟩)∧Below w.heap.size w w':=by
  have hx:=Box.new w (bytesV s.1).toArray 127;have hc:∀ j (hj:j < s.1.length),(w.alloc (.cells (bytesV s.1).toArray 127)).cell? ((⟨w.heap.size,0,none⟩:Addr).add j)=some (.int .u8 ((s.1[j]).toNat:Int)):=by
    intro j hj;rw [Addr.add_lit,Nat.zero_add,hx.cell j (.int .u8 ((s.1[j]).toNat:Int)) (by simp [bytesV,hj])]
  have hrun:=run_convert_bytes_back (P:=Tryz.prog) (w.alloc (.cells (bytesV s.1).toArray 127)) 22 9 5 ⟨w.heap.size,0,none⟩ 32 s.1 Tryz.underlying22 Tryz.underlying5 Tryz.underlying9 hc;rw [s.2] at hrun;unfold Sec.v;go_enter Tryz.func88,Tryz.ntmps88
  go_wp2;go_ret;exact⟨rfl,(Below.refl _ _).alloc (Nat.le_refl _) _⟩
theorem qv{t:ByteArray}(h:t.size=32):(⟨(secL t).toArray⟩:ByteArray)=t:=by
  have hl:t.data.toList.length=32:=by rw [Array.length_toList];exact h
  have:secL t=t.data.toList:=by
    unfold secL splice;rw [List.take_of_length_le (l:=t.data.toList) (by omega),hl];simp
  rw [this]
theorem zae{t:ByteArray}(h:¬t.size=32):(⟨(secL t).toArray⟩:ByteArray)≠t:=by
  intro e;apply h;rw [←e];show(secL t).toArray.size=32
  rw [List.size_toArray,Zn]
theorem YB(a b:ByteArray):(a.toList==b.toList)=decide (a=b):=by
  by_cases h:a=b
  · subst h;simp
  · rw [decide_eq_false h]
    refine beq_eq_false_iff_ne.2 fun e=>h ?_;rw [Go.ByteArray.toList_eq,Go.ByteArray.toList_eq] at e;obtain⟨⟨x⟩⟩:=a;obtain⟨⟨y⟩⟩:=b;simp at e;rw [e]
theorem jB(t:ByteArray)(w:World):
    Calls Tryz.prog 59 #[.string t] w fun e w'=>e=.returned (.bool (decide (t.size=32)))∧Below w.heap.size w w':=by
  obtain⟨u,hu⟩:∃ u:ByteArray,(⟨(secOf t).1.toArray⟩:ByteArray)=u:=⟨_,rfl⟩;by_cases h:t.size=32
  · have e1:u=t:=by rw [←hu];exact qv h
    rw [decide_eq_true h];have HU:=hid hu;clear hu h;subst e1;go_enter Tryz.func59,Tryz.ntmps59
    go_wp2_with (first |(go_at_call 87;refine(ZI _ _).mono ?_;rintro e w1 ⟨rfl,b1⟩) |(go_at_call 88;refine(Yj _ _).mono ?_;rintro e w2 ⟨rfl,b2⟩;rw [HU.out]))
    go_ret;exact⟨rfl,b1.trans (b2.mono b1.size)⟩
  · have e1:(u.toList==t.toList)=false:=by rw [YB,decide_eq_false];rw [←hu];exact zae h
    rw [decide_eq_false h];have HU:=hid hu;clear hu h;go_enter Tryz.func59,Tryz.ntmps59
    go_wp2_with (first |(go_at_call 87;refine(ZI _ _).mono ?_;rintro e w1 ⟨rfl,b1⟩) |(go_at_call 88;refine(Yj _ _).mono ?_;rintro e w2 ⟨rfl,b2⟩;rw [HU.out]))
    go_ret;exact⟨rfl,b1.trans (b2.mono b1.size)⟩
theorem Ju (x:Wr) (n:Int) (w:World):
    Calls Tryz.prog 60 #[.agg #[.int .i64 x.at_,.string x.text],.int .i64 n] w fun e w'=>e=.returned (.bool (decide (0≤x.at_∧x.at_ < n∧x.text.size=32)))∧Below w.heap.size w w':=by
  obtain⟨a,t⟩:=x;simp only;obtain⟨u,hu⟩:∃ u:ByteArray,(⟨(secOf t).1.toArray⟩:ByteArray)=u:=⟨_,rfl⟩;have HE:Hid (u=t↔t.size=32):=⟨fun e=>by by_cases h:t.size=32;exact h;exact absurd (hu.trans e) (zae h),fun h=>by rw [←hu];exact qv h⟩;have HU:=hid hu;clear hu;have hx:=Box.new w #[.int .i64 a,.string t] 63;have b0:Below w.heap.size w (w.alloc (.cells #[.int .i64 a,.string t] 63)):=(Below.refl _ _).alloc (Nat.le_refl _) _;have c0:=hx.cell 0 _ rfl;have c1:=hx.cell 1 _ rfl;go_enter Tryz.func60,Tryz.ntmps60
  go_wp2;generalize (w.alloc (.cells #[.int .i64 a,.string t] 63))=W at *;have hlt:w.heap.size < W.heap.size:=hx.lt;have HK0:Hid (W.drew.cell? ⟨w.heap.size,0,none⟩=some (.int .i64 a)∧W.drew.cell? ⟨w.heap.size,1,none⟩=some (.string t)∧Below W.heap.size W W.drew):=⟨c0,c1,(Below.refl _ _).drew⟩;have HK1:Hid (∀(x y:World),(x.cell? ⟨w.heap.size,0,none⟩=some (.int .i64 a)∧x.cell? ⟨w.heap.size,1,none⟩=some (.string t)∧Below W.heap.size W x)→Below x.heap.size x y→(y.cell? ⟨w.heap.size,0,none⟩=some (.int .i64 a)∧y.cell? ⟨w.heap.size,1,none⟩=some (.string t)∧Below W.heap.size W y)):=
    fun x y h hb=>⟨(hb.cell (p:=⟨w.heap.size,0,none⟩) (World.block_lt_of_cell? _ _ h.1)).trans h.1,(hb.cell (p:=⟨w.heap.size,1,none⟩) (World.block_lt_of_cell? _ _ h.2.1)).trans h.2.1,h.2.2.trans (hb.mono h.2.2.size)⟩
  have HK2:Hid (∀(x:World) (g:Nat) (y z:Value),W.heap.size≤g→(x.cell? ⟨w.heap.size,0,none⟩=some (.int .i64 a)∧x.cell? ⟨w.heap.size,1,none⟩=some (.string t)∧Below W.heap.size W x)→(((x.setCell ⟨g,0,none⟩ y).setCell ⟨g,1,none⟩ z).cell? ⟨w.heap.size,0,none⟩=some (.int .i64 a)∧((x.setCell ⟨g,0,none⟩ y).setCell ⟨g,1,none⟩ z).cell? ⟨w.heap.size,1,none⟩=some (.string t)∧Below W.heap.size W ((x.setCell ⟨g,0,none⟩ y).setCell ⟨g,1,none⟩ z))):=by
    intro x g y z hg h;refine⟨?_,?_,(h.2.2.setCell (p:=⟨g,0,none⟩) hg y).setCell (p:=⟨g,1,none⟩) hg z⟩
    · rw [World.cell?_setCell_other _ _ _ _ (by simp <;> omega),World.cell?_setCell_other _ _ _ _ (by simp <;> omega)];exact h.1
    · rw [World.cell?_setCell_other _ _ _ _ (by simp <;> omega),World.cell?_setCell_other _ _ _ _ (by simp <;> omega)];exact h.2.1
  clear hx;go_region_held3 (fun x=>x.cell? ⟨w.heap.size,0,none⟩=some (.int .i64 a)∧x.cell? ⟨w.heap.size,1,none⟩=some (.string t)∧Below W.heap.size W x)
    (first | exact HK0.out | exact HK1.out _ _ (by assumption) ((Below.refl _ _).alloc (Nat.le_refl _) _) | exact HK1.out _ _ (by assumption) k1 | exact HK1.out _ _ (by assumption) k2 | exact HK1.out _ _ hS2.out ((Below.refl _ _).alloc (Nat.le_refl _) _) | exact HK1.out _ _ hS1.out ((Below.refl _ _).alloc (Nat.le_refl _) _) | exact HK2.out _ _ _ _ (Nat.le_refl _) (by assumption) | exact HK2.out _ _ _ _ s1 (by assumption) | exact HK2.out _ _ _ _ s2 (by assumption))
    (first
      |(go_at_call 87;refine(ZI _ _).mono ?_;rintro e w1 ⟨rfl,k1⟩;have hS1:=hid (HK1.out _ _ (by assumption) k1);have s1:W.heap.size≤w1.heap.size:=hS1.out.2.2.size;try (have q1:Box w1 W.heap.size #[.int .i64 0,.string ⟨#[]⟩] 63:=(show Box (W.alloc (.cells #[.int .i64 0,.string ⟨#[]⟩] 63)).drew W.heap.size #[.int .i64 0,.string ⟨#[]⟩] 63 from Box.new W _ _).later k1;have z0:=q1.cell 0 _ rfl;have z1:=q1.cell 1 _ rfl;have f0:=q1.loose 0;have f1:=q1.loose 1))
      |(go_at_call 88;refine(Yj _ _).mono ?_;rintro e w2 ⟨rfl,k2⟩;have hS2:=hid (HK1.out _ _ (by assumption) k2);have s2:W.heap.size≤w2.heap.size:=hS2.out.2.2.size;rw [HU.out];(first |(have q2:Box w2 w1.heap.size #[.int .i64 0,.string ⟨#[]⟩] 63:=(Box.new _ _ _).later k2;have z0:=q2.cell 0 _ rfl;have z1:=q2.cell 1 _ rfl;have f0:=q2.loose 0;have f1:=q2.loose 1) |(have q2:Box w2 W.heap.size #[.int .i64 0,.string ⟨#[]⟩] 63:=q1.later k2;have z0:=q2.cell 0 _ rfl;have z1:=q2.cell 1 _ rfl;have f0:=q2.loose 0;have f1:=q2.loose 1) | skip)))
  all_goals
    rename_i hHeld
    obtain⟨y0,y1,bX⟩:=hHeld
    have bF:=hid (b0.trans (bX.mono b0.size))
    clear bX HK0 HK1 HK2 c0 c1
    by_cases h32:t.size=32
    · have e1:(t.toList==u.toList)=true:=by rw [YB,decide_eq_true];exact(HE.out.2 h32).symm
      by_cases ha:0≤a
      · have g1:decide (a < n)=decide (0≤a∧a < n∧t.size=32):=by simp [ha,h32]
        have G1:=hid g1
        clear g1
        go_wp2
        go_ret
        exact⟨congrArg (fun b=>Ending.returned (.bool b)) G1.out,bF.out⟩
      · go_wp2
        go_ret;exact⟨by simp;omega,bF.out⟩
    · have e1:(t.toList==u.toList)=false:=by rw [YB,decide_eq_false];exact fun e=>h32 (HE.out.1 e.symm)
      have G1:=hid (show decide (0≤a∧a < n∧t.size=32)=false from decide_eq_false (fun h=>h32 h.2.2));go_wp2;go_ret;exact⟨congrArg (fun b=>Ending.returned (.bool b)) G1.out.symm,bF.out⟩
end Go.Proofs.YtklkhllkjnbhjaaGreatDoor
