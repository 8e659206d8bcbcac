/- Texts of our own, joined. -/
import Derived.DeepKeys4
import Derived.WalkArith
import Derived.Test.YtklkhllkjnbhjaaGreatDoorJox
import Derived.Lib.Small
import Derived.Laws.EntriesVeiled
import Derived.Test.YtklkhllkjnbhjaaGreatDoorJfx
/- How records lie in memory; two lists of records that are alike. -/
namespace Go.Proofs.YtklkhllkjnbhjaaGreatDoor
open Go.RowKit
open Lib (hid)
set_option maxRecDepth 100000
set_option maxHeartbeats 8000000

/- What records tell, gathered box by box, plainly. -/
structure Tb where
  named:Itm
  next:Int
  adds:Int→Option Itm
  flags:Int→Option Itm

/- What is gone is taken away, plainly. -/
open Classical

/- The boxes that are told are those that the records of each Valid tell, plainly. -/

/- What is needed, plainly: by the model's words, and by who tells each subject. -/

/- Structs as keys of maps: two texts; three numbers. -/
open Go.Maps (Keyed)

/- The closures of wantedByKind. -/

/- How the records of a box are gathered in memory; the latest of a mail. -/

/- The records of a box gathered: one record more. -/

/- The program's tellers: the place of who tells each subject; and the list of closures. -/

/- The list of closures. -/

/- Needed and NeededAll of the model. -/

/- NeededAll and Needed of the model. -/

/- What is needed is what tells its subject, and is wanted. -/

/- How mails lie in memory. -/

/- How boxes lie in memory: a row of boxes, each with a row of mails of its own. -/
structure BxH where
  valid:Int
  user:ByteArray
  name:ByteArray
  next:Int
  a:Option Addr
  n:Nat
  c:Nat

/- Boxes in memory of their own: what leaves them as they are. -/

/- What records tell: the model's numbers in their order. -/

/- What records tell: the model's mails of a box. -/

/- What records tell: the model's choice of what tells a box. -/

/- What records tell: the model's number of the next mail. -/

/- What records tell: the model's StateOf. -/
structure KS (w:World) (gs:Nat) (bo:Option Nat) (x:World):Prop where
  size:w.heap.size≤x.heap.size
  same:∀ g,g < w.heap.size→g≠gs→bo≠some g→x.heap[g]? =w.heap[g]?

/- What StateOf hands back. -/

/- The helpers of the exact laws over lists of mails: two alike are alike; each is marked, and the marks are held. -/

/- The marks of boxes, plainly. -/
def kB (k:Nat) (b:Bx):Nat:=k+4+3 * b.mails.length

/- The helpers of the exact laws over boxes and states: two alike are alike. -/

/- The helpers of the exact laws over boxes and states: each is marked, and the marks are held. -/

/- States: what the law on StateOf asks, given what the program's StateOf hands back. -/

/- What stays where its own block's cells stay, and where the blocks of boxes lie. -/

/- States held against each other, and right states, plainly. -/

/- States held against each other: the model's SameState. -/

/- NextsOf of either side: a RecBox of each box of which less, or nothing, is left. -/

/- NeededAll of the program. -/

/- Lists of items and of records compared: alike is alike; Needed of the program. -/
theorem qF:Tryz.prog.underlying 44=some (.struct (Tryz.prog.fieldsOf 44)):=by kernel_rfl
theorem xd:Tryz.prog.underlying 33=some (.struct (Tryz.prog.fieldsOf 33)):=by kernel_rfl
theorem YE(x:Rc)(w:World):(Op.equalIn 9999 33 (.agg #[.int .i64 x.kind,.int .i64 x.valid,.int .i64 x.uid,.int .i64 x.next,.int .i64 x.flags,.string x.user,.string x.name,.string x.text]) (.agg #[.int .i64 x.kind,.int .i64 x.valid,.int .i64 x.uid,.int .i64 x.next,.int .i64 x.flags,.string x.user,.string x.name,.string x.text])).run Tryz.prog w=.ok true w:=by
  rw [run_equalIn_agg _ 9998 _ _ _ xd (by kernel_rfl)];simp [go_sem,Op.eqFields,Tryz.underlying33,Program.fieldsOf]
theorem jH(x:Itm)(w:World):(binOp .neq 44 (.agg #[.int .i64 x.1,.int .i64 x.2.kind,.int .i64 x.2.valid,.int .i64 x.2.uid,.int .i64 x.2.next,.int .i64 x.2.flags,.string x.2.user,.string x.2.name,.string x.2.text]) (.agg #[.int .i64 x.1,.int .i64 x.2.kind,.int .i64 x.2.valid,.int .i64 x.2.uid,.int .i64 x.2.next,.int .i64 x.2.flags,.string x.2.user,.string x.2.name,.string x.2.text])).run Tryz.prog w=.ok (.bool false) w:=by
  have h:=YE x.2;have h1:(Op.equalIn 10000 44 (.agg #[.int .i64 x.1,.int .i64 x.2.kind,.int .i64 x.2.valid,.int .i64 x.2.uid,.int .i64 x.2.next,.int .i64 x.2.flags,.string x.2.user,.string x.2.name,.string x.2.text]) (.agg #[.int .i64 x.1,.int .i64 x.2.kind,.int .i64 x.2.valid,.int .i64 x.2.uid,.int .i64 x.2.next,.int .i64 x.2.flags,.string x.2.user,.string x.2.name,.string x.2.text])).run Tryz.prog w=.ok true w:=by
    rw [run_equalIn_agg _ 9999 _ _ _ qF (by kernel_rfl)];simp [go_sem,Op.eqFields,Tryz.underlying44,Program.fieldsOf,h]
  rw [run_neq_struct,h1];rfl
theorem vV(l:List Itm)(va vb:Value)(w:World)(ha:Rows' itE w va l)(hb:Rows' itE w vb l)(hl:l.length≤1099511627776):
    Calls Tryz.prog 15 #[va,vb] w fun e w'=>e=.returned (.bool true)∧Below w.heap.size w w':=by
  obtain⟨ad,cap,rfl,hrowa⟩:=ha.items;obtain⟨ad2,cap2,rfl,hrowb⟩:=hb.items;have HA:=hid hrowa;have HB:=hid hrowb;clear ha hb hrowa hrowb;go_enter Tryz.func15,Tryz.ntmps15
  go_wp2;go_loopw [5] (fun iv wr=>∃ i:Nat,i≤l.length∧iv=.int .i64 (i:Int)∧Below w.heap.size w wr) (fun iv _=>l.length -(intOf iv).toNat)
  case atStart=>exact⟨0,by omega,rfl,Below.refl _ _⟩
  case round=>
    obtain⟨i,hi,rfl,hbel⟩:=hrel;by_cases hlt:i < l.length
    · have hg:l[i]? =some l[i]:=List.getElem?_eq_getElem hlt
      obtain⟨ga,oa,rfl,a0,a1,a2,a3,a4,a5,a6,a7,a8⟩:=HA.out _ hbel i _ hg;obtain⟨gb,ob,rfl,b0,b1,b2,b3,b4,b5,b6,b7,b8⟩:=HB.out _ hbel i _ hg;generalize l[i]=x at *;have hi0:(0:Int)≤(i:Int):=(by omega);have hi1:(i:Int) <(l.length:Int):=(by omega);have hneq:=jH x;clear hg;go_wp2;go_quiet (fail)
      go_wp2;go_roundw
      case rel=>exact⟨i+1,by omega,by go_num,hbel.trans ⟨rfl,rfl,rfl,Nat.le_refl _,fun _ _=>rfl⟩⟩
      case measure=>simp [intOf];omega
    · go_wp2
      go_ret;exact⟨rfl,hbel⟩

/- Disks compared: laws.sameTexts and laws.sameDisk of what is alike. -/
theorem qD:Tryz.prog.underlying 63=some (.struct (Tryz.prog.fieldsOf 63)):=by kernel_rfl
theorem JU(n:Int)(s:ByteArray)(w:World):(Op.equalIn 10000 63 (.agg #[.int .i64 n,.string s]) (.agg #[.int .i64 n,.string s])).run Tryz.prog w=.ok true w:=by
  rw [run_equalIn_agg _ 9999 _ _ _ qD (by kernel_rfl)];simp [go_sem,Op.eqFields,Tryz.underlying63,Program.fieldsOf]
theorem VI(n:Int)(s:ByteArray)(w:World):(binOp .neq 63 (.agg #[.int .i64 n,.string s]) (.agg #[.int .i64 n,.string s])).run Tryz.prog w=.ok (.bool false) w:=by
  rw [run_neq_struct,JU];rfl
theorem vF (l:List ByteArray) (va vb:Value) (w:World) (ha:Strs w va l) (hb:Strs w vb l) (hl:l.length≤1099511627776):
    Calls Tryz.prog 30 #[va,vb] w fun e w'=>e=.returned (.bool true)∧Below w.heap.size w w':=by
  rcases ha.ways with⟨rfl,a,c,rfl⟩ |⟨hne,ga,ca,rfl,hca,hga,hcla⟩
  · rcases hb.ways with⟨_,b,d,rfl⟩ |⟨hne,_⟩
    · clear ha hb
      go_enter Tryz.func30,Tryz.ntmps30
      go_wp2;go_loop [5] (fun iv=>iv=.int .i64 0) (fun _=>0)
      case atStart=>rfl
      case round=>
        obtain rfl:=hrel;go_wp2;go_ret;exact⟨rfl,Below.refl _ _⟩
    · exact absurd rfl hne
  · rcases hb.ways with⟨e,_⟩ |⟨_,gb,cb,rfl,hcb,hgb,hclb⟩
    · exact absurd e hne
    · clear ha hb
      have HA:Hid (∀ j b,l[j]? =some b→w.cell? ⟨ga,j,none⟩=some (.string b)):=hcla;have HB:Hid (∀ j b,l[j]? =some b→w.cell? ⟨gb,j,none⟩=some (.string b)):=hclb;clear hcla hclb;go_enter Tryz.func30,Tryz.ntmps30
      go_wp2;go_loopw [5] (fun iv wr=>∃ i:Nat,i≤l.length∧iv=.int .i64 (i:Int)∧Below w.heap.size w wr) (fun iv _=>l.length -(intOf iv).toNat)
      case atStart=>exact⟨0,by omega,rfl,Below.refl _ _⟩
      case round=>
        obtain⟨i,hi,rfl,hbel⟩:=hrel;by_cases hlt:i < l.length
        · have hg:l[i]? =some l[i]:=List.getElem?_eq_getElem hlt
          have h1:=(hbel.cell (p:=⟨ga,i,none⟩) hga).trans (HA.out i _ hg);have h2:=(hbel.cell (p:=⟨gb,i,none⟩) hgb).trans (HB.out i _ hg);generalize l[i]=t at *;have hi0:(0:Int)≤(i:Int):=(by omega);have hi1:(i:Int) <(l.length:Int):=(by omega);clear hg;go_wp2;go_quiet (fail)
          go_wp2;go_roundw
          case rel=>exact⟨i+1,by omega,by go_num,below_drewN hbel _⟩
          case measure=>simp [intOf];omega
        · go_wp2
          go_ret;exact⟨rfl,hbel⟩
theorem VH(d:Dk)(v1 v2:Value)(w:World)(h1:DRd w v1 d)(h2:DRd w v2 d)(hs:d.small):
    Calls Tryz.prog 11 #[v1,v2] w fun e w'=>e=.returned (.bool true)∧Below w.heap.size w w':=by
  obtain⟨va,vb,rfl,ha,hb⟩:=h1;obtain⟨vc,vd,rfl,hc,hd⟩:=h2;obtain⟨s1,s2⟩:=hs;have b0:Below w.heap.size w ((w.alloc (.cells #[va,vb] 27)).alloc (.cells #[vc,vd] 27)):=((Below.refl _ _).alloc (Nat.le_refl _) _).alloc (by simp) _;have ha':=ha.later b0;have hc':=hc.later b0;have HB:Hid (∀ w',Below ((w.alloc (.cells #[va,vb] 27)).alloc (.cells #[vc,vd] 27)).heap.size ((w.alloc (.cells #[va,vb] 27)).alloc (.cells #[vc,vd] 27)) w'→
      Below w.heap.size w w'∧Rows' wrE w' vb d.cache∧Rows' wrE w' vd d.cache∧w'.cell? ⟨w.heap.size,1,none⟩=some vb∧w'.cell? ⟨w.heap.size+1,1,none⟩=some vd):=by
    intro w' h;have h':Below w.heap.size w w':=b0.trans (h.mono b0.size);refine⟨h',hb.later h',hd.later h',?_,?_⟩
    · exact V9 w #[va,vb] 27 (((Below.refl _ _).alloc (Nat.le_refl _) _).trans (h.mono (by simp))) 1 vb rfl
    · have:=V9 (w.alloc (.cells #[va,vb] 27)) #[vc,vd] 27 h 1 vd rfl
      simpa using this
  clear hb hd ha hc;go_enter Tryz.func11,Tryz.ntmps11
  go_wp2_with fail
  refine(vF d.sec va vc _ ha' hc' (by omega)).mono ?_;rintro e w1 ⟨rfl,hb1⟩;obtain⟨hb1',r1,r2,c1,c2⟩:=HB.out w1 hb1;obtain⟨ea,ec,rfl⟩:∃(a:Option Addr) (c:Nat),vb=.slice a d.cache.length c:=by
    rcases r1.ways with⟨e,a,c,rfl⟩ |⟨_,g,o,c,rfl,_⟩
    · exact⟨a,c,by rw [e];rfl⟩
    · exact⟨_,_,rfl⟩
  obtain⟨fa,fc,rfl⟩:∃(a:Option Addr) (c:Nat),vd=.slice a d.cache.length c:=by
    rcases r2.ways with⟨e,a,c,rfl⟩ |⟨_,g,o,c,rfl,_⟩
    · exact⟨a,c,by rw [e];rfl⟩
    · exact⟨_,_,rfl⟩
  have HW:Hid (∀ Y,Below w1.heap.size w1 Y→Below w.heap.size w Y∧Rows' wrE Y (.slice ea d.cache.length ec) d.cache∧Rows' wrE Y (.slice fa d.cache.length fc) d.cache∧Y.cell? ⟨w.heap.size,1,none⟩=some (.slice ea d.cache.length ec)∧Y.cell? ⟨w.heap.size+1,1,none⟩=some (.slice fa d.cache.length fc)):=fun Y hY=>HB.out Y (hb1.trans (hY.mono hb1.size));clear r1 r2 ha' hc';go_wp2;go_loopw [5] (fun iv wr=>∃ i:Nat,i≤d.cache.length∧iv=.int .i64 (i:Int)∧Below w1.heap.size w1 wr) (fun iv _=>d.cache.length -(intOf iv).toNat)
  case atStart=>exact⟨0,by omega,rfl,Below.refl _ _⟩
  case round=>
    obtain⟨i,hi,rfl,hbel⟩:=hrel;clear c1 c2;obtain⟨hbY,r1,r2,c1,c2⟩:=HW.out _ hbel;by_cases hlt:i < d.cache.length
    · obtain⟨ga,oa,rfl,hA⟩:=r1.at i hlt
      obtain⟨gb,ob,rfl,hB⟩:=r2.at i hlt;have a0:wr.cell? ⟨ga,oa+i * 2,none⟩=some (.int .i64 d.cache[i].at_):=hA wr (Below.refl _ _) 0 _ rfl;have a1:wr.cell? ⟨ga,oa+i * 2+1,none⟩=some (.string d.cache[i].text):=hA wr (Below.refl _ _) 1 _ rfl;have b0:wr.cell? ⟨gb,ob+i * 2,none⟩=some (.int .i64 d.cache[i].at_):=hB wr (Below.refl _ _) 0 _ rfl;have b1:wr.cell? ⟨gb,ob+i * 2+1,none⟩=some (.string d.cache[i].text):=hB wr (Below.refl _ _) 1 _ rfl;have hi0:(0:Int)≤(i:Int):=(by omega);have hi1:(i:Int) <(d.cache.length:Int):=(by omega);clear hA hB r1 r2;generalize d.cache[i].at_=n at *;generalize d.cache[i].text=s at *;have hneq:=VI n s;go_wp2;go_quiet (fail)
      go_wp2;go_roundw
      case rel=>exact⟨i+1,by omega,by go_num,hbel.trans ⟨rfl,rfl,rfl,Nat.le_refl _,fun _ _=>rfl⟩⟩
      case measure=>simp [intOf];omega
    · clear r1 r2
      go_wp2;go_ret;exact⟨rfl,hbY⟩
end Go.Proofs.YtklkhllkjnbhjaaGreatDoor
