/- Texts of our own, joined. -/
import Derived.Test.YtklkhllkjnbhjaaGreatDoorJs
/- What is fixed in a segment: (*Disk).fix and (*openLog).writeBehind of the program. -/
namespace Go.Proofs.YtklkhllkjnbhjaaGreatDoor
open Go.RowKit
open Lib (hid)
set_option maxRecDepth 100000
set_option maxHeartbeats 8000000
def FixR (O:Option Dk) (pg:Nat) (w:World) (e:Ending) (w':World):Prop:=
  (O=none∧e=.returned (.bool false)∧Below w.heap.size w w')∨
  ∃(d:Dk) (sa sb:Value) (y:World),O=some d∧e=.returned (.bool true)∧Below w.heap.size w y∧DOwn w.heap.size y.heap.size y (.agg #[sa,sb]) (flD d)∧w'=(y.setCell ⟨pg,0,none⟩ sa).setCell ⟨pg,1,none⟩ sb
theorem XA(d:Dk)(sa sb:Value)(pg s A:Nat)(t:ByteArray)(B T:Nat)(w:World)(c0:w.cell? ⟨pg,0,none⟩=some sa)(c1:w.cell? ⟨pg,1,none⟩=some sb)(f0:w.frozen? ⟨pg,0,none⟩=false)(f1:w.frozen? ⟨pg,1,none⟩=false)
    (hd:DOwn B T w (.agg #[sa,sb]) d) (hok:d.ok) (hs:s≤10) (hse:8+8 * s < d.sec.length) (hA:A≤256) (htz:t.size≤1000000):
    Calls Tryz.prog 104 #[.pointer (some ⟨pg,0,none⟩),.int .i64 (s:Int),.int .i64 (A:Int),.string t] w fun e w'=>FixR (sgW d s A t) pg w e w':=by
  obtain⟨hsm,hts,htu⟩:=Dk.ok_small hok;have HSW:=hid (JL d _ s A t B T w hd hsm hts htu (by have:=hok.2.2.1;omega) hs hse hA htz);have HOK:Hid (∀ D,sgW d s A t=some D→D.ok):=fun D h=>by
    unfold sgW at h
    split at h
    case isFalse=>cases h
    case isTrue=>exact(vq _ _ (Nat.le_refl _) d D _ _ (by omega) hok h).1
  obtain⟨aa,ab,ca,cb,hv⟩:=hd.form;simp only [Value.agg.injEq,Array.mk.injEq,List.cons.injEq,and_true] at hv;obtain⟨rfl,rfl⟩:=hv;have HCL:Hid (∀ x,Below w.heap.size w x→(x.cell? ⟨pg,0,none⟩=some (.slice aa d.sec.length ca)∧x.cell? ⟨pg,1,none⟩=some (.slice ab d.cache.length cb))∧x.frozen? ⟨pg,0,none⟩=false∧x.frozen? ⟨pg,1,none⟩=false):=fun x hx=>by
    have hp:=World.block_lt_of_cell? _ _ c0;exact⟨⟨(hx.cell (p:=⟨pg,0,none⟩) hp).trans c0,(hx.cell (p:=⟨pg,1,none⟩) hp).trans c1⟩,(hx.frozen (p:=⟨pg,0,none⟩) hp).trans f0,(hx.frozen (p:=⟨pg,1,none⟩) hp).trans f1⟩
  obtain⟨O,hO⟩:∃ O,sgW d s A t=O:=⟨_,rfl⟩;rw [hO] at HSW HOK ⊢;clear hO hd hsm hts htu f0 f1 hok hse;go_enter Tryz.func104,Tryz.ntmps104
  go_wp2_with fail
  clear c0 c1;refine HSW.out.mono ?_;clear HSW;rintro e w1 ⟨v1,rfl,o1,k1⟩;cases O with
  | none=>
    simp only [Option.getD_none,Option.isSome_none] at o1 ⊢;obtain⟨p1,p2,r1,r2,rfl⟩:=o1.form;have b1:=k1.trans ((zb w1 (.cells #[.slice p1 d.sec.length r1,.slice p2 d.cache.length r2] 27)).mono k1.size);clear o1 k1;go_wp2;go_ret;exact .inl ⟨rfl,rfl,b1⟩
  | some D=>
    simp only [Option.getD_some,Option.isSome_some] at o1 ⊢;have hDok:=HOK.out D rfl;obtain⟨hsD,htD,huD⟩:=Dk.ok_small hDok;obtain⟨p1,p2,r1,r2,rfl⟩:=o1.form;have k2:=zb w1 (.cells #[.slice p1 D.sec.length r1,.slice p2 D.cache.length r2] 27);have XB:=Box.new w1 #[.slice p1 D.sec.length r1,.slice p2 D.cache.length r2] 27;have j2:=k1.trans (k2.mono k1.size);have HFL:=hid (js D _ _ _ _ (o1.later k2) hsD (by have:=hDok.2.2.1;omega) htD huD);obtain⟨z0,z1⟩:_∧_:=⟨XB.cell 0 _ rfl,XB.cell 1 _ rfl⟩;clear o1 k1 k2 XB hDok hsD htD huD;go_upto_region 4 with fail
    generalize w1.alloc (.cells #[.slice p1 D.sec.length r1,.slice p2 D.cache.length r2] 27)=w2 at j2 HFL z0 z1 ⊢;go_wp2_with fail
    clear z0 z1;refine HFL.out.mono ?_;rintro e w3 ⟨v3,rfl,o3,k3⟩;clear HFL;have j3:=j2.trans (k3.mono j2.size);obtain⟨⟨x0,x1⟩,g0,g1⟩:=HCL.out _ j3;have HE:Hid (∀ sa sb,v3=.agg #[sa,sb]→FixR (some D) pg w (.returned (.bool true)) ((w3.setCell ⟨pg,0,none⟩ sa).setCell ⟨pg,1,none⟩ sb)):=fun sa sb h=>by
      subst h;exact .inr ⟨D,sa,sb,w3,rfl,rfl,j3,o3.base j2.size,rfl⟩
    generalize flD D=E at o3;obtain⟨q1,q2,s1,s2,rfl⟩:=o3.form;have HE2:=hid (HE.out _ _ rfl);clear o3 HE HCL;go_wp2;go_ret;exact HE2.out
theorem zR(w:World):Below w.heap.size w w.drew:=(Below.refl _ _).drew
def WbhR (O:Option Dk) (pg ps:Nat) (en:Int) (w:World) (e:Ending) (w':World):Prop:=
  (O=none∧e=.returned (.bool false)∧Below w.heap.size w w')∨
  ∃(d:Dk) (sa sb:Value) (y:World),O=some d∧e=.returned (.bool true)∧Below w.heap.size w y∧DOwn w.heap.size y.heap.size y (.agg #[sa,sb]) (flD d)∧w'=((y.setCell ⟨pg,0,none⟩ sa).setCell ⟨pg,1,none⟩ sb).setCell ⟨ps,2,none⟩ (.int .i64 en)
theorem JB (d:Dk) (sa sb:Value) (pg ps N A:Nat) (f:Fr) (B T:Nat) (w:World) (c0:w.cell? ⟨pg,0,none⟩=some sa) (c1:w.cell? ⟨pg,1,none⟩=some sb) (f0:w.frozen? ⟨pg,0,none⟩=false) (f1:w.frozen? ⟨pg,1,none⟩=false)
    (s0:w.cell? ⟨ps,0,none⟩=some (.int .i64 (N:Int))) (s2:w.cell? ⟨ps,2,none⟩=some (.int .i64 (A:Int))) (s3:w.frozen? ⟨ps,2,none⟩=false) (hne:ps≠pg)
    (hd:DOwn B T w (.agg #[sa,sb]) d) (hok:d.ok) (hs:N≤10) (hse:8+8 * N < d.sec.length) (hA:A≤256) (hf:f.ok) (ht:SumTab w):
    Calls Tryz.prog 74 #[.pointer (some ⟨pg,0,none⟩),.pointer (some ⟨ps,0,none⟩),f.v] w fun e w'=>WbhR (sgW d N A f.tx) pg ps ((A:Int) +(f.tx.size:Int)) w e w':=by
  have hbz:f.body.size≤1099511627776:=by have:=hf.2.2.2;omega
  have hpg:=World.block_lt_of_cell? _ _ c0;have hps:=World.block_lt_of_cell? _ _ s0;have b0:=zb w (.cells #[.int .i64 f.gen,.int .i64 f.seq,.string f.body] 107);have HFT:=hid (ZD f _ hbz (ht.later b0));rw [Zq hf] at HFT;have htz:f.tx.size≤196:=by
    obtain⟨t,b,h1,h2⟩:=jo f;rw [Zq hf] at h1;cases h1
    exact h2
  have HFI:=hid (fun(x:World) (hx:Below w.heap.size w x)=>XA d sa sb pg N A f.tx B T x ((hx.cell (p:=⟨pg,0,none⟩) hpg).trans c0) ((hx.cell (p:=⟨pg,1,none⟩) hpg).trans c1) ((hx.frozen (p:=⟨pg,0,none⟩) hpg).trans f0) ((hx.frozen (p:=⟨pg,1,none⟩) hpg).trans f1) (hd.later hx) hok hs hse hA (by omega));have HPS:Hid (∀ x,Below w.heap.size w x→(x.cell? ⟨ps,0,none⟩=some (.int .i64 (N:Int))∧x.cell? ⟨ps,2,none⟩=some (.int .i64 (A:Int)))∧x.frozen? ⟨ps,2,none⟩=false):=fun x hx=>⟨⟨(hx.cell (p:=⟨ps,0,none⟩) hps).trans s0,(hx.cell (p:=⟨ps,2,none⟩) hps).trans s2⟩,(hx.frozen (p:=⟨ps,2,none⟩) hps).trans s3⟩;have HPT:Hid (∀ x u v,Below w.heap.size w x→((x.setCell ⟨pg,0,none⟩ u).setCell ⟨pg,1,none⟩ v).cell? ⟨ps,0,none⟩=some (.int .i64 (N:Int))∧((x.setCell ⟨pg,0,none⟩ u).setCell ⟨pg,1,none⟩ v).cell? ⟨ps,2,none⟩=some (.int .i64 (A:Int))):=fun x u v hx=>by
    obtain⟨⟨a1,a2⟩,_⟩:=HPS.out x hx;refine⟨?_,?_⟩
    · rw [World.cell?_setCell_other _ _ _ _ (by simp <;> omega),World.cell?_setCell_other _ _ _ _ (by simp <;> omega)];exact a1
    · rw [World.cell?_setCell_other _ _ _ _ (by simp <;> omega),World.cell?_setCell_other _ _ _ _ (by simp <;> omega)];exact a2
  have HPF:Hid (∀ x u v,Below w.heap.size w x→((x.setCell ⟨pg,0,none⟩ u).setCell ⟨pg,1,none⟩ v).frozen? ⟨ps,2,none⟩=false):=fun x u v hx=>by
    have g9:x.grownBy ((x.setCell ⟨pg,0,none⟩ u).setCell ⟨pg,1,none⟩ v) (some pg):=zj (za x pg 0 u) 1 v;have h9:=g9.block ps (Nat.lt_of_lt_of_le hps hx.size) (fun e=>hne (Option.some.inj e));exact(World.frozen?_of_block (w:=x) (a:=⟨ps,2,none⟩) h9).trans (HPS.out x hx).2
  have hw1:IntKind.i64.wrap ((A:Int) +(f.tx.size:Int))=(A:Int) +(f.tx.size:Int):=IntWalk.i64_in _ ⟨by omega,by omega⟩;have e0:f.v=.agg #[.int .i64 f.gen,.int .i64 f.seq,.string f.body]:=rfl;rw [e0];rw [e0] at HFT;generalize f.tx=tx at HFT HFI htz hw1 ⊢;clear hd ht hbz c0 c1 f0 f1 s0 s2 s3 hok hf hpg hps hse e0;cases hO:sgW d N A tx with
  | none=>
    have HFX:Hid (∀ x,Below w.heap.size w x→Calls Tryz.prog 104 #[.pointer (some ⟨pg,0,none⟩),.int .i64 (N:Int),.int .i64 (A:Int),.string tx] x fun e w'=>e=.returned (.bool false)∧Below x.heap.size x w'):=fun x hx=>by
      refine(HFI.out x hx).mono ?_;rw [hO];rintro e w' (⟨_,h2⟩ |⟨D',sa,sb,y,h,h2⟩)
      · exact h2
      · cases h
    clear HFI hO;go_enter Tryz.func74,Tryz.ntmps74
    go_wp2_with fail
    generalize w.alloc (.cells #[.int .i64 f.gen,.int .i64 f.seq,.string f.body] 107)=W at HFT b0 ⊢;refine HFT.out.mono ?_;rintro e w1 ⟨rfl,k1⟩;have b1:=b0.trans (k1.mono b0.size);have HB1:=hid b1;have HK0:Hid (w1.drew.cell? ⟨ps,0,none⟩=some (.int .i64 (N:Int))∧w1.drew.cell? ⟨ps,2,none⟩=some (.int .i64 (A:Int))):=(HPS.out _ b1).1;clear b0 k1 HFT b1;go_upto_region 2 with fail
    go_cut [31] (fun c wx=>c=.bool true∧Below w1.heap.size w1 wx)
    case first=>
      go_region_held3 (fun x=>x.cell? ⟨ps,0,none⟩=some (.int .i64 (N:Int))∧x.cell? ⟨ps,2,none⟩=some (.int .i64 (A:Int)))
        (first | exact HK0.out | exact HSS.out)
        (first |(go_at_call 104;refine(HFX.out _ (HB1.out.trans ((zR w1).mono HB1.out.size))).mono ?_;rintro e wR ⟨rfl,kR⟩;have kR1:=hid ((zR w1).trans kR);have HSS:=hid (HPS.out wR (HB1.out.trans (kR1.out.mono HB1.out.size))).1))
      all_goals
        go_wp2_with fail
        go_meet
        exact⟨rfl,kR1.out⟩
    case rest=>
    obtain⟨rfl,kR⟩:=hcut;have HE:Hid (WbhR none pg ps ((A:Int) +(tx.size:Int)) w (.returned (.bool false)) wc):=.inl ⟨rfl,rfl,HB1.out.trans (kR.mono HB1.out.size)⟩;clear HFX HPS HPT HPF kR HK0 HB1;go_wp2;go_ret;exact HE.out
  | some D=>
    have HFX:Hid (∀ x,Below w.heap.size w x→Calls Tryz.prog 104 #[.pointer (some ⟨pg,0,none⟩),.int .i64 (N:Int),.int .i64 (A:Int),.string tx] x fun e w'=>∃(sa sb:Value) (y:World),e=.returned (.bool true)∧Below x.heap.size x y∧DOwn x.heap.size y.heap.size y (.agg #[sa,sb]) (flD D)∧w'=(y.setCell ⟨pg,0,none⟩ sa).setCell ⟨pg,1,none⟩ sb):=fun x hx=>by
      refine(HFI.out x hx).mono ?_;rw [hO];rintro e w' (⟨h,_⟩ |⟨D',sa,sb,y,h,h2⟩)
      · cases h
      · cases h;exact⟨sa,sb,y,h2⟩
    clear HFI hO;go_enter Tryz.func74,Tryz.ntmps74
    go_wp2_with fail
    generalize w.alloc (.cells #[.int .i64 f.gen,.int .i64 f.seq,.string f.body] 107)=W at HFT b0 ⊢;refine HFT.out.mono ?_;rintro e w1 ⟨rfl,k1⟩;have b1:=b0.trans (k1.mono b0.size);have HB1:=hid b1;have HK0:Hid (w1.drew.cell? ⟨ps,0,none⟩=some (.int .i64 (N:Int))∧w1.drew.cell? ⟨ps,2,none⟩=some (.int .i64 (A:Int))):=(HPS.out _ b1).1;clear b0 k1 HFT b1;go_upto_region 2 with fail
    go_cut [31] (fun c wx=>c=.bool false∧∃(sa sb:Value) (y:World),Below w1.heap.size w1 y∧DOwn w1.heap.size y.heap.size y (.agg #[sa,sb]) (flD D)∧wx=(y.setCell ⟨pg,0,none⟩ sa).setCell ⟨pg,1,none⟩ sb)
    case first=>
      go_region_held3 (fun x=>x.cell? ⟨ps,0,none⟩=some (.int .i64 (N:Int))∧x.cell? ⟨ps,2,none⟩=some (.int .i64 (A:Int)))
        (first | exact HK0.out | exact HSS.out)
        (first |(go_at_call 104;refine(HFX.out _ (HB1.out.trans ((zR w1).mono HB1.out.size))).mono ?_;rintro e wR ⟨sa',sb',y,rfl,ky,oy,rfl⟩;have ky1:=hid ((zR w1).trans ky);have HSS:=hid (HPT.out y sa' sb' (HB1.out.trans (ky1.out.mono HB1.out.size)))))
      all_goals
        go_wp2_with fail
        go_meet
        exact⟨rfl,sa',sb',y,ky1.out,oy,rfl⟩
    case rest=>
    obtain⟨rfl,sa',sb',y,ky,oy,rfl⟩:=hcut;have jy:=HB1.out.trans (ky.mono HB1.out.size);obtain⟨c0',c2'⟩:=HPT.out y sa' sb' jy;have f2':=(HPF.out y sa' sb' jy);have HE:Hid (WbhR (some D) pg ps ((A:Int) +(tx.size:Int)) w (.returned (.bool true)) ((((y.setCell ⟨pg,0,none⟩ sa').setCell ⟨pg,1,none⟩ sb')).setCell ⟨ps,2,none⟩ (.int .i64 ((A:Int) +(tx.size:Int))))):=.inr ⟨D,sa',sb',y,rfl,rfl,jy,oy.base HB1.out.size,rfl⟩;clear HFX HPS HPT HPF ky oy jy HK0 HB1;go_wp2;go_ret;exact HE.out
end Go.Proofs.YtklkhllkjnbhjaaGreatDoor
