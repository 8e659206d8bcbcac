/- Texts of our own, joined. -/
import Derived.Test.YtklkhllkjnbhjaaGreatDoorJix
import Derived.Lib.AppendStr
/- Records: what the program's RecOk hands back. -/
namespace Go.Proofs.YtklkhllkjnbhjaaGreatDoor
open Go.RowKit
open Lib (hid)
set_option maxRecDepth 100000
set_option maxHeartbeats 8000000
theorem zck{α:Type}(F:Bool→α)(a0 a1 a2 a3 a4:Int)(a5 a6 a7:ByteArray)(b0 b1 b2 b3 b4:Int)(b5 b6 b7:ByteArray):
    (if a0=b0 then if a1=b1 then if a2=b2 then if a3=b3 then if a4=b4 then if a5.toList=b5.toList then if a6.toList=b6.toList then if a7.toList=b7.toList then F true else F false else F false else F false else F false else F false else F false else F false else F false)=F (decide ((⟨a0,a1,a2,a3,a4,a5,a6,a7⟩:Rc)=⟨b0,b1,b2,b3,b4,b5,b6,b7⟩)):=by
  have e:decide ((⟨a0,a1,a2,a3,a4,a5,a6,a7⟩:Rc)=⟨b0,b1,b2,b3,b4,b5,b6,b7⟩)=(decide (a0=b0) &&(decide (a1=b1) &&(decide (a2=b2) &&(decide (a3=b3) &&(decide (a4=b4) &&(decide (a5=b5) &&(decide (a6=b6) && decide (a7=b7)))))))):=by
    simp
  rw [e];simp only [zc9];by_cases h0:a0=b0 <;> by_cases h1:a1=b1 <;> by_cases h2:a2=b2 <;> by_cases h3:a3=b3 <;> by_cases h4:a4=b4 <;> by_cases h5:a5=b5 <;> by_cases h6:a6=b6 <;> by_cases h7:a7=b7 <;> simp only [h0,h1,h2,h3,h4,h5,h6,h7,if_true,if_false,decide_true,decide_false,Bool.and_true,Bool.and_false]
theorem xz (v n : Int) (u m : ByteArray) (k : Nat) (w : World) (hk : 1 ≤ k) : (method k 160 (.agg #[.int .i64 v, .int .i64 n, .string u, .string m]) "loop.example/g00287/impl.right").run Tryz.prog w = .ok (185, .agg #[.int .i64 v, .int .i64 n, .string u, .string m]) w := by
  obtain⟨j,rfl⟩:∃ j,k=j+1:=⟨k - 1,by omega⟩;kernel_rfl
theorem xe (v : Int) (k : Nat) (w : World) (hk : 1 ≤ k) : (method k 162 (.agg #[.int .i64 v]) "loop.example/g00287/impl.right").run Tryz.prog w = .ok (189, .agg #[.int .i64 v]) w := by
  obtain⟨j,rfl⟩:∃ j,k=j+1:=⟨k - 1,by omega⟩;kernel_rfl
theorem xL (v u f : Int) (t : ByteArray) (k : Nat) (w : World) (hk : 1 ≤ k) : (method k 164 (.agg #[.int .i64 v, .int .i64 u, .int .i64 f, .string t]) "loop.example/g00287/impl.right").run Tryz.prog w = .ok (190, .agg #[.int .i64 v, .int .i64 u, .int .i64 f, .string t]) w := by
  obtain⟨j,rfl⟩:∃ j,k=j+1:=⟨k - 1,by omega⟩;kernel_rfl
theorem QJ (v u f : Int) (k : Nat) (w : World) (hk : 1 ≤ k) : (method k 166 (.agg #[.int .i64 v, .int .i64 u, .int .i64 f]) "loop.example/g00287/impl.right").run Tryz.prog w = .ok (192, .agg #[.int .i64 v, .int .i64 u, .int .i64 f]) w := by
  obtain⟨j,rfl⟩:∃ j,k=j+1:=⟨k - 1,by omega⟩;kernel_rfl
theorem QI (v u : Int) (k : Nat) (w : World) (hk : 1 ≤ k) : (method k 168 (.agg #[.int .i64 v, .int .i64 u]) "loop.example/g00287/impl.right").run Tryz.prog w = .ok (193, .agg #[.int .i64 v, .int .i64 u]) w := by
  obtain⟨j,rfl⟩:∃ j,k=j+1:=⟨k - 1,by omega⟩;kernel_rfl
theorem Yn(r s:Rc)(T:TypeId)(x:Value)(K:Nat)(q:Bool)(w:World)
    (hRO:∀ wx,Calls Tryz.prog 95 #[r.v] wx fun e w'=>e=.returned (.tuple #[.iface T x,.bool true])∧Below wx.heap.size wx w')
    (hM : ∀ k wx, 1 ≤ k → (method k T x "loop.example/g00287/impl.right").run Tryz.prog wx = .ok (K, x) wx)
    (hC:∀ wx,(callFunc K #[x]).run Tryz.prog wx=.ok (.enter K #[x]) wx)
    (hR:∀ wx,Calls Tryz.prog K #[x] wx fun e w'=>e=.returned (.bool q)∧Below wx.heap.size wx w')
    (hB:∀ wx,Calls Tryz.prog 96 #[.iface T x] wx fun e w'=>e=.returned s.v∧Below wx.heap.size wx w'):
    Calls Tryz.prog 65 #[r.v] w fun e w'=>e=.returned (.bool (q && decide (s=r)))∧Below w.heap.size w w':=by
  have bx:=Box.new w r.cs 33;have b0:Below w.heap.size w (w.alloc (.cells r.cs 33)):=(Below.refl _ _).alloc (Nat.le_refl _) _;obtain⟨c0,c1,c2,c3,c4,c5,c6,c7⟩:=bx.rec;have BX:=hid bx;clear bx;obtain⟨kind,valid,uid,next,flags,user,name,text⟩:=r;obtain⟨d,hd⟩:∃ d,decide (s=⟨kind,valid,uid,next,flags,user,name,text⟩)=d:=⟨_,rfl⟩;rw [hd];have HD:=hid hd;clear hd;obtain⟨sk,sv,su,sn,sf,s5,s6,s7⟩:=s;unfold Rc.v at hB;simp only at hB;unfold Rc.v at hRO ⊢;unfold Rc.cs at *;simp only at *;have HRO:=hid hRO;have HR:=hid hR;have HB:=hid hB;clear hRO hR hB;go_enter Tryz.func65,Tryz.ntmps65
  go_wp2_with fail
  generalize w.alloc (.cells #[.int .i64 kind,.int .i64 valid,.int .i64 uid,.int .i64 next,.int .i64 flags,.string user,.string name,.string text] 33)=W at *;refine(HRO.out _).mono ?_;rintro e w1 ⟨rfl,k1⟩;have b1:=b0.trans (k1.mono b0.size);have BX1:=BX.out.later k1;clear c0 c1 c2 c3 c4 c5 c6 c7;go_wp2_with fail
  have r0:∀ x,Below w1.heap.size w1 x→x.cell? ⟨w.heap.size,0,none⟩=some (.int .i64 kind):=fun x hb=>(BX1.later hb).cell 0 _ rfl;have r1:∀ x,Below w1.heap.size w1 x→x.cell? ⟨w.heap.size,1,none⟩=some (.int .i64 valid):=fun x hb=>(BX1.later hb).cell 1 _ rfl;have r2:∀ x,Below w1.heap.size w1 x→x.cell? ⟨w.heap.size,2,none⟩=some (.int .i64 uid):=fun x hb=>(BX1.later hb).cell 2 _ rfl;have r3:∀ x,Below w1.heap.size w1 x→x.cell? ⟨w.heap.size,3,none⟩=some (.int .i64 next):=fun x hb=>(BX1.later hb).cell 3 _ rfl;have r4:∀ x,Below w1.heap.size w1 x→x.cell? ⟨w.heap.size,4,none⟩=some (.int .i64 flags):=fun x hb=>(BX1.later hb).cell 4 _ rfl;have r5:∀ x,Below w1.heap.size w1 x→x.cell? ⟨w.heap.size,5,none⟩=some (.string user):=fun x hb=>(BX1.later hb).cell 5 _ rfl;have r6:∀ x,Below w1.heap.size w1 x→x.cell? ⟨w.heap.size,6,none⟩=some (.string name):=fun x hb=>(BX1.later hb).cell 6 _ rfl;have r7:∀ x,Below w1.heap.size w1 x→x.cell? ⟨w.heap.size,7,none⟩=some (.string text):=fun x hb=>(BX1.later hb).cell 7 _ rfl;have HK0:Hid (Below w1.heap.size w1 w1.drew):=(Below.refl _ _).drew;clear BX1 BX k1;refine wp_region_held_drew (S:=fun x=>Below w1.heap.size w1 x) (by kernel_rfl) HK0.out (fun hHeld=>?_);clear HK0;cases q with
  | false=>
    refine tk 0 (.bool true) ?_;refine tk 1 (.bool true) ?_;refine tk 2 (.iface T x) ?_;refine ro 3 (fun K' hK=>?_);go_simp;refine(HR.out _).mono ?_;rintro e wT ⟨rfl,kT⟩;go_wp2_with fail
    refine hK.out _ _ (zr hHeld kT) (fun hS2=>?_);clear hK K' kT hHeld;have hHeld:=hS2;clear hS2;(try simp only [pu1,pu3,pu4,pu5]);refine tk 4 (.bool false) ?_;refine tk 5 (.bool false) ?_;refine tu 6 ?_;refine tu 7 ?_;refine tu 8 ?_;refine tu 9 ?_;refine tk 10 (.bool false) ?_;refine tk 11 (.bool false) ?_;refine wpAnyH_done (by kernel_rfl) ?_ _;go_wp2;go_ret;exact⟨rfl,b1.trans (hHeld.mono b1.size)⟩
  | true=>
    refine tk 0 (.bool true) ?_;refine tk 1 (.bool true) ?_;refine tk 2 (.iface T x) ?_;refine ro 3 (fun K' hK=>?_);go_simp;refine(HR.out _).mono ?_;rintro e wT ⟨rfl,kT⟩;go_wp2_with fail
    refine hK.out _ _ (zr hHeld kT) (fun hS2=>?_);clear hK K' kT hHeld;have hHeld:=hS2;clear hS2;(try simp only [pu1,pu3,pu4,pu5]);refine tk 4 (.bool true) ?_;refine tk 5 (.bool true) ?_;refine tk 6 (.iface T x) ?_;refine tk 8 (.agg #[.int .i64 kind,.int .i64 valid,.int .i64 uid,.int .i64 next,.int .i64 flags,.string user,.string name,.string text]) ?_ (hr:=fun x hSx=>by have q0:=r0 x hSx;have q1:=r1 x hSx;have q2:=r2 x hSx;have q3:=r3 x hSx;have q4:=r4 x hSx;have q5:=r5 x hSx;have q6:=r6 x hSx;have q7:=r7 x hSx;go_simp);refine ro 7 (fun K' hK=>?_);go_simp;refine(HB.out _).mono ?_;rintro e wT ⟨rfl,kT⟩;go_wp2_with fail
    refine hK.out _ _ (zr hHeld kT) (fun hS2=>?_);clear hK K' kT hHeld;have hHeld:=hS2;clear hS2;(try simp only [pu1,pu3,pu4,pu5]);refine tk 9 (.bool d) ?_ (hr:=fun x hSx=>by go_simp;rw [←HD.out];exact zck (fun b=>Result.ok (Next.value (Value.bool b)) x) _ _ _ _ _ _ _ _ _ _ _ _ _ _ _ _);refine tk 10 (.bool d) ?_;refine tk 11 (.bool d) ?_;refine wpAnyH_done (by kernel_rfl) ?_ _;go_wp2;go_ret;exact⟨rfl,b1.trans (hHeld.mono b1.size)⟩
theorem zbF(r:Rc)(w:World)(hk:¬(1≤r.kind∧r.kind≤5)):
    Calls Tryz.prog 65 #[r.v] w fun e w'=>e=.returned (.bool false)∧Below w.heap.size w w':=by
  have bx:=Box.new w r.cs 33;have b0:Below w.heap.size w (w.alloc (.cells r.cs 33)):=(Below.refl _ _).alloc (Nat.le_refl _) _;obtain⟨c0,c1,c2,c3,c4,c5,c6,c7⟩:=bx.rec;have hRO:=fun wx=>xa r wx hk;clear bx hk;obtain⟨kind,valid,uid,next,flags,user,name,text⟩:=r;unfold Rc.v at hRO ⊢;unfold Rc.cs at *;simp only at *;have HRO:=hid hRO;clear hRO;go_enter Tryz.func65,Tryz.ntmps65
  go_wp2_with fail
  generalize w.alloc (.cells #[.int .i64 kind,.int .i64 valid,.int .i64 uid,.int .i64 next,.int .i64 flags,.string user,.string name,.string text] 33)=W at *;refine(HRO.out _).mono ?_;rintro e w1 ⟨rfl,k1⟩;have b1:=b0.trans (k1.mono b0.size);clear c0 c1 c2 c3 c4 c5 c6 c7;go_wp2_with fail
  refine wp_region_held_drew (S:=fun x=>Below w1.heap.size w1 x) (by kernel_rfl) ((Below.refl _ _).drew) (fun hHeld=>?_);refine tk 0 (.bool false) ?_;refine tk 1 (.bool false) ?_;refine tu 2 ?_;refine tu 3 ?_;refine tk 4 (.bool false) ?_;refine tk 5 (.bool false) ?_;refine tu 6 ?_;refine tu 7 ?_;refine tu 8 ?_;refine tu 9 ?_;refine tk 10 (.bool false) ?_;refine tk 11 (.bool false) ?_;refine wpAnyH_done (by kernel_rfl) ?_ _;go_wp2;go_ret;exact⟨rfl,b1.trans (hHeld.mono b1.size)⟩
theorem zdp{r:Rc}(hk:r.kind=1):decide r.ok=(decide (bxP r.valid r.next r.user r.name) && decide ((⟨1,r.valid,0,r.next,0,r.user,r.name,emp⟩:Rc)=r)):=by
  rw [←Bool.decide_and];apply decide_eq_decide.2;obtain⟨kind,valid,uid,next,flags,user,name,text⟩:=r;simp only at hk;subst hk;simp only [Rc.ok,bxP,Rc.mk.injEq];constructor
  · rintro⟨_,h2,h3,h4,h5,h6⟩
    simp at h3 h4 h5 h6;simp [h2,h3,h4,h5,h6]
  · rintro⟨⟨h1,h2,h3,h4⟩,_,_,h5,_,h6,_,_,h7⟩
    simp [←h5,←h6,←h7,h1,h2,h3,h4]
theorem zdn{r:Rc}(hk:r.kind=2):decide r.ok=(decide (1≤r.valid∧r.valid≤9999) && decide ((⟨2,r.valid,0,0,0,emp,emp,emp⟩:Rc)=r)):=by
  rw [←Bool.decide_and];apply decide_eq_decide.2;obtain⟨kind,valid,uid,next,flags,user,name,text⟩:=r;simp only at hk;subst hk;simp only [Rc.ok,Rc.mk.injEq];constructor
  · rintro⟨_,h2,h3,h4,h5,h6⟩
    simp at h3 h4 h5 h6;simp [h2,h3,h4,h5,h6]
  · rintro⟨h1,_,_,h2,h3,h4,h5,h6,h7⟩
    simp [←h2,←h3,←h4,←h5,←h6,←h7,h1]
theorem zdl{r:Rc}(hk:r.kind=3):decide r.ok=(decide (adP r.valid r.uid r.flags r.text) && decide ((⟨3,r.valid,r.uid,0,r.flags,emp,emp,r.text⟩:Rc)=r)):=by
  rw [←Bool.decide_and];apply decide_eq_decide.2;obtain⟨kind,valid,uid,next,flags,user,name,text⟩:=r;simp only at hk;subst hk;simp only [Rc.ok,adP,Rc.mk.injEq];constructor
  · rintro⟨_,h2,h3,h4,h5,h6⟩
    simp at h3 h4 h5 h6;simp [h2,h3,h4,h5,h6]
  · rintro⟨⟨h1,h2,h3,h4⟩,_,_,_,h5,_,h6,h7,_⟩
    simp [←h5,←h6,←h7,h1,h2,h3,h4]
theorem zdq{r:Rc}(hk:r.kind=4):decide r.ok=(decide (flP r.valid r.uid r.flags) && decide ((⟨4,r.valid,r.uid,0,r.flags,emp,emp,emp⟩:Rc)=r)):=by
  rw [←Bool.decide_and];apply decide_eq_decide.2;obtain⟨kind,valid,uid,next,flags,user,name,text⟩:=r;simp only at hk;subst hk;simp only [Rc.ok,flP,Rc.mk.injEq];constructor
  · rintro⟨_,h2,h3,h4,h5,h6⟩
    simp at h3 h4 h5 h6;simp [h2,h3,h4,h5,h6]
  · rintro⟨⟨h1,h2,h3⟩,_,_,_,h5,_,h6,h7,h8⟩
    simp [←h5,←h6,←h7,←h8,h1,h2,h3]
theorem zdo{r:Rc}(hk:r.kind=5):decide r.ok=(decide (goP r.valid r.uid) && decide ((⟨5,r.valid,r.uid,0,0,emp,emp,emp⟩:Rc)=r)):=by
  rw [←Bool.decide_and];apply decide_eq_decide.2;obtain⟨kind,valid,uid,next,flags,user,name,text⟩:=r;simp only at hk;subst hk;simp only [Rc.ok,goP,Rc.mk.injEq];constructor
  · rintro⟨_,h2,h3,h4,h5,h6⟩
    simp at h3 h4 h5 h6;simp [h2,h3,h4,h5,h6]
  · rintro⟨⟨h1,h2⟩,_,_,_,h4,h5,h6,h7,h8⟩
    simp [←h4,←h5,←h6,←h7,←h8,h1,h2]
theorem YQ(r:Rc)(w:World):
    Calls Tryz.prog 65 #[r.v] w fun e w'=>e=.returned (.bool (decide r.ok))∧Below w.heap.size w w':=by
  by_cases h1:r.kind=1
  · rw [zdp h1]
    exact Yn r _ _ _ _ _ w (fun wx=>xR r wx h1) (fun k wx hk=>xz _ _ _ _ k wx hk) (fun wx=>by kernel_rfl) (fun wx=>qy _ _ _ _ wx) (fun wx=>zb5 _ _ _ _ wx)
  by_cases h2:r.kind=2
  · rw [zdn h2]
    exact Yn r _ _ _ _ _ w (fun wx=>xT r wx h2) (fun k wx hk=>xe _ k wx hk) (fun wx=>by kernel_rfl) (fun wx=>VX _ wx) (fun wx=>zb6 _ wx)
  by_cases h3:r.kind=3
  · rw [zdl h3]
    exact Yn r _ _ _ _ _ w (fun wx=>xG r wx h3) (fun k wx hk=>xL _ _ _ _ k wx hk) (fun wx=>by kernel_rfl) (fun wx=>qm _ _ _ _ wx) (fun wx=>zcz _ _ _ _ wx)
  by_cases h4:r.kind=4
  · rw [zdq h4]
    exact Yn r _ _ _ _ _ w (fun wx=>xV r wx h4) (fun k wx hk=>QJ _ _ _ k wx hk) (fun wx=>by kernel_rfl) (fun wx=>VK _ _ _ wx) (fun wx=>zci _ _ _ wx)
  by_cases h5:r.kind=5
  · rw [zdo h5]
    exact Yn r _ _ _ _ _ w (fun wx=>Xp r wx h5) (fun k wx hk=>QI _ _ k wx hk) (fun wx=>by kernel_rfl) (fun wx=>VS _ _ wx) (fun wx=>zcw _ _ wx)
  have hk:¬(1≤r.kind∧r.kind≤5):=by omega
  rw [decide_eq_false (fun h:r.ok=>hk h.1)];exact zbF r w hk

/- Records: what the program's RecText hands back. -/
theorem Buf.later{B:Nat}{w0 w w':World}{v:Value}{l:List UInt8}(h:Buf B w0 w v l)(hb:Below w.heap.size w w'):Buf B w0 w' v l:=by
  have hg:w.grownBy w' none:=⟨hb.os,hb.tape,hb.output,hb.size,fun k hk _=>hb.block k hk⟩;refine⟨h.own.kept hg ?_,h.bel.trans (hb.mono h.le),Nat.le_trans h.le hb.size⟩;cases hv:v.ownBlock with
  | none=>exact .inl rfl
  | some k=>exact .inr (by simp)
theorem Buf.one(w:World)(x:Int)(b:UInt8)(h:x=(b.toNat:Int)):Buf w.heap.size w (w.alloc (.cells #[.int .u8 x] 5)) (.slice (some ⟨w.heap.size,0,none⟩) 1 1) [b]:=by
  subst h;refine⟨?_,(Below.refl _ _).alloc (Nat.le_refl _) _,by simp⟩;have:=World.ownsRow_lit (base:=w.heap.size) (e:=5) (size:=1) w #[.int .u8 (b.toNat:Int)] 1 (Nat.le_refl _) (by decide) (by simp);simpa [bytesV] using this
theorem Z9{w0 w:World}{ops:Array Oper}{rest:List Oper}{o:Oper}{a:Act}{Q:Exit→Act→World→Prop}(hgd:o.guard=none)(s x:Operand)
    (ho:o.op=.call {callee:=.builtin .append,args:=#[s,x],argTypes:=#[22,9]})
    (B:Nat) (v:Value) (l:List UInt8) (hs:a.eval s=v) (hb:Buf B w0 w v l) (t:ByteArray) (hx:a.eval x=.string t)
    (hlen:l.length+t.size≤140737488355328)
    (h:∀ v' w',Buf B w0 w' v' (l++t.data.toList)→wpList Tryz.prog ops Q rest (a.put o.dst v') w'):wpList Tryz.prog ops Q (o::rest) a w:=by
  obtain⟨i0,hi,hz0,hz1,hz2⟩:=info_parts Tryz.info_u8;refine Lib.wpList_append_own_string (P:=Tryz.prog) w hgd s x 22 9 ho B 5 i0 Tryz.underlying22 Tryz.underlying9 hi hz0 hz1 hz2 v l.length (bytesV l) hs hb.own t hx (by unfold maxLen;omega) hlen hb.le ?_;intro v' w' hown hgrow _;refine h v' w' ⟨?_,hb.bel.grown hgrow hb.le (fun k hk=>(hb.own.lt k hk).1),Nat.le_trans hb.le hgrow.size⟩;have e1:(l++t.data.toList).length=l.length+t.size:=by rw [List.length_append,zQ]
  have e2:bytesV (l++t.data.toList)=bytesV l++Lib.strCells t:=by simp [bytesV,Lib.strCells]
  rw [e1,e2];exact hown
theorem za3(n:Nat)(t:ByteArray):((⟨(vt n).toArray⟩:ByteArray) ++t).data.toList=vt n++t.data.toList:=by
  rw [ByteArray.data_append];simp
def Rc.nAt (r:Rc) (k:Nat):Int:= [r.valid,r.uid,r.next,r.flags].getD k 0
def Rc.sAt (r:Rc) (k:Nat):ByteArray:= [r.user,r.name,r.text].getD k emp
def Rc.nt (r:Rc) (k:Nat):List UInt8:=UInt8.ofNat r.kind.toNat::(([r.valid,r.uid,r.next,r.flags].take k).flatMap fun n=>vt n.toNat)
def Rc.st (r:Rc) (k:Nat):List UInt8:=r.nt 4++(([r.user,r.name,r.text].take k).flatMap fun s=>vt s.size++s.data.toList)
theorem jN{k:Nat}(h:k < 4):k=0∨k=1∨k=2∨k=3:=by omega
theorem YC{k:Nat}(h:k < 3):k=0∨k=1∨k=2:=by omega
theorem Rc.nt_succ(r:Rc){k:Nat}(h:k < 4):r.nt (k+1)=r.nt k++vt (r.nAt k).toNat:=by
  rcases jN h with rfl | rfl | rfl | rfl <;> simp [Rc.nt,Rc.nAt]
theorem Rc.st_succ(r:Rc){k:Nat}(h:k < 3):r.st (k+1)=r.st k++(vt (r.sAt k).size++(r.sAt k).data.toList):=by
  rcases YC h with rfl | rfl | rfl <;> simp [Rc.st,Rc.sAt]
theorem Rc.st_end(r:Rc):r.st 3=r.tl:=by simp [Rc.st,Rc.nt,Rc.tl]
theorem Rc.nAt_le{r:Rc}(h:r.ok){k:Nat}(hk:k < 4):0≤r.nAt k∧r.nAt k≤10000:=by
  obtain⟨_,h2,h3,h4,h5,_⟩:=r.ok_small h;rcases jN hk with rfl | rfl | rfl | rfl <;> simp [Rc.nAt] <;> omega
theorem Rc.sAt_le{r:Rc}(h:r.ok){k:Nat}(hk:k < 3):(r.sAt k).size≤100:=by
  obtain⟨_,_,_,_,_,h6,h7,h8⟩:=r.ok_small h;rcases YC hk with rfl | rfl | rfl <;> simp [Rc.sAt] <;> omega
theorem Rc.nt_le{r:Rc}(h:r.ok):∀ k,k≤4→(r.nt k).length≤1+2 * k
  | 0,_=>by simp [Rc.nt]
  | k+1,hk=>by
    have:=Rc.nt_le h k (by omega)
    have h2:=Rc.nAt_le h (k:=k) (by omega)
    have h3:=ZO (n:=(r.nAt k).toNat) (by omega)
    rw [r.nt_succ (by omega),List.length_append];omega
theorem Rc.st_le{r:Rc}(h:r.ok):∀ k,k≤3→(r.st k).length≤9+102 * k
  | 0,_=>by have:=Rc.nt_le h 4 (by omega);simp [Rc.st];omega
  | k+1,hk=>by
    have:=Rc.st_le h k (by omega)
    have h2:=Rc.sAt_le h (k:=k) (by omega)
    have h3:=ZO (n:=(r.sAt k).size) (by omega)
    rw [r.st_succ (by omega),List.length_append,List.length_append,zQ];omega
theorem zcD(r:Rc)(k:Nat)(h:k < 4)(w:World):(Instr.index 89 (.agg #[.int .i64 r.valid,.int .i64 r.uid,.int .i64 r.next,.int .i64 r.flags]) (.int .i64 (k:Int))).run Tryz.prog w=.ok (.int .i64 (r.nAt k)) w:=by
  rcases jN h with rfl | rfl | rfl | rfl <;> kernel_rfl
theorem zcC(r:Rc)(k:Nat)(h:k < 3)(w:World):(Instr.index 170 (.agg #[.string r.user,.string r.name,.string r.text]) (.int .i64 (k:Int))).run Tryz.prog w=.ok (.string (r.sAt k)) w:=by
  rcases YC h with rfl | rfl | rfl <;> kernel_rfl
theorem yV (r:Rc) (w:World):
    Calls Tryz.prog 101 #[r.v] w fun e w'=>e=.returned (rtT r)∧Below w.heap.size w w':=by
  have bx:=Box.new w r.cs 33;have b0:Below w.heap.size w (w.alloc (.cells r.cs 33)):=(Below.refl _ _).alloc (Nat.le_refl _) _;obtain⟨c0,c1,c2,c3,c4,c5,c6,c7⟩:=bx.rec;have BX:=hid bx;clear bx;have HO:=hid (fun wx=>YQ r wx);have hv:r.v=.agg #[.int .i64 r.kind,.int .i64 r.valid,.int .i64 r.uid,.int .i64 r.next,.int .i64 r.flags,.string r.user,.string r.name,.string r.text]:=rfl;unfold Rc.cs at *;rw [hv];go_enter Tryz.func101,Tryz.ntmps101
  go_wp2_with fail
  generalize w.alloc (.cells #[.int .i64 r.kind,.int .i64 r.valid,.int .i64 r.uid,.int .i64 r.next,.int .i64 r.flags,.string r.user,.string r.name,.string r.text] 33)=W at *;rw [←hv];refine(HO.out _).mono ?_;rintro e w1 ⟨rfl,k1⟩;have b1:=b0.trans (k1.mono b0.size);have BX1:=BX.out.later k1;clear c0 c1 c2 c3 c4 c5 c6 c7 HO BX k1 b0;by_cases hok:r.ok
  · rw [decide_eq_true hok]
    have HT:=hid (jt hok);have HOK:=hid hok;obtain⟨hk1,_⟩:=r.ok_small hok;have hkw:=qg r.kind hk1.1 hk1.2;have hkb:=qk r.kind hk1.1 hk1.2;obtain⟨c0,c1,c2,c3,c4,c5,c6,c7,_⟩:=BX1.eight;have hB:=Buf.one w1 r.kind (UInt8.ofNat r.kind.toNat) hkb;have BX2:=BX1.later ((Below.refl w1.heap.size w1).alloc (Nat.le_refl _) (.cells #[.int .u8 r.kind] 5));obtain⟨d0,d1,d2,d3,d4,d5,d6,d7,_⟩:=BX2.eight;have HBX:=hid BX1;clear BX1 BX2 hok hkb hk1;go_wp2;clear hkw c0 c1 c2 c3 c4 c5 c6 c7 d0 d1 d2 d3 d4 d5 d6 d7;go_loopw [4,29] (fun v iv wr=>∃ k:Nat,k≤4∧iv=.int .i64 (k:Int)∧Buf w1.heap.size w1 wr v (r.nt k)) (fun _ iv _=>4 -(intOf iv).toNat)
    case atStart=>exact⟨0,by omega,rfl,hB⟩
    case round=>
      obtain⟨k,hk,rfl,hb⟩:=hrel;clear hB;by_cases hlt:k < 4
      · have hlt':(k:Int) < 4:=by omega
        have hix:=zcD r k hlt;have hn:=Rc.nAt_le HOK.out hlt;have hl:=Rc.nt_le HOK.out k hk;have HN:=hid (r.nt_succ hlt);generalize r.nAt k=n at *;have h2:=ZO (n:=n.toNat) (by omega);go_wp2_with (first |(go_at_call 124;refine(zP _ _).mono ?_;rintro e w2 ⟨rfl,hb2⟩;rw [Yp (by omega)];have hbL:=hb.later hb2) |(at_builtin;refine Z9 rfl _ _ rfl _ _ _ rfl hbL _ rfl (by rw [←zQ];simp;omega) ?_;intro v' w3 hb3))
        go_roundw
        case rel=>exact⟨k+1,by omega,by go_num,by rw [HN.out];exact hb3⟩
        case measure=>simp [intOf];omega
      · have hk4:k=4:=by omega
        have hge:¬(k:Int) < 4:=(by omega);rw [hk4] at hb;clear hlt hk4 hk;obtain⟨c0,c1,c2,c3,c4,c5,c6,c7,_⟩:=(HBX.out.under hb.bel HBX.out.lt).eight;go_wp2;clear c0 c1 c2 c3 c4 c5 c6 c7 hge;obtain⟨wa,hwa⟩:∃ wa,wa=wr:=⟨_,rfl⟩;subst hwa;go_loopw [4,48] (fun v iv wr=>∃ k:Nat,k≤3∧iv=.int .i64 (k:Int)∧Buf w1.heap.size w1 wr v (r.st k)) (fun _ iv _=>3 -(intOf iv).toNat)
        case atStart => exact ⟨0, by omega, rfl, by have e:r.st 0=r.nt 4:=by simp [Rc.st]
                                                    rw [e];exact hb⟩
        case round=>
          obtain⟨k,hk,rfl,hc⟩:=hrel;clear hb;by_cases hlt:k < 3
          · have hlt':(k:Int) < 3:=by omega
            have hix:=zcC r k hlt;have hn:=Rc.sAt_le HOK.out hlt;have hl:=Rc.st_le HOK.out k hk;have HN:=hid (r.st_succ hlt);generalize r.sAt k=t at *;have h2:=ZO (n:=t.size) (by omega);go_wp2_with (first |(go_at_call 125;refine(yt _ _ (by omega)).mono ?_;rintro e w2 ⟨rfl,hb2⟩;rw [qr (by omega)];have hbL:=hc.later hb2) |(at_builtin;refine Z9 rfl _ _ rfl _ _ _ rfl hbL _ rfl (by rw [←zQ,za3];simp;omega) ?_;intro v' w3 hb3))
            go_roundw
            case rel=>exact⟨k+1,by omega,by go_num,by rw [HN.out];rw [za3] at hb3;exact hb3⟩
            case measure=>simp [intOf];omega
          · obtain rfl:k=3:=by omega
            clear hlt;have hcv:=hc.toString;go_wp2;go_ret2
            exact⟨by rw [HT.out,Rc.tx,←r.st_end];rfl,b1.trans (hc.bel.mono b1.size)⟩
  · rw [decide_eq_false hok]
    have HT:=hid (Vo hok);clear BX1;go_wp2;go_ret2
    exact⟨by rw [HT.out];rfl,b1⟩
end Go.Proofs.YtklkhllkjnbhjaaGreatDoor
