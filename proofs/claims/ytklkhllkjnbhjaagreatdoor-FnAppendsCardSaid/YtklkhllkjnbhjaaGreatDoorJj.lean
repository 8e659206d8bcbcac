/- Texts of our own, joined. -/
import Derived.Test.YtklkhllkjnbhjaaGreatDoorJi
/- Records: the model's reader of a text. -/
namespace Go.Proofs.YtklkhllkjnbhjaaGreatDoor
open Go.RowKit
open Lib (hid)
set_option maxRecDepth 100000
set_option maxHeartbeats 8000000
def cuV (t:ByteArray) (p:Nat) (b:Bool):Nat×Nat×Bool:=
  if b=true then(0,p,true) else match rv t.data.toList p with
    | some (n,q)=>(n,q,false)
    | none=>(0,p,true)
def cuS (t:ByteArray) (p:Nat) (b:Bool):ByteArray×Nat×Bool:=
  if b=true then(⟨#[]⟩,p,true) else match rsO t p with
    | some (n,q)=>(n,q,false)
    | none=>(⟨#[]⟩,p,true)
theorem zbC(t:ByteArray)(p:Nat)(b:Bool)(hp:p≤t.size):
    ∃(x q:Nat) (o:Bool),rvT t p=.tuple #[.int .i64 x,.int .i64 q,.bool o]∧(((b=true∨o=false)∧cuV t p b=(0,p,true))∨((b=false∧o=true)∧cuV t p b=(x,q,false))):=by
  rcases h:rv t.data.toList p with _ |⟨n,q⟩
  · refine⟨0,0,false,Zt hp h,.inl ⟨.inr rfl,?_⟩⟩
    cases b <;> simp [cuV,h]
  · refine⟨n,q,true,ye hp h,?_⟩
    cases b with
    | false=>exact .inr ⟨⟨rfl,rfl⟩,by simp [cuV,h]⟩
    | true=>exact .inl ⟨.inl rfl,by simp [cuV]⟩
theorem qo(t:ByteArray)(p:Nat)(b:Bool)(hp:p≤t.size):(cuV t p b).2.1≤t.size∧(cuV t p b).1≤1000000000:=by
  unfold cuV
  split
  · exact⟨hp,Nat.zero_le _⟩
  · split
    · rename_i h
      have:=XU (by simpa using hp) h;refine⟨?_,this.1⟩;have:=this.2.2;simpa using this
    · exact⟨hp,Nat.zero_le _⟩
theorem zbJ{t:ByteArray}{p:Nat}{x:ByteArray}{q:Nat}(h:rsO t p=some (x,q)):q≤t.size∧x.size≤t.size:=by
  unfold rsO at h
  split at h
  · split at h
    · rename_i h2
      cases h
      refine⟨by omega,?_⟩;rw [ByteArray.size_extract];omega
    · cases h
  · cases h
theorem zbe(t:ByteArray)(p:Nat)(b:Bool)(hp:p≤t.size):
    ∃(x:ByteArray) (q:Nat) (o:Bool),rsT t p=.tuple #[.string x,.int .i64 q,.bool o]∧(((b=true∨o=false)∧cuS t p b=(⟨#[]⟩,p,true))∨((b=false∧o=true)∧cuS t p b=(x,q,false))):=by
  rcases h:rv t.data.toList p with _ |⟨n,q⟩
  · refine⟨⟨#[]⟩,0,false,jn hp h,.inl ⟨.inr rfl,?_⟩⟩
    cases b <;> simp [cuS,rsO,h]
  · by_cases h2:n≤20000∧n+q≤t.size
    · refine⟨t.extract q (q+n),q+n,true,by rw [J2 hp h h2,Int.natCast_add],?_⟩
      cases b with
      | false=>exact .inr ⟨⟨rfl,rfl⟩,by simp [cuS,rsO,h,h2]⟩
      | true=>exact .inl ⟨.inl rfl,by simp [cuS]⟩
    · refine⟨⟨#[]⟩,0,false,Qg hp h h2,.inl ⟨.inr rfl,?_⟩⟩
      cases b <;> simp [cuS,rsO,h,h2]
theorem xW(t:ByteArray)(p:Nat)(b:Bool)(hp:p≤t.size):(cuS t p b).2.1≤t.size∧(cuS t p b).1.size≤t.size:=by
  unfold cuS
  split
  · exact⟨hp,Nat.zero_le _⟩
  · split
    · rename_i h
      exact zbJ h
    · exact⟨hp,Nat.zero_le _⟩
def CuB (w:World) (g:Nat) (t:ByteArray) (p:Nat) (b:Bool):Prop:=Box w g #[.string t,.int .i64 (p:Int),.bool b] 183
theorem ZA{w w':World}(r:Option Nat)(hb:Below w.heap.size w w'):w.grownBy w' r:=⟨hb.os,hb.tape,hb.output,hb.size,fun k hk _=>hb.block k hk⟩
theorem xY (t:ByteArray) (p:Nat) (b:Bool) (g:Nat) (w:World) (hx:CuB w g t p b) (hp:p≤t.size) (hs:t.size≤1099511627776):
    Calls Tryz.prog 136 #[.pointer (some ⟨g,0,none⟩)] w fun e w'=>e=.returned (.int .i64 ((cuV t p b).1:Int))∧CuB w' g t (cuV t p b).2.1 (cuV t p b).2.2∧w.grownBy w' (some g):=by
  obtain⟨x,q,o,hr,hways⟩:=zbC t p b hp;have HR:=hid hr;have r0:∀ x,Below w.heap.size w x→x.cell? ⟨g,0,none⟩=some (.string t):=fun x hb=>(Box.later hx hb).cell 0 _ rfl;have r1:∀ x,Below w.heap.size w x→x.cell? ⟨g,1,none⟩=some (.int .i64 (p:Int)):=fun x hb=>(Box.later hx hb).cell 1 _ rfl;have HK0:Hid (Below w.heap.size w w.drew):=(Below.refl _ _).drew;have HX:Hid (Box w g #[.string t,.int .i64 (p:Int),.bool b] 183):=hx;unfold CuB;clear hr hx;rcases hways with⟨hb,hc⟩ |⟨⟨hb,ho⟩,hc⟩
  · have HC:=hid hc
    clear hc;cases b with
    | true=>
      clear hb;go_enter Tryz.func136,Tryz.ntmps136
      go_upto_region 1 with fail
      go_region_held3 (fun x=>Below w.heap.size w x)
        (first | exact HK0.out | exact zr (by assumption) kT)
        (first |(go_at_call 134;refine(zm _ _ _ hs).mono ?_;rintro e wT ⟨rfl,kT⟩;rw [HR.out]))
      all_goals
        rename_i hHeld
        have BH:=hid hHeld
        have yx:=HX.out.later hHeld
        obtain⟨z0,z1,z2,f0,f1,f2⟩:=yx.three
        have YX:=hid yx
        clear r0 r1 hHeld yx kT
        go_wp2
        go_ret
        exact⟨by rw [HC.out];rfl,by rw [HC.out];exact YX.out.set 2 _,(ZA _ BH.out).trans (za _ _ _ _)⟩
    | false=>
      have ho:o=false:=by rcases hb with h | h;cases h;exact h
      subst ho;clear hb;go_enter Tryz.func136,Tryz.ntmps136
      go_upto_region 1 with fail
      go_region_held3 (fun x=>Below w.heap.size w x)
        (first | exact HK0.out | exact zr (by assumption) kT)
        (first |(go_at_call 134;refine(zm _ _ _ hs).mono ?_;rintro e wT ⟨rfl,kT⟩;rw [HR.out]))
      all_goals
        rename_i hHeld
        have BH:=hid hHeld
        have yx:=HX.out.later hHeld
        obtain⟨z0,z1,z2,f0,f1,f2⟩:=yx.three
        have YX:=hid yx
        clear r0 r1 hHeld yx kT
        go_wp2
        go_ret
        exact⟨by rw [HC.out];rfl,by rw [HC.out];exact YX.out.set 2 _,(ZA _ BH.out).trans (za _ _ _ _)⟩
  · have HC:=hid hc
    clear hc;subst hb;subst ho;go_enter Tryz.func136,Tryz.ntmps136
    go_upto_region 1 with fail
    go_region_held3 (fun x=>Below w.heap.size w x)
      (first | exact HK0.out | exact zr (by assumption) kT)
      (first |(go_at_call 134;refine(zm _ _ _ hs).mono ?_;rintro e wT ⟨rfl,kT⟩;rw [HR.out]))
    all_goals
      rename_i hHeld
      have BH:=hid hHeld
      have yx:=HX.out.later hHeld
      obtain⟨z0,z1,z2,f0,f1,f2⟩:=yx.three
      have YX:=hid yx
      clear r0 r1 hHeld yx kT
      go_wp2
      go_ret
      exact⟨by rw [HC.out];rfl,by rw [HC.out];exact YX.out.set 1 _,(ZA _ BH.out).trans (za _ _ _ _)⟩
theorem jW (t:ByteArray) (p:Nat) (b:Bool) (g:Nat) (w:World) (hx:CuB w g t p b) (hp:p≤t.size) (hs:t.size≤1099511627776):
    Calls Tryz.prog 137 #[.pointer (some ⟨g,0,none⟩)] w fun e w'=>e=.returned (.string (cuS t p b).1)∧CuB w' g t (cuS t p b).2.1 (cuS t p b).2.2∧w.grownBy w' (some g):=by
  obtain⟨x,q,o,hr,hways⟩:=zbe t p b hp;have HR:=hid hr;have r0:∀ x,Below w.heap.size w x→x.cell? ⟨g,0,none⟩=some (.string t):=fun x hb=>(Box.later hx hb).cell 0 _ rfl;have r1:∀ x,Below w.heap.size w x→x.cell? ⟨g,1,none⟩=some (.int .i64 (p:Int)):=fun x hb=>(Box.later hx hb).cell 1 _ rfl;have HK0:Hid (Below w.heap.size w w.drew):=(Below.refl _ _).drew;have HX:Hid (Box w g #[.string t,.int .i64 (p:Int),.bool b] 183):=hx;unfold CuB;clear hr hx;rcases hways with⟨hb,hc⟩ |⟨⟨hb,ho⟩,hc⟩
  · have HC:=hid hc
    clear hc;cases b with
    | true=>
      clear hb;go_enter Tryz.func137,Tryz.ntmps137
      go_upto_region 1 with fail
      go_region_held3 (fun x=>Below w.heap.size w x)
        (first | exact HK0.out | exact zr (by assumption) kT)
        (first |(go_at_call 135;refine(zL _ _ _ hs).mono ?_;rintro e wT ⟨rfl,kT⟩;rw [HR.out]))
      all_goals
        rename_i hHeld
        have BH:=hid hHeld
        have yx:=HX.out.later hHeld
        obtain⟨z0,z1,z2,f0,f1,f2⟩:=yx.three
        have YX:=hid yx
        clear r0 r1 hHeld yx kT
        go_wp2
        go_ret
        exact⟨by rw [HC.out];rfl,by rw [HC.out];exact YX.out.set 2 _,(ZA _ BH.out).trans (za _ _ _ _)⟩
    | false=>
      have ho:o=false:=by rcases hb with h | h;cases h;exact h
      subst ho;clear hb;go_enter Tryz.func137,Tryz.ntmps137
      go_upto_region 1 with fail
      go_region_held3 (fun x=>Below w.heap.size w x)
        (first | exact HK0.out | exact zr (by assumption) kT)
        (first |(go_at_call 135;refine(zL _ _ _ hs).mono ?_;rintro e wT ⟨rfl,kT⟩;rw [HR.out]))
      all_goals
        rename_i hHeld
        have BH:=hid hHeld
        have yx:=HX.out.later hHeld
        obtain⟨z0,z1,z2,f0,f1,f2⟩:=yx.three
        have YX:=hid yx
        clear r0 r1 hHeld yx kT
        go_wp2
        go_ret
        exact⟨by rw [HC.out];rfl,by rw [HC.out];exact YX.out.set 2 _,(ZA _ BH.out).trans (za _ _ _ _)⟩
  · have HC:=hid hc
    clear hc;subst hb;subst ho;go_enter Tryz.func137,Tryz.ntmps137
    go_upto_region 1 with fail
    go_region_held3 (fun x=>Below w.heap.size w x)
      (first | exact HK0.out | exact zr (by assumption) kT)
      (first |(go_at_call 135;refine(zL _ _ _ hs).mono ?_;rintro e wT ⟨rfl,kT⟩;rw [HR.out]))
    all_goals
      rename_i hHeld
      have BH:=hid hHeld
      have yx:=HX.out.later hHeld
      obtain⟨z0,z1,z2,f0,f1,f2⟩:=yx.three
      have YX:=hid yx
      clear r0 r1 hHeld yx kT
      go_wp2
      go_ret
      exact⟨by rw [HC.out];rfl,by rw [HC.out];exact YX.out.set 1 _,(ZA _ BH.out).trans (za _ _ _ _)⟩
end Go.Proofs.YtklkhllkjnbhjaaGreatDoor
