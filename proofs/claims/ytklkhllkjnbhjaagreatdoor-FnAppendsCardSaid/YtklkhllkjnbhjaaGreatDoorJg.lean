/- Texts of our own, joined. -/
import Derived.Test.YtklkhllkjnbhjaaGreatDoorJf
/- Reading a number: what impl.ReadVar and spec.ReadVar hand back. -/
namespace Go.Proofs.YtklkhllkjnbhjaaGreatDoor
open Go.RowKit
open Lib (hid)
set_option maxRecDepth 100000
set_option maxHeartbeats 8000000
theorem Z1(s:ByteArray)(k c:Nat):(s.extract k (k+c)).toList=(s.data.toList.drop k).take c:=by
  obtain⟨⟨l⟩⟩:=s;have:=ByteArray.extract_mk l k (k+c);rw [show k+c - k=c by omega] at this;rw [this,ByteArray.toList_eq]
theorem qj(s:ByteArray)(k i:Nat)(h:k+(i+1)≤s.size)(wx:World):
    (Instr.slice 9 (.string s) (some (.int .i64 (k:Int))) (some (.int .i64 ((k:Int) +(i:Int) +1))) none).run Tryz.prog wx=.ok (.string (s.extract k (k+(i+1)))) wx:=by
  have:=run_slice_string (P:=Tryz.prog) (w:=wx) 9 s .i64 .i64 (k:Int) ((k:Int) +(i:Int) +1) Tryz.underlying9 (by omega) (by omega) (by omega);rw [this];congr 3
def zeroT:Value:=.tuple #[.int .i64 0,.int .i64 0,.bool false]
def rvT (s:ByteArray) (at':Int):Value:=
  if 0≤at'∧at'≤s.size then
    match rv s.data.toList at'.toNat with
    | some (n,b)=>.tuple #[.int .i64 n,.int .i64 b,.bool true]
    | none=>zeroT
  else zeroT
theorem J1{s:ByteArray}{at':Int}(h:¬(0≤at'∧at'≤s.size)):rvT s at'=zeroT:=by rw [rvT,if_neg h]
theorem ye{s:ByteArray}{k n b:Nat}(hk:k≤s.size)(h:rv s.data.toList k=some (n,b)):rvT s k=.tuple #[.int .i64 n,.int .i64 b,.bool true]:=by
  rw [rvT,if_pos (by omega),Int.toNat_natCast,h]
theorem Zt{s:ByteArray}{k:Nat}(hk:k≤s.size)(h:rv s.data.toList k=none):rvT s k=zeroT:=by
  rw [rvT,if_pos (by omega),Int.toNat_natCast,h]
theorem zw (s:ByteArray) (a:Int) (w:World) (hs:s.size≤1099511627776):
    Calls Tryz.prog 163 #[.string s,.int .i64 a] w fun e w'=>e=.returned (rvT s a)∧Below w.heap.size w w':=by
  by_cases h:0≤a∧a≤s.size
  · obtain⟨k,rfl⟩:=Int.eq_ofNat_of_zero_le h.1
    have hk:k≤s.size:=by omega
    clear h;rcases hR0:rg 5 (s.data.toList.drop k) 0 0 with _ |⟨n,c⟩
    · have hg:Hid (grT s k=_):=Qx hR0
      have hz:Hid (rvT s k=_):=Zt hk (zag hR0);clear hR0;go_enter Tryz.func163,Tryz.ntmps163
      go_wp2_with (go_at_call 169;refine(ZG _ _ _ hk hs).mono ?_;rintro e w1 ⟨rfl,rfl⟩;rw [hg.out])
      go_ret3
      exact⟨by rw [hz.out];exact Zd rfl rfl rfl,Below.refl _ _⟩
    · have hg:Hid (grT s k=_):=Q4 hR0
      have hR:Hid (rg 5 (s.data.toList.drop k) 0 0=some (n,c)):=hR0;obtain⟨b1,b2,b3,b4⟩:=xb 5 _ 0 0 n c hR0 (by decide);clear hR0;simp at b1 b4;have b5:k+c≤s.size:=(by omega);by_cases hn:n≤1000000000
      · by_cases hv:vt n=(s.data.toList.drop k).take c
        · have he:(vt n==(s.extract k (k+c)).toList)=true:=by rw [Z1];simp [hv]
          have hz:Hid (rvT s k=_):=ye hk (xw hR.out hn hv);clear hv;go_enter Tryz.func163,Tryz.ntmps163
          go_wp2_with (first |(go_at_call 169;refine(ZG _ _ _ hk hs).mono ?_;rintro e w1 ⟨rfl,rfl⟩;rw [hg.out]) |(go_at_call 124;refine(zP _ _).mono ?_;rintro e w2 ⟨rfl,hb2⟩;rw [Yp (by omega),Int.toNat_natCast]))
          go_ret3
          exact⟨by rw [hz.out];exact Zd rfl (by omega) rfl,hb2⟩
        · have he:(vt n==(s.extract k (k+c)).toList)=false:=by rw [Z1];simp [hv]
          have hz:Hid (rvT s k=_):=Zt hk (XN hR.out (fun h=>hv h.2));clear hv;go_enter Tryz.func163,Tryz.ntmps163
          go_wp2_with (first |(go_at_call 169;refine(ZG _ _ _ hk hs).mono ?_;rintro e w1 ⟨rfl,rfl⟩;rw [hg.out]) |(go_at_call 124;refine(zP _ _).mono ?_;rintro e w2 ⟨rfl,hb2⟩;rw [Yp (by omega),Int.toNat_natCast]))
          go_ret3
          exact⟨by rw [hz.out];exact Zd rfl rfl rfl,hb2⟩
      · have hz:Hid (rvT s k=_):=Zt hk (XN hR.out (fun h=>hn h.1))
        go_enter Tryz.func163,Tryz.ntmps163
        go_wp2_with (first |(go_at_call 169;refine(ZG _ _ _ hk hs).mono ?_;rintro e w1 ⟨rfl,rfl⟩;rw [hg.out]) |(go_at_call 124;refine(zP _ _).mono ?_;rintro e w2 ⟨rfl,hb2⟩;rw [zcj (by omega)]))
        go_ret3
        exact⟨by rw [hz.out];exact Zd rfl rfl rfl,hb2⟩
  · have hz:Hid (rvT s a=_):=J1 h
    by_cases h1:a < 0
    · go_enter Tryz.func163,Tryz.ntmps163
      go_wp2;go_ret3
      exact⟨by rw [hz.out];exact Zd rfl rfl rfl,Below.refl _ _⟩
    · have h2:(s.size:Int) < a:=by omega
      go_enter Tryz.func163,Tryz.ntmps163
      go_wp2;go_ret3
      exact⟨by rw [hz.out];exact Zd rfl rfl rfl,Below.refl _ _⟩
theorem zm (s :ByteArray) (a:Int) (w:World) (hs:s.size≤1099511627776):
    Calls Tryz.prog 134 #[.string s,.int .i64 a] w fun e w'=>e=.returned (rvT s a)∧Below w.heap.size w w':=by
  by_cases h:0≤a∧a≤s.size
  · obtain ⟨k,rfl⟩:=Int.eq_ofNat_of_zero_le h.1
    have hk:k≤s.size:=by omega
    have h1:decide ((0:Int)≤(k:Int))=true:=by simp
    have h2:decide ((k:Int)≤(s.size:Int))=true:=by simp;omega
    clear h;obtain⟨R,hR0⟩:∃ R,rg 5 (s.data.toList.drop k) 0 0=R:=⟨_,rfl⟩;have hR:Hid (rg 5 (s.data.toList.drop k) 0 0=R):=hR0;clear hR0;go_enter Tryz.func134,Tryz.ntmps134
    go_wp2_with (go_at_call 52;refine(yD _ _ _ _).mono ?_;rintro e w1 ⟨rfl,rfl⟩)
    go_loop [7,8,9] (fun nv sv iv=>∃ i n:Nat,i≤5∧iv=.int .i64 ((k:Int) +i)∧sv=.int .i64 ((128 ^ i:Nat):Int)∧nv=.int .i64 n∧n < 128 ^ i∧rg (5 - i) (s.data.toList.drop (k+i)) i n=R) (fun _ _ iv=>5 -(intOf iv - k).toNat)
    case atStart=>exact⟨0,0,by omega,by simp,by simp,rfl,by omega,hR.out⟩
    case round=>
      obtain⟨i,n,hi,rfl,rfl,rfl,hn,hr0⟩:=hrel;have hr:Hid (rg (5 - i) (s.data.toList.drop (k+i)) i n=R):=hr0;clear hr0;by_cases hlt:i < 5∧k+i < s.size
      · obtain⟨h1,h2⟩:=hlt
        have hl:k+i < s.data.toList.length:=(by simpa using h2);have hb:s[k+i].toNat < 256:=UInt8.toNat_lt _;by_cases hc:s[k+i].toNat < 128
        · go_wp2
          rw [qa _ _ _ hn h1];have hr1:=zcH (l:=s.data.toList) (n:=n) h1 hl hc;rw [hr.out,←hR.out] at hr1;generalize hm0:n+s[k+i].toNat % 128 * 128 ^ i=m;have hr2:rg 5 (s.data.toList.drop k) 0 0=some (m,i+1):=(by rw [←hm0];exact hr1);have hr3:Hid (rg 5 (s.data.toList.drop k) 0 0=some (m,i+1)):=hr2;have b5:k+(i+1)≤s.size:=(by omega);clear hr1 hr2 hm0;by_cases hm:m≤1000000000
          · by_cases hv:vt m=(s.data.toList.drop k).take (i+1)
            · have he:(vt m==(s.extract k (k+(i+1))).toList)=true:=by rw [Z1];simp [hv]
              have hz:Hid (rvT s k=_):=ye hk (xw hr3.out hm hv);clear hv;have g1:decide ((1000000000:Int) <(m:Int))=false:=(by simp;omega);have g2:IntKind.i64.wrap ((k:Int) +(i:Int) +1)=(k:Int) +(i:Int) +1:=IntWalk.i64_in _ ⟨by omega,by omega⟩;have g3:=qj s k i b5;go_region_held3 (fun _=>True) (trivial) ((go_at_call 108;refine(yR _ _ hm).mono ?_;rintro e w2 ⟨rfl,hb2⟩))
              go_wp2;go_ret3
              exact⟨by rw [hz.out];exact Zd rfl (by omega) rfl,(Below.refl _ _).drew.trans hb2⟩
            · have he:(vt m==(s.extract k (k+(i+1))).toList)=false:=by rw [Z1];simp [hv]
              have hz:Hid (rvT s k=_):=Zt hk (XN hr3.out (fun h=>hv h.2));clear hv;have g1:decide ((1000000000:Int) <(m:Int))=false:=(by simp;omega);have g2:IntKind.i64.wrap ((k:Int) +(i:Int) +1)=(k:Int) +(i:Int) +1:=IntWalk.i64_in _ ⟨by omega,by omega⟩;have g3:=qj s k i b5;go_region_held3 (fun _=>True) (trivial) ((go_at_call 108;refine(yR _ _ hm).mono ?_;rintro e w2 ⟨rfl,hb2⟩))
              go_wp2;go_ret3
              exact⟨by rw [hz.out];exact Zd rfl rfl rfl,(Below.refl _ _).drew.trans hb2⟩
          · have hz:Hid (rvT s k=_):=Zt hk (XN hr3.out (fun h=>hm h.1))
            have g1:decide ((1000000000:Int) <(m:Int))=true:=(by simp;omega);go_quiet (fail)
            go_wp2;go_ret3
            exact⟨by rw [hz.out];exact Zd rfl rfl rfl,below_drewN (Below.refl _ _) _⟩
        · go_wp2
          go_round
          case rel=>exact⟨i+1,n+s[k+i].toNat % 128 * 128 ^ i,by omega,by go_num,by rw [xx i h1],by rw [qa _ _ _ hn h1],Xt hn,(zcL (l:=s.data.toList) h1 hl hc).symm.trans hr.out⟩
          case measure=>simp [intOf];omega
      · have hz:Hid (rvT s k=_):=Zt hk (zag (hR.out.trans (hr.out.symm.trans (za0 (l:=s.data.toList) (by simpa using hlt)))))
        by_cases h1:k+i < s.size
        · have h2:¬i < 5:=fun h=>hlt ⟨h,h1⟩
          go_wp2;go_ret3
          exact⟨by rw [hz.out];exact Zd rfl rfl rfl,Below.refl _ _⟩
        · go_wp2
          go_ret3
          exact⟨by rw [hz.out];exact Zd rfl rfl rfl,Below.refl _ _⟩
  · have hz:Hid (rvT s a=_):=J1 h
    have h1:(decide ((0:Int)≤a) && decide (a≤(s.size:Int)))=false:=by
      simp only [Bool.and_eq_false_iff,decide_eq_false_iff_not];omega
    go_enter Tryz.func134,Tryz.ntmps134
    go_wp2_with (go_at_call 52;refine(yD _ _ _ _).mono ?_;rintro e w1 ⟨rfl,rfl⟩;simp only [h1])
    go_ret3
    exact⟨by rw [hz.out];exact Zd rfl rfl rfl,Below.refl _ _⟩

/- A text behind its length, and read back: what ShortText and ReadShort hand back. -/
def shT (s:ByteArray):Value:=
  if s.size≤20000 then .tuple #[.string (⟨(vt s.size).toArray⟩ ++s),.bool true] else .tuple #[.string ⟨#[]⟩,.bool false]
theorem qr{s:ByteArray}(h:s.size≤20000):shT s=.tuple #[.string (⟨(vt s.size).toArray⟩ ++s),.bool true]:=by rw [shT,if_pos h]
theorem zc8{s:ByteArray}(h:¬s.size≤20000):shT s=.tuple #[.string ⟨#[]⟩,.bool false]:=by rw [shT,if_neg h]
theorem zco(n:Nat):(ByteArray.mk (vt n).toArray).size≤n+1:=by
  have:=xB n;simpa [ByteArray.size] using this
theorem yt(s:ByteArray)(w:World)(hs:s.size≤1099511627776):
    Calls Tryz.prog 125 #[.string s] w fun e w'=>e=.returned (shT s)∧Below w.heap.size w w':=by
  by_cases h:s.size≤20000
  · have hv:=zco s.size
    have hadd:=fun wx=>run_string_add_sum (P:=Tryz.prog) (w:=wx) ⟨(vt s.size).toArray⟩ s (by omega);go_enter Tryz.func125,Tryz.ntmps125
    go_wp2_with (go_at_call 124;refine(zP _ _).mono ?_;rintro e w1 ⟨rfl,hb1⟩;rw [Yp (by omega),Int.toNat_natCast])
    go_ret2
    exact⟨by rw [qr h];rfl,hb1⟩
  · go_enter Tryz.func125,Tryz.ntmps125
    go_wp2;go_ret2
    exact⟨by rw [zc8 h];rfl,Below.refl _ _⟩
def zeroS:Value:=.tuple #[.string ⟨#[]⟩,.int .i64 0,.bool false]
def rsT (s:ByteArray) (a:Int):Value:=
  if 0≤a∧a≤s.size then
    match rv s.data.toList a.toNat with
    | some (n,b)=>if n≤20000∧n+b≤s.size then .tuple #[.string (s.extract b (b+n)),.int .i64 ((b:Int) +n),.bool true] else zeroS
    | none=>zeroS
  else zeroS
theorem zb9{s:ByteArray}{a:Int}(h:¬(0≤a∧a≤s.size)):rsT s a=zeroS:=by rw [rsT,if_neg h]
theorem jn{s:ByteArray}{k:Nat}(hk:k≤s.size)(h:rv s.data.toList k=none):rsT s k=zeroS:=by
  rw [rsT,if_pos (by omega),Int.toNat_natCast,h]
theorem Qg{s:ByteArray}{k n b:Nat}(hk:k≤s.size)(h:rv s.data.toList k=some (n,b))(h2:¬(n≤20000∧n+b≤s.size)):rsT s k=zeroS:=by
  rw [rsT,if_pos (by omega),Int.toNat_natCast,h];simp only [if_neg h2]
theorem J2{s:ByteArray}{k n b:Nat}(hk:k≤s.size)(h:rv s.data.toList k=some (n,b))(h2:n≤20000∧n+b≤s.size):rsT s k=.tuple #[.string (s.extract b (b+n)),.int .i64 ((b:Int) +n),.bool true]:=by
  rw [rsT,if_pos (by omega),Int.toNat_natCast,h];simp only [if_pos h2]
theorem Qf(s:ByteArray)(a:Int):(rvT s a=zeroT∧rsT s a=zeroS)∨
    (∃ n b:Nat,rvT s a=.tuple #[.int .i64 n,.int .i64 b,.bool true]∧n≤1000000000∧b≤s.size∧¬(n≤20000∧n+b≤s.size)∧rsT s a=zeroS)∨
    (∃ n b:Nat,rvT s a=.tuple #[.int .i64 n,.int .i64 b,.bool true]∧n≤20000∧n+b≤s.size∧rsT s a=.tuple #[.string (s.extract b (b+n)),.int .i64 ((b:Int) +n),.bool true]):=by
  by_cases h:0≤a∧a≤s.size
  · obtain⟨k,rfl⟩:=Int.eq_ofNat_of_zero_le h.1
    have hk:k≤s.size:=by omega
    rcases hr:rv s.data.toList k with _ |⟨n,b⟩
    · exact .inl ⟨Zt hk hr,jn hk hr⟩
    · have hle:=XU (by simpa using hk) hr
      have hb:b≤s.size:=(by have:=hle.2.2;simpa using this);by_cases h2:n≤20000∧n+b≤s.size
      · exact .inr (.inr ⟨n,b,ye hk hr,h2.1,h2.2,J2 hk hr h2⟩)
      · exact .inr (.inl ⟨n,b,ye hk hr,hle.1,hb,h2,Qg hk hr h2⟩)
  · exact .inl ⟨J1 h,zb9 h⟩
theorem qi(s:ByteArray)(b n:Nat)(h:n+b≤s.size)(wx:World):
    (Instr.slice 9 (.string s) (some (.int .i64 (b:Int))) (some (.int .i64 ((b:Int) +(n:Int)))) none).run Tryz.prog wx=.ok (.string (s.extract b (b+n))) wx:=by
  have:=run_slice_string (P:=Tryz.prog) (w:=wx) 9 s .i64 .i64 (b:Int) ((b:Int) +(n:Int)) Tryz.underlying9 (by omega) (by omega) (by omega);rw [this];congr 3
theorem zL(s:ByteArray)(a:Int)(w:World)(hs:s.size≤1099511627776):
    Calls Tryz.prog 135 #[.string s,.int .i64 a] w fun e w'=>e=.returned (rsT s a)∧Below w.heap.size w w':=by
  rcases Qf s a with⟨hr0,hz0⟩ |⟨n,b,hr0,h1,h2,h3,hz0⟩ |⟨n,b,hr0,h1,h2,hz0⟩
  · have hr:Hid (rvT s a=_):=hr0
    have hz:Hid (rsT s a=_):=hz0;clear hr0 hz0;go_enter Tryz.func135,Tryz.ntmps135
    go_wp2_with (go_at_call 134;refine(zm _ _ _ hs).mono ?_;rintro e w1 ⟨rfl,hb1⟩;rw [hr.out,zeroT])
    go_ret3
    exact⟨by rw [hz.out];rfl,hb1⟩
  · have hr:Hid (rvT s a=_):=hr0
    have hz:Hid (rsT s a=_):=hz0;clear hr0 hz0;by_cases h4:n≤20000
    · have h5:(s.size:Int) -(b:Int) <(n:Int):=by omega
      go_enter Tryz.func135,Tryz.ntmps135
      go_wp2_with (go_at_call 134;refine(zm _ _ _ hs).mono ?_;rintro e w1 ⟨rfl,hb1⟩;rw [hr.out])
      go_ret3
      exact⟨by rw [hz.out];rfl,hb1⟩
    · go_enter Tryz.func135,Tryz.ntmps135
      go_wp2_with (go_at_call 134;refine(zm _ _ _ hs).mono ?_;rintro e w1 ⟨rfl,hb1⟩;rw [hr.out])
      go_ret3
      exact⟨by rw [hz.out];rfl,hb1⟩
  · have hr:Hid (rvT s a=_):=hr0
    have hz:Hid (rsT s a=_):=hz0;clear hr0 hz0;have hsl:=qi s b n h2;have h5:¬(s.size:Int) -(b:Int) <(n:Int):=by omega
    go_enter Tryz.func135,Tryz.ntmps135
    go_wp2_with (go_at_call 134;refine(zm _ _ _ hs).mono ?_;rintro e w1 ⟨rfl,hb1⟩;rw [hr.out])
    go_ret3
    exact⟨by rw [hz.out];rfl,hb1⟩
theorem Zj(s:ByteArray)(a:Int)(w:World)(hs:s.size≤1099511627776):
    Calls Tryz.prog 164 #[.string s,.int .i64 a] w fun e w'=>e=.returned (rsT s a)∧Below w.heap.size w w':=by
  rcases Qf s a with⟨hr0,hz0⟩ |⟨n,b,hr0,h1,h2,h3,hz0⟩ |⟨n,b,hr0,h1,h2,hz0⟩
  · have hr:Hid (rvT s a=_):=hr0
    have hz:Hid (rsT s a=_):=hz0;clear hr0 hz0;go_enter Tryz.func164,Tryz.ntmps164
    go_wp2_with (go_at_call 163;refine(zw _ _ _ hs).mono ?_;rintro e w1 ⟨rfl,hb1⟩;rw [hr.out,zeroT])
    go_ret3
    exact⟨by rw [hz.out];rfl,hb1⟩
  · have hr:Hid (rvT s a=_):=hr0
    have hz:Hid (rsT s a=_):=hz0;clear hr0 hz0;by_cases h4:n≤20000
    · have h5:(s.size:Int) -(b:Int) <(n:Int):=by omega
      go_enter Tryz.func164,Tryz.ntmps164
      go_wp2_with (go_at_call 163;refine(zw _ _ _ hs).mono ?_;rintro e w1 ⟨rfl,hb1⟩;rw [hr.out])
      go_ret3
      exact⟨by rw [hz.out];rfl,hb1⟩
    · go_enter Tryz.func164,Tryz.ntmps164
      go_wp2_with (go_at_call 163;refine(zw _ _ _ hs).mono ?_;rintro e w1 ⟨rfl,hb1⟩;rw [hr.out])
      go_ret3
      exact⟨by rw [hz.out];rfl,hb1⟩
  · have hr:Hid (rvT s a=_):=hr0
    have hz:Hid (rsT s a=_):=hz0;clear hr0 hz0;have hsl:=qi s b n h2;have hcl:(s.extract b (b+n)).size≤281474976710656:=by simp;omega
    have h5:¬(s.size:Int) -(b:Int) <(n:Int):=by omega
    go_enter Tryz.func164,Tryz.ntmps164
    go_wp2_with (first |(go_at_call 163;refine(zw _ _ _ hs).mono ?_;rintro e w1 ⟨rfl,hb1⟩;rw [hr.out]) |(go_at_call 97;refine(Zp _ _ hcl).mono ?_;rintro e w2 ⟨rfl,hb2⟩))
    go_ret3
    exact⟨by rw [hz.out];rfl,hb1.trans (hb2.mono hb1.size)⟩
theorem zbf(s:ByteArray)(a:Int):∃(t:ByteArray) (b:Int) (f:Bool),rsT s a=.tuple #[.string t,.int .i64 b,.bool f]:=by
  rcases Qf s a with⟨_,h⟩ |⟨_,_,_,_,_,_,h⟩ |⟨_,_,_,_,_,h⟩
  · exact⟨_,_,_,h⟩
  · exact⟨_,_,_,h⟩
  · exact⟨_,_,_,h⟩

/- Frames: their texts. -/
def Fr.tx (f:Fr):ByteArray:=f.text fourOf
theorem Fr.tx_size(f:Fr):f.tx.size=f.raw.size+4:=by simp [Fr.tx,Fr.text,ByteArray.size_append,Zb]
theorem Fr.tx_le{f:Fr}(h:f.ok):f.tx.size≤196:=by have:=f.tx_size;have:=Fr.raw_size h;omega
def ftT (f:Fr):Value:=if f.ok then .tuple #[.string f.tx,.bool true] else .tuple #[.string ⟨#[]⟩,.bool false]
theorem Zq{f:Fr}(h:f.ok):ftT f=.tuple #[.string f.tx,.bool true]:=by rw [ftT,if_pos h]
theorem Qe{f:Fr}(h:¬f.ok):ftT f=.tuple #[.string ⟨#[]⟩,.bool false]:=by rw [ftT,if_neg h]
theorem jo(f:Fr):∃(t:ByteArray) (b:Bool),ftT f=.tuple #[.string t,.bool b]∧t.size≤196:=by
  unfold ftT
  split
  · rename_i h;exact⟨_,_,rfl,Fr.tx_le h⟩
  · exact⟨_,_,rfl,by decide⟩

/- Frames: what FrameText and FrameSize hand back, of the model and of the program. -/
theorem zbZ(f:Fr):f.raw=vtB f.gen.toNat++vtB f.seq.toNat++(vtB f.body.size++f.body):=rfl
theorem zcv(f:Fr):f.raw=vtB f.gen.toNat++vtB f.seq.toNat++vtB f.body.size++f.body:=by rw [zbZ,ByteArray.append_assoc,ByteArray.append_assoc,ByteArray.append_assoc]
theorem zak{f:Fr}(h:f.ok):seT f.raw=.tuple #[.string f.tx,.bool true]:=by
  rw [JY (by have:=Fr.raw_size h;omega)];rfl
theorem QP{n:Int}(h:Fr.numOk n):varT n=.tuple #[.string (vtB n.toNat),.bool true]:=by unfold Fr.numOk at h;rw [Yp (by omega)];rfl
theorem zbU{s:ByteArray}(h:s.size≤180):shT s=.tuple #[.string (vtB s.size++s),.bool true]:=by rw [qr (by omega)];rfl
theorem Ji{n:Nat}(h:n≤1000000000):(vtB n).size≤5:=by rw [yc];exact Yz h
theorem ZD(f:Fr)(w:World)(hs:f.body.size≤1099511627776)(ht:SumTab w):
    Calls Tryz.prog 103 #[f.v] w fun e w'=>e=.returned (ftT f)∧Below w.heap.size w w':=by
  obtain⟨c0,c1,c2⟩:=yT w f;have b0:Below w.heap.size w (w.alloc (.cells #[.int .i64 f.gen,.int .i64 f.seq,.string f.body] 107)):=(Below.refl _ _).alloc (Nat.le_refl _) _;have HT:Hid (∀ x,Below w.heap.size w x→SumTab x):=fun x hb=>ht.later hb;clear ht;have e0:f.v=.agg #[.int .i64 f.gen,.int .i64 f.seq,.string f.body]:=rfl;rw [e0];by_cases hok:f.ok
  · have hft:=hid (Zq hok)
    have hse:=hid (zak hok);have hg:=hid (QP hok.1);have hq:=hid (QP hok.2.1);have hb:=hid (zbU hok.2.2.2);have sg:=Ji (n:=f.gen.toNat) (by have:=hok.1;omega);have sq:=Ji (n:=f.seq.toNat) (by have:=hok.2.1;omega);have sb:=Ji (n:=f.body.size) (by have:=hok.2.2.2;omega);have hre:=hid (zbZ f);have hrs:=Fr.raw_size hok;have hb180:=hok.2.2.2;have hokd:=hid (decide_eq_true hok);have HOK:=hid hok;have hadd1:=fun wx=>run_string_add_sum (P:=Tryz.prog) (w:=wx) (vtB f.gen.toNat) (vtB f.seq.toNat) (by omega);have hadd2:=fun wx=>run_string_add_sum (P:=Tryz.prog) (w:=wx) (vtB f.gen.toNat++vtB f.seq.toNat) (vtB f.body.size++f.body) (by simp only [ByteArray.size_append];omega);rw [←hre.out] at hadd2;have HC:Hid (∀ x,Below (w.alloc (.cells #[.int .i64 f.gen,.int .i64 f.seq,.string f.body] 107)).heap.size (w.alloc (.cells #[.int .i64 f.gen,.int .i64 f.seq,.string f.body] 107)) x→x.cell? ⟨w.heap.size,0,none⟩=some (.int .i64 f.gen)∧x.cell? ⟨w.heap.size,1,none⟩=some (.int .i64 f.seq)∧x.cell? ⟨w.heap.size,2,none⟩=some (.string f.body)∧Below w.heap.size w x):=by
      intro x hb;refine⟨(hb.cell (p:=⟨w.heap.size,0,none⟩) (by simp)).trans c0,(hb.cell (p:=⟨w.heap.size,1,none⟩) (by simp)).trans c1,(hb.cell (p:=⟨w.heap.size,2,none⟩) (by simp)).trans c2,b0.trans (hb.mono b0.size)⟩
    clear hok;go_enter Tryz.func103,Tryz.ntmps103
    go_wp2_with fail
    generalize w.alloc (.cells #[.int .i64 f.gen,.int .i64 f.seq,.string f.body] 107)=W at *;refine(Zw f _ hs).mono ?_;rintro e w1 ⟨rfl,k1⟩;rw [hokd.out];obtain⟨d0,_,_,_⟩:=HC.out _ k1;go_wp2_with fail
    refine(zP _ _).mono ?_;rintro e w2 ⟨rfl,k2⟩;rw [hg.out];have j2:=k1.trans (k2.mono k1.size);obtain⟨_,d1,_,_⟩:=HC.out _ j2;clear d0;go_wp2_with fail
    refine(zP _ _).mono ?_;rintro e w3 ⟨rfl,k3⟩;rw [hq.out];have j3:=j2.trans (k3.mono j2.size);obtain⟨_,_,d2,_⟩:=HC.out _ j3;clear d1;go_wp2_with fail
    refine(yt _ _ hs).mono ?_;rintro e w4 ⟨rfl,k4⟩;rw [hb.out];have j4:=j3.trans (k4.mono j3.size);obtain⟨_,_,_,b4⟩:=HC.out _ j4;clear d2;go_wp2_with fail
    refine(Vx f.raw _ (by omega) (HT.out _ b4)).mono ?_;rintro e w5 ⟨rfl,k5⟩;rw [hse.out];go_wp2;go_ret2
    exact⟨by rw [hft.out];rfl,b4.trans (k5.mono b4.size)⟩
  · have hft:=hid (Qe hok)
    have hokd:=hid (decide_eq_false hok);clear hok;go_enter Tryz.func103,Tryz.ntmps103
    go_wp2_with fail
    generalize w.alloc (.cells #[.int .i64 f.gen,.int .i64 f.seq,.string f.body] 107)=W at *;refine(Zw f _ hs).mono ?_;rintro e w1 ⟨rfl,k1⟩;rw [hokd.out];go_wp2;go_ret2
    exact⟨by rw [hft.out];rfl,b0.trans (k1.mono b0.size)⟩
theorem QD(n:Int)(w:World)(h0:0≤n)(hn:n≤1000000000):
    Calls Tryz.prog 108 #[.int .i64 n] w fun e w'=>e=.returned (.string (vtB n.toNat))∧Below w.heap.size w w':=by
  have:=yR n.toNat w (by omega);rw [Int.toNat_of_nonneg h0] at this;exact this
theorem Zk (f:Fr) (w:World) (hs:f.body.size≤1099511627776):
    Calls Tryz.prog 77 #[f.v] w fun e w'=>e=.returned (ftT f)∧Below w.heap.size w w':=by
  obtain⟨c0,c1,c2⟩:=yT w f;have b0:Below w.heap.size w (w.alloc (.cells #[.int .i64 f.gen,.int .i64 f.seq,.string f.body] 107)):=(Below.refl _ _).alloc (Nat.le_refl _) _;have e0:f.v=.agg #[.int .i64 f.gen,.int .i64 f.seq,.string f.body]:=rfl;rw [e0];by_cases hok:f.ok
  · have hft:=hid (Zq hok)
    have hse:=hid (zak hok);have sg:=Ji (n:=f.gen.toNat) (by have:=hok.1;omega);have sq:=Ji (n:=f.seq.toNat) (by have:=hok.2.1;omega);have sb:=Ji (n:=f.body.size) (by have:=hok.2.2.2;omega);have hre:=hid (zcv f);have hrs:=Fr.raw_size hok;have hb180:=hok.2.2.2;have hokd:=hid (decide_eq_true hok);obtain⟨⟨hg1,hg2⟩,⟨hq1,hq2⟩,_⟩:=id hok;have hadd1:=fun wx=>run_string_add_sum (P:=Tryz.prog) (w:=wx) (vtB f.gen.toNat) (vtB f.seq.toNat) (by omega);have hadd2:=fun wx=>run_string_add_sum (P:=Tryz.prog) (w:=wx) (vtB f.gen.toNat++vtB f.seq.toNat) (vtB f.body.size) (by simp only [ByteArray.size_append];omega);have hadd3:=fun wx=>run_string_add_sum (P:=Tryz.prog) (w:=wx) (vtB f.gen.toNat++vtB f.seq.toNat++vtB f.body.size) f.body (by simp only [ByteArray.size_append];omega);rw [←hre.out] at hadd3;have HC:Hid (∀ x,Below (w.alloc (.cells #[.int .i64 f.gen,.int .i64 f.seq,.string f.body] 107)).heap.size (w.alloc (.cells #[.int .i64 f.gen,.int .i64 f.seq,.string f.body] 107)) x→(x.cell? ⟨w.heap.size,0,none⟩=some (.int .i64 f.gen)∧x.cell? ⟨w.heap.size,1,none⟩=some (.int .i64 f.seq)∧x.cell? ⟨w.heap.size,2,none⟩=some (.string f.body))∧Below w.heap.size w x):=by
      intro x hb;refine⟨⟨(hb.cell (p:=⟨w.heap.size,0,none⟩) (by simp)).trans c0,(hb.cell (p:=⟨w.heap.size,1,none⟩) (by simp)).trans c1,(hb.cell (p:=⟨w.heap.size,2,none⟩) (by simp)).trans c2⟩,b0.trans (hb.mono b0.size)⟩
    clear hok;go_enter Tryz.func77,Tryz.ntmps77
    go_wp2_with fail
    generalize w.alloc (.cells #[.int .i64 f.gen,.int .i64 f.seq,.string f.body] 107)=W at *;refine(Zu f _ hs).mono ?_;rintro e w1 ⟨rfl,k1⟩;rw [hokd.out];have b1:=b0.trans (k1.mono b0.size);obtain⟨⟨d0,d1,d2⟩,_⟩:=HC.out _ k1;have HK0:Hid (w1.drew.cell? ⟨w.heap.size,0,none⟩=some (.int .i64 f.gen)∧w1.drew.cell? ⟨w.heap.size,1,none⟩=some (.int .i64 f.seq)∧w1.drew.cell? ⟨w.heap.size,2,none⟩=some (.string f.body)∧Below w1.heap.size w1 w1.drew):=⟨d0,d1,d2,(Below.refl _ _).drew⟩;have HK1:Hid (∀ x y:World,(x.cell? ⟨w.heap.size,0,none⟩=some (.int .i64 f.gen)∧x.cell? ⟨w.heap.size,1,none⟩=some (.int .i64 f.seq)∧x.cell? ⟨w.heap.size,2,none⟩=some (.string f.body)∧Below w1.heap.size w1 x)→Below x.heap.size x y→(y.cell? ⟨w.heap.size,0,none⟩=some (.int .i64 f.gen)∧y.cell? ⟨w.heap.size,1,none⟩=some (.int .i64 f.seq)∧y.cell? ⟨w.heap.size,2,none⟩=some (.string f.body)∧Below w1.heap.size w1 y)):=
      fun x y h hb=>⟨(hb.cell (p:=⟨w.heap.size,0,none⟩) (World.block_lt_of_cell? _ _ h.1)).trans h.1,(hb.cell (p:=⟨w.heap.size,1,none⟩) (World.block_lt_of_cell? _ _ h.2.1)).trans h.2.1,(hb.cell (p:=⟨w.heap.size,2,none⟩) (World.block_lt_of_cell? _ _ h.2.2.1)).trans h.2.2.1,h.2.2.2.trans (hb.mono h.2.2.2.size)⟩
    clear c0 c1 c2 HC k1;go_wp2_with fail
    go_region_held3 (fun x=>x.cell? ⟨w.heap.size,0,none⟩=some (.int .i64 f.gen)∧x.cell? ⟨w.heap.size,1,none⟩=some (.int .i64 f.seq)∧x.cell? ⟨w.heap.size,2,none⟩=some (.string f.body)∧Below w1.heap.size w1 x)
      (first | exact HK0.out | exact HK1.out _ _ (by assumption) k1)
      (first
        |(go_at_call 108;refine(QD _ _ (by omega) (by omega)).mono ?_;rintro e w2 ⟨rfl,k1⟩;try rw [Int.toNat_natCast])
        |(go_at_call 107;refine(Yc f.raw _ (by omega)).mono ?_;rintro e w2 ⟨rfl,k1⟩;rw [hse.out]))
    all_goals
      rename_i hHeld
      have BH:=hid hHeld.2.2.2
      clear hHeld HK0 HK1
      go_wp2
      go_ret2
      exact⟨by rw [hft.out];rfl,b1.trans (BH.out.mono b1.size)⟩
  · have hft:=hid (Qe hok)
    have hokd:=hid (decide_eq_false hok);clear hok;go_enter Tryz.func77,Tryz.ntmps77
    go_wp2_with fail
    generalize w.alloc (.cells #[.int .i64 f.gen,.int .i64 f.seq,.string f.body] 107)=W at *;refine(Zu f _ hs).mono ?_;rintro e w1 ⟨rfl,k1⟩;rw [hokd.out];go_wp2;go_ret2
    exact⟨by rw [hft.out];rfl,b0.trans (k1.mono b0.size)⟩

/- Frames: what ReadFrame hands back, of the model and of the program. -/
def zeroFr:Fr:=⟨0,0,⟨#[]⟩⟩
def ruA (s:ByteArray) (a:Int):Option (Fr×Nat):=if 0≤a∧a≤s.size then ru s a.toNat else none
def rfA (s:ByteArray) (a:Int):Option (Fr×Nat):=if 0≤a∧a≤s.size then rf fourOf s a.toNat else none
def rfT (s:ByteArray) (a:Int):Value:=
  match rfA s a with
  | some (f,e)=>.tuple #[f.v,.int .i64 e,.bool true]
  | none=>.tuple #[zeroFr.v,.int .i64 0,.bool false]
theorem yA{s:ByteArray}{a:Int}{f:Fr}{e:Nat}(h:rfA s a=some (f,e)):rfT s a=.tuple #[f.v,.int .i64 e,.bool true]:=by rw [rfT,h]
theorem Za{s:ByteArray}{a:Int}(h:rfA s a=none):rfT s a=.tuple #[zeroFr.v,.int .i64 0,.bool false]:=by rw [rfT,h]
theorem jv{s:ByteArray}{a:Int}(h:ruA s a=none):rfA s a=none:=by
  unfold ruA at h;unfold rfA
  split
  · rename_i h1
    rw [if_pos h1] at h;exact zb3 h
  · rfl
theorem ZR{s:ByteArray}{k:Nat}(h:k≤s.size):rfA s (k:Int)=rf fourOf s k:=by rw [rfA,if_pos (by omega),Int.toNat_natCast]
theorem QH{s:ByteArray}{a:Int}{x:Fr×Nat}(h:ruA s a=some x):∃ k:Nat,a=(k:Int)∧k≤s.size∧ru s k=some x:=by
  unfold ruA at h
  split at h
  · rename_i h1
    refine⟨a.toNat,?_,?_,h⟩
    · rw [Int.toNat_of_nonneg h1.1]
    · omega
  · cases h
theorem JV(s:ByteArray)(a:Int):(rvT s a=zeroT∧(¬(0≤a∧a≤s.size)∨rv s.data.toList a.toNat=none))∨
    (∃ n b:Nat,rvT s a=.tuple #[.int .i64 n,.int .i64 b,.bool true]∧(0≤a∧a≤s.size)∧rv s.data.toList a.toNat=some (n,b)):=by
  by_cases h:0≤a∧a≤s.size
  · obtain⟨k,rfl⟩:=Int.eq_ofNat_of_zero_le h.1
    have hk:k≤s.size:=by omega
    cases hr:rv s.data.toList k with
    | none=>exact .inl ⟨Zt hk hr,.inr (by simpa using hr)⟩
    | some x=>
      obtain⟨n,b⟩:=x;exact .inr ⟨n,b,ye hk hr,h,by simpa using hr⟩
  · exact .inl ⟨J1 h,.inl h⟩
theorem zaI(s:ByteArray)(a:Int):∃(n b:Nat) (f:Bool),rvT s a=.tuple #[.int .i64 n,.int .i64 b,.bool f]:=by
  rcases JV s a with⟨h,_⟩ |⟨n,b,h,_⟩
  · exact⟨0,0,false,h⟩
  · exact⟨n,b,true,h⟩
theorem zaG(s:ByteArray)(a:Int):∃(t:ByteArray) (b:Int) (f:Bool),rsT s a=.tuple #[.string t,.int .i64 b,.bool f]:=zbf s a
theorem QG (s:ByteArray) (a:Int):(rvT s a=zeroT∧ruA s a=none)∨
    (∃ g a1:Nat,rvT s a=.tuple #[.int .i64 g,.int .i64 a1,.bool true]∧rvT s a1=zeroT∧ruA s a=none)∨
    (∃ g a1 q b1:Nat,rvT s a=.tuple #[.int .i64 g,.int .i64 a1,.bool true]∧rvT s a1=.tuple #[.int .i64 q,.int .i64 b1,.bool true]∧rsT s b1=zeroS∧ruA s a=none)∨
    (∃(g a1 q b1:Nat) (t:ByteArray) (e:Nat),rvT s a=.tuple #[.int .i64 g,.int .i64 a1,.bool true]∧rvT s a1=.tuple #[.int .i64 q,.int .i64 b1,.bool true]∧rsT s b1=.tuple #[.string t,.int .i64 e,.bool true]∧ruA s a=some (⟨g,q,t⟩,e)):=by
  rcases JV s a with⟨h1,h2⟩ |⟨g,a1,h1,hr,h2⟩
  · refine .inl ⟨h1,?_⟩
    unfold ruA
    split
    · rename_i h
      rcases h2 with h2 | h2
      · exact absurd h h2
      · exact zcT h2
    · rfl
  · obtain⟨k,rfl⟩:=Int.eq_ofNat_of_zero_le hr.1
    rw [Int.toNat_natCast] at h2;have hk:k≤s.size:=by omega
    obtain⟨_,_,hA,_⟩:=Yl h2 hk;have hru:ruA s k=ru s k:=by rw [ruA,if_pos hr,Int.toNat_natCast]
    rw [hru];rcases JV s (a1:Int) with⟨h3,h4⟩ |⟨q,b1,h3,hr3,h4⟩
    · refine .inr (.inl ⟨g,a1,h1,h3,?_⟩)
      rcases h4 with h4 | h4
      · omega
      · exact zcO h2 (by simpa using h4)
    · rw [Int.toNat_natCast] at h4
      obtain⟨_,_,hB,_⟩:=Yl h4 hA;rcases JV s (b1:Int) with⟨h5,h6⟩ |⟨n,c,h5,hr5,h6⟩
      · refine .inr (.inr (.inl ⟨g,a1,q,b1,h1,h3,?_,?_⟩))
        · rcases h6 with h6 | h6
          · omega
          · exact jn hB (by simpa using h6)
        · rcases h6 with h6 | h6
          · omega
          · exact zcV h2 h4 (by simpa using h6)
      · rw [Int.toNat_natCast] at h6
        by_cases hn:n≤20000∧n+c≤s.size
        · refine .inr (.inr (.inr ⟨g,a1,q,b1,s.extract c (c+n),c+n,h1,h3,?_,zbk h2 h4 h6 hn⟩))
          rw [J2 hB h6 hn,Int.natCast_add]
        · exact .inr (.inr (.inl ⟨g,a1,q,b1,h1,h3,Qg hB h6 hn,zcP h2 h4 h6 hn⟩))
def isPre (s p:ByteArray):Bool:=decide (p.size≤s.size∧s.extract 0 p.size=p)
theorem zaK{s p:ByteArray}(h:p.size≤s.size):isPre s p=((s.extract 0 p.size).toList==p.toList):=by
  unfold isPre;by_cases he:s.extract 0 p.size=p
  · simp [h,he]
  · have:¬(s.extract 0 p.size).toList=p.toList:=fun e=>he (by rw [ByteArray.toList_eq,ByteArray.toList_eq] at e;exact Yr e)
    rw [decide_eq_false (fun x=>he x.2)];simp [this]
theorem zbz{s p:ByteArray}(h:¬p.size≤s.size):isPre s p=false:=decide_eq_false (fun x=>h x.1)
theorem Vr(s p:ByteArray)(w:World):
    Calls Tryz.prog 165 #[.string s,.string p] w fun e w'=>e=.returned (.bool (isPre s p))∧w=w':=by
  by_cases h:p.size≤s.size
  · have h2:(p.size:Int)≤(s.size:Int):=by omega
    go_enter Tryz.func165,Tryz.ntmps165
    go_wp2;go_ret;exact⟨by rw [zaK h];rfl,rfl⟩
  · go_enter Tryz.func165,Tryz.ntmps165
    go_wp2;go_ret;exact⟨by rw [zbz h];rfl,rfl⟩
theorem YN(s p:ByteArray)(w:World):
    Calls Tryz.prog 155 #[.string s,.string p] w fun e w'=>e=.returned (.bool (isPre s p))∧w=w':=by
  go_enter Tryz.func155,Tryz.ntmps155
  go_wp2_with (go_at_call 165;refine(Vr _ _ _).mono ?_;rintro e w1 ⟨rfl,rfl⟩)
  go_ret;exact⟨rfl,rfl⟩
def RuR (s:ByteArray) (a:Int) (w:World) (e:Ending) (w':World):Prop:=
  ((∃ f p,ruA s a=some (f,p)∧e=.returned (.tuple #[f.v,.bool true]))∨(ruA s a=none∧∃ f:Fr,e=.returned (.tuple #[f.v,.bool false])))∧Below w.heap.size w w'
theorem Jd(s:ByteArray)(a:Int)(w:World)(hs:s.size≤1099511627776):
    Calls Tryz.prog 154 #[.string s,.int .i64 a] w fun e w'=>RuR s a w e w':=by
  have b0:Below w.heap.size w (w.alloc (.cells #[.int .i64 0,.int .i64 0,.string ⟨#[]⟩] 107)):=(Below.refl _ _).alloc (Nat.le_refl _) _;have hx:=Box.new w #[.int .i64 0,.int .i64 0,.string ⟨#[]⟩] 107;have HC:Hid (∀ x,Below (w.alloc (.cells #[.int .i64 0,.int .i64 0,.string ⟨#[]⟩] 107)).heap.size (w.alloc (.cells #[.int .i64 0,.int .i64 0,.string ⟨#[]⟩] 107)) x→Box x w.heap.size #[.int .i64 0,.int .i64 0,.string ⟨#[]⟩] 107∧Below w.heap.size w x):=
    fun x h=>⟨hx.later h,b0.trans (h.mono b0.size)⟩
  rcases QG s a with⟨h1,h2⟩ |⟨g,a1,h1,h3,h2⟩ |⟨g,a1,q,b1,h1,h3,h4,h2⟩ |⟨g,a1,q,b1,t,e,h1,h3,h4,h2⟩
  · have H1:=hid h1
    have H2:=hid h2;clear h1 h2 hx;go_enter Tryz.func154,Tryz.ntmps154
    go_wp2_with fail
    generalize w.alloc (.cells #[.int .i64 0,.int .i64 0,.string ⟨#[]⟩] 107)=W at *;refine(zw _ _ _ hs).mono ?_;rintro e' w1 ⟨rfl,k1⟩;rw [H1.out,zeroT];obtain⟨x1,b1⟩:=HC.out _ k1;obtain⟨c0,c1,c2,f0,f1,f2⟩:=x1.three;go_wp2;have y:=x1.set3 (.int .i64 0) (.int .i64 0) (.string ⟨#[]⟩);obtain⟨g0,g1,g2,_⟩:=y.three;unfold set3 at g0 g1 g2;refine bodyPost_ret (v:=.tuple #[zeroFr.v,.bool false]) (by simp [results,Tryz.results154,go_sem,g0,g1,g2,Fr.v,zeroFr]) rfl ?_;exact⟨.inr ⟨H2.out,zeroFr,rfl⟩,zv b1 (Nat.le_refl _) (.int .i64 0) (.int .i64 0) (.string ⟨#[]⟩)⟩
  · have H1:=hid h1
    have H2:=hid h2;have H3:=hid h3;clear h1 h2 hx h3;go_enter Tryz.func154,Tryz.ntmps154
    go_wp2_with fail
    generalize w.alloc (.cells #[.int .i64 0,.int .i64 0,.string ⟨#[]⟩] 107)=W at *;refine(zw _ _ _ hs).mono ?_;rintro e' w1 ⟨rfl,k1⟩;rw [H1.out];go_wp2_with fail
    refine(zw _ _ _ hs).mono ?_;rintro e' w2 ⟨rfl,l2⟩;rw [H3.out,zeroT];have k2:=k1.trans (l2.mono k1.size);obtain⟨x2,b2⟩:=HC.out _ k2;obtain⟨c0,c1,c2,f0,f1,f2⟩:=x2.three;go_wp2;have y:=x2.set3 (.int .i64 0) (.int .i64 0) (.string ⟨#[]⟩);obtain⟨g0,g1,g2,_⟩:=y.three;unfold set3 at g0 g1 g2;refine bodyPost_ret (v:=.tuple #[zeroFr.v,.bool false]) (by simp [results,Tryz.results154,go_sem,g0,g1,g2,Fr.v,zeroFr]) rfl ?_;exact⟨.inr ⟨H2.out,zeroFr,rfl⟩,zv b2 (Nat.le_refl _) (.int .i64 0) (.int .i64 0) (.string ⟨#[]⟩)⟩
  · have H1:=hid h1
    have H2:=hid h2;have H3:=hid h3;have H4:=hid h4;clear h1 h2 hx h3 h4;go_enter Tryz.func154,Tryz.ntmps154
    go_wp2_with fail
    generalize w.alloc (.cells #[.int .i64 0,.int .i64 0,.string ⟨#[]⟩] 107)=W at *;refine(zw _ _ _ hs).mono ?_;rintro e' w1 ⟨rfl,k1⟩;rw [H1.out];go_wp2_with fail
    refine(zw _ _ _ hs).mono ?_;rintro e' w2 ⟨rfl,l2⟩;rw [H3.out];have k2:=k1.trans (l2.mono k1.size);go_wp2_with fail
    refine(Zj _ _ _ hs).mono ?_;rintro e' w3 ⟨rfl,l3⟩;rw [H4.out,zeroS];have k3:=k2.trans (l3.mono k2.size);obtain⟨x3,b3⟩:=HC.out _ k3;obtain⟨c0,c1,c2,f0,f1,f2⟩:=x3.three;go_wp2;have y:=x3.set3 (.int .i64 (g:Int)) (.int .i64 (q:Int)) (.string ⟨#[]⟩);obtain⟨g0,g1,g2,_⟩:=y.three;unfold set3 at g0 g1 g2;refine bodyPost_ret (v:=.tuple #[Fr.v ⟨g,q,⟨#[]⟩⟩,.bool false]) (by simp [results,Tryz.results154,go_sem,g0,g1,g2,Fr.v]) rfl ?_;exact⟨.inr ⟨H2.out,⟨g,q,⟨#[]⟩⟩,rfl⟩,zv b3 (Nat.le_refl _) (.int .i64 (g:Int)) (.int .i64 (q:Int)) (.string ⟨#[]⟩)⟩
  · have H1:=hid h1
    have H2:=hid h2;have H3:=hid h3;have H4:=hid h4;clear h1 h2 hx h3 h4;go_enter Tryz.func154,Tryz.ntmps154
    go_wp2_with fail
    generalize w.alloc (.cells #[.int .i64 0,.int .i64 0,.string ⟨#[]⟩] 107)=W at *;refine(zw _ _ _ hs).mono ?_;rintro e' w1 ⟨rfl,k1⟩;rw [H1.out];go_wp2_with fail
    refine(zw _ _ _ hs).mono ?_;rintro e' w2 ⟨rfl,l2⟩;rw [H3.out];have k2:=k1.trans (l2.mono k1.size);go_wp2_with fail
    refine(Zj _ _ _ hs).mono ?_;rintro e' w3 ⟨rfl,l3⟩;rw [H4.out];have k3:=k2.trans (l3.mono k2.size);obtain⟨x3,b3⟩:=HC.out _ k3;obtain⟨c0,c1,c2,f0,f1,f2⟩:=x3.three;go_wp2;have y:=x3.set3 (.int .i64 (g:Int)) (.int .i64 (q:Int)) (.string t);obtain⟨g0,g1,g2,_⟩:=y.three;unfold set3 at g0 g1 g2;refine bodyPost_ret (v:=.tuple #[Fr.v ⟨g,q,t⟩,.bool true]) (by simp [results,Tryz.results154,go_sem,g0,g1,g2,Fr.v]) rfl ?_;exact⟨.inl ⟨_,_,H2.out,rfl⟩,zv b3 (Nat.le_refl _) (.int .i64 (g:Int)) (.int .i64 (q:Int)) (.string t)⟩
theorem zb0{s:ByteArray}{k e:Nat}{f:Fr}(h:ru s k=some (f,e))(hk:k≤s.size):isPre (s.extract k s.size) f.tx=decide (e+4≤s.size∧f.tx=s.extract k (e+4)):=by
  obtain⟨h1,h2,h3,_⟩:=qC h hk;have hsz:f.tx.size=e - k+4:=by rw [Fr.tx_size,h1,ByteArray.size_extract];omega
  unfold isPre;apply decide_eq_decide.2;rw [hsz,ByteArray.size_extract];have e1:∀ m,k+m≤s.size→(s.extract k s.size).extract 0 m=s.extract k (k+m):=by
    intro m hm;apply Yr;rw [zG,zG,zG,List.drop_zero,List.take_take];congr 1;omega
  constructor
  · rintro⟨a1,a2⟩
    rw [e1 _ (by omega)] at a2;refine⟨by omega,?_⟩;rw [show e+4=k+(e - k+4) by omega];exact a2.symm
  · rintro⟨a1,a2⟩
    refine⟨by omega,?_⟩;rw [e1 _ (by omega),a2];congr 1;omega
theorem zU (s:ByteArray) (a:Int) (w:World) (hs:s.size≤1099511627776) (ht:SumTab w):
    Calls Tryz.prog 142 #[.string s,.int .i64 a] w fun e w'=>e=.returned (rfT s a)∧Below w.heap.size w w':=by
  have b0:Below w.heap.size w (w.alloc (.cells #[.int .i64 0,.int .i64 0,.string ⟨#[]⟩] 107)):=(Below.refl _ _).alloc (Nat.le_refl _) _;have hx:=Box.new w #[.int .i64 0,.int .i64 0,.string ⟨#[]⟩] 107;have HC:Hid (∀ x,Below (w.alloc (.cells #[.int .i64 0,.int .i64 0,.string ⟨#[]⟩] 107)).heap.size (w.alloc (.cells #[.int .i64 0,.int .i64 0,.string ⟨#[]⟩] 107)) x→Box x w.heap.size #[.int .i64 0,.int .i64 0,.string ⟨#[]⟩] 107∧Below w.heap.size w x):=
    fun x h=>⟨hx.later h,b0.trans (h.mono b0.size)⟩
  have HT:Hid (∀ x,Below w.heap.size w x→SumTab x):=fun x hb=>ht.later hb;clear hx ht;go_enter Tryz.func142,Tryz.ntmps142
  go_wp2_with fail
  generalize w.alloc (.cells #[.int .i64 0,.int .i64 0,.string ⟨#[]⟩] 107)=W at *;refine(Jd s a _ hs).mono ?_;rintro e w1 ⟨⟨f,p,hu,rfl⟩ |⟨hu,f,rfl⟩,k1⟩
  · obtain⟨k,rfl,hk,hru⟩:=QH hu
    obtain⟨r1,r2,r3,r4,r5,r6⟩:=qC hru hk;have hpre:=hid (zb0 hru hk);have hsz:f.tx.size=p - k+4:=by rw [Fr.tx_size,r1,ByteArray.size_extract];omega
    have hrf:=hid (ZR hk);have HU:=hid hru;have y2:=Box.new w1 #[.int .i64 f.gen,.int .i64 f.seq,.string f.body] 107;have k2:Below W.heap.size W (w1.alloc (.cells #[.int .i64 f.gen,.int .i64 f.seq,.string f.body] 107)):=k1.alloc k1.size _;have hv:f.v=.agg #[.int .i64 f.gen,.int .i64 f.seq,.string f.body]:=rfl;clear r1 hu hru;rw [hv];go_upto_region 2 with fail
    generalize w1.alloc (.cells #[.int .i64 f.gen,.int .i64 f.seq,.string f.body] 107)=w2 at y2 k2 ⊢;obtain⟨c0,c1,c2,_,_,_⟩:=y2.three;obtain⟨_,b2⟩:=HC.out _ k2;go_wp2_with fail
    rw [←hv];refine(ZD f _ (by omega) (HT.out _ b2)).mono ?_;rintro e w3 ⟨rfl,k3⟩;clear c0 c1 c2;have y3:=y2.later k3;have j3:=k2.trans (k3.mono k2.size);obtain⟨x3,b3⟩:=HC.out _ j3;obtain⟨c0,c1,c2,f0,f1,f2⟩:=x3.three;by_cases hok:f.ok
    · rw [Zq hok]
      have hle:=Fr.tx_le hok;have hks:(k:Int)≤(s.size:Int):=(by omega);by_cases hp:p+4≤s.size∧f.tx=s.extract k (p+4)
      · have hpt:isPre (s.extract k s.size) f.tx=true:=by rw [hpre.out];exact decide_eq_true hp
        have HZ:=hid (yA (hrf.out.trans (xv HU.out ⟨hok,hp.1,hp.2⟩)));have HP:=hid hpt;obtain⟨g0,g1,g2,_,_,_⟩:=y3.three;clear hp hpt hpre hok;go_wp2_with (first |(go_at_call 155;refine(YN _ _ _).mono ?_;rintro e w4 ⟨rfl,rfl⟩;rw [HP.out]))
        have y:=x3.set3 (.int .i64 f.gen) (.int .i64 f.seq) (.string f.body);obtain⟨q0,q1,q2,_⟩:=y.three;unfold set3 at q0 q1 q2;refine bodyPost_ret (v:=.tuple #[f.v,.int .i64 ((p+4:Nat):Int),.bool true]) (by simp [results,Tryz.results142,go_sem,q0,q1,q2,Fr.v];omega) rfl ?_;exact⟨by rw [HZ.out],zv b3 (Nat.le_refl _) _ _ _⟩
      · have hpt:isPre (s.extract k s.size) f.tx=false:=by rw [hpre.out];exact decide_eq_false hp
        have HZ:=hid (Za (hrf.out.trans (xf HU.out (fun h=>hp ⟨h.2.1,h.2.2⟩))));have HP:=hid hpt;clear hp hpt hpre hok;go_wp2_with (first |(go_at_call 155;refine(YN _ _ _).mono ?_;rintro e w4 ⟨rfl,rfl⟩;rw [HP.out]))
        have y:=x3.set3 (.int .i64 0) (.int .i64 0) (.string ⟨#[]⟩);obtain⟨q0,q1,q2,_⟩:=y.three;unfold set3 at q0 q1 q2;refine bodyPost_ret (v:=.tuple #[zeroFr.v,.int .i64 0,.bool false]) (by simp [results,Tryz.results142,go_sem,q0,q1,q2,Fr.v,zeroFr]) rfl ?_;exact⟨by rw [HZ.out],zv b3 (Nat.le_refl _) _ _ _⟩
    · rw [Qe hok]
      have HZ:=hid (Za (hrf.out.trans (xf HU.out (fun h=>hok h.1))));clear hok hpre;go_wp2;have y:=x3.set3 (.int .i64 0) (.int .i64 0) (.string ⟨#[]⟩);obtain⟨q0,q1,q2,_⟩:=y.three;unfold set3 at q0 q1 q2;refine bodyPost_ret (v:=.tuple #[zeroFr.v,.int .i64 0,.bool false]) (by simp [results,Tryz.results142,go_sem,q0,q1,q2,Fr.v,zeroFr]) rfl ?_;exact⟨by rw [HZ.out],zv b3 (Nat.le_refl _) _ _ _⟩
  · have HZ:=hid (Za (jv hu))
    have y2:=Box.new w1 #[.int .i64 f.gen,.int .i64 f.seq,.string f.body] 107;have k2:Below W.heap.size W (w1.alloc (.cells #[.int .i64 f.gen,.int .i64 f.seq,.string f.body] 107)):=k1.alloc k1.size _;clear hu;unfold Fr.v;go_upto_region 2 with fail
    generalize w1.alloc (.cells #[.int .i64 f.gen,.int .i64 f.seq,.string f.body] 107)=w2 at y2 k2 ⊢;obtain⟨x2,b2⟩:=HC.out _ k2;obtain⟨c0,c1,c2,f0,f1,f2⟩:=x2.three;go_wp2;have y:=x2.set3 (.int .i64 0) (.int .i64 0) (.string ⟨#[]⟩);obtain⟨q0,q1,q2,_⟩:=y.three;unfold set3 at q0 q1 q2;refine bodyPost_ret (v:=.tuple #[zeroFr.v,.int .i64 0,.bool false]) (by simp [results,Tryz.results142,go_sem,q0,q1,q2,Fr.v,zeroFr]) rfl ?_;exact⟨by rw [HZ.out],zv b2 (Nat.le_refl _) _ _ _⟩

/- Frames: what the model's ReadFrame hands back. -/
theorem ji(s t:ByteArray)(k e:Nat):(t.toList==(s.extract k e).toList)=decide (t=s.extract k e):=by
  by_cases h:t=s.extract k e
  · simp [h]
  · have:¬t.toList=(s.extract k e).toList:=fun e=>h (by rw [ByteArray.toList_eq,ByteArray.toList_eq] at e;exact Yr e)
    rw [decide_eq_false h];simp [this]
theorem Zi (s:ByteArray) (a:Int) (w:World) (hs:s.size≤1099511627776):
    Calls Tryz.prog 113 #[.string s,.int .i64 a] w fun e w'=>e=.returned (rfT s a)∧Below w.heap.size w w':=by
  have b0:Below w.heap.size w (w.alloc (.cells #[.int .i64 0,.int .i64 0,.string ⟨#[]⟩] 107)):=(Below.refl _ _).alloc (Nat.le_refl _) _;have hx:=Box.new w #[.int .i64 0,.int .i64 0,.string ⟨#[]⟩] 107;have HC:Hid (∀ x,Below (w.alloc (.cells #[.int .i64 0,.int .i64 0,.string ⟨#[]⟩] 107)).heap.size (w.alloc (.cells #[.int .i64 0,.int .i64 0,.string ⟨#[]⟩] 107)) x→Box x w.heap.size #[.int .i64 0,.int .i64 0,.string ⟨#[]⟩] 107∧Below w.heap.size w x):=
    fun x h=>⟨hx.later h,b0.trans (h.mono b0.size)⟩
  have HV:Hid (∀ a,∃(n b:Nat) (f:Bool),rvT s a=.tuple #[.int .i64 n,.int .i64 b,.bool f]):=fun a=>zaI s a;have HS:Hid (∀ a,∃(t:ByteArray) (b:Int) (f:Bool),rsT s a=.tuple #[.string t,.int .i64 b,.bool f]):=fun a=>zaG s a;clear hx;rcases QG s a with⟨h1,h2⟩ |⟨g,a1,h1,h3,h2⟩ |⟨g,a1,q,b1,h1,h3,h4,h2⟩ |⟨g,a1,q,b1,t,e,h1,h3,h4,h2⟩
  · have H1:=hid h1
    have HZ:=hid (Za (jv h2));clear h1 h2;go_enter Tryz.func113,Tryz.ntmps113
    go_wp2_with fail
    generalize w.alloc (.cells #[.int .i64 0,.int .i64 0,.string ⟨#[]⟩] 107)=W at *;refine(zm _ _ _ hs).mono ?_;rintro e' w1 ⟨rfl,l1⟩;rw [H1.out,zeroT];have k1:=l1;obtain⟨n2,c2,g2,H2⟩:=HV.out 0;have H2:=hid H2;go_wp2_with fail
    refine(zm _ _ _ hs).mono ?_;rintro e' w2 ⟨rfl,l2⟩;rw [H2.out];have k2:=k1.trans (l2.mono k1.size);obtain⟨t3,c3,g3,H3⟩:=HS.out c2;have H3:=hid H3;go_wp2_with fail
    refine(zL _ _ _ hs).mono ?_;rintro e' w3 ⟨rfl,l3⟩;rw [H3.out];have k3:=k2.trans (l3.mono k2.size);have y4:=Box.new w3 #[.int .i64 0,.int .i64 (n2:Int),.string t3] 107;have k4:Below W.heap.size W (w3.alloc (.cells #[.int .i64 0,.int .i64 (n2:Int),.string t3] 107)):=k3.alloc k3.size _;go_upto_region 5 with fail
    generalize w3.alloc (.cells #[.int .i64 0,.int .i64 (n2:Int),.string t3] 107)=w4 at y4 k4 ⊢;obtain⟨x4,b4'⟩:=HC.out _ k4;obtain⟨c0,c1,c2,f0,f1,f2⟩:=x4.three;go_wp2;have y:=x4.set3 (.int .i64 0) (.int .i64 0) (.string ⟨#[]⟩);obtain⟨q0,q1,q2,_⟩:=y.three;unfold set3 at q0 q1 q2;refine bodyPost_ret (v:=.tuple #[zeroFr.v,.int .i64 0,.bool false]) (by simp [results,Tryz.results113,go_sem,q0,q1,q2,Fr.v,zeroFr]) rfl ?_;exact⟨by rw [HZ.out],zv b4' (Nat.le_refl _) _ _ _⟩
  · have H1:=hid h1
    have H2:=hid h3;have HZ:=hid (Za (jv h2));clear h1 h2 h3;go_enter Tryz.func113,Tryz.ntmps113
    go_wp2_with fail
    generalize w.alloc (.cells #[.int .i64 0,.int .i64 0,.string ⟨#[]⟩] 107)=W at *;refine(zm _ _ _ hs).mono ?_;rintro e' w1 ⟨rfl,l1⟩;rw [H1.out];have k1:=l1;go_wp2_with fail
    refine(zm _ _ _ hs).mono ?_;rintro e' w2 ⟨rfl,l2⟩;rw [H2.out,zeroT];have k2:=k1.trans (l2.mono k1.size);obtain⟨t3,c3,g3,H3⟩:=HS.out 0;have H3:=hid H3;go_wp2_with fail
    refine(zL _ _ _ hs).mono ?_;rintro e' w3 ⟨rfl,l3⟩;rw [H3.out];have k3:=k2.trans (l3.mono k2.size);have y4:=Box.new w3 #[.int .i64 (g:Int),.int .i64 0,.string t3] 107;have k4:Below W.heap.size W (w3.alloc (.cells #[.int .i64 (g:Int),.int .i64 0,.string t3] 107)):=k3.alloc k3.size _;go_upto_region 5 with fail
    generalize w3.alloc (.cells #[.int .i64 (g:Int),.int .i64 0,.string t3] 107)=w4 at y4 k4 ⊢;obtain⟨x4,b4'⟩:=HC.out _ k4;obtain⟨c0,c1,c2,f0,f1,f2⟩:=x4.three;go_wp2;have y:=x4.set3 (.int .i64 0) (.int .i64 0) (.string ⟨#[]⟩);obtain⟨q0,q1,q2,_⟩:=y.three;unfold set3 at q0 q1 q2;refine bodyPost_ret (v:=.tuple #[zeroFr.v,.int .i64 0,.bool false]) (by simp [results,Tryz.results113,go_sem,q0,q1,q2,Fr.v,zeroFr]) rfl ?_;exact⟨by rw [HZ.out],zv b4' (Nat.le_refl _) _ _ _⟩
  · have H1:=hid h1
    have H2:=hid h3;have H3:=hid h4;have HZ:=hid (Za (jv h2));clear h1 h2 h3 h4;go_enter Tryz.func113,Tryz.ntmps113
    go_wp2_with fail
    generalize w.alloc (.cells #[.int .i64 0,.int .i64 0,.string ⟨#[]⟩] 107)=W at *;refine(zm _ _ _ hs).mono ?_;rintro e' w1 ⟨rfl,l1⟩;rw [H1.out];have k1:=l1;go_wp2_with fail
    refine(zm _ _ _ hs).mono ?_;rintro e' w2 ⟨rfl,l2⟩;rw [H2.out];have k2:=k1.trans (l2.mono k1.size);go_wp2_with fail
    refine(zL _ _ _ hs).mono ?_;rintro e' w3 ⟨rfl,l3⟩;rw [H3.out,zeroS];have k3:=k2.trans (l3.mono k2.size);have y4:=Box.new w3 #[.int .i64 (g:Int),.int .i64 (q:Int),.string ⟨#[]⟩] 107;have k4:Below W.heap.size W (w3.alloc (.cells #[.int .i64 (g:Int),.int .i64 (q:Int),.string ⟨#[]⟩] 107)):=k3.alloc k3.size _;go_upto_region 5 with fail
    generalize w3.alloc (.cells #[.int .i64 (g:Int),.int .i64 (q:Int),.string ⟨#[]⟩] 107)=w4 at y4 k4 ⊢;obtain⟨x4,b4'⟩:=HC.out _ k4;obtain⟨c0,c1,c2,f0,f1,f2⟩:=x4.three;go_wp2;have y:=x4.set3 (.int .i64 0) (.int .i64 0) (.string ⟨#[]⟩);obtain⟨q0,q1,q2,_⟩:=y.three;unfold set3 at q0 q1 q2;refine bodyPost_ret (v:=.tuple #[zeroFr.v,.int .i64 0,.bool false]) (by simp [results,Tryz.results113,go_sem,q0,q1,q2,Fr.v,zeroFr]) rfl ?_;exact⟨by rw [HZ.out],zv b4' (Nat.le_refl _) _ _ _⟩
  · have H1:=hid h1
    have H2:=hid h3;have H3:=hid h4;obtain⟨k,rfl,hk,hru⟩:=QH h2;obtain⟨r1,r2,r3,r4,r5,r6⟩:=qC hru hk;have hrf:=hid (ZR hk);have HU:=hid hru;obtain⟨f,hf⟩:∃ f:Fr,(⟨g,q,t⟩:Fr)=f:=⟨_,rfl⟩;have HF:=hid hf;have hv:Hid (f.v=.agg #[.int .i64 (g:Int),.int .i64 (q:Int),.string t]):=by rw [←hf];rfl
    have hk0:(0:Int)≤(k:Int):=by omega
    have hke:(k:Int)≤(e:Int):=by omega
    rw [hf] at r6;clear h1 h2 h3 h4 r1 r4 r5 hru hf;go_enter Tryz.func113,Tryz.ntmps113
    go_wp2_with fail
    generalize w.alloc (.cells #[.int .i64 0,.int .i64 0,.string ⟨#[]⟩] 107)=W at *;refine(zm _ _ _ hs).mono ?_;rintro e' w1 ⟨rfl,l1⟩;rw [H1.out];have k1:=l1;go_wp2_with fail
    refine(zm _ _ _ hs).mono ?_;rintro e' w2 ⟨rfl,l2⟩;rw [H2.out];have k2:=k1.trans (l2.mono k1.size);go_wp2_with fail
    refine(zL _ _ _ hs).mono ?_;rintro e' w3 ⟨rfl,l3⟩;rw [H3.out];have k3:=k2.trans (l3.mono k2.size);have y4:=Box.new w3 #[.int .i64 (g:Int),.int .i64 (q:Int),.string t] 107;have k4:Below W.heap.size W (w3.alloc (.cells #[.int .i64 (g:Int),.int .i64 (q:Int),.string t] 107)):=k3.alloc k3.size _;go_upto_region 5 with fail
    generalize w3.alloc (.cells #[.int .i64 (g:Int),.int .i64 (q:Int),.string t] 107)=w4 at y4 k4 ⊢;by_cases hlen:e+4≤s.size
    · obtain⟨c0,c1,c2,_,_,_⟩:=y4.three
      have hl1:(e:Int)≤(s.size:Int) - 4:=(by omega);go_wp2_with fail
      rw [←hv.out];refine(Zk f _ (by omega)).mono ?_;rintro e' w5 ⟨rfl,l5⟩;have j5:=k4.trans (l5.mono k4.size);have y5:=y4.later l5;clear c0 c1 c2;by_cases hok:f.ok
      · rw [Zq hok]
        have hle:=Fr.tx_le hok;have hfm:=ji s f.tx k (e+4);by_cases hp:f.tx=s.extract k (e+4)
        · have HZ:=hid (yA (hrf.out.trans (xv HU.out (by rw [HF.out];exact⟨hok,hlen,hp⟩))))
          obtain⟨g0,g1,g2,_,_,_⟩:=y5.three;obtain⟨x5,b5⟩:=HC.out _ j5;obtain⟨c0,c1,c2,f0,f1,f2⟩:=x5.three;rw [decide_eq_true hp] at hfm;clear hp hok;go_wp2;have y:=x5.set3 (.int .i64 (g:Int)) (.int .i64 (q:Int)) (.string t);obtain⟨q0,q1,q2,_⟩:=y.three;unfold set3 at q0 q1 q2;refine bodyPost_ret (v:=.tuple #[Fr.v ⟨g,q,t⟩,.int .i64 ((e+4:Nat):Int),.bool true]) (by simp [results,Tryz.results113,go_sem,q0,q1,q2,Fr.v]) rfl ?_;exact⟨by rw [HZ.out],zv b5 (Nat.le_refl _) _ _ _⟩
        · have HZ:=hid (Za (hrf.out.trans (xf HU.out (by rw [HF.out];exact fun h=>hp h.2.2))))
          rw [decide_eq_false hp] at hfm;clear hp hok;obtain⟨x5,b5'⟩:=HC.out _ j5;obtain⟨c0,c1,c2,f0,f1,f2⟩:=x5.three;go_wp2;have y:=x5.set3 (.int .i64 0) (.int .i64 0) (.string ⟨#[]⟩);obtain⟨q0,q1,q2,_⟩:=y.three;unfold set3 at q0 q1 q2;refine bodyPost_ret (v:=.tuple #[zeroFr.v,.int .i64 0,.bool false]) (by simp [results,Tryz.results113,go_sem,q0,q1,q2,Fr.v,zeroFr]) rfl ?_;exact⟨by rw [HZ.out],zv b5' (Nat.le_refl _) _ _ _⟩
      · rw [Qe hok]
        have HZ:=hid (Za (hrf.out.trans (xf HU.out (by rw [HF.out];exact fun h=>hok h.1))));clear hok;obtain⟨x5,b5'⟩:=HC.out _ j5;obtain⟨c0,c1,c2,f0,f1,f2⟩:=x5.three;go_wp2;have y:=x5.set3 (.int .i64 0) (.int .i64 0) (.string ⟨#[]⟩);obtain⟨q0,q1,q2,_⟩:=y.three;unfold set3 at q0 q1 q2;refine bodyPost_ret (v:=.tuple #[zeroFr.v,.int .i64 0,.bool false]) (by simp [results,Tryz.results113,go_sem,q0,q1,q2,Fr.v,zeroFr]) rfl ?_;exact⟨by rw [HZ.out],zv b5' (Nat.le_refl _) _ _ _⟩
    · have HZ:=hid (Za (hrf.out.trans (xf HU.out (fun h=>hlen h.2.1))))
      have hl1:(s.size:Int) - 4 <(e:Int):=(by omega);clear hlen;obtain⟨x4,b4'⟩:=HC.out _ k4;obtain⟨c0,c1,c2,f0,f1,f2⟩:=x4.three;go_wp2;have y:=x4.set3 (.int .i64 0) (.int .i64 0) (.string ⟨#[]⟩);obtain⟨q0,q1,q2,_⟩:=y.three;unfold set3 at q0 q1 q2;refine bodyPost_ret (v:=.tuple #[zeroFr.v,.int .i64 0,.bool false]) (by simp [results,Tryz.results113,go_sem,q0,q1,q2,Fr.v,zeroFr]) rfl ?_;exact⟨by rw [HZ.out],zv b4' (Nat.le_refl _) _ _ _⟩

/- How frames lie in memory. -/
def frE:Enc Fr where
  ty:=107
  sty:=114
  sz:=3
  bytes:=32
  zero:=.agg #[.int .i64 0,.int .i64 0,.string ⟨#[]⟩]
  f:=fun x=> [.int .i64 x.gen,.int .i64 x.seq,.string x.body]
  len:=fun _=>rfl
  pos:=by decide
  one:=fun _ u hu=>by simp at hu;rcases hu with rfl | rfl | rfl <;> rfl
  und:=Tryz.underlying114
  info:=by kernel_rfl
  zc:=rfl
  z0:=⟨0,0,⟨#[]⟩⟩
  zf:=rfl
theorem XC{α:Type}(E:Enc α)(w:World)(x:α):∀ j u,(E.row [x])[j]? =some u→(w.alloc (.cells (E.f x).toArray E.ty)).cell? ((⟨w.heap.size,0,none⟩:Addr).add j)=some u:=by
  intro j u hj;rw [E.row_one] at hj;rw [Addr.add_lit,Nat.zero_add];exact(Box.new w (E.f x).toArray E.ty).cell j u (by simpa using hj)

/- Frames: what the model's ScanFrames hands back. -/
def scan (s:ByteArray) (g:Int):List (Fr×Nat):=sq fourOf s g 0
def scanL (s:ByteArray) (g:Int):List Fr:=(scan s g).map (·.1)
def scanE (s:ByteArray) (g:Int):Nat:=behind 0 (scan s g)
theorem xi(s:ByteArray)(g:Int):(scanL s g).length≤s.size:=by
  have:=(vK (four:=fourOf) (s:=s) (g:=g) (k:=0) (Nat.zero_le _)).2.1;simpa [scanL,scan] using this
def ScanR (s:ByteArray) (g:Int) (w:World) (e:Ending) (w':World):Prop:=
  ∃ v,e=.returned (.tuple #[v,.int .i64 (scanE s g:Int)])∧RBuf frE w.heap.size w w' v (scanL s g)
theorem jf (s:ByteArray) (g:Int) (w:World) (hs:s.size≤1099511627776):
    Calls Tryz.prog 111 #[.string s,.int .i64 g] w fun e w'=>ScanR s g w e w':=by
  have hst:=RBuf.fresh frE w;go_enter Tryz.func111,Tryz.ntmps111
  go_wp2;go_loopw [6,7] (fun ov av wr=>∃(pre:List (Fr×Nat)) (k:Nat),k≤s.size∧behind 0 pre=k∧pre++sq fourOf s g k=scan s g∧av=.int .i64 (k:Int)∧RBuf frE w.heap.size w wr ov (pre.map (·.1))) (fun _ av _=>s.size+1 -(intOf av).toNat)
  case atStart=>exact⟨[],0,by omega,rfl,rfl,rfl,hst⟩
  case round=>
    obtain⟨pre,k,hk,hbe,hpre,rfl,hb⟩:=hrel;have HBE:=hid hbe;have HPRE:=hid hpre;have hlen:(pre.map (·.1)).length≤s.size:=by
      have h1:=congrArg List.length hpre;have h2:=(vK (four:=fourOf) (s:=s) (g:=g) (k:=0) (Nat.zero_le _)).2.1;rw [List.length_append] at h1;unfold scan at h1;rw [List.length_map];omega
    clear hbe hpre;go_wp2_with fail
    refine(Zi s k _ (by omega)).mono ?_;rintro e w1 ⟨rfl,k1⟩;have hb1:=hb.later k1;cases hr:rf fourOf s k with
    | none=>
      rw [Za ((ZR hk).trans hr)];have HQ:=hid (qB (g:=g) hr);have hb2:=hid (hb1.alloc (.cells #[.int .i64 0,.int .i64 0,.string ⟨#[]⟩] 107));clear hr;unfold zeroFr Fr.v;go_wp2;go_ret2
      have e0:=HPRE.out;rw [HQ.out,List.append_nil] at e0;exact⟨_,by rw [scanE,←e0,HBE.out];rfl,by rw [scanL,←e0];exact hb2.out⟩
    | some x=>
      obtain⟨f,n⟩:=x;rw [yA ((ZR hk).trans hr)];obtain⟨hok,hkn,hns,_⟩:=yp hr hk;have hb2:=hid (hb1.alloc (.cells #[.int .i64 f.gen,.int .i64 f.seq,.string f.body] 107));unfold Fr.v;by_cases hg:f.gen=g
      · have HQ:=hid (qL hk hr hg)
        have HG:=hid hg;have hgq:(f.gen==g)=true:=(by simp [hg]);have hgn:(f.gen !=g)=false:=(by simp [hg]);clear hr hg hok;have y2:=Box.new w1 #[.int .i64 f.gen,.int .i64 f.seq,.string f.body] 107;clear hb hb1 k1;go_upto_region 4 with fail
        generalize w1.alloc (.cells #[.int .i64 f.gen,.int .i64 f.seq,.string f.body] 107)=w2 at hb2 y2 ⊢;obtain⟨c0,c1,c2,_,_,_⟩:=y2.three;have hb3:=hid (hb2.out.alloc (.cells #[.int .i64 f.gen,.int .i64 f.seq,.string f.body] 107));have hnew:Hid (∀ j u,(frE.row [f])[j]? =some u→(w2.alloc (.cells #[.int .i64 f.gen,.int .i64 f.seq,.string f.body] 107)).cell? ((⟨w2.heap.size,0,none⟩:Addr).add j)=some u):=XC frE w2 f;have hl0:((pre.map (·.1)).length+ [f].length) *(frE.bytes+1)≤140737488355328:=(by simp only [frE,List.length_cons,List.length_nil];omega);have HL0:=hid hl0;go_wp2_with (at_builtin;refine ZE rfl _ _ frE rfl w.heap.size _ (pre.map (·.1)) rfl hb3.out ⟨w2.heap.size,0,none⟩ [f] 1 rfl ?c1 ?c2 ?_)
        case c1=>exact hnew.out
        case c2=>exact HL0.out
        intro v4 w4 hb4 _ _;clear hb2 hb3 hnew HL0 c0 c1 c2;go_wp2;go_roundw
        case rel=>exact⟨pre++ [(f,n)],n,by omega,Yf _ _ _,by rw [←HPRE.out,HQ.out];simp,rfl,by rw [List.map_append];exact hb4⟩
        case measure=>simp [intOf];omega
      · have HQ:=hid (zcJ hr hg)
        have hgn:(f.gen !=g)=true:=(by simp [hg]);clear hr hok;go_wp2;go_ret2
        have e0:=HPRE.out;rw [HQ.out,List.append_nil] at e0;exact⟨_,by rw [scanE,←e0,HBE.out];rfl,by rw [scanL,←e0];exact hb2.out⟩
end Go.Proofs.YtklkhllkjnbhjaaGreatDoor
