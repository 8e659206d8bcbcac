/- Texts of our own, joined. -/
import Derived.WalkKit
import Derived.Laws.BitsAllLaws
import Derived.Laws.BitsLemmas
import Derived.Test.YtklkhllkjnbhjaaGreatDoorRows
import Derived.Laws.BytesArg
import Derived.Maps.AppendAt
import Derived.Lib.ConvBytes
import Derived.Lib.Buffer
import Derived.Laws.Concat
import Derived.WalkSpells
import Derived.WalkSmall
import Derived.Deep.QuietTactic
import Derived.BigQuiet
import Derived.Deep.RegionHeld3
import Derived.Lib.Hide
import Derived.Lib.SmallJoins
/- Plain facts on the bytes of a number, with no program in them: the groups of seven bits of a number, the lowest first. -/
namespace Go.Proofs.YtklkhllkjnbhjaaGreatDoor
open Go.RowKit
set_option maxRecDepth 100000
set_option maxHeartbeats 8000000
def hiByte (m:Nat):UInt8:=UInt8.ofNat (m % 128+128)
def loByte (m:Nat):UInt8:=UInt8.ofNat m
theorem Z4(m:Nat):(hiByte m).toNat=m % 128+128:=by
  rw [hiByte,UInt8.toNat_ofNat'];omega
theorem ZH{m:Nat}(h:m < 256):(loByte m).toNat=m:=by
  rw [loByte,UInt8.toNat_ofNat'];omega
def vtF:Nat→Nat→List UInt8
  | 0,n=> [loByte n]
  | f+1,n=>if 127 < n then hiByte n::vtF f (n / 128) else [loByte n]
def vt (n:Nat):List UInt8:=vtF n n
theorem zbt : ∀(f g n:Nat),n≤f→n≤g→vtF f n=vtF g n:=by
  intro f
  induction f with
  | zero=>
    intro g n hf hg;obtain rfl:n=0:=by omega
    cases g <;> simp [vtF]
  | succ f ih =>
    intro g n hf hg;cases g with
    | zero => obtain rfl:n=0:=by omega
              simp [vtF]
    | succ g=>
      simp only [vtF]
      split
      · rw [ih g (n / 128) (by omega) (by omega)]
      · rfl
theorem Xo{n:Nat}(h:127 < n):vt n=hiByte n::vt (n / 128):=by
  unfold vt;cases n with
  | zero=>omega
  | succ n=>
    rw [vtF,if_pos h,zbt n ((n+1) / 128) ((n+1) / 128) (by omega) (Nat.le_refl _)]
theorem yH{n:Nat}(h:n≤127):vt n= [loByte n]:=by
  unfold vt;cases n with
  | zero=>rfl
  | succ n=>rw [vtF,if_neg (by omega)]
theorem zcm:∀(f n:Nat),(vtF f n).length≤f+1:=by
  intro f
  induction f with
  | zero=>intro n;simp [vtF]
  | succ f ih=>
    intro n;simp only [vtF]
    split
    · simp;exact ih _
    · simp
theorem xB(n:Nat):(vt n).length≤n+1:=zcm n n
theorem XQ{acc:List UInt8}{m n:Nat}(h:acc++vt m=vt n)(hm:127 < m):(acc++ [hiByte m]) ++vt (m / 128)=vt n:=by
  rw [Xo hm] at h;simpa using h
theorem zbm{acc:List UInt8}{m n:Nat}(h:acc++vt m=vt n)(hm:m≤127):acc++ [loByte m]=vt n:=by
  rw [yH hm] at h;exact h
theorem zbv{acc:List UInt8}{m n:Nat}(h:acc++vt m=vt n):acc.length≤n+1:=by
  have h1:=congrArg List.length h;have h2:=xB n;simp at h1;omega

/- Plain facts on reading a number in groups of seven bits, with no program in them. -/
def rg:Nat→List UInt8→Nat→Nat→Option (Nat×Nat)
  | 0,_,_,_=>none
  | _+1,[],_,_=>none
  | f+1,c::cs,i,n=>if c.toNat < 128 then some (n+c.toNat % 128 * 128 ^ i,i+1) else rg f cs (i+1) (n+c.toNat % 128 * 128 ^ i)
theorem zcH{l:List UInt8}{k i n:Nat}(hi:i < 5)(hlt:k+i < l.length)(hc:l[k+i].toNat < 128):
    rg (5 - i) (l.drop (k+i)) i n=some (n+l[k+i].toNat % 128 * 128 ^ i,i+1):=by
  rw [List.drop_eq_getElem_cons hlt,show 5 - i=(4 - i) +1 by omega,rg,if_pos hc]
theorem zcL{l:List UInt8}{k i n:Nat}(hi:i < 5)(hlt:k+i < l.length)(hc:¬l[k+i].toNat < 128):
    rg (5 - i) (l.drop (k+i)) i n=rg (5 -(i+1)) (l.drop (k+(i+1))) (i+1) (n+l[k+i].toNat % 128 * 128 ^ i):=by
  rw [List.drop_eq_getElem_cons hlt,show 5 - i=(4 - i) +1 by omega,rg,if_neg hc,show 5 -(i+1)=4 - i by omega,show k+(i+1)=k+i+1 by omega]
theorem za0{l:List UInt8}{k i n:Nat}(h:¬(i < 5∧k+i < l.length)):rg (5 - i) (l.drop (k+i)) i n=none:=by
  by_cases hi:i < 5
  · have:l.drop (k+i)= []:=by apply List.drop_eq_nil_of_le;omega
    rw [this,show 5 - i=(4 - i) +1 by omega,rg]
  · rw [show 5 - i=0 by omega,rg]
theorem xb:∀(f:Nat) (l:List UInt8) (i n m c:Nat),rg f l i n=some (m,c)→n < 128 ^ i→m < 128 ^(i+f)∧i < c∧c≤i+f∧c≤i+l.length:=by
  intro f
  induction f with
  | zero=>intro l i n m c h;simp [rg] at h
  | succ f ih=>
    intro l i n m c h hn;cases l with
    | nil=>simp [rg] at h
    | cons b bs=>
      have hb:b.toNat % 128 * 128 ^ i≤127 * 128 ^ i:=Nat.mul_le_mul_right _ (by omega);have hp:128 ^(i+1)=128 * 128 ^ i:=(by rw [Nat.pow_succ,Nat.mul_comm]);rw [rg] at h
      split at h
      · simp at h
        obtain⟨rfl,rfl⟩:=h;have hq:128 ^(i+1)≤128 ^(i+(f+1)):=Nat.pow_le_pow_right (by omega) (by omega);simp;omega
      · obtain⟨h1,h2,h3,h4⟩:=ih bs (i+1) _ m c h (by omega)
        rw [show i+1+f=i+(f+1) by omega] at h1;simp;omega
def rv (l:List UInt8) (k:Nat):Option (Nat×Nat):=
  match rg 5 (l.drop k) 0 0 with
  | some (n,c)=>if n≤1000000000∧vt n=(l.drop k).take c then some (n,k+c) else none
  | none=>none
theorem zag{l:List UInt8}{k:Nat}(h:rg 5 (l.drop k) 0 0=none):rv l k=none:=by rw [rv,h]
theorem xw{l:List UInt8}{k n c:Nat}(h:rg 5 (l.drop k) 0 0=some (n,c))(h1:n≤1000000000)(h2:vt n=(l.drop k).take c):rv l k=some (n,k+c):=by rw [rv,h];simp [h1,h2]
theorem XN{l:List UInt8}{k n c:Nat}(h:rg 5 (l.drop k) 0 0=some (n,c))(h1:¬(n≤1000000000∧vt n=(l.drop k).take c)):rv l k=none:=by rw [rv,h];simp only [if_neg h1]
theorem XU{l:List UInt8}{k n b:Nat}(hk:k≤l.length)(h:rv l k=some (n,b)):n≤1000000000∧k < b∧b≤l.length:=by
  unfold rv at h
  split at h
  · rename_i m c hR
    split at h
    · rename_i h2
      simp at h;obtain⟨rfl,rfl⟩:=h;obtain⟨_,b2,_,b4⟩:=xb 5 _ 0 0 _ _ hR (by decide);simp at b4;omega
    · simp at h
  · simp at h

/- Plain facts on rows of bytes. -/
theorem zG(s:ByteArray)(i j:Nat):(s.extract i j).data.toList=(s.data.toList.drop i).take (j - i):=by
  obtain⟨⟨l⟩⟩:=s;have:=ByteArray.extract_mk l i j;rw [this]
theorem Yr{a b:ByteArray}(h:a.data.toList=b.data.toList):a=b:=by
  obtain⟨⟨a⟩⟩:=a;obtain⟨⟨b⟩⟩:=b;simp at h;rw [h]
theorem jY(s:ByteArray):s.data.toList.length=s.size:=by rw [Array.length_toList];rfl
theorem zY(a b:ByteArray):(a++b).data.toList=a.data.toList++b.data.toList:=by simp
theorem ZN(s:ByteArray){i j k:Nat}(h1:i≤j)(h2:j≤k):s.extract i j++s.extract j k=s.extract i k:=by
  apply Yr;rw [zY,zG,zG,zG];have e:k - i=(j - i) +(k - j):=by omega
  have e2:j=i+(j - i):=by omega
  rw [e,List.take_add,List.drop_drop,←e2]
theorem QW(s:ByteArray):s.extract 0 s.size=s:=by
  apply Yr;rw [zG,List.drop_zero,Nat.sub_zero,←jY,List.take_length]
theorem qO:(⟨#[]⟩:ByteArray)=ByteArray.empty:=rfl

/- Plain facts, with no program in them: frames, their texts, and what is read of a text. -/
theorem vC:∀(k n:Nat),n < 128 ^(k+1)→(vt n).length≤k+1:=by
  intro k
  induction k with
  | zero=>
    intro n h;rw [yH (by simpa using Nat.le_of_lt_succ h)];simp
  | succ k ih=>
    intro n h;by_cases hn:n≤127
    · rw [yH hn];simp
    · rw [Xo (by omega)]
      have:=ih (n / 128) (by rw [Nat.pow_succ] at h;omega);simpa using this
theorem Yz{n:Nat}(h:n≤1000000000):(vt n).length≤5:=vC 4 n (by omega)
theorem zc7{n:Nat}(h:n≤180):(vt n).length≤2:=vC 1 n (by omega)
def vtB (n:Nat):ByteArray:=⟨(vt n).toArray⟩
theorem yc(n:Nat):(vtB n).size=(vt n).length:=by simp [vtB,ByteArray.size]
theorem Vm(n:Nat):(vtB n).data.toList=vt n:=by simp [vtB]
structure Fr where
  gen:Int
  seq:Int
  body:ByteArray
def Fr.ok (f:Fr):Prop:=(1≤f.gen∧f.gen≤1000000000)∧(1≤f.seq∧f.seq≤1000000000)∧1≤f.body.size∧f.body.size≤180
instance decFrOk (f : Fr) : Decidable f.ok := by unfold Fr.ok; infer_instance
def Fr.raw (f:Fr):ByteArray:=vtB f.gen.toNat++vtB f.seq.toNat++(vtB f.body.size++f.body)
def Fr.text (f:Fr) (four:ByteArray→ByteArray):ByteArray:=f.raw++four f.raw
theorem Fr.raw_size{f:Fr}(h:f.ok):f.raw.size≤192:=by
  obtain⟨h1,h2,h3,h4⟩:=h;have a:=Yz (n:=f.gen.toNat) (by omega);have b:=Yz (n:=f.seq.toNat) (by omega);have c:=zc7 h4;simp only [Fr.raw,ByteArray.size_append,yc];omega
theorem Yl{s:ByteArray}{k n b:Nat}(h:rv s.data.toList k=some (n,b))(hk:k≤s.size):n≤1000000000∧k < b∧b≤s.size∧s.extract k b=vtB n:=by
  have h0:k≤s.data.toList.length:=by rw [jY];exact hk
  obtain⟨h1,h2,h3⟩:=XU h0 h;rw [jY] at h3;refine⟨h1,h2,h3,?_⟩;apply Yr;rw [zG,Vm];unfold rv at h
  split at h
  · split at h
    · rename_i m c hR h4
      simp at h;obtain⟨rfl,rfl⟩:=h;rw [h4.2];congr 1;omega
    · simp at h
  · simp at h
def ru (s:ByteArray) (k:Nat):Option (Fr×Nat):=
  match rv s.data.toList k with
  | none=>none
  | some (g,a)=>
    match rv s.data.toList a with
    | none=>none
    | some (q,b)=>
      match rv s.data.toList b with
      | none=>none
      | some (n,c)=>if n≤20000∧n+c≤s.size then some (⟨g,q,s.extract c (c+n)⟩,c+n) else none
theorem zcT{s:ByteArray}{k:Nat}(h:rv s.data.toList k=none):ru s k=none:=by rw [ru,h]
theorem zcO{s:ByteArray}{k g a:Nat}(h:rv s.data.toList k=some (g,a))(h2:rv s.data.toList a=none):ru s k=none:=by rw [ru,h];simp only [h2]
theorem zcV{s:ByteArray}{k g a q b:Nat}(h:rv s.data.toList k=some (g,a))(h2:rv s.data.toList a=some (q,b))(h3:rv s.data.toList b=none):ru s k=none:=by rw [ru,h];simp only [h2,h3]
theorem zcP{s:ByteArray}{k g a q b n c:Nat}(h:rv s.data.toList k=some (g,a))(h2:rv s.data.toList a=some (q,b))(h3:rv s.data.toList b=some (n,c))(h4:¬(n≤20000∧n+c≤s.size)):ru s k=none:=by rw [ru,h];simp only [h2,h3,if_neg h4]
theorem zbk{s:ByteArray}{k g a q b n c:Nat}(h:rv s.data.toList k=some (g,a))(h2:rv s.data.toList a=some (q,b))(h3:rv s.data.toList b=some (n,c))(h4:n≤20000∧n+c≤s.size):ru s k=some (⟨g,q,s.extract c (c+n)⟩,c+n):=by rw [ru,h];simp only [h2,h3,if_pos h4]
theorem zb2 {s:ByteArray} {k e:Nat} {f:Fr} (h:ru s k=some (f,e)):∃ g a q b n c:Nat,rv s.data.toList k=some (g,a)∧rv s.data.toList a=some (q,b)∧rv s.data.toList b=some (n,c)∧n≤20000∧n+c≤s.size∧f=⟨g,q,s.extract c (c+n)⟩∧e=c+n:=by
  unfold ru at h
  split at h
  · simp at h
  · rename_i g a h1
    split at h
    · simp at h
    · rename_i q b h2
      split at h
      · simp at h
      · rename_i n c h3
        split at h
        · rename_i h4
          simp at h;exact⟨g,a,q,b,n,c,h1,h2,h3,h4.1,h4.2,h.1.symm,h.2.symm⟩
        · simp at h
theorem qC{s:ByteArray}{k e:Nat}{f:Fr}(h:ru s k=some (f,e))(hk:k≤s.size):f.raw=s.extract k e∧k+3≤e∧e≤s.size∧(0≤f.gen∧f.gen≤1000000000)∧(0≤f.seq∧f.seq≤1000000000)∧f.body.size≤20000:=by
  obtain⟨g,a,q,b,n,c,h1,h2,h3,h4,h5,rfl,rfl⟩:=zb2 h;obtain⟨g1,g2,g3,g4⟩:=Yl h1 hk;obtain⟨q1,q2,q3,q4⟩:=Yl h2 g3;obtain⟨n1,n2,n3,n4⟩:=Yl h3 q3;have hsz:(s.extract c (c+n)).size=n:=by rw [ByteArray.size_extract];omega
  refine⟨?_,by omega,by omega,by simp only;omega,by simp only;omega,by rw [hsz];exact h4⟩;simp only [Fr.raw,hsz,Int.toNat_natCast];rw [←g4,←q4,←n4,ZN s (by omega) (by omega),ZN s (by omega) (by omega),ZN s (by omega) (by omega)]
def rf (four:ByteArray→ByteArray) (s:ByteArray) (k:Nat):Option (Fr×Nat):=
  match ru s k with
  | some (f,e)=>if f.ok∧e+4≤s.size∧f.text four=s.extract k (e+4) then some (f,e+4) else none
  | none=>none
variable {four : ByteArray → ByteArray}
theorem zb3{s:ByteArray}{k:Nat}(h:ru s k=none):rf four s k=none:=by rw [rf,h]
theorem xf{s:ByteArray}{k e:Nat}{f:Fr}(h:ru s k=some (f,e))(h2:¬(f.ok∧e+4≤s.size∧f.text four=s.extract k (e+4))):rf four s k=none:=by rw [rf,h];simp only [if_neg h2]
theorem xv{s:ByteArray}{k e:Nat}{f:Fr}(h:ru s k=some (f,e))(h2:f.ok∧e+4≤s.size∧f.text four=s.extract k (e+4)):rf four s k=some (f,e+4):=by rw [rf,h];simp only [if_pos h2]
theorem yp{s:ByteArray}{k e:Nat}{f:Fr}(h:rf four s k=some (f,e))(hk:k≤s.size):f.ok∧k < e∧e≤s.size∧f.text four=s.extract k e:=by
  unfold rf at h
  split at h
  · rename_i f' e' hu
    split at h
    · rename_i h2
      simp at h;obtain⟨rfl,rfl⟩:=h;have:=(qC hu hk).2.1;exact⟨h2.1,by omega,h2.2.1,h2.2.2⟩
    · simp at h
  · simp at h
def sqF (four:ByteArray→ByteArray):Nat→ByteArray→Int→Nat→List (Fr×Nat)
  | 0,_,_,_=> []
  | n+1,s,g,k=>
    match rf four s k with
    | some (f,e)=>if f.gen=g then(f,e)::sqF four n s g e else []
    | none=> []
def sq (four:ByteArray→ByteArray) (s:ByteArray) (g:Int) (k:Nat):List (Fr×Nat):=sqF four (s.size+1 - k) s g k
theorem zbp:∀(n m:Nat) (s:ByteArray) (g:Int) (k:Nat),k≤s.size→s.size < n+k→s.size < m+k→sqF four n s g k=sqF four m s g k:=by
  intro n
  induction n with
  | zero=>intro m s g k h0 h1;omega
  | succ n ih=>
    intro m s g k h0 h1 h2;cases m with
    | zero=>omega
    | succ m=>
      rw [sqF,sqF]
      split
      · rename_i f e hr
        obtain⟨_,h3,h4,_⟩:=yp hr h0;rw [ih m s g e h4 (by omega) (by omega)]
      · rfl
theorem qL{s:ByteArray}{g:Int}{k e:Nat}{f:Fr}(hk:k≤s.size)(h:rf four s k=some (f,e))(hg:f.gen=g):sq four s g k=(f,e)::sq four s g e:=by
  obtain⟨_,h3,h4,_⟩:=yp h hk;rw [sq,show s.size+1 - k=(s.size - k) +1 by omega,sqF,h];simp only [if_pos hg];rw [sq,zbp (s.size - k) (s.size+1 - e) s g e h4 (by omega) (by omega)]
theorem zcJ{s:ByteArray}{g:Int}{k e:Nat}{f:Fr}(h:rf four s k=some (f,e))(hg:¬f.gen=g):sq four s g k= []:=by
  rw [sq];cases s.size+1 - k with
  | zero=>rfl
  | succ n=>rw [sqF,h];simp only [if_neg hg]
theorem qB{s:ByteArray}{g:Int}{k:Nat}(h:rf four s k=none):sq four s g k= []:=by
  rw [sq];cases s.size+1 - k with
  | zero=>rfl
  | succ n=>rw [sqF,h]
def behind:Nat→List (Fr×Nat)→Nat
  | k,[]=>k
  | _,x::l=>behind x.2 l
theorem VE:∀(l m:List (Fr×Nat)) (k:Nat),behind k (l++m)=behind (behind k l) m:=by
  intro l
  induction l with
  | nil=>intro m k;rfl
  | cons x l ih=>intro m k;exact ih m x.2
theorem Yf(l:List (Fr×Nat))(x:Fr×Nat)(k:Nat):behind k (l++ [x])=x.2:=by rw [VE];rfl
theorem zcx:∀(n:Nat) (s:ByteArray) (g:Int) (k:Nat),k≤s.size→(∀ x∈sqF four n s g k,x.1.ok∧x.2≤s.size)∧(sqF four n s g k).length+k≤s.size∧behind k (sqF four n s g k)≤s.size:=by
  intro n
  induction n with
  | zero=>intro s g k hk;exact⟨by simp [sqF],by simpa [sqF] using hk,by simpa [sqF,behind] using hk⟩
  | succ n ih=>
    intro s g k hk;rw [sqF]
    split
    · rename_i f e hr
      obtain⟨h1,h3,h4,_⟩:=yp hr hk
      split
      · obtain⟨i1,i2,i3⟩:=ih s g e h4
        refine⟨?_,by simp;omega,i3⟩;intro x hx;rcases List.mem_cons.1 hx with rfl | hx
        · exact⟨h1,h4⟩
        · exact i1 x hx
      · exact⟨by simp,by simpa using hk,hk⟩
    · exact⟨by simp,by simpa using hk,hk⟩
theorem vK{s:ByteArray}{g:Int}{k:Nat}(hk:k≤s.size):(∀ x∈sq four s g k,x.1.ok∧x.2≤s.size)∧(sq four s g k).length+k≤s.size∧behind k (sq four s g k)≤s.size:=zcx _ s g k hk

/- Plain facts on hexadecimal figures, with no program in them. -/

/- Plain facts on the values of figures, with no program in them. -/

/- Plain facts on decimal figures, with no program in them. -/
def figD (x:Nat):UInt8:=UInt8.ofNat (48+x)
def digsF:Nat→Nat→List UInt8
  | 0,_=> []
  | f+1,n=>if n=0 then [] else digsF f (n / 10) ++ [figD (n % 10)]
def digs (n:Nat):List UInt8:=digsF n n
def val (l:List UInt8):Nat:=l.foldl (fun a c=>10 * a+(c.toNat - 48)) 0

/- Plain facts, with no program in them: what is written is read back. -/
theorem zde:∀(f n i m:Nat) (rest:List UInt8),n < 128 ^(f+1)→rg (f+1) (vt n++rest) i m=some (m+n * 128 ^ i,i+(vt n).length):=by
  intro f
  induction f with
  | zero=>
    intro n i m rest h;have hn:n≤127:=by simpa using Nat.le_of_lt_succ h
    rw [yH hn];simp only [List.cons_append,List.nil_append,rg,ZH (show n < 256 by omega)];rw [if_pos (by omega),Nat.mod_eq_of_lt (by omega)];rfl
  | succ f ih=>
    intro n i m rest h;by_cases hn:n≤127
    · rw [yH hn]
      simp only [List.cons_append,List.nil_append,rg,ZH (show n < 256 by omega)];rw [if_pos (by omega),Nat.mod_eq_of_lt (by omega)];rfl
    · rw [Xo (by omega),List.cons_append,rg,Z4,if_neg (by omega),ih (n / 128) _ _ _ (by rw [Nat.pow_succ] at h;omega)]
      have e1:(n % 128+128) % 128=n % 128:=(by omega);have e2:n / 128 * 128 ^(i+1)=n / 128 * 128 * 128 ^ i:=(by rw [Nat.pow_succ,Nat.mul_comm (128 ^ i) 128,Nat.mul_assoc]);have e3:n * 128 ^ i=n % 128 * 128 ^ i+n / 128 * 128 * 128 ^ i:=by
        rw [←Nat.add_mul];congr 1;omega
      rw [e1,e2,e3];simp only [Option.some.injEq,Prod.mk.injEq,List.length_cons];omega
theorem qZ(pre rest:List UInt8)(n:Nat)(h:n≤1000000000):rv (pre++(vt n++rest)) pre.length=some (n,pre.length+(vt n).length):=by
  have hd:(pre++(vt n++rest)).drop pre.length=vt n++rest:=by simp
  have hr:rg 5 ((pre++(vt n++rest)).drop pre.length) 0 0=some (n,(vt n).length):=by
    rw [hd,zde 4 n 0 0 rest (by omega)];simp
  refine xw hr h ?_;rw [hd];simp

/- Plain facts, with no program in them: a frame's text is read back wherever it stands; frames one behind the other are read back, and of a text that is cut just the whole ones. -/
variable {four : ByteArray → ByteArray}
theorem vh{l pre rest:List UInt8}{k n:Nat}(h:n≤1000000000)(hl:l=pre++(vt n++rest))(hk:k=pre.length):rv l k=some (n,k+(vt n).length):=by
  subst hl hk;exact qZ pre rest n h
theorem Fr.text_size(f:Fr)(h4:∀ x,(four x).size=4):(f.text four).size=f.raw.size+4:=by rw [Fr.text,ByteArray.size_append,h4]
theorem Vs(f:Fr):f.raw.data.toList=vt f.gen.toNat++(vt f.seq.toNat++(vt f.body.size++f.body.data.toList)):=by
  simp [Fr.raw,Vm]
theorem zbY{s t:ByteArray}{k e:Nat}(hke:k≤e)(he:e≤s.size)(h:t=s.extract k e):s.data.toList=(s.extract 0 k).data.toList++(t.data.toList++(s.extract e s.size).data.toList):=by
  rw [h,←zY,←zY,ZN s hke he,ZN s (Nat.zero_le _) (Nat.le_trans hke he),QW]
theorem zb7{s:ByteArray}{i j:Nat}(h:j≤s.size):(s.extract i j).data.toList.length=j - i:=by
  rw [jY,ByteArray.size_extract];omega
theorem qp{s:ByteArray}{k e:Nat}{f:Fr}(h4:∀ x,(four x).size=4)(hok:f.ok)(hke:k≤e)(he:e≤s.size)(ht:f.text four=s.extract k e):rf four s k=some (f,e):=by
  have hks:k≤s.size:=Nat.le_trans hke he;have hs:=zbY hke he ht;have hpl:=zb7 (s:=s) (i:=0) hks;have htl:(f.text four).data.toList=vt f.gen.toNat++(vt f.seq.toNat++(vt f.body.size++(f.body.data.toList++(four f.raw).data.toList))):=by
    rw [Fr.text,zY,Vs];simp
  have hsz:(f.text four).size=e - k:=by rw [ht,ByteArray.size_extract];omega
  have hraw:f.raw.size=(vt f.gen.toNat).length+((vt f.seq.toNat).length+((vt f.body.size).length+f.body.size)):=by
    rw [←jY,Vs];simp
  have hts:=f.text_size h4;generalize hp:(s.extract 0 k).data.toList=P at hs hpl;generalize (s.extract e s.size).data.toList=R at hs;rw [htl] at hs;obtain⟨⟨g1,g2⟩,⟨q1,q2⟩,b1,b2⟩:=id hok;have r1:rv s.data.toList k=some (f.gen.toNat,k+(vt f.gen.toNat).length):=vh (by omega) (pre:=P) (rest:=vt f.seq.toNat++(vt f.body.size++(f.body.data.toList++(four f.raw).data.toList)) ++R) (by rw [hs];simp) (by omega);have r2:rv s.data.toList (k+(vt f.gen.toNat).length)=some (f.seq.toNat,k+(vt f.gen.toNat).length+(vt f.seq.toNat).length):=
    vh (by omega) (pre:=P++vt f.gen.toNat) (rest:=vt f.body.size++(f.body.data.toList++(four f.raw).data.toList) ++R) (by rw [hs];simp) (by rw [List.length_append];omega)
  have r3:rv s.data.toList (k+(vt f.gen.toNat).length+(vt f.seq.toNat).length)=some (f.body.size,k+(vt f.gen.toNat).length+(vt f.seq.toNat).length+(vt f.body.size).length):=
    vh (by omega) (pre:=P++vt f.gen.toNat++vt f.seq.toNat) (rest:=f.body.data.toList++(four f.raw).data.toList++R) (by rw [hs];simp) (by rw [List.length_append,List.length_append];omega)
  have r4:=zbk r1 r2 r3 ⟨by omega,by omega⟩;have hbody:s.extract (k+(vt f.gen.toNat).length+(vt f.seq.toNat).length+(vt f.body.size).length) (k+(vt f.gen.toNat).length+(vt f.seq.toNat).length+(vt f.body.size).length+f.body.size)=f.body:=by
    apply Yr;rw [zG,hs];have e1:P++(vt f.gen.toNat++(vt f.seq.toNat++(vt f.body.size++(f.body.data.toList++(four f.raw).data.toList))) ++R)=(P++vt f.gen.toNat++vt f.seq.toNat++vt f.body.size) ++(f.body.data.toList++((four f.raw).data.toList++R)):=by simp
    have e2:k+(vt f.gen.toNat).length+(vt f.seq.toNat).length+(vt f.body.size).length=(P++vt f.gen.toNat++vt f.seq.toNat++vt f.body.size).length:=by simp only [List.length_append];omega
    rw [e1,e2,List.drop_left,Nat.add_sub_cancel_left];have e3:f.body.size=f.body.data.toList.length:=(jY _).symm;rw [e3,List.take_left]
  have hf:(⟨(f.gen.toNat:Int),(f.seq.toNat:Int),f.body⟩:Fr)=f:=by
    obtain⟨g,q,b⟩:=f;simp only [Fr.mk.injEq,and_true];simp only at g1 q1;omega
  rw [hbody,hf] at r4;have he4:k+(vt f.gen.toNat).length+(vt f.seq.toNat).length+(vt f.body.size).length+f.body.size+4=e:=by omega
  have:=xv (four:=four) r4 ⟨hok,by omega,by rw [he4];exact ht⟩;rw [he4] at this;exact this
theorem zc0{s:ByteArray}{k e:Nat}{f:Fr}(h4:∀ x,(four x).size=4)(hk:k≤s.size):rf four s k=some (f,e)↔f.ok∧k≤e∧e≤s.size∧f.text four=s.extract k e:=by
  constructor
  · intro h
    obtain⟨a,b,c,d⟩:=yp h hk;exact⟨a,by omega,c,d⟩
  · rintro⟨a,b,c,d⟩
    exact qp h4 a b c d
def txs (four:ByteArray→ByteArray):List Fr→ByteArray
  | []=>⟨#[]⟩
  | f::l=>f.text four++txs four l
theorem xH(l m:List Fr):txs four (l++m)=txs four l++txs four m:=by
  induction l with
  | nil=>simp [txs,qO]
  | cons f l ih=>rw [List.cons_append,txs,txs,ih,ByteArray.append_assoc]
theorem zaX(l:List Fr)(f:Fr):txs four (l++ [f])=txs four l++f.text four:=by rw [xH];simp [txs,qO]
def whole (four:ByteArray→ByteArray) (c:Nat):Nat→List Fr→List (Fr×Nat)
  | _,[]=> []
  | k,f::l=>if k+(f.text four).size≤c then(f,k+(f.text four).size)::whole four c (k+(f.text four).size) l else []

/- What a list of bytes is that a call builds in memory of its own, and the laws by which it grows and becomes a string. -/
theorem Tryz.info_u8:(Tryz.prog.info? 5).map (fun i=>(i.zero,i.size,i.bytes))=some (some (.int .u8 0),1,1):=by kernel_rfl
def bytesV (l:List UInt8):List Value:=l.map fun c=>.int .u8 (c.toNat:Int)
theorem zF(l:List UInt8):(bytesV l).length=l.length:=by simp [bytesV]
structure Buf (B:Nat) (w0 w:World) (v:Value) (l:List UInt8):Prop where
  own:w.ownsRow B 5 1 v l.length (bytesV l)
  bel:Below B w0 w
  le:B≤w.heap.size
theorem Buf.alloc{B:Nat}{w0 w:World}{v:Value}{l:List UInt8}(h:Buf B w0 w v l)(o:Obj):Buf B w0 (w.alloc o) v l:=
  ⟨h.own.alloc o,h.bel.alloc h.le o,by have:=h.le;simp;omega⟩
theorem zW{w0 w:World}{ops:Array Oper}{rest:List Oper}{o:Oper}{a:Act}{Q:Exit→Act→World→Prop}(hgd:o.guard=none)(s x:Operand)
    (ho:o.op=.call {callee:=.builtin .append,args:=#[s,x],argTypes:=#[22,22]})
    (B:Nat) (v:Value) (l:List UInt8) (hs:a.eval s=v) (hb:Buf B w0 w v l)
    (ad:Addr) (news:List UInt8) (c:Nat) (hx:a.eval x=.slice (some ad) news.length c)
    (hnews:∀ j u,(bytesV news)[j]? =some u→w.cell? (ad.add j)=some u)
    (hlen:l.length+news.length≤140737488355328)
    (h:∀ v' w',Buf B w0 w' v' (l++news)→wpList Tryz.prog ops Q rest (a.put o.dst v') w'):wpList Tryz.prog ops Q (o::rest) a w:=by
  obtain⟨i0,hi,hz0,hz1,hz2⟩:=info_parts Tryz.info_u8;refine wpList_append_own _ hgd s x 22 ho B 5 i0 (.int .u8 0) 1 1 Tryz.underlying22 hi hz0 hz1 hz2 rfl (by decide) v l.length (bytesV l) hs hb.own ad news.length c (bytesV news) hx (by simp [bytesV]) hnews ?_ (by unfold maxLen;omega) (by omega) hb.le ?_
  · intro u hu
    simp only [bytesV,List.mem_map] at hu;obtain⟨c,_,rfl⟩:=hu;rfl
  · intro v' w' hown hgrow _
    refine h v' w' ⟨?_,hb.bel.grown hgrow hb.le (fun k hk=>(hb.own.lt k hk).1),Nat.le_trans hb.le hgrow.size⟩;have e1:(l++news).length=l.length+news.length:=by simp
    have e2:bytesV (l++news)=bytesV l++bytesV news:=by simp [bytesV]
    rw [e1,e2];exact hown
theorem Buf.fresh(w:World)(cur:Array Value)(cap:Nat)(hs:cur.size=cap)(hm:cap≤maxLen):
    Buf w.heap.size w (w.alloc (.cells cur 5)) (.slice (some ⟨w.heap.size,0,none⟩) 0 cap) []:=
  ⟨World.ownsRow_made w cur cap (Nat.le_refl _) hm (by omega),(Below.refl _ _).alloc (Nat.le_refl _) _,by simp⟩
theorem J0(w:World)(x:Int)(b:UInt8)(h:x=(b.toNat:Int)):
    ∀ j u,(bytesV [b])[j]? =some u→(w.alloc (.cells #[.int .u8 x] 5)).cell? ((⟨w.heap.size,0,none⟩:Addr).add j)=some u:=by
  subst h;intro j u hj
  match j,hj with
  | 0,hj=>simp [bytesV] at hj;subst hj;simp [Addr.add]
  | j+1,hj=>simp [bytesV] at hj
theorem Buf.toString{B:Nat}{w0 w:World}{v:Value}{l:List UInt8}(h:Buf B w0 w v l):
    (convert 22 9 v).run Tryz.prog w=.ok (.string ⟨l.toArray⟩) w:=by
  rcases h.own.2 with⟨rfl,h0⟩ |⟨g,cap,cur,rfl,hg,hh,hnc,hcp,hcs,htake⟩
  · obtain rfl:=List.length_eq_zero_iff.1 h0
    exact run_convert_bytes_nil (P:=Tryz.prog) w 22 5 Tryz.underlying22 Tryz.underlying5 0 0 9 Tryz.underlying9
  · refine run_convert_bytes_back (P:=Tryz.prog) w 22 9 5 ⟨g,0,none⟩ cap l Tryz.underlying22 Tryz.underlying5 Tryz.underlying9 fun j hj=>?_
    rw [Addr.add_lit,Nat.zero_add,h.own.cellAt j (by omega)];simp [bytesV,hj]

/- Appends to a list of bytes beside other memory of the call's own: what else lies there stays; inside a region that draws its order too; and the bytes of a string laid in a row of their own. -/
structure Keeps (w w':World) (v v':Value):Prop where
  place:v'.ownBlock=v.ownBlock∨v'.ownBlock=some w.heap.size
  other:∀ g,g < w.heap.size→some g≠v.ownBlock→w'.heap[g]? =w.heap[g]?
  size:w.heap.size≤w'.heap.size
theorem Keeps.block{w w':World}{v v':Value}(h:Keeps w w' v v'){g:Nat}{o:Obj}(hg:w.heap[g]? =some o)(ha:v.ownBlock≠some g):w'.heap[g]? =some o∧v'.ownBlock≠some g:=by
  have hlt:g < w.heap.size:=by
    by_cases hh:g < w.heap.size
    · exact hh
    · rw [Array.getElem?_eq_none (by omega)] at hg;cases hg
  refine⟨(h.other g hlt (Ne.symm ha)).trans hg,?_⟩;rcases h.place with e | e
  · rw [e];exact ha
  · rw [e];intro e2;have:=Option.some.inj e2;omega
theorem Jw{w:World}{g:Nat}{o:Obj}(h:w.heap[g]? =some o)(x:Obj):(w.alloc x).heap[g]? =some o:=by
  have hlt:g < w.heap.size:=by
    by_cases hh:g < w.heap.size
    · exact hh
    · rw [Array.getElem?_eq_none (by omega)] at h;cases h
  rw [Below.heap_alloc w x g hlt,h]
theorem Jm(w:World)(s:ByteArray):∃ o:Obj,(Lib.bytesWorld w 5 s).heap[w.heap.size]? =some o∧
    ∀ wx:World,wx.heap[w.heap.size]? =some o→∀ j (hj:j < s.size),wx.cell? ⟨w.heap.size,j,none⟩=some (.int .u8 (s[j].toNat:Int)):=by
  refine⟨_,Lib.bytesWorld_at_new w 5 s,fun wx hx j hj=>?_⟩;have h1:=Lib.bytesWorld_cell w 5 s j hj;rw [World.cell?_of_block (w:=Lib.bytesWorld w 5 s) (a:=⟨w.heap.size,j,none⟩) (by rw [hx,Lib.bytesWorld_at_new]),h1];have:s.data.toList.getD j 0=s[j]:=by
    rw [List.getD_eq_getElem?_getD,List.getElem?_eq_getElem (by simpa using hj)];rfl
  rw [this]

/- One figure: what spec.l01Figure hands back. -/

/- The figures of a number: what spec.Decimal hands back. -/

/- What a list of texts is that a call builds in memory of its own, and the laws by which it grows, is read and is written. -/
def strV (l:List ByteArray):List Value:=l.map fun c=>.string c
structure SBuf (B:Nat) (w0 w:World) (v:Value) (l:List ByteArray):Prop where
  own:w.ownsRow B 9 1 v l.length (strV l)
  bel:Below B w0 w
  le:B≤w.heap.size
def Strs (w:World) (v:Value) (l:List ByteArray):Prop:=
  (l= []∧∃(a:Option Addr) (cap:Nat),v=.slice a 0 cap)∨
  ∃ g cap:Nat,v=.slice (some ⟨g,0,none⟩) l.length cap∧l.length≤cap∧g < w.heap.size∧∀ j b,l[j]? =some b→w.cell? ⟨g,j,none⟩=some (.string b)
theorem SBuf.strs{B:Nat}{w0 w:World}{v:Value}{l:List ByteArray}(h:SBuf B w0 w v l):Strs w v l:=by
  rcases h.own.2 with⟨rfl,h0⟩ |⟨g,cap,cur,rfl,hg,hh,hnc,hcp,hcs,htake⟩
  · exact .inl ⟨List.length_eq_zero_iff.1 h0,_,_,rfl⟩
  · refine .inr ⟨g,cap,rfl,hnc,(h.own.lt g rfl).2,fun j b hj=>?_⟩
    have hlt:j < l.length:=(List.getElem?_eq_some_iff.1 hj).1;rw [h.own.cellAt j (by omega)];simp [strV,hj]
theorem Strs.later{w w':World}{v:Value}{l:List ByteArray}(h:Strs w v l)(hb:Below w.heap.size w w'):Strs w' v l:=by
  rcases h with h |⟨g,cap,hv,hc,hg,hcl⟩
  · exact .inl h
  · exact .inr ⟨g,cap,hv,hc,Nat.lt_of_lt_of_le hg hb.size,fun j b hj=>(hb.cell (p:=⟨g,j,none⟩) hg).trans (hcl j b hj)⟩

/- The marks by which a law tells whose memory a list of texts is: what laws.markText, eqStringS, markStringS and heldStringS hand back. -/
def mark (k:Nat):ByteArray:=⟨(109::digs k).toArray⟩
theorem Strs.ways{w:World}{v:Value}{l:List ByteArray}(h:Strs w v l):(l= []∧∃(a:Option Addr) (cap:Nat),v=.slice a 0 cap)∨
    (l≠ []∧∃ g cap:Nat,v=.slice (some ⟨g,0,none⟩) l.length cap∧l.length≤cap∧g < w.heap.size∧∀ j b,l[j]? =some b→w.cell? ⟨g,j,none⟩=some (.string b)):=by
  by_cases hl:l= []
  · subst hl
    rcases h with h |⟨g,cap,hv,_⟩
    · exact .inl h
    · exact .inl ⟨rfl,_,_,hv⟩
  · rcases h with⟨h,_⟩ | h
    · exact absurd h hl
    · exact .inr ⟨hl,h⟩

/- A list of texts marked and looked at again: what laws.markStringS and laws.heldStringS hand back. -/

/- What a list is that a call builds in memory of its own, whatever its elements are (each of so many cells), and the laws by which it grows, is read and is written; and a list that can be read. -/
structure Enc (α:Type) where
  ty:TypeId
  sty:TypeId
  sz:Nat
  bytes:Nat
  zero:Value
  f:α→List Value
  len:∀ a,(f a).length=sz
  pos:0 < sz
  one:∀ a,∀ u∈f a,u.oneCell'=true
  und:Tryz.prog.underlying sty=some (.slice ty)
  info:(Tryz.prog.info? ty).map (fun i=>(i.zero,i.size,i.bytes))=some (some zero,sz,bytes)
  zc:zero.cells.size=sz
  z0:α
  zf:f z0=zero.cells.toList
variable {α : Type}
def Enc.row (E:Enc α) (l:List α):List Value:=l.flatMap E.f
theorem Enc.row_length(E:Enc α)(l:List α):(E.row l).length=l.length * E.sz:=by
  induction l with
  | nil=>simp [Enc.row]
  | cons x l ih=>
    have:E.row (x::l)=E.f x++E.row l:=rfl;rw [this,List.length_append,ih,E.len,List.length_cons,Nat.succ_mul,Nat.add_comm]
theorem Enc.row_append(E:Enc α)(l m:List α):E.row (l++m)=E.row l++E.row m:=by simp [Enc.row]
theorem Enc.row_one(E:Enc α)(x:α):E.row [x]=E.f x:=by simp [Enc.row]
theorem Enc.row_at(E:Enc α)(l:List α)(j:Nat)(x:α)(hj:l[j]? =some x)(k:Nat)(hk:k < E.sz):(E.row l)[j * E.sz+k]? =(E.f x)[k]? :=by
  induction l generalizing j with
  | nil=>simp at hj
  | cons y l ih=>
    have e:E.row (y::l)=E.f y++E.row l:=rfl;rw [e];cases j with
    | zero=>
      have:y=x:=(by simpa using hj);subst this;rw [Nat.zero_mul,Nat.zero_add,List.getElem?_append_left (by rw [E.len];exact hk)]
    | succ j=>
      have hj':l[j]? =some x:=(by simpa using hj);rw [List.getElem?_append_right (by rw [E.len,Nat.succ_mul];omega),E.len];have:(j+1) * E.sz+k - E.sz=j * E.sz+k:=(by rw [Nat.succ_mul];omega);rw [this];exact ih j hj'
theorem Enc.row_set(E:Enc α)(l:List α)(j:Nat)(x y:α)(hj:l[j]? =some x)(k:Nat)(hk:k < E.sz)(u:Value)(hy:E.f y=(E.f x).set k u):E.row (l.set j y)=(E.row l).set (j * E.sz+k) u:=by
  induction l generalizing j with
  | nil=>simp at hj
  | cons z l ih=>
    have e:E.row (z::l)=E.f z++E.row l:=rfl;rw [e];cases j with
    | zero=>
      have:z=x:=(by simpa using hj);subst this;have e2:E.row ((z::l).set 0 y)=E.f y++E.row l:=rfl;rw [e2,hy,Nat.zero_mul,Nat.zero_add,List.set_append_left _ _ (by rw [E.len];exact hk)]
    | succ j=>
      have hj':l[j]? =some x:=(by simpa using hj);have e2:E.row ((z::l).set (j+1) y)=E.f z++E.row (l.set j y):=rfl;rw [e2,List.set_append_right _ _ (by rw [E.len,Nat.succ_mul];omega),E.len];have:(j+1) * E.sz+k - E.sz=j * E.sz+k:=(by rw [Nat.succ_mul];omega);rw [this,ih j hj']
theorem Enc.row_one'(E:Enc α)(l:List α):∀ u∈E.row l,u.oneCell'=true:=by
  intro u hu;simp only [Enc.row,List.mem_flatMap] at hu;obtain⟨a,_,ha⟩:=hu;exact E.one a u ha
structure RBuf (E:Enc α) (B:Nat) (w0 w:World) (v:Value) (l:List α):Prop where
  own:w.ownsRow B E.ty E.sz v l.length (E.row l)
  bel:Below B w0 w
  le:B≤w.heap.size
variable {E : Enc α} {B : Nat} {w0 w : World} {v : Value} {l : List α}
theorem RBuf.alloc(h:RBuf E B w0 w v l)(o:Obj):RBuf E B w0 (w.alloc o) v l:=
  ⟨h.own.alloc o,h.bel.alloc h.le o,by have:=h.le;simp;omega⟩
theorem RBuf.here(h:RBuf E B w0 w v l):RBuf E B w w v l:=⟨h.own,Below.refl _ _,h.le⟩
theorem RBuf.nil(E:Enc α)(w:World):RBuf E w.heap.size w w (.slice none 0 0) []:=
  ⟨World.ownsRow_nil _ _ _ _,Below.refl _ _,Nat.le_refl _⟩
theorem RBuf.fresh(E:Enc α)(w:World):RBuf E w.heap.size w (w.alloc (.cells #[] E.ty)) (.slice (some ⟨w.heap.size,0,none⟩) 0 0) []:=
  ⟨World.ownsRow_made w #[] 0 (Nat.le_refl _) (by decide) (by simp),(Below.refl _ _).alloc (Nat.le_refl _) _,by simp⟩
theorem RBuf.grown(h:RBuf E B w0 w v l){w':World}{r:Option Nat}(hg:w.grownBy w' r)(hne:v.ownBlock=none∨v.ownBlock≠r)(hb:∀ k,r=some k→B≤k):RBuf E B w0 w' v l:=
  ⟨h.own.kept hg hne,h.bel.grown hg h.le hb,Nat.le_trans h.le hg.size⟩
theorem RBuf.later(h:RBuf E B w0 w v l){w':World}(hb:Below w.heap.size w w'):RBuf E B w0 w' v l:=by
  have hg:w.grownBy w' none:=⟨hb.os,hb.tape,hb.output,hb.size,fun k hk _=>hb.block k hk⟩;refine⟨h.own.kept hg ?_,h.bel.trans (hb.mono h.le),Nat.le_trans h.le hb.size⟩;cases hv:v.ownBlock with
  | none=>exact .inl rfl
  | some k=>exact .inr (by simp)
theorem RBuf.down{B0:Nat}{w1:World}(h:RBuf E B w1 w v l)(hb:Below B0 w0 w)(hB:B0≤B):RBuf E B0 w0 w v l:=by
  refine⟨⟨h.own.1,?_⟩,hb,Nat.le_trans hB h.le⟩;rcases h.own.2 with h1 |⟨g,cap,cur,h1,h2,h3⟩
  · exact .inl h1
  · exact .inr ⟨g,cap,cur,h1,Nat.le_trans hB h2,h3⟩
theorem RBuf.form(h:RBuf E B w0 w v l):∃(a:Option Addr) (cap:Nat),v=.slice a l.length cap:=by
  rcases h.own.2 with⟨rfl,h0⟩ |⟨g,cap,cur,rfl,_⟩
  · exact⟨none,0,by rw [h0]⟩
  · exact⟨_,_,rfl⟩
theorem ZE{ops:Array Oper}{rest:List Oper}{o:Oper}{a:Act}{Q:Exit→Act→World→Prop}(hgd:o.guard=none)(s x:Operand)
    (E:Enc α) (ho:o.op=.call {callee:=.builtin .append,args:=#[s,x],argTypes:=#[E.sty,E.sty]})
    (B:Nat) (v:Value) (l:List α) (hs:a.eval s=v) (hb:RBuf E B w0 w v l)
    (ad:Addr) (news:List α) (c:Nat) (hx:a.eval x=.slice (some ad) news.length c)
    (hnews:∀ j u,(E.row news)[j]? =some u→w.cell? (ad.add j)=some u)
    (hlen:(l.length+news.length) *(E.bytes+1)≤140737488355328)
    (h:∀ v' w',RBuf E B w0 w' v' (l++news)→w.grownBy w' v.ownBlock→(v'.ownBlock=v.ownBlock∨v'.ownBlock=some w.heap.size)→wpList Tryz.prog ops Q rest (a.put o.dst v') w'):wpList Tryz.prog ops Q (o::rest) a w:=by
  obtain⟨i0,hi,hz0,hz1,hz2⟩:=info_parts E.info;have e0:(l.length+news.length) *(E.bytes+1)=(l.length+news.length) * E.bytes+(l.length+news.length):=Nat.mul_succ _ _;refine wpList_append_own_at _ hgd s x E.sty ho B E.ty i0 E.zero E.sz E.bytes E.und hi hz0 hz1 hz2 E.zc E.pos v l.length (E.row l) hs hb.own ad news.length c (E.row news) hx (E.row_length news) hnews (E.row_one' news) (by unfold maxLen;omega) (by omega) hb.le ?_;intro v' w' hown hgrow _ hat
  refine h v' w' ⟨?_,hb.bel.grown hgrow hb.le (fun k hk=>(hb.own.lt k hk).1),Nat.le_trans hb.le hgrow.size⟩ hgrow hat
  have e1:(l++news).length=l.length+news.length:=by simp
  rw [e1,E.row_append];exact hown
def Rows' (E:Enc α) (w:World) (v:Value) (l:List α):Prop:=
  (l= []∧∃(a:Option Addr) (cap:Nat),v=.slice a 0 cap)∨
  ∃ g off cap:Nat,v=.slice (some ⟨g,off,none⟩) l.length cap∧l.length≤cap∧g < w.heap.size∧
    ∀ j x,l[j]? =some x→∀ k u,(E.f x)[k]? =some u→w.cell? ⟨g,off+j * E.sz+k,none⟩=some u
theorem RBuf.cell(h:RBuf E B w0 w v l){g cap:Nat}(hv:v=.slice (some ⟨g,0,none⟩) l.length cap)(j:Nat)(x:α)(hj:l[j]? =some x)(k:Nat)(u:Value)(hk:(E.f x)[k]? =some u):w.cell? ⟨g,j * E.sz+k,none⟩=some u:=by
  subst hv;have hlt:j < l.length:=(List.getElem?_eq_some_iff.1 hj).1;have hks:k < E.sz:=by rw [←E.len x];exact(List.getElem?_eq_some_iff.1 hk).1
  have:j * E.sz+k < l.length * E.sz:=by
    have:(j+1) * E.sz≤l.length * E.sz:=Nat.mul_le_mul_right _ hlt;rw [Nat.succ_mul] at this;omega
  rw [h.own.cellAt _ this,E.row_at l j x hj k hks,hk]
theorem RBuf.rows(h:RBuf E B w0 w v l):Rows' E w v l:=by
  rcases h.own.2 with⟨rfl,h0⟩ |⟨g,cap,cur,rfl,hg,hh,hnc,hcp,hcs,htake⟩
  · exact .inl ⟨List.length_eq_zero_iff.1 h0,_,_,rfl⟩
  · refine .inr ⟨g,0,cap,rfl,hnc,(h.own.lt g rfl).2,fun j x hj k u hk=>?_⟩
    rw [Nat.zero_add];exact h.cell rfl j x hj k u hk
theorem Rows'.later(h:Rows' E w v l){w':World}(hb:Below w.heap.size w w'):Rows' E w' v l:=by
  rcases h with h |⟨g,off,cap,hv,hc,hg,hcl⟩
  · exact .inl h
  · exact .inr ⟨g,off,cap,hv,hc,Nat.lt_of_lt_of_le hg hb.size,fun j x hj k u hk=>(hb.cell (p:=⟨g,off+j * E.sz+k,none⟩) hg).trans (hcl j x hj k u hk)⟩
theorem RBuf.stored{g cap:Nat}(h:RBuf E B w0 w (.slice (some ⟨g,0,none⟩) l.length cap) l)(j:Nat)(x y:α)(hj:l[j]? =some x)(k:Nat)(hk:k < E.sz)(u:Value)(hy:E.f y=(E.f x).set k u):
    RBuf E B w0 (w.setCell ⟨g,j * E.sz+k,none⟩ u) (.slice (some ⟨g,0,none⟩) l.length cap) (l.set j y):=by
  have hst:=h.own.stored (j * E.sz+k) u;refine⟨?_,h.bel.setCell (h.own.lt g rfl).1 _,by have:=h.le;simpa using this⟩;have hl:(l.set j y).length=l.length:=by simp
  rw [hl,E.row_set l j x y hj k hk u hy];exact hst.1
theorem RBuf.loose{g cap:Nat}(h:RBuf E B w0 w (.slice (some ⟨g,0,none⟩) l.length cap) l)(j:Nat):w.frozen? ⟨g,j,none⟩=false:=h.own.frozenAt j

/- How numbers, texts and writes lie in memory. -/
def strE:Enc ByteArray where
  ty:=9
  sty:=24
  sz:=1
  bytes:=16
  zero:=.string ⟨#[]⟩
  f:=fun s=> [.string s]
  len:=fun _=>rfl
  pos:=by decide
  one:=fun _ u hu=>by simp at hu;subst hu;rfl
  und:=Tryz.underlying24
  info:=by kernel_rfl
  zc:=rfl
  z0:=⟨#[]⟩
  zf:=rfl
def intE:Enc Int where
  ty:=3
  sty:=52
  sz:=1
  bytes:=8
  zero:=.int .i64 0
  f:=fun n=> [.int .i64 n]
  len:=fun _=>rfl
  pos:=by decide
  one:=fun _ u hu=>by simp at hu;subst hu;rfl
  und:=Tryz.underlying52
  info:=by kernel_rfl
  zc:=rfl
  z0:=0
  zf:=rfl
structure Wr where
  at_:Int
  text:ByteArray
def wrE:Enc Wr where
  ty:=63
  sty:=25
  sz:=2
  bytes:=24
  zero:=.agg #[.int .i64 0,.string ⟨#[]⟩]
  f:=fun x=> [.int .i64 x.at_,.string x.text]
  len:=fun _=>rfl
  pos:=by decide
  one:=fun _ u hu=>by simp at hu;rcases hu with rfl | rfl <;> rfl
  und:=Tryz.underlying25
  info:=by kernel_rfl
  zc:=rfl
  z0:=⟨0,⟨#[]⟩⟩
  zf:=rfl

/- Lists that can be read, and lists put anew element by element. -/
theorem Rows'.ways{α:Type}{E:Enc α}{w:World}{v:Value}{l:List α}(h:Rows' E w v l):(l= []∧∃(a:Option Addr) (cap:Nat),v=.slice a 0 cap)∨
    (l≠ []∧∃ g off cap:Nat,v=.slice (some ⟨g,off,none⟩) l.length cap∧l.length≤cap∧g < w.heap.size∧∀ j x,l[j]? =some x→∀ k u,(E.f x)[k]? =some u→w.cell? ⟨g,off+j * E.sz+k,none⟩=some u):=by
  by_cases hl:l= []
  · subst hl
    rcases h with h |⟨g,off,cap,hv,_⟩
    · exact .inl h
    · exact .inl ⟨rfl,_,_,hv⟩
  · rcases h with⟨h,_⟩ | h
    · exact absurd h hl
    · exact .inr ⟨hl,h⟩
theorem zJ{w w':World}(hb:Below w.heap.size w w')(r:Option Nat):w.grownBy w' r:=⟨hb.os,hb.tape,hb.output,hb.size,fun k hk _=>hb.block k hk⟩

/- The helpers of the exact laws over lists of writes: two alike are alike; each is marked, and the marks are held. -/
theorem zbQ(l:List ByteArray):strE.row l=strV l:=by
  induction l with
  | nil=>rfl
  | cons x l ih=>
    have:strE.row (x::l)=.string x::strE.row l:=rfl;rw [this,ih];rfl
theorem RBuf.toS{B:Nat}{w0 w:World}{v:Value}{l:List ByteArray}(h:RBuf strE B w0 w v l):SBuf B w0 w v l:=
  ⟨by have:=h.own;rw [zbQ] at this;exact this,h.bel,h.le⟩

/- A variable of the call's own. -/
theorem za(w:World)(g i:Nat)(v:Value):w.grownBy (w.setCell ⟨g,i,none⟩ v) (some g):=
  have b:=(Below.refl 0 w).setCell (p:=⟨g,i,none⟩) (Nat.zero_le _) v
  ⟨b.os,b.tape,b.output,b.size,fun k _ hne=>Below.heap_setCell w _ _ _ (fun e=>hne (by rw [e]))⟩
variable {w w' : World}
def Box (w:World) (b:Nat) (cs:Array Value) (t:TypeId):Prop:=w.heap[b]? =some (.cells cs t (0,0))
theorem Box.new(w:World)(cs:Array Value)(t:TypeId):Box (w.alloc (.cells cs t)) w.heap.size cs t:=heap_alloc_new w _
theorem Box.lt{b:Nat}{cs:Array Value}{t:TypeId}(h:Box w b cs t):b < w.heap.size:=(Array.getElem?_eq_some_iff.1 h).1
theorem Box.cell{b:Nat}{cs:Array Value}{t:TypeId}(h:Box w b cs t)(j:Nat)(u:Value)(hu:cs[j]? =some u):w.cell? ⟨b,j,none⟩=some u:=by
  rw [Joins.cell_of_block h,hu]
theorem Box.loose{b:Nat}{cs:Array Value}{t:TypeId}(h:Box w b cs t)(j:Nat):w.frozen? ⟨b,j,none⟩=false:=Joins.unfrozen_of_block h j
theorem Box.later{b:Nat}{cs:Array Value}{t:TypeId}(h:Box w b cs t)(hb:Below w.heap.size w w'):Box w' b cs t:=(hb.block b h.lt).trans h
theorem Box.under{b B:Nat}{cs:Array Value}{t:TypeId}(h:Box w b cs t)(hb:Below B w w')(hl:b < B):Box w' b cs t:=(hb.block b hl).trans h
theorem Box.set{b:Nat}{cs:Array Value}{t:TypeId}(h:Box w b cs t)(j:Nat)(u:Value):Box (w.setCell ⟨b,j,none⟩ u) b (cs.setIfInBounds j u) t:=Joins.block_setCell h u
theorem Box.other{b g:Nat}{cs:Array Value}{t:TypeId}(h:Box w b cs t)(hne:b≠g)(j:Nat)(u:Value):Box (w.setCell ⟨g,j,none⟩ u) b cs t:=
  ((za w g j u).block b h.lt (fun e=>hne (Option.some.inj e))).trans h
theorem Box.three{b:Nat}{u0 u1 u2:Value}{t:TypeId}(h:Box w b #[u0,u1,u2] t):w.cell? ⟨b,0,none⟩=some u0∧w.cell? ⟨b,1,none⟩=some u1∧w.cell? ⟨b,2,none⟩=some u2∧w.frozen? ⟨b,0,none⟩=false∧w.frozen? ⟨b,1,none⟩=false∧w.frozen? ⟨b,2,none⟩=false:=
  ⟨h.cell 0 _ rfl,h.cell 1 _ rfl,h.cell 2 _ rfl,h.loose 0,h.loose 1,h.loose 2⟩
def set3 (w:World) (b:Nat) (v0 v1 v2:Value):World:=((w.setCell ⟨b,0,none⟩ v0).setCell ⟨b,1,none⟩ v1).setCell ⟨b,2,none⟩ v2
theorem Box.set3{b:Nat}{u0 u1 u2:Value}{t:TypeId}(h:Box w b #[u0,u1,u2] t)(v0 v1 v2:Value):Box (set3 w b v0 v1 v2) b #[v0,v1,v2] t:=((h.set 0 v0).set 1 v1).set 2 v2
theorem zv{B b:Nat}{w0:World}(h:Below B w0 w)(hb:B≤b)(v0 v1 v2:Value):Below B w0 (set3 w b v0 v1 v2):=
  ((h.setCell (p:=⟨b,0,none⟩) hb v0).setCell (p:=⟨b,1,none⟩) hb v1).setCell (p:=⟨b,2,none⟩) hb v2

/- What a value owns: its memory lies between two marks of the heap, and what is written elsewhere leaves it alone. -/
structure Kept (B T:Nat) (w w':World):Prop where
  os:w'.os=w.os
  tape:w'.tape=w.tape
  output:w'.output=w.output
  size:w.heap.size≤w'.heap.size
  block:∀ k,k < w.heap.size→(k < B∨T≤k)→w'.heap[k]? =w.heap[k]?
theorem Kept.of_below{w w':World}(hb:Below w.heap.size w w')(B T:Nat):Kept B T w w':=⟨hb.os,hb.tape,hb.output,hb.size,fun k hk _=>hb.block k hk⟩
theorem Kept.of_grown{w w':World}{r:Option Nat}{B T:Nat}(h:w.grownBy w' r)(hr:∀ k,r=some k→B≤k∧k < T):Kept B T w w':=
  ⟨h.os,h.tape,h.output,h.size,fun k hk hout=>h.block k hk (fun e=>by have:=hr k e.symm;omega)⟩
theorem Kept.trans{B T:Nat}{w w1 w2:World}(h:Kept B T w w1)(h2:Kept B T w1 w2):Kept B T w w2:=
  ⟨h2.os.trans h.os,h2.tape.trans h.tape,h2.output.trans h.output,Nat.le_trans h.size h2.size,fun k hk hout=>(h2.block k (Nat.lt_of_lt_of_le hk h.size) hout).trans (h.block k hk hout)⟩
theorem Kept.below{B T B0:Nat}{w0 w w':World}(h:Kept B T w w')(hb:Below B0 w0 w)(h0:B0≤B)(hs:B0≤w.heap.size):Below B0 w0 w':=
  ⟨h.os.trans hb.os,h.tape.trans hb.tape,h.output.trans hb.output,Nat.le_trans hb.size h.size,fun k hk=>(h.block k (Nat.lt_of_lt_of_le hk hs) (.inl (Nat.lt_of_lt_of_le hk h0))).trans (hb.block k hk)⟩
variable {α : Type} {E : Enc α} {B T : Nat} {w w' : World} {v : Value} {l : List α}
def LOwn (E:Enc α) (B T:Nat) (w:World) (v:Value) (l:List α):Prop:=RBuf E B w w v l∧T≤w.heap.size∧∀ k,v.ownBlock=some k→k < T
theorem RBuf.lown{w0:World}(h:RBuf E B w0 w v l):LOwn E B w.heap.size w v l:=⟨h.here,Nat.le_refl _,fun k hk=>(h.own.lt k hk).2⟩
theorem LOwn.kept{B' T':Nat}(h:LOwn E B T w v l)(hk:Kept B' T' w w')(hd:T≤B'∨T'≤B):LOwn E B T w' v l:=by
  refine⟨⟨⟨h.1.own.1,?_⟩,Below.refl _ _,Nat.le_trans h.1.le hk.size⟩,Nat.le_trans h.2.1 hk.size,h.2.2⟩;rcases h.1.own.2 with h1 |⟨g,cap,cur,h1,h2,h3,h4⟩
  · exact .inl h1
  · have hg:=h.2.2 g (by rw [h1];rfl)
    refine .inr ⟨g,cap,cur,h1,h2,?_,h4⟩;rw [hk.block g (Nat.lt_of_lt_of_le hg h.2.1) (by omega)];exact h3
theorem LOwn.later(h:LOwn E B T w v l)(hb:Below w.heap.size w w'):LOwn E B T w' v l:=
  h.kept (Kept.of_below hb T T) (.inl (Nat.le_refl _))
theorem LOwn.wider{T':Nat}(h:LOwn E B T w v l)(hT:T≤T')(hs:T'≤w.heap.size):LOwn E B T' w v l:=⟨h.1,hs,fun k hk=>Nat.lt_of_lt_of_le (h.2.2 k hk) hT⟩
theorem LOwn.deeper{B':Nat}(h:LOwn E B T w v l)(hB:B'≤B):LOwn E B' T w v l:=⟨h.1.down (Below.refl _ _) hB,h.2⟩
theorem LOwn.rows(h:LOwn E B T w v l):Rows' E w v l:=h.1.rows
theorem LOwn.grown{r:Option Nat}(h:LOwn E B T w v l)(hg:w.grownBy w' r)(hne:v.ownBlock=none∨v.ownBlock≠r):LOwn E B T w' v l:=
  ⟨⟨h.1.own.kept hg hne,Below.refl _ _,Nat.le_trans h.1.le hg.size⟩,Nat.le_trans h.2.1 hg.size,h.2.2⟩
theorem LOwn.store(h:LOwn E B T w v l)(g i:Nat)(u:Value)(hg:g < B):LOwn E B T (w.setCell ⟨g,i,none⟩ u) v l:=by
  refine h.grown (za w g i u) ?_;cases hv:v.ownBlock with
  | none=>exact .inl rfl
  | some k=>exact .inr (by intro e;have:=(h.1.own.lt k hv).1;have:=Option.some.inj e;omega)
theorem LOwn.storeHi(h:LOwn E B T w v l)(g i:Nat)(u:Value)(hg:T≤g):LOwn E B T (w.setCell ⟨g,i,none⟩ u) v l:=by
  refine h.grown (za w g i u) ?_;cases hv:v.ownBlock with
  | none=>exact .inl rfl
  | some k=>exact .inr (by intro e;have:=h.2.2 k hv;have:=Option.some.inj e;omega)

/- Lists copied element by element. -/
theorem Rows'.at{α:Type}{E:Enc α}{w:World}{a:Option Addr}{cap:Nat}{l:List α}(h:Rows' E w (.slice a l.length cap) l)(i:Nat)(hi:i < l.length):
    ∃ g off:Nat,a=some ⟨g,off,none⟩∧∀ w',Below w.heap.size w w'→∀ k u,(E.f l[i])[k]? =some u→w'.cell? ⟨g,off+i * E.sz+k,none⟩=some u:=by
  rcases h.ways with⟨h0,_⟩ |⟨_,g,off,c,hv,hc,hg,hcl⟩
  · rw [h0] at hi;simp at hi
  · simp only [Value.slice.injEq] at hv
    exact⟨g,off,hv.1,fun w' hb k u hu=>(hb.cell (p:=⟨g,off+i * E.sz+k,none⟩) hg).trans (hcl i _ (List.getElem?_eq_getElem hi) k u hu)⟩

/- Lists that come in: how great they are (szStringS, szWriteS), and copies of them in memory of the call's own (toStringS, toWriteS, toIntS). -/

/- Disks: what they are in memory, and the helpers of the exact laws over them. -/
structure Dk where
  sec:List ByteArray
  cache:List Wr
def DOwn (B T:Nat) (w:World) (v:Value) (d:Dk):Prop:=
  ∃ va vb,v=.agg #[va,vb]∧LOwn strE B T w va d.sec∧LOwn wrE B T w vb d.cache∧(va.ownBlock=none∨va.ownBlock≠vb.ownBlock)
theorem DOwn.kept{B T B' T':Nat}{w w':World}{v:Value}{d:Dk}(h:DOwn B T w v d)(hk:Kept B' T' w w')(hd:T≤B'∨T'≤B):DOwn B T w' v d:=by
  obtain⟨va,vb,hv,h1,h2,h3⟩:=h;exact⟨va,vb,hv,h1.kept hk hd,h2.kept hk hd,h3⟩
theorem DOwn.later{B T:Nat}{w w':World}{v:Value}{d:Dk}(h:DOwn B T w v d)(hb:Below w.heap.size w w'):DOwn B T w' v d:=
  h.kept (Kept.of_below hb T T) (.inl (Nat.le_refl _))
theorem DOwn.form{B T:Nat}{w:World}{v:Value}{d:Dk}(h:DOwn B T w v d):∃(a b:Option Addr) (c e:Nat),v=.agg #[.slice a d.sec.length c,.slice b d.cache.length e]:=by
  obtain⟨va,vb,rfl,h1,h2,_⟩:=h;obtain⟨a,c,rfl⟩:=h1.1.form;obtain⟨b,e,rfl⟩:=h2.1.form;exact⟨a,b,c,e,rfl⟩
def DRd (w:World) (v:Value) (d:Dk):Prop:=∃ va vb,v=.agg #[va,vb]∧Strs w va d.sec∧Rows' wrE w vb d.cache
theorem DOwn.rd{B T:Nat}{w:World}{v:Value}{d:Dk}(h:DOwn B T w v d):DRd w v d:=by
  obtain⟨va,vb,hv,h1,h2,_⟩:=h;exact⟨va,vb,hv,h1.1.toS.strs,h2.rows⟩
theorem DRd.later{w w':World}{v:Value}{d:Dk}(h:DRd w v d)(hb:Below w.heap.size w w'):DRd w' v d:=by
  obtain⟨va,vb,hv,h1,h2⟩:=h;exact⟨va,vb,hv,h1.later hb,h2.later hb⟩
def Dk.small (d:Dk):Prop:=d.sec.length≤1073741824∧d.cache.length≤1073741824
theorem V9(w:World)(c:Array Value)(t:TypeId){w':World}(hb:Below (w.alloc (.cells c t)).heap.size (w.alloc (.cells c t)) w')(j:Nat)(u:Value)(hu:c[j]? =some u):w'.cell? ⟨w.heap.size,j,none⟩=some u:=by
  have h1:(w.alloc (.cells c t)).cell? ⟨w.heap.size,j,none⟩=some u:=by
    rw [cell_of_row _ _ _ c t (0,0) (heap_alloc_new w _),hu]
  exact(hb.cell (p:=⟨w.heap.size,j,none⟩) (by simp)).trans h1
def Dk.count (d:Dk):Nat:=d.sec.length+2 * d.cache.length
def Dk.lean (d:Dk) (left:Int):Prop:=(d.sec.length:Int)≤left∧(d.cache.length:Int)≤left∧(∀ s∈d.sec,(s.size:Int)≤left)∧∀ x∈d.cache,(x.text.size:Int)≤left

/- Plain facts on disks: what is right, what is read. -/
def Dk.ok (d:Dk):Prop:=1≤d.sec.length∧d.sec.length≤100∧d.cache.length≤60∧(∀ s∈d.sec,s.size=32)∧∀ x∈d.cache,0≤x.at_∧x.at_ < d.sec.length∧x.text.size=32
instance (d : Dk) : Decidable d.ok := by unfold Dk.ok; infer_instance
def lastAt (c:List Wr) (a:Int):Option ByteArray:=match c with
  | []=>none
  | x::c=>match lastAt c a with
    | some t=>some t
    | none=>if x.at_=a then some x.text else none
theorem yy(c:List Wr)(x:Wr)(a:Int):lastAt (c++ [x]) a=if x.at_=a then some x.text else lastAt c a:=by
  induction c with
  | nil=>simp only [List.nil_append,lastAt]
  | cons y c ih=>
    show(match lastAt (c++ [x]) a with
      | some t=>some t
      | none=>if y.at_=a then some y.text else none)=_
    rw [ih];by_cases h:x.at_=a
    · simp [h]
    · simp only [h,if_false];rfl
theorem Yh{c:List Wr}{i:Nat}(h:i < c.length)(a:Int):lastAt (c.take (i+1)) a=if c[i].at_=a then some c[i].text else lastAt (c.take i) a:=by
  rw [List.take_succ_eq_append_getElem h,yy]
def rdT (d:Dk) (a:Int):Value:=
  if 0≤a∧a < d.sec.length then .tuple #[.string ((lastAt d.cache a).getD (d.sec.getD a.toNat ⟨#[]⟩)),.bool true] else .tuple #[.string ⟨#[]⟩,.bool false]
theorem xS{d:Dk}{a:Int}(h:¬(0≤a∧a < d.sec.length)):rdT d a=.tuple #[.string ⟨#[]⟩,.bool false]:=by rw [rdT,if_neg h]
theorem Vv{d:Dk}{a:Int}(h:0≤a∧a < d.sec.length){t:ByteArray}(ht:lastAt d.cache a=some t):rdT d a=.tuple #[.string t,.bool true]:=by rw [rdT,if_pos h,ht];rfl
theorem Qc{d:Dk}{k:Nat}(h:k < d.sec.length)(ht:lastAt d.cache (k:Int)=none):rdT d (k:Int)=.tuple #[.string d.sec[k],.bool true]:=by
  rw [rdT,if_pos ⟨by omega,by omega⟩,ht,Int.toNat_natCast,List.getD_eq_getElem?_getD,List.getElem?_eq_getElem h];rfl
end Go.Proofs.YtklkhllkjnbhjaaGreatDoor
