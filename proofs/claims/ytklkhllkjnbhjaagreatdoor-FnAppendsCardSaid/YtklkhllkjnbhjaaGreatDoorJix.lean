/- Texts of our own, joined. -/
import Derived.Test.YtklkhllkjnbhjaaGreatDoorJk
/- Records: what the program's WordOk hands back, the rights of its five kinds of records, and records told apart and back. -/
namespace Go.Proofs.YtklkhllkjnbhjaaGreatDoor
open Go.RowKit
open Lib (hid)
set_option maxRecDepth 100000
set_option maxHeartbeats 8000000
theorem ya (s:ByteArray) (w:World):
    Calls Tryz.prog 188 #[.string s] w fun e w'=>e=.returned (.bool (decide (wdOk s)))∧Below w.heap.size w w':=by
  by_cases hin:1≤s.size∧s.size≤8
  · obtain ⟨hin1,hin2⟩:=hin
    have h1:¬(s.size:Int) < 1:=by omega
    have h2:¬(8:Int) <(s.size:Int):=by omega
    have hconv:∀ wx,(convert 9 22 (.string s)).run Tryz.prog wx=.ok (.slice (some ⟨wx.heap.size,0,none⟩) s.size (grownCap wx s.size 0 5)) (Lib.bytesWorld wx 5 s):=
      fun wx=>Lib.run_convert_string_bytes (P:=Tryz.prog) wx 9 22 5 s Tryz.underlying9 Tryz.underlying22 Tryz.underlying5
    have hbel:Below w.heap.size w (Lib.bytesWorld w 5 s):=
      (Below.refl _ _).grown (⟨rfl,rfl,rfl,by rw [Lib.bytesWorld_size];omega,fun k hk _=>Lib.bytesWorld_at_old w 5 s k hk⟩:w.grownBy (Lib.bytesWorld w 5 s) none) (Nat.le_refl _) (fun k hk=>by cases hk)
    obtain⟨o,ho1,ho2⟩:=Jm w s;have hcells:=ho2 _ ho1;go_enter Tryz.func188,Tryz.ntmps188
    go_wp2;clear hconv ho1 ho2;generalize hbw:Lib.bytesWorld w 5 s=w2 at *;clear hbw;go_loop [16] (fun iv=>∃ i:Nat,i≤s.size∧iv=.int .i64 (i:Int)∧∀ j (hj:j < s.size),j < i→97≤s[j].toNat∧s[j].toNat≤122) (fun iv=>s.size -(intOf iv).toNat)
    case atStart=>exact⟨0,by omega,rfl,fun j _ hj=>by omega⟩
    case round=>
      obtain⟨i,hi,rfl,hall⟩:=hrel;have HA:=hid hall;clear hall;by_cases hlt:i < s.size
      · have hlt':(i:Int) <(s.size:Int):=by omega
        have hcell:=hcells i hlt;have HB:Hid (¬(97≤s[i].toNat∧s[i].toNat≤122)→decide (wdOk s)=false):=fun h=>decide_eq_false (fun hw=>h (hw.2 _ (by
          show s.data[i]∈s.data.toList
          exact Array.getElem_mem_toList _)))
        have HN:Hid (97≤s[i].toNat∧s[i].toNat≤122→∀ j (hj:j < s.size),j < i+1→97≤s[j].toNat∧s[j].toNat≤122):=by
          intro h j hj hji;by_cases e:j=i
          · subst e;exact h
          · exact HA.out j hj (by omega)
        clear hcells;generalize s[i].toNat=c at hcell HB HN;by_cases q1:c < 97
        · have q1':(c:Int) < 97:=by omega
          go_wp2;go_ret;exact⟨by rw [HB.out (by omega)];rfl,hbel⟩
        · have q1':¬(c:Int) < 97:=by omega
          by_cases q2:122 < c
          · have q2':(122:Int) <(c:Int):=by omega
            go_wp2;go_ret;exact⟨by rw [HB.out (by omega)];rfl,hbel⟩
          · have q2':¬(122:Int) <(c:Int):=by omega
            go_wp2;go_round
            case rel=>exact⟨i+1,by omega,by go_num,HN.out ⟨by omega,by omega⟩⟩
            case measure=>simp [intOf];omega
      · have hge:¬(i:Int) <(s.size:Int):=by omega
        have HE:Hid (decide (wdOk s)=true):=show _=_ from decide_eq_true ⟨⟨hin1,hin2⟩,fun b hb=>by
          obtain⟨j,hj,rfl⟩:=List.getElem_of_mem hb;have hj2:j < s.size:=(by rw [←zQ];exact hj);exact HA.out j hj2 (by omega)⟩
        clear hcells;go_wp2;go_ret;exact⟨by rw [HE.out];rfl,hbel⟩
  · have hd:Hid (decide (wdOk s)=false):=show _=_ from decide_eq_false (fun h=>hin h.1)
    by_cases h1:(s.size:Int) < 1
    · go_enter Tryz.func188,Tryz.ntmps188
      go_wp2;go_ret;exact⟨by rw [hd.out];rfl,Below.refl _ _⟩
    · have h2:(8:Int) <(s.size:Int):=by omega
      go_enter Tryz.func188,Tryz.ntmps188
      go_wp2;go_ret;exact⟨by rw [hd.out];rfl,Below.refl _ _⟩
theorem zC(n:Int)(w:World)(h1:1≤n)(h2:n≤9999):Calls Tryz.prog 186 #[.int .i64 n] w fun e w'=>e=.returned (.bool true)∧w=w':=by
  go_enter Tryz.func186,Tryz.ntmps186
  go_wp2;go_ret;simp
theorem zM(n:Int)(w:World)(h:¬(1≤n∧n≤9999)):Calls Tryz.prog 186 #[.int .i64 n] w fun e w'=>e=.returned (.bool false)∧w=w':=by
  by_cases h1:1≤n
  · have h2:¬n≤9999:=fun h2=>h ⟨h1,h2⟩
    go_enter Tryz.func186,Tryz.ntmps186
    go_wp2;go_ret;simp
  · go_enter Tryz.func186,Tryz.ntmps186
    go_wp2;go_ret;simp
theorem Yt(n:Int)(w:World):Calls Tryz.prog 191 #[.int .i64 n] w fun e w'=>e=.returned (.bool (decide (0≤n∧n≤7)))∧w=w':=by
  by_cases h1:0≤n
  · have e:decide (0≤n∧n≤7)=decide (n≤7):=by simp [h1]
    rw [e];go_enter Tryz.func191,Tryz.ntmps191
    go_wp2;go_ret;simp
  · have e:decide (0≤n∧n≤7)=false:=by simp [h1]
    rw [e];go_enter Tryz.func191,Tryz.ntmps191
    go_wp2;go_ret;simp
def bxP (v n:Int) (u m:ByteArray):Prop:=(1≤v∧v≤9999)∧(1≤n∧n≤10000)∧wdOk u∧wdOk m
instance (v n : Int) (u m : ByteArray) : Decidable (bxP v n u m) := by unfold bxP; infer_instance
def adP (v u f:Int) (t:ByteArray):Prop:=(1≤v∧v≤9999)∧(1≤u∧u≤9999)∧(0≤f∧f≤7)∧t.size≤100
instance (v u f : Int) (t : ByteArray) : Decidable (adP v u f t) := by unfold adP; infer_instance
def flP (v u f:Int):Prop:=(1≤v∧v≤9999)∧(1≤u∧u≤9999)∧(0≤f∧f≤7)
instance (v u f : Int) : Decidable (flP v u f) := by unfold flP; infer_instance
def goP (v u:Int):Prop:=(1≤v∧v≤9999)∧(1≤u∧u≤9999)
instance (v u : Int) : Decidable (goP v u) := by unfold goP; infer_instance
theorem Vd(n:Int)(w:World):Calls Tryz.prog 187 #[.int .i64 n] w fun e w'=>e=.returned (.bool (decide (1≤n∧n≤10000)))∧w=w':=by
  by_cases h1:1≤n
  · have e:decide (1≤n∧n≤10000)=decide (n≤10000):=by simp [h1]
    rw [e];go_enter Tryz.func187,Tryz.ntmps187
    go_wp2;go_ret;simp
  · have e:decide (1≤n∧n≤10000)=false:=by simp [h1]
    rw [e];go_enter Tryz.func187,Tryz.ntmps187
    go_wp2;go_ret;simp
theorem vo(n:Int)(w:World)(h1:1≤n)(h2:n≤10000):Calls Tryz.prog 187 #[.int .i64 n] w fun e w'=>e=.returned (.bool true)∧w=w':=by
  have h:=Vd n w;rwa [decide_eq_true (show 1≤n∧n≤10000 from⟨h1,h2⟩)] at h
theorem zaP(n:Int)(w:World)(h1:¬(1≤n∧n≤10000)):Calls Tryz.prog 187 #[.int .i64 n] w fun e w'=>e=.returned (.bool false)∧w=w':=by
  have h:=Vd n w;rwa [decide_eq_false h1] at h
theorem qy (v n:Int) (u m:ByteArray) (w:World):
    Calls Tryz.prog 185 #[.agg #[.int .i64 v,.int .i64 n,.string u,.string m]] w fun e w'=>e=.returned (.bool (decide (bxP v n u m)))∧Below w.heap.size w w':=by
  have bx:=Box.new w #[.int .i64 v,.int .i64 n,.string u,.string m] 160;have b0:Below w.heap.size w (w.alloc (.cells #[.int .i64 v,.int .i64 n,.string u,.string m] 160)):=(Below.refl _ _).alloc (Nat.le_refl _) _;have c0:=bx.cell 0 _ rfl;have c1:=bx.cell 1 _ rfl;have c2:=bx.cell 2 _ rfl;have c3:=bx.cell 3 _ rfl;have BX:=hid bx;clear bx;by_cases hv:1≤v∧v≤9999
  · by_cases hn:1≤n∧n≤10000
    · by_cases hu:wdOk u
      · have HE:Hid (decide (bxP v n u m)=decide (wdOk m)):=show _=_ from decide_eq_decide.2 ⟨fun h=>h.2.2.2,fun h=>⟨hv,hn,hu,h⟩⟩
        have HU:Hid (decide (wdOk u)=true):=show _=_ from decide_eq_true hu
        have HV:=hid hv;have HN:=hid hn;clear hu hv hn;go_enter Tryz.func185,Tryz.ntmps185
        go_wp2_with (first |(go_at_call 186;refine(zC _ _ HV.out.1 HV.out.2).mono ?_;rintro e w5 ⟨rfl,rfl⟩) |(go_at_call 187;refine(vo _ _ HN.out.1 HN.out.2).mono ?_;rintro e w5 ⟨rfl,rfl⟩) |(go_at_call 188;refine(ya _ _).mono ?_;rintro e w5 ⟨rfl,hb5⟩;rw [HU.out];have c3':=(BX.out.later hb5).cell 3 _ rfl) |(go_at_call 188;refine(ya _ _).mono ?_;rintro e w6 ⟨rfl,hb6⟩))
        go_ret;exact⟨by rw [HE.out];rfl,(b0.trans (hb5.mono b0.size)).trans (hb6.mono ((b0.trans (hb5.mono b0.size)).size))⟩
      · have HE:Hid (decide (bxP v n u m)=false):=show _=_ from decide_eq_false fun h=>hu h.2.2.1
        have HU:Hid (decide (wdOk u)=false):=show _=_ from decide_eq_false hu
        have HV:=hid hv;have HN:=hid hn;clear hu hv hn;go_enter Tryz.func185,Tryz.ntmps185
        go_wp2_with (first |(go_at_call 186;refine(zC _ _ HV.out.1 HV.out.2).mono ?_;rintro e w5 ⟨rfl,rfl⟩) |(go_at_call 187;refine(vo _ _ HN.out.1 HN.out.2).mono ?_;rintro e w5 ⟨rfl,rfl⟩) |(go_at_call 188;refine(ya _ _).mono ?_;rintro e w5 ⟨rfl,hb5⟩;rw [HU.out]))
        go_ret;exact⟨by rw [HE.out];rfl,b0.trans (hb5.mono b0.size)⟩
    · have HE:Hid (decide (bxP v n u m)=false):=show _=_ from decide_eq_false fun h=>hn h.2.1
      have HV:=hid hv;have HN:=hid hn;clear hv hn;go_enter Tryz.func185,Tryz.ntmps185
      go_wp2_with (first |(go_at_call 186;refine(zC _ _ HV.out.1 HV.out.2).mono ?_;rintro e w5 ⟨rfl,rfl⟩) |(go_at_call 187;refine(zaP _ _ HN.out).mono ?_;rintro e w5 ⟨rfl,rfl⟩))
      go_ret;exact⟨by rw [HE.out];rfl,b0⟩
  · have HE:Hid (decide (bxP v n u m)=false):=show _=_ from decide_eq_false fun h=>hv h.1
    have HV:=hid hv;clear hv;go_enter Tryz.func185,Tryz.ntmps185
    go_wp2_with (go_at_call 186;refine(zM _ _ HV.out).mono ?_;rintro e w5 ⟨rfl,rfl⟩)
    go_ret;exact⟨by rw [HE.out];rfl,b0⟩
theorem VX(v:Int)(w:World):
    Calls Tryz.prog 189 #[.agg #[.int .i64 v]] w fun e w'=>e=.returned (.bool (decide (1≤v∧v≤9999)))∧Below w.heap.size w w':=by
  have bx:=Box.new w #[.int .i64 v] 162;have b0:Below w.heap.size w (w.alloc (.cells #[.int .i64 v] 162)):=(Below.refl _ _).alloc (Nat.le_refl _) _;have c0:=bx.cell 0 _ rfl;clear bx;by_cases hv:1≤v∧v≤9999
  · rw [decide_eq_true hv]
    go_enter Tryz.func189,Tryz.ntmps189
    go_wp2_with (go_at_call 186;first |(refine(zC _ _ (by omega) (by omega)).mono ?_;rintro e w5 ⟨rfl,rfl⟩) |(refine(zM _ _ (by omega)).mono ?_;rintro e w5 ⟨rfl,rfl⟩))
    go_ret;exact⟨rfl,b0⟩
  · rw [decide_eq_false hv]
    go_enter Tryz.func189,Tryz.ntmps189
    go_wp2_with (go_at_call 186;first |(refine(zC _ _ (by omega) (by omega)).mono ?_;rintro e w5 ⟨rfl,rfl⟩) |(refine(zM _ _ (by omega)).mono ?_;rintro e w5 ⟨rfl,rfl⟩))
    go_ret;exact⟨rfl,b0⟩
theorem VS(v u:Int)(w:World):
    Calls Tryz.prog 193 #[.agg #[.int .i64 v,.int .i64 u]] w fun e w'=>e=.returned (.bool (decide (goP v u)))∧Below w.heap.size w w':=by
  have bx:=Box.new w #[.int .i64 v,.int .i64 u] 168;have b0:Below w.heap.size w (w.alloc (.cells #[.int .i64 v,.int .i64 u] 168)):=(Below.refl _ _).alloc (Nat.le_refl _) _;have c0:=bx.cell 0 _ rfl;have c1:=bx.cell 1 _ rfl;clear bx;by_cases hv:1≤v∧v≤9999
  · by_cases hu:1≤u∧u≤9999
    · rw [decide_eq_true (show goP v u from⟨hv,hu⟩)]
      go_enter Tryz.func193,Tryz.ntmps193
      go_wp2_with (go_at_call 186;first |(refine(zC _ _ (by omega) (by omega)).mono ?_;rintro e w5 ⟨rfl,rfl⟩) |(refine(zM _ _ (by omega)).mono ?_;rintro e w5 ⟨rfl,rfl⟩))
      go_ret;exact⟨rfl,b0⟩
    · rw [decide_eq_false (show ¬goP v u from fun h=>hu h.2)]
      go_enter Tryz.func193,Tryz.ntmps193
      go_wp2_with (go_at_call 186;first |(refine(zC _ _ (by omega) (by omega)).mono ?_;rintro e w5 ⟨rfl,rfl⟩) |(refine(zM _ _ (by omega)).mono ?_;rintro e w5 ⟨rfl,rfl⟩))
      go_ret;exact⟨rfl,b0⟩
  · rw [decide_eq_false (show ¬goP v u from fun h=>hv h.1)]
    go_enter Tryz.func193,Tryz.ntmps193
    go_wp2_with (go_at_call 186;first |(refine(zC _ _ (by omega) (by omega)).mono ?_;rintro e w5 ⟨rfl,rfl⟩) |(refine(zM _ _ (by omega)).mono ?_;rintro e w5 ⟨rfl,rfl⟩))
    go_ret;exact⟨rfl,b0⟩
theorem VK(v u f:Int)(w:World):
    Calls Tryz.prog 192 #[.agg #[.int .i64 v,.int .i64 u,.int .i64 f]] w fun e w'=>e=.returned (.bool (decide (flP v u f)))∧Below w.heap.size w w':=by
  have bx:=Box.new w #[.int .i64 v,.int .i64 u,.int .i64 f] 166;have b0:Below w.heap.size w (w.alloc (.cells #[.int .i64 v,.int .i64 u,.int .i64 f] 166)):=(Below.refl _ _).alloc (Nat.le_refl _) _;have c0:=bx.cell 0 _ rfl;have c1:=bx.cell 1 _ rfl;have c2:=bx.cell 2 _ rfl;clear bx;by_cases hv:1≤v∧v≤9999
  · by_cases hu:1≤u∧u≤9999
    · have HF:Hid (decide (0≤f∧f≤7)=decide (flP v u f)):=show _=_ from decide_eq_decide.2 ⟨fun h=>⟨hv,hu,h⟩,fun h=>h.2.2⟩
      go_enter Tryz.func192,Tryz.ntmps192
      go_wp2_with (first |(go_at_call 186;first |(refine(zC _ _ (by omega) (by omega)).mono ?_;rintro e w5 ⟨rfl,rfl⟩) |(refine(zM _ _ (by omega)).mono ?_;rintro e w5 ⟨rfl,rfl⟩)) |(go_at_call 191;refine(Yt _ _).mono ?_;rintro e w5 ⟨rfl,rfl⟩;try rw [HF.out]))
      go_ret;exact⟨rfl,b0⟩
    · rw [decide_eq_false (show ¬flP v u f from fun h=>hu h.2.1)]
      go_enter Tryz.func192,Tryz.ntmps192
      go_wp2_with (go_at_call 186;first |(refine(zC _ _ (by omega) (by omega)).mono ?_;rintro e w5 ⟨rfl,rfl⟩) |(refine(zM _ _ (by omega)).mono ?_;rintro e w5 ⟨rfl,rfl⟩))
      go_ret;exact⟨rfl,b0⟩
  · rw [decide_eq_false (show ¬flP v u f from fun h=>hv h.1)]
    go_enter Tryz.func192,Tryz.ntmps192
    go_wp2_with (go_at_call 186;first |(refine(zC _ _ (by omega) (by omega)).mono ?_;rintro e w5 ⟨rfl,rfl⟩) |(refine(zM _ _ (by omega)).mono ?_;rintro e w5 ⟨rfl,rfl⟩))
    go_ret;exact⟨rfl,b0⟩
theorem qm (v u f:Int) (t:ByteArray) (w:World):
    Calls Tryz.prog 190 #[.agg #[.int .i64 v,.int .i64 u,.int .i64 f,.string t]] w fun e w'=>e=.returned (.bool (decide (adP v u f t)))∧Below w.heap.size w w':=by
  have bx:=Box.new w #[.int .i64 v,.int .i64 u,.int .i64 f,.string t] 164;have b0:Below w.heap.size w (w.alloc (.cells #[.int .i64 v,.int .i64 u,.int .i64 f,.string t] 164)):=(Below.refl _ _).alloc (Nat.le_refl _) _;have c0:=bx.cell 0 _ rfl;have c1:=bx.cell 1 _ rfl;have c2:=bx.cell 2 _ rfl;have c3:=bx.cell 3 _ rfl;clear bx;by_cases hv:1≤v∧v≤9999
  · by_cases hu:1≤u∧u≤9999
    · by_cases hf:0≤f∧f≤7
      · have HF:Hid (decide (0≤f∧f≤7)=true):=show _=_ from decide_eq_true hf
        have HE:Hid (decide (adP v u f t)=decide ((t.size:Int)≤100)):=show _=_ from decide_eq_decide.2 ⟨fun h=>by have:=h.2.2.2;omega,fun h=>⟨hv,hu,hf,by omega⟩⟩
        clear hf;go_enter Tryz.func190,Tryz.ntmps190
        go_wp2_with (first |(go_at_call 186;first |(refine(zC _ _ (by omega) (by omega)).mono ?_;rintro e w5 ⟨rfl,rfl⟩) |(refine(zM _ _ (by omega)).mono ?_;rintro e w5 ⟨rfl,rfl⟩)) |(go_at_call 191;refine(Yt _ _).mono ?_;rintro e w5 ⟨rfl,rfl⟩;try rw [HF.out]))
        go_ret;exact⟨by rw [HE.out];rfl,b0⟩
      · have HF:Hid (decide (0≤f∧f≤7)=false):=show _=_ from decide_eq_false hf
        rw [decide_eq_false (show ¬adP v u f t from fun h=>hf h.2.2.1)];clear hf;go_enter Tryz.func190,Tryz.ntmps190
        go_wp2_with (first |(go_at_call 186;first |(refine(zC _ _ (by omega) (by omega)).mono ?_;rintro e w5 ⟨rfl,rfl⟩) |(refine(zM _ _ (by omega)).mono ?_;rintro e w5 ⟨rfl,rfl⟩)) |(go_at_call 191;refine(Yt _ _).mono ?_;rintro e w5 ⟨rfl,rfl⟩;try rw [HF.out]))
        go_ret;exact⟨rfl,b0⟩
    · rw [decide_eq_false (show ¬adP v u f t from fun h=>hu h.2.1)]
      go_enter Tryz.func190,Tryz.ntmps190
      go_wp2_with (go_at_call 186;first |(refine(zC _ _ (by omega) (by omega)).mono ?_;rintro e w5 ⟨rfl,rfl⟩) |(refine(zM _ _ (by omega)).mono ?_;rintro e w5 ⟨rfl,rfl⟩))
      go_ret;exact⟨rfl,b0⟩
  · rw [decide_eq_false (show ¬adP v u f t from fun h=>hv h.1)]
    go_enter Tryz.func190,Tryz.ntmps190
    go_wp2_with (go_at_call 186;first |(refine(zC _ _ (by omega) (by omega)).mono ?_;rintro e w5 ⟨rfl,rfl⟩) |(refine(zM _ _ (by omega)).mono ?_;rintro e w5 ⟨rfl,rfl⟩))
    go_ret;exact⟨rfl,b0⟩
theorem xR(r:Rc)(w:World)(hk:r.kind=1):
    Calls Tryz.prog 95 #[r.v] w fun e w'=>e=.returned (.tuple #[.iface 160 (.agg #[.int .i64 r.valid,.int .i64 r.next,.string r.user,.string r.name]),.bool true])∧Below w.heap.size w w':=by
  obtain⟨c0,c1,c2,c3,c4,c5,c6,c7⟩:=(Box.new w r.cs 33).rec;have b0:Below w.heap.size w (w.alloc (.cells r.cs 33)):=(Below.refl _ _).alloc (Nat.le_refl _) _;have k1:(r.kind==1)=true:=by rw [hk];rfl
  clear hk;unfold Rc.v;unfold Rc.cs at *;go_enter Tryz.func95,Tryz.ntmps95
  go_wp2;go_ret2
  exact⟨rfl,b0⟩
theorem xT(r:Rc)(w:World)(hk:r.kind=2):
    Calls Tryz.prog 95 #[r.v] w fun e w'=>e=.returned (.tuple #[.iface 162 (.agg #[.int .i64 r.valid]),.bool true])∧Below w.heap.size w w':=by
  obtain⟨c0,c1,c2,c3,c4,c5,c6,c7⟩:=(Box.new w r.cs 33).rec;have b0:Below w.heap.size w (w.alloc (.cells r.cs 33)):=(Below.refl _ _).alloc (Nat.le_refl _) _;have k1:(r.kind==1)=false:=by rw [hk];rfl
  have k2:(r.kind==2)=true:=by rw [hk];rfl
  clear hk;unfold Rc.v;unfold Rc.cs at *;go_enter Tryz.func95,Tryz.ntmps95
  go_wp2;go_ret2
  exact⟨rfl,b0⟩
theorem xG(r:Rc)(w:World)(hk:r.kind=3):
    Calls Tryz.prog 95 #[r.v] w fun e w'=>e=.returned (.tuple #[.iface 164 (.agg #[.int .i64 r.valid,.int .i64 r.uid,.int .i64 r.flags,.string r.text]),.bool true])∧Below w.heap.size w w':=by
  obtain⟨c0,c1,c2,c3,c4,c5,c6,c7⟩:=(Box.new w r.cs 33).rec;have b0:Below w.heap.size w (w.alloc (.cells r.cs 33)):=(Below.refl _ _).alloc (Nat.le_refl _) _;have k1:(r.kind==1)=false:=by rw [hk];rfl
  have k2:(r.kind==2)=false:=by rw [hk];rfl
  have k3:(r.kind==3)=true:=by rw [hk];rfl
  clear hk;unfold Rc.v;unfold Rc.cs at *;go_enter Tryz.func95,Tryz.ntmps95
  go_wp2;go_ret2
  exact⟨rfl,b0⟩
theorem xV(r:Rc)(w:World)(hk:r.kind=4):
    Calls Tryz.prog 95 #[r.v] w fun e w'=>e=.returned (.tuple #[.iface 166 (.agg #[.int .i64 r.valid,.int .i64 r.uid,.int .i64 r.flags]),.bool true])∧Below w.heap.size w w':=by
  obtain⟨c0,c1,c2,c3,c4,c5,c6,c7⟩:=(Box.new w r.cs 33).rec;have b0:Below w.heap.size w (w.alloc (.cells r.cs 33)):=(Below.refl _ _).alloc (Nat.le_refl _) _;have k1:(r.kind==1)=false:=by rw [hk];rfl
  have k2:(r.kind==2)=false:=by rw [hk];rfl
  have k3:(r.kind==3)=false:=by rw [hk];rfl
  have k4:(r.kind==4)=true:=by rw [hk];rfl
  clear hk;unfold Rc.v;unfold Rc.cs at *;go_enter Tryz.func95,Tryz.ntmps95
  go_wp2;go_ret2
  exact⟨rfl,b0⟩
theorem Xp(r:Rc)(w:World)(hk:r.kind=5):
    Calls Tryz.prog 95 #[r.v] w fun e w'=>e=.returned (.tuple #[.iface 168 (.agg #[.int .i64 r.valid,.int .i64 r.uid]),.bool true])∧Below w.heap.size w w':=by
  obtain⟨c0,c1,c2,c3,c4,c5,c6,c7⟩:=(Box.new w r.cs 33).rec;have b0:Below w.heap.size w (w.alloc (.cells r.cs 33)):=(Below.refl _ _).alloc (Nat.le_refl _) _;have k1:(r.kind==1)=false:=by rw [hk];rfl
  have k2:(r.kind==2)=false:=by rw [hk];rfl
  have k3:(r.kind==3)=false:=by rw [hk];rfl
  have k4:(r.kind==4)=false:=by rw [hk];rfl
  have k5:(r.kind==5)=true:=by rw [hk];rfl
  clear hk;unfold Rc.v;unfold Rc.cs at *;go_enter Tryz.func95,Tryz.ntmps95
  go_wp2;go_ret2
  exact⟨rfl,b0⟩
theorem xa(r:Rc)(w:World)(hk:¬(1≤r.kind∧r.kind≤5)):
    Calls Tryz.prog 95 #[r.v] w fun e w'=>e=.returned (.tuple #[.nilIface,.bool false])∧Below w.heap.size w w':=by
  obtain⟨c0,c1,c2,c3,c4,c5,c6,c7⟩:=(Box.new w r.cs 33).rec;have b0:Below w.heap.size w (w.alloc (.cells r.cs 33)):=(Below.refl _ _).alloc (Nat.le_refl _) _;have k1:(r.kind==1)=false:=beq_eq_false_iff_ne.2 (by omega);have k2:(r.kind==2)=false:=beq_eq_false_iff_ne.2 (by omega);have k3:(r.kind==3)=false:=beq_eq_false_iff_ne.2 (by omega);have k4:(r.kind==4)=false:=beq_eq_false_iff_ne.2 (by omega);have k5:(r.kind==5)=false:=beq_eq_false_iff_ne.2 (by omega);clear hk;unfold Rc.v;unfold Rc.cs at *;go_enter Tryz.func95,Tryz.ntmps95
  go_wp2;go_ret2
  exact⟨rfl,b0⟩

/- Records: what the program's recOf tells back. -/
theorem zb5(v n:Int)(u m:ByteArray)(w:World):
    Calls Tryz.prog 96 #[.iface 160 (.agg #[.int .i64 v,.int .i64 n,.string u,.string m])] w fun e w'=>e=.returned (Rc.v ⟨1,v,0,n,0,u,m,emp⟩)∧Below w.heap.size w w':=by
  have t1:∀ wx,(Instr.typeAssert (.iface 160 (.agg #[.int .i64 v,.int .i64 n,.string u,.string m])) 134 160 true).run Tryz.prog wx=.ok (.tuple #[.agg #[.int .i64 v,.int .i64 n,.string u,.string m],.bool true]) wx:=fun _=>by kernel_rfl
  go_enter Tryz.func96,Tryz.ntmps96
  go_wp2;refine bodyPost_ret (v:=Rc.v ⟨1,v,0,n,0,u,m,emp⟩) (by simp [results,Tryz.results96,go_sem,Rc.v,emp]) rfl ?_;exact⟨rfl,((Below.refl _ _).alloc (Nat.le_refl _) _).alloc (by simp) _⟩
theorem zb6(v:Int)(w:World):
    Calls Tryz.prog 96 #[.iface 162 (.agg #[.int .i64 v])] w fun e w'=>e=.returned (Rc.v ⟨2,v,0,0,0,emp,emp,emp⟩)∧Below w.heap.size w w':=by
  have t1:∀ wx,(Instr.typeAssert (.iface 162 (.agg #[.int .i64 v])) 134 160 true).run Tryz.prog wx=.ok (.tuple #[.agg #[.int .i64 0,.int .i64 0,.string ⟨#[]⟩,.string ⟨#[]⟩],.bool false]) wx:=fun _=>by kernel_rfl
  have t2:∀ wx,(Instr.typeAssert (.iface 162 (.agg #[.int .i64 v])) 134 162 true).run Tryz.prog wx=.ok (.tuple #[.agg #[.int .i64 v],.bool true]) wx:=fun _=>by kernel_rfl
  go_enter Tryz.func96,Tryz.ntmps96
  go_wp2;refine bodyPost_ret (v:=Rc.v ⟨2,v,0,0,0,emp,emp,emp⟩) (by simp [results,Tryz.results96,go_sem,Rc.v,emp]) rfl ?_;exact⟨rfl,((Below.refl _ _).alloc (Nat.le_refl _) _).alloc (by simp) _⟩
theorem zcz(v u f:Int)(t:ByteArray)(w:World):
    Calls Tryz.prog 96 #[.iface 164 (.agg #[.int .i64 v,.int .i64 u,.int .i64 f,.string t])] w fun e w'=>e=.returned (Rc.v ⟨3,v,u,0,f,emp,emp,t⟩)∧Below w.heap.size w w':=by
  have t1:∀ wx,(Instr.typeAssert (.iface 164 (.agg #[.int .i64 v,.int .i64 u,.int .i64 f,.string t])) 134 160 true).run Tryz.prog wx=.ok (.tuple #[.agg #[.int .i64 0,.int .i64 0,.string ⟨#[]⟩,.string ⟨#[]⟩],.bool false]) wx:=fun _=>by kernel_rfl
  have t2:∀ wx,(Instr.typeAssert (.iface 164 (.agg #[.int .i64 v,.int .i64 u,.int .i64 f,.string t])) 134 162 true).run Tryz.prog wx=.ok (.tuple #[.agg #[.int .i64 0],.bool false]) wx:=fun _=>by kernel_rfl
  have t3:∀ wx,(Instr.typeAssert (.iface 164 (.agg #[.int .i64 v,.int .i64 u,.int .i64 f,.string t])) 134 164 true).run Tryz.prog wx=.ok (.tuple #[.agg #[.int .i64 v,.int .i64 u,.int .i64 f,.string t],.bool true]) wx:=fun _=>by kernel_rfl
  go_enter Tryz.func96,Tryz.ntmps96
  go_wp2;refine bodyPost_ret (v:=Rc.v ⟨3,v,u,0,f,emp,emp,t⟩) (by simp [results,Tryz.results96,go_sem,Rc.v,emp]) rfl ?_;exact⟨rfl,((Below.refl _ _).alloc (Nat.le_refl _) _).alloc (by simp) _⟩
theorem zci(v u f:Int)(w:World):
    Calls Tryz.prog 96 #[.iface 166 (.agg #[.int .i64 v,.int .i64 u,.int .i64 f])] w fun e w'=>e=.returned (Rc.v ⟨4,v,u,0,f,emp,emp,emp⟩)∧Below w.heap.size w w':=by
  have t1:∀ wx,(Instr.typeAssert (.iface 166 (.agg #[.int .i64 v,.int .i64 u,.int .i64 f])) 134 160 true).run Tryz.prog wx=.ok (.tuple #[.agg #[.int .i64 0,.int .i64 0,.string ⟨#[]⟩,.string ⟨#[]⟩],.bool false]) wx:=fun _=>by kernel_rfl
  have t2:∀ wx,(Instr.typeAssert (.iface 166 (.agg #[.int .i64 v,.int .i64 u,.int .i64 f])) 134 162 true).run Tryz.prog wx=.ok (.tuple #[.agg #[.int .i64 0],.bool false]) wx:=fun _=>by kernel_rfl
  have t3:∀ wx,(Instr.typeAssert (.iface 166 (.agg #[.int .i64 v,.int .i64 u,.int .i64 f])) 134 164 true).run Tryz.prog wx=.ok (.tuple #[.agg #[.int .i64 0,.int .i64 0,.int .i64 0,.string ⟨#[]⟩],.bool false]) wx:=fun _=>by kernel_rfl
  have t4:∀ wx,(Instr.typeAssert (.iface 166 (.agg #[.int .i64 v,.int .i64 u,.int .i64 f])) 134 166 true).run Tryz.prog wx=.ok (.tuple #[.agg #[.int .i64 v,.int .i64 u,.int .i64 f],.bool true]) wx:=fun _=>by kernel_rfl
  go_enter Tryz.func96,Tryz.ntmps96
  go_wp2;refine bodyPost_ret (v:=Rc.v ⟨4,v,u,0,f,emp,emp,emp⟩) (by simp [results,Tryz.results96,go_sem,Rc.v,emp]) rfl ?_;exact⟨rfl,((Below.refl _ _).alloc (Nat.le_refl _) _).alloc (by simp) _⟩
theorem zcw(v u:Int)(w:World):
    Calls Tryz.prog 96 #[.iface 168 (.agg #[.int .i64 v,.int .i64 u])] w fun e w'=>e=.returned (Rc.v ⟨5,v,u,0,0,emp,emp,emp⟩)∧Below w.heap.size w w':=by
  have t1:∀ wx,(Instr.typeAssert (.iface 168 (.agg #[.int .i64 v,.int .i64 u])) 134 160 true).run Tryz.prog wx=.ok (.tuple #[.agg #[.int .i64 0,.int .i64 0,.string ⟨#[]⟩,.string ⟨#[]⟩],.bool false]) wx:=fun _=>by kernel_rfl
  have t2:∀ wx,(Instr.typeAssert (.iface 168 (.agg #[.int .i64 v,.int .i64 u])) 134 162 true).run Tryz.prog wx=.ok (.tuple #[.agg #[.int .i64 0],.bool false]) wx:=fun _=>by kernel_rfl
  have t3:∀ wx,(Instr.typeAssert (.iface 168 (.agg #[.int .i64 v,.int .i64 u])) 134 164 true).run Tryz.prog wx=.ok (.tuple #[.agg #[.int .i64 0,.int .i64 0,.int .i64 0,.string ⟨#[]⟩],.bool false]) wx:=fun _=>by kernel_rfl
  have t4:∀ wx,(Instr.typeAssert (.iface 168 (.agg #[.int .i64 v,.int .i64 u])) 134 166 true).run Tryz.prog wx=.ok (.tuple #[.agg #[.int .i64 0,.int .i64 0,.int .i64 0],.bool false]) wx:=fun _=>by kernel_rfl
  have t5:∀ wx,(Instr.typeAssert (.iface 168 (.agg #[.int .i64 v,.int .i64 u])) 134 168 true).run Tryz.prog wx=.ok (.tuple #[.agg #[.int .i64 v,.int .i64 u],.bool true]) wx:=fun _=>by kernel_rfl
  go_enter Tryz.func96,Tryz.ntmps96
  go_wp2;refine bodyPost_ret (v:=Rc.v ⟨5,v,u,0,0,emp,emp,emp⟩) (by simp [results,Tryz.results96,go_sem,Rc.v,emp]) rfl ?_;exact⟨rfl,((Below.refl _ _).alloc (Nat.le_refl _) _).alloc (by simp) _⟩
instance decRcEq (a b : Rc) : Decidable (a = b) :=
  decidable_of_iff (a.kind=b.kind∧a.valid=b.valid∧a.uid=b.uid∧a.next=b.next∧a.flags=b.flags∧a.user=b.user∧a.name=b.name∧a.text=b.text) (by
    obtain⟨a0,a1,a2,a3,a4,a5,a6,a7⟩:=a
    obtain⟨b0,b1,b2,b3,b4,b5,b6,b7⟩:=b
    simp)
theorem zc9(a b:ByteArray):a.toList=b.toList↔a=b:=by
  have h:=vN a b;constructor
  · intro e
    rw [beq_iff_eq.2 e] at h;exact of_decide_eq_true h.symm
  · intro e;rw [e]
end Go.Proofs.YtklkhllkjnbhjaaGreatDoor
