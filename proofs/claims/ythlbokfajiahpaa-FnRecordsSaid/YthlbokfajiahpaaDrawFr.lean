/- What is drawn for the chapter on frames: what spec.l04Frame, l04Any, l02Spoilt, l01Place and the draws of the chapter hand back. -/
import Derived.Test.YthlbokfajiahpaaDrawKit
import Derived.Test.YthlbokfajiahpaaFrOk
namespace Go.Proofs.Ythlbokfajiahpaa
open Go.RowKit

/-- A drawn frame. -/
def FrR (Pr : Fr → Prop) (pc : Nat) (a : Option Addr) (len cap : Nat) (w : World) (e : Ending) (w' : World) : Prop :=
  ∃ f : Fr, Pr f ∧ e = .returned f.v ∧ Cur w' pc a len cap ∧ w.grownBy w' (some pc)
def Fr.drawn (f : Fr) : Prop := f.ok ∧ f.body.size ≤ 20


/-- What is known while a frame is drawn: the frame's box, the answer's box, and the cursor. -/
structure AnyI (pc : Nat) (a : Option Addr) (len cap : Nat) (w : World) (b : Nat) (f : Fr) (X : World) : Prop where
  cur : Cur X pc a len cap
  grown : w.grownBy X (some pc)
  res : Box X w.heap.size #[.int .i64 0, .int .i64 0, .string ⟨#[]⟩] 36
  fr : Box X b #[.int .i64 f.gen, .int .i64 f.seq, .string f.body] 36
  lt : w.heap.size < b
  ne : b ≠ pc ∧ pc < w.heap.size

theorem AnyI.next {pc : Nat} {a : Option Addr} {len cap : Nat} {w : World} {b : Nat} {f : Fr} {X Y : World} (h : AnyI pc a len cap w b f X) (hg : X.grownBy Y (some pc)) (hc : Cur Y pc a len cap) : AnyI pc a len cap w b f Y :=
  ⟨hc, h.grown.trans hg, h.res.cur hg (by have := h.ne.2; omega), h.fr.cur hg h.ne.1, h.lt, h.ne⟩



end Go.Proofs.Ythlbokfajiahpaa
