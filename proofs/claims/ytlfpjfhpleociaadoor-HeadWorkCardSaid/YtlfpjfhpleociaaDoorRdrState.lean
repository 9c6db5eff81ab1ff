/-
  A Reader in a walk: how it stands behind each step, whatever else makes memory. Conditions: those that each states.
-/
import Derived.Test.YtlfpjfhpleociaaDoorCmpHash
import Derived.Test.YtlfpjfhpleociaaDoorErrs
namespace Go.Proofs.YtlfpjfhpleociaaDoor.Sha
open Go Go.RowKit
/-- A Reader made since W; nothing that was there in W has turned. -/
def RS (E : Nat → Addr) (m : Nat) (W w : World) (r : Nat) (bs : List UInt8) (c : Nat) : Prop := RdI E m w r bs c ∧ Below W.heap.size W w ∧ W.heap.size ≤ r
variable {E : Nat → Addr} {m r c d : Nat} {W w w' : World} {bs b : List UInt8}
theorem RS.keep (h : RS E m W w r bs c) (hb : Below w.heap.size w w') : RS E m W w' r bs c := ⟨h.1.below hb, h.2.1.trans (hb.mono h.2.1.size), h.2.2⟩
theorem RS.lt (h : RS E m W w r bs c) : r < w.heap.size := h.1.lt
end Go.Proofs.YtlfpjfhpleociaaDoor.Sha
