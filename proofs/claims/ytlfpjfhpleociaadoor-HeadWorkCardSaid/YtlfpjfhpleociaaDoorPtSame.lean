/-
  The statements' own SamePoint tells whether two places are one. Nothing that was there turns. Condition: digests of 32 bytes.
-/
import Derived.Test.YtlfpjfhpleociaaDoorPt
import Derived.Test.YtlfpjfhpleociaaDoorShaSame
namespace Go.Proofs.YtlfpjfhpleociaaDoor.Sha
open Go Go.RowKit
theorem same_b (x y : List UInt8) (hx : x.length = 32) (hy : y.length = 32) (b : Bool) (hb : b = decide (x = y)) (w : World) :
    Calls Tryd.prog 15 #[.agg (x.map bV).toArray, .agg (y.map bV).toArray] w fun e w' => e = .returned (.bool b) ∧ Below w.heap.size w w' := by
  subst hb
  exact same_any x y hx hy w
end Go.Proofs.YtlfpjfhpleociaaDoor.Sha
