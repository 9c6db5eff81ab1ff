/-
  A region that draws its order, whose operations only read and whose callees make memory but turn none that was there: one walk in the text's order serves every order. A slice cut from one that reads as bytes reads as those bytes' part. No conditions beyond those that each states.
-/
import Derived.Test.YthgcpelabiigpaaDoorShaSame
namespace Go.Proofs.YthgcpelabiigpaaDoor.Sha
open Go Go.RowKit

theorem same_true (x y : List UInt8) (hxy : x = y) (hx : x.length = 32) (w : World) :
    Calls Tryd.prog 9 #[.agg (x.map bV).toArray, .agg (y.map bV).toArray] w fun e w' => e = .returned (.bool true) ∧ Below w.heap.size w w' := by
  subst hxy
  have := same_any x x hx hx w
  rw [decide_eq_true rfl] at this
  exact this

end Go.Proofs.YthgcpelabiigpaaDoor.Sha
