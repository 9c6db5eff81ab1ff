/-
  Package tx takes an input, and an output, from a Reader. Nothing that was there turns but the Reader. Conditions: the Reader stands as it should; the errors are there.
-/
import Derived.Test.YtkabpbclmhmgfaaTxStore
namespace Go.Proofs.Ytkabpbclmhmgfaa.Sha
open Go Go.RowKit

theorem one_mem {v : Value} (h : v.oneCell' = true) : ∀ u ∈ [v], u.oneCell' = true := fun u hu => by rw [List.mem_singleton.1 hu]; exact h
end Go.Proofs.Ytkabpbclmhmgfaa.Sha
