/-
  The first four bytes of the SHA-256 of nothing. No conditions.
-/
import Derived.Test.YtboepklpbedanaaDoorShaMath2
namespace Go.Proofs.YtboepklpbedanaaDoor.Sha
open Go

theorem sha_nil : (sha []).take 4 = [227, 176, 196, 66] := by decide +kernel
end Go.Proofs.YtboepklpbedanaaDoor.Sha
