/-
  How the statements' arguments read: a slice of bytes or numbers that came in; a start that fits. No conditions.
-/
import Derived.Test.YtlfpjfhpleociaaDoorProg
import Derived.ProofKit
import Derived.OpenShut
import Derived.ShutString
import Derived.ChangeOld
import Derived.Deep.DeepHandedRow
import Derived.Lib.LaidTab
import Derived.Test.YtlfpjfhpleociaaDoorCmpLib
namespace Go.Proofs.YtlfpjfhpleociaaDoor.Sha
open Go Go.ChangeShapes Go.WideShapes Go.ChangeAt Go.RowKit
theorem own : ownKnob Tryd.prog.godebug = none := by kernel_rfl
theorem laidOut : laidOutB Tryd.prog = true := by kernel_rfl
theorem byte_of {z : Int} (h : (Lit.int .u8 z).wf = true) : bv (UInt8.ofNat z.toNat) = z := by
  have hb := bounds_u8 h
  unfold bv
  rw [UInt8.toNat_ofNat']
  omega
end Go.Proofs.YtlfpjfhpleociaaDoor.Sha
