/-
  How a transaction that came in by value reads. No conditions.
-/
import Derived.Deep.Slices
import Derived.Test.YtlfpjfhpleociaaDoorArgsPt
import Derived.Test.YtlfpjfhpleociaaDoorTxMath
namespace Go.Proofs.YtlfpjfhpleociaaDoor.Sha
open Go Go.ChangeShapes Go.WideShapes Go.ChangeAt Go.RowKit Go.Deep
/-- All that is known of a transaction that came in. -/
def TxCame (t : TTx) : Prop := TxOk t ∧ InsOk t.ins ∧ OutsOk t.outs ∧ KeysLe t.ins 9223372036854775807 ∧ t.ins.length ≤ 9223372036854775807 ∧ t.outs.length ≤ 9223372036854775807
end Go.Proofs.YtlfpjfhpleociaaDoor.Sha
