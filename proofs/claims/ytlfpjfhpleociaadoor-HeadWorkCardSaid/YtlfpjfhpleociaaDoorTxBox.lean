/-
  What the walks of package tx share: cells of an input and an output as rows, bytes of so many of them, sums that stay. No conditions beyond those that each states.
-/
import Derived.Test.YtlfpjfhpleociaaDoorTxSm
import Derived.Test.YtlfpjfhpleociaaDoorCmpPut
import Derived.Test.YtlfpjfhpleociaaDoorHeld
import Derived.IntWalk
namespace Go.Proofs.YtlfpjfhpleociaaDoor.Sha
open Go Go.RowKit
theorem TxSmall.bytes {t : TTx} (h : TxSmall t) : (txB t).length = 8 + lenN t.ins.length + lenN t.outs.length + (insB t.ins).length + 40 * t.outs.length := by
  simp only [txB, List.length_append, leB_length, putL_length, outsB_length t.outs h.1.2.2.1]
  omega
end Go.Proofs.YtlfpjfhpleociaaDoor.Sha
