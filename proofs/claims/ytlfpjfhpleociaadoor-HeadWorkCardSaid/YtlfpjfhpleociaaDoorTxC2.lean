/-
  What package tx is shown to answer of bytes as a transaction, as a hypothesis; what is read is small. No conditions.
-/
import Derived.Test.YtlfpjfhpleociaaDoorShaSum
import Derived.Test.YtlfpjfhpleociaaDoorTxSm
import Derived.Test.YtlfpjfhpleociaaDoorTxRead2
namespace Go.Proofs.YtlfpjfhpleociaaDoor.Sha
open Go Go.RowKit
/-- What bytes are as a transaction. -/
structure ReadIs (bs : List UInt8) (t : TTx) (c : Nat) : Prop where
  eq : readTx bs = (t, c)
end Go.Proofs.YtlfpjfhpleociaaDoor.Sha
