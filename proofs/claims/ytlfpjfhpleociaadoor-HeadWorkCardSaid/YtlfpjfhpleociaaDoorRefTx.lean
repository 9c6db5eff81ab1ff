/-
  The statements' own TxBytes writes a transaction's bytes as the chapter says. Nothing that was there turns. Conditions: a transaction that lies in memory; its inputs' bytes and its outputs' bytes fewer than 2^44.
-/
import Derived.Test.YtlfpjfhpleociaaDoorTxSame
import Derived.Test.YtlfpjfhpleociaaDoorTxMath
import Derived.Test.YtlfpjfhpleociaaDoorRefBuf
import Derived.Test.YtlfpjfhpleociaaDoorHeld
namespace Go.Proofs.YtlfpjfhpleociaaDoor.Sha
open Go Go.RowKit
theorem OwnG.keep {base : Nat} {r : Option Nat} {w0 w w' : World} {v : Value} {bs : List UInt8} (h : OwnG base r w0 w v bs) (hb : Below w.heap.size w w') : OwnG base r w0 w' v bs :=
  ⟨own_kept h.1 hb, grownBy_trans h.2.1 (grownBy_of_below hb _), h.2.2.1, Nat.le_trans h.2.2.2 hb.size⟩
end Go.Proofs.YtlfpjfhpleociaaDoor.Sha
