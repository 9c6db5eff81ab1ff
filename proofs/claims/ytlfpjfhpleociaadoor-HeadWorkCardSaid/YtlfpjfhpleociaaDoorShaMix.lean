/-
  digest.startWords answers the eight words that the chapter gives; digest.mix works one block of 64 bytes into eight words that lie at the head of a block of memory, as the chapter gives it; nothing else that was there turns. Conditions: the bytes, the words and the table lie where they should.
-/
import Derived.WalkKit
import Derived.Deep.Light
import Derived.StillTailTactics
import Derived.LoopTactic
import Derived.RegionTactic
import Derived.Deep.QuietTactic
import Derived.BigQuiet
import Derived.Laws.CopyOwn
import Derived.Lib.Hide
import Derived.WalkSmall
import Derived.Maps.RangeWalk
import Derived.Deep.DeepFit
import Derived.Test.YtlfpjfhpleociaaDoorShaMath
import Derived.Test.YtlfpjfhpleociaaDoorProg
namespace Go.Proofs.YtlfpjfhpleociaaDoor.Sha
open Go Go.RowKit
/-- The table of the rounds' words. -/
def KTab (w : World) : Prop := ∀ t, t < 64 → w.cell? ⟨25, t, none⟩ = some (.int .u32 (wv (kW t)))
attribute [local go_sem] wv_add wv_sum wv_xor wv_and wv_andNot
end Go.Proofs.YtlfpjfhpleociaaDoor.Sha
