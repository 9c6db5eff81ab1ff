/-
  digest's Writer.Write takes bytes behind those that came before: what the whole blocks came to, what is left over and how much was written stand as they should; nothing else that was there turns. Conditions: the bytes lie where the slice says, in another block of memory than the Writer; the table is there; all bytes together are fewer than 2^60.
-/
import Derived.Deep.DeepCutAuto
import Derived.StillTailTactics
import Derived.WalkKit
import Derived.Deep.Light
import Derived.LoopTactic
import Derived.Laws.CopyOwn
import Derived.Lib.Hide
import Derived.WalkSmall
import Derived.Maps.RangeWalk
import Derived.Maps.AppendAt
import Derived.Test.YtlfpjfhpleociaaDoorShaMix
import Derived.Test.YtlfpjfhpleociaaDoorShaMath2
import Derived.Test.YtlfpjfhpleociaaDoorShaLib
namespace Go.Proofs.YtlfpjfhpleociaaDoor.Sha
open Go Go.RowKit
/-- A Writer's cells: eight words, 64 bytes, how much was written. -/
def WCells (w : World) (B : Nat) (s : St) (p : List UInt8) (n : Nat) : Prop :=
  p.length = 64 ∧ w.heap[B]? = some (.cells (s.cells ++ (p.map bV ++ [Value.int .i64 n])).toArray 79 (0, 0))
/-- A Writer that took the bytes l. -/
def WInv (w : World) (B : Nat) (l : List UInt8) : Prop :=
  ∃ s p, WCells w B s p l.length ∧ (l ≠ [] → s = blocks l (l.length / 64)) ∧ p.take (l.length % 64) = l.drop (64 * (l.length / 64))
theorem WCells.size {w : World} {B : Nat} {s : St} {p : List UInt8} {n : Nat} (h : WCells w B s p n) : w.cell? ⟨B, 72, none⟩ = some (.int .i64 n) := by
  rw [cell_of_row _ _ _ _ _ _ h.2, List.getElem?_toArray, List.getElem?_append_right (by rw [St.cells_length]; omega), List.getElem?_append_right (by rw [St.cells_length, List.length_map, h.1]; omega), St.cells_length, List.length_map, h.1]
  rfl
theorem WCells.kept {w w' : World} {B : Nat} {s : St} {p : List UInt8} {n : Nat} (h : WCells w B s p n) (hb : Below w.heap.size w w') : WCells w' B s p n :=
  ⟨h.1, by rw [hb.block B (Array.getElem?_eq_some_iff.1 h.2).1]; exact h.2⟩
theorem KTab.kept {w w' : World} {B : Nat} (h : KTab w) (hg : w.grownBy w' (some B)) (hB : B ≠ 25) : KTab w' := fun t ht =>
  hg.cell (h t ht) (fun e => hB (Option.some.inj e).symm)
end Go.Proofs.YtlfpjfhpleociaaDoor.Sha
