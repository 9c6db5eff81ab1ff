/-
  Laws for walks, of no program: a slice cut from its lower bound on; a copy into a block that is known whole; many cells stored into such a block. No conditions beyond those that each states.
-/
import Derived.WalkKit
import Derived.Laws.CopyOwn
import Derived.Deep.MidRow
import Derived.Lib.Hide
namespace Go.Proofs.YtlfpjfhpleociaaDoor.Sha
open Go Go.RowKit
theorem setCells_other (B : Nat) : ∀ (vs : List Value) (o : Nat) (w : World) (k : Nat), k ≠ B → (w.setCells B o vs).heap[k]? = w.heap[k]?
  | [], _, _, _, _ => rfl
  | v :: r, o, w, k, h => by
    show ((w.setCell ⟨B, o, none⟩ v).setCells B (o + 1) r).heap[k]? = _
    rw [setCells_other B r (o + 1) _ k h, heap_setCell_other _ _ _ _ h]
theorem setCells_rest (B : Nat) : ∀ (vs : List Value) (o : Nat) (w : World), (w.setCells B o vs).heap.size = w.heap.size ∧ (w.setCells B o vs).os = w.os ∧ (w.setCells B o vs).tape = w.tape ∧ (w.setCells B o vs).output = w.output
  | [], _, _ => ⟨rfl, rfl, rfl, rfl⟩
  | v :: r, o, w => by
    obtain ⟨a, b, c, d⟩ := setCells_rest B r (o + 1) (w.setCell ⟨B, o, none⟩ v)
    exact ⟨a.trans (by simp [World.setCell]), b, c, d⟩
theorem grownBy_setCells (B : Nat) (vs : List Value) (o : Nat) (w : World) : w.grownBy (w.setCells B o vs) (some B) := by
  obtain ⟨a, b, c, d⟩ := setCells_rest B vs o w
  exact ⟨b, c, d, Nat.le_of_eq a.symm, fun k _ hne => setCells_other B vs o w k (fun e => hne (by rw [e]))⟩
theorem grownBy_refl (w : World) (row : Option Nat) : w.grownBy w row := ⟨rfl, rfl, rfl, Nat.le_refl _, fun _ _ _ => rfl⟩
end Go.Proofs.YtlfpjfhpleociaaDoor.Sha
