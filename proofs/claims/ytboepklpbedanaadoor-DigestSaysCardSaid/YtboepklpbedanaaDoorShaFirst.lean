/-
  The chapter's example holds: the statements' own function 'first' answers true. Condition: the table is there.
-/
import Derived.Test.YtboepklpbedanaaDoorShaSha
import Derived.Test.YtboepklpbedanaaDoorShaNil
namespace Go.Proofs.YtboepklpbedanaaDoor.Sha
open Go Go.RowKit

theorem get_of_take {α : Type} {l : List α} {n i : Nat} {x : α} {r : List α} (h : l.take n = r) (hi : i < n) (hx : r[i]? = some x) : l[i]? = some x := by
  rw [← h, List.getElem?_take_of_lt hi] at hx
  exact hx
/-- A block of bytes that has just been laid and filled. -/
theorem fill_setup {w w1 : World} (hb : Below w.heap.size w w1) (z cs : Array Value) (T : TypeId) : Below w.heap.size w ((w1.alloc (.cells z T)).setRow w1.heap.size cs)
    ∧ ((w1.alloc (.cells z T)).setRow w1.heap.size cs).heap[w1.heap.size]? = some (.cells cs T (0, 0)) ∧ ((w1.alloc (.cells z T)).setRow w1.heap.size cs).heap.size = w1.heap.size + 1
    ∧ Below w1.heap.size w1 ((w1.alloc (.cells z T)).setRow w1.heap.size cs) :=
  ⟨below_setRow (hb.alloc hb.size _) hb.size _, setRow_heap _ _ _ _ _ _ (heap_alloc_new _ _), by simp, below_setRow ((Below.refl _ _).alloc (Nat.le_refl _) _) (Nat.le_refl _) _⟩

set_option maxRecDepth 100000 in
theorem first_any (w : World) (hk : KTab w) :
    Calls Tryd.prog 8 #[] w fun e w' => e = .returned (.bool true) ∧ Below w.heap.size w w' := by
  have HK := Lib.hid hk
  clear hk
  go_enter Tryd.func8, Tryd.ntmps8
  go_wp2_with fail
  refine (sha_any [] _ _ HK.out (.inl ⟨_, _, rfl, rfl⟩) (by simp)).mono ?_
  rintro e w1 ⟨rfl, hb1⟩
  have HB1 := Lib.hid hb1
  have hl : ((sha []).map bV).toArray.size = 32 := by simp [sha_length]
  have HL := Lib.hid hl
  clear hb1 hl
  obtain ⟨f1, f2, f3, f4⟩ := fill_setup HB1.out (List.replicate 32 (bV 0)).toArray ((sha []).map bV).toArray 25
  have c (i : Nat) (hi : i < 4) (x : UInt8) (hx : ([227, 176, 196, 66] : List UInt8)[i]? = some x) : ((w1.alloc (.cells (List.replicate 32 (bV 0)).toArray 25)).setRow w1.heap.size ((sha []).map bV).toArray).cell? ⟨w1.heap.size, i, none⟩ = some (.int .u8 (bv x)) := by
    rw [cell_of_row _ _ _ _ _ _ f2, List.getElem?_toArray, List.getElem?_map, get_of_take sha_nil hi hx]
    rfl
  have c0 := c 0 (by omega) 227 rfl
  have c1 := c 1 (by omega) 176 rfl
  have c2 := c 2 (by omega) 196 rfl
  have c3 := c 3 (by omega) 66 rfl
  go_upto_region 2 with ((with_reducible show wpList _ _ _ _ _ _); refine wpList_store_row rfl 25 (.tmp 1) (.tmp 2) rfl w1.heap.size ((sha []).map bV).toArray rfl rfl 25 _ (heap_alloc_new _ _) (by rw [HL.out]; kernel_rfl) (by rw [HL.out]; rfl) (bV_one _) ?_; go_frame)
  generalize hw2 : World.setRow _ _ _ = w2
  have e2 : ((w1.alloc (.cells (List.replicate 32 (bV 0)).toArray 25)).setRow w1.heap.size ((sha []).map bV).toArray) = w2 := hw2
  rw [e2] at c0 c1 c2 c3 f1
  have F1 := Lib.hid f1
  clear e2 hw2 c f1 f2 f3 f4
  change _ = some (Value.int .u8 227) at c0
  change _ = some (Value.int .u8 176) at c1
  change _ = some (Value.int .u8 196) at c2
  change _ = some (Value.int .u8 66) at c3
  go_wp2
  go_ret
  exact ⟨rfl, F1.out⟩
end Go.Proofs.YtboepklpbedanaaDoor.Sha
