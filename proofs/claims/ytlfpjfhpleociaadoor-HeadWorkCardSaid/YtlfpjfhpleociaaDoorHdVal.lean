/-
  A block's header as the model has it: 68 cells; where its parts lie. Conditions: digests of 32 bytes.
-/
import Derived.Test.YtlfpjfhpleociaaDoorHdMath
import Derived.Test.YtlfpjfhpleociaaDoorPt
import Derived.Test.YtlfpjfhpleociaaDoorTxStore
import Derived.Test.YtlfpjfhpleociaaDoorTxC2
import Derived.Test.YtlfpjfhpleociaaDoorTxSame
import Derived.Test.YtlfpjfhpleociaaDoorHeld
namespace Go.Proofs.YtlfpjfhpleociaaDoor.Sha
open Go Go.RowKit
/-- A header's cells. -/
def hdL (h : THd) : List Value := nV h.ver :: (h.prev.map bV ++ (h.root.map bV ++ [nV h.time, nV h.work, nV h.nonce]))
theorem hdL_length {h : THd} (hh : HdOk h) : (hdL h).length = 68 := by simp [hdL, hh.2.1, hh.2.2.1]
theorem hdL_size {h : THd} (hh : HdOk h) : (hdL h).toArray.size = 68 := by rw [List.size_toArray]; exact hdL_length hh
theorem hdL_one' (h : THd) : ∀ v ∈ hdL h, v.oneCell' = true := by
  intro v hv
  rcases List.mem_cons.1 hv with rfl | h1
  · rfl
  rcases List.mem_append.1 h1 with h1 | h1
  · exact bV_one' _ v h1
  rcases List.mem_append.1 h1 with h1 | h1
  · exact bV_one' _ v h1
  · simp only [List.mem_cons, List.not_mem_nil, or_false] at h1
    rcases h1 with rfl | rfl | rfl <;> rfl
theorem hdL_one (h : THd) : (hdL h).toArray.all (·.oneCell') = true := all_oneCell_toArray (hdL_one' h)
/-- The parts' cells. -/
theorem hdL_at {h : THd} (hh : HdOk h) : (hdL h)[0]? = some (nV h.ver) ∧ (hdL h)[65]? = some (nV h.time) ∧ (hdL h)[66]? = some (nV h.work) ∧ (hdL h)[67]? = some (nV h.nonce) := by
  have h1 : (h.prev.map bV).length = 32 := by simp [hh.2.1]
  have h2 : (h.root.map bV).length = 32 := by simp [hh.2.2.1]
  have e : hdL h = [nV h.ver] ++ h.prev.map bV ++ h.root.map bV ++ [nV h.time, nV h.work, nV h.nonce] := by simp [hdL]
  refine ⟨rfl, ?_, ?_, ?_⟩ <;> (rw [e, List.getElem?_append_right (by simp only [List.length_append, h1, h2, List.length_cons, List.length_nil]; omega)]; simp only [List.length_append, h1, h2, List.length_cons, List.length_nil]; rfl)
theorem range_part {w : World} {b o : Nat} {xs ys zs : List Value} (h : w.rangeAt b o (xs ++ (ys ++ zs))) : w.rangeAt b (o + xs.length) ys := fun j v hj => by
  rw [Nat.add_assoc]
  refine h (xs.length + j) v ?_
  rw [List.getElem?_append_right (by omega), Nat.add_sub_cancel_left, List.getElem?_append_left (List.getElem?_eq_some_iff.1 hj).1]
  exact hj
theorem hd_prev {w : World} {b o : Nat} {h : THd} (hg : w.rangeAt b o (hdL h)) : w.rangeAt b (o + 1) (h.prev.map bV) :=
  range_part (xs := [nV h.ver]) (ys := h.prev.map bV) hg
theorem hd_root {w : World} {b o : Nat} {h : THd} (hh : HdOk h) (hg : w.rangeAt b o (hdL h)) : w.rangeAt b (o + 33) (h.root.map bV) := by
  have e : hdL h = (nV h.ver :: h.prev.map bV) ++ (h.root.map bV ++ [nV h.time, nV h.work, nV h.nonce]) := by simp [hdL]
  rw [e] at hg
  have h := range_part hg
  simpa [hh.2.1] using h
/-- What a box with a header in it holds. -/
structure HdBox (w : World) (g : Nat) (h : THd) : Prop where
  row : w.heap[g]? = some (.cells (hdL h).toArray 26 (0, 0))
theorem HdBox.below {w w' : World} {g : Nat} {h : THd} (k : HdBox w g h) (hb : Below w.heap.size w w') : HdBox w' g h := ⟨row_below k.row hb⟩
theorem HdBox.lt {w : World} {g : Nat} {h : THd} (k : HdBox w g h) : g < w.heap.size := (Array.getElem?_eq_some_iff.1 k.row).1
theorem HdBox.cells {w : World} {g : Nat} {h : THd} (k : HdBox w g h) (hh : HdOk h) : w.cell? ⟨g, 0, none⟩ = some (.int .u32 (h.ver : Int)) ∧ w.cell? ⟨g, 65, none⟩ = some (.int .u32 (h.time : Int)) ∧ w.cell? ⟨g, 66, none⟩ = some (.int .u32 (h.work : Int)) ∧ w.cell? ⟨g, 67, none⟩ = some (.int .u32 (h.nonce : Int)) := by
  obtain ⟨h1, h2, h3, h4⟩ := hdL_at hh
  refine ⟨?_, ?_, ?_, ?_⟩ <;> (rw [cell_of_row _ _ _ _ _ _ k.row, List.getElem?_toArray]; assumption)
theorem HdBox.prev {w : World} {g : Nat} {h : THd} (k : HdBox w g h) : w.rangeAt g 1 (h.prev.map bV) := by simpa using hd_prev (range_of_box k.row)
theorem HdBox.root {w : World} {g : Nat} {h : THd} (k : HdBox w g h) (hh : HdOk h) : w.rangeAt g 33 (h.root.map bV) := by simpa using hd_root hh (range_of_box k.row)
theorem hd_box (w : World) (h : THd) : Below w.heap.size w (w.alloc (.cells (hdL h).toArray 26)) ∧ HdBox (w.alloc (.cells (hdL h).toArray 26)) w.heap.size h :=
  ⟨(Below.refl _ _).alloc (Nat.le_refl _) _, ⟨heap_alloc_new _ _⟩⟩
end Go.Proofs.YtlfpjfhpleociaaDoor.Sha
