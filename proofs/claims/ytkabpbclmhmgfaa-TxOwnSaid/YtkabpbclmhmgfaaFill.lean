/-
  What 'build' lays: a part over the zero value's cells, from an offset on. A place out of a digest and a number. Condition: a digest of 32 bytes.
-/
import Derived.Great.BuildSlice
import Derived.Test.YtkabpbclmhmgfaaPt
namespace Go.Proofs.Ytkabpbclmhmgfaa.Sha
open Go Go.RowKit

theorem fold_fill (off : Nat) : ∀ (v : List Value) (k : Nat) (cs : List Value), off + k + v.length ≤ cs.length →
    (v.zipIdx k).foldl (fun (cs : Array Value) (x : Value × Nat) => cs.setIfInBounds (off + x.2) x.1) cs.toArray = (cs.take (off + k) ++ v ++ cs.drop (off + k + v.length)).toArray
  | [], k, cs, _ => by simp
  | x :: v, k, cs, h => by
    rw [List.length_cons] at h
    rw [List.zipIdx_cons, List.foldl_cons, List.setIfInBounds_toArray, fold_fill off v (k + 1) (cs.set (off + k) x) (by rw [List.length_set]; omega)]
    congr 1
    have e1 : (cs.set (off + k) x).take (off + (k + 1)) = cs.take (off + k) ++ [x] := by
      rw [show off + (k + 1) = (off + k) + 1 by omega, List.take_succ_eq_append_getElem (by rw [List.length_set]; omega), List.getElem_set_self, List.take_set_of_le (by omega)]
    have e2 : (cs.set (off + k) x).drop (off + (k + 1) + v.length) = cs.drop (off + k + (x :: v).length) := by
      rw [List.drop_set_of_lt (by omega), List.length_cons]
      congr 1
      omega
    rw [e1, e2]
    simp
theorem fill_part (place : Nat → Option (Nat × Nat)) (i off : Nat) (v : Value) (vs cs : List Value) (rest : List (Nat × Value)) (hv : v.cells = vs.toArray) (hp : place i = some (off, vs.length)) (hl : off + vs.length ≤ cs.length) :
    Instr.fill place cs.toArray ((i, v) :: rest) = Instr.fill place (cs.take off ++ vs ++ cs.drop (off + vs.length)).toArray rest := by
  have h := fold_fill off vs 0 cs (by omega)
  rw [Instr.fill, hp]
  simp only [hv, List.size_toArray, ne_eq, not_true_eq_false, gt_iff_lt]
  rw [if_neg (by simp; omega)]
  congr 1
  rw [Nat.add_zero] at h
  rw [← h, ← Array.foldl_toList]
  simp
/-- A place built of a digest and a number. -/
theorem built_pt (h : List UInt8) (n : Nat) (hh : h.length = 32) : Try.prog.built 33 [(0, .agg (h.map bV).toArray), (1, .int .u32 (n : Int))] = some (ptL h n).toArray := by
  have hz : ∀ parts, Try.prog.built 33 parts = Instr.fill ([(0, 32), (32, 1)].toArray[·]?) (List.replicate 32 (bV 0) ++ [nV 0]).toArray parts := fun parts => by kernel_rfl
  rw [hz, fill_part _ 0 0 (.agg (h.map bV).toArray) (h.map bV) _ _ rfl (by simp [hh]) (by simp [hh]), List.take_zero, List.nil_append, List.length_map, hh, Nat.zero_add,
    fill_part _ 1 32 (.int .u32 (n : Int)) [.int .u32 (n : Int)] _ _ rfl rfl (by simp [hh])]
  have e : (h.map bV ++ (List.replicate 32 (bV 0) ++ [nV 0]).drop 32).take 32 = h.map bV := by rw [List.take_append_of_le_length (by simp [hh]), List.take_of_length_le (by simp [hh])]
  rw [e]
  have e2 : (h.map bV ++ (List.replicate 32 (bV 0) ++ [nV 0]).drop 32).drop (32 + [Value.int .u32 (n : Int)].length) = [] := List.drop_eq_nil_of_le (by simp [hh])
  rw [e2, List.append_nil]
  rfl
end Go.Proofs.Ytkabpbclmhmgfaa.Sha
