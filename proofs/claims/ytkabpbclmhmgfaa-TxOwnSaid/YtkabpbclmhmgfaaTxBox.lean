/-
  What the walks of package tx share: cells of an input and an output as rows, bytes of so many of them, sums that stay. No conditions beyond those that each states.
-/
import Derived.Test.YtkabpbclmhmgfaaTxSm
import Derived.Test.YtkabpbclmhmgfaaCmpPut2
import Derived.Test.YtkabpbclmhmgfaaHeld
import Derived.IntWalk
namespace Go.Proofs.Ytkabpbclmhmgfaa.Sha
open Go Go.RowKit


theorem in_one (x : TIn) (kv : Value) (hk : kv.oneCell' = true) : (inL x kv).toArray.all (·.oneCell') = true := by
  rw [Array.all_eq_true_iff_forall_mem]
  intro u hu
  simp only [inL, ptL, List.mem_toArray, List.mem_append, List.mem_cons, List.mem_map, List.not_mem_nil, or_false] at hu
  rcases hu with (⟨a, _, rfl⟩ | rfl) | rfl | rfl
  · rfl
  · rfl
  · exact hk
  · rfl
theorem out_one (y : TOut) : (outL y).toArray.all (·.oneCell') = true := by
  rw [Array.all_eq_true_iff_forall_mem]
  intro u hu
  simp only [outL, List.mem_toArray, List.mem_cons, List.mem_map] at hu
  rcases hu with rfl | ⟨a, _, rfl⟩
  · rfl
  · rfl
theorem ins_snoc {l : List TIn} {k : Nat} {x : TIn} (h : l[k]? = some x) : insB (l.take (k + 1)) = insB (l.take k) ++ inB x := by
  have hk := (List.getElem?_eq_some_iff.1 h).1
  rw [List.take_succ_eq_append_getElem hk]
  have e : l[k] = x := (List.getElem?_eq_some_iff.1 h).2
  rw [e]
  simp [insB]
theorem outs_snoc {l : List TOut} {k : Nat} {x : TOut} (h : l[k]? = some x) : outsB (l.take (k + 1)) = outsB (l.take k) ++ outB x := by
  have hk := (List.getElem?_eq_some_iff.1 h).1
  rw [List.take_succ_eq_append_getElem hk]
  have e : l[k] = x := (List.getElem?_eq_some_iff.1 h).2
  rw [e]
  simp [outsB]
theorem ins_part {l : List TIn} {k : Nat} {x : TIn} (h : l[k]? = some x) : (insB (l.take k)).length + (inB x).length ≤ (insB l).length := by
  rw [← List.length_append, ← ins_snoc h]
  have e : insB l = insB (l.take (k + 1)) ++ insB (l.drop (k + 1)) := by
    conv => lhs; rw [← List.take_append_drop (k + 1) l]
    simp only [insB, List.flatMap_append]
  rw [e, List.length_append]
  omega
theorem outs_part {l : List TOut} {k : Nat} {x : TOut} (h : l[k]? = some x) : (outsB (l.take k)).length + (outB x).length ≤ (outsB l).length := by
  rw [← List.length_append, ← outs_snoc h]
  have e : outsB l = outsB (l.take (k + 1)) ++ outsB (l.drop (k + 1)) := by
    conv => lhs; rw [← List.take_append_drop (k + 1) l]
    simp only [outsB, List.flatMap_append]
  rw [e, List.length_append]
  omega
theorem i64_stays {x : Int} (h : 0 ≤ x ∧ x ≤ 9223372036854775807) : IntKind.i64.wrap x = x := IntWalk.i64_in _ (by omega)
theorem u64_stays {x : Int} (h : 0 ≤ x ∧ x ≤ 18446744073709551615) : IntKind.u64.wrap x = x := by rw [IntKind.wrap_u64]; omega
theorem TxSmall.bytes {t : TTx} (h : TxSmall t) : (txB t).length = 8 + lenN t.ins.length + lenN t.outs.length + (insB t.ins).length + 40 * t.outs.length := by
  simp only [txB, List.length_append, leB_length, putL_length, outsB_length t.outs h.1.2.2.1]
  omega
end Go.Proofs.Ytkabpbclmhmgfaa.Sha
