/-
  How a place that came in by value reads; a struct's fields. No conditions.
-/
import Derived.Test.YtkabpbclmhmgfaaArgsHash
import Derived.Test.YtkabpbclmhmgfaaPt
namespace Go.Proofs.Ytkabpbclmhmgfaa.Sha
open Go Go.ChangeShapes Go.WideShapes Go.ChangeAt Go.RowKit

/-- A struct's fields, each read. -/
theorem struct_field {H : Type} {enc : TypeId × Value → H} {P : Program} {W : World} {fuel : Nat} {T : TypeId} {cs : List Value} {x : DataW H × List MemPlace} (hu : P.underlying T = some (.struct (P.fieldsOf T)))
    (hf : DataW.trod enc P W 0 (fun _ => true) true fuel T cs = some x) {names : List (String × TypeId × Nat)} (hm : (P.fieldsOf T).toList.map (fun f => (f.name, f.type, f.offset)) = names) :
    cs.length = P.cellsOf T ∧ ∃ m : Nat, ∀ (i : Nat) (n : String) (ty : TypeId) (off : Nat), names[i]? = some (n, ty, off) → ∃ y, DataW.trod enc P W 0 (fun _ => true) true m ty ((cs.drop off).take (P.cellsOf ty)) = some y := by
  obtain ⟨xs, m, _, _, hlen, hxl, hel⟩ := DataW.trod_struct hu hf
  refine ⟨hlen, m, fun i n ty off hi => ?_⟩
  rw [← hm, List.getElem?_map] at hi
  obtain ⟨f, hf1, hf2⟩ := Option.map_eq_some_iff.1 hi
  simp only [Prod.mk.injEq] at hf2
  obtain ⟨_, h2, h3⟩ := hf2
  have hil : i < (P.fieldsOf T).size := by have := (List.getElem?_eq_some_iff.1 hf1).1; simpa using this
  have g := hel i f (by rw [← Array.getElem?_toList]; exact hf1)
  rw [h2, h3, List.getElem?_eq_getElem (by omega)] at g
  exact ⟨_, g⟩
theorem num32_cells {H : Type} {enc : TypeId × Value → H} {W : World} {fuel : Nat} {cs : List Value} {x : DataW H × List MemPlace} (hf : DataW.trod enc Try.prog W 0 (fun _ => true) true fuel 22 cs = some x) :
    ∃ n : Nat, n ≤ 4294967295 ∧ cs = [nV n] := by
  obtain ⟨z, hz, _, hw⟩ := DataW.trod_int Try.underlying22 hf
  have hbd := bounds_u32 hw
  exact ⟨z.toNat, by omega, by rw [hz, nV, Int.toNat_of_nonneg (by omega)]⟩
set_option maxRecDepth 100000 in
/-- A place's cells. -/
theorem pt_cells {H : Type} {enc : TypeId × Value → H} {W : World} {fuel : Nat} {cs : List Value} {x : DataW H × List MemPlace} (hf : DataW.trod enc Try.prog W 0 (fun _ => true) true fuel 33 cs = some x) :
    ∃ (bs : List UInt8) (n : Nat), (bs.length = 32 ∧ n ≤ 4294967295) ∧ cs = ptL bs n := by
  have c24 : Try.prog.cellsOf 31 = 32 := by kernel_rfl
  have c25 : Try.prog.cellsOf 22 = 1 := by kernel_rfl
  have c27 : Try.prog.cellsOf 33 = 33 := by kernel_rfl
  obtain ⟨hlen, m, hel⟩ := struct_field pt_under hf pt_fields
  rw [c27] at hlen
  obtain ⟨y0, g0⟩ := hel 0 _ _ _ rfl
  obtain ⟨y1, g1⟩ := hel 1 _ _ _ rfl
  rw [c24, List.drop_zero] at g0
  rw [c25] at g1
  obtain ⟨bs, hb, hcs⟩ := hash_cells g0
  obtain ⟨n, hn, hcn⟩ := num32_cells g1
  rw [List.take_of_length_le (by rw [List.length_drop]; omega)] at hcn
  exact ⟨bs, n, ⟨hb, hn⟩, by rw [ptL, ← hcs, ← hcn, List.take_append_drop]⟩
set_option maxRecDepth 100000 in
/-- A place by value. -/
theorem point_in {H : Type} {enc : TypeId × Value → H} {W : World} {base : Nat} {v : Value} {d : DataW H} {p : List MemPlace} (hok : Value.okWide Try.prog W .any base 33 v) (h : DataW.Trod enc Try.prog W 0 (fun _ => true) true 33 v d p) :
    ∃ (bs : List UInt8) (n : Nat), (bs.length = 32 ∧ n ≤ 4294967295) ∧ v = .agg (ptL bs n).toArray := by
  simp only [Value.okWide, pt_under] at hok
  obtain ⟨cs, rfl, _, _⟩ := hok
  obtain ⟨fuel, hf⟩ := h
  have hcells : (Value.agg cs).cells.toList = cs.toList := rfl
  rw [hcells] at hf
  obtain ⟨bs, n, hb, hcs⟩ := pt_cells hf
  exact ⟨bs, n, hb, by rw [← hcs, Array.toArray_toList]⟩
end Go.Proofs.Ytkabpbclmhmgfaa.Sha
