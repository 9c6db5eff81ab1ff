/-
  How the statements' arguments read: a slice of bytes or numbers that came in; a start that fits. No conditions.
-/
import Derived.Test.YtkabpbclmhmgfaaProg
import Derived.ProofKit
import Derived.OpenShut
import Derived.ShutString
import Derived.ChangeOld
import Derived.Deep.DeepHandedRow
import Derived.Lib.LaidTab
import Derived.Test.YtkabpbclmhmgfaaCmpLib
namespace Go.Proofs.Ytkabpbclmhmgfaa.Sha
open Go Go.ChangeShapes Go.WideShapes Go.ChangeAt Go.RowKit

theorem own : ownKnob Try.prog.godebug = none := by kernel_rfl
theorem laidOut : laidOutB Try.prog = true := by kernel_rfl
/-- A slice of integers that came in. -/
def IsRow (k : IntKind) (w : World) (a : Option Addr) (len cap : Nat) (zs : List Int) : Prop :=
  (a = none ∧ len = 0 ∧ cap = 0 ∧ zs = []) ∨
  ∃ x, a = some x ∧ len ≤ cap ∧ cap ≤ maxLen ∧ zs.length = cap ∧ (∀ i, i < zs.length → w.cell? (x.add i) = some (.int k (zs.getD i 0))) ∧ ∀ n ∈ zs, (Lit.int k n).wf = true
theorem byte_of {z : Int} (h : (Lit.int .u8 z).wf = true) : bv (UInt8.ofNat z.toNat) = z := by
  have hb := bounds_u8 h
  unfold bv
  rw [UInt8.toNat_ofNat']
  omega
theorem src_of_row {w : World} {a : Option Addr} {len cap : Nat} {zs : List Int} (h : IsRow .u8 w a len cap zs) : ∃ bs, SrcB w (.slice a len cap) bs := by
  rcases h with ⟨rfl, rfl, rfl, rfl⟩ | ⟨x, rfl, hl, hm, hz, hc, hw⟩
  · exact ⟨[], .inl ⟨_, _, rfl, rfl⟩⟩
  · by_cases h0 : len = 0
    · subst h0
      exact ⟨[], .inl ⟨_, _, rfl, rfl⟩⟩
    · obtain ⟨b, off, rfl, hcell⟩ := ints_at hc (by omega)
      have hlen : ((zs.take len).map fun z => UInt8.ofNat z.toNat).length = len := by rw [List.length_map, List.length_take]; omega
      refine ⟨(zs.take len).map fun z => UInt8.ofNat z.toNat, .inr ⟨by omega, b, off, cap, by rw [hlen], by omega, fun j hj => ?_⟩⟩
      rw [hlen] at hj
      have hj2 : j < zs.length := by omega
      rw [hcell j hj2]
      have e1 : zs.getD j 0 = zs[j] := by simp [List.getD, List.getElem?_eq_getElem hj2]
      have e2 : ((zs.take len).map fun z => UInt8.ofNat z.toNat).getD j 0 = UInt8.ofNat (zs[j]).toNat := by
        simp only [List.getD, List.getElem?_map]
        rw [List.getElem?_take_of_lt hj, List.getElem?_eq_getElem hj2]
        rfl
      rw [e1, e2, byte_of (hw _ (List.getElem_mem hj2))]
theorem cuts_of_row {w : World} {a : Option Addr} {len cap : Nat} {zs : List Int} (h : IsRow .i64 w a len cap zs) :
    0 < len → ∃ cb coff, a = some ⟨cb, coff, none⟩ ∧ ∀ i, i < len → w.cell? ⟨cb, coff + i, none⟩ = some (.int .i64 (zs.getD i 0)) ∧ -9223372036854775808 ≤ zs.getD i 0 ∧ zs.getD i 0 ≤ 9223372036854775807 := by
  intro h0
  rcases h with ⟨rfl, rfl, rfl, rfl⟩ | ⟨x, rfl, hl, hm, hz, hc, hw⟩
  · omega
  · obtain ⟨b, off, rfl, hcell⟩ := ints_at hc (by omega)
    refine ⟨b, off, rfl, fun i hi => ⟨hcell i (by omega), ?_⟩⟩
    have hi2 : i < zs.length := by omega
    have e1 : zs.getD i 0 = zs[i] := by simp [List.getD, List.getElem?_eq_getElem hi2]
    rw [e1]
    have hb := bounds_i64 (hw _ (List.getElem_mem hi2))
    omega
theorem IsRow.len {k : IntKind} {w : World} {a : Option Addr} {len cap : Nat} {zs : List Int} (h : IsRow k w a len cap zs) : len ≤ 9223372036854775807 := by
  rcases h with ⟨rfl, rfl, rfl, rfl⟩ | ⟨x, rfl, hl, hm, _⟩
  · omega
  · unfold maxLen at hm; omega
theorem srcU_of_row {w : World} {a : Option Addr} {len cap : Nat} {zs : List Int} (h : IsRow .u64 w a len cap zs) : ∃ l, SrcU w (.slice a len cap) l ∧ ∀ j, l.getD j 0 ≤ 18446744073709551615 := by
  rcases h with ⟨rfl, rfl, rfl, rfl⟩ | ⟨x, rfl, hl, hm, hz, hc, hw⟩
  · exact ⟨[], .inl ⟨_, _, rfl, rfl⟩, fun j => by simp⟩
  · by_cases h0 : len = 0
    · subst h0
      exact ⟨[], .inl ⟨_, _, rfl, rfl⟩, fun j => by simp⟩
    · obtain ⟨b, off, rfl, hcell⟩ := ints_at hc (by omega)
      have hlen : ((zs.take len).map fun z => z.toNat).length = len := by rw [List.length_map, List.length_take]; omega
      have get (j : Nat) (hj : j < len) : (((((zs.take len).map fun z => z.toNat).getD j 0 : Nat)) : Int) = zs.getD j 0 ∧ ((zs.take len).map fun z => z.toNat).getD j 0 ≤ 18446744073709551615 := by
        have hj2 : j < zs.length := by omega
        have e1 : zs.getD j 0 = zs[j] := by simp [List.getD, List.getElem?_eq_getElem hj2]
        have e2 : ((zs.take len).map fun z => z.toNat).getD j 0 = (zs[j]).toNat := by
          simp only [List.getD, List.getElem?_map]
          rw [List.getElem?_take_of_lt hj, List.getElem?_eq_getElem hj2]
          rfl
        have := bounds_u64 (hw _ (List.getElem_mem hj2))
        rw [e1, e2]
        omega
      refine ⟨(zs.take len).map fun z => z.toNat, .inr ⟨by omega, b, off, cap, by rw [hlen], by omega, fun j hj => ?_⟩, fun j => ?_⟩
      · rw [hlen] at hj
        rw [hcell j (by omega), (get j hj).1]
      · by_cases hj : j < len
        · exact (get j hj).2
        · rw [List.getD, List.getElem?_eq_none (by rw [hlen]; omega)]
          simp
/-- The settled world. -/
noncomputable def plainWorld (os : Os) : World := World.holding Try.prog os ⟨#[], #[], []⟩
end Go.Proofs.Ytkabpbclmhmgfaa.Sha
