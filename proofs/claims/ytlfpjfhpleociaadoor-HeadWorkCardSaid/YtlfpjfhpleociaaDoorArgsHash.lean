/-
  How a digest that came in by value reads. No conditions.
-/
import Derived.Test.YtlfpjfhpleociaaDoorArgs
namespace Go.Proofs.YtlfpjfhpleociaaDoor.Sha
open Go Go.ChangeShapes Go.WideShapes Go.ChangeAt Go.RowKit
/-- A digest's cells. -/
theorem hash_cells {H : Type} {enc : TypeId × Value → H} {W : World} {fuel : Nat} {cs : List Value} {x : DataW H × List MemPlace} (hf : DataW.trod enc Tryd.prog W 0 (fun _ => true) true fuel 24 cs = some x) :
    ∃ bs : List UInt8, bs.length = 32 ∧ cs = bs.map bV := by
  have c5 : Tryd.prog.cellsOf 5 = 1 := by kernel_rfl
  have c25 : Tryd.prog.cellsOf 24 = 32 := by kernel_rfl
  obtain ⟨xs, m, _, _, hlen, hxl, hel⟩ := DataW.trod_array Tryd.underlying24 hf
  rw [c25] at hlen
  have each : ∀ i (hi : i < cs.length), bV (UInt8.ofNat (intOf (cs[i])).toNat) = cs[i] := by
    intro i hi
    have h1 := hel i (by omega)
    rw [c5, Nat.mul_one, List.getElem?_eq_getElem (show i < xs.length by omega)] at h1
    obtain ⟨n, hn, _, hw⟩ := DataW.trod_int Tryd.underlying5 h1
    have h2 : cs[i]? = some (.int .u8 n) := by
      have := congrArg (·[0]?) hn
      simpa [List.getElem?_take, List.getElem?_drop] using this
    rw [List.getElem?_eq_getElem hi] at h2
    rw [Option.some.inj h2]
    show Value.int .u8 (bv (UInt8.ofNat n.toNat)) = _
    rw [byte_of hw]
  refine ⟨cs.map fun v => UInt8.ofNat (intOf v).toNat, by rw [List.length_map, hlen], ?_⟩
  rw [List.map_map]
  apply List.ext_getElem (by simp)
  intro i h1 h2
  simp only [List.getElem_map, Function.comp]
  exact (each i h1).symm
end Go.Proofs.YtlfpjfhpleociaaDoor.Sha
