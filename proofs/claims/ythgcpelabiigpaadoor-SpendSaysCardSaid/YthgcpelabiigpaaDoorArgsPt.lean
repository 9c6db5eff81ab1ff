/-
  How a place that came in by value reads. No conditions.
-/
import Derived.Test.YthgcpelabiigpaaDoorArgsHash
import Derived.Test.YthgcpelabiigpaaDoorPt
namespace Go.Proofs.YthgcpelabiigpaaDoor.Sha
open Go Go.ChangeShapes Go.WideShapes Go.ChangeAt Go.RowKit

/-- A digest's cells. -/
theorem hash_cells {H : Type} {enc : TypeId × Value → H} {W : World} {fuel : Nat} {cs : List Value} {x : DataW H × List MemPlace} (hf : DataW.trod enc Tryd.prog W 0 (fun _ => true) true fuel 24 cs = some x) :
    ∃ bs : List UInt8, bs.length = 32 ∧ cs = bs.map bV := by
  have c5 : Tryd.prog.cellsOf 5 = 1 := by kernel_rfl
  have c25 : Tryd.prog.cellsOf 24 = 32 := by kernel_rfl
  obtain ⟨xs, m, _, _, hlen, hxl, hel⟩ := DataW.trod_array Tryd.underlying24 hf
  rw [c25] at hlen
  have each : ∀ i (hi : i < cs.length), bV (UInt8.ofNat (intOf (cs[i])).toNat) = cs[i] := by
    intro i hi
    have h1 := hel i (by omega)
    rw [c5, Nat.mul_one, List.getElem?_eq_getElem (show i < xs.length by omega)] at h1
    obtain ⟨n, hn, _, hw⟩ := DataW.trod_int Tryd.underlying5 h1
    have h2 : cs[i]? = some (.int .u8 n) := by
      have := congrArg (·[0]?) hn
      simpa [List.getElem?_take, List.getElem?_drop] using this
    rw [List.getElem?_eq_getElem hi] at h2
    rw [Option.some.inj h2]
    show Value.int .u8 (bv (UInt8.ofNat n.toNat)) = _
    rw [byte_of hw]
  refine ⟨cs.map fun v => UInt8.ofNat (intOf v).toNat, by rw [List.length_map, hlen], ?_⟩
  rw [List.map_map]
  apply List.ext_getElem (by simp)
  intro i h1 h2
  simp only [List.getElem_map, Function.comp]
  exact (each i h1).symm
/-- A place by value. -/
theorem point_in {H : Type} {enc : TypeId × Value → H} {W : World} {base : Nat} {v : Value} {d : DataW H} {p : List MemPlace} (hok : Value.okWide Tryd.prog W .any base 27 v) (h : DataW.Trod enc Tryd.prog W 0 (fun _ => true) true 27 v d p) :
    ∃ (bs : List UInt8) (n : Nat), (bs.length = 32 ∧ n ≤ 4294967295) ∧ v = .agg (ptL bs n).toArray := by
  have c24 : Tryd.prog.cellsOf 24 = 32 := by kernel_rfl
  have c25 : Tryd.prog.cellsOf 25 = 1 := by kernel_rfl
  have c27 : Tryd.prog.cellsOf 27 = 33 := by kernel_rfl
  simp only [Value.okWide, pt_under] at hok
  obtain ⟨cs, rfl, _, _⟩ := hok
  obtain ⟨fuel, hf⟩ := h
  have hcells : (Value.agg cs).cells.toList = cs.toList := rfl
  rw [hcells] at hf
  obtain ⟨xs, m, _, _, hlen, hxl, hel⟩ := DataW.trod_struct pt_under hf
  rw [c27] at hlen
  have hfs := pt_fields
  generalize Tryd.prog.fieldsOf 27 = fa at hfs hel hxl
  obtain ⟨f, f', hfl⟩ : ∃ f f', fa.toList = [f, f'] := by
    have hl := congrArg List.length hfs
    simp only [List.length_map, List.length_cons, List.length_nil] at hl
    obtain ⟨f, r, hr⟩ := List.exists_cons_of_length_eq_add_one hl
    rw [hr] at hl ⊢
    obtain ⟨f', r', rfl⟩ := List.exists_cons_of_length_eq_add_one (by simpa using hl)
    obtain rfl : r' = [] := List.eq_nil_of_length_eq_zero (by simpa using hl)
    exact ⟨f, f', rfl⟩
  rw [hfl] at hfs
  simp only [List.map_cons, List.map_nil, List.cons.injEq, Prod.mk.injEq, and_true] at hfs
  obtain ⟨⟨_, h2, h3⟩, _, h5, h6⟩ := hfs
  have hsz : xs.length = 2 := by rw [hxl, ← Array.length_toList, hfl]; rfl
  have g0 := hel 0 f (by rw [← Array.getElem?_toList, hfl]; rfl)
  have g1 := hel 1 f' (by rw [← Array.getElem?_toList, hfl]; rfl)
  rw [h2, h3, c24, List.drop_zero, List.getElem?_eq_getElem (by omega)] at g0
  rw [h5, h6, c25, List.getElem?_eq_getElem (by omega)] at g1
  obtain ⟨bs, hb, hcs⟩ := hash_cells g0
  obtain ⟨z, hz, _, hw⟩ := DataW.trod_int Tryd.underlying25 g1
  have hbd := bounds_u32 hw
  refine ⟨bs, z.toNat, ⟨hb, by omega⟩, ?_⟩
  congr 1
  apply Array.toList_inj.1
  show cs.toList = ptL bs z.toNat
  have hdrop : cs.toList.drop 32 = [nV z.toNat] := by
    rw [List.take_of_length_le (by rw [List.length_drop]; omega)] at hz
    rw [hz, nV]
    congr 2
    omega
  rw [ptL, ← hcs, ← hdrop, List.take_append_drop]
end Go.Proofs.YthgcpelabiigpaaDoor.Sha
