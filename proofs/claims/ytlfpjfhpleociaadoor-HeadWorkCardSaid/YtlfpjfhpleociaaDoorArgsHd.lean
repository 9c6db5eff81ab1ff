/-
  How a header that came in by value reads. No conditions.
-/
import Derived.Test.YtlfpjfhpleociaaDoorArgsPt
import Derived.Test.YtlfpjfhpleociaaDoorHdVal
namespace Go.Proofs.YtlfpjfhpleociaaDoor.Sha
open Go Go.ChangeShapes Go.WideShapes Go.ChangeAt Go.RowKit
theorem hd_fields : (Tryd.prog.fieldsOf 26).toList.map (fun f => (f.name, f.type, f.offset)) = [("Version", 22, 0), ("Prev", 24, 1), ("Root", 24, 33), ("Time", 22, 65), ("Work", 22, 66), ("Nonce", 22, 67)] := by kernel_rfl
theorem hd_under : Tryd.prog.underlying 26 = some (.struct (Tryd.prog.fieldsOf 26)) := by kernel_rfl
theorem cut_one {α : Type} {cs : List α} {i : Nat} {v : α} (h : (cs.drop i).take 1 = [v]) : cs.drop i = v :: cs.drop (i + 1) := by
  cases e : cs.drop i with
  | nil => rw [e] at h; simp at h
  | cons a r =>
    rw [e] at h
    simp only [List.take_succ_cons, List.take_zero, List.cons.injEq, and_true] at h
    rw [h, ← List.drop_drop, e]
    rfl
theorem cut_many {α : Type} {cs l : List α} {i k : Nat} (h : (cs.drop i).take k = l) : cs.drop i = l ++ cs.drop (i + k) := by
  rw [← h, ← List.drop_drop, List.take_append_drop]
set_option maxRecDepth 100000 in
/-- A header's cells. -/
theorem hd_cells {H : Type} {enc : TypeId × Value → H} {W : World} {fuel : Nat} {cs : List Value} {x : DataW H × List MemPlace} (hf : DataW.trod enc Tryd.prog W 0 (fun _ => true) true fuel 26 cs = some x) :
    ∃ h : THd, HdOk h ∧ cs = hdL h := by
  have c24 : Tryd.prog.cellsOf 24 = 32 := by kernel_rfl
  have c25 : Tryd.prog.cellsOf 22 = 1 := by kernel_rfl
  have c27 : Tryd.prog.cellsOf 26 = 68 := by kernel_rfl
  obtain ⟨hlen, m, hel⟩ := struct_field hd_under hf hd_fields
  rw [c27] at hlen
  obtain ⟨y0, g0⟩ := hel 0 _ _ _ rfl
  obtain ⟨y1, g1⟩ := hel 1 _ _ _ rfl
  obtain ⟨y2, g2⟩ := hel 2 _ _ _ rfl
  obtain ⟨y3, g3⟩ := hel 3 _ _ _ rfl
  obtain ⟨y4, g4⟩ := hel 4 _ _ _ rfl
  obtain ⟨y5, g5⟩ := hel 5 _ _ _ rfl
  rw [c25] at g0 g3 g4 g5
  rw [c24] at g1 g2
  obtain ⟨n0, b0, e0⟩ := num32_cells g0
  obtain ⟨l1, b1, e1⟩ := hash_cells g1
  obtain ⟨l2, b2, e2⟩ := hash_cells g2
  obtain ⟨n3, b3, e3⟩ := num32_cells g3
  obtain ⟨n4, b4, e4⟩ := num32_cells g4
  obtain ⟨n5, b5, e5⟩ := num32_cells g5
  refine ⟨⟨n0, l1, l2, n3, n4, n5⟩, ⟨b0, b1, b2, b3, b4, b5⟩, ?_⟩
  have q0 := cut_one e0
  have q1 := cut_many e1
  have q2 := cut_many e2
  have q3 := cut_one e3
  have q4 := cut_one e4
  have q5 := cut_one e5
  rw [List.drop_zero] at q0
  rw [q0, show 0 + 1 = 1 from rfl, q1, show 1 + 32 = 33 from rfl, q2, show 33 + 32 = 65 from rfl, q3, show 65 + 1 = 66 from rfl, q4, show 66 + 1 = 67 from rfl, q5, List.drop_of_length_le (by omega)]
  rfl
set_option maxRecDepth 100000 in
/-- A header by value. -/
theorem head_in {H : Type} {enc : TypeId × Value → H} {W : World} {base : Nat} {v : Value} {d : DataW H} {p : List MemPlace} (hok : Value.okWide Tryd.prog W .any base 26 v) (h : DataW.Trod enc Tryd.prog W 0 (fun _ => true) true 26 v d p) :
    ∃ h : THd, HdOk h ∧ v = .agg (hdL h).toArray := by
  simp only [Value.okWide, hd_under] at hok
  obtain ⟨cs, rfl, _, _⟩ := hok
  obtain ⟨fuel, hf⟩ := h
  have hcells : (Value.agg cs).cells.toList = cs.toList := rfl
  rw [hcells] at hf
  obtain ⟨k, hk, hcs⟩ := hd_cells hf
  exact ⟨k, hk, by rw [← hcs, Array.toArray_toList]⟩
end Go.Proofs.YtlfpjfhpleociaaDoor.Sha
