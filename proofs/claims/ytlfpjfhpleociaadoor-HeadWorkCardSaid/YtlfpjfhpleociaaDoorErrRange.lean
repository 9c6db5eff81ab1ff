/-
  What a row that lists 1 errors of package api gives: each is there; a start that fits. No conditions.
-/
import Derived.Stop.LaidErr
import Derived.Test.YtlfpjfhpleociaaDoorRows
import Derived.Test.YtlfpjfhpleociaaDoorArgs
import Derived.Test.YtlfpjfhpleociaaDoorCmpRdr
namespace Go.Proofs.YtlfpjfhpleociaaDoor.Sha
open Go Go.ChangeShapes Go.WideShapes Go.ChangeAt Go.RowKit
/-- The listed errors: name, place, text. -/
def errRangeList : List (String × Nat × List UInt8) := [("sargasso/api.ErrRange", 1, [97, 32, 110, 117, 109, 98, 101, 114, 32, 111, 117, 116, 32, 111, 102, 32, 105, 116, 115, 32, 114, 97, 110, 103, 101])]
def errRangeRow (x : String × Nat × List UInt8) : String × DataW Unit := (x.1, .iface "*errors.errorString" (.ptr (.agg [.lit (.string x.2.2)])))
theorem errRange_laid : Rows.headWorkRow.laid = errRangeList.map errRangeRow := rfl
theorem errRange_globals : (errRangeList.all fun x => decide (Tryd.prog.globalNamed x.1 = some x.2.1) && decide ((Tryd.prog.globals[x.2.1]?).map (·.type) = some 31)) = true := by kernel_rfl
theorem errRange_star : "*" ++ "errors.errorString" = "*errors.errorString" := by decide
theorem errRange_ptr (u : TypeId) (h : Tryd.prog.typeName? 3 u = some "*errors.errorString") : u = 95 :=
  typeName_ptr_named (nm := "errors.errorString") (by rw [errRange_star]; kernel_rfl) (by kernel_rfl) (by decide) u (by rw [errRange_star]; exact h)
theorem errRange_cells : Tryd.prog.cellsOf 113 = 1 := by kernel_rfl
theorem errRange_cellsStr : Tryd.prog.cellsOf 9 = 1 := by kernel_rfl
def errRangeIs (W : World) (x : String × Nat × List UInt8) (a : Addr) : Prop :=
  W.cell? ⟨x.2.1, 0, none⟩ = some (.iface 95 (.pointer (some a))) ∧ (∃ s, W.cell? a = some (.string s) ∧ s.data.toList = x.2.2) ∧ ∃ c t, W.heap[a.block]? = some (.cells c t (0, 0))
set_option maxRecDepth 100000 in
theorem errRange_head {W : World} {x : String × Nat × List UInt8} {r : List (String × DataW Unit)} (hg : Tryd.prog.globalNamed x.1 = some x.2.1) (ht : (Tryd.prog.globals[x.2.1]?).map (·.type) = some 31) (h : laidMet Tryd.prog (errRangeRow x :: r) W) : ∃ a, errRangeIs W x a := by
  obtain ⟨a, s, h1, h2, h3, _⟩ := laid_sentinel h hg ht Tryd.underlying31 errRange_ptr Tryd.underlying95 Tryd.underlying113 rfl rfl Tryd.underlying9 errRange_cells errRange_cellsStr
  refine ⟨a, by simpa using World.var?_cell hg h1 0, ⟨s, h2, h3⟩, ?_⟩
  obtain ⟨ps, ⟨g0, t0, cs0, f0, p0, q0, hg0, ht0, hv0, hd0, _, e0⟩, _, hrows⟩ := h
  obtain rfl := Option.some.inj (hg.symm.trans hg0)
  obtain rfl := Option.some.inj (ht.symm.trans ht0)
  subst e0
  obtain ⟨l0⟩ := cs0
  have ok0 : ∀ u v, l0 = [.iface u v] → Value.okWide Tryd.prog W .any 0 u v := fun u v e => by
    subst e
    exact (hrows x.2.1 0 (by simp [MemPlace.row])).2 u v (by simpa using World.var?_cell hg hv0 0)
  obtain ⟨a0, s0, rfl, hc0, hs0, hz0, rfl⟩ := errorString_of_trod Tryd.underlying31 errRange_ptr Tryd.underlying95 Tryd.underlying113 rfl rfl Tryd.underlying9 errRange_cells errRange_cellsStr hd0 ok0
  have ea : a0 = a := by
    have := h1.symm.trans hv0
    simp at this
    exact this.symm
  rw [← ea]
  exact (hrows a0.block a0.off (by simp [MemPlace.row])).1
theorem errRange_all {W : World} (rest : List (String × DataW Unit)) : ∀ l : List (String × Nat × List UInt8), (∀ x ∈ l, Tryd.prog.globalNamed x.1 = some x.2.1 ∧ (Tryd.prog.globals[x.2.1]?).map (·.type) = some 31) → laidMet Tryd.prog (l.map errRangeRow ++ rest) W → (∃ E : Nat → Addr, ∀ i x, l[i]? = some x → errRangeIs W x (E i)) ∧ laidMet Tryd.prog rest W
  | [], _, h => ⟨⟨fun _ => ⟨0, 0, none⟩, fun i x h => by simp at h⟩, h⟩
  | x :: l, hg, h => by
    obtain ⟨⟨E, hE⟩, hrest⟩ := errRange_all rest l (fun y hy => hg y (List.mem_cons_of_mem _ hy)) (laidMet.tail h)
    obtain ⟨a, ha⟩ := errRange_head (hg x List.mem_cons_self).1 (hg x List.mem_cons_self).2 h
    refine ⟨⟨fun i => match i with | 0 => a | k + 1 => E k, fun i y hy => ?_⟩, hrest⟩
    cases i with
    | zero => simp at hy; subst hy; exact ha
    | succ k => exact hE k y (by simpa using hy)
theorem errRange_each {W : World} (h : laidMetH Tryd.prog Rows.headWorkRow.laid W) : ∃ E : Nat → Addr, W.cell? ⟨1, 0, none⟩ = some (.iface 95 (.pointer (some (E 21)))) := by
  have h' : laidMet Tryd.prog (errRangeList.map errRangeRow ++ []) W := h
  obtain ⟨⟨E, hE⟩, _⟩ := errRange_all _ errRangeList (fun x hx => by
    have := List.all_eq_true.1 errRange_globals x hx
    simp only [Bool.and_eq_true, decide_eq_true_eq] at this
    exact this) h'
  exact ⟨fun i => match i with | 21 => E 0 | _ => E 0, (hE 0 _ rfl).1⟩
/-- A WORLD FOR THE WITNESS: the settled one, each listed error as its initialiser lays it. -/
noncomputable def errRangeLow : Nat := (World.holding Tryd.prog default ⟨#[], #[], []⟩).heap.size
noncomputable def errRangeWorld (os : Os) : World :=
  let w0 := World.holding Tryd.prog os ⟨(errRangeList.map fun x => Obj.cells #[.string ⟨x.2.2.toArray⟩] 113).toArray, #[], []⟩
  { w0 with heap := (errRangeList.zipIdx).foldl (fun h x => h.modify x.1.2.1 fun
      | .cells _ t frozen => .cells #[.iface 95 (.pointer (some ⟨errRangeLow + x.2, 0, none⟩))] t frozen
      | o => o) w0.heap }
end Go.Proofs.YtlfpjfhpleociaaDoor.Sha
