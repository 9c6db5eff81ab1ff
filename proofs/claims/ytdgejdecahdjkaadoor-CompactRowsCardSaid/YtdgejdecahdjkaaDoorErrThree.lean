/-
  What a row that lists 3 errors of package api gives: each is there; a start that fits. No conditions.
-/
import Derived.Stop.LaidErr
import Derived.Test.YtdgejdecahdjkaaDoorArgs
import Derived.Test.YtdgejdecahdjkaaDoorCmpRdr
namespace Go.Proofs.YtdgejdecahdjkaaDoor.Sha
open Go Go.ChangeShapes Go.WideShapes Go.ChangeAt Go.RowKit

/-- The listed errors: name, place, text. -/
def errThreeList : List (String × Nat × List UInt8) := [("sargasso/api.ErrEnd", 2, [105, 116, 32, 101, 110, 100, 115, 32, 116, 111, 111, 32, 101, 97, 114, 108, 121]), ("sargasso/api.ErrShape", 0, [110, 111, 116, 32, 97, 115, 32, 105, 116, 32, 104, 97, 115, 32, 116, 111, 32, 98, 101]), ("sargasso/api.ErrMany", 1, [116, 111, 111, 32, 109, 97, 110, 121, 44, 32, 111, 114, 32, 116, 111, 111, 32, 102, 101, 119])]
def errThreeRow (x : String × Nat × List UInt8) : String × DataW Unit := (x.1, .iface "*errors.errorString" (.ptr (.agg [.lit (.string x.2.2)])))
theorem errThree_laid : Rows.compactRowsRow.laid = errThreeList.map errThreeRow := rfl
theorem errThree_globals : (errThreeList.all fun x => decide (Tryd.prog.globalNamed x.1 = some x.2.1) && decide ((Tryd.prog.globals[x.2.1]?).map (·.type) = some 34)) = true := by kernel_rfl
theorem errThree_star : "*" ++ "errors.errorString" = "*errors.errorString" := by decide
theorem errThree_ptr (u : TypeId) (h : Tryd.prog.typeName? 3 u = some "*errors.errorString") : u = 74 :=
  typeName_ptr_named (nm := "errors.errorString") (by rw [errThree_star]; kernel_rfl) (by kernel_rfl) (by decide) u (by rw [errThree_star]; exact h)
theorem errThree_cells : Tryd.prog.cellsOf 90 = 1 := by kernel_rfl
theorem errThree_cellsStr : Tryd.prog.cellsOf 9 = 1 := by kernel_rfl
def errThreeIs (W : World) (x : String × Nat × List UInt8) (a : Addr) : Prop :=
  W.cell? ⟨x.2.1, 0, none⟩ = some (.iface 74 (.pointer (some a))) ∧ (∃ s, W.cell? a = some (.string s) ∧ s.data.toList = x.2.2) ∧ ∃ c t, W.heap[a.block]? = some (.cells c t (0, 0))
theorem errThree_head {W : World} {x : String × Nat × List UInt8} {r : List (String × DataW Unit)} (hg : Tryd.prog.globalNamed x.1 = some x.2.1) (ht : (Tryd.prog.globals[x.2.1]?).map (·.type) = some 34) (h : laidMet Tryd.prog (errThreeRow x :: r) W) : ∃ a, errThreeIs W x a := by
  obtain ⟨a, s, h1, h2, h3, _⟩ := laid_sentinel h hg ht Tryd.underlying34 errThree_ptr Tryd.underlying74 Tryd.underlying90 rfl rfl Tryd.underlying9 errThree_cells errThree_cellsStr
  refine ⟨a, by simpa using World.var?_cell hg h1 0, ⟨s, h2, h3⟩, ?_⟩
  obtain ⟨ps, ⟨g0, t0, cs0, f0, p0, q0, hg0, ht0, hv0, hd0, _, e0⟩, _, hrows⟩ := h
  obtain rfl := Option.some.inj (hg.symm.trans hg0)
  obtain rfl := Option.some.inj (ht.symm.trans ht0)
  subst e0
  obtain ⟨l0⟩ := cs0
  have ok0 : ∀ u v, l0 = [.iface u v] → Value.okWide Tryd.prog W .any 0 u v := fun u v e => by
    subst e
    exact (hrows x.2.1 0 (by simp [MemPlace.row])).2 u v (by simpa using World.var?_cell hg hv0 0)
  obtain ⟨a0, s0, rfl, hc0, hs0, hz0, rfl⟩ := errorString_of_trod Tryd.underlying34 errThree_ptr Tryd.underlying74 Tryd.underlying90 rfl rfl Tryd.underlying9 errThree_cells errThree_cellsStr hd0 ok0
  have ea : a0 = a := by
    have := h1.symm.trans hv0
    simp at this
    exact this.symm
  rw [← ea]
  exact (hrows a0.block a0.off (by simp [MemPlace.row])).1
theorem errThree_all {W : World} : ∀ l : List (String × Nat × List UInt8), (∀ x ∈ l, Tryd.prog.globalNamed x.1 = some x.2.1 ∧ (Tryd.prog.globals[x.2.1]?).map (·.type) = some 34) → laidMet Tryd.prog (l.map errThreeRow) W → ∃ E : Nat → Addr, ∀ i x, l[i]? = some x → errThreeIs W x (E i)
  | [], _, _ => ⟨fun _ => ⟨0, 0, none⟩, fun i x h => by simp at h⟩
  | x :: l, hg, h => by
    obtain ⟨E, hE⟩ := errThree_all l (fun y hy => hg y (List.mem_cons_of_mem _ hy)) (laidMet.tail h)
    obtain ⟨a, ha⟩ := errThree_head (hg x List.mem_cons_self).1 (hg x List.mem_cons_self).2 h
    refine ⟨fun i => match i with | 0 => a | k + 1 => E k, fun i y hy => ?_⟩
    cases i with
    | zero => simp at hy; subst hy; exact ha
    | succ k => exact hE k y (by simpa using hy)
theorem errThree_er {W : World} (h : laidMetH Tryd.prog Rows.compactRowsRow.laid W) : ∃ E, Er W E := by
  have h' : laidMet Tryd.prog (errThreeList.map errThreeRow) W := h
  obtain ⟨E, hE⟩ := errThree_all errThreeList (fun x hx => by
    have := List.all_eq_true.1 errThree_globals x hx
    simp only [Bool.and_eq_true, decide_eq_true_eq] at this
    exact this) h'
  exact ⟨fun i => match i with | 0 => E 0 | 1 => E 1 | _ => E 2, (hE 0 _ rfl).1, (hE 1 _ rfl).1, (hE 2 _ rfl).1⟩
/-- A WORLD FOR THE WITNESS: the settled one, each listed error as its initialiser lays it. -/
noncomputable def errThreeLow : Nat := (World.holding Tryd.prog default ⟨#[], #[], []⟩).heap.size
noncomputable def errThreeWorld (os : Os) : World :=
  let w0 := World.holding Tryd.prog os ⟨(errThreeList.map fun x => Obj.cells #[.string ⟨x.2.2.toArray⟩] 90).toArray, #[], []⟩
  { w0 with heap := (errThreeList.zipIdx).foldl (fun h x => h.modify x.1.2.1 fun
      | .cells _ t frozen => .cells #[.iface 74 (.pointer (some ⟨errThreeLow + x.2, 0, none⟩))] t frozen
      | o => o) w0.heap }
end Go.Proofs.YtdgejdecahdjkaaDoor.Sha
