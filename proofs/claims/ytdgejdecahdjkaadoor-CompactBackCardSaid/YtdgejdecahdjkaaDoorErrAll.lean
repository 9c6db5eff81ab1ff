/-
  What a row that lists 25 errors of package api gives: each is there, each its own; a start that fits. No conditions.
-/
import Derived.Stop.LaidErr
import Derived.Test.YtdgejdecahdjkaaDoorArgs
import Derived.Test.YtdgejdecahdjkaaDoorErrs
namespace Go.Proofs.YtdgejdecahdjkaaDoor.Sha
open Go Go.ChangeShapes Go.WideShapes Go.ChangeAt Go.RowKit

/-- The listed errors: name, place, text. -/
def errAllList : List (String × Nat × List UInt8) := [("sargasso/api.ErrEnd", 2, [105, 116, 32, 101, 110, 100, 115, 32, 116, 111, 111, 32, 101, 97, 114, 108, 121]), ("sargasso/api.ErrShape", 0, [110, 111, 116, 32, 97, 115, 32, 105, 116, 32, 104, 97, 115, 32, 116, 111, 32, 98, 101]), ("sargasso/api.ErrLong", 3, [116, 111, 111, 32, 108, 111, 110, 103]), ("sargasso/api.ErrMany", 1, [116, 111, 111, 32, 109, 97, 110, 121, 44, 32, 111, 114, 32, 116, 111, 111, 32, 102, 101, 119]), ("sargasso/api.ErrValue", 4, [97, 110, 32, 97, 109, 111, 117, 110, 116, 32, 116, 104, 97, 116, 32, 99, 97, 110, 39, 116, 32, 98, 101]), ("sargasso/api.ErrTwice", 5, [111, 110, 101, 32, 116, 104, 105, 110, 103, 32, 116, 119, 105, 99, 101]), ("sargasso/api.ErrBase", 6, [110, 111, 32, 102, 105, 114, 115, 116, 32, 116, 114, 97, 110, 115, 97, 99, 116, 105, 111, 110, 32, 119, 104, 101, 114, 101, 32, 116, 104, 101, 114, 101, 32, 104, 97, 115, 32, 116, 111, 32, 98, 101, 32, 111, 110, 101, 44, 32, 111, 114, 32, 111, 110, 101, 32, 119, 104, 101, 114, 101, 32, 116, 104, 101, 114, 101, 32, 109, 97, 121, 32, 98, 101, 32, 110, 111, 110, 101]), ("sargasso/api.ErrRoot", 7, [97, 32, 114, 111, 111, 116, 32, 116, 104, 97, 116, 32, 100, 111, 101, 115, 32, 110, 111, 116, 32, 102, 105, 116]), ("sargasso/api.ErrKnown", 8, [107, 110, 111, 119, 110, 32, 97, 108, 114, 101, 97, 100, 121]), ("sargasso/api.ErrParent", 9, [110, 111, 32, 115, 117, 99, 104, 32, 112, 97, 114, 101, 110, 116]), ("sargasso/api.ErrInvalid", 10, [98, 101, 104, 105, 110, 100, 32, 119, 104, 97, 116, 32, 105, 115, 32, 110, 111, 116, 32, 118, 97, 108, 105, 100]), ("sargasso/api.ErrTime", 11, [97, 32, 116, 105, 109, 101, 32, 116, 104, 97, 116, 32, 105, 115, 32, 116, 111, 111, 32, 101, 97, 114, 108, 121]), ("sargasso/api.ErrMissing", 12, [97, 32, 99, 111, 105, 110, 32, 116, 104, 97, 116, 32, 105, 115, 32, 110, 111, 116, 32, 116, 104, 101, 114, 101]), ("sargasso/api.ErrKey", 13, [97, 32, 107, 101, 121, 32, 116, 104, 97, 116, 32, 100, 111, 101, 115, 32, 110, 111, 116, 32, 102, 105, 116]), ("sargasso/api.ErrYoung", 14, [97, 32, 99, 111, 105, 110, 32, 116, 104, 97, 116, 32, 105, 115, 32, 116, 111, 111, 32, 121, 111, 117, 110, 103]), ("sargasso/api.ErrEarly", 15, [116, 111, 111, 32, 101, 97, 114, 108, 121, 32, 116, 111, 32, 98, 101, 32, 116, 97, 107, 101, 110]), ("sargasso/api.ErrLess", 16, [108, 101, 115, 115, 32, 99, 111, 109, 101, 115, 32, 105, 110, 32, 116, 104, 97, 110, 32, 103, 111, 101, 115, 32, 111, 117, 116]), ("sargasso/api.ErrReward", 17, [109, 111, 114, 101, 32, 116, 104, 97, 110, 32, 116, 104, 101, 32, 114, 101, 119, 97, 114, 100]), ("sargasso/api.ErrClash", 18, [97, 32, 99, 111, 105, 110, 32, 116, 104, 97, 116, 32, 105, 115, 32, 115, 112, 101, 110, 116, 32, 105, 110, 32, 116, 104, 101, 32, 112, 111, 111, 108]), ("sargasso/api.ErrLimit", 19, [116, 111, 111, 32, 109, 97, 110, 121, 32, 116, 104, 97, 116, 32, 104, 97, 110, 103, 32, 116, 111, 103, 101, 116, 104, 101, 114]), ("sargasso/api.ErrFull", 20, [116, 104, 101, 114, 101, 32, 105, 115, 32, 110, 111, 32, 114, 111, 111, 109]), ("sargasso/api.ErrRange", 21, [97, 32, 110, 117, 109, 98, 101, 114, 32, 111, 117, 116, 32, 111, 102, 32, 105, 116, 115, 32, 114, 97, 110, 103, 101]), ("sargasso/api.ErrNone", 22, [116, 104, 101, 114, 101, 32, 105, 115, 32, 110, 111, 110, 101]), ("sargasso/api.ErrWord", 23, [110, 111, 32, 115, 117, 99, 104, 32, 119, 111, 114, 100]), ("sargasso/api.ErrNumber", 24, [110, 111, 116, 32, 97, 32, 110, 117, 109, 98, 101, 114])]
def errAllRow (x : String × Nat × List UInt8) : String × DataW Unit := (x.1, .iface "*errors.errorString" (.ptr (.agg [.lit (.string x.2.2)])))
theorem errAll_laid : Rows.compactBackRow.laid = errAllList.map errAllRow := rfl
theorem errAll_globals : (errAllList.all fun x => decide (Tryd.prog.globalNamed x.1 = some x.2.1) && decide ((Tryd.prog.globals[x.2.1]?).map (·.type) = some 34)) = true := by kernel_rfl
theorem errAll_star : "*" ++ "errors.errorString" = "*errors.errorString" := by decide
theorem errAll_ptr (u : TypeId) (h : Tryd.prog.typeName? 3 u = some "*errors.errorString") : u = 74 :=
  typeName_ptr_named (nm := "errors.errorString") (by rw [errAll_star]; kernel_rfl) (by kernel_rfl) (by decide) u (by rw [errAll_star]; exact h)
theorem errAll_cells : Tryd.prog.cellsOf 90 = 1 := by kernel_rfl
theorem errAll_cellsStr : Tryd.prog.cellsOf 9 = 1 := by kernel_rfl
def errAllIs (W : World) (x : String × Nat × List UInt8) (a : Addr) : Prop :=
  W.cell? ⟨x.2.1, 0, none⟩ = some (.iface 74 (.pointer (some a))) ∧ (∃ s, W.cell? a = some (.string s) ∧ s.data.toList = x.2.2) ∧ ∃ c t, W.heap[a.block]? = some (.cells c t (0, 0))
theorem errAll_head {W : World} {x : String × Nat × List UInt8} {r : List (String × DataW Unit)} (hg : Tryd.prog.globalNamed x.1 = some x.2.1) (ht : (Tryd.prog.globals[x.2.1]?).map (·.type) = some 34) (h : laidMet Tryd.prog (errAllRow x :: r) W) : ∃ a, errAllIs W x a := by
  obtain ⟨a, s, h1, h2, h3, _⟩ := laid_sentinel h hg ht Tryd.underlying34 errAll_ptr Tryd.underlying74 Tryd.underlying90 rfl rfl Tryd.underlying9 errAll_cells errAll_cellsStr
  refine ⟨a, by simpa using World.var?_cell hg h1 0, ⟨s, h2, h3⟩, ?_⟩
  obtain ⟨ps, ⟨g0, t0, cs0, f0, p0, q0, hg0, ht0, hv0, hd0, _, e0⟩, _, hrows⟩ := h
  obtain rfl := Option.some.inj (hg.symm.trans hg0)
  obtain rfl := Option.some.inj (ht.symm.trans ht0)
  subst e0
  obtain ⟨l0⟩ := cs0
  have ok0 : ∀ u v, l0 = [.iface u v] → Value.okWide Tryd.prog W .any 0 u v := fun u v e => by
    subst e
    exact (hrows x.2.1 0 (by simp [MemPlace.row])).2 u v (by simpa using World.var?_cell hg hv0 0)
  obtain ⟨a0, s0, rfl, hc0, hs0, hz0, rfl⟩ := errorString_of_trod Tryd.underlying34 errAll_ptr Tryd.underlying74 Tryd.underlying90 rfl rfl Tryd.underlying9 errAll_cells errAll_cellsStr hd0 ok0
  have ea : a0 = a := by
    have := h1.symm.trans hv0
    simp at this
    exact this.symm
  rw [← ea]
  exact (hrows a0.block a0.off (by simp [MemPlace.row])).1
theorem errAll_all {W : World} : ∀ l : List (String × Nat × List UInt8), (∀ x ∈ l, Tryd.prog.globalNamed x.1 = some x.2.1 ∧ (Tryd.prog.globals[x.2.1]?).map (·.type) = some 34) → laidMet Tryd.prog (l.map errAllRow) W → ∃ E : Nat → Addr, ∀ i x, l[i]? = some x → errAllIs W x (E i)
  | [], _, _ => ⟨fun _ => ⟨0, 0, none⟩, fun i x h => by simp at h⟩
  | x :: l, hg, h => by
    obtain ⟨E, hE⟩ := errAll_all l (fun y hy => hg y (List.mem_cons_of_mem _ hy)) (laidMet.tail h)
    obtain ⟨a, ha⟩ := errAll_head (hg x List.mem_cons_self).1 (hg x List.mem_cons_self).2 h
    refine ⟨fun i => match i with | 0 => a | k + 1 => E k, fun i y hy => ?_⟩
    cases i with
    | zero => simp at hy; subst hy; exact ha
    | succ k => exact hE k y (by simpa using hy)
theorem errAll_inj : ∀ i j : Fin 25, (errAllList.map (·.2.2)).getD i.val [] = (errAllList.map (·.2.2)).getD j.val [] → i = j := by decide +kernel
theorem errAll_errs {W : World} (h : laidMetH Tryd.prog Rows.compactBackRow.laid W) : ∃ E, Errs W E := by
  have h' : laidMet Tryd.prog (errAllList.map errAllRow) W := h
  obtain ⟨E, hE⟩ := errAll_all errAllList (fun x hx => by
    have := List.all_eq_true.1 errAll_globals x hx
    simp only [Bool.and_eq_true, decide_eq_true_eq] at this
    exact this) h'
  have hl : errAllList.length = 25 := rfl
  have get : ∀ i (hi : i < 25), errAllIs W (errAllList[i]'(by rw [hl]; exact hi)) (E i) := fun i hi => hE i _ (List.getElem?_eq_getElem (by rw [hl]; exact hi))
  refine ⟨E, fun i hi => ?_, fun i j hi hj e => ?_⟩
  · obtain ⟨h1, _, h3⟩ := get i hi
    refine ⟨?_, h3⟩
    have eg : errG.getD i 0 = (errAllList[i]'(by rw [hl]; exact hi)).2.1 := by
      have : errG = errAllList.map (·.2.1) := rfl
      rw [this]
      simp [List.getD, List.getElem?_eq_getElem (show i < errAllList.length by rw [hl]; exact hi)]
    rw [eg]
    exact h1
  · obtain ⟨_, ⟨s, hs, ht⟩, _⟩ := get i hi
    obtain ⟨_, ⟨s', hs', ht'⟩, _⟩ := get j hj
    rw [e] at hs
    have es := Option.some.inj (hs.symm.trans hs')
    simp at es
    rw [es] at ht
    have := errAll_inj ⟨i, hi⟩ ⟨j, hj⟩ (by
      simp only [List.getD, List.getElem?_map]
      rw [List.getElem?_eq_getElem (show i < errAllList.length by rw [hl]; exact hi), List.getElem?_eq_getElem (show j < errAllList.length by rw [hl]; exact hj)]
      exact ht.symm.trans ht')
    exact congrArg Fin.val this
/-- A WORLD FOR THE WITNESS: the settled one, each listed error as its initialiser lays it. -/
noncomputable def errAllLow : Nat := (World.holding Tryd.prog default ⟨#[], #[], []⟩).heap.size
noncomputable def errAllWorld (os : Os) : World :=
  let w0 := World.holding Tryd.prog os ⟨(errAllList.map fun x => Obj.cells #[.string ⟨x.2.2.toArray⟩] 90).toArray, #[], []⟩
  { w0 with heap := (errAllList.zipIdx).foldl (fun h x => h.modify x.1.2.1 fun
      | .cells _ t frozen => .cells #[.iface 74 (.pointer (some ⟨errAllLow + x.2, 0, none⟩))] t frozen
      | o => o) w0.heap }
end Go.Proofs.YtdgejdecahdjkaaDoor.Sha
