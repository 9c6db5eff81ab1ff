/-
  THE STATEMENT CompactFewest IS PROVED: for every number the law answers true and turns nothing that was there. Condition: package api's errors hold what the program's text lays (tied by the card).
-/
import Derived.Test.YtdgejdecahdjkaaDoorCards
import Derived.Test.YtdgejdecahdjkaaDoorTie
import Derived.Test.YtdgejdecahdjkaaDoorErrAll
import Derived.Test.YtdgejdecahdjkaaDoorFewestWalk
namespace Go.Proofs.YtdgejdecahdjkaaDoor.Sha
open Go Go.ChangeShapes Go.WideShapes Go.ChangeAt Go.RowKit

theorem fewest_row {W : World} {x0 : Int} (w0 : (Lit.int .u64 x0).wf = true) (hL : laidMetH Tryd.prog Rows.compactFewestRow.laid W) :
    Calls Tryd.prog 4 #[.int .u64 x0] W fun e w' => e = .returned (.bool true) ∧ Below W.heap.size W w' := by
  obtain ⟨E, hE⟩ := errAll_errs hL
  have hb := bounds_u64 w0
  have h := fewest_main E x0.toNat W hE (by omega)
  rwa [Int.toNat_of_nonneg hb.1] at h
theorem fewest_contract (H : Type) (enc : TypeId × Value → H) (W : World) (base : Nat) (args : Array Value) (ds gs : List (DataW H)) (before : List MemPlace)
    (hval : ∀ (j : Nat) t v, Tryd.f4.params[j]? = some t → args[j]? = some v → Value.okWide Tryd.prog W .any base t v)
    (hW : DataW.Whole enc Tryd.prog Tryd.f4.params.toList Rows.compactFewestSpec.vars false W args.toList ds gs before) (hL : laidMetH Tryd.prog Rows.compactFewestRow.laid W) :
    Calls Tryd.prog 4 args W fun e W' => ∃ v, e = .returned v ∧ Rows.compactFewestSpec.post enc Tryd.prog Tryd.f4 false true false false W args v W' := by
  have hW' := hW
  obtain ⟨p, q, hA0, hV, rfl, hfz, hnd⟩ := hW
  have hA : DataW.TrodAll enc Tryd.prog W 0 (fun _ => true) true Tryd.f4.params.toList args.toList ds p := hA0
  rw [Tryd.params4] at hA hval
  obtain ⟨v0, vs0, d0, ds0, p0, q0, hargs, rfl, rfl, h0, r0⟩ := trodAll_cons hA
  obtain ⟨rfl, rfl, rfl⟩ := trodAll_nil r0
  obtain rfl : args = #[v0] := by cases args; simp_all
  obtain ⟨rfl, rfl⟩ := trodVars_none hV
  obtain ⟨x0, rfl, rfl, rfl, w0⟩ := open_int Tryd.underlying22 (hval 0 22 v0 rfl rfl) h0
  clear hA0
  have walk := (fewest_row w0 hL)
  refine walk.mono fun e W' ⟨he, bel⟩ => ?_
  subst he
  exact ⟨_, rfl, _, _, _, [], _, [], hW', trodAll_mk1 (shut_bool Tryd.underlying4 _), (trodAll_cons_mk (shut_int Tryd.underlying22 w0) trodAll_mk0), rfl, bel.frame _, fun h => by cases h⟩

theorem fewest_met (os : Os) : laidMet Tryd.prog Rows.compactFewestRow.laid ((errAllWorld os).forCall (fun _ _ => 0) ⟨#[], #[.int .u64 0], []⟩).memory :=
  laidMet_of_run' 8 (by kernel_rfl) (by kernel_rfl)
theorem fewest_reads (os : Os) {H : Type} (enc : TypeId × Value → H) : ∃ places, DataW.whole enc Tryd.prog ((errAllWorld os).forCall (fun _ _ => 0) ⟨#[], #[.int .u64 0], []⟩).memory Tryd.f4.params.toList Rows.compactFewestSpec.vars false #[Value.int .u64 0].toList 8 = some ([.lit (.int .u64 0)], [], places) :=
  ⟨[], by kernel_rfl⟩

set_option maxRecDepth 100000 in
theorem fewest_lifted (os : Os) (started : os.Started) (H : Type) (enc : TypeId × Value → H) (F : Stop.Interp) :
    ReturnsInHanded {} Tryd.checked os 4 .any ((OpenSpec.ofChange Rows.compactFewestSpec).preRow enc Tryd.prog Tryd.f4 Rows.compactFewestRow.domain false Rows.compactFewestRow.laid) (((OpenSpec.ofChange Rows.compactFewestSpec).at F).post enc Tryd.prog Tryd.f4 false true false false) := by
  obtain ⟨places, hx⟩ := fewest_reads os enc
  refine returnsInHanded_of_row (C := Tryd.checked) (s := OpenSpec.ofChange Rows.compactFewestSpec) own started (by kernel_rfl) Tryd.func4
    (witness_row_at (enc := enc) (C := Tryd.checked) false (errAllWorld os) #[.int .u64 0] rfl (by kernel_rfl) (by kernel_rfl) (by kernel_rfl)
      (OpenSpec.preRow_of_cond 8 hx (by kernel_rfl) (fun k hk => by cases hk) (by kernel_rfl) (fewest_met os))) ?_
  intro W base args ds gs before hval hW _ _ _ hL _ _
  exact fewest_contract H enc W base args ds gs before hval hW hL

theorem fewest_said : Rows.CompactFewestSaid :=
  OpenClaim.holds_of_cond 4 Tryd.f4 rfl rfl rfl rfl rfl rfl rfl ⟨rfl, rfl, rfl, rfl, rfl⟩ rfl rfl rfl rfl rfl (by kernel_rfl) Tryd.func4 (by kernel_rfl)
    (of_decide_eq_true (by kernel_rfl)) (by unfold Func.isWrapper; first | (rw [if_pos (by decide +kernel)]; kernel_rfl) | (rw [if_neg (by decide +kernel)]; exact ⟨rfl, rfl⟩))
    (fun os started H enc _ F => by rw [OpenClaim.pre_eq_preRow]; exact fewest_lifted os started H enc F)

theorem fewest_plain (f : FuncId) (fn : Func) (hf : Tryd.pinned.checked.prog.funcNamed "sargasso/sargassolaw2.CompactFewest" = some f) (hfn : Tryd.pinned.checked.prog.funcs[f]? = some fn) :
    true = Tryd.pinned.checked.prog.looks [] ∧ ∀ (j : Nat) t, fn.params[j]? = some t → Tryd.pinned.checked.prog.wantsStandIn t = false := by
  obtain rfl : f = 4 := Option.some.inj ((show Tryd.prog.funcNamed "sargasso/sargassolaw2.CompactFewest" = some 4 by kernel_rfl).symm.trans hf) |>.symm
  obtain rfl : fn = Tryd.f4 := (Option.some.inj (Tryd.func4.symm.trans hfn)).symm
  refine ⟨by kernel_rfl, fun j t ht => ?_⟩
  rw [Tryd.params4] at ht
  have hm : t ∈ [22] := by simpa using Array.mem_of_getElem? ht
  have hall : ([22].all fun u => !Tryd.prog.wantsStandIn u) = true := by kernel_rfl
  exact (show Tryd.prog.wantsStandIn t = false by simpa using List.all_eq_true.1 hall t hm)
/-- THE CARD. -/
theorem fewest_card : Rows.CompactFewestCardSaid :=
  Claim7.holds_tied_plain_at .later [] _ _ _ _ fewest_said (fun _ h => by cases h) (by kernel_rfl) (fun _ h => by cases h) compactFewest_row_tie rfl ⟨rfl, rfl⟩ (by kernel_rfl) rfl fewest_plain (by kernel_rfl)
end Go.Proofs.YtdgejdecahdjkaaDoor.Sha
