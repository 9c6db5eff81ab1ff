/-
  THE STATEMENT TxSizes IS PROVED: for every two transactions the law answers true and turns nothing that was there. Condition: package api's errors hold what the program's text lays (tied by the card).
-/
import Derived.Test.YtkabpbclmhmgfaaDoorCards
import Derived.Test.YtkabpbclmhmgfaaDoorTie
import Derived.Test.YtkabpbclmhmgfaaDoorMg13
import Derived.Test.YtkabpbclmhmgfaaDoorMg02
import Derived.Test.YtkabpbclmhmgfaaDoorMg19
import Derived.Test.YtkabpbclmhmgfaaDoorMg09
import Derived.Test.YtkabpbclmhmgfaaDoorMg12
import Derived.Test.YtkabpbclmhmgfaaDoorMg17
namespace Go.Proofs.YtkabpbclmhmgfaaDoor.Sha
open Go Go.ChangeShapes Go.WideShapes Go.ChangeAt Go.RowKit

theorem txsizes_row {W : World} {t u : TTx} {v v' : Value} (w0 : TxAt W v t) (c0 : TxCame t) (w1 : TxAt W v' u) (c1 : TxCame u) (hL : laidMetH Tryd.prog Rows.txSizesRow.laid W) :
    Calls Tryd.prog 7 #[v, v'] W fun e w' => e = .returned (.bool true) ∧ Below W.heap.size W w' := by
  obtain ⟨E, hE⟩ := errEight_e8 hL
  exact txsizes_main E (first4_of bytes_all size_all) bytes_all size_all (check_all E) (same_of_tx bytes_all) t u v v' W hE w0 w1 c0 c1
set_option maxRecDepth 100000 in
theorem txsizes_contract (H : Type) (enc : TypeId × Value → H) (W : World) (base : Nat) (args : Array Value) (ds gs : List (DataW H)) (before : List MemPlace)
    (hval : ∀ (j : Nat) t v, Tryd.f7.params[j]? = some t → args[j]? = some v → Value.okWide Tryd.prog W .any base t v)
    (hW : DataW.Whole enc Tryd.prog Tryd.f7.params.toList Rows.txSizesSpec.vars false W args.toList ds gs before) (hL : laidMetH Tryd.prog Rows.txSizesRow.laid W) :
    Calls Tryd.prog 7 args W fun e W' => ∃ v, e = .returned v ∧ Rows.txSizesSpec.post enc Tryd.prog Tryd.f7 false true false false W args v W' := by
  have hW' := hW
  obtain ⟨p, q, hA0, hV, rfl, hfz, hnd⟩ := hW
  have hA : DataW.TrodAll enc Tryd.prog W 0 (fun _ => true) true Tryd.f7.params.toList args.toList ds p := hA0
  rw [Tryd.params7] at hA hval
  obtain ⟨v0, vs0, d0, ds0, p0, q0, hargs, rfl, rfl, h0, r0⟩ := trodAll_cons hA
  obtain ⟨v1, vs1, d1, ds1, p1, q1, rfl, rfl, rfl, h1, r1⟩ := trodAll_cons r0
  obtain ⟨rfl, rfl, rfl⟩ := trodAll_nil r1
  obtain rfl : args = #[v0, v1] := by cases args; simp_all
  obtain ⟨rfl, rfl⟩ := trodVars_none hV
  obtain ⟨t0, w0, c0⟩ := tx_in (hval 0 26 v0 rfl rfl) h0
  have k0 := h0
  have lt0 : ∀ x ∈ p0, x.block < W.heap.size := by obtain ⟨m, hm⟩ := k0; exact DataW.trod_lt m _ _ _ hm
  obtain ⟨t1, w1, c1⟩ := tx_in (hval 1 26 v1 rfl rfl) h1
  have k1 := h1
  have lt1 : ∀ x ∈ p1, x.block < W.heap.size := by obtain ⟨m, hm⟩ := k1; exact DataW.trod_lt m _ _ _ hm
  clear hA0
  have walk := (txsizes_row w0 c0 w1 c1 hL)
  refine walk.mono fun e W' ⟨he, bel⟩ => ?_
  subst he
  exact ⟨_, rfl, _, _, _, [], _, [], hW', trodAll_mk1 (shut_bool Tryd.underlying4 _), (trodAll_cons_mk (Below.trod laidOut (by kernel_rfl) (of_decide_eq_true (by kernel_rfl)) k0 bel lt0) (trodAll_cons_mk (Below.trod laidOut (by kernel_rfl) (of_decide_eq_true (by kernel_rfl)) k1 bel lt1) trodAll_mk0)), rfl, bel.frame _, fun h => by cases h⟩

theorem txsizes_met (os : Os) : laidMet Tryd.prog Rows.txSizesRow.laid ((errEightWorld os).forCall (fun _ _ => 0) ⟨#[], #[.agg #[.int .u32 0, .slice none 0 0, .slice none 0 0, .int .u32 0], .agg #[.int .u32 0, .slice none 0 0, .slice none 0 0, .int .u32 0]], []⟩).memory :=
  laidMet_of_run' 8 (by kernel_rfl) (by kernel_rfl)
theorem txsizes_reads (os : Os) {H : Type} (enc : TypeId × Value → H) : ∃ places, DataW.whole enc Tryd.prog ((errEightWorld os).forCall (fun _ _ => 0) ⟨#[], #[.agg #[.int .u32 0, .slice none 0 0, .slice none 0 0, .int .u32 0], .agg #[.int .u32 0, .slice none 0 0, .slice none 0 0, .int .u32 0]], []⟩).memory Tryd.f7.params.toList Rows.txSizesSpec.vars false #[Value.agg #[.int .u32 0, .slice none 0 0, .slice none 0 0, .int .u32 0], Value.agg #[.int .u32 0, .slice none 0 0, .slice none 0 0, .int .u32 0]].toList 8 = some ([.agg [.lit (.int .u32 0), .nil, .nil, .lit (.int .u32 0)], .agg [.lit (.int .u32 0), .nil, .nil, .lit (.int .u32 0)]], [], places) :=
  ⟨[], by kernel_rfl⟩

set_option maxRecDepth 100000 in
theorem txsizes_lifted (os : Os) (started : os.Started) (H : Type) (enc : TypeId × Value → H) (F : Stop.Interp) :
    ReturnsInHanded {} Tryd.checked os 7 .any ((OpenSpec.ofChange Rows.txSizesSpec).preRow enc Tryd.prog Tryd.f7 Rows.txSizesRow.domain false Rows.txSizesRow.laid) (((OpenSpec.ofChange Rows.txSizesSpec).at F).post enc Tryd.prog Tryd.f7 false true false false) := by
  obtain ⟨places, hx⟩ := txsizes_reads os enc
  refine returnsInHanded_of_row (C := Tryd.checked) (s := OpenSpec.ofChange Rows.txSizesSpec) own started (by kernel_rfl) Tryd.func7
    (witness_row_at (enc := enc) (C := Tryd.checked) false (errEightWorld os) #[.agg #[.int .u32 0, .slice none 0 0, .slice none 0 0, .int .u32 0], .agg #[.int .u32 0, .slice none 0 0, .slice none 0 0, .int .u32 0]] rfl (by kernel_rfl) (by kernel_rfl) (by kernel_rfl)
      (OpenSpec.preRow_of_cond 8 hx (by kernel_rfl) (fun k hk => by cases hk) (by kernel_rfl) (txsizes_met os))) ?_
  intro W base args ds gs before hval hW _ _ _ hL _ _
  exact txsizes_contract H enc W base args ds gs before hval hW hL

theorem txsizes_said : Rows.TxSizesSaid :=
  OpenClaim.holds_of_cond 7 Tryd.f7 rfl rfl rfl rfl rfl rfl rfl ⟨rfl, rfl, rfl, rfl, rfl⟩ rfl rfl rfl rfl rfl (by kernel_rfl) Tryd.func7 (by kernel_rfl)
    (of_decide_eq_true (by kernel_rfl)) (by unfold Func.isWrapper; first | (rw [if_pos (by decide +kernel)]; kernel_rfl) | (rw [if_neg (by decide +kernel)]; exact ⟨rfl, rfl⟩))
    (fun os started H enc _ F => by rw [OpenClaim.pre_eq_preRow]; exact txsizes_lifted os started H enc F)

theorem txsizes_plain (f : FuncId) (fn : Func) (hf : Tryd.pinned.checked.prog.funcNamed "sargasso/sargassolaw4.TxSizes" = some f) (hfn : Tryd.pinned.checked.prog.funcs[f]? = some fn) :
    true = Tryd.pinned.checked.prog.looks [] ∧ ∀ (j : Nat) t, fn.params[j]? = some t → Tryd.pinned.checked.prog.wantsStandIn t = false := by
  obtain rfl : f = 7 := Option.some.inj ((show Tryd.prog.funcNamed "sargasso/sargassolaw4.TxSizes" = some 7 by kernel_rfl).symm.trans hf) |>.symm
  obtain rfl : fn = Tryd.f7 := (Option.some.inj (Tryd.func7.symm.trans hfn)).symm
  refine ⟨by kernel_rfl, fun j t ht => ?_⟩
  rw [Tryd.params7] at ht
  have hm : t ∈ [26, 26] := by simpa using Array.mem_of_getElem? ht
  have hall : ([26, 26].all fun u => !Tryd.prog.wantsStandIn u) = true := by kernel_rfl
  exact (show Tryd.prog.wantsStandIn t = false by simpa using List.all_eq_true.1 hall t hm)
/-- THE CARD. -/
theorem txsizes_card : Rows.TxSizesCardSaid :=
  Claim7.holds_tied_plain_at .later [] _ _ _ _ txsizes_said (fun _ h => by cases h) (by kernel_rfl) (fun _ h => by cases h) txSizes_row_tie rfl ⟨rfl, rfl⟩ (by kernel_rfl) rfl txsizes_plain (by kernel_rfl)
end Go.Proofs.YtkabpbclmhmgfaaDoor.Sha
