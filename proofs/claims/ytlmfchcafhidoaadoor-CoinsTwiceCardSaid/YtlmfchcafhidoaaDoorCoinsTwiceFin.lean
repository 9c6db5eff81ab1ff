/-
  THE STATEMENT CoinsTwice IS PROVED: for every place and two coins the law answers true and turns nothing that was there. Conditions: package api's errors and the table of the rounds' words hold what the program's text lays (tied by the card).
-/
import Derived.Test.YtlmfchcafhidoaaDoorCards
import Derived.Test.YtlmfchcafhidoaaDoorTie
import Derived.Test.YtlmfchcafhidoaaDoorMg03
import Derived.Test.YtlmfchcafhidoaaDoorMg05
import Derived.Test.YtlmfchcafhidoaaDoorMg09
namespace Go.Proofs.YtlmfchcafhidoaaDoor.Sha
open Go Go.ChangeShapes Go.WideShapes Go.ChangeAt Go.RowKit
theorem cointwice_row {W : World} {p : TPt} {a b : TMn} (w0 : PtOk p) (w1 : MnOk a) (w2 : MnOk b) (hL : laidMetH Tryd.prog Rows.coinsTwiceRow.laid W) :
    Calls Tryd.prog 6 #[.agg (ptC p).toArray, .agg (mnL a).toArray, .agg (mnL b).toArray] W fun e w' => e = .returned (.bool true) ∧ Below W.heap.size W w' := by
  obtain ⟨⟨E, hE⟩, hk⟩ := errCnt_errs hL
  exact cointwice_main E p a b W w0 w1 w2 hE hk
set_option maxRecDepth 100000 in
theorem cointwice_contract (H : Type) (enc : TypeId × Value → H) (W : World) (base : Nat) (args : Array Value) (ds gs : List (DataW H)) (before : List MemPlace)
    (hval : ∀ (j : Nat) t v, Tryd.f6.params[j]? = some t → args[j]? = some v → Value.okWide Tryd.prog W .any base t v)
    (hW : DataW.Whole enc Tryd.prog Tryd.f6.params.toList Rows.coinsTwiceSpec.vars false W args.toList ds gs before) (hL : laidMetH Tryd.prog Rows.coinsTwiceRow.laid W) :
    Calls Tryd.prog 6 args W fun e W' => ∃ v, e = .returned v ∧ Rows.coinsTwiceSpec.post enc Tryd.prog Tryd.f6 false true false false W args v W' := by
  have hW' := hW
  obtain ⟨p, q, hA0, hV, rfl, hfz, hnd⟩ := hW
  have hA : DataW.TrodAll enc Tryd.prog W 0 (fun _ => true) true Tryd.f6.params.toList args.toList ds p := hA0
  rw [Tryd.params6] at hA hval
  obtain ⟨v0, vs0, d0, ds0, p0, q0, hargs, rfl, rfl, h0, r0⟩ := trodAll_cons hA
  obtain ⟨v1, vs1, d1, ds1, p1, q1, rfl, rfl, rfl, h1, r1⟩ := trodAll_cons r0
  obtain ⟨v2, vs2, d2, ds2, p2, q2, rfl, rfl, rfl, h2, r2⟩ := trodAll_cons r1
  obtain ⟨rfl, rfl, rfl⟩ := trodAll_nil r2
  obtain rfl : args = #[v0, v1, v2] := by cases args; simp_all
  obtain ⟨rfl, rfl⟩ := trodVars_none hV
  obtain ⟨g0, w0, rfl⟩ := place_in (hval 0 27 v0 rfl rfl) h0
  have k0 := h0
  have lt0 : ∀ x ∈ p0, x.block < W.heap.size := by obtain ⟨m, hm⟩ := k0; exact DataW.trod_lt m _ _ _ hm
  obtain ⟨c1, w1, rfl⟩ := money_in (hval 1 39 v1 rfl rfl) h1
  have k1 := h1
  have lt1 : ∀ x ∈ p1, x.block < W.heap.size := by obtain ⟨m, hm⟩ := k1; exact DataW.trod_lt m _ _ _ hm
  obtain ⟨c2, w2, rfl⟩ := money_in (hval 2 39 v2 rfl rfl) h2
  have k2 := h2
  have lt2 : ∀ x ∈ p2, x.block < W.heap.size := by obtain ⟨m, hm⟩ := k2; exact DataW.trod_lt m _ _ _ hm
  clear hA0
  have walk := (cointwice_row w0 w1 w2 hL)
  refine walk.mono fun e W' ⟨he, bel⟩ => ?_
  subst he
  exact ⟨_, rfl, _, _, _, [], _, [], hW', trodAll_mk1 (shut_bool Tryd.underlying4 _), (trodAll_cons_mk (Below.trod laidOut (by kernel_rfl) (of_decide_eq_true (by kernel_rfl)) k0 bel lt0) (trodAll_cons_mk (Below.trod laidOut (by kernel_rfl) (of_decide_eq_true (by kernel_rfl)) k1 bel lt1) (trodAll_cons_mk (Below.trod laidOut (by kernel_rfl) (of_decide_eq_true (by kernel_rfl)) k2 bel lt2) trodAll_mk0))), rfl, bel.frame _, fun h => by cases h⟩
theorem cointwice_met (os : Os) : laidMet Tryd.prog Rows.coinsTwiceRow.laid ((errCntWorld os).forCall (fun _ _ => 0) ⟨#[], #[.agg (ptL (List.replicate 32 0) 0).toArray, .agg (mnL mnZ).toArray, .agg (mnL mnZ).toArray], []⟩).memory :=
  laidMet_of_run' 8 (by kernel_rfl) (by kernel_rfl)
theorem cointwice_reads (os : Os) {H : Type} (enc : TypeId × Value → H) : ∃ places, DataW.whole enc Tryd.prog ((errCntWorld os).forCall (fun _ _ => 0) ⟨#[], #[.agg (ptL (List.replicate 32 0) 0).toArray, .agg (mnL mnZ).toArray, .agg (mnL mnZ).toArray], []⟩).memory Tryd.f6.params.toList Rows.coinsTwiceSpec.vars false #[Value.agg (ptL (List.replicate 32 0) 0).toArray, Value.agg (mnL mnZ).toArray, Value.agg (mnL mnZ).toArray].toList 8 = some ([.agg [.agg (List.replicate 32 (.lit (.int .u8 0))), .lit (.int .u32 0)], .agg [.lit (.int .u64 0), .agg (List.replicate 32 (.lit (.int .u8 0))), .lit (.int .i64 0), .lit (.bool false)], .agg [.lit (.int .u64 0), .agg (List.replicate 32 (.lit (.int .u8 0))), .lit (.int .i64 0), .lit (.bool false)]], [], places) :=
  ⟨[], by kernel_rfl⟩
set_option maxRecDepth 100000 in
theorem cointwice_lifted (os : Os) (started : os.Started) (H : Type) (enc : TypeId × Value → H) (F : Stop.Interp) :
    ReturnsInHanded {} Tryd.checked os 6 .any ((OpenSpec.ofChange Rows.coinsTwiceSpec).preRow enc Tryd.prog Tryd.f6 Rows.coinsTwiceRow.domain false Rows.coinsTwiceRow.laid) (((OpenSpec.ofChange Rows.coinsTwiceSpec).at F).post enc Tryd.prog Tryd.f6 false true false false) := by
  obtain ⟨places, hx⟩ := cointwice_reads os enc
  refine returnsInHanded_of_row (C := Tryd.checked) (s := OpenSpec.ofChange Rows.coinsTwiceSpec) own started (by kernel_rfl) Tryd.func6
    (witness_row_at (enc := enc) (C := Tryd.checked) false (errCntWorld os) #[.agg (ptL (List.replicate 32 0) 0).toArray, .agg (mnL mnZ).toArray, .agg (mnL mnZ).toArray] rfl (by kernel_rfl) (by kernel_rfl) (by kernel_rfl)
      (OpenSpec.preRow_of_cond 8 hx (by kernel_rfl) (fun k hk => by cases hk) (by kernel_rfl) (cointwice_met os))) ?_
  intro W base args ds gs before hval hW _ _ _ hL _ _
  exact cointwice_contract H enc W base args ds gs before hval hW hL
theorem cointwice_said : Rows.CoinsTwiceSaid :=
  OpenClaim.holds_of_cond 6 Tryd.f6 rfl rfl rfl rfl rfl rfl rfl ⟨rfl, rfl, rfl, rfl, rfl⟩ rfl rfl rfl rfl rfl (by kernel_rfl) Tryd.func6 (by kernel_rfl)
    (of_decide_eq_true (by kernel_rfl)) (by unfold Func.isWrapper; first | (rw [if_pos (by decide +kernel)]; kernel_rfl) | (rw [if_neg (by decide +kernel)]; exact ⟨rfl, rfl⟩))
    (fun os started H enc _ F => by rw [OpenClaim.pre_eq_preRow]; exact cointwice_lifted os started H enc F)
theorem cointwice_plain (f : FuncId) (fn : Func) (hf : Tryd.pinned.checked.prog.funcNamed "sargasso/sargassolaw8.CoinsTwice" = some f) (hfn : Tryd.pinned.checked.prog.funcs[f]? = some fn) :
    true = Tryd.pinned.checked.prog.looks [] ∧ ∀ (j : Nat) t, fn.params[j]? = some t → Tryd.pinned.checked.prog.wantsStandIn t = false := by
  obtain rfl : f = 6 := Option.some.inj ((show Tryd.prog.funcNamed "sargasso/sargassolaw8.CoinsTwice" = some 6 by kernel_rfl).symm.trans hf) |>.symm
  obtain rfl : fn = Tryd.f6 := (Option.some.inj (Tryd.func6.symm.trans hfn)).symm
  refine ⟨by kernel_rfl, fun j t ht => ?_⟩
  rw [Tryd.params6] at ht
  have hm : t ∈ [27, 39, 39] := by simpa using Array.mem_of_getElem? ht
  have hall : ([27, 39, 39].all fun u => !Tryd.prog.wantsStandIn u) = true := by kernel_rfl
  exact (show Tryd.prog.wantsStandIn t = false by simpa using List.all_eq_true.1 hall t hm)
/-- THE CARD. -/
theorem cointwice_card : Rows.CoinsTwiceCardSaid :=
  Claim7.holds_tied_plain_at .later [] _ _ _ _ cointwice_said (fun _ h => by cases h) (by kernel_rfl) (fun _ h => by cases h) coinsTwice_row_tie rfl ⟨rfl, rfl⟩ (by kernel_rfl) rfl cointwice_plain (by kernel_rfl)
end Go.Proofs.YtlmfchcafhidoaaDoor.Sha
