/-
  THE STATEMENT SpendOrder IS PROVED: for every three places the law answers true and turns nothing that was there. Condition: the table of the rounds' words holds what the program's text lays (tied by the card).
-/
import Derived.Test.YthgcpelabiigpaaDoorCards
import Derived.Test.YthgcpelabiigpaaDoorTie
import Derived.Test.YthgcpelabiigpaaDoorShaArgs
import Derived.Test.YthgcpelabiigpaaDoorArgsPt
import Derived.Test.YthgcpelabiigpaaDoorSpOrderWalk
namespace Go.Proofs.YthgcpelabiigpaaDoor.Sha
open Go Go.ChangeShapes Go.WideShapes Go.ChangeAt Go.RowKit

theorem spord_contract (H : Type) (enc : TypeId × Value → H) (W : World) (base : Nat) (args : Array Value) (ds gs : List (DataW H)) (before : List MemPlace)
    (hval : ∀ (j : Nat) t v, Tryd.f5.params[j]? = some t → args[j]? = some v → Value.okWide Tryd.prog W .any base t v)
    (hW : DataW.Whole enc Tryd.prog Tryd.f5.params.toList Rows.spendOrderSpec.vars false W args.toList ds gs before) (hL : laidMetH Tryd.prog Rows.spendOrderRow.laid W) :
    Calls Tryd.prog 5 args W fun e W' => ∃ v, e = .returned v ∧ Rows.spendOrderSpec.post enc Tryd.prog Tryd.f5 false true false false W args v W' := by
  have hW' := hW
  obtain ⟨p, q, hA0, hV, rfl, hfz, hnd⟩ := hW
  have hA : DataW.TrodAll enc Tryd.prog W 0 (fun _ => true) true Tryd.f5.params.toList args.toList ds p := hA0
  rw [Tryd.params5] at hA hval
  obtain ⟨v0, vs0, d0, ds0, p0, q0, hargs, rfl, rfl, h0, r0⟩ := trodAll_cons hA
  obtain ⟨v1, vs1, d1, ds1, p1, q1, rfl, rfl, rfl, h1, r1⟩ := trodAll_cons r0
  obtain ⟨v2, vs2, d2, ds2, p2, q2, rfl, rfl, rfl, h2, r2⟩ := trodAll_cons r1
  obtain ⟨rfl, rfl, rfl⟩ := trodAll_nil r2
  obtain rfl : args = #[v0, v1, v2] := by cases args; simp_all
  obtain ⟨rfl, rfl⟩ := trodVars_none hV
  obtain ⟨l0, n0, w0, rfl⟩ := point_in (hval 0 27 v0 rfl rfl) h0
  have k0 := h0
  have lt0 : ∀ x ∈ p0, x.block < W.heap.size := by obtain ⟨m, hm⟩ := k0; exact DataW.trod_lt m _ _ _ hm
  obtain ⟨l1, n1, w1, rfl⟩ := point_in (hval 1 27 v1 rfl rfl) h1
  have k1 := h1
  have lt1 : ∀ x ∈ p1, x.block < W.heap.size := by obtain ⟨m, hm⟩ := k1; exact DataW.trod_lt m _ _ _ hm
  obtain ⟨l2, n2, w2, rfl⟩ := point_in (hval 2 27 v2 rfl rfl) h2
  have k2 := h2
  have lt2 : ∀ x ∈ p2, x.block < W.heap.size := by obtain ⟨m, hm⟩ := k2; exact DataW.trod_lt m _ _ _ hm
  clear hA0
  have walk := (sporder_main l0 l1 l2 n0 n1 n2 W (table hL) w0.1 w1.1 w2.1)
  refine walk.mono fun e W' ⟨he, bel⟩ => ?_
  subst he
  exact ⟨_, rfl, _, _, _, [], _, [], hW', trodAll_mk1 (shut_bool Tryd.underlying4 _), (trodAll_cons_mk (Below.trod laidOut (by kernel_rfl) (of_decide_eq_true (by kernel_rfl)) k0 bel lt0) (trodAll_cons_mk (Below.trod laidOut (by kernel_rfl) (of_decide_eq_true (by kernel_rfl)) k1 bel lt1) (trodAll_cons_mk (Below.trod laidOut (by kernel_rfl) (of_decide_eq_true (by kernel_rfl)) k2 bel lt2) trodAll_mk0))), rfl, bel.frame _, fun h => by cases h⟩

theorem spord_met (os : Os) : laidMet Tryd.prog Rows.spendOrderRow.laid ((laidWorld os).forCall (fun _ _ => 0) ⟨#[], #[.agg (ptL (List.replicate 32 0) 0).toArray, .agg (ptL (List.replicate 32 0) 0).toArray, .agg (ptL (List.replicate 32 0) 0).toArray], []⟩).memory :=
  laidMet_of_run' 8 (by kernel_rfl) (by kernel_rfl)
theorem spord_reads (os : Os) {H : Type} (enc : TypeId × Value → H) : ∃ places, DataW.whole enc Tryd.prog ((laidWorld os).forCall (fun _ _ => 0) ⟨#[], #[.agg (ptL (List.replicate 32 0) 0).toArray, .agg (ptL (List.replicate 32 0) 0).toArray, .agg (ptL (List.replicate 32 0) 0).toArray], []⟩).memory Tryd.f5.params.toList Rows.spendOrderSpec.vars false #[Value.agg (ptL (List.replicate 32 0) 0).toArray, Value.agg (ptL (List.replicate 32 0) 0).toArray, Value.agg (ptL (List.replicate 32 0) 0).toArray].toList 8 = some ([.agg [.agg (List.replicate 32 (.lit (.int .u8 0))), .lit (.int .u32 0)], .agg [.agg (List.replicate 32 (.lit (.int .u8 0))), .lit (.int .u32 0)], .agg [.agg (List.replicate 32 (.lit (.int .u8 0))), .lit (.int .u32 0)]], [], places) :=
  ⟨[], by kernel_rfl⟩

set_option maxRecDepth 100000 in
theorem spord_lifted (os : Os) (started : os.Started) (H : Type) (enc : TypeId × Value → H) (F : Stop.Interp) :
    ReturnsInHanded {} Tryd.checked os 5 .any ((OpenSpec.ofChange Rows.spendOrderSpec).preRow enc Tryd.prog Tryd.f5 Rows.spendOrderRow.domain false Rows.spendOrderRow.laid) (((OpenSpec.ofChange Rows.spendOrderSpec).at F).post enc Tryd.prog Tryd.f5 false true false false) := by
  obtain ⟨places, hx⟩ := spord_reads os enc
  refine returnsInHanded_of_row (C := Tryd.checked) (s := OpenSpec.ofChange Rows.spendOrderSpec) own started (by kernel_rfl) Tryd.func5
    (witness_row_at (enc := enc) (C := Tryd.checked) false (laidWorld os) #[.agg (ptL (List.replicate 32 0) 0).toArray, .agg (ptL (List.replicate 32 0) 0).toArray, .agg (ptL (List.replicate 32 0) 0).toArray] rfl (by kernel_rfl) (by kernel_rfl) (by kernel_rfl)
      (OpenSpec.preRow_of_cond 8 hx (by kernel_rfl) (fun k hk => by cases hk) (by kernel_rfl) (spord_met os))) ?_
  intro W base args ds gs before hval hW _ _ _ hL _ _
  exact spord_contract H enc W base args ds gs before hval hW hL

theorem spord_said : Rows.SpendOrderSaid :=
  OpenClaim.holds_of_cond 5 Tryd.f5 rfl rfl rfl rfl rfl rfl rfl ⟨rfl, rfl, rfl, rfl, rfl⟩ rfl rfl rfl rfl rfl (by kernel_rfl) Tryd.func5 (by kernel_rfl)
    (of_decide_eq_true (by kernel_rfl)) (by unfold Func.isWrapper; first | (rw [if_pos (by decide +kernel)]; kernel_rfl) | (rw [if_neg (by decide +kernel)]; exact ⟨rfl, rfl⟩))
    (fun os started H enc _ F => by rw [OpenClaim.pre_eq_preRow]; exact spord_lifted os started H enc F)

theorem spord_plain (f : FuncId) (fn : Func) (hf : Tryd.pinned.checked.prog.funcNamed "sargasso/sargassolaw3.SpendOrder" = some f) (hfn : Tryd.pinned.checked.prog.funcs[f]? = some fn) :
    false = Tryd.pinned.checked.prog.looks [] ∧ ∀ (j : Nat) t, fn.params[j]? = some t → Tryd.pinned.checked.prog.wantsStandIn t = false := by
  obtain rfl : f = 5 := Option.some.inj ((show Tryd.prog.funcNamed "sargasso/sargassolaw3.SpendOrder" = some 5 by kernel_rfl).symm.trans hf) |>.symm
  obtain rfl : fn = Tryd.f5 := (Option.some.inj (Tryd.func5.symm.trans hfn)).symm
  refine ⟨by kernel_rfl, fun j t ht => ?_⟩
  rw [Tryd.params5] at ht
  have hm : t ∈ [27, 27, 27] := by simpa using Array.mem_of_getElem? ht
  have hall : ([27, 27, 27].all fun u => !Tryd.prog.wantsStandIn u) = true := by kernel_rfl
  exact (show Tryd.prog.wantsStandIn t = false by simpa using List.all_eq_true.1 hall t hm)
/-- THE CARD. -/
theorem spord_card : Rows.SpendOrderCardSaid :=
  Claim7.holds_tied_plain_at .later [] _ _ _ _ spord_said (fun _ h => by cases h) (by kernel_rfl) (fun _ h => by cases h) spendOrder_row_tie rfl ⟨rfl, rfl⟩ (by kernel_rfl) rfl spord_plain (by kernel_rfl)
end Go.Proofs.YthgcpelabiigpaaDoor.Sha
