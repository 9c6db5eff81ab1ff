/-
  THE STATEMENT SpendNulls IS PROVED: for every number, byte and number of 32 bits the law answers true and turns nothing that was there. Condition: the table of the rounds' words holds what the program's text lays (tied by the card).
-/
import Derived.Test.YthgcpelabiigpaaDoorCards
import Derived.Test.YthgcpelabiigpaaDoorTie
import Derived.Test.YthgcpelabiigpaaDoorShaArgs
import Derived.Test.YthgcpelabiigpaaDoorArgsPt
import Derived.Test.YthgcpelabiigpaaDoorSpNullsWalk
namespace Go.Proofs.YthgcpelabiigpaaDoor.Sha
open Go Go.ChangeShapes Go.WideShapes Go.ChangeAt Go.RowKit

theorem spnulls_row {x0 x1 x2 : Int} {W : World} (w0 : (Lit.int .i64 x0).wf = true) (w2 : (Lit.int .u32 x2).wf = true) (hL : laidMetH Tryd.prog Rows.spendNullsRow.laid W) :
    Calls Tryd.prog 6 #[.int .i64 x0, .int .u8 (bv (UInt8.ofNat x1.toNat)), .int .u32 x2] W fun e w' => e = .returned (.bool true) ∧ Below W.heap.size W w' := by
  have h0 := bounds_i64 w0
  have h2 := bounds_u32 w2
  have h := spnulls_main x0 (UInt8.ofNat x1.toNat) (UInt32.ofNat x2.toNat) W (table hL) (by omega)
  have e : ((UInt32.ofNat x2.toNat).toNat : Int) = x2 := by rw [UInt32.toNat_ofNat']; omega
  rw [e] at h
  exact h
theorem spnulls_contract (H : Type) (enc : TypeId × Value → H) (W : World) (base : Nat) (args : Array Value) (ds gs : List (DataW H)) (before : List MemPlace)
    (hval : ∀ (j : Nat) t v, Tryd.f6.params[j]? = some t → args[j]? = some v → Value.okWide Tryd.prog W .any base t v)
    (hW : DataW.Whole enc Tryd.prog Tryd.f6.params.toList Rows.spendNullsSpec.vars false W args.toList ds gs before) (hL : laidMetH Tryd.prog Rows.spendNullsRow.laid W) :
    Calls Tryd.prog 6 args W fun e W' => ∃ v, e = .returned v ∧ Rows.spendNullsSpec.post enc Tryd.prog Tryd.f6 false true false false W args v W' := by
  have hW' := hW
  obtain ⟨p, q, hA0, hV, rfl, hfz, hnd⟩ := hW
  have hA : DataW.TrodAll enc Tryd.prog W 0 (fun _ => true) true Tryd.f6.params.toList args.toList ds p := hA0
  rw [Tryd.params6] at hA hval
  obtain ⟨v0, vs0, d0, ds0, p0, q0, hargs, rfl, rfl, h0, r0⟩ := trodAll_cons hA
  obtain ⟨v1, vs1, d1, ds1, p1, q1, rfl, rfl, rfl, h1, r1⟩ := trodAll_cons r0
  obtain ⟨v2, vs2, d2, ds2, p2, q2, rfl, rfl, rfl, h2, r2⟩ := trodAll_cons r1
  obtain ⟨rfl, rfl, rfl⟩ := trodAll_nil r2
  obtain rfl : args = #[v0, v1, v2] := by cases args; simp_all
  obtain ⟨rfl, rfl⟩ := trodVars_none hV
  obtain ⟨x0, rfl, rfl, rfl, w0⟩ := open_int Tryd.underlying3 (hval 0 3 v0 rfl rfl) h0
  obtain ⟨x1, rfl, rfl, rfl, w1⟩ := open_int Tryd.underlying5 (hval 1 5 v1 rfl rfl) h1
  obtain ⟨x2, rfl, rfl, rfl, w2⟩ := open_int Tryd.underlying25 (hval 2 25 v2 rfl rfl) h2
  clear hA0
  have walk := (spnulls_row (x1 := x1) w0 w2 hL)
  rw [byte_of w1] at walk
  refine walk.mono fun e W' ⟨he, bel⟩ => ?_
  subst he
  exact ⟨_, rfl, _, _, _, [], _, [], hW', trodAll_mk1 (shut_bool Tryd.underlying4 _), (trodAll_cons_mk (shut_int Tryd.underlying3 w0) (trodAll_cons_mk (shut_int Tryd.underlying5 w1) (trodAll_cons_mk (shut_int Tryd.underlying25 w2) trodAll_mk0))), rfl, bel.frame _, fun h => by cases h⟩

theorem spnulls_met (os : Os) : laidMet Tryd.prog Rows.spendNullsRow.laid ((laidWorld os).forCall (fun _ _ => 0) ⟨#[], #[.int .i64 0, .int .u8 0, .int .u32 0], []⟩).memory :=
  laidMet_of_run' 8 (by kernel_rfl) (by kernel_rfl)
theorem spnulls_reads (os : Os) {H : Type} (enc : TypeId × Value → H) : ∃ places, DataW.whole enc Tryd.prog ((laidWorld os).forCall (fun _ _ => 0) ⟨#[], #[.int .i64 0, .int .u8 0, .int .u32 0], []⟩).memory Tryd.f6.params.toList Rows.spendNullsSpec.vars false #[Value.int .i64 0, Value.int .u8 0, Value.int .u32 0].toList 8 = some ([.lit (.int .i64 0), .lit (.int .u8 0), .lit (.int .u32 0)], [], places) :=
  ⟨[], by kernel_rfl⟩

set_option maxRecDepth 100000 in
theorem spnulls_lifted (os : Os) (started : os.Started) (H : Type) (enc : TypeId × Value → H) (F : Stop.Interp) :
    ReturnsInHanded {} Tryd.checked os 6 .any ((OpenSpec.ofChange Rows.spendNullsSpec).preRow enc Tryd.prog Tryd.f6 Rows.spendNullsRow.domain false Rows.spendNullsRow.laid) (((OpenSpec.ofChange Rows.spendNullsSpec).at F).post enc Tryd.prog Tryd.f6 false true false false) := by
  obtain ⟨places, hx⟩ := spnulls_reads os enc
  refine returnsInHanded_of_row (C := Tryd.checked) (s := OpenSpec.ofChange Rows.spendNullsSpec) own started (by kernel_rfl) Tryd.func6
    (witness_row_at (enc := enc) (C := Tryd.checked) false (laidWorld os) #[.int .i64 0, .int .u8 0, .int .u32 0] rfl (by kernel_rfl) (by kernel_rfl) (by kernel_rfl)
      (OpenSpec.preRow_of_cond 8 hx (by kernel_rfl) (fun k hk => by cases hk) (by kernel_rfl) (spnulls_met os))) ?_
  intro W base args ds gs before hval hW _ _ _ hL _ _
  exact spnulls_contract H enc W base args ds gs before hval hW hL

theorem spnulls_said : Rows.SpendNullsSaid :=
  OpenClaim.holds_of_cond 6 Tryd.f6 rfl rfl rfl rfl rfl rfl rfl ⟨rfl, rfl, rfl, rfl, rfl⟩ rfl rfl rfl rfl rfl (by kernel_rfl) Tryd.func6 (by kernel_rfl)
    (of_decide_eq_true (by kernel_rfl)) (by unfold Func.isWrapper; first | (rw [if_pos (by decide +kernel)]; kernel_rfl) | (rw [if_neg (by decide +kernel)]; exact ⟨rfl, rfl⟩))
    (fun os started H enc _ F => by rw [OpenClaim.pre_eq_preRow]; exact spnulls_lifted os started H enc F)

theorem spnulls_plain (f : FuncId) (fn : Func) (hf : Tryd.pinned.checked.prog.funcNamed "sargasso/sargassolaw3.SpendNulls" = some f) (hfn : Tryd.pinned.checked.prog.funcs[f]? = some fn) :
    false = Tryd.pinned.checked.prog.looks [] ∧ ∀ (j : Nat) t, fn.params[j]? = some t → Tryd.pinned.checked.prog.wantsStandIn t = false := by
  obtain rfl : f = 6 := Option.some.inj ((show Tryd.prog.funcNamed "sargasso/sargassolaw3.SpendNulls" = some 6 by kernel_rfl).symm.trans hf) |>.symm
  obtain rfl : fn = Tryd.f6 := (Option.some.inj (Tryd.func6.symm.trans hfn)).symm
  refine ⟨by kernel_rfl, fun j t ht => ?_⟩
  rw [Tryd.params6] at ht
  have hm : t ∈ [3, 5, 25] := by simpa using Array.mem_of_getElem? ht
  have hall : ([3, 5, 25].all fun u => !Tryd.prog.wantsStandIn u) = true := by kernel_rfl
  exact (show Tryd.prog.wantsStandIn t = false by simpa using List.all_eq_true.1 hall t hm)
/-- THE CARD. -/
theorem spnulls_card : Rows.SpendNullsCardSaid :=
  Claim7.holds_tied_plain_at .later [] _ _ _ _ spnulls_said (fun _ h => by cases h) (by kernel_rfl) (fun _ h => by cases h) spendNulls_row_tie rfl ⟨rfl, rfl⟩ (by kernel_rfl) rfl spnulls_plain (by kernel_rfl)
end Go.Proofs.YthgcpelabiigpaaDoor.Sha
