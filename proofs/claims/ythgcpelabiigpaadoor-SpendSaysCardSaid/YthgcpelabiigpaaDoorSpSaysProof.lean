/-
  THE STATEMENT SpendSays IS PROVED: for every key, every digest and every two places the law answers true and turns nothing that was there. Condition: the table of the rounds' words holds what the program's text lays (tied by the card).
-/
import Derived.Test.YthgcpelabiigpaaDoorCards
import Derived.Test.YthgcpelabiigpaaDoorTie
import Derived.Test.YthgcpelabiigpaaDoorShaArgs
import Derived.Test.YthgcpelabiigpaaDoorArgsPt
import Derived.Test.YthgcpelabiigpaaDoorSpSaysWalk
namespace Go.Proofs.YthgcpelabiigpaaDoor.Sha
open Go Go.ChangeShapes Go.WideShapes Go.ChangeAt Go.RowKit

theorem spsays_row {a0 : Option Addr} {len0 cap0 : Nat} {z0 : List Int} {l1 l2 l3 : List UInt8} {n2 n3 : Nat} {W : World} (w0 : IsRow .u8 W a0 len0 cap0 z0) (w1 : l1.length = 32) (w2 : l2.length = 32) (w3 : l3.length = 32) (hL : laidMetH Tryd.prog Rows.spendSaysRow.laid W) :
    Calls Tryd.prog 3 #[.slice a0 len0 cap0, .agg (l1.map bV).toArray, .agg (ptL l2 n2).toArray, .agg (ptL l3 n3).toArray] W fun e w' => e = .returned (.bool true) ∧ Below W.heap.size W w' := by
  obtain ⟨bs, hs⟩ := src_of_row w0
  by_cases h : len0 ≤ 100
  · exact spsays_main bs l1 l2 l3 n2 n3 a0 len0 cap0 W (table hL) hs h w1 w2 w3
  · exact spsays_long a0 len0 cap0 l1 l2 l3 n2 n3 W (table hL) (by omega)
theorem spsays_contract (H : Type) (enc : TypeId × Value → H) (W : World) (base : Nat) (args : Array Value) (ds gs : List (DataW H)) (before : List MemPlace)
    (hval : ∀ (j : Nat) t v, Tryd.f3.params[j]? = some t → args[j]? = some v → Value.okWide Tryd.prog W .any base t v)
    (hW : DataW.Whole enc Tryd.prog Tryd.f3.params.toList Rows.spendSaysSpec.vars false W args.toList ds gs before) (hL : laidMetH Tryd.prog Rows.spendSaysRow.laid W) :
    Calls Tryd.prog 3 args W fun e W' => ∃ v, e = .returned v ∧ Rows.spendSaysSpec.post enc Tryd.prog Tryd.f3 false true false false W args v W' := by
  have hW' := hW
  obtain ⟨p, q, hA0, hV, rfl, hfz, hnd⟩ := hW
  have hA : DataW.TrodAll enc Tryd.prog W 0 (fun _ => true) true Tryd.f3.params.toList args.toList ds p := hA0
  rw [Tryd.params3] at hA hval
  obtain ⟨v0, vs0, d0, ds0, p0, q0, hargs, rfl, rfl, h0, r0⟩ := trodAll_cons hA
  obtain ⟨v1, vs1, d1, ds1, p1, q1, rfl, rfl, rfl, h1, r1⟩ := trodAll_cons r0
  obtain ⟨v2, vs2, d2, ds2, p2, q2, rfl, rfl, rfl, h2, r2⟩ := trodAll_cons r1
  obtain ⟨v3, vs3, d3, ds3, p3, q3, rfl, rfl, rfl, h3, r3⟩ := trodAll_cons r2
  obtain ⟨rfl, rfl, rfl⟩ := trodAll_nil r3
  obtain rfl : args = #[v0, v1, v2, v3] := by cases args; simp_all
  obtain ⟨rfl, rfl⟩ := trodVars_none hV
  obtain ⟨a0, len0, cap0, rfl⟩ := okWide_slice Tryd.underlying22 (hval 0 22 v0 rfl rfl)
  have k0 := h0
  have lt0 : ∀ x ∈ p0, x.block < W.heap.size := by obtain ⟨m, hm⟩ := k0; exact DataW.trod_lt m _ _ _ hm
  obtain ⟨z0, w0⟩ : ∃ zs, IsRow .u8 W a0 len0 cap0 zs := by
    obtain ⟨fuel, hf⟩ := h0
    rcases open_ints Tryd.underlying22 Tryd.underlying5 (by kernel_rfl) hf with ⟨hcs, _⟩ | ⟨x, l, c, zs, hcs, _, hl, hm, hz, _, hcell, hwz⟩
    · simp [Value.cells] at hcs
      obtain ⟨rfl, rfl, rfl⟩ := hcs
      exact ⟨[], .inl ⟨rfl, rfl, rfl, rfl⟩⟩
    · simp [Value.cells] at hcs
      obtain ⟨rfl, rfl, rfl⟩ := hcs
      exact ⟨zs, .inr ⟨_, rfl, hl, hm, by simpa using hz, hcell, hwz⟩⟩
  obtain ⟨l1, w1, rfl⟩ := array_in (hval 1 24 v1 rfl rfl) h1
  have k1 := h1
  have lt1 : ∀ x ∈ p1, x.block < W.heap.size := by obtain ⟨m, hm⟩ := k1; exact DataW.trod_lt m _ _ _ hm
  obtain ⟨l2, n2, w2, rfl⟩ := point_in (hval 2 27 v2 rfl rfl) h2
  have k2 := h2
  have lt2 : ∀ x ∈ p2, x.block < W.heap.size := by obtain ⟨m, hm⟩ := k2; exact DataW.trod_lt m _ _ _ hm
  obtain ⟨l3, n3, w3, rfl⟩ := point_in (hval 3 27 v3 rfl rfl) h3
  have k3 := h3
  have lt3 : ∀ x ∈ p3, x.block < W.heap.size := by obtain ⟨m, hm⟩ := k3; exact DataW.trod_lt m _ _ _ hm
  clear hA0
  have walk := (spsays_row (n2 := n2) (n3 := n3) w0 w1 w2.1 w3.1 hL)
  refine walk.mono fun e W' ⟨he, bel⟩ => ?_
  subst he
  exact ⟨_, rfl, _, _, _, [], _, [], hW', trodAll_mk1 (shut_bool Tryd.underlying4 _), (trodAll_cons_mk (Below.trod laidOut (by kernel_rfl) (of_decide_eq_true (by kernel_rfl)) k0 bel lt0) (trodAll_cons_mk (Below.trod laidOut (by kernel_rfl) (of_decide_eq_true (by kernel_rfl)) k1 bel lt1) (trodAll_cons_mk (Below.trod laidOut (by kernel_rfl) (of_decide_eq_true (by kernel_rfl)) k2 bel lt2) (trodAll_cons_mk (Below.trod laidOut (by kernel_rfl) (of_decide_eq_true (by kernel_rfl)) k3 bel lt3) trodAll_mk0)))), rfl, bel.frame _, fun h => by cases h⟩

theorem spsays_met (os : Os) : laidMet Tryd.prog Rows.spendSaysRow.laid ((laidWorld os).forCall (fun _ _ => 0) ⟨#[], #[.slice none 0 0, .agg (List.replicate 32 (bV 0)).toArray, .agg (ptL (List.replicate 32 0) 0).toArray, .agg (ptL (List.replicate 32 0) 0).toArray], []⟩).memory :=
  laidMet_of_run' 8 (by kernel_rfl) (by kernel_rfl)
theorem spsays_reads (os : Os) {H : Type} (enc : TypeId × Value → H) : ∃ places, DataW.whole enc Tryd.prog ((laidWorld os).forCall (fun _ _ => 0) ⟨#[], #[.slice none 0 0, .agg (List.replicate 32 (bV 0)).toArray, .agg (ptL (List.replicate 32 0) 0).toArray, .agg (ptL (List.replicate 32 0) 0).toArray], []⟩).memory Tryd.f3.params.toList Rows.spendSaysSpec.vars false #[Value.slice none 0 0, Value.agg (List.replicate 32 (bV 0)).toArray, Value.agg (ptL (List.replicate 32 0) 0).toArray, Value.agg (ptL (List.replicate 32 0) 0).toArray].toList 8 = some ([.nil, .agg (List.replicate 32 (.lit (.int .u8 0))), .agg [.agg (List.replicate 32 (.lit (.int .u8 0))), .lit (.int .u32 0)], .agg [.agg (List.replicate 32 (.lit (.int .u8 0))), .lit (.int .u32 0)]], [], places) :=
  ⟨[], by kernel_rfl⟩

set_option maxRecDepth 100000 in
theorem spsays_lifted (os : Os) (started : os.Started) (H : Type) (enc : TypeId × Value → H) (F : Stop.Interp) :
    ReturnsInHanded {} Tryd.checked os 3 .any ((OpenSpec.ofChange Rows.spendSaysSpec).preRow enc Tryd.prog Tryd.f3 Rows.spendSaysRow.domain false Rows.spendSaysRow.laid) (((OpenSpec.ofChange Rows.spendSaysSpec).at F).post enc Tryd.prog Tryd.f3 false true false false) := by
  obtain ⟨places, hx⟩ := spsays_reads os enc
  refine returnsInHanded_of_row (C := Tryd.checked) (s := OpenSpec.ofChange Rows.spendSaysSpec) own started (by kernel_rfl) Tryd.func3
    (witness_row_at (enc := enc) (C := Tryd.checked) false (laidWorld os) #[.slice none 0 0, .agg (List.replicate 32 (bV 0)).toArray, .agg (ptL (List.replicate 32 0) 0).toArray, .agg (ptL (List.replicate 32 0) 0).toArray] rfl (by kernel_rfl) (by kernel_rfl) (by kernel_rfl)
      (OpenSpec.preRow_of_cond 8 hx (by kernel_rfl) (fun k hk => by cases hk) (by kernel_rfl) (spsays_met os))) ?_
  intro W base args ds gs before hval hW _ _ _ hL _ _
  exact spsays_contract H enc W base args ds gs before hval hW hL

theorem spsays_said : Rows.SpendSaysSaid :=
  OpenClaim.holds_of_cond 3 Tryd.f3 rfl rfl rfl rfl rfl rfl rfl ⟨rfl, rfl, rfl, rfl, rfl⟩ rfl rfl rfl rfl rfl (by kernel_rfl) Tryd.func3 (by kernel_rfl)
    (of_decide_eq_true (by kernel_rfl)) (by unfold Func.isWrapper; first | (rw [if_pos (by decide +kernel)]; kernel_rfl) | (rw [if_neg (by decide +kernel)]; exact ⟨rfl, rfl⟩))
    (fun os started H enc _ F => by rw [OpenClaim.pre_eq_preRow]; exact spsays_lifted os started H enc F)

theorem spsays_plain (f : FuncId) (fn : Func) (hf : Tryd.pinned.checked.prog.funcNamed "sargasso/sargassolaw3.SpendSays" = some f) (hfn : Tryd.pinned.checked.prog.funcs[f]? = some fn) :
    false = Tryd.pinned.checked.prog.looks [] ∧ ∀ (j : Nat) t, fn.params[j]? = some t → Tryd.pinned.checked.prog.wantsStandIn t = false := by
  obtain rfl : f = 3 := Option.some.inj ((show Tryd.prog.funcNamed "sargasso/sargassolaw3.SpendSays" = some 3 by kernel_rfl).symm.trans hf) |>.symm
  obtain rfl : fn = Tryd.f3 := (Option.some.inj (Tryd.func3.symm.trans hfn)).symm
  refine ⟨by kernel_rfl, fun j t ht => ?_⟩
  rw [Tryd.params3] at ht
  have hm : t ∈ [22, 24, 27, 27] := by simpa using Array.mem_of_getElem? ht
  have hall : ([22, 24, 27, 27].all fun u => !Tryd.prog.wantsStandIn u) = true := by kernel_rfl
  exact (show Tryd.prog.wantsStandIn t = false by simpa using List.all_eq_true.1 hall t hm)
/-- THE CARD. -/
theorem spsays_card : Rows.SpendSaysCardSaid :=
  Claim7.holds_tied_plain_at .later [] _ _ _ _ spsays_said (fun _ h => by cases h) (by kernel_rfl) (fun _ h => by cases h) spendSays_row_tie rfl ⟨rfl, rfl⟩ (by kernel_rfl) rfl spsays_plain (by kernel_rfl)
end Go.Proofs.YthgcpelabiigpaaDoor.Sha
