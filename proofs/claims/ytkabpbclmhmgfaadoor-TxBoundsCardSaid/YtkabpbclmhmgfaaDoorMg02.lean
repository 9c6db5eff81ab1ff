/-
  Texts of this proof joined into one file: Errs, ErrAll, ArgsHash, Pt, ArgsPt, TxData, TxMath, ArgsTx. What each holds, and under which conditions, its own first sentence tells.
-/
import Derived.LaidEql
import Derived.Deep.DeepFit
import Derived.Stop.LaidErr
import Derived.Deep.MidRow
import Derived.Stop.BytesEq
import Derived.Deep.Slices
import Derived.Test.YtkabpbclmhmgfaaDoorMg01
import Derived.Test.YtkabpbclmhmgfaaDoorRows
/-
  The statements' own sight of errors: package api's errors are told apart; an error as plain data; whether an error is the one of a number. Conditions: the errors are there, each its own.
-/
namespace Go.Proofs.YtkabpbclmhmgfaaDoor.Sha
open Go Go.RowKit

/-- Where package api's errors stand, in their order. -/
def errG : List Nat := [7, 6, 1, 0, 3, 4, 5, 9, 10, 11, 12, 13, 14, 2, 15, 16, 17, 18, 19, 20, 21, 22, 23, 24, 25]
/-- All errors of package api are there, each its own. -/
def Errs (w : World) (E : Nat → Addr) : Prop :=
  (∀ i, i < 25 → w.cell? ⟨errG.getD i 0, 0, none⟩ = some (errV E (i + 1)) ∧ ∃ c t, w.heap[(E i).block]? = some (.cells c t (0, 0))) ∧ ∀ i j, i < 25 → j < 25 → E i = E j → i = j
theorem Errs.below {w w' : World} {E : Nat → Addr} (h : Errs w E) (hb : Below w.heap.size w w') : Errs w' E := by
  refine ⟨fun i hi => ?_, h.2⟩
  obtain ⟨h1, c, t, h2⟩ := h.1 i hi
  refine ⟨?_, c, t, ?_⟩
  · rw [hb.cell (p := ⟨errG.getD i 0, 0, none⟩) (World.block_lt_of_cell? w _ h1)]
    exact h1
  · rw [hb.block _ (Array.getElem?_eq_some_iff.1 h2).1]
    exact h2
theorem Errs.er {w : World} {E : Nat → Addr} (h : Errs w E) : Er w E := ⟨(h.1 0 (by omega)).1, (h.1 1 (by omega)).1, (h.1 3 (by omega)).1⟩
theorem Er.lt {w : World} {E : Nat → Addr} {r : Nat} (h : Er w E) (hr : w.heap.size ≤ r) : 7 ≠ r ∧ 6 ≠ r ∧ 0 ≠ r := by
  have h1 : 7 < w.heap.size := World.block_lt_of_cell? w _ h.1
  have h2 : 6 < w.heap.size := World.block_lt_of_cell? w _ h.2.1
  have h3 : 0 < w.heap.size := World.block_lt_of_cell? w _ h.2.2
  exact ⟨by omega, by omega, by omega⟩

theorem info_err : (Tryd.prog.info? 133).map (·.comparable) = some true := by kernel_rfl
theorem eql_same (a : Addr) (W : World) : (binOp .eql 40 (.iface 133 (.pointer (some a))) (.iface 133 (.pointer (some a)))).run Tryd.prog W = .ok (.bool true) W := by
  obtain ⟨i, hi, hc⟩ := Option.map_eq_some_iff.1 info_err
  obtain ⟨j, hj, hs⟩ := Option.map_eq_some_iff.1 (show (Tryd.prog.info? 150).map (·.size) = some 1 by kernel_rfl)
  exact run_eql_iface_ptr_same W a Tryd.underlying40 Tryd.underlying133 hi hc hj
theorem eql_other {a b : Addr} {W : World} (hne : a ≠ b) (ha : ∃ c t, W.heap[a.block]? = some (.cells c t (0, 0))) (hb : ∃ c t, W.heap[b.block]? = some (.cells c t (0, 0))) :
    (binOp .eql 40 (.iface 133 (.pointer (some a))) (.iface 133 (.pointer (some b)))).run Tryd.prog W = .ok (.bool false) W := by
  obtain ⟨i, hi, hc⟩ := Option.map_eq_some_iff.1 info_err
  obtain ⟨j, hj, hs⟩ := Option.map_eq_some_iff.1 (show (Tryd.prog.info? 150).map (·.size) = some 1 by kernel_rfl)
  obtain ⟨ca, ta, ha⟩ := ha
  obtain ⟨cb, tb, hb⟩ := hb
  exact run_eql_iface_ptr_other W Tryd.underlying40 Tryd.underlying133 hi hc hj (by omega) hne ha hb
set_option maxRecDepth 100000 in
/-- Two of the errors: the same only if they are one. -/
theorem alike_err (E : Nat → Addr) (i j : Nat) (b : Bool) (w : World) (hE : Errs w E) (hi : i < 25) (hj : j < 25) (hb : b = decide (i = j)) :
    Calls Tryd.prog 96 #[errV E (i + 1), errV E (j + 1)] w fun e w' => e = .returned (.bool b) ∧ w = w' := by
  have hq : (binOp .eql 40 (.iface 133 (.pointer (some (E i)))) (.iface 133 (.pointer (some (E j))))).run Tryd.prog w = .ok (.bool b) w := by
    by_cases h : i = j
    · subst h
      rw [hb, decide_eq_true rfl]
      exact eql_same _ _
    · rw [hb, decide_eq_false h]
      exact eql_other (fun e => h (hE.2 i j hi hj e)) (hE.1 i hi).2 (hE.1 j hj).2
  show Calls Tryd.prog 96 #[.iface 133 (.pointer (some (E i))), .iface 133 (.pointer (some (E j)))] w _
  obtain ⟨a1, h1⟩ : ∃ a1, a1 = E i := ⟨_, rfl⟩
  obtain ⟨a2, h2⟩ : ∃ a2, a2 = E j := ⟨_, rfl⟩
  rw [← h1, ← h2] at hq ⊢
  clear h1 h2 hE hi hj hb
  go_enter Tryd.func96, Tryd.ntmps96
  go_wp2
  go_ret
  exact ⟨rfl, rfl⟩

/-- The list of the errors. -/
def errL (E : Nat → Addr) : List Value := [.iface 133 (.pointer (some (E 0))), .iface 133 (.pointer (some (E 1))), .iface 133 (.pointer (some (E 2))), .iface 133 (.pointer (some (E 3))), .iface 133 (.pointer (some (E 4))), .iface 133 (.pointer (some (E 5))), .iface 133 (.pointer (some (E 6))), .iface 133 (.pointer (some (E 7))), .iface 133 (.pointer (some (E 8))), .iface 133 (.pointer (some (E 9))), .iface 133 (.pointer (some (E 10))), .iface 133 (.pointer (some (E 11))), .iface 133 (.pointer (some (E 12))), .iface 133 (.pointer (some (E 13))), .iface 133 (.pointer (some (E 14))), .iface 133 (.pointer (some (E 15))), .iface 133 (.pointer (some (E 16))), .iface 133 (.pointer (some (E 17))), .iface 133 (.pointer (some (E 18))), .iface 133 (.pointer (some (E 19))), .iface 133 (.pointer (some (E 20))), .iface 133 (.pointer (some (E 21))), .iface 133 (.pointer (some (E 22))), .iface 133 (.pointer (some (E 23))), .iface 133 (.pointer (some (E 24)))]
theorem errL_get (E : Nat → Addr) : ∀ i, i < 25 → (errL E).toArray[i]? = some (errV E (i + 1)) := by
  intro i hi
  have h : i = 0 ∨ i = 1 ∨ i = 2 ∨ i = 3 ∨ i = 4 ∨ i = 5 ∨ i = 6 ∨ i = 7 ∨ i = 8 ∨ i = 9 ∨ i = 10 ∨ i = 11 ∨ i = 12 ∨ i = 13 ∨ i = 14 ∨ i = 15 ∨ i = 16 ∨ i = 17 ∨ i = 18 ∨ i = 19 ∨ i = 20 ∨ i = 21 ∨ i = 22 ∨ i = 23 ∨ i = 24 := by omega
  rcases h with rfl | rfl | rfl | rfl | rfl | rfl | rfl | rfl | rfl | rfl | rfl | rfl | rfl | rfl | rfl | rfl | rfl | rfl | rfl | rfl | rfl | rfl | rfl | rfl | rfl <;> rfl
set_option maxRecDepth 100000 in
set_option maxHeartbeats 1000000 in
theorem sentinels_any (E : Nat → Addr) (w : World) (hE : Errs w E) :
    Calls Tryd.prog 95 #[] w fun e w' => e = .returned (.slice (some ⟨w.heap.size, 0, none⟩) 25 25) ∧ w'.heap[w.heap.size]? = some (.cells (errL E).toArray 40 (0, 0)) ∧ Below w.heap.size w w' := by
  have c0 : w.cell? ⟨7, 0, none⟩ = some (.iface 133 (.pointer (some (E 0)))) := (hE.1 0 (by omega)).1
  have c1 : w.cell? ⟨6, 0, none⟩ = some (.iface 133 (.pointer (some (E 1)))) := (hE.1 1 (by omega)).1
  have c2 : w.cell? ⟨1, 0, none⟩ = some (.iface 133 (.pointer (some (E 2)))) := (hE.1 2 (by omega)).1
  have c3 : w.cell? ⟨0, 0, none⟩ = some (.iface 133 (.pointer (some (E 3)))) := (hE.1 3 (by omega)).1
  have c4 : w.cell? ⟨3, 0, none⟩ = some (.iface 133 (.pointer (some (E 4)))) := (hE.1 4 (by omega)).1
  have c5 : w.cell? ⟨4, 0, none⟩ = some (.iface 133 (.pointer (some (E 5)))) := (hE.1 5 (by omega)).1
  have c6 : w.cell? ⟨5, 0, none⟩ = some (.iface 133 (.pointer (some (E 6)))) := (hE.1 6 (by omega)).1
  have c7 : w.cell? ⟨9, 0, none⟩ = some (.iface 133 (.pointer (some (E 7)))) := (hE.1 7 (by omega)).1
  have c8 : w.cell? ⟨10, 0, none⟩ = some (.iface 133 (.pointer (some (E 8)))) := (hE.1 8 (by omega)).1
  have c9 : w.cell? ⟨11, 0, none⟩ = some (.iface 133 (.pointer (some (E 9)))) := (hE.1 9 (by omega)).1
  have c10 : w.cell? ⟨12, 0, none⟩ = some (.iface 133 (.pointer (some (E 10)))) := (hE.1 10 (by omega)).1
  have c11 : w.cell? ⟨13, 0, none⟩ = some (.iface 133 (.pointer (some (E 11)))) := (hE.1 11 (by omega)).1
  have c12 : w.cell? ⟨14, 0, none⟩ = some (.iface 133 (.pointer (some (E 12)))) := (hE.1 12 (by omega)).1
  have c13 : w.cell? ⟨2, 0, none⟩ = some (.iface 133 (.pointer (some (E 13)))) := (hE.1 13 (by omega)).1
  have c14 : w.cell? ⟨15, 0, none⟩ = some (.iface 133 (.pointer (some (E 14)))) := (hE.1 14 (by omega)).1
  have c15 : w.cell? ⟨16, 0, none⟩ = some (.iface 133 (.pointer (some (E 15)))) := (hE.1 15 (by omega)).1
  have c16 : w.cell? ⟨17, 0, none⟩ = some (.iface 133 (.pointer (some (E 16)))) := (hE.1 16 (by omega)).1
  have c17 : w.cell? ⟨18, 0, none⟩ = some (.iface 133 (.pointer (some (E 17)))) := (hE.1 17 (by omega)).1
  have c18 : w.cell? ⟨19, 0, none⟩ = some (.iface 133 (.pointer (some (E 18)))) := (hE.1 18 (by omega)).1
  have c19 : w.cell? ⟨20, 0, none⟩ = some (.iface 133 (.pointer (some (E 19)))) := (hE.1 19 (by omega)).1
  have c20 : w.cell? ⟨21, 0, none⟩ = some (.iface 133 (.pointer (some (E 20)))) := (hE.1 20 (by omega)).1
  have c21 : w.cell? ⟨22, 0, none⟩ = some (.iface 133 (.pointer (some (E 21)))) := (hE.1 21 (by omega)).1
  have c22 : w.cell? ⟨23, 0, none⟩ = some (.iface 133 (.pointer (some (E 22)))) := (hE.1 22 (by omega)).1
  have c23 : w.cell? ⟨24, 0, none⟩ = some (.iface 133 (.pointer (some (E 23)))) := (hE.1 23 (by omega)).1
  have c24 : w.cell? ⟨25, 0, none⟩ = some (.iface 133 (.pointer (some (E 24)))) := (hE.1 24 (by omega)).1
  clear hE
  go_enter Tryd.func95, Tryd.ntmps95
  go_wp2
  go_ret
  exact ⟨rfl, by rw [heap_alloc_new]; rfl, (Below.refl _ _).alloc (Nat.le_refl _) _⟩
def SnInv (E : Nat → Addr) (q : Nat) (w : World) (vi : Value) (wr : World) : Prop := ∃ k : Nat, k ≤ q ∧ vi = .int .i64 k ∧ wr.heap[w.heap.size]? = some (.cells (errL E).toArray 40 (0, 0)) ∧ Below w.heap.size w wr
set_option maxRecDepth 100000 in
/-- The number of an error. -/
theorem sentinel_any (E : Nat → Addr) (q : Nat) (kk : Int) (hkk : kk = ((101 + q : Nat) : Int)) (w : World) (hE : Errs w E) (hq : q < 25) :
    Calls Tryd.prog 87 #[errV E (q + 1)] w fun e w' => e = .returned (.int .i64 kk) ∧ Below w.heap.size w w' := by
  have HE := Lib.hid hE
  have HKK := Lib.hid hkk
  clear hE hkk
  show Calls Tryd.prog 87 #[.iface 133 (.pointer (some (E q)))] w _
  go_enter Tryd.func87, Tryd.ntmps87
  go_wp2_with fail
  refine (sentinels_any E _ HE.out).mono ?_
  rintro e w1 ⟨rfl, h1, hb1⟩
  have H1 := Lib.hid h1
  have B1 := Lib.hid hb1
  clear h1 hb1
  go_wp2_with fail
  go_loopw [4] (fun vi wr => SnInv E q w vi wr) (fun vi _ => 25 - (intOf vi).toNat)
  case atStart => exact ⟨0, by omega, rfl, H1.out, B1.out⟩
  case round =>
    clear H1 B1
    obtain ⟨k, hk, rfl, h1, hb⟩ := hrel
    have ck : wr.cell? ⟨w.heap.size, k, none⟩ = some (errV E (k + 1)) := by rw [cell_of_row _ _ _ _ _ _ h1]; exact errL_get E k (by omega)
    have H1 := Lib.hid h1
    have HB := Lib.hid hb
    clear h1 hb
    have hlt : (k : Int) < 25 := by omega
    by_cases hkq : k = q
    · have hb : true = decide (q = k) := (decide_eq_true hkq.symm).symm
      have HA := Lib.hid (alike_err E q k true wr (HE.out.below HB.out) hq (by omega) hb)
      have HQ : Hid (101 + (k : Int) = kk) := by show _ = _; rw [HKK.out]; omega
      clear hkq hb
      go_wp2_with fail
      refine HA.out.mono ?_
      rintro e w' ⟨rfl, rfl⟩
      go_wp2_with fail
      go_ret
      exact ⟨ret_int HQ.out, HB.out⟩
    · have hb : false = decide (q = k) := (decide_eq_false (fun e => hkq e.symm)).symm
      have HA := Lib.hid (alike_err E q k false wr (HE.out.below HB.out) hq (by omega) hb)
      have hk2 : k + 1 ≤ q := by omega
      clear hkq hb
      go_wp2_with fail
      refine HA.out.mono ?_
      rintro e w' ⟨rfl, rfl⟩
      go_wp2_with fail
      go_roundw
      case rel => exact ⟨k + 1, hk2, by go_num, H1.out, HB.out⟩
      case measure => simp [intOf]; omega
end Go.Proofs.YtkabpbclmhmgfaaDoor.Sha

/-
  What a row that lists 25 errors of package api gives: each is there, each its own; a start that fits. No conditions.
-/
namespace Go.Proofs.YtkabpbclmhmgfaaDoor.Sha
open Go Go.ChangeShapes Go.WideShapes Go.ChangeAt Go.RowKit

/-- The listed errors: name, place, text. -/
def errAllList : List (String × Nat × List UInt8) := [("sargasso/api.ErrEnd", 7, [105, 116, 32, 101, 110, 100, 115, 32, 116, 111, 111, 32, 101, 97, 114, 108, 121]), ("sargasso/api.ErrShape", 6, [110, 111, 116, 32, 97, 115, 32, 105, 116, 32, 104, 97, 115, 32, 116, 111, 32, 98, 101]), ("sargasso/api.ErrLong", 1, [116, 111, 111, 32, 108, 111, 110, 103]), ("sargasso/api.ErrMany", 0, [116, 111, 111, 32, 109, 97, 110, 121, 44, 32, 111, 114, 32, 116, 111, 111, 32, 102, 101, 119]), ("sargasso/api.ErrValue", 3, [97, 110, 32, 97, 109, 111, 117, 110, 116, 32, 116, 104, 97, 116, 32, 99, 97, 110, 39, 116, 32, 98, 101]), ("sargasso/api.ErrTwice", 4, [111, 110, 101, 32, 116, 104, 105, 110, 103, 32, 116, 119, 105, 99, 101]), ("sargasso/api.ErrBase", 5, [110, 111, 32, 102, 105, 114, 115, 116, 32, 116, 114, 97, 110, 115, 97, 99, 116, 105, 111, 110, 32, 119, 104, 101, 114, 101, 32, 116, 104, 101, 114, 101, 32, 104, 97, 115, 32, 116, 111, 32, 98, 101, 32, 111, 110, 101, 44, 32, 111, 114, 32, 111, 110, 101, 32, 119, 104, 101, 114, 101, 32, 116, 104, 101, 114, 101, 32, 109, 97, 121, 32, 98, 101, 32, 110, 111, 110, 101]), ("sargasso/api.ErrRoot", 9, [97, 32, 114, 111, 111, 116, 32, 116, 104, 97, 116, 32, 100, 111, 101, 115, 32, 110, 111, 116, 32, 102, 105, 116]), ("sargasso/api.ErrKnown", 10, [107, 110, 111, 119, 110, 32, 97, 108, 114, 101, 97, 100, 121]), ("sargasso/api.ErrParent", 11, [110, 111, 32, 115, 117, 99, 104, 32, 112, 97, 114, 101, 110, 116]), ("sargasso/api.ErrInvalid", 12, [98, 101, 104, 105, 110, 100, 32, 119, 104, 97, 116, 32, 105, 115, 32, 110, 111, 116, 32, 118, 97, 108, 105, 100]), ("sargasso/api.ErrTime", 13, [97, 32, 116, 105, 109, 101, 32, 116, 104, 97, 116, 32, 105, 115, 32, 116, 111, 111, 32, 101, 97, 114, 108, 121]), ("sargasso/api.ErrMissing", 14, [97, 32, 99, 111, 105, 110, 32, 116, 104, 97, 116, 32, 105, 115, 32, 110, 111, 116, 32, 116, 104, 101, 114, 101]), ("sargasso/api.ErrKey", 2, [97, 32, 107, 101, 121, 32, 116, 104, 97, 116, 32, 100, 111, 101, 115, 32, 110, 111, 116, 32, 102, 105, 116]), ("sargasso/api.ErrYoung", 15, [97, 32, 99, 111, 105, 110, 32, 116, 104, 97, 116, 32, 105, 115, 32, 116, 111, 111, 32, 121, 111, 117, 110, 103]), ("sargasso/api.ErrEarly", 16, [116, 111, 111, 32, 101, 97, 114, 108, 121, 32, 116, 111, 32, 98, 101, 32, 116, 97, 107, 101, 110]), ("sargasso/api.ErrLess", 17, [108, 101, 115, 115, 32, 99, 111, 109, 101, 115, 32, 105, 110, 32, 116, 104, 97, 110, 32, 103, 111, 101, 115, 32, 111, 117, 116]), ("sargasso/api.ErrReward", 18, [109, 111, 114, 101, 32, 116, 104, 97, 110, 32, 116, 104, 101, 32, 114, 101, 119, 97, 114, 100]), ("sargasso/api.ErrClash", 19, [97, 32, 99, 111, 105, 110, 32, 116, 104, 97, 116, 32, 105, 115, 32, 115, 112, 101, 110, 116, 32, 105, 110, 32, 116, 104, 101, 32, 112, 111, 111, 108]), ("sargasso/api.ErrLimit", 20, [116, 111, 111, 32, 109, 97, 110, 121, 32, 116, 104, 97, 116, 32, 104, 97, 110, 103, 32, 116, 111, 103, 101, 116, 104, 101, 114]), ("sargasso/api.ErrFull", 21, [116, 104, 101, 114, 101, 32, 105, 115, 32, 110, 111, 32, 114, 111, 111, 109]), ("sargasso/api.ErrRange", 22, [97, 32, 110, 117, 109, 98, 101, 114, 32, 111, 117, 116, 32, 111, 102, 32, 105, 116, 115, 32, 114, 97, 110, 103, 101]), ("sargasso/api.ErrNone", 23, [116, 104, 101, 114, 101, 32, 105, 115, 32, 110, 111, 110, 101]), ("sargasso/api.ErrWord", 24, [110, 111, 32, 115, 117, 99, 104, 32, 119, 111, 114, 100]), ("sargasso/api.ErrNumber", 25, [110, 111, 116, 32, 97, 32, 110, 117, 109, 98, 101, 114])]
def errAllRow (x : String × Nat × List UInt8) : String × DataW Unit := (x.1, .iface "*errors.errorString" (.ptr (.agg [.lit (.string x.2.2)])))
theorem errAll_laid : Rows.txBackRow.laid = errAllList.map errAllRow := rfl
theorem errAll_globals : (errAllList.all fun x => decide (Tryd.prog.globalNamed x.1 = some x.2.1) && decide ((Tryd.prog.globals[x.2.1]?).map (·.type) = some 40)) = true := by kernel_rfl
theorem errAll_star : "*" ++ "errors.errorString" = "*errors.errorString" := by decide
theorem errAll_ptr (u : TypeId) (h : Tryd.prog.typeName? 3 u = some "*errors.errorString") : u = 133 :=
  typeName_ptr_named (nm := "errors.errorString") (by rw [errAll_star]; kernel_rfl) (by kernel_rfl) (by decide) u (by rw [errAll_star]; exact h)
theorem errAll_cells : Tryd.prog.cellsOf 150 = 1 := by kernel_rfl
theorem errAll_cellsStr : Tryd.prog.cellsOf 9 = 1 := by kernel_rfl
def errAllIs (W : World) (x : String × Nat × List UInt8) (a : Addr) : Prop :=
  W.cell? ⟨x.2.1, 0, none⟩ = some (.iface 133 (.pointer (some a))) ∧ (∃ s, W.cell? a = some (.string s) ∧ s.data.toList = x.2.2) ∧ ∃ c t, W.heap[a.block]? = some (.cells c t (0, 0))
set_option maxRecDepth 100000 in
theorem errAll_head {W : World} {x : String × Nat × List UInt8} {r : List (String × DataW Unit)} (hg : Tryd.prog.globalNamed x.1 = some x.2.1) (ht : (Tryd.prog.globals[x.2.1]?).map (·.type) = some 40) (h : laidMet Tryd.prog (errAllRow x :: r) W) : ∃ a, errAllIs W x a := by
  obtain ⟨a, s, h1, h2, h3, _⟩ := laid_sentinel h hg ht Tryd.underlying40 errAll_ptr Tryd.underlying133 Tryd.underlying150 rfl rfl Tryd.underlying9 errAll_cells errAll_cellsStr
  refine ⟨a, by simpa using World.var?_cell hg h1 0, ⟨s, h2, h3⟩, ?_⟩
  obtain ⟨ps, ⟨g0, t0, cs0, f0, p0, q0, hg0, ht0, hv0, hd0, _, e0⟩, _, hrows⟩ := h
  obtain rfl := Option.some.inj (hg.symm.trans hg0)
  obtain rfl := Option.some.inj (ht.symm.trans ht0)
  subst e0
  obtain ⟨l0⟩ := cs0
  have ok0 : ∀ u v, l0 = [.iface u v] → Value.okWide Tryd.prog W .any 0 u v := fun u v e => by
    subst e
    exact (hrows x.2.1 0 (by simp [MemPlace.row])).2 u v (by simpa using World.var?_cell hg hv0 0)
  obtain ⟨a0, s0, rfl, hc0, hs0, hz0, rfl⟩ := errorString_of_trod Tryd.underlying40 errAll_ptr Tryd.underlying133 Tryd.underlying150 rfl rfl Tryd.underlying9 errAll_cells errAll_cellsStr hd0 ok0
  have ea : a0 = a := by
    have := h1.symm.trans hv0
    simp at this
    exact this.symm
  rw [← ea]
  exact (hrows a0.block a0.off (by simp [MemPlace.row])).1
theorem errAll_all {W : World} (rest : List (String × DataW Unit)) : ∀ l : List (String × Nat × List UInt8), (∀ x ∈ l, Tryd.prog.globalNamed x.1 = some x.2.1 ∧ (Tryd.prog.globals[x.2.1]?).map (·.type) = some 40) → laidMet Tryd.prog (l.map errAllRow ++ rest) W → (∃ E : Nat → Addr, ∀ i x, l[i]? = some x → errAllIs W x (E i)) ∧ laidMet Tryd.prog rest W
  | [], _, h => ⟨⟨fun _ => ⟨0, 0, none⟩, fun i x h => by simp at h⟩, h⟩
  | x :: l, hg, h => by
    obtain ⟨⟨E, hE⟩, hrest⟩ := errAll_all rest l (fun y hy => hg y (List.mem_cons_of_mem _ hy)) (laidMet.tail h)
    obtain ⟨a, ha⟩ := errAll_head (hg x List.mem_cons_self).1 (hg x List.mem_cons_self).2 h
    refine ⟨⟨fun i => match i with | 0 => a | k + 1 => E k, fun i y hy => ?_⟩, hrest⟩
    cases i with
    | zero => simp at hy; subst hy; exact ha
    | succ k => exact hE k y (by simpa using hy)
theorem errAll_inj : ∀ i j : Fin 25, (errAllList.map (·.2.2)).getD i.val [] = (errAllList.map (·.2.2)).getD j.val [] → i = j := by decide +kernel
set_option maxRecDepth 100000 in
theorem errAll_errs {W : World} (h : laidMetH Tryd.prog Rows.txBackRow.laid W) : ∃ E, Errs W E := by
  have h' : laidMet Tryd.prog (errAllList.map errAllRow ++ []) W := h
  obtain ⟨⟨E, hE⟩, _⟩ := errAll_all _ errAllList (fun x hx => by
    have := List.all_eq_true.1 errAll_globals x hx
    simp only [Bool.and_eq_true, decide_eq_true_eq] at this
    exact this) h'
  have hl : errAllList.length = 25 := rfl
  have get : ∀ i (hi : i < 25), errAllIs W (errAllList[i]'(by rw [hl]; exact hi)) (E i) := fun i hi => hE i _ (List.getElem?_eq_getElem (by rw [hl]; exact hi))
  refine ⟨E, fun i hi => ?_, fun i j hi hj e => ?_⟩
  · obtain ⟨h1, _, h3⟩ := get i hi
    refine ⟨?_, h3⟩
    have eg : errG.getD i 0 = (errAllList[i]'(by rw [hl]; exact hi)).2.1 := by
      have : errG = errAllList.map (·.2.1) := rfl
      rw [this]
      simp [List.getD, List.getElem?_eq_getElem (show i < errAllList.length by rw [hl]; exact hi)]
    rw [eg]
    exact h1
  · obtain ⟨_, ⟨s, hs, ht⟩, _⟩ := get i hi
    obtain ⟨_, ⟨s', hs', ht'⟩, _⟩ := get j hj
    rw [e] at hs
    have es := Option.some.inj (hs.symm.trans hs')
    simp at es
    rw [es] at ht
    have := errAll_inj ⟨i, hi⟩ ⟨j, hj⟩ (by
      simp only [List.getD, List.getElem?_map]
      rw [List.getElem?_eq_getElem (show i < errAllList.length by rw [hl]; exact hi), List.getElem?_eq_getElem (show j < errAllList.length by rw [hl]; exact hj)]
      exact ht.symm.trans ht')
    exact congrArg Fin.val this
/-- A WORLD FOR THE WITNESS: the settled one, each listed error as its initialiser lays it. -/
noncomputable def errAllLow : Nat := (World.holding Tryd.prog default ⟨#[], #[], []⟩).heap.size
noncomputable def errAllWorld (os : Os) : World :=
  let w0 := World.holding Tryd.prog os ⟨(errAllList.map fun x => Obj.cells #[.string ⟨x.2.2.toArray⟩] 150).toArray, #[], []⟩
  { w0 with heap := (errAllList.zipIdx).foldl (fun h x => h.modify x.1.2.1 fun
      | .cells _ t frozen => .cells #[.iface 133 (.pointer (some ⟨errAllLow + x.2, 0, none⟩))] t frozen
      | o => o) w0.heap }
end Go.Proofs.YtkabpbclmhmgfaaDoor.Sha

/-
  How a digest that came in by value reads. No conditions.
-/
namespace Go.Proofs.YtkabpbclmhmgfaaDoor.Sha
open Go Go.ChangeShapes Go.WideShapes Go.ChangeAt Go.RowKit

/-- A digest's cells. -/
theorem hash_cells {H : Type} {enc : TypeId × Value → H} {W : World} {fuel : Nat} {cs : List Value} {x : DataW H × List MemPlace} (hf : DataW.trod enc Tryd.prog W 0 (fun _ => true) true fuel 35 cs = some x) :
    ∃ bs : List UInt8, bs.length = 32 ∧ cs = bs.map bV := by
  have c5 : Tryd.prog.cellsOf 5 = 1 := by kernel_rfl
  have c25 : Tryd.prog.cellsOf 35 = 32 := by kernel_rfl
  obtain ⟨xs, m, _, _, hlen, hxl, hel⟩ := DataW.trod_array Tryd.underlying35 hf
  rw [c25] at hlen
  have each : ∀ i (hi : i < cs.length), bV (UInt8.ofNat (intOf (cs[i])).toNat) = cs[i] := by
    intro i hi
    have h1 := hel i (by omega)
    rw [c5, Nat.mul_one, List.getElem?_eq_getElem (show i < xs.length by omega)] at h1
    obtain ⟨n, hn, _, hw⟩ := DataW.trod_int Tryd.underlying5 h1
    have h2 : cs[i]? = some (.int .u8 n) := by
      have := congrArg (·[0]?) hn
      simpa [List.getElem?_take, List.getElem?_drop] using this
    rw [List.getElem?_eq_getElem hi] at h2
    rw [Option.some.inj h2]
    show Value.int .u8 (bv (UInt8.ofNat n.toNat)) = _
    rw [byte_of hw]
  refine ⟨cs.map fun v => UInt8.ofNat (intOf v).toNat, by rw [List.length_map, hlen], ?_⟩
  rw [List.map_map]
  apply List.ext_getElem (by simp)
  intro i h1 h2
  simp only [List.getElem_map, Function.comp]
  exact (each i h1).symm
set_option maxRecDepth 100000 in
/-- A digest by value. -/
theorem array_in {H : Type} {enc : TypeId × Value → H} {W : World} {base : Nat} {v : Value} {d : DataW H} {p : List MemPlace} (hok : Value.okWide Tryd.prog W .any base 35 v) (h : DataW.Trod enc Tryd.prog W 0 (fun _ => true) true 35 v d p) :
    ∃ bs : List UInt8, bs.length = 32 ∧ v = .agg (bs.map bV).toArray := by
  simp only [Value.okWide, Tryd.underlying35] at hok
  obtain ⟨cs, rfl, _, _⟩ := hok
  obtain ⟨fuel, hf⟩ := h
  have hcells : (Value.agg cs).cells.toList = cs.toList := rfl
  rw [hcells] at hf
  obtain ⟨bs, hb, hcs⟩ := hash_cells hf
  exact ⟨bs, hb, by rw [← hcs, Array.toArray_toList]⟩
end Go.Proofs.YtkabpbclmhmgfaaDoor.Sha

/-
  A place (api.Point) as the model has it: 32 bytes and a number, 33 cells; how two are held against each other. Conditions: digests of 32 bytes.
-/
namespace Go.Proofs.YtkabpbclmhmgfaaDoor.Sha
open Go Go.RowKit

/-- A number of 32 bits as a cell. -/
def nV (n : Nat) : Value := .int .u32 (n : Int)
/-- A place: its transaction's digest, its number. -/
def ptL (h : List UInt8) (n : Nat) : List Value := h.map bV ++ [nV n]
theorem ptL_length (h : List UInt8) (n : Nat) : (ptL h n).length = h.length + 1 := by simp [ptL]
theorem ptL_size (h : List UInt8) (n : Nat) (hh : h.length = 32) : (ptL h n).toArray.size = 33 := by simp [ptL, hh]
theorem ptL_one' (h : List UInt8) (n : Nat) : ∀ v ∈ ptL h n, v.oneCell' = true := by
  intro v hv
  rcases List.mem_append.1 hv with h1 | h1
  · exact bV_one' h v h1
  · obtain rfl : v = nV n := by simpa using h1
    rfl
theorem ptL_one (h : List UInt8) (n : Nat) : (ptL h n).toArray.all (·.oneCell') = true := all_oneCell_toArray (ptL_one' h n)
theorem bV_nat (x : UInt8) : (x.toNat : Int) = bv x := rfl
theorem bV_cell : (fun x : UInt8 => Extern.Stop.cell x) = bV := rfl
/-- The digest lies at the place's head. -/
theorem pt_hash {w : World} {g : Nat} {h : List UInt8} {n : Nat} {T : TypeId} {fr : Nat × Nat} (hg : w.heap[g]? = some (.cells (ptL h n).toArray T fr)) : w.rangeAt g 0 (h.map bV) := fun j v hv => by
  rw [Nat.zero_add, cell_of_row _ _ _ _ _ _ hg, List.getElem?_toArray, ptL, List.getElem?_append_left (List.getElem?_eq_some_iff.1 hv).1]
  exact hv
/-- The number lies behind. -/
theorem pt_num {w : World} {g : Nat} {h : List UInt8} {n : Nat} {T : TypeId} {fr : Nat × Nat} (hh : h.length = 32) (hg : w.heap[g]? = some (.cells (ptL h n).toArray T fr)) : w.cell? ⟨g, 32, none⟩ = some (nV n) := by
  rw [cell_of_row _ _ _ _ _ _ hg, List.getElem?_toArray, ptL, List.getElem?_append_right (by simp [hh])]
  simp [hh]
theorem size_u8 (w : World) : (Go.sizeOf 5).run Tryd.prog w = .ok 1 w := by kernel_rfl
theorem eq_hash (d : Nat) (h h' : List UInt8) (hh : h.length = 32) (hh' : h'.length = 32) (w : World) : (Op.equalIn (d + 2) 35 (.agg (h.map bV).toArray) (.agg (h'.map bV).toArray)).run Tryd.prog w = .ok (decide (h = h')) w := by
  have := run_equalIn_bytes (P := Tryd.prog) w d 35 5 32 Tryd.underlying35 Tryd.underlying5 size_u8 h h' hh hh'
  rw [show (h == h') = decide (h = h') by by_cases e : h = h' <;> simp [e]] at this
  exact this
theorem run_eql_hash (h h' : List UInt8) (hh : h.length = 32) (hh' : h'.length = 32) (w : World) : (binOp .eql 35 (.agg (h.map bV).toArray) (.agg (h'.map bV).toArray)).run Tryd.prog w = .ok (.bool (decide (h = h'))) w := by
  rw [run_eql_struct, eq_hash 9998 h h' hh hh']
  rfl
theorem run_neq_hash (h h' : List UInt8) (hh : h.length = 32) (hh' : h'.length = 32) (w : World) : (binOp .neq 35 (.agg (h.map bV).toArray) (.agg (h'.map bV).toArray)).run Tryd.prog w = .ok (.bool (!decide (h = h'))) w := by
  rw [run_neq_struct, eq_hash 9998 h h' hh hh']
  rfl
theorem pt_fields : (Tryd.prog.fieldsOf 52).toList.map (fun f => (f.name, f.type, f.offset)) = [("Tx", 35, 0), ("N", 22, 32)] := by kernel_rfl
theorem pt_under : Tryd.prog.underlying 52 = some (.struct (Tryd.prog.fieldsOf 52)) := by kernel_rfl
theorem pt_free : Tryd.prog.stoodInHeld 52 = false := by kernel_rfl
theorem size_hash (w : World) : (Go.sizeOf 35).run Tryd.prog w = .ok 32 w := by kernel_rfl
theorem part_hash (h : List UInt8) (n : Nat) (hh : h.length = 32) (w : World) : (part 35 (ptL h n).toArray 0).run Tryd.prog w = .ok (.agg (h.map bV).toArray) w := by
  have hagg : (isAgg 35).run Tryd.prog w = .ok true w := by
    unfold isAgg
    rw [Sem.run_bind, run_underlying Tryd.underlying35 w]
    rfl
  have e : (ptL h n).toArray.extract 0 32 = (h.map bV).toArray := by
    rw [List.extract_toArray, List.extract_eq_take_drop, List.drop_zero, Nat.sub_zero, ptL, List.take_append_of_le_length (by simp [hh]), List.take_of_length_le (by simp [hh])]
  simp only [part, Sem.run_bind, hagg, Result.andThen_ok, if_true, size_hash, Sem.run_pure, Nat.zero_add, e]
theorem part_num (h : List UInt8) (n : Nat) (hh : h.length = 32) (w : World) : (part 22 (ptL h n).toArray 32).run Tryd.prog w = .ok (nV n) w := by
  have hagg : (isAgg 22).run Tryd.prog w = .ok false w := by
    unfold isAgg
    rw [Sem.run_bind, run_underlying Tryd.underlying22 w]
    rfl
  have e : (ptL h n).toArray[32]? = some (nV n) := by
    rw [List.getElem?_toArray, ptL, List.getElem?_append_right (by simp [hh])]
    simp [hh]
  simp only [part, Sem.run_bind, hagg, Result.andThen_ok, e]
  rfl
theorem eq_num (d n m : Nat) (w : World) : (Op.equalIn (d + 1) 22 (nV n) (nV m)).run Tryd.prog w = .ok (decide (n = m)) w := by
  rw [nV, nV, run_equalIn_int w d 22 .u32 .u32 _ _ Tryd.underlying22]
  congr 1
  rw [Bool.eq_iff_iff]
  simp
  omega
/-- Two places by '=='. -/
theorem eq_pt (d : Nat) (h h' : List UInt8) (n n' : Nat) (hh : h.length = 32) (hh' : h'.length = 32) (w : World) : (Op.equalIn (d + 3) 52 (.agg (ptL h n).toArray) (.agg (ptL h' n').toArray)).run Tryd.prog w = .ok (decide (h = h') && decide (n = n')) w := by
  rw [run_equalIn_agg w (d + 2) 52 _ _ pt_under pt_free]
  have hf := pt_fields
  generalize (Tryd.prog.fieldsOf 52).toList = fs at hf
  obtain ⟨f, f', rfl⟩ : ∃ f f', fs = [f, f'] := by
    have hl := congrArg List.length hf
    simp only [List.length_map, List.length_cons, List.length_nil] at hl
    obtain ⟨f, r, rfl⟩ := List.exists_cons_of_length_eq_add_one hl
    obtain ⟨f', r', rfl⟩ := List.exists_cons_of_length_eq_add_one (by simpa using hl)
    obtain rfl : r' = [] := List.eq_nil_of_length_eq_zero (by simpa using hl)
    exact ⟨f, f', rfl⟩
  · simp only [List.map_cons, List.map_nil, List.cons.injEq, Prod.mk.injEq, and_true] at hf
    obtain ⟨⟨h1, h2, h3⟩, h4, h5, h6⟩ := hf
    simp only [Op.eqFields, h1, h2, h3, h4, h5, h6, Sem.run_bind, Sem.run_ite, part_hash h n hh, part_hash h' n' hh', part_num h n hh, part_num h' n' hh', Result.andThen_ok, eq_hash d h h' hh hh', eq_num (d + 1) n n', ne_eq, String.reduceEq, not_false_eq_true, if_true]
    by_cases e : h = h' <;> by_cases e' : n = n' <;> simp [e, e', Sem.run_pure]
theorem run_eql_pt (h h' : List UInt8) (n n' : Nat) (hh : h.length = 32) (hh' : h'.length = 32) (w : World) : (binOp .eql 52 (.agg (ptL h n).toArray) (.agg (ptL h' n').toArray)).run Tryd.prog w = .ok (.bool (decide (h = h') && decide (n = n'))) w := by
  rw [run_eql_struct, eq_pt 9997 h h' n n' hh hh']
  rfl
/-- In a quiet walk: an operation on two values, its answer laid ahead. -/
theorem quiet_bin {P : Program} {C : World → Prop} {a : Act} {o : Oper} {K : Act → Prop} (op : BinOp) (t : TypeId) (x y : Operand) (r : TypeId) (ho : o.op = .binOp op t x y r) (u v z : Value) (hx : a.eval x = u) (hy : a.eval y = v)
    (hg : ∀ w, (eqGuard op t x y u v).run P w = .ok () w) (h : ∀ w, (binOp op t u v).run P w = .ok z w) (hk : K (a.put o.dst z)) : o.quiet P a C K := by
  refine quiet_run z (fun w => ?_) hk
  simp only [execOp, ho, hx, hy, Sem.run_bind, hg, h, Result.andThen_ok, Sem.run_pure]
theorem quiet_eql_pt {C : World → Prop} {a : Act} {o : Oper} {K : Act → Prop} (x y : Operand) (r : TypeId) (ho : o.op = .binOp .eql 52 x y r) (h h' : List UInt8) (n n' : Nat) (hh : h.length = 32) (hh' : h'.length = 32)
    (hx : a.eval x = .agg (ptL h n).toArray) (hy : a.eval y = .agg (ptL h' n').toArray) (b : Bool) (hb : b = (decide (h = h') && decide (n = n'))) (hk : K (a.put o.dst (.bool b))) : o.quiet Tryd.prog a C K := by
  subst hb
  exact quiet_bin .eql 52 x y r ho _ _ _ hx hy (fun w => run_eqGuard_agg w .eql 52 x y _ _ (by kernel_rfl)) (fun w => run_eql_pt h h' n n' hh hh' w) hk
theorem quiet_eql_hash {C : World → Prop} {a : Act} {o : Oper} {K : Act → Prop} (x y : Operand) (r : TypeId) (ho : o.op = .binOp .eql 35 x y r) (h h' : List UInt8) (hh : h.length = 32) (hh' : h'.length = 32)
    (hx : a.eval x = .agg (h.map bV).toArray) (hy : a.eval y = .agg (h'.map bV).toArray) (b : Bool) (hb : b = decide (h = h')) (hk : K (a.put o.dst (.bool b))) : o.quiet Tryd.prog a C K := by
  subst hb
  exact quiet_bin .eql 35 x y r ho _ _ _ hx hy (fun w => run_eqGuard_agg w .eql 35 x y _ _ (by kernel_rfl)) (fun w => run_eql_hash h h' hh hh' w) hk
/-- '!=' of two digests, in a plain list. -/
theorem wpList_neq_hash {ops : Array Oper} {rest : List Oper} {o : Oper} {a : Act} {w : World} {Q : Exit → Act → World → Prop} (hgd : o.guard = none) (x y : Operand) (r : TypeId) (ho : o.op = .binOp .neq 35 x y r) (h h' : List UInt8) (hh : h.length = 32) (hh' : h'.length = 32)
    (hx : a.eval x = .agg (h.map bV).toArray) (hy : a.eval y = .agg (h'.map bV).toArray) (b : Bool) (hb : b = !decide (h = h')) (hk : wpList Tryd.prog ops Q rest (a.put o.dst (.bool b)) w) : wpList Tryd.prog ops Q (o :: rest) a w := by
  subst hb
  refine wpList_plain hgd fun K hK => ?_
  unfold Oper.wp
  simp only [execOp, ho, hx, hy, Sem.run_bind, run_eqGuard_agg w .neq 35 x y _ _ (show Tryd.prog.eqGuardType Tryd.prog.depth 35 = false by kernel_rfl), run_neq_hash h h' hh hh', Result.andThen_ok, Sem.run_pure]
  exact hK _ _ hk
/-- A whole row is read, in a list, where its guard asks for it. -/
theorem wpList_load_rowG {P : Program} {ops : Array Oper} {rest : List Oper} {o : Oper} {a : Act} {w : World} {Q : Exit → Act → World → Prop} (ty : TypeId) (x : Operand) (ho : o.op = .load ty x)
    (g : Nat) (hx : a.eval x = .pointer (some ⟨g, 0, none⟩)) (t : TypeId) (cs : Array Value) (fr : Nat × Nat) (d : TypeDesc) (hg : w.heap[g]? = some (.cells cs t fr))
    (hu : P.underlying ty = some d) (hd : (match d with | .struct _ | .array _ _ => true | _ => false) = true) (hi : (P.info? ty).map (·.size) = some cs.size) (hw : Region.wanted o (yielded ops a.tmps) = true)
    (h : wpList P ops Q rest (a.put o.dst (.agg cs)) w) : wpList P ops Q (o :: rest) a w :=
  wpList_step fun _ hK => by
    rw [if_pos hw]
    exact wp_load_row ty x ho g hx t cs fr d hg hu hd hi (hK _ _ h)
/-- In a quiet walk: one cell is read. -/
theorem quiet_load_cell {P : Program} {C : World → Prop} {a : Act} {o : Oper} {K : Act → Prop} (ty : TypeId) (x : Operand) (ho : o.op = .load ty x) (b off : Nat) (hx : a.eval x = .pointer (some ⟨b, off, none⟩)) (k : IntKind) (v : Value)
    (hg : ∀ w, C w → w.cell? ⟨b, off, none⟩ = some v) (hu : P.underlying ty = some (.int k)) (hk : K (a.put o.dst v)) : o.quiet P a C K :=
  ⟨v, fun w hw => by
    have hagg : (isAgg ty).run P w = .ok false w := by
      unfold isAgg
      rw [Sem.run_bind, run_underlying hu w]
      rfl
    unfold Oper.quietAt execOp
    simp [ho, hx, Instr.loadAt, Instr.sureAddr, Sem.run_bind, loadVar, hagg, hg w hw, Oper.quietUpon], hk⟩
/-- A part of a block is read, in a list, where its guard asks for it. -/
theorem wpList_load_midG {P : Program} {ops : Array Oper} {rest : List Oper} {o : Oper} {a : Act} {w : World} {Q : Exit → Act → World → Prop} (ty : TypeId) (x : Operand) (ho : o.op = .load ty x)
    (b off : Nat) (hx : a.eval x = .pointer (some ⟨b, off, none⟩)) (cs : List Value) (d : TypeDesc) (hc : w.rangeAt b off cs)
    (hu : P.underlying ty = some d) (hd : d.isRow = true) (hi : (P.info? ty).map (·.size) = some cs.length) (hw : Region.wanted o (yielded ops a.tmps) = true)
    (h : wpList P ops Q rest (a.put o.dst (.agg cs.toArray)) w) : wpList P ops Q (o :: rest) a w :=
  wpList_step fun _ hK => by
    rw [if_pos hw]
    exact wp_load_mid ty x ho b off hx cs d hc hu hd hi (hK _ _ h)
/-- In a quiet walk: a part of a block is read. -/
theorem quiet_load_mid {P : Program} {C : World → Prop} {a : Act} {o : Oper} {K : Act → Prop} (ty : TypeId) (x : Operand) (ho : o.op = .load ty x) (b off : Nat) (hx : a.eval x = .pointer (some ⟨b, off, none⟩)) (cs : List Value) (d : TypeDesc)
    (hg : ∀ w, C w → w.rangeAt b off cs) (hu : P.underlying ty = some d) (hd : d.isRow = true) (hi : (P.info? ty).map (·.size) = some cs.length) (hk : K (a.put o.dst (.agg cs.toArray))) : o.quiet P a C K :=
  ⟨_, fun w hw => by
    unfold Oper.quietAt execOp
    simp only [ho, hx, Instr.loadAt, Instr.sureAddr, Sem.run_bind, Sem.run_pure, Result.andThen_ok, run_loadVar_mid w b off ty cs d (hg w hw) hu hd hi]
    exact ⟨rfl, rfl⟩, hk⟩
/-- In a quiet walk: one cell of whatever type is read. -/
theorem quiet_load_one {P : Program} {C : World → Prop} {a : Act} {o : Oper} {K : Act → Prop} (ty : TypeId) (x : Operand) (ho : o.op = .load ty x) (b off : Nat) (hx : a.eval x = .pointer (some ⟨b, off, none⟩)) (v : Value) (d : TypeDesc)
    (hg : ∀ w, C w → w.cell? ⟨b, off, none⟩ = some v) (hu : P.underlying ty = some d) (hd : d.isRow = false) (hk : K (a.put o.dst v)) : o.quiet P a C K :=
  ⟨v, fun w hw => by
    have hagg : (isAgg ty).run P w = .ok false w := by
      unfold isAgg
      rw [Sem.run_bind, run_underlying hu w]
      cases d <;> simp_all
    unfold Oper.quietAt execOp
    simp [ho, hx, Instr.loadAt, Instr.sureAddr, Sem.run_bind, loadVar, hagg, hg w hw, Oper.quietUpon], hk⟩
/-- The place that is none. -/
def nullL : List Value := ptL (List.replicate 32 0) 4294967295
end Go.Proofs.YtkabpbclmhmgfaaDoor.Sha

/-
  How a place that came in by value reads; a struct's fields. No conditions.
-/
namespace Go.Proofs.YtkabpbclmhmgfaaDoor.Sha
open Go Go.ChangeShapes Go.WideShapes Go.ChangeAt Go.RowKit

/-- A struct's fields, each read. -/
theorem struct_field {H : Type} {enc : TypeId × Value → H} {P : Program} {W : World} {fuel : Nat} {T : TypeId} {cs : List Value} {x : DataW H × List MemPlace} (hu : P.underlying T = some (.struct (P.fieldsOf T)))
    (hf : DataW.trod enc P W 0 (fun _ => true) true fuel T cs = some x) {names : List (String × TypeId × Nat)} (hm : (P.fieldsOf T).toList.map (fun f => (f.name, f.type, f.offset)) = names) :
    cs.length = P.cellsOf T ∧ ∃ m : Nat, ∀ (i : Nat) (n : String) (ty : TypeId) (off : Nat), names[i]? = some (n, ty, off) → ∃ y, DataW.trod enc P W 0 (fun _ => true) true m ty ((cs.drop off).take (P.cellsOf ty)) = some y := by
  obtain ⟨xs, m, _, _, hlen, hxl, hel⟩ := DataW.trod_struct hu hf
  refine ⟨hlen, m, fun i n ty off hi => ?_⟩
  rw [← hm, List.getElem?_map] at hi
  obtain ⟨f, hf1, hf2⟩ := Option.map_eq_some_iff.1 hi
  simp only [Prod.mk.injEq] at hf2
  obtain ⟨_, h2, h3⟩ := hf2
  have hil : i < (P.fieldsOf T).size := by have := (List.getElem?_eq_some_iff.1 hf1).1; simpa using this
  have g := hel i f (by rw [← Array.getElem?_toList]; exact hf1)
  rw [h2, h3, List.getElem?_eq_getElem (by omega)] at g
  exact ⟨_, g⟩
theorem num32_cells {H : Type} {enc : TypeId × Value → H} {W : World} {fuel : Nat} {cs : List Value} {x : DataW H × List MemPlace} (hf : DataW.trod enc Tryd.prog W 0 (fun _ => true) true fuel 22 cs = some x) :
    ∃ n : Nat, n ≤ 4294967295 ∧ cs = [nV n] := by
  obtain ⟨z, hz, _, hw⟩ := DataW.trod_int Tryd.underlying22 hf
  have hbd := bounds_u32 hw
  exact ⟨z.toNat, by omega, by rw [hz, nV, Int.toNat_of_nonneg (by omega)]⟩
set_option maxRecDepth 100000 in
/-- A place's cells. -/
theorem pt_cells {H : Type} {enc : TypeId × Value → H} {W : World} {fuel : Nat} {cs : List Value} {x : DataW H × List MemPlace} (hf : DataW.trod enc Tryd.prog W 0 (fun _ => true) true fuel 52 cs = some x) :
    ∃ (bs : List UInt8) (n : Nat), (bs.length = 32 ∧ n ≤ 4294967295) ∧ cs = ptL bs n := by
  have c24 : Tryd.prog.cellsOf 35 = 32 := by kernel_rfl
  have c25 : Tryd.prog.cellsOf 22 = 1 := by kernel_rfl
  have c27 : Tryd.prog.cellsOf 52 = 33 := by kernel_rfl
  obtain ⟨hlen, m, hel⟩ := struct_field pt_under hf pt_fields
  rw [c27] at hlen
  obtain ⟨y0, g0⟩ := hel 0 _ _ _ rfl
  obtain ⟨y1, g1⟩ := hel 1 _ _ _ rfl
  rw [c24, List.drop_zero] at g0
  rw [c25] at g1
  obtain ⟨bs, hb, hcs⟩ := hash_cells g0
  obtain ⟨n, hn, hcn⟩ := num32_cells g1
  rw [List.take_of_length_le (by rw [List.length_drop]; omega)] at hcn
  exact ⟨bs, n, ⟨hb, hn⟩, by rw [ptL, ← hcs, ← hcn, List.take_append_drop]⟩
set_option maxRecDepth 100000 in
/-- A place by value. -/
theorem point_in {H : Type} {enc : TypeId × Value → H} {W : World} {base : Nat} {v : Value} {d : DataW H} {p : List MemPlace} (hok : Value.okWide Tryd.prog W .any base 52 v) (h : DataW.Trod enc Tryd.prog W 0 (fun _ => true) true 52 v d p) :
    ∃ (bs : List UInt8) (n : Nat), (bs.length = 32 ∧ n ≤ 4294967295) ∧ v = .agg (ptL bs n).toArray := by
  simp only [Value.okWide, pt_under] at hok
  obtain ⟨cs, rfl, _, _⟩ := hok
  obtain ⟨fuel, hf⟩ := h
  have hcells : (Value.agg cs).cells.toList = cs.toList := rfl
  rw [hcells] at hf
  obtain ⟨bs, n, hb, hcs⟩ := pt_cells hf
  exact ⟨bs, n, hb, by rw [← hcs, Array.toArray_toList]⟩
end Go.Proofs.YtkabpbclmhmgfaaDoor.Sha

/-
  A transaction as the model has it: inputs of 35 cells, outputs of 33, rows of them behind slices; what stands in memory keeps standing where only new memory turns. No conditions.
-/
namespace Go.Proofs.YtkabpbclmhmgfaaDoor.Sha
open Go Go.RowKit

structure TIn where
  h : List UInt8
  n : Nat
  key : List UInt8
  seq : Nat
structure TOut where
  val : Nat
  lock : List UInt8
structure TTx where
  ver : Nat
  ins : List TIn
  outs : List TOut
  time : Nat
/-- A number of 64 bits as a cell. -/
def uV (n : Nat) : Value := .int .u64 (n : Int)
/-- An input's cells. -/
def inL (x : TIn) (kv : Value) : List Value := ptL x.h x.n ++ [kv, nV x.seq]
/-- An output's cells. -/
def outL (y : TOut) : List Value := uV y.val :: y.lock.map bV
theorem inL_length (x : TIn) (kv : Value) (h : x.h.length = 32) : (inL x kv).length = 35 := by simp [inL, ptL, h]
theorem outL_length (y : TOut) (h : y.lock.length = 32) : (outL y).length = 33 := by simp [outL, h]
/-- A key as a slice. -/
def KeyAt (w : World) (kv : Value) (key : List UInt8) : Prop := SrcB w kv key ∧ ∃ sp cap, kv = .slice sp key.length cap
theorem KeyAt.below {w w' : World} {kv : Value} {key : List UInt8} (h : KeyAt w kv key) (hb : Below w.heap.size w w') : KeyAt w' kv key := ⟨h.1.below hb, h.2⟩
/-- What may be of an input. -/
def InOk (x : TIn) : Prop := x.h.length = 32 ∧ x.n ≤ 4294967295 ∧ x.seq ≤ 4294967295
def OutOk (y : TOut) : Prop := y.lock.length = 32 ∧ y.val ≤ 18446744073709551615
/-- An input stands in block b from o on. -/
def InAt (w : World) (b o : Nat) (x : TIn) : Prop := InOk x ∧ ∃ kv, KeyAt w kv x.key ∧ w.rangeAt b o (inL x kv)
def OutAt (w : World) (b o : Nat) (y : TOut) : Prop := OutOk y ∧ w.rangeAt b o (outL y)
theorem range_below {w w' : World} {b o : Nat} {cs : List Value} (h : w.rangeAt b o cs) (hb : Below w.heap.size w w') : w'.rangeAt b o cs := fun j v hj => by
  have h1 := h j v hj
  rw [hb.cell (p := ⟨b, o + j, none⟩) (World.block_lt_of_cell? w _ h1)]
  exact h1
theorem InAt.below {w w' : World} {b o : Nat} {x : TIn} (h : InAt w b o x) (hb : Below w.heap.size w w') : InAt w' b o x := by
  obtain ⟨h0, kv, h1, h2⟩ := h
  exact ⟨h0, kv, h1.below hb, range_below h2 hb⟩
theorem OutAt.below {w w' : World} {b o : Nat} {y : TOut} (h : OutAt w b o y) (hb : Below w.heap.size w w') : OutAt w' b o y := ⟨h.1, range_below h.2 hb⟩
/-- A row of inputs behind a slice. -/
def InsAt (w : World) (v : Value) (l : List TIn) : Prop :=
  ∃ sp cap, v = .slice sp l.length cap ∧ l.length ≤ cap ∧ (0 < l.length → ∃ b o, sp = some ⟨b, o, none⟩ ∧ ∀ i x, l[i]? = some x → InAt w b (o + i * 35) x)
def OutsAt (w : World) (v : Value) (l : List TOut) : Prop :=
  ∃ sp cap, v = .slice sp l.length cap ∧ l.length ≤ cap ∧ (0 < l.length → ∃ b o, sp = some ⟨b, o, none⟩ ∧ ∀ i x, l[i]? = some x → OutAt w b (o + i * 33) x)
theorem InsAt.below {w w' : World} {v : Value} {l : List TIn} (h : InsAt w v l) (hb : Below w.heap.size w w') : InsAt w' v l := by
  obtain ⟨sp, cap, h1, h2, h3⟩ := h
  refine ⟨sp, cap, h1, h2, fun h0 => ?_⟩
  obtain ⟨b, o, h4, h5⟩ := h3 h0
  exact ⟨b, o, h4, fun i x hx => (h5 i x hx).below hb⟩
theorem OutsAt.below {w w' : World} {v : Value} {l : List TOut} (h : OutsAt w v l) (hb : Below w.heap.size w w') : OutsAt w' v l := by
  obtain ⟨sp, cap, h1, h2, h3⟩ := h
  refine ⟨sp, cap, h1, h2, fun h0 => ?_⟩
  obtain ⟨b, o, h4, h5⟩ := h3 h0
  exact ⟨b, o, h4, fun i x hx => (h5 i x hx).below hb⟩
/-- A transaction's cells. -/
def txL (t : TTx) (iv ov : Value) : List Value := [nV t.ver, iv, ov, nV t.time]
def TxOk (t : TTx) : Prop := t.ver ≤ 4294967295 ∧ t.time ≤ 4294967295
/-- A transaction by value. -/
def TxAt (w : World) (v : Value) (t : TTx) : Prop := TxOk t ∧ ∃ iv ov, v = .agg (txL t iv ov).toArray ∧ InsAt w iv t.ins ∧ OutsAt w ov t.outs
theorem TxAt.below {w w' : World} {v : Value} {t : TTx} (h : TxAt w v t) (hb : Below w.heap.size w w') : TxAt w' v t := by
  obtain ⟨h0, iv, ov, h1, h2, h3⟩ := h
  exact ⟨h0, iv, ov, h1, h2.below hb, h3.below hb⟩
/-- What of an input lies where. -/
theorem in_hash {w : World} {b o : Nat} {x : TIn} {kv : Value} (h : w.rangeAt b o (inL x kv)) : w.rangeAt b o (x.h.map bV) := fun j v hj => h j v (by
  rw [inL, ptL, List.append_assoc, List.getElem?_append_left (List.getElem?_eq_some_iff.1 hj).1]
  exact hj)
theorem in_pt {w : World} {b o : Nat} {x : TIn} {kv : Value} (h : w.rangeAt b o (inL x kv)) : w.rangeAt b o (ptL x.h x.n) := fun j v hj => h j v (by
  rw [inL, List.getElem?_append_left (List.getElem?_eq_some_iff.1 hj).1]
  exact hj)
theorem in_num {w : World} {b o : Nat} {x : TIn} {kv : Value} (hx : x.h.length = 32) (h : w.rangeAt b o (inL x kv)) : w.cell? ⟨b, o + 32, none⟩ = some (.int .u32 (x.n : Int)) := h 32 _ (by
  rw [inL, List.getElem?_append_left (by simp [ptL, hx]), ptL, List.getElem?_append_right (by simp [hx])]
  simp [hx, nV])
theorem in_key {w : World} {b o : Nat} {x : TIn} {kv : Value} (hx : x.h.length = 32) (h : w.rangeAt b o (inL x kv)) : w.cell? ⟨b, o + 33, none⟩ = some kv := h 33 _ (by
  rw [inL, List.getElem?_append_right (by simp [ptL, hx])]
  simp [ptL, hx])
theorem in_seq {w : World} {b o : Nat} {x : TIn} {kv : Value} (hx : x.h.length = 32) (h : w.rangeAt b o (inL x kv)) : w.cell? ⟨b, o + 34, none⟩ = some (.int .u32 (x.seq : Int)) := h 34 _ (by
  rw [inL, List.getElem?_append_right (by simp [ptL, hx])]
  simp [ptL, hx, nV])
theorem out_val {w : World} {b o : Nat} {y : TOut} (h : w.rangeAt b o (outL y)) : w.cell? ⟨b, o, none⟩ = some (.int .u64 (y.val : Int)) := h 0 _ rfl
theorem out_lock {w : World} {b o : Nat} {y : TOut} (h : w.rangeAt b o (outL y)) : w.rangeAt b (o + 1) (y.lock.map bV) := fun j v hj => by
  have := h (j + 1) v (by rw [outL, List.getElem?_cons_succ]; exact hj)
  rw [show o + 1 + j = o + (j + 1) by omega]
  exact this
/-- What of a boxed transaction lies where. -/
theorem tx_cells {w : World} {g : Nat} {t : TTx} {iv ov : Value} {T : TypeId} {fr : Nat × Nat} (h : w.heap[g]? = some (.cells (txL t iv ov).toArray T fr)) :
    w.cell? ⟨g, 0, none⟩ = some (.int .u32 (t.ver : Int)) ∧ w.cell? ⟨g, 1, none⟩ = some iv ∧ w.cell? ⟨g, 2, none⟩ = some ov ∧ w.cell? ⟨g, 3, none⟩ = some (.int .u32 (t.time : Int)) :=
  ⟨by rw [cell_of_row _ _ _ _ _ _ h]; rfl, by rw [cell_of_row _ _ _ _ _ _ h]; rfl, by rw [cell_of_row _ _ _ _ _ _ h]; rfl, by rw [cell_of_row _ _ _ _ _ _ h]; rfl⟩
end Go.Proofs.YtkabpbclmhmgfaaDoor.Sha

/-
  A transaction's bytes, as the chapter says: how many there are; two that have the same bytes are the same. What is amiss with one, in the chapter's order. No conditions beyond those that each states.
-/
namespace Go.Proofs.YtkabpbclmhmgfaaDoor.Sha
open Go Go.RowKit

def inB (x : TIn) : List UInt8 := x.h ++ leB x.n 4 ++ putL x.key.length ++ x.key ++ leB x.seq 4
def outB (y : TOut) : List UInt8 := leB y.val 8 ++ y.lock
def insB (l : List TIn) : List UInt8 := l.flatMap inB
def outsB (l : List TOut) : List UInt8 := l.flatMap outB
/-- A transaction's bytes. -/
def txB (t : TTx) : List UInt8 := leB t.ver 4 ++ putL t.ins.length ++ insB t.ins ++ putL t.outs.length ++ outsB t.outs ++ leB t.time 4
def InsOk (l : List TIn) : Prop := ∀ x ∈ l, InOk x
def OutsOk (l : List TOut) : Prop := ∀ y ∈ l, OutOk y
theorem outB_length (y : TOut) (h : OutOk y) : (outB y).length = 40 := by simp [outB, leB_length, h.1]
theorem inB_length (x : TIn) (h : InOk x) : (inB x).length = 40 + lenN x.key.length + x.key.length := by simp [inB, leB_length, putL_length, h.1]; omega
theorem outsB_length : ∀ (l : List TOut), OutsOk l → (outsB l).length = 40 * l.length
  | [], _ => rfl
  | y :: l, h => by
    have ih := outsB_length l (fun z hz => h z (List.mem_cons_of_mem _ hz))
    simp only [outsB] at ih
    simp only [outsB, List.flatMap_cons, List.length_append, ih, outB_length y (h y List.mem_cons_self), List.length_cons]
    omega
theorem lenN_small {n : Nat} (h : n < 253) : lenN n = 1 := by unfold lenN; rw [if_pos h]
theorem leB_inj {n m k : Nat} (hn : n < 256 ^ k) (hm : m < 256 ^ k) (h : leB n k = leB m k) : n = m := by
  rw [← leN_leB_of hn, h, leN_leB_of hm]
/-- Bytes in front that tell their own length. -/
theorem putL_cut {n m : Nat} {r s : List UInt8} (hn : n ≤ 18446744073709551615) (hm : m ≤ 18446744073709551615) (h : putL n ++ r = putL m ++ s) : n = m ∧ r = s := by
  rcases lenN_eq n with ⟨a, b⟩ | ⟨a, b⟩ | ⟨a, b⟩ | ⟨a, b⟩ <;> rcases lenN_eq m with ⟨c, d⟩ | ⟨c, d⟩ | ⟨c, d⟩ | ⟨c, d⟩ <;> rw [b, d] at h
  · have hn2 : n < 253 := by unfold lenN at a; split at a <;> (try split at a) <;> (try split at a) <;> omega
    have hm2 : m < 253 := by unfold lenN at c; split at c <;> (try split at c) <;> (try split at c) <;> omega
    simp only [List.cons_append, List.nil_append, List.cons.injEq] at h
    refine ⟨?_, h.2⟩
    have h1 := congrArg UInt8.toNat h.1
    rw [UInt8.toNat_ofNat', UInt8.toNat_ofNat'] at h1
    omega
  all_goals first
    | (have hn2 : n < 253 := by unfold lenN at a; split at a <;> (try split at a) <;> (try split at a) <;> omega
       simp only [List.cons_append, List.nil_append, List.cons.injEq] at h
       have h1 := congrArg UInt8.toNat h.1
       rw [UInt8.toNat_ofNat'] at h1
       simp at h1
       omega)
    | (have hm2 : m < 253 := by unfold lenN at c; split at c <;> (try split at c) <;> (try split at c) <;> omega
       simp only [List.cons_append, List.nil_append, List.cons.injEq] at h
       have h1 := congrArg UInt8.toNat h.1
       rw [UInt8.toNat_ofNat'] at h1
       simp at h1
       omega)
    | (simp only [List.cons_append, List.cons.injEq] at h
       obtain ⟨h1, h2⟩ := h
       obtain ⟨h3, h4⟩ := List.append_inj h2 (by simp [leB_length])
       refine ⟨leB_inj ?_ ?_ h3, h4⟩ <;> (unfold lenN at a c; split at a <;> (try split at a) <;> (try split at a) <;> split at c <;> (try split at c) <;> (try split at c) <;> omega))
    | (exfalso
       simp only [List.cons_append, List.cons.injEq] at h
       have h1 := congrArg UInt8.toNat h.1
       revert h1
       decide)
theorem inB_cut {x y : TIn} {r s : List UInt8} (hx : InOk x) (hy : InOk y) (hkx : x.key.length ≤ 18446744073709551615) (hky : y.key.length ≤ 18446744073709551615) (h : inB x ++ r = inB y ++ s) : x = y ∧ r = s := by
  obtain ⟨hx1, hx2, hx3⟩ := hx
  obtain ⟨hy1, hy2, hy3⟩ := hy
  simp only [inB, List.append_assoc] at h
  obtain ⟨e1, h⟩ := List.append_inj h (by rw [hx1, hy1])
  obtain ⟨e2, h⟩ := List.append_inj h (by simp [leB_length])
  obtain ⟨e3, h⟩ := putL_cut hkx hky h
  obtain ⟨e4, h⟩ := List.append_inj h e3
  obtain ⟨e5, h⟩ := List.append_inj h (by simp [leB_length])
  have e6 := leB_inj (by omega) (by omega) e2
  have e7 := leB_inj (by omega) (by omega) e5
  obtain ⟨a, b, c, d⟩ := x
  obtain ⟨a', b', c', d'⟩ := y
  simp only at e1 e4 e6 e7
  subst e1 e4 e6 e7
  exact ⟨rfl, List.append_cancel_left h⟩
theorem outB_cut {x y : TOut} {r s : List UInt8} (hx : OutOk x) (hy : OutOk y) (h : outB x ++ r = outB y ++ s) : x = y ∧ r = s := by
  obtain ⟨hx1, hx2⟩ := hx
  obtain ⟨hy1, hy2⟩ := hy
  simp only [outB, List.append_assoc] at h
  obtain ⟨e1, h⟩ := List.append_inj h (by simp [leB_length])
  obtain ⟨e2, h⟩ := List.append_inj h (by rw [hx1, hy1])
  have e3 := leB_inj (by omega) (by omega) e1
  obtain ⟨a, b⟩ := x
  obtain ⟨a', b'⟩ := y
  simp only at e2 e3
  subst e2 e3
  exact ⟨rfl, List.append_cancel_left h⟩
def KeysLe (l : List TIn) (n : Nat) : Prop := ∀ x ∈ l, x.key.length ≤ n
theorem insB_cut : ∀ (l m : List TIn) {r s : List UInt8}, l.length = m.length → InsOk l → InsOk m → KeysLe l 18446744073709551615 → KeysLe m 18446744073709551615 → insB l ++ r = insB m ++ s → l = m ∧ r = s
  | [], [], r, s, _, _, _, _, _, h => ⟨rfl, by simpa [insB] using h⟩
  | x :: l, y :: m, r, s, hl, h1, h2, k1, k2, h => by
    simp only [insB, List.flatMap_cons, List.append_assoc] at h
    obtain ⟨e1, h⟩ := inB_cut (h1 x List.mem_cons_self) (h2 y List.mem_cons_self) (k1 x List.mem_cons_self) (k2 y List.mem_cons_self) h
    obtain ⟨e2, h⟩ := insB_cut l m (by simpa using hl) (fun z hz => h1 z (List.mem_cons_of_mem _ hz)) (fun z hz => h2 z (List.mem_cons_of_mem _ hz)) (fun z hz => k1 z (List.mem_cons_of_mem _ hz)) (fun z hz => k2 z (List.mem_cons_of_mem _ hz)) h
    exact ⟨by rw [e1, e2], h⟩
theorem outsB_cut : ∀ (l m : List TOut) {r s : List UInt8}, l.length = m.length → OutsOk l → OutsOk m → outsB l ++ r = outsB m ++ s → l = m ∧ r = s
  | [], [], r, s, _, _, _, h => ⟨rfl, by simpa [outsB] using h⟩
  | x :: l, y :: m, r, s, hl, h1, h2, h => by
    simp only [outsB, List.flatMap_cons, List.append_assoc] at h
    obtain ⟨e1, h⟩ := outB_cut (h1 x List.mem_cons_self) (h2 y List.mem_cons_self) h
    obtain ⟨e2, h⟩ := outsB_cut l m (by simpa using hl) (fun z hz => h1 z (List.mem_cons_of_mem _ hz)) (fun z hz => h2 z (List.mem_cons_of_mem _ hz)) h
    exact ⟨by rw [e1, e2], h⟩
/-- All that may be of a transaction that is small enough to be in memory. -/
def TxFit (t : TTx) : Prop := TxOk t ∧ InsOk t.ins ∧ OutsOk t.outs ∧ KeysLe t.ins 18446744073709551615 ∧ t.ins.length ≤ 18446744073709551615 ∧ t.outs.length ≤ 18446744073709551615
/-- Two with the same bytes, whatever stands behind, are one. -/
theorem txB_cut {t u : TTx} {r s : List UInt8} (ht : TxFit t) (hu : TxFit u) (h : txB t ++ r = txB u ++ s) : t = u ∧ r = s := by
  obtain ⟨⟨a1, a2⟩, a3, a4, a5, a6, a7⟩ := ht
  obtain ⟨⟨b1, b2⟩, b3, b4, b5, b6, b7⟩ := hu
  simp only [txB, List.append_assoc] at h
  obtain ⟨e1, h⟩ := List.append_inj h (by simp [leB_length])
  obtain ⟨e2, h⟩ := putL_cut a6 b6 h
  obtain ⟨e3, h⟩ := insB_cut _ _ e2 a3 b3 a5 b5 h
  obtain ⟨e4, h⟩ := putL_cut a7 b7 h
  obtain ⟨e5, h⟩ := outsB_cut _ _ e4 a4 b4 h
  obtain ⟨e6, h⟩ := List.append_inj h (by simp [leB_length])
  have e7 := leB_inj (by omega) (by omega) e1
  have e8 := leB_inj (by omega) (by omega) e6
  obtain ⟨a, b, c, d⟩ := t
  obtain ⟨a', b', c', d'⟩ := u
  simp only at e3 e5 e7 e8
  subst e3 e5 e7 e8
  exact ⟨rfl, List.append_cancel_left h⟩
theorem txB_inj {t u : TTx} (ht : TxFit t) (hu : TxFit u) (h : txB t = txB u) : t = u := (txB_cut (r := []) (s := []) ht hu (by rw [h])).1

/-- A transaction that makes coins: one input, of none. -/
def isNullIn (x : TIn) : Bool := decide (x.h = List.replicate 32 0) && decide (x.n = 4294967295)
def baseB (t : TTx) : Bool := match t.ins with
  | [x] => isNullIn x
  | _ => false
def samePtIn (x y : TIn) : Bool := decide (x.h = y.h) && decide (x.n = y.n)
/-- Two inputs with one place? -/
def twiceB : List TIn → Bool
  | [] => false
  | x :: l => l.any (samePtIn x) || twiceB l
/-- What is amiss first: the error's number, 0 if nothing is. -/
def checkN (t : TTx) : Nat :=
  if t.ins.length = 0 ∨ 50 < t.ins.length ∨ t.outs.length = 0 ∨ 50 < t.outs.length then 104
  else if 4000 < (txB t).length then 103
  else if t.ins.any (fun x => decide (80 < x.key.length)) then 114
  else if sumIs (t.outs.map (·.val)) = false then 105
  else if twiceB t.ins then 106
  else if baseB t then (if t.ins.any (fun x => decide (x.key.length < 4)) then 107 else 0)
  else if t.ins.any isNullIn then 107 else 0
end Go.Proofs.YtkabpbclmhmgfaaDoor.Sha

/-
  How a transaction that came in by value reads. No conditions.
-/
namespace Go.Proofs.YtkabpbclmhmgfaaDoor.Sha
open Go Go.ChangeShapes Go.WideShapes Go.ChangeAt Go.RowKit Go.Deep

theorem in_fields : (Tryd.prog.fieldsOf 54).toList.map (fun f => (f.name, f.type, f.offset)) = [("From", 52, 0), ("Key", 29, 33), ("Seq", 22, 34)] := by kernel_rfl
theorem in_under : Tryd.prog.underlying 54 = some (.struct (Tryd.prog.fieldsOf 54)) := by kernel_rfl
theorem out_fields : (Tryd.prog.fieldsOf 57).toList.map (fun f => (f.name, f.type, f.offset)) = [("Value", 55, 0), ("Lock", 35, 1)] := by kernel_rfl
theorem out_under : Tryd.prog.underlying 57 = some (.struct (Tryd.prog.fieldsOf 57)) := by kernel_rfl
theorem tx_fields : (Tryd.prog.fieldsOf 26).toList.map (fun f => (f.name, f.type, f.offset)) = [("Version", 22, 0), ("Ins", 23, 1), ("Outs", 24, 2), ("Time", 22, 3)] := by kernel_rfl
theorem tx_under : Tryd.prog.underlying 26 = some (.struct (Tryd.prog.fieldsOf 26)) := by kernel_rfl
theorem key_cells {H : Type} {enc : TypeId × Value → H} {W : World} {fuel : Nat} {cs : List Value} {x : DataW H × List MemPlace} (hf : DataW.trod enc Tryd.prog W 0 (fun _ => true) true fuel 29 cs = some x) :
    ∃ kv key, cs = [kv] ∧ KeyAt W kv key ∧ key.length ≤ 9223372036854775807 := by
  rcases open_ints Tryd.underlying29 Tryd.underlying5 (by kernel_rfl) hf with ⟨hcs, _⟩ | ⟨a, l, c, zs, hcs, _, hl, hm, hz, _, hcell, hwz⟩
  · exact ⟨_, [], hcs, ⟨.inl ⟨_, _, rfl, rfl⟩, _, _, rfl⟩, by simp⟩
  · have hr : IsRow .u8 W (some a) l c zs := .inr ⟨a, rfl, hl, hm, by simpa using hz, hcell, hwz⟩
    obtain ⟨bs, hs⟩ := src_of_row hr
    have hlen := hs.le.1
    exact ⟨_, bs, hcs, ⟨hs, _, _, by rw [hlen]⟩, by have := hr.len; omega⟩
set_option maxRecDepth 100000 in
theorem in_cells {H : Type} {enc : TypeId × Value → H} {W : World} {fuel : Nat} {cs : List Value} {x : DataW H × List MemPlace} (hf : DataW.trod enc Tryd.prog W 0 (fun _ => true) true fuel 54 cs = some x) :
    ∃ (y : TIn) (kv : Value), InOk y ∧ KeyAt W kv y.key ∧ y.key.length ≤ 9223372036854775807 ∧ cs = inL y kv := by
  have c27 : Tryd.prog.cellsOf 52 = 33 := by kernel_rfl
  have c22 : Tryd.prog.cellsOf 29 = 1 := by kernel_rfl
  have c25 : Tryd.prog.cellsOf 22 = 1 := by kernel_rfl
  have c54 : Tryd.prog.cellsOf 54 = 35 := by kernel_rfl
  obtain ⟨hlen, m, hel⟩ := struct_field in_under hf in_fields
  rw [c54] at hlen
  obtain ⟨y0, g0⟩ := hel 0 _ _ _ rfl
  obtain ⟨y1, g1⟩ := hel 1 _ _ _ rfl
  obtain ⟨y2, g2⟩ := hel 2 _ _ _ rfl
  rw [c27, List.drop_zero] at g0
  rw [c22] at g1
  rw [c25] at g2
  obtain ⟨bs, n, ⟨hb, hn⟩, hp⟩ := pt_cells g0
  obtain ⟨kv, key, hk, hka, hkl⟩ := key_cells g1
  obtain ⟨s, hs, hsq⟩ := num32_cells g2
  rw [List.take_of_length_le (by rw [List.length_drop]; omega)] at hsq
  refine ⟨⟨bs, n, key, s⟩, kv, ⟨hb, hn, hs⟩, hka, hkl, ?_⟩
  have e1 : cs.drop 33 = [kv] ++ [nV s] := by
    rw [← List.take_append_drop 1 (cs.drop 33), hk, List.drop_drop, hsq]
  show cs = ptL bs n ++ [kv, nV s]
  rw [← hp, show [kv, nV s] = cs.drop 33 from e1.symm, List.take_append_drop]
set_option maxRecDepth 100000 in
theorem out_cells {H : Type} {enc : TypeId × Value → H} {W : World} {fuel : Nat} {cs : List Value} {x : DataW H × List MemPlace} (hf : DataW.trod enc Tryd.prog W 0 (fun _ => true) true fuel 57 cs = some x) :
    ∃ y : TOut, OutOk y ∧ cs = outL y := by
  have c24 : Tryd.prog.cellsOf 35 = 32 := by kernel_rfl
  have c55 : Tryd.prog.cellsOf 55 = 1 := by kernel_rfl
  have c57 : Tryd.prog.cellsOf 57 = 33 := by kernel_rfl
  obtain ⟨hlen, m, hel⟩ := struct_field out_under hf out_fields
  rw [c57] at hlen
  obtain ⟨y0, g0⟩ := hel 0 _ _ _ rfl
  obtain ⟨y1, g1⟩ := hel 1 _ _ _ rfl
  rw [c55, List.drop_zero] at g0
  rw [c24] at g1
  obtain ⟨z, hz, _, hw⟩ := DataW.trod_int Tryd.underlying55 g0
  have hbd := bounds_u64 hw
  obtain ⟨bs, hb, hcs⟩ := hash_cells g1
  rw [List.take_of_length_le (by rw [List.length_drop]; omega)] at hcs
  refine ⟨⟨z.toNat, bs⟩, ⟨hb, by show z.toNat ≤ _; omega⟩, ?_⟩
  show cs = uV z.toNat :: bs.map bV
  rw [← hcs, uV, Int.toNat_of_nonneg (by omega), ← List.take_append_drop 1 cs, hz]
  rfl
/-- Many, each of which is somewhere: a list of them. -/
theorem list_of_each {α : Type} {p : Nat → α → Prop} : ∀ n, (∀ i, i < n → ∃ x, p i x) → ∃ l : List α, l.length = n ∧ ∀ i x, l[i]? = some x → p i x
  | 0, _ => ⟨[], rfl, fun i x h => by simp at h⟩
  | n + 1, h => by
    obtain ⟨l, hl, hp⟩ := list_of_each n (fun i hi => h i (by omega))
    obtain ⟨x, hx⟩ := h n (by omega)
    refine ⟨l ++ [x], by simp [hl], fun i y hy => ?_⟩
    by_cases hi : i < n
    · exact hp i y (by rwa [List.getElem?_append_left (by omega)] at hy)
    · have hin : i = n := by
        have := (List.getElem?_eq_some_iff.1 hy).1
        simp [hl] at this
        omega
      subst hin
      rw [List.getElem?_append_right (by omega), hl] at hy
      simp at hy
      rw [← hy]
      exact hx
theorem range_of_cells {w : World} {a : Addr} {n : Nat} {cs : List Value} (h : w.cells? 0 a n = some cs) (hn : 0 < n) : ∃ b o, a = ⟨b, o, none⟩ ∧ w.rangeAt b o cs := by
  obtain ⟨_, hcl, hat⟩ := World.cells?_some h
  obtain ⟨b, o, spot⟩ := a
  have h0 := hat 0 hn
  have hspot : spot = none := by
    have hs : (cs[0]?) = some (cs[0]'(by omega)) := List.getElem?_eq_getElem _
    rw [hs] at h0
    simpa [Addr.add] using World.cell?_spot h0
  subst hspot
  refine ⟨b, o, rfl, fun j v hj => ?_⟩
  have hjn : j < n := by have := (List.getElem?_eq_some_iff.1 hj).1; omega
  rw [← Addr.add_mid, hat j hjn]
  exact hj
theorem ins_cells {H : Type} {enc : TypeId × Value → H} {W : World} {fuel : Nat} {cs : List Value} {x : DataW H × List MemPlace} (hf : DataW.trod enc Tryd.prog W 0 (fun _ => true) true fuel 23 cs = some x) :
    ∃ (iv : Value) (l : List TIn), cs = [iv] ∧ InsAt W iv l ∧ InsOk l ∧ KeysLe l 9223372036854775807 ∧ l.length ≤ 9223372036854775807 := by
  have c54 : Tryd.prog.cellsOf 54 = 35 := by kernel_rfl
  rcases open_slice Tryd.underlying23 hf with ⟨hcs, _⟩ | ⟨a, len, cap, m, n, D, Pl, hcs, hb, hl, hm, hmm, hx, hi⟩
  · exact ⟨_, [], hcs, ⟨_, _, rfl, by simp, fun h => by simp at h⟩, fun y hy => by simp at hy, fun y hy => by simp at hy, by simp⟩
  · have hmc : m = cap := by rw [hmm]; simp
    rw [c54] at hi
    have each : ∀ i, i < len → ∃ y : TIn, ∃ b o, a.add (i * 35) = ⟨b, o, none⟩ ∧ InAt W b o y ∧ y.key.length ≤ 9223372036854775807 := fun i him => by
      obtain ⟨cs', hc, ht⟩ := hi i (by omega)
      obtain ⟨y, kv, h1, h2, h3, h4⟩ := in_cells ht
      obtain ⟨b, o, hab, hr⟩ := range_of_cells hc (by omega)
      exact ⟨y, b, o, hab, ⟨h1, kv, h2, by rw [← h4]; exact hr⟩, h3⟩
    obtain ⟨l, hll, hp⟩ := list_of_each len each
    have hmem : ∀ y ∈ l, ∃ b o, InAt W b o y ∧ y.key.length ≤ 9223372036854775807 := fun y hy => by
      obtain ⟨i, hi2⟩ := List.getElem?_of_mem hy
      obtain ⟨b, o, _, h1, h2⟩ := hp i y hi2
      exact ⟨b, o, h1, h2⟩
    refine ⟨_, l, hcs, ⟨_, _, by rw [hll], by omega, fun h0 => ?_⟩, fun y hy => ?_, fun y hy => ?_, by unfold maxLen at hm; omega⟩
    · obtain ⟨x0, hx0⟩ : ∃ x0, l[0]? = some x0 := ⟨_, List.getElem?_eq_getElem h0⟩
      obtain ⟨b, o, hab, _⟩ := hp 0 x0 hx0
      obtain ⟨ab, ao, asp⟩ := a
      have hsp : asp = none := by
        have := congrArg Addr.spot hab
        simpa [Addr.add] using this
      subst hsp
      refine ⟨ab, ao, rfl, fun i y hy => ?_⟩
      obtain ⟨b', o', hab', h1, _⟩ := hp i y hy
      rw [Addr.add_mid] at hab'
      cases hab'
      exact h1
    · obtain ⟨b, o, h1, _⟩ := hmem y hy
      exact h1.1
    · obtain ⟨b, o, _, h2⟩ := hmem y hy
      exact h2
theorem outs_cells {H : Type} {enc : TypeId × Value → H} {W : World} {fuel : Nat} {cs : List Value} {x : DataW H × List MemPlace} (hf : DataW.trod enc Tryd.prog W 0 (fun _ => true) true fuel 24 cs = some x) :
    ∃ (ov : Value) (l : List TOut), cs = [ov] ∧ OutsAt W ov l ∧ OutsOk l ∧ l.length ≤ 9223372036854775807 := by
  have c57 : Tryd.prog.cellsOf 57 = 33 := by kernel_rfl
  rcases open_slice Tryd.underlying24 hf with ⟨hcs, _⟩ | ⟨a, len, cap, m, n, D, Pl, hcs, hb, hl, hm, hmm, hx, hi⟩
  · exact ⟨_, [], hcs, ⟨_, _, rfl, by simp, fun h => by simp at h⟩, fun y hy => by simp at hy, by simp⟩
  · have hmc : m = cap := by rw [hmm]; simp
    rw [c57] at hi
    have each : ∀ i, i < len → ∃ y : TOut, ∃ b o, a.add (i * 33) = ⟨b, o, none⟩ ∧ OutAt W b o y := fun i him => by
      obtain ⟨cs', hc, ht⟩ := hi i (by omega)
      obtain ⟨y, h1, h4⟩ := out_cells ht
      obtain ⟨b, o, hab, hr⟩ := range_of_cells hc (by omega)
      exact ⟨y, b, o, hab, h1, by rw [← h4]; exact hr⟩
    obtain ⟨l, hll, hp⟩ := list_of_each len each
    refine ⟨_, l, hcs, ⟨_, _, by rw [hll], by omega, fun h0 => ?_⟩, fun y hy => ?_, by unfold maxLen at hm; omega⟩
    · obtain ⟨x0, hx0⟩ : ∃ x0, l[0]? = some x0 := ⟨_, List.getElem?_eq_getElem h0⟩
      obtain ⟨b, o, hab, _⟩ := hp 0 x0 hx0
      obtain ⟨ab, ao, asp⟩ := a
      have hsp : asp = none := by
        have := congrArg Addr.spot hab
        simpa [Addr.add] using this
      subst hsp
      refine ⟨ab, ao, rfl, fun i y hy => ?_⟩
      obtain ⟨b', o', hab', h1⟩ := hp i y hy
      rw [Addr.add_mid] at hab'
      cases hab'
      exact h1
    · obtain ⟨i, hi2⟩ := List.getElem?_of_mem hy
      obtain ⟨b, o, _, h1⟩ := hp i y hi2
      exact h1.1
/-- All that is known of a transaction that came in. -/
def TxCame (t : TTx) : Prop := TxOk t ∧ InsOk t.ins ∧ OutsOk t.outs ∧ KeysLe t.ins 9223372036854775807 ∧ t.ins.length ≤ 9223372036854775807 ∧ t.outs.length ≤ 9223372036854775807
set_option maxRecDepth 100000 in
/-- A transaction by value. -/
theorem tx_in {H : Type} {enc : TypeId × Value → H} {W : World} {base : Nat} {v : Value} {d : DataW H} {p : List MemPlace} (hok : Value.okWide Tryd.prog W .any base 26 v) (h : DataW.Trod enc Tryd.prog W 0 (fun _ => true) true 26 v d p) :
    ∃ t : TTx, TxAt W v t ∧ TxCame t := by
  have c25 : Tryd.prog.cellsOf 22 = 1 := by kernel_rfl
  have c23 : Tryd.prog.cellsOf 23 = 1 := by kernel_rfl
  have c24 : Tryd.prog.cellsOf 24 = 1 := by kernel_rfl
  have c26 : Tryd.prog.cellsOf 26 = 4 := by kernel_rfl
  simp only [Value.okWide, tx_under] at hok
  obtain ⟨cs, rfl, _, _⟩ := hok
  obtain ⟨fuel, hf⟩ := h
  have hcells : (Value.agg cs).cells.toList = cs.toList := rfl
  rw [hcells] at hf
  obtain ⟨hlen, m, hel⟩ := struct_field tx_under hf tx_fields
  rw [c26] at hlen
  obtain ⟨y0, g0⟩ := hel 0 _ _ _ rfl
  obtain ⟨y1, g1⟩ := hel 1 _ _ _ rfl
  obtain ⟨y2, g2⟩ := hel 2 _ _ _ rfl
  obtain ⟨y3, g3⟩ := hel 3 _ _ _ rfl
  rw [c25] at g0 g3
  rw [c23] at g1
  rw [c24] at g2
  obtain ⟨ver, h0, e0⟩ := num32_cells g0
  obtain ⟨iv, il, e1, h1, h1a, h1b, h1c⟩ := ins_cells g1
  obtain ⟨ov, ol, e2, h2, h2a, h2b⟩ := outs_cells g2
  obtain ⟨tm, h3, e3⟩ := num32_cells g3
  obtain ⟨l, hl⟩ : ∃ l, l = cs.toList := ⟨_, rfl⟩
  rw [← hl] at hlen e0 e1 e2 e3
  match l, hlen with
  | [a, b, c, e], _ =>
    simp at e0 e1 e2 e3
    subst e0 e1 e2 e3
    refine ⟨⟨ver, il, ol, tm⟩, ⟨⟨h0, h3⟩, _, _, ?_, h1, h2⟩, ⟨h0, h3⟩, h1a, h2a, h1b, h1c, h2b⟩
    congr 1
    apply Array.toList_inj.1
    rw [← hl]
    rfl
end Go.Proofs.YtkabpbclmhmgfaaDoor.Sha
