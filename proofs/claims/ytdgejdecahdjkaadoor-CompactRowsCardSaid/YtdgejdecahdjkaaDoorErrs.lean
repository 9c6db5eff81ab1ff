/-
  The statements' own sight of errors: package api's errors are told apart; an error as plain data; whether an error is the one of a number. Conditions: the errors are there, each its own.
-/
import Derived.LaidEql
import Derived.Deep.DeepFit
import Derived.Test.YtdgejdecahdjkaaDoorCmpRdr
namespace Go.Proofs.YtdgejdecahdjkaaDoor.Sha
open Go Go.RowKit

/-- Where package api's errors stand, in their order. -/
def errG : List Nat := [2, 0, 3, 1, 4, 5, 6, 7, 8, 9, 10, 11, 12, 13, 14, 15, 16, 17, 18, 19, 20, 21, 22, 23, 24]
/-- All errors of package api are there, each its own. -/
def Errs (w : World) (E : Nat → Addr) : Prop :=
  (∀ i, i < 25 → w.cell? ⟨errG.getD i 0, 0, none⟩ = some (errV E (i + 1)) ∧ ∃ c t, w.heap[(E i).block]? = some (.cells c t (0, 0))) ∧ ∀ i j, i < 25 → j < 25 → E i = E j → i = j
theorem Errs.below {w w' : World} {E : Nat → Addr} (h : Errs w E) (hb : Below w.heap.size w w') : Errs w' E := by
  refine ⟨fun i hi => ?_, h.2⟩
  obtain ⟨h1, c, t, h2⟩ := h.1 i hi
  refine ⟨?_, c, t, ?_⟩
  · rw [hb.cell (p := ⟨errG.getD i 0, 0, none⟩) (World.block_lt_of_cell? w _ h1)]
    exact h1
  · rw [hb.block _ (Array.getElem?_eq_some_iff.1 h2).1]
    exact h2
theorem Errs.er {w : World} {E : Nat → Addr} (h : Errs w E) : Er w E := ⟨(h.1 0 (by omega)).1, (h.1 1 (by omega)).1, (h.1 3 (by omega)).1⟩
theorem Er.lt {w : World} {E : Nat → Addr} {r : Nat} (h : Er w E) (hr : w.heap.size ≤ r) : 2 ≠ r ∧ 0 ≠ r ∧ 1 ≠ r := by
  have h1 : 2 < w.heap.size := World.block_lt_of_cell? w _ h.1
  have h2 : 0 < w.heap.size := World.block_lt_of_cell? w _ h.2.1
  have h3 : 1 < w.heap.size := World.block_lt_of_cell? w _ h.2.2
  exact ⟨by omega, by omega, by omega⟩

theorem info_err : (Tryd.prog.info? 74).map (·.comparable) = some true := by kernel_rfl
theorem eql_same (a : Addr) (W : World) : (binOp .eql 34 (.iface 74 (.pointer (some a))) (.iface 74 (.pointer (some a)))).run Tryd.prog W = .ok (.bool true) W := by
  obtain ⟨i, hi, hc⟩ := Option.map_eq_some_iff.1 info_err
  obtain ⟨j, hj, hs⟩ := Option.map_eq_some_iff.1 (show (Tryd.prog.info? 90).map (·.size) = some 1 by kernel_rfl)
  exact run_eql_iface_ptr_same W a Tryd.underlying34 Tryd.underlying74 hi hc hj
theorem eql_other {a b : Addr} {W : World} (hne : a ≠ b) (ha : ∃ c t, W.heap[a.block]? = some (.cells c t (0, 0))) (hb : ∃ c t, W.heap[b.block]? = some (.cells c t (0, 0))) :
    (binOp .eql 34 (.iface 74 (.pointer (some a))) (.iface 74 (.pointer (some b)))).run Tryd.prog W = .ok (.bool false) W := by
  obtain ⟨i, hi, hc⟩ := Option.map_eq_some_iff.1 info_err
  obtain ⟨j, hj, hs⟩ := Option.map_eq_some_iff.1 (show (Tryd.prog.info? 90).map (·.size) = some 1 by kernel_rfl)
  obtain ⟨ca, ta, ha⟩ := ha
  obtain ⟨cb, tb, hb⟩ := hb
  exact run_eql_iface_ptr_other W Tryd.underlying34 Tryd.underlying74 hi hc hj (by omega) hne ha hb
/-- Two of the errors: the same only if they are one. -/
theorem alike_err (E : Nat → Addr) (i j : Nat) (b : Bool) (w : World) (hE : Errs w E) (hi : i < 25) (hj : j < 25) (hb : b = decide (i = j)) :
    Calls Tryd.prog 39 #[errV E (i + 1), errV E (j + 1)] w fun e w' => e = .returned (.bool b) ∧ w = w' := by
  have hq : (binOp .eql 34 (.iface 74 (.pointer (some (E i)))) (.iface 74 (.pointer (some (E j))))).run Tryd.prog w = .ok (.bool b) w := by
    by_cases h : i = j
    · subst h
      rw [hb, decide_eq_true rfl]
      exact eql_same _ _
    · rw [hb, decide_eq_false h]
      exact eql_other (fun e => h (hE.2 i j hi hj e)) (hE.1 i hi).2 (hE.1 j hj).2
  show Calls Tryd.prog 39 #[.iface 74 (.pointer (some (E i))), .iface 74 (.pointer (some (E j)))] w _
  obtain ⟨a1, h1⟩ : ∃ a1, a1 = E i := ⟨_, rfl⟩
  obtain ⟨a2, h2⟩ : ∃ a2, a2 = E j := ⟨_, rfl⟩
  rw [← h1, ← h2] at hq ⊢
  clear h1 h2 hE hi hj hb
  go_enter Tryd.func39, Tryd.ntmps39
  go_wp2
  go_ret
  exact ⟨rfl, rfl⟩

/-- The list of the errors. -/
def errL (E : Nat → Addr) : List Value := [.iface 74 (.pointer (some (E 0))), .iface 74 (.pointer (some (E 1))), .iface 74 (.pointer (some (E 2))), .iface 74 (.pointer (some (E 3))), .iface 74 (.pointer (some (E 4))), .iface 74 (.pointer (some (E 5))), .iface 74 (.pointer (some (E 6))), .iface 74 (.pointer (some (E 7))), .iface 74 (.pointer (some (E 8))), .iface 74 (.pointer (some (E 9))), .iface 74 (.pointer (some (E 10))), .iface 74 (.pointer (some (E 11))), .iface 74 (.pointer (some (E 12))), .iface 74 (.pointer (some (E 13))), .iface 74 (.pointer (some (E 14))), .iface 74 (.pointer (some (E 15))), .iface 74 (.pointer (some (E 16))), .iface 74 (.pointer (some (E 17))), .iface 74 (.pointer (some (E 18))), .iface 74 (.pointer (some (E 19))), .iface 74 (.pointer (some (E 20))), .iface 74 (.pointer (some (E 21))), .iface 74 (.pointer (some (E 22))), .iface 74 (.pointer (some (E 23))), .iface 74 (.pointer (some (E 24)))]
theorem errL_get (E : Nat → Addr) : ∀ i, i < 25 → (errL E).toArray[i]? = some (errV E (i + 1)) := by
  intro i hi
  have h : i = 0 ∨ i = 1 ∨ i = 2 ∨ i = 3 ∨ i = 4 ∨ i = 5 ∨ i = 6 ∨ i = 7 ∨ i = 8 ∨ i = 9 ∨ i = 10 ∨ i = 11 ∨ i = 12 ∨ i = 13 ∨ i = 14 ∨ i = 15 ∨ i = 16 ∨ i = 17 ∨ i = 18 ∨ i = 19 ∨ i = 20 ∨ i = 21 ∨ i = 22 ∨ i = 23 ∨ i = 24 := by omega
  rcases h with rfl | rfl | rfl | rfl | rfl | rfl | rfl | rfl | rfl | rfl | rfl | rfl | rfl | rfl | rfl | rfl | rfl | rfl | rfl | rfl | rfl | rfl | rfl | rfl | rfl <;> rfl
set_option maxRecDepth 100000 in
set_option maxHeartbeats 1000000 in
theorem sentinels_any (E : Nat → Addr) (w : World) (hE : Errs w E) :
    Calls Tryd.prog 38 #[] w fun e w' => e = .returned (.slice (some ⟨w.heap.size, 0, none⟩) 25 25) ∧ w'.heap[w.heap.size]? = some (.cells (errL E).toArray 34 (0, 0)) ∧ Below w.heap.size w w' := by
  have c0 : w.cell? ⟨2, 0, none⟩ = some (.iface 74 (.pointer (some (E 0)))) := (hE.1 0 (by omega)).1
  have c1 : w.cell? ⟨0, 0, none⟩ = some (.iface 74 (.pointer (some (E 1)))) := (hE.1 1 (by omega)).1
  have c2 : w.cell? ⟨3, 0, none⟩ = some (.iface 74 (.pointer (some (E 2)))) := (hE.1 2 (by omega)).1
  have c3 : w.cell? ⟨1, 0, none⟩ = some (.iface 74 (.pointer (some (E 3)))) := (hE.1 3 (by omega)).1
  have c4 : w.cell? ⟨4, 0, none⟩ = some (.iface 74 (.pointer (some (E 4)))) := (hE.1 4 (by omega)).1
  have c5 : w.cell? ⟨5, 0, none⟩ = some (.iface 74 (.pointer (some (E 5)))) := (hE.1 5 (by omega)).1
  have c6 : w.cell? ⟨6, 0, none⟩ = some (.iface 74 (.pointer (some (E 6)))) := (hE.1 6 (by omega)).1
  have c7 : w.cell? ⟨7, 0, none⟩ = some (.iface 74 (.pointer (some (E 7)))) := (hE.1 7 (by omega)).1
  have c8 : w.cell? ⟨8, 0, none⟩ = some (.iface 74 (.pointer (some (E 8)))) := (hE.1 8 (by omega)).1
  have c9 : w.cell? ⟨9, 0, none⟩ = some (.iface 74 (.pointer (some (E 9)))) := (hE.1 9 (by omega)).1
  have c10 : w.cell? ⟨10, 0, none⟩ = some (.iface 74 (.pointer (some (E 10)))) := (hE.1 10 (by omega)).1
  have c11 : w.cell? ⟨11, 0, none⟩ = some (.iface 74 (.pointer (some (E 11)))) := (hE.1 11 (by omega)).1
  have c12 : w.cell? ⟨12, 0, none⟩ = some (.iface 74 (.pointer (some (E 12)))) := (hE.1 12 (by omega)).1
  have c13 : w.cell? ⟨13, 0, none⟩ = some (.iface 74 (.pointer (some (E 13)))) := (hE.1 13 (by omega)).1
  have c14 : w.cell? ⟨14, 0, none⟩ = some (.iface 74 (.pointer (some (E 14)))) := (hE.1 14 (by omega)).1
  have c15 : w.cell? ⟨15, 0, none⟩ = some (.iface 74 (.pointer (some (E 15)))) := (hE.1 15 (by omega)).1
  have c16 : w.cell? ⟨16, 0, none⟩ = some (.iface 74 (.pointer (some (E 16)))) := (hE.1 16 (by omega)).1
  have c17 : w.cell? ⟨17, 0, none⟩ = some (.iface 74 (.pointer (some (E 17)))) := (hE.1 17 (by omega)).1
  have c18 : w.cell? ⟨18, 0, none⟩ = some (.iface 74 (.pointer (some (E 18)))) := (hE.1 18 (by omega)).1
  have c19 : w.cell? ⟨19, 0, none⟩ = some (.iface 74 (.pointer (some (E 19)))) := (hE.1 19 (by omega)).1
  have c20 : w.cell? ⟨20, 0, none⟩ = some (.iface 74 (.pointer (some (E 20)))) := (hE.1 20 (by omega)).1
  have c21 : w.cell? ⟨21, 0, none⟩ = some (.iface 74 (.pointer (some (E 21)))) := (hE.1 21 (by omega)).1
  have c22 : w.cell? ⟨22, 0, none⟩ = some (.iface 74 (.pointer (some (E 22)))) := (hE.1 22 (by omega)).1
  have c23 : w.cell? ⟨23, 0, none⟩ = some (.iface 74 (.pointer (some (E 23)))) := (hE.1 23 (by omega)).1
  have c24 : w.cell? ⟨24, 0, none⟩ = some (.iface 74 (.pointer (some (E 24)))) := (hE.1 24 (by omega)).1
  clear hE
  go_enter Tryd.func38, Tryd.ntmps38
  go_wp2
  go_ret
  exact ⟨rfl, by rw [heap_alloc_new]; rfl, (Below.refl _ _).alloc (Nat.le_refl _) _⟩
def SnInv (E : Nat → Addr) (q : Nat) (w : World) (vi : Value) (wr : World) : Prop := ∃ k : Nat, k ≤ q ∧ vi = .int .i64 k ∧ wr.heap[w.heap.size]? = some (.cells (errL E).toArray 34 (0, 0)) ∧ Below w.heap.size w wr
set_option maxRecDepth 100000 in
/-- The number of an error. -/
theorem sentinel_any (E : Nat → Addr) (q : Nat) (kk : Int) (hkk : kk = ((101 + q : Nat) : Int)) (w : World) (hE : Errs w E) (hq : q < 25) :
    Calls Tryd.prog 35 #[errV E (q + 1)] w fun e w' => e = .returned (.int .i64 kk) ∧ Below w.heap.size w w' := by
  have HE := Lib.hid hE
  have HKK := Lib.hid hkk
  clear hE hkk
  show Calls Tryd.prog 35 #[.iface 74 (.pointer (some (E q)))] w _
  go_enter Tryd.func35, Tryd.ntmps35
  go_wp2_with fail
  refine (sentinels_any E _ HE.out).mono ?_
  rintro e w1 ⟨rfl, h1, hb1⟩
  have H1 := Lib.hid h1
  have B1 := Lib.hid hb1
  clear h1 hb1
  go_wp2_with fail
  go_loopw [4] (fun vi wr => SnInv E q w vi wr) (fun vi _ => 25 - (intOf vi).toNat)
  case atStart => exact ⟨0, by omega, rfl, H1.out, B1.out⟩
  case round =>
    clear H1 B1
    obtain ⟨k, hk, rfl, h1, hb⟩ := hrel
    have ck : wr.cell? ⟨w.heap.size, k, none⟩ = some (errV E (k + 1)) := by rw [cell_of_row _ _ _ _ _ _ h1]; exact errL_get E k (by omega)
    have H1 := Lib.hid h1
    have HB := Lib.hid hb
    clear h1 hb
    have hlt : (k : Int) < 25 := by omega
    by_cases hkq : k = q
    · have hb : true = decide (q = k) := (decide_eq_true hkq.symm).symm
      have HA := Lib.hid (alike_err E q k true wr (HE.out.below HB.out) hq (by omega) hb)
      have HQ : Hid (101 + (k : Int) = kk) := by show _ = _; rw [HKK.out]; omega
      clear hkq hb
      go_wp2_with fail
      refine HA.out.mono ?_
      rintro e w' ⟨rfl, rfl⟩
      go_wp2_with fail
      go_ret
      exact ⟨ret_int HQ.out, HB.out⟩
    · have hb : false = decide (q = k) := (decide_eq_false (fun e => hkq e.symm)).symm
      have HA := Lib.hid (alike_err E q k false wr (HE.out.below HB.out) hq (by omega) hb)
      have hk2 : k + 1 ≤ q := by omega
      clear hkq hb
      go_wp2_with fail
      refine HA.out.mono ?_
      rintro e w' ⟨rfl, rfl⟩
      go_wp2_with fail
      go_roundw
      case rel => exact ⟨k + 1, hk2, by go_num, H1.out, HB.out⟩
      case measure => simp [intOf]; omega
end Go.Proofs.YtdgejdecahdjkaaDoor.Sha
