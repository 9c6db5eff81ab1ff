/-
  Package head checks a header's work; a header's digest; the statements' first. Nothing that was there turns. Conditions: those that each states.
-/
import Derived.Test.YtlfpjfhpleociaaDoorHdBytes
import Derived.Test.YtlfpjfhpleociaaDoorHdStore
import Derived.Test.YtlfpjfhpleociaaDoorCmpRdr
import Derived.Test.YtlfpjfhpleociaaDoorShaSame
import Derived.Test.YtlfpjfhpleociaaDoorShaSum
namespace Go.Proofs.YtlfpjfhpleociaaDoor.Sha
open Go Go.RowKit
/-- Is the work out of its range? -/
def workB (n : Nat) : Bool := decide (n = 0) || decide (16777216 < n)
set_option maxRecDepth 100000 in
theorem check_hd (h : THd) (hh : HdOk h) (w : World) (x : Addr) (hx : w.cell? ⟨1, 0, none⟩ = some (.iface 95 (.pointer (some x)))) (v : Value) (hv : v = if workB h.work then .iface 95 (.pointer (some x)) else .nilIface) :
    Calls Tryd.prog 13 #[.agg (hdL h).toArray] w fun e w' => e = .returned v ∧ Below w.heap.size w w' := by
  have HH := Lib.hid hh
  have HX := Lib.hid hx
  have HV := Lib.hid hv
  obtain ⟨cs, hcs⟩ : ∃ cs, cs = hdL h := ⟨_, rfl⟩
  rw [← hcs]
  have CS := Lib.hid hcs
  clear hcs hh hx hv
  go_enter Tryd.func13, Tryd.ntmps13
  go_upto_region 1 with fail
  rw [CS.out]
  obtain ⟨B, F⟩ := hd_box w h
  generalize hw1 : World.alloc w _ = w1
  rw [hw1] at B F
  have gx : w1.cell? ⟨1, 0, none⟩ = some (.iface 95 (.pointer (some x))) := by
    rw [B.cell (World.block_lt_of_cell? w _ HX.out)]
    exact HX.out
  have c66 := (F.cells HH.out).2.2.1
  obtain ⟨n, hn⟩ : ∃ n, n = h.work := ⟨_, rfl⟩
  rw [← hn] at c66
  have B := Lib.hid B
  have hv := HV.out
  rw [← hn] at hv
  clear F hw1 hn CS HV
  unfold workB at hv
  by_cases h1 : n = 0
  · subst h1
    obtain rfl : v = .iface 95 (.pointer (some x)) := hv
    go_wp2_with fail
    go_ret
    exact ⟨rfl, B.out⟩
  have t1 : ((n : Int) == 0) = false := by rw [beq_eq_false_iff_ne]; omega
  by_cases h2 : 16777216 < n
  · have t2 : (16777216 : Int) < (n : Int) := by omega
    obtain rfl : v = .iface 95 (.pointer (some x)) := by rw [hv, decide_eq_false h1, decide_eq_true h2]; rfl
    clear h1 h2 hv
    go_wp2_with fail
    go_ret
    exact ⟨rfl, B.out⟩
  · have t2 : ¬ (16777216 : Int) < (n : Int) := by omega
    obtain rfl : v = .nilIface := by rw [hv, decide_eq_false h1, decide_eq_false h2]; rfl
    clear h1 h2 hv
    go_wp2_with fail
    go_ret
    exact ⟨rfl, B.out⟩
set_option maxRecDepth 100000 in
theorem first5 (w : World) : Calls Tryd.prog 6 #[] w fun e w' => e = .returned (.bool true) ∧ Below w.heap.size w w' := by
  have BY : Hid (∀ w, Calls Tryd.prog 7 #[.agg Tryd.zeroCells26] w fun e w' => ∃ v, e = .returned v ∧ CopyB w w' v (hdB hdZ)) := fun w => by
    rw [hd_zero]
    exact hdbytes_any hdZ hdZ_ok w
  go_enter Tryd.func6, Tryd.ntmps6
  go_wp2_with fail
  refine (BY.out w).mono ?_
  rintro e w2 ⟨v2, rfl, hc2⟩
  have C2 := Lib.hid hc2
  have e80 := hdB_length hdZ_ok
  obtain ⟨sp, cap, rfl⟩ := hc2.src.shape
  rw [e80] at C2 ⊢
  clear hc2 e80
  go_wp2_with fail
  go_ret
  exact ⟨rfl, C2.out.2⟩
end Go.Proofs.YtlfpjfhpleociaaDoor.Sha
