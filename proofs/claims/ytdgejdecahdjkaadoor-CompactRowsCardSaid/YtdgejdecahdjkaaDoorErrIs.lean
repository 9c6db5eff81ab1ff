/-
  The statements' own Fault, Same and Is: an error of package api, or none, is told by its number. Conditions: the errors are there, each its own.
-/
import Derived.Test.YtdgejdecahdjkaaDoorErrs
namespace Go.Proofs.YtdgejdecahdjkaaDoor.Sha
open Go Go.RowKit

/-- A fault with nothing around it. -/
def fC (c : Int) : List Value := [.int .i64 c, .bool false, .int .i64 0, .bool false, .int .i64 0]
/-- The number of an error. -/
def numE : Nat → Int
  | 0 => 0
  | q + 1 => ((101 + q : Nat) : Int)
set_option maxRecDepth 100000 in
theorem none_any (w : World) : Calls Tryd.prog 34 #[] w fun e w' => e = .returned (.agg (fC 0).toArray) ∧ Below w.heap.size w w' := by
  go_enter Tryd.func34, Tryd.ntmps34
  go_wp2
  refine bodyPost_ret (v := .agg (fC 0).toArray) (by simp [results, Tryd.results34, go_sem]; rfl) rfl ⟨rfl, ?_⟩
  exact (Below.refl _ _).alloc (Nat.le_refl _) _
theorem bare_any (c : Int) (w : World) : Calls Tryd.prog 31 #[.int .i64 c] w fun e w' => e = .returned (.agg (fC c).toArray) ∧ Below w.heap.size w w' := by
  go_enter Tryd.func31, Tryd.ntmps31
  go_wp2
  refine bodyPost_ret (v := .agg (fC c).toArray) (by simp [results, Tryd.results31, go_sem]; rfl) rfl ⟨rfl, ?_⟩
  exact (Below.refl _ _).alloc (Nat.le_refl _) _
theorem fault_all (c : Int) : (fC c).toArray.all (·.oneCell') = true := by
  rw [Array.all_eq_true_iff_forall_mem]
  intro x hx
  simp [fC] at hx
  rcases hx with rfl | rfl | rfl | rfl | rfl <;> rfl
set_option maxRecDepth 100000 in
theorem fault_nil (w : World) : Calls Tryd.prog 33 #[.nilIface] w fun e w' => e = .returned (.agg (fC 0).toArray) ∧ Below w.heap.size w w' := by
  go_enter Tryd.func33, Tryd.ntmps33
  go_wp2_with fail
  refine (none_any _).mono ?_
  rintro e w1 ⟨rfl, hb1⟩
  obtain ⟨hb2, hr, hlt⟩ := twice_setup hb1
  have HB1 := Lib.hid hb2
  have HR := Lib.hid hr
  clear hb1 hb2 hr
  go_wp2_with ((with_reducible show wpList _ _ _ _ _ _); refine wpList_store_row rfl 58 (.tmp 2) (.tmp 9) rfl w.heap.size (fC 0).toArray rfl rfl 58 _ HR.out (by kernel_rfl) rfl (fault_all _) ?_; go_frame)
  refine bodyPost_ret (results_cell_row rfl _ _ w.heap.size 58 (fC 0).toArray (0, 0) _ rfl (setRow_heap _ _ _ _ _ _ HR.out) Tryd.underlying58 rfl (by kernel_rfl)) rfl ⟨rfl, below_setRow HB1.out (Nat.le_refl _) _⟩
set_option maxRecDepth 100000 in
theorem fault_err (E : Nat → Addr) (q : Nat) (w : World) (hE : Errs w E) (hq : q < 25) : Calls Tryd.prog 33 #[errV E (q + 1)] w fun e w' => e = .returned (.agg (fC ((101 + q : Nat) : Int)).toArray) ∧ Below w.heap.size w w' := by
  obtain ⟨kk, hkk⟩ : ∃ kk : Int, kk = ((101 + q : Nat) : Int) := ⟨_, rfl⟩
  rw [← hkk]
  have hta : ∀ W, (Instr.typeAssert (.iface 74 (.pointer (some (E q)))) 34 64 true).run Tryd.prog W = .ok (.tuple #[.pointer none, .bool false]) W := fun W => by kernel_rfl
  have hb0 : ∀ o, Below w.heap.size w (w.alloc o) := fun o => (Below.refl _ _).alloc (Nat.le_refl _) o
  have HS : Hid (∀ o, Calls Tryd.prog 35 #[errV E (q + 1)] (w.alloc o) fun e w' => e = .returned (.int .i64 kk) ∧ Below (w.alloc o).heap.size (w.alloc o) w') := fun o => sentinel_any E q kk hkk _ (hE.below (hb0 o)) hq
  clear hb0 hkk hE
  show Calls Tryd.prog 33 #[.iface 74 (.pointer (some (E q)))] w _
  go_enter Tryd.func33, Tryd.ntmps33
  go_wp2_with fail
  refine (HS.out _).mono ?_
  rintro e w1 ⟨rfl, hb1⟩
  obtain ⟨hb2, hr, hlt⟩ := twice_setup hb1
  have HB0 := Lib.hid hb2
  have HR0 := Lib.hid hr
  clear hb1 hb2 hr hta
  go_wp2_with fail
  refine (bare_any kk _).mono ?_
  rintro e w2 ⟨rfl, hb2⟩
  have HR := Lib.hid ((hb2.block _ hlt).trans HR0.out)
  have HB1 := Lib.hid (HB0.out.trans (hb2.mono HB0.out.size))
  clear hb2 HB0 HR0
  go_wp2_with ((with_reducible show wpList _ _ _ _ _ _); refine wpList_store_row rfl 58 (.tmp 2) (.tmp 19) rfl w.heap.size (fC kk).toArray rfl rfl 58 _ HR.out (by kernel_rfl) rfl (fault_all _) ?_; go_frame)
  refine bodyPost_ret (results_cell_row rfl _ _ w.heap.size 58 (fC kk).toArray (0, 0) _ rfl (setRow_heap _ _ _ _ _ _ HR.out) Tryd.underlying58 rfl (by kernel_rfl)) rfl ⟨rfl, below_setRow HB1.out (Nat.le_refl _) _⟩
set_option maxRecDepth 100000 in
theorem samefault_any (a c : Int) (b : Bool) (hb : b = (a == c)) (w : World) : Calls Tryd.prog 32 #[.agg (fC a).toArray, .agg (fC c).toArray] w fun e w' => e = .returned (.bool b) ∧ Below w.heap.size w w' := by
  show Calls Tryd.prog 32 #[.agg #[.int .i64 a, .bool false, .int .i64 0, .bool false, .int .i64 0], .agg #[.int .i64 c, .bool false, .int .i64 0, .bool false, .int .i64 0]] w _
  cases b with
  | true =>
    have hq : (a == c) = true := hb.symm
    clear hb
    go_enter Tryd.func32, Tryd.ntmps32
    go_wp2
    go_ret
    exact ⟨rfl, ((Below.refl _ _).alloc (Nat.le_refl _) _).alloc (by simp) _⟩
  | false =>
    have hq : (a == c) = false := hb.symm
    clear hb
    go_enter Tryd.func32, Tryd.ntmps32
    go_wp2
    go_ret
    exact ⟨rfl, ((Below.refl _ _).alloc (Nat.le_refl _) _).alloc (by simp) _⟩
theorem fault_any (E : Nat → Addr) (c : Nat) (w : World) (hE : Errs w E) (hc : c ≤ 25) : Calls Tryd.prog 33 #[errV E c] w fun e w' => e = .returned (.agg (fC (numE c)).toArray) ∧ Below w.heap.size w w' := by
  cases c with
  | zero => exact fault_nil w
  | succ q => exact fault_err E q w hE (by omega)
set_option maxRecDepth 100000 in
theorem same_err (E : Nat → Addr) (c : Nat) (k : Int) (b : Bool) (hb : b = (numE c == k)) (w : World) (hE : Errs w E) (hc : c ≤ 25) :
    Calls Tryd.prog 30 #[errV E c, .agg (fC k).toArray] w fun e w' => e = .returned (.bool b) ∧ Below w.heap.size w w' := by
  obtain ⟨x, hx⟩ : ∃ x, x = errV E c := ⟨_, rfl⟩
  obtain ⟨n, hn⟩ : ∃ n, n = numE c := ⟨_, rfl⟩
  have HF : Hid (∀ W, Below w.heap.size w W → Calls Tryd.prog 33 #[x] W fun e w' => e = .returned (.agg (fC n).toArray) ∧ Below W.heap.size W w') := fun W hW => by rw [hx, hn]; exact fault_any E c W (hE.below hW) hc
  have HBB : Hid (b = (n == k)) := by show _ = _; rw [hn]; exact hb
  rw [← hx]
  clear hx hn hb hE hc
  go_enter Tryd.func30, Tryd.ntmps30
  go_wp2_with fail
  have e1 := heap_alloc_new w (.cells (fC k).toArray 58)
  have b1 : Below w.heap.size w (w.alloc (.cells (fC k).toArray 58)) := (Below.refl _ _).alloc (Nat.le_refl _) _
  generalize hw1 : World.alloc _ _ = w1
  have e0 : w.alloc (.cells (fC k).toArray 58) = w1 := hw1
  rw [e0] at e1 b1
  have E1 := Lib.hid e1
  have B1 := Lib.hid b1
  clear e0 hw1 e1 b1
  refine wp_region_below (by kernel_rfl) (by kernel_rfl) w1 (Below.refl _ _) ?_
  go_big_quiet_step ((intro _; rfl))
  go_big_quiet_step ((intro hw'; exact cls hw' (HF.out _ (B1.out.trans (hw'.mono B1.out.size)))))
  go_big_quiet_want
  refine quiet_load_row 58 (.tmp 3) rfl w.heap.size rfl 58 (fC k).toArray (0, 0) _ (fun w' hw' => row_below E1.out hw') Tryd.underlying58 rfl (by kernel_rfl) ?_
  go_frame
  go_big_quiet_on
  go_big_quiet_step ((intro hw'; exact cls hw' (samefault_any n k b HBB.out _)))
  go_big_quiet_step ((intro _; rfl))
  refine wpQuiet_nil ?_
  intro w2 hw2
  have B2 := Lib.hid (B1.out.trans (hw2.mono B1.out.size))
  clear hw2
  go_wp2_with fail
  go_ret
  exact ⟨rfl, B2.out⟩
set_option maxRecDepth 100000 in
/-- Is the error the one of this number? -/
theorem is_any (E : Nat → Addr) (c : Nat) (k : Int) (b : Bool) (hb : b = (numE c == k)) (w : World) (hE : Errs w E) (hc : c ≤ 25) :
    Calls Tryd.prog 16 #[errV E c, .int .i64 k] w fun e w' => e = .returned (.bool b) ∧ Below w.heap.size w w' := by
  obtain ⟨x, hx⟩ : ∃ x, x = errV E c := ⟨_, rfl⟩
  have HF : Hid (∀ W, Below w.heap.size w W → Calls Tryd.prog 30 #[x, .agg (fC k).toArray] W fun e w' => e = .returned (.bool b) ∧ Below W.heap.size W w') := fun W hW => by rw [hx]; exact same_err E c k b hb W (hE.below hW) hc
  rw [← hx]
  clear hx hb hE hc
  go_enter Tryd.func16, Tryd.ntmps16
  go_wp2_with fail
  refine (bare_any k _).mono ?_
  rintro e w1 ⟨rfl, hb1⟩
  have B1 := Lib.hid hb1
  clear hb1
  go_wp2_with fail
  refine (HF.out _ B1.out).mono ?_
  rintro e w2 ⟨rfl, hb2⟩
  have B2 := Lib.hid (B1.out.trans (hb2.mono B1.out.size))
  clear hb2
  go_wp2_with fail
  go_ret
  exact ⟨rfl, B2.out⟩
end Go.Proofs.YtdgejdecahdjkaaDoor.Sha
