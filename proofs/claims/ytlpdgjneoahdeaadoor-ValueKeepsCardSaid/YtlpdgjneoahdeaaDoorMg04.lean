/-
  Texts of this proof joined into one file: VlWith, VlRules, RewM, VlRew, VlRulesWalk, ShaMath, ShaSig. What each holds, and under which conditions, its own first sentence tells.
-/
import Derived.WalkKit
import Derived.Deep.Light
import Derived.Test.YtlpdgjneoahdeaaDoorMg03
import Derived.Test.YtlpdgjneoahdeaaDoorMg01
import Derived.Test.YtlpdgjneoahdeaaDoorProg
/-
  Rules with one number otherwise. Nothing that was there turns. No conditions.
-/
namespace Go.Proofs.YtlpdgjneoahdeaaDoor.Sha
open Go Go.RowKit
def setR (r : TRu) : Nat → Int → TRu
  | 0, n => { r with hal := n }
  | 1, n => { r with mat := n }
  | 2, n => { r with pool := n }
  | 3, n => { r with redo := n }
  | 4, n => { r with log := n }
  | 5, n => { r with anc := n }
  | 6, n => { r with ancB := n }
  | 7, n => { r with des := n }
  | _, n => { r with desB := n }
set_option maxHeartbeats 1000000 in
set_option maxRecDepth 100000 in
theorem vlwith_0 (r : TRu) (n : Int) (w : World) :
    Calls Tryd.prog 21 #[.agg (ruL r).toArray, .int .i64 0, .int .i64 n] w fun e w' => e = .returned (.agg (ruL (setR r 0 n)).toArray) ∧ Below w.heap.size w w' := by
  go_enter Tryd.func21, Tryd.ntmps21
  go_upto_region 1 with fail
  obtain ⟨b, f3, f2⟩ := boxes_two w (ruL r).toArray #[.int .i64 0, .int .i64 0, .int .i64 0, .int .i64 0, .int .i64 0, .int .i64 0, .int .i64 0, .int .i64 0, .int .i64 0] 34
  generalize hq : World.alloc _ _ = w1
  have e1 : (w.alloc (.cells (ruL r).toArray 34 (0, 0))).alloc (.cells #[.int .i64 0, .int .i64 0, .int .i64 0, .int .i64 0, .int .i64 0, .int .i64 0, .int .i64 0, .int .i64 0, .int .i64 0] 34 (0, 0)) = w1 := hq
  rw [e1] at b f2 f3
  obtain ⟨g3, hg3⟩ : ∃ g3, g3 = w.heap.size := ⟨_, rfl⟩
  obtain ⟨g2, hg2⟩ : ∃ g2, g2 = w.heap.size + 1 := ⟨_, rfl⟩
  rw [← hg3] at f3
  rw [← hg2] at f2
  rw [← hg2, ← hg3]
  have F2 := Lib.hid f2
  have F3 := Lib.hid f3
  have BB := Lib.hid b
  have G : Hid (w.heap.size ≤ g3 ∧ g3 < g2) := ⟨by omega, by omega⟩
  clear b f2 f3 hq e1 hg2 hg3
  go_upto_region 19 with ((with_reducible show wpList _ _ _ _ _ _); (refine wpList_store_part rfl 3 (.tmp 13) (.tmp 12) rfl g3 0 [] [.int .i64 r.hal] [.int .i64 r.mat, .int .i64 r.pool, .int .i64 r.redo, .int .i64 r.log, .int .i64 r.anc, .int .i64 r.ancB, .int .i64 r.des, .int .i64 r.desB] [.int .i64 n] 34 (.int .i64 n) rfl rfl rfl rfl rfl F3.out (by kernel_rfl) (fun u hu => by obtain rfl := List.mem_singleton.1 hu; rfl) ?_; intro v0 q1 q2; have F3 : Hid (v0.heap[g3]? = some (.cells ([.int .i64 n, .int .i64 r.mat, .int .i64 r.pool, .int .i64 r.redo, .int .i64 r.log, .int .i64 r.anc, .int .i64 r.ancB, .int .i64 r.des, .int .i64 r.desB] : List Value).toArray 34 (0, 0))) := q1; have F2 := Lib.hid (row_far F2.out q2 (by intro h; have := Option.some.inj h; have := G.out; omega)); have BB := Lib.hid (grownBy_below q2 BB.out (by have := G.out; omega) BB.out.size); clear q1 q2; go_frame))
  go_wp2_with ((with_reducible show wpList _ _ _ _ _ _); first | (refine wpList_load_row rfl 34 (.tmp 3) rfl g3 rfl 34 ([.int .i64 n, .int .i64 r.mat, .int .i64 r.pool, .int .i64 r.redo, .int .i64 r.log, .int .i64 r.anc, .int .i64 r.ancB, .int .i64 r.des, .int .i64 r.desB] : List Value).toArray (0, 0) _ F3.out Tryd.underlying34 rfl (by kernel_rfl) ?_; go_frame) | (refine wpList_store_row rfl 34 (.tmp 6) (.tmp 42) rfl g2 ([.int .i64 n, .int .i64 r.mat, .int .i64 r.pool, .int .i64 r.redo, .int .i64 r.log, .int .i64 r.anc, .int .i64 r.ancB, .int .i64 r.des, .int .i64 r.desB] : List Value).toArray rfl rfl 34 _ F2.out (by kernel_rfl) rfl (by kernel_rfl) ?_; go_frame))
  refine bodyPost_ret (results_cell_row rfl _ _ g2 34 ([.int .i64 n, .int .i64 r.mat, .int .i64 r.pool, .int .i64 r.redo, .int .i64 r.log, .int .i64 r.anc, .int .i64 r.ancB, .int .i64 r.des, .int .i64 r.desB] : List Value).toArray (0, 0) _ rfl (setRow_heap _ _ _ _ _ _ F2.out) Tryd.underlying34 rfl (by kernel_rfl)) rfl ?_
  exact ⟨rfl, below_setRow BB.out (by have := G.out; omega) _⟩
set_option maxHeartbeats 1000000 in
set_option maxRecDepth 100000 in
theorem vlwith_1 (r : TRu) (n : Int) (w : World) :
    Calls Tryd.prog 21 #[.agg (ruL r).toArray, .int .i64 1, .int .i64 n] w fun e w' => e = .returned (.agg (ruL (setR r 1 n)).toArray) ∧ Below w.heap.size w w' := by
  go_enter Tryd.func21, Tryd.ntmps21
  go_upto_region 1 with fail
  obtain ⟨b, f3, f2⟩ := boxes_two w (ruL r).toArray #[.int .i64 0, .int .i64 0, .int .i64 0, .int .i64 0, .int .i64 0, .int .i64 0, .int .i64 0, .int .i64 0, .int .i64 0] 34
  generalize hq : World.alloc _ _ = w1
  have e1 : (w.alloc (.cells (ruL r).toArray 34 (0, 0))).alloc (.cells #[.int .i64 0, .int .i64 0, .int .i64 0, .int .i64 0, .int .i64 0, .int .i64 0, .int .i64 0, .int .i64 0, .int .i64 0] 34 (0, 0)) = w1 := hq
  rw [e1] at b f2 f3
  obtain ⟨g3, hg3⟩ : ∃ g3, g3 = w.heap.size := ⟨_, rfl⟩
  obtain ⟨g2, hg2⟩ : ∃ g2, g2 = w.heap.size + 1 := ⟨_, rfl⟩
  rw [← hg3] at f3
  rw [← hg2] at f2
  rw [← hg2, ← hg3]
  have F2 := Lib.hid f2
  have F3 := Lib.hid f3
  have BB := Lib.hid b
  have G : Hid (w.heap.size ≤ g3 ∧ g3 < g2) := ⟨by omega, by omega⟩
  clear b f2 f3 hq e1 hg2 hg3
  go_upto_region 19 with ((with_reducible show wpList _ _ _ _ _ _); (refine wpList_store_part rfl 3 (.tmp 17) (.tmp 16) rfl g3 1 [.int .i64 r.hal] [.int .i64 r.mat] [.int .i64 r.pool, .int .i64 r.redo, .int .i64 r.log, .int .i64 r.anc, .int .i64 r.ancB, .int .i64 r.des, .int .i64 r.desB] [.int .i64 n] 34 (.int .i64 n) rfl rfl rfl rfl rfl F3.out (by kernel_rfl) (fun u hu => by obtain rfl := List.mem_singleton.1 hu; rfl) ?_; intro v0 q1 q2; have F3 : Hid (v0.heap[g3]? = some (.cells ([.int .i64 r.hal, .int .i64 n, .int .i64 r.pool, .int .i64 r.redo, .int .i64 r.log, .int .i64 r.anc, .int .i64 r.ancB, .int .i64 r.des, .int .i64 r.desB] : List Value).toArray 34 (0, 0))) := q1; have F2 := Lib.hid (row_far F2.out q2 (by intro h; have := Option.some.inj h; have := G.out; omega)); have BB := Lib.hid (grownBy_below q2 BB.out (by have := G.out; omega) BB.out.size); clear q1 q2; go_frame))
  go_wp2_with ((with_reducible show wpList _ _ _ _ _ _); first | (refine wpList_load_row rfl 34 (.tmp 3) rfl g3 rfl 34 ([.int .i64 r.hal, .int .i64 n, .int .i64 r.pool, .int .i64 r.redo, .int .i64 r.log, .int .i64 r.anc, .int .i64 r.ancB, .int .i64 r.des, .int .i64 r.desB] : List Value).toArray (0, 0) _ F3.out Tryd.underlying34 rfl (by kernel_rfl) ?_; go_frame) | (refine wpList_store_row rfl 34 (.tmp 6) (.tmp 42) rfl g2 ([.int .i64 r.hal, .int .i64 n, .int .i64 r.pool, .int .i64 r.redo, .int .i64 r.log, .int .i64 r.anc, .int .i64 r.ancB, .int .i64 r.des, .int .i64 r.desB] : List Value).toArray rfl rfl 34 _ F2.out (by kernel_rfl) rfl (by kernel_rfl) ?_; go_frame))
  refine bodyPost_ret (results_cell_row rfl _ _ g2 34 ([.int .i64 r.hal, .int .i64 n, .int .i64 r.pool, .int .i64 r.redo, .int .i64 r.log, .int .i64 r.anc, .int .i64 r.ancB, .int .i64 r.des, .int .i64 r.desB] : List Value).toArray (0, 0) _ rfl (setRow_heap _ _ _ _ _ _ F2.out) Tryd.underlying34 rfl (by kernel_rfl)) rfl ?_
  exact ⟨rfl, below_setRow BB.out (by have := G.out; omega) _⟩
set_option maxHeartbeats 1000000 in
set_option maxRecDepth 100000 in
theorem vlwith_2 (r : TRu) (n : Int) (w : World) :
    Calls Tryd.prog 21 #[.agg (ruL r).toArray, .int .i64 2, .int .i64 n] w fun e w' => e = .returned (.agg (ruL (setR r 2 n)).toArray) ∧ Below w.heap.size w w' := by
  go_enter Tryd.func21, Tryd.ntmps21
  go_upto_region 1 with fail
  obtain ⟨b, f3, f2⟩ := boxes_two w (ruL r).toArray #[.int .i64 0, .int .i64 0, .int .i64 0, .int .i64 0, .int .i64 0, .int .i64 0, .int .i64 0, .int .i64 0, .int .i64 0] 34
  generalize hq : World.alloc _ _ = w1
  have e1 : (w.alloc (.cells (ruL r).toArray 34 (0, 0))).alloc (.cells #[.int .i64 0, .int .i64 0, .int .i64 0, .int .i64 0, .int .i64 0, .int .i64 0, .int .i64 0, .int .i64 0, .int .i64 0] 34 (0, 0)) = w1 := hq
  rw [e1] at b f2 f3
  obtain ⟨g3, hg3⟩ : ∃ g3, g3 = w.heap.size := ⟨_, rfl⟩
  obtain ⟨g2, hg2⟩ : ∃ g2, g2 = w.heap.size + 1 := ⟨_, rfl⟩
  rw [← hg3] at f3
  rw [← hg2] at f2
  rw [← hg2, ← hg3]
  have F2 := Lib.hid f2
  have F3 := Lib.hid f3
  have BB := Lib.hid b
  have G : Hid (w.heap.size ≤ g3 ∧ g3 < g2) := ⟨by omega, by omega⟩
  clear b f2 f3 hq e1 hg2 hg3
  go_upto_region 19 with ((with_reducible show wpList _ _ _ _ _ _); (refine wpList_store_part rfl 3 (.tmp 21) (.tmp 20) rfl g3 2 [.int .i64 r.hal, .int .i64 r.mat] [.int .i64 r.pool] [.int .i64 r.redo, .int .i64 r.log, .int .i64 r.anc, .int .i64 r.ancB, .int .i64 r.des, .int .i64 r.desB] [.int .i64 n] 34 (.int .i64 n) rfl rfl rfl rfl rfl F3.out (by kernel_rfl) (fun u hu => by obtain rfl := List.mem_singleton.1 hu; rfl) ?_; intro v0 q1 q2; have F3 : Hid (v0.heap[g3]? = some (.cells ([.int .i64 r.hal, .int .i64 r.mat, .int .i64 n, .int .i64 r.redo, .int .i64 r.log, .int .i64 r.anc, .int .i64 r.ancB, .int .i64 r.des, .int .i64 r.desB] : List Value).toArray 34 (0, 0))) := q1; have F2 := Lib.hid (row_far F2.out q2 (by intro h; have := Option.some.inj h; have := G.out; omega)); have BB := Lib.hid (grownBy_below q2 BB.out (by have := G.out; omega) BB.out.size); clear q1 q2; go_frame))
  go_wp2_with ((with_reducible show wpList _ _ _ _ _ _); first | (refine wpList_load_row rfl 34 (.tmp 3) rfl g3 rfl 34 ([.int .i64 r.hal, .int .i64 r.mat, .int .i64 n, .int .i64 r.redo, .int .i64 r.log, .int .i64 r.anc, .int .i64 r.ancB, .int .i64 r.des, .int .i64 r.desB] : List Value).toArray (0, 0) _ F3.out Tryd.underlying34 rfl (by kernel_rfl) ?_; go_frame) | (refine wpList_store_row rfl 34 (.tmp 6) (.tmp 42) rfl g2 ([.int .i64 r.hal, .int .i64 r.mat, .int .i64 n, .int .i64 r.redo, .int .i64 r.log, .int .i64 r.anc, .int .i64 r.ancB, .int .i64 r.des, .int .i64 r.desB] : List Value).toArray rfl rfl 34 _ F2.out (by kernel_rfl) rfl (by kernel_rfl) ?_; go_frame))
  refine bodyPost_ret (results_cell_row rfl _ _ g2 34 ([.int .i64 r.hal, .int .i64 r.mat, .int .i64 n, .int .i64 r.redo, .int .i64 r.log, .int .i64 r.anc, .int .i64 r.ancB, .int .i64 r.des, .int .i64 r.desB] : List Value).toArray (0, 0) _ rfl (setRow_heap _ _ _ _ _ _ F2.out) Tryd.underlying34 rfl (by kernel_rfl)) rfl ?_
  exact ⟨rfl, below_setRow BB.out (by have := G.out; omega) _⟩
set_option maxHeartbeats 1000000 in
set_option maxRecDepth 100000 in
theorem vlwith_3 (r : TRu) (n : Int) (w : World) :
    Calls Tryd.prog 21 #[.agg (ruL r).toArray, .int .i64 3, .int .i64 n] w fun e w' => e = .returned (.agg (ruL (setR r 3 n)).toArray) ∧ Below w.heap.size w w' := by
  go_enter Tryd.func21, Tryd.ntmps21
  go_upto_region 1 with fail
  obtain ⟨b, f3, f2⟩ := boxes_two w (ruL r).toArray #[.int .i64 0, .int .i64 0, .int .i64 0, .int .i64 0, .int .i64 0, .int .i64 0, .int .i64 0, .int .i64 0, .int .i64 0] 34
  generalize hq : World.alloc _ _ = w1
  have e1 : (w.alloc (.cells (ruL r).toArray 34 (0, 0))).alloc (.cells #[.int .i64 0, .int .i64 0, .int .i64 0, .int .i64 0, .int .i64 0, .int .i64 0, .int .i64 0, .int .i64 0, .int .i64 0] 34 (0, 0)) = w1 := hq
  rw [e1] at b f2 f3
  obtain ⟨g3, hg3⟩ : ∃ g3, g3 = w.heap.size := ⟨_, rfl⟩
  obtain ⟨g2, hg2⟩ : ∃ g2, g2 = w.heap.size + 1 := ⟨_, rfl⟩
  rw [← hg3] at f3
  rw [← hg2] at f2
  rw [← hg2, ← hg3]
  have F2 := Lib.hid f2
  have F3 := Lib.hid f3
  have BB := Lib.hid b
  have G : Hid (w.heap.size ≤ g3 ∧ g3 < g2) := ⟨by omega, by omega⟩
  clear b f2 f3 hq e1 hg2 hg3
  go_upto_region 19 with ((with_reducible show wpList _ _ _ _ _ _); (refine wpList_store_part rfl 3 (.tmp 25) (.tmp 24) rfl g3 3 [.int .i64 r.hal, .int .i64 r.mat, .int .i64 r.pool] [.int .i64 r.redo] [.int .i64 r.log, .int .i64 r.anc, .int .i64 r.ancB, .int .i64 r.des, .int .i64 r.desB] [.int .i64 n] 34 (.int .i64 n) rfl rfl rfl rfl rfl F3.out (by kernel_rfl) (fun u hu => by obtain rfl := List.mem_singleton.1 hu; rfl) ?_; intro v0 q1 q2; have F3 : Hid (v0.heap[g3]? = some (.cells ([.int .i64 r.hal, .int .i64 r.mat, .int .i64 r.pool, .int .i64 n, .int .i64 r.log, .int .i64 r.anc, .int .i64 r.ancB, .int .i64 r.des, .int .i64 r.desB] : List Value).toArray 34 (0, 0))) := q1; have F2 := Lib.hid (row_far F2.out q2 (by intro h; have := Option.some.inj h; have := G.out; omega)); have BB := Lib.hid (grownBy_below q2 BB.out (by have := G.out; omega) BB.out.size); clear q1 q2; go_frame))
  go_wp2_with ((with_reducible show wpList _ _ _ _ _ _); first | (refine wpList_load_row rfl 34 (.tmp 3) rfl g3 rfl 34 ([.int .i64 r.hal, .int .i64 r.mat, .int .i64 r.pool, .int .i64 n, .int .i64 r.log, .int .i64 r.anc, .int .i64 r.ancB, .int .i64 r.des, .int .i64 r.desB] : List Value).toArray (0, 0) _ F3.out Tryd.underlying34 rfl (by kernel_rfl) ?_; go_frame) | (refine wpList_store_row rfl 34 (.tmp 6) (.tmp 42) rfl g2 ([.int .i64 r.hal, .int .i64 r.mat, .int .i64 r.pool, .int .i64 n, .int .i64 r.log, .int .i64 r.anc, .int .i64 r.ancB, .int .i64 r.des, .int .i64 r.desB] : List Value).toArray rfl rfl 34 _ F2.out (by kernel_rfl) rfl (by kernel_rfl) ?_; go_frame))
  refine bodyPost_ret (results_cell_row rfl _ _ g2 34 ([.int .i64 r.hal, .int .i64 r.mat, .int .i64 r.pool, .int .i64 n, .int .i64 r.log, .int .i64 r.anc, .int .i64 r.ancB, .int .i64 r.des, .int .i64 r.desB] : List Value).toArray (0, 0) _ rfl (setRow_heap _ _ _ _ _ _ F2.out) Tryd.underlying34 rfl (by kernel_rfl)) rfl ?_
  exact ⟨rfl, below_setRow BB.out (by have := G.out; omega) _⟩
set_option maxHeartbeats 1000000 in
set_option maxRecDepth 100000 in
theorem vlwith_4 (r : TRu) (n : Int) (w : World) :
    Calls Tryd.prog 21 #[.agg (ruL r).toArray, .int .i64 4, .int .i64 n] w fun e w' => e = .returned (.agg (ruL (setR r 4 n)).toArray) ∧ Below w.heap.size w w' := by
  go_enter Tryd.func21, Tryd.ntmps21
  go_upto_region 1 with fail
  obtain ⟨b, f3, f2⟩ := boxes_two w (ruL r).toArray #[.int .i64 0, .int .i64 0, .int .i64 0, .int .i64 0, .int .i64 0, .int .i64 0, .int .i64 0, .int .i64 0, .int .i64 0] 34
  generalize hq : World.alloc _ _ = w1
  have e1 : (w.alloc (.cells (ruL r).toArray 34 (0, 0))).alloc (.cells #[.int .i64 0, .int .i64 0, .int .i64 0, .int .i64 0, .int .i64 0, .int .i64 0, .int .i64 0, .int .i64 0, .int .i64 0] 34 (0, 0)) = w1 := hq
  rw [e1] at b f2 f3
  obtain ⟨g3, hg3⟩ : ∃ g3, g3 = w.heap.size := ⟨_, rfl⟩
  obtain ⟨g2, hg2⟩ : ∃ g2, g2 = w.heap.size + 1 := ⟨_, rfl⟩
  rw [← hg3] at f3
  rw [← hg2] at f2
  rw [← hg2, ← hg3]
  have F2 := Lib.hid f2
  have F3 := Lib.hid f3
  have BB := Lib.hid b
  have G : Hid (w.heap.size ≤ g3 ∧ g3 < g2) := ⟨by omega, by omega⟩
  clear b f2 f3 hq e1 hg2 hg3
  go_upto_region 19 with ((with_reducible show wpList _ _ _ _ _ _); (refine wpList_store_part rfl 3 (.tmp 29) (.tmp 28) rfl g3 4 [.int .i64 r.hal, .int .i64 r.mat, .int .i64 r.pool, .int .i64 r.redo] [.int .i64 r.log] [.int .i64 r.anc, .int .i64 r.ancB, .int .i64 r.des, .int .i64 r.desB] [.int .i64 n] 34 (.int .i64 n) rfl rfl rfl rfl rfl F3.out (by kernel_rfl) (fun u hu => by obtain rfl := List.mem_singleton.1 hu; rfl) ?_; intro v0 q1 q2; have F3 : Hid (v0.heap[g3]? = some (.cells ([.int .i64 r.hal, .int .i64 r.mat, .int .i64 r.pool, .int .i64 r.redo, .int .i64 n, .int .i64 r.anc, .int .i64 r.ancB, .int .i64 r.des, .int .i64 r.desB] : List Value).toArray 34 (0, 0))) := q1; have F2 := Lib.hid (row_far F2.out q2 (by intro h; have := Option.some.inj h; have := G.out; omega)); have BB := Lib.hid (grownBy_below q2 BB.out (by have := G.out; omega) BB.out.size); clear q1 q2; go_frame))
  go_wp2_with ((with_reducible show wpList _ _ _ _ _ _); first | (refine wpList_load_row rfl 34 (.tmp 3) rfl g3 rfl 34 ([.int .i64 r.hal, .int .i64 r.mat, .int .i64 r.pool, .int .i64 r.redo, .int .i64 n, .int .i64 r.anc, .int .i64 r.ancB, .int .i64 r.des, .int .i64 r.desB] : List Value).toArray (0, 0) _ F3.out Tryd.underlying34 rfl (by kernel_rfl) ?_; go_frame) | (refine wpList_store_row rfl 34 (.tmp 6) (.tmp 42) rfl g2 ([.int .i64 r.hal, .int .i64 r.mat, .int .i64 r.pool, .int .i64 r.redo, .int .i64 n, .int .i64 r.anc, .int .i64 r.ancB, .int .i64 r.des, .int .i64 r.desB] : List Value).toArray rfl rfl 34 _ F2.out (by kernel_rfl) rfl (by kernel_rfl) ?_; go_frame))
  refine bodyPost_ret (results_cell_row rfl _ _ g2 34 ([.int .i64 r.hal, .int .i64 r.mat, .int .i64 r.pool, .int .i64 r.redo, .int .i64 n, .int .i64 r.anc, .int .i64 r.ancB, .int .i64 r.des, .int .i64 r.desB] : List Value).toArray (0, 0) _ rfl (setRow_heap _ _ _ _ _ _ F2.out) Tryd.underlying34 rfl (by kernel_rfl)) rfl ?_
  exact ⟨rfl, below_setRow BB.out (by have := G.out; omega) _⟩
set_option maxHeartbeats 1000000 in
set_option maxRecDepth 100000 in
theorem vlwith_5 (r : TRu) (n : Int) (w : World) :
    Calls Tryd.prog 21 #[.agg (ruL r).toArray, .int .i64 5, .int .i64 n] w fun e w' => e = .returned (.agg (ruL (setR r 5 n)).toArray) ∧ Below w.heap.size w w' := by
  go_enter Tryd.func21, Tryd.ntmps21
  go_upto_region 1 with fail
  obtain ⟨b, f3, f2⟩ := boxes_two w (ruL r).toArray #[.int .i64 0, .int .i64 0, .int .i64 0, .int .i64 0, .int .i64 0, .int .i64 0, .int .i64 0, .int .i64 0, .int .i64 0] 34
  generalize hq : World.alloc _ _ = w1
  have e1 : (w.alloc (.cells (ruL r).toArray 34 (0, 0))).alloc (.cells #[.int .i64 0, .int .i64 0, .int .i64 0, .int .i64 0, .int .i64 0, .int .i64 0, .int .i64 0, .int .i64 0, .int .i64 0] 34 (0, 0)) = w1 := hq
  rw [e1] at b f2 f3
  obtain ⟨g3, hg3⟩ : ∃ g3, g3 = w.heap.size := ⟨_, rfl⟩
  obtain ⟨g2, hg2⟩ : ∃ g2, g2 = w.heap.size + 1 := ⟨_, rfl⟩
  rw [← hg3] at f3
  rw [← hg2] at f2
  rw [← hg2, ← hg3]
  have F2 := Lib.hid f2
  have F3 := Lib.hid f3
  have BB := Lib.hid b
  have G : Hid (w.heap.size ≤ g3 ∧ g3 < g2) := ⟨by omega, by omega⟩
  clear b f2 f3 hq e1 hg2 hg3
  go_upto_region 19 with ((with_reducible show wpList _ _ _ _ _ _); (refine wpList_store_part rfl 3 (.tmp 33) (.tmp 32) rfl g3 5 [.int .i64 r.hal, .int .i64 r.mat, .int .i64 r.pool, .int .i64 r.redo, .int .i64 r.log] [.int .i64 r.anc] [.int .i64 r.ancB, .int .i64 r.des, .int .i64 r.desB] [.int .i64 n] 34 (.int .i64 n) rfl rfl rfl rfl rfl F3.out (by kernel_rfl) (fun u hu => by obtain rfl := List.mem_singleton.1 hu; rfl) ?_; intro v0 q1 q2; have F3 : Hid (v0.heap[g3]? = some (.cells ([.int .i64 r.hal, .int .i64 r.mat, .int .i64 r.pool, .int .i64 r.redo, .int .i64 r.log, .int .i64 n, .int .i64 r.ancB, .int .i64 r.des, .int .i64 r.desB] : List Value).toArray 34 (0, 0))) := q1; have F2 := Lib.hid (row_far F2.out q2 (by intro h; have := Option.some.inj h; have := G.out; omega)); have BB := Lib.hid (grownBy_below q2 BB.out (by have := G.out; omega) BB.out.size); clear q1 q2; go_frame))
  go_wp2_with ((with_reducible show wpList _ _ _ _ _ _); first | (refine wpList_load_row rfl 34 (.tmp 3) rfl g3 rfl 34 ([.int .i64 r.hal, .int .i64 r.mat, .int .i64 r.pool, .int .i64 r.redo, .int .i64 r.log, .int .i64 n, .int .i64 r.ancB, .int .i64 r.des, .int .i64 r.desB] : List Value).toArray (0, 0) _ F3.out Tryd.underlying34 rfl (by kernel_rfl) ?_; go_frame) | (refine wpList_store_row rfl 34 (.tmp 6) (.tmp 42) rfl g2 ([.int .i64 r.hal, .int .i64 r.mat, .int .i64 r.pool, .int .i64 r.redo, .int .i64 r.log, .int .i64 n, .int .i64 r.ancB, .int .i64 r.des, .int .i64 r.desB] : List Value).toArray rfl rfl 34 _ F2.out (by kernel_rfl) rfl (by kernel_rfl) ?_; go_frame))
  refine bodyPost_ret (results_cell_row rfl _ _ g2 34 ([.int .i64 r.hal, .int .i64 r.mat, .int .i64 r.pool, .int .i64 r.redo, .int .i64 r.log, .int .i64 n, .int .i64 r.ancB, .int .i64 r.des, .int .i64 r.desB] : List Value).toArray (0, 0) _ rfl (setRow_heap _ _ _ _ _ _ F2.out) Tryd.underlying34 rfl (by kernel_rfl)) rfl ?_
  exact ⟨rfl, below_setRow BB.out (by have := G.out; omega) _⟩
set_option maxHeartbeats 1000000 in
set_option maxRecDepth 100000 in
theorem vlwith_6 (r : TRu) (n : Int) (w : World) :
    Calls Tryd.prog 21 #[.agg (ruL r).toArray, .int .i64 6, .int .i64 n] w fun e w' => e = .returned (.agg (ruL (setR r 6 n)).toArray) ∧ Below w.heap.size w w' := by
  go_enter Tryd.func21, Tryd.ntmps21
  go_upto_region 1 with fail
  obtain ⟨b, f3, f2⟩ := boxes_two w (ruL r).toArray #[.int .i64 0, .int .i64 0, .int .i64 0, .int .i64 0, .int .i64 0, .int .i64 0, .int .i64 0, .int .i64 0, .int .i64 0] 34
  generalize hq : World.alloc _ _ = w1
  have e1 : (w.alloc (.cells (ruL r).toArray 34 (0, 0))).alloc (.cells #[.int .i64 0, .int .i64 0, .int .i64 0, .int .i64 0, .int .i64 0, .int .i64 0, .int .i64 0, .int .i64 0, .int .i64 0] 34 (0, 0)) = w1 := hq
  rw [e1] at b f2 f3
  obtain ⟨g3, hg3⟩ : ∃ g3, g3 = w.heap.size := ⟨_, rfl⟩
  obtain ⟨g2, hg2⟩ : ∃ g2, g2 = w.heap.size + 1 := ⟨_, rfl⟩
  rw [← hg3] at f3
  rw [← hg2] at f2
  rw [← hg2, ← hg3]
  have F2 := Lib.hid f2
  have F3 := Lib.hid f3
  have BB := Lib.hid b
  have G : Hid (w.heap.size ≤ g3 ∧ g3 < g2) := ⟨by omega, by omega⟩
  clear b f2 f3 hq e1 hg2 hg3
  go_upto_region 19 with ((with_reducible show wpList _ _ _ _ _ _); (refine wpList_store_part rfl 3 (.tmp 37) (.tmp 36) rfl g3 6 [.int .i64 r.hal, .int .i64 r.mat, .int .i64 r.pool, .int .i64 r.redo, .int .i64 r.log, .int .i64 r.anc] [.int .i64 r.ancB] [.int .i64 r.des, .int .i64 r.desB] [.int .i64 n] 34 (.int .i64 n) rfl rfl rfl rfl rfl F3.out (by kernel_rfl) (fun u hu => by obtain rfl := List.mem_singleton.1 hu; rfl) ?_; intro v0 q1 q2; have F3 : Hid (v0.heap[g3]? = some (.cells ([.int .i64 r.hal, .int .i64 r.mat, .int .i64 r.pool, .int .i64 r.redo, .int .i64 r.log, .int .i64 r.anc, .int .i64 n, .int .i64 r.des, .int .i64 r.desB] : List Value).toArray 34 (0, 0))) := q1; have F2 := Lib.hid (row_far F2.out q2 (by intro h; have := Option.some.inj h; have := G.out; omega)); have BB := Lib.hid (grownBy_below q2 BB.out (by have := G.out; omega) BB.out.size); clear q1 q2; go_frame))
  go_wp2_with ((with_reducible show wpList _ _ _ _ _ _); first | (refine wpList_load_row rfl 34 (.tmp 3) rfl g3 rfl 34 ([.int .i64 r.hal, .int .i64 r.mat, .int .i64 r.pool, .int .i64 r.redo, .int .i64 r.log, .int .i64 r.anc, .int .i64 n, .int .i64 r.des, .int .i64 r.desB] : List Value).toArray (0, 0) _ F3.out Tryd.underlying34 rfl (by kernel_rfl) ?_; go_frame) | (refine wpList_store_row rfl 34 (.tmp 6) (.tmp 42) rfl g2 ([.int .i64 r.hal, .int .i64 r.mat, .int .i64 r.pool, .int .i64 r.redo, .int .i64 r.log, .int .i64 r.anc, .int .i64 n, .int .i64 r.des, .int .i64 r.desB] : List Value).toArray rfl rfl 34 _ F2.out (by kernel_rfl) rfl (by kernel_rfl) ?_; go_frame))
  refine bodyPost_ret (results_cell_row rfl _ _ g2 34 ([.int .i64 r.hal, .int .i64 r.mat, .int .i64 r.pool, .int .i64 r.redo, .int .i64 r.log, .int .i64 r.anc, .int .i64 n, .int .i64 r.des, .int .i64 r.desB] : List Value).toArray (0, 0) _ rfl (setRow_heap _ _ _ _ _ _ F2.out) Tryd.underlying34 rfl (by kernel_rfl)) rfl ?_
  exact ⟨rfl, below_setRow BB.out (by have := G.out; omega) _⟩
set_option maxHeartbeats 1000000 in
set_option maxRecDepth 100000 in
theorem vlwith_7 (r : TRu) (n : Int) (w : World) :
    Calls Tryd.prog 21 #[.agg (ruL r).toArray, .int .i64 7, .int .i64 n] w fun e w' => e = .returned (.agg (ruL (setR r 7 n)).toArray) ∧ Below w.heap.size w w' := by
  go_enter Tryd.func21, Tryd.ntmps21
  go_upto_region 1 with fail
  obtain ⟨b, f3, f2⟩ := boxes_two w (ruL r).toArray #[.int .i64 0, .int .i64 0, .int .i64 0, .int .i64 0, .int .i64 0, .int .i64 0, .int .i64 0, .int .i64 0, .int .i64 0] 34
  generalize hq : World.alloc _ _ = w1
  have e1 : (w.alloc (.cells (ruL r).toArray 34 (0, 0))).alloc (.cells #[.int .i64 0, .int .i64 0, .int .i64 0, .int .i64 0, .int .i64 0, .int .i64 0, .int .i64 0, .int .i64 0, .int .i64 0] 34 (0, 0)) = w1 := hq
  rw [e1] at b f2 f3
  obtain ⟨g3, hg3⟩ : ∃ g3, g3 = w.heap.size := ⟨_, rfl⟩
  obtain ⟨g2, hg2⟩ : ∃ g2, g2 = w.heap.size + 1 := ⟨_, rfl⟩
  rw [← hg3] at f3
  rw [← hg2] at f2
  rw [← hg2, ← hg3]
  have F2 := Lib.hid f2
  have F3 := Lib.hid f3
  have BB := Lib.hid b
  have G : Hid (w.heap.size ≤ g3 ∧ g3 < g2) := ⟨by omega, by omega⟩
  clear b f2 f3 hq e1 hg2 hg3
  go_upto_region 19 with ((with_reducible show wpList _ _ _ _ _ _); (refine wpList_store_part rfl 3 (.tmp 41) (.tmp 40) rfl g3 7 [.int .i64 r.hal, .int .i64 r.mat, .int .i64 r.pool, .int .i64 r.redo, .int .i64 r.log, .int .i64 r.anc, .int .i64 r.ancB] [.int .i64 r.des] [.int .i64 r.desB] [.int .i64 n] 34 (.int .i64 n) rfl rfl rfl rfl rfl F3.out (by kernel_rfl) (fun u hu => by obtain rfl := List.mem_singleton.1 hu; rfl) ?_; intro v0 q1 q2; have F3 : Hid (v0.heap[g3]? = some (.cells ([.int .i64 r.hal, .int .i64 r.mat, .int .i64 r.pool, .int .i64 r.redo, .int .i64 r.log, .int .i64 r.anc, .int .i64 r.ancB, .int .i64 n, .int .i64 r.desB] : List Value).toArray 34 (0, 0))) := q1; have F2 := Lib.hid (row_far F2.out q2 (by intro h; have := Option.some.inj h; have := G.out; omega)); have BB := Lib.hid (grownBy_below q2 BB.out (by have := G.out; omega) BB.out.size); clear q1 q2; go_frame))
  go_wp2_with ((with_reducible show wpList _ _ _ _ _ _); first | (refine wpList_load_row rfl 34 (.tmp 3) rfl g3 rfl 34 ([.int .i64 r.hal, .int .i64 r.mat, .int .i64 r.pool, .int .i64 r.redo, .int .i64 r.log, .int .i64 r.anc, .int .i64 r.ancB, .int .i64 n, .int .i64 r.desB] : List Value).toArray (0, 0) _ F3.out Tryd.underlying34 rfl (by kernel_rfl) ?_; go_frame) | (refine wpList_store_row rfl 34 (.tmp 6) (.tmp 42) rfl g2 ([.int .i64 r.hal, .int .i64 r.mat, .int .i64 r.pool, .int .i64 r.redo, .int .i64 r.log, .int .i64 r.anc, .int .i64 r.ancB, .int .i64 n, .int .i64 r.desB] : List Value).toArray rfl rfl 34 _ F2.out (by kernel_rfl) rfl (by kernel_rfl) ?_; go_frame))
  refine bodyPost_ret (results_cell_row rfl _ _ g2 34 ([.int .i64 r.hal, .int .i64 r.mat, .int .i64 r.pool, .int .i64 r.redo, .int .i64 r.log, .int .i64 r.anc, .int .i64 r.ancB, .int .i64 n, .int .i64 r.desB] : List Value).toArray (0, 0) _ rfl (setRow_heap _ _ _ _ _ _ F2.out) Tryd.underlying34 rfl (by kernel_rfl)) rfl ?_
  exact ⟨rfl, below_setRow BB.out (by have := G.out; omega) _⟩
set_option maxHeartbeats 1000000 in
set_option maxRecDepth 100000 in
theorem vlwith_8 (r : TRu) (n : Int) (w : World) :
    Calls Tryd.prog 21 #[.agg (ruL r).toArray, .int .i64 8, .int .i64 n] w fun e w' => e = .returned (.agg (ruL (setR r 8 n)).toArray) ∧ Below w.heap.size w w' := by
  go_enter Tryd.func21, Tryd.ntmps21
  go_upto_region 1 with fail
  obtain ⟨b, f3, f2⟩ := boxes_two w (ruL r).toArray #[.int .i64 0, .int .i64 0, .int .i64 0, .int .i64 0, .int .i64 0, .int .i64 0, .int .i64 0, .int .i64 0, .int .i64 0] 34
  generalize hq : World.alloc _ _ = w1
  have e1 : (w.alloc (.cells (ruL r).toArray 34 (0, 0))).alloc (.cells #[.int .i64 0, .int .i64 0, .int .i64 0, .int .i64 0, .int .i64 0, .int .i64 0, .int .i64 0, .int .i64 0, .int .i64 0] 34 (0, 0)) = w1 := hq
  rw [e1] at b f2 f3
  obtain ⟨g3, hg3⟩ : ∃ g3, g3 = w.heap.size := ⟨_, rfl⟩
  obtain ⟨g2, hg2⟩ : ∃ g2, g2 = w.heap.size + 1 := ⟨_, rfl⟩
  rw [← hg3] at f3
  rw [← hg2] at f2
  rw [← hg2, ← hg3]
  have F2 := Lib.hid f2
  have F3 := Lib.hid f3
  have BB := Lib.hid b
  have G : Hid (w.heap.size ≤ g3 ∧ g3 < g2) := ⟨by omega, by omega⟩
  clear b f2 f3 hq e1 hg2 hg3
  go_upto_region 19 with ((with_reducible show wpList _ _ _ _ _ _); (refine wpList_store_part rfl 3 (.tmp 9) (.tmp 8) rfl g3 8 [.int .i64 r.hal, .int .i64 r.mat, .int .i64 r.pool, .int .i64 r.redo, .int .i64 r.log, .int .i64 r.anc, .int .i64 r.ancB, .int .i64 r.des] [.int .i64 r.desB] [] [.int .i64 n] 34 (.int .i64 n) rfl rfl rfl rfl rfl F3.out (by kernel_rfl) (fun u hu => by obtain rfl := List.mem_singleton.1 hu; rfl) ?_; intro v0 q1 q2; have F3 : Hid (v0.heap[g3]? = some (.cells ([.int .i64 r.hal, .int .i64 r.mat, .int .i64 r.pool, .int .i64 r.redo, .int .i64 r.log, .int .i64 r.anc, .int .i64 r.ancB, .int .i64 r.des, .int .i64 n] : List Value).toArray 34 (0, 0))) := q1; have F2 := Lib.hid (row_far F2.out q2 (by intro h; have := Option.some.inj h; have := G.out; omega)); have BB := Lib.hid (grownBy_below q2 BB.out (by have := G.out; omega) BB.out.size); clear q1 q2; go_frame))
  go_wp2_with ((with_reducible show wpList _ _ _ _ _ _); first | (refine wpList_load_row rfl 34 (.tmp 3) rfl g3 rfl 34 ([.int .i64 r.hal, .int .i64 r.mat, .int .i64 r.pool, .int .i64 r.redo, .int .i64 r.log, .int .i64 r.anc, .int .i64 r.ancB, .int .i64 r.des, .int .i64 n] : List Value).toArray (0, 0) _ F3.out Tryd.underlying34 rfl (by kernel_rfl) ?_; go_frame) | (refine wpList_store_row rfl 34 (.tmp 6) (.tmp 42) rfl g2 ([.int .i64 r.hal, .int .i64 r.mat, .int .i64 r.pool, .int .i64 r.redo, .int .i64 r.log, .int .i64 r.anc, .int .i64 r.ancB, .int .i64 r.des, .int .i64 n] : List Value).toArray rfl rfl 34 _ F2.out (by kernel_rfl) rfl (by kernel_rfl) ?_; go_frame))
  refine bodyPost_ret (results_cell_row rfl _ _ g2 34 ([.int .i64 r.hal, .int .i64 r.mat, .int .i64 r.pool, .int .i64 r.redo, .int .i64 r.log, .int .i64 r.anc, .int .i64 r.ancB, .int .i64 r.des, .int .i64 n] : List Value).toArray (0, 0) _ rfl (setRow_heap _ _ _ _ _ _ F2.out) Tryd.underlying34 rfl (by kernel_rfl)) rfl ?_
  exact ⟨rfl, below_setRow BB.out (by have := G.out; omega) _⟩
theorem vlwith_any (r : TRu) (k : Nat) (n : Int) (w : World) (hk : k < 9) :
    Calls Tryd.prog 21 #[.agg (ruL r).toArray, .int .i64 (k : Int), .int .i64 n] w fun e w' => e = .returned (.agg (ruL (setR r k n)).toArray) ∧ Below w.heap.size w w' := by
  match k, hk with
  | 0, _ => exact vlwith_0 r n w
  | 1, _ => exact vlwith_1 r n w
  | 2, _ => exact vlwith_2 r n w
  | 3, _ => exact vlwith_3 r n w
  | 4, _ => exact vlwith_4 r n w
  | 5, _ => exact vlwith_5 r n w
  | 6, _ => exact vlwith_6 r n w
  | 7, _ => exact vlwith_7 r n w
  | 8, _ => exact vlwith_8 r n w
end Go.Proofs.YtlpdgjneoahdeaaDoor.Sha

/-
  Package value: whether a chain's rules may be. Nothing that was there turns. Condition: the error ErrRange is there.
-/
namespace Go.Proofs.YtlpdgjneoahdeaaDoor.Sha
open Go Go.RowKit
def RnE (w : World) (E : Nat → Addr) : Prop := w.cell? ⟨4, 0, none⟩ = some (errV E 22)
theorem Errs.rng {w : World} {E : Nat → Addr} (h : Errs w E) : RnE w E := (h.1 21 (by omega)).1
def rnL (r : TRu) : List Value := ((ruT r).map fun e => [Value.int .i64 e.1, .int .i64 e.2.1, .int .i64 e.2.2]).flatten
theorem rnL_at (r : TRu) {k : Nat} {e : Int × Int × Int} (h : (ruT r)[k]? = some e) {w : World} {g : Nat} {t : TypeId} (hg : w.heap[g]? = some (.cells (rnL r).toArray t (0, 0))) : w.rangeAt g (k * 3) [.int .i64 e.1, .int .i64 e.2.1, .int .i64 e.2.2] := by
  have hk : k < 9 := (List.getElem?_eq_some_iff.1 h).1
  have hr := range_of_box hg
  intro j v hj
  have hj3 : j < 3 := (List.getElem?_eq_some_iff.1 hj).1
  have : (rnL r)[k * 3 + j]? = some v := by
    match k, hk, h with
    | 0, _, h => cases h; match j, hj3, hj with
      | 0, _, hj => exact hj
      | 1, _, hj => exact hj
      | 2, _, hj => exact hj
    | 1, _, h => cases h; match j, hj3, hj with
      | 0, _, hj => exact hj
      | 1, _, hj => exact hj
      | 2, _, hj => exact hj
    | 2, _, h => cases h; match j, hj3, hj with
      | 0, _, hj => exact hj
      | 1, _, hj => exact hj
      | 2, _, hj => exact hj
    | 3, _, h => cases h; match j, hj3, hj with
      | 0, _, hj => exact hj
      | 1, _, hj => exact hj
      | 2, _, hj => exact hj
    | 4, _, h => cases h; match j, hj3, hj with
      | 0, _, hj => exact hj
      | 1, _, hj => exact hj
      | 2, _, hj => exact hj
    | 5, _, h => cases h; match j, hj3, hj with
      | 0, _, hj => exact hj
      | 1, _, hj => exact hj
      | 2, _, hj => exact hj
    | 6, _, h => cases h; match j, hj3, hj with
      | 0, _, hj => exact hj
      | 1, _, hj => exact hj
      | 2, _, hj => exact hj
    | 7, _, h => cases h; match j, hj3, hj with
      | 0, _, hj => exact hj
      | 1, _, hj => exact hj
      | 2, _, hj => exact hj
    | 8, _, h => cases h; match j, hj3, hj with
      | 0, _, hj => exact hj
      | 1, _, hj => exact hj
      | 2, _, hj => exact hj
  have h2 := hr (k * 3 + j) v this
  rwa [Nat.zero_add] at h2
def RnI (r : TRu) (w : World) (g : Nat) (vi : Value) (wr : World) : Prop := ∃ k : Nat, vi = .int .i64 (k : Int) ∧ k ≤ 9 ∧ (∀ j e, j < k → (ruT r)[j]? = some e → okI e.1 e.2.1 e.2.2 = true) ∧ wr.heap[g]? = some (.cells (rnL r).toArray 84 (0, 0)) ∧ Below w.heap.size w wr
set_option maxHeartbeats 1000000 in
set_option maxRecDepth 100000 in
theorem vlrules_any (E : Nat → Addr) (r : TRu) (w : World) (hE : RnE w E) : Calls Tryd.prog 16 #[.agg (ruL r).toArray] w fun e w' => e = .returned (errV E (if rulesB r then 0 else 22)) ∧ Below w.heap.size w w' := by
  have RE := Lib.hid hE
  obtain ⟨ans, han⟩ : ∃ ans, ans = errV E (if rulesB r then 0 else 22) := ⟨_, rfl⟩
  have AT : Hid (rulesB r = true → ans = .nilIface) := fun h => by rw [han, if_pos h]; rfl
  have AF : Hid (rulesB r = false → ans = .iface 114 (.pointer (some (E 21)))) := fun h => by rw [han, h]; rfl
  rw [← han]
  have f1 := heap_alloc_new w (.cells (ruL r).toArray 34 (0, 0))
  have b1 := (Below.refl w.heap.size w).alloc (Nat.le_refl _) (.cells (ruL r).toArray 34 (0, 0))
  have c0 : (w.alloc (.cells (ruL r).toArray 34 (0, 0))).cell? ⟨w.heap.size, 0, none⟩ = some (.int .i64 r.hal) := by rw [cell_of_row _ _ _ _ _ _ f1]; rfl
  have c1 : (w.alloc (.cells (ruL r).toArray 34 (0, 0))).cell? ⟨w.heap.size, 1, none⟩ = some (.int .i64 r.mat) := by rw [cell_of_row _ _ _ _ _ _ f1]; rfl
  have c2 : (w.alloc (.cells (ruL r).toArray 34 (0, 0))).cell? ⟨w.heap.size, 2, none⟩ = some (.int .i64 r.pool) := by rw [cell_of_row _ _ _ _ _ _ f1]; rfl
  have c3 : (w.alloc (.cells (ruL r).toArray 34 (0, 0))).cell? ⟨w.heap.size, 3, none⟩ = some (.int .i64 r.redo) := by rw [cell_of_row _ _ _ _ _ _ f1]; rfl
  have c4 : (w.alloc (.cells (ruL r).toArray 34 (0, 0))).cell? ⟨w.heap.size, 4, none⟩ = some (.int .i64 r.log) := by rw [cell_of_row _ _ _ _ _ _ f1]; rfl
  have c5 : (w.alloc (.cells (ruL r).toArray 34 (0, 0))).cell? ⟨w.heap.size, 5, none⟩ = some (.int .i64 r.anc) := by rw [cell_of_row _ _ _ _ _ _ f1]; rfl
  have c6 : (w.alloc (.cells (ruL r).toArray 34 (0, 0))).cell? ⟨w.heap.size, 6, none⟩ = some (.int .i64 r.ancB) := by rw [cell_of_row _ _ _ _ _ _ f1]; rfl
  have c7 : (w.alloc (.cells (ruL r).toArray 34 (0, 0))).cell? ⟨w.heap.size, 7, none⟩ = some (.int .i64 r.des) := by rw [cell_of_row _ _ _ _ _ _ f1]; rfl
  have c8 : (w.alloc (.cells (ruL r).toArray 34 (0, 0))).cell? ⟨w.heap.size, 8, none⟩ = some (.int .i64 r.desB) := by rw [cell_of_row _ _ _ _ _ _ f1]; rfl
  clear hE han
  go_enter Tryd.func16, Tryd.ntmps16
  go_upto_region 1 with fail
  generalize hq : World.alloc _ _ = w1
  have e1 : w.alloc (.cells (ruL r).toArray 34 (0, 0)) = w1 := hq
  rw [e1] at f1 b1 c0 c1 c2 c3 c4 c5 c6 c7 c8
  have B1 := Lib.hid b1
  clear hq e1 f1 b1
  go_wp2_with fail
  have f2 := heap_alloc_new w1 (.cells (rnL r).toArray 84 (0, 0))
  have b2 := B1.out.alloc B1.out.size (.cells (rnL r).toArray 84 (0, 0))
  generalize hq2 : World.alloc _ _ = w2
  have e2 : w1.alloc (.cells (rnL r).toArray 84 (0, 0)) = w2 := hq2
  rw [e2] at f2 b2
  obtain ⟨g, hg⟩ : ∃ g, g = w1.heap.size := ⟨_, rfl⟩
  rw [← hg] at f2 ⊢
  have F2 := Lib.hid f2
  have B2 := Lib.hid b2
  clear f2 b2 hq2 e2 hg B1 c0 c1 c2 c3 c4 c5 c6 c7 c8
  go_loopw [34] (fun vi wr => RnI r w2 g vi wr) (fun vi _ => 9 - (intOf vi).toNat)
  case atStart => exact ⟨0, rfl, Nat.zero_le _, fun j e hj => absurd hj (by omega), F2.out, Below.refl _ _⟩
  case round =>
    clear F2
    obtain ⟨k, rfl, hk, hlow, hrow, hbel⟩ := hrel
    have LOW := Lib.hid hlow
    have F2 := Lib.hid hrow
    have B := Lib.hid hbel
    have BB := Lib.hid (B2.out.trans (hbel.mono B2.out.size))
    clear hlow hrow hbel
    by_cases hlt : k < 9
    · obtain ⟨⟨a, lo, hi⟩, he⟩ : ∃ e, (ruT r)[k]? = some e := ⟨_, List.getElem?_eq_getElem hlt⟩
      have R := Lib.hid (rnL_at r he F2.out)
      have E0 := Lib.hid he
      clear he
      have p0 : 0 ≤ (k : Int) := by omega
      have q0 : (k : Int) < 9 := by omega
      have f5 := heap_alloc_new wr (.cells [.int .i64 a, .int .i64 lo, .int .i64 hi].toArray 84 (0, 0))
      have b5 := (Below.refl wr.heap.size wr).alloc (Nat.le_refl _) (.cells [.int .i64 a, .int .i64 lo, .int .i64 hi].toArray 84 (0, 0))
      go_upto_region 4 with ((with_reducible show wpList _ _ _ _ _ _); (refine wpList_load_mid rfl 84 (.tmp 36) rfl g (k * 3) rfl [.int .i64 a, .int .i64 lo, .int .i64 hi] _ R.out Tryd.underlying84 rfl (by kernel_rfl) ?_; go_frame))
      generalize hq5 : World.alloc _ _ = w5
      have e5 : wr.alloc (.cells [.int .i64 a, .int .i64 lo, .int .i64 hi].toArray 84 (0, 0)) = w5 := hq5
      rw [e5] at f5 b5
      obtain ⟨g5, hg5⟩ : ∃ g5, g5 = wr.heap.size := ⟨_, rfl⟩
      have F25 := Lib.hid (row_below F2.out b5)
      have B5 := Lib.hid (BB.out.trans (b5.mono BB.out.size))
      have BR := Lib.hid (B.out.trans (b5.mono B.out.size))
      rw [← hg5] at f5 ⊢
      have d0 : w5.cell? ⟨g5, 0, none⟩ = some (.int .i64 a) := by rw [cell_of_row _ _ _ _ _ _ f5]; rfl
      have d1 : w5.cell? ⟨g5, 1, none⟩ = some (.int .i64 lo) := by rw [cell_of_row _ _ _ _ _ _ f5]; rfl
      have d2 : w5.cell? ⟨g5, 2, none⟩ = some (.int .i64 hi) := by rw [cell_of_row _ _ _ _ _ _ f5]; rfl
      clear f5 b5 hq5 e5 hg5
      by_cases h1 : a < lo
      · have RF : Hid (rulesB r = false) := by
          show _ = _
          rw [rulesB_all, List.all_eq_false]
          exact ⟨_, List.mem_of_getElem? E0.out, by show ¬ (okI a lo hi = true); unfold okI; simp; omega⟩
        have qe : w5.cell? ⟨4, 0, none⟩ = some (.iface 114 (.pointer (some (E 21)))) := by rw [B5.out.cell (World.block_lt_of_cell? w _ RE.out)]; exact RE.out
        go_wp2_with fail
        go_ret
        exact ⟨by rw [AF.out RF.out]; rfl, B5.out⟩
      by_cases h2 : hi < a
      · have RF : Hid (rulesB r = false) := by
          show _ = _
          rw [rulesB_all, List.all_eq_false]
          exact ⟨_, List.mem_of_getElem? E0.out, by show ¬ (okI a lo hi = true); unfold okI; simp; omega⟩
        have qe : w5.cell? ⟨4, 0, none⟩ = some (.iface 114 (.pointer (some (E 21)))) := by rw [B5.out.cell (World.block_lt_of_cell? w _ RE.out)]; exact RE.out
        go_wp2_with fail
        go_ret
        exact ⟨by rw [AF.out RF.out]; rfl, B5.out⟩
      have OK : Hid (okI a lo hi = true) := by show _ = _; unfold okI; simp; omega
      go_wp2_with fail
      go_roundw
      case rel =>
        refine ⟨k + 1, by go_num, by omega, fun j e hj he => ?_, F25.out, BR.out⟩
        by_cases hjk : j < k
        · exact LOW.out j e hjk he
        · have ej : j = k := by omega
          rw [ej, E0.out] at he
          cases he
          exact OK.out
      case measure => simp [intOf]; omega
    · have hkn : k = 9 := by omega
      have hge : ¬ (k : Int) < 9 := by omega
      have RT : Hid (rulesB r = true) := by
        show _ = _
        rw [rulesB_all, List.all_eq_true]
        intro e he
        obtain ⟨j, hj⟩ := List.getElem?_of_mem he
        exact LOW.out j e (by have := (List.getElem?_eq_some_iff.1 hj).1; rw [hkn]; exact this) hj
      clear hkn
      go_wp2_with fail
      go_ret
      exact ⟨by rw [AT.out RT.out]; rfl, BB.out⟩
end Go.Proofs.YtlpdgjneoahdeaaDoor.Sha

/-
  The reward at a height, as a number: pure. Conditions: none.
-/
namespace Go.Proofs.YtlpdgjneoahdeaaDoor.Sha
open Go Go.RowKit
def rewN (height halving : Int) : Nat := if height < 0 ∨ halving < 1 ∨ 64 ≤ height.tdiv halving then 0 else 5000000000 / 2 ^ (height.tdiv halving).toNat
end Go.Proofs.YtlpdgjneoahdeaaDoor.Sha

/-
  Package value's reward at a height; the law's own examples. Nothing that was there turns. Conditions: numbers that an int holds.
-/
namespace Go.Proofs.YtlpdgjneoahdeaaDoor.Sha
open Go Go.RowKit
set_option maxHeartbeats 1000000 in
set_option maxRecDepth 100000 in
theorem vlreward_any (w : World) (height halving : Int) (h0 : -9223372036854775808 ≤ height) (h1 : height ≤ 9223372036854775807) :
    Calls Tryd.prog 10 #[.int .i64 height, .int .i64 halving] w fun e w' => e = .returned (.int .u64 (rewN height halving : Int)) ∧ w = w' := by
  by_cases hn : height < 0
  · have AE : Hid (rewN height halving = 0) := by show _ = _; unfold rewN; rw [if_pos (.inl hn)]
    go_enter Tryd.func10, Tryd.ntmps10
    go_wp2_with fail
    go_ret
    exact ⟨by rw [AE.out]; rfl, rfl⟩
  by_cases hv : halving < 1
  · have AE : Hid (rewN height halving = 0) := by show _ = _; unfold rewN; rw [if_pos (.inr (.inl hv))]
    go_enter Tryd.func10, Tryd.ntmps10
    go_wp2_with fail
    go_ret
    exact ⟨by rw [AE.out]; rfl, rfl⟩
  have hw : IntKind.i64.wrap (height.tdiv halving) = height.tdiv halving := wrap_i64_tdiv height halving (by omega) h1 (by omega)
  have hz : (halving == 0) = false := beq_eq_false_iff_ne.2 (by omega)
  have hp : 0 ≤ height.tdiv halving := Int.tdiv_nonneg (by omega) (by omega)
  obtain ⟨q, hq⟩ : ∃ q : Nat, height.tdiv halving = (q : Int) := ⟨(height.tdiv halving).toNat, by omega⟩
  have AE : Hid ((5000000000 / 2 ^ min q 64 : Int) = (rewN height halving : Int)) := by
    show _ = _
    have e : (rewN height halving) = 5000000000 / 2 ^ min q 64 := by
      unfold rewN
      by_cases h64 : 64 ≤ height.tdiv halving
      · rw [if_pos (.inr (.inr h64)), Nat.min_eq_right (by omega)]
      · rw [if_neg (by omega), hq, Int.toNat_natCast, Nat.min_eq_left (by omega)]
    rw [e]
    simp
  rw [hq] at hw hp
  go_enter Tryd.func10, Tryd.ntmps10
  go_wp2_with fail
  go_ret
  exact ⟨by rw [← AE.out]; rfl, rfl⟩
set_option maxHeartbeats 1000000 in
set_option maxRecDepth 100000 in
theorem vlfirst_any (w : World) : Calls Tryd.prog 6 #[] w fun e w' => e = .returned (.bool true) ∧ w = w' := by
  have R1 : Hid (∀ W, Calls Tryd.prog 10 #[.int .i64 0, .int .i64 10] W fun e w' => e = .returned (.int .u64 5000000000) ∧ W = w') := fun W => vlreward_any W 0 10 (by omega) (by omega)
  have R2 : Hid (∀ W, Calls Tryd.prog 10 #[.int .i64 10, .int .i64 10] W fun e w' => e = .returned (.int .u64 2500000000) ∧ W = w') := fun W => vlreward_any W 10 10 (by omega) (by omega)
  go_enter Tryd.func6, Tryd.ntmps6
  go_wp2_with fail
  refine (R1.out _).mono ?_
  rintro e w2 ⟨rfl, rfl⟩
  go_wp2_with fail
  refine (R2.out _).mono ?_
  rintro e w2 ⟨rfl, rfl⟩
  go_wp2_with fail
  go_ret
  exact ⟨rfl, rfl⟩
end Go.Proofs.YtlpdgjneoahdeaaDoor.Sha

/-
  Rules at their bounds may be, one number further may not. Conditions: a number that an int holds; the errors are there.
-/
namespace Go.Proofs.YtlpdgjneoahdeaaDoor.Sha
open Go Go.RowKit
def lowF (k : Nat) : Int := ([1, 0, 1, 1, 1, 1, 1, 1, 1] : List Int).getD k 0
def topF (k : Nat) : Int := ([1048576, 1000, 16777216, 16777216, 65536, 1000, 16777216, 1000, 16777216] : List Int).getD k 0
theorem ru_bounds (k : Nat) (hk : k < 9) : (rulesB (setR (ruN 0) k (lowF k)) = true ∧ rulesB (setR (ruN 0) k (lowF k - 1)) = false) ∧ (rulesB (setR (ruN 0) k (topF k)) = true ∧ rulesB (setR (ruN 0) k (topF k + 1)) = false) ∧ (0 ≤ lowF k ∧ lowF k ≤ 1) ∧ 0 ≤ topF k ∧ topF k ≤ 16777216 := by
  match k, hk with
  | 0, _ => exact ⟨⟨by decide, by decide⟩, ⟨by decide, by decide⟩, ⟨by decide, by decide⟩, by decide, by decide⟩
  | 1, _ => exact ⟨⟨by decide, by decide⟩, ⟨by decide, by decide⟩, ⟨by decide, by decide⟩, by decide, by decide⟩
  | 2, _ => exact ⟨⟨by decide, by decide⟩, ⟨by decide, by decide⟩, ⟨by decide, by decide⟩, by decide, by decide⟩
  | 3, _ => exact ⟨⟨by decide, by decide⟩, ⟨by decide, by decide⟩, ⟨by decide, by decide⟩, by decide, by decide⟩
  | 4, _ => exact ⟨⟨by decide, by decide⟩, ⟨by decide, by decide⟩, ⟨by decide, by decide⟩, by decide, by decide⟩
  | 5, _ => exact ⟨⟨by decide, by decide⟩, ⟨by decide, by decide⟩, ⟨by decide, by decide⟩, by decide, by decide⟩
  | 6, _ => exact ⟨⟨by decide, by decide⟩, ⟨by decide, by decide⟩, ⟨by decide, by decide⟩, by decide, by decide⟩
  | 7, _ => exact ⟨⟨by decide, by decide⟩, ⟨by decide, by decide⟩, ⟨by decide, by decide⟩, by decide, by decide⟩
  | 8, _ => exact ⟨⟨by decide, by decide⟩, ⟨by decide, by decide⟩, ⟨by decide, by decide⟩, by decide, by decide⟩
set_option maxHeartbeats 1000000 in
set_option maxRecDepth 100000 in
theorem vrules_main (E : Nat → Addr) (x : Int) (hi : Bool) (w : World) (hE : Errs w E) (hx : -9223372036854775808 ≤ x ∧ x ≤ 9223372036854775807) :
    Calls Tryd.prog 5 #[.int .i64 x, .bool hi] w fun e w' => e = .returned (.bool true) ∧ Below w.heap.size w w' := by
  have RZQ : Hid ((ruL (ruN 0)).toArray.size = 9) := rfl
  obtain ⟨k, hk, h9⟩ := numb_nat x 9 (by omega)
  have N1 : Hid (∀ W, Calls Tryd.prog 18 #[.int .i64 x, .int .i64 9] W fun e w' => e = .returned (.int .i64 (k : Int)) ∧ W = w') := fun W => by rw [← show numb x 9 = (k : Int) from hk]; exact numb_any x 9 (by omega) (by omega) hx W
  have N2 : Hid (∀ W, Calls Tryd.prog 20 #[.int .i64 0] W fun e w' => e = .returned (.agg (ruL (ruN 0)).toArray) ∧ Below W.heap.size W w') := fun W => mkrules_any 0 (by omega) W
  obtain ⟨⟨la, lb⟩, ⟨ta, tb⟩, ⟨l0, l1⟩, t0, t1⟩ := ru_bounds k h9
  have LL1 := Lib.hid la
  have LL2 := Lib.hid lb
  have TT1 := Lib.hid ta
  have TT2 := Lib.hid tb
  have KK := Lib.hid h9
  have HE := Lib.hid hE
  have CL : Hid (∀ W : World, (W.alloc (.cells #[.int .i64 1, .int .i64 0, .int .i64 1, .int .i64 1, .int .i64 1, .int .i64 1, .int .i64 1, .int .i64 1, .int .i64 1] 3 (0, 0))).cell? ⟨W.heap.size, k, none⟩ = some (.int .i64 (lowF k))) := fun W => by
    rw [cell_of_row _ _ _ _ _ _ (heap_alloc_new W (.cells #[.int .i64 1, .int .i64 0, .int .i64 1, .int .i64 1, .int .i64 1, .int .i64 1, .int .i64 1, .int .i64 1, .int .i64 1] 3 (0, 0)))]
    match k, h9 with
    | 0, _ => rfl
    | 1, _ => rfl
    | 2, _ => rfl
    | 3, _ => rfl
    | 4, _ => rfl
    | 5, _ => rfl
    | 6, _ => rfl
    | 7, _ => rfl
    | 8, _ => rfl
  have CT : Hid (∀ W : World, (W.alloc (.cells #[.int .i64 1048576, .int .i64 1000, .int .i64 16777216, .int .i64 16777216, .int .i64 65536, .int .i64 1000, .int .i64 16777216, .int .i64 1000, .int .i64 16777216] 3 (0, 0))).cell? ⟨W.heap.size, k, none⟩ = some (.int .i64 (topF k))) := fun W => by
    rw [cell_of_row _ _ _ _ _ _ (heap_alloc_new W (.cells #[.int .i64 1048576, .int .i64 1000, .int .i64 16777216, .int .i64 16777216, .int .i64 65536, .int .i64 1000, .int .i64 16777216, .int .i64 1000, .int .i64 16777216] 3 (0, 0)))]
    match k, h9 with
    | 0, _ => rfl
    | 1, _ => rfl
    | 2, _ => rfl
    | 3, _ => rfl
    | 4, _ => rfl
    | 5, _ => rfl
    | 6, _ => rfl
    | 7, _ => rfl
    | 8, _ => rfl
  have k0 : 0 ≤ (k : Int) := by omega
  have k9 : (k : Int) < 9 := by omega
  obtain ⟨lo, hlo⟩ : ∃ lo, lo = lowF k := ⟨_, rfl⟩
  obtain ⟨tp, htp⟩ : ∃ tp, tp = topF k := ⟨_, rfl⟩
  rw [← hlo] at CL LL1 LL2 l0 l1
  rw [← htp] at CT TT1 TT2 t0 t1
  have x1 : IntKind.i64.wrap (lo - 1) = lo - 1 := IntWalk.i64_in _ (by omega)
  have x2 : IntKind.i64.wrap (tp + 1) = tp + 1 := IntWalk.i64_in _ (by omega)
  clear hk h9 la lb ta tb hlo htp hE
  go_enter Tryd.func5, Tryd.ntmps5
  go_wp2_with fail
  refine (vlfirst_any _).mono ?_
  rintro e w2 ⟨rfl, rfl⟩
  go_wp2_with fail
  refine (N2.out _).mono ?_
  rintro e w2 ⟨rfl, bb⟩
  have BB := Lib.hid bb
  clear bb
  go_upto_region 5 with ((with_reducible show wpList _ _ _ _ _ _); (refine wpList_store_row rfl 34 (.tmp 6) (.tmp 17) rfl w2.heap.size (ruL (ruN 0)).toArray rfl rfl 34 _ (heap_alloc_new _ _) (by rw [RZQ.out]; kernel_rfl) (by rw [RZQ.out]; rfl) (ruL_all _) ?_; go_frame))
  obtain ⟨_, f2, f3, f4⟩ := fill_setup (Below.refl w2.heap.size w2) [.int .i64 0, .int .i64 0, .int .i64 0, .int .i64 0, .int .i64 0, .int .i64 0, .int .i64 0, .int .i64 0, .int .i64 0].toArray (ruL (ruN 0)).toArray 34
  generalize hqw3 : World.setRow _ _ _ = w3
  have ew3 : World.setRow (w2.alloc (.cells [.int .i64 0, .int .i64 0, .int .i64 0, .int .i64 0, .int .i64 0, .int .i64 0, .int .i64 0, .int .i64 0, .int .i64 0].toArray 34)) w2.heap.size (ruL (ruN 0)).toArray = w3 := hqw3
  rw [ew3] at f2 f3 f4
  obtain ⟨gr, hgr⟩ : ∃ gr, gr = w2.heap.size := ⟨_, rfl⟩
  rw [← hgr] at f2 ⊢
  have RR := Lib.hid f2
  have Ngr : Hid (w2.heap.size ≤ gr) := by show _ ≤ _; rw [hgr]; exact Nat.le_refl _
  have BB := Lib.hid (BB.out.trans (f4.mono BB.out.size))
  clear f2 f3 f4 hqw3 ew3 hgr
  go_wp2_with fail
  refine (N1.out _).mono ?_
  rintro e w4 ⟨rfl, rfl⟩
  have cl := CL.out w3
  have b1 := (Below.refl w3.heap.size w3).alloc (Nat.le_refl _) (.cells #[.int .i64 1, .int .i64 0, .int .i64 1, .int .i64 1, .int .i64 1, .int .i64 1, .int .i64 1, .int .i64 1, .int .i64 1] 3 (0, 0))
  go_upto_region 7 with fail
  generalize hq : World.alloc _ _ = w4
  have e4 : w3.alloc (.cells #[.int .i64 1, .int .i64 0, .int .i64 1, .int .i64 1, .int .i64 1, .int .i64 1, .int .i64 1, .int .i64 1, .int .i64 1] 3 (0, 0)) = w4 := hq
  rw [e4] at b1
  have RR := Lib.hid (row_below RR.out b1)
  have BB := Lib.hid (BB.out.trans (b1.mono BB.out.size))
  clear hq e4 cl b1
  have ct := CT.out w4
  have b1 := (Below.refl w4.heap.size w4).alloc (Nat.le_refl _) (.cells #[.int .i64 1048576, .int .i64 1000, .int .i64 16777216, .int .i64 16777216, .int .i64 65536, .int .i64 1000, .int .i64 16777216, .int .i64 1000, .int .i64 16777216] 3 (0, 0))
  go_upto_region 8 with fail
  generalize hq : World.alloc _ _ = w5
  have e5 : w4.alloc (.cells #[.int .i64 1048576, .int .i64 1000, .int .i64 16777216, .int .i64 16777216, .int .i64 65536, .int .i64 1000, .int .i64 16777216, .int .i64 1000, .int .i64 16777216] 3 (0, 0)) = w5 := hq
  rw [e5] at b1
  have RR := Lib.hid (row_below RR.out b1)
  have BB := Lib.hid (BB.out.trans (b1.mono BB.out.size))
  clear hq e5 ct b1
  cases hi with
  | false =>
    go_wp2_with ((with_reducible show wpList _ _ _ _ _ _); (refine wpList_load_row rfl 34 (.tmp 6) rfl gr rfl 34 (ruL (ruN 0)).toArray (0, 0) _ RR.out Tryd.underlying34 rfl (by kernel_rfl) ?_; go_frame))
    refine (vlwith_any (ruN 0) k lo _ KK.out).mono ?_
    rintro e v1 ⟨rfl, bb⟩
    have RR := Lib.hid (row_below RR.out bb)
    have BB := Lib.hid (BB.out.trans (bb.mono BB.out.size))
    clear bb
    have VR := vlrules_any E (setR (ruN 0) k lo) v1 (HE.out.below BB.out).rng
    rw [LL1.out, if_pos rfl, show errV E 0 = .nilIface from rfl] at VR
    go_wp2_with fail
    refine VR.mono ?_
    rintro e v2 ⟨rfl, bb⟩
    have RR := Lib.hid (row_below RR.out bb)
    have BB := Lib.hid (BB.out.trans (bb.mono BB.out.size))
    clear bb VR
    go_wp2_with ((with_reducible show wpList _ _ _ _ _ _); (refine wpList_load_row rfl 34 (.tmp 6) rfl gr rfl 34 (ruL (ruN 0)).toArray (0, 0) _ RR.out Tryd.underlying34 rfl (by kernel_rfl) ?_; go_frame))
    refine (vlwith_any (ruN 0) k (lo - 1) _ KK.out).mono ?_
    rintro e v3 ⟨rfl, bb⟩
    have BB := Lib.hid (BB.out.trans (bb.mono BB.out.size))
    clear bb
    have VR := vlrules_any E (setR (ruN 0) k (lo - 1)) v3 (HE.out.below BB.out).rng
    rw [LL2.out, if_neg (by decide)] at VR
    go_wp2_with fail
    refine VR.mono ?_
    rintro e v4 ⟨rfl, bb⟩
    have BB := Lib.hid (BB.out.trans (bb.mono BB.out.size))
    clear bb VR
    have IS := is_any E 22 122 true rfl v4 (HE.out.below BB.out) (by omega)
    go_wp2_with fail
    refine IS.mono ?_
    rintro e v5 ⟨rfl, bb⟩
    have BB := Lib.hid (BB.out.trans (bb.mono BB.out.size))
    clear bb IS
    go_wp2_with fail
    go_ret
    exact ⟨rfl, BB.out⟩
  | true =>
    go_wp2_with ((with_reducible show wpList _ _ _ _ _ _); (refine wpList_load_row rfl 34 (.tmp 6) rfl gr rfl 34 (ruL (ruN 0)).toArray (0, 0) _ RR.out Tryd.underlying34 rfl (by kernel_rfl) ?_; go_frame))
    refine (vlwith_any (ruN 0) k tp _ KK.out).mono ?_
    rintro e v1 ⟨rfl, bb⟩
    have RR := Lib.hid (row_below RR.out bb)
    have BB := Lib.hid (BB.out.trans (bb.mono BB.out.size))
    clear bb
    have VR := vlrules_any E (setR (ruN 0) k tp) v1 (HE.out.below BB.out).rng
    rw [TT1.out, if_pos rfl, show errV E 0 = .nilIface from rfl] at VR
    go_wp2_with fail
    refine VR.mono ?_
    rintro e v2 ⟨rfl, bb⟩
    have RR := Lib.hid (row_below RR.out bb)
    have BB := Lib.hid (BB.out.trans (bb.mono BB.out.size))
    clear bb VR
    go_wp2_with ((with_reducible show wpList _ _ _ _ _ _); (refine wpList_load_row rfl 34 (.tmp 6) rfl gr rfl 34 (ruL (ruN 0)).toArray (0, 0) _ RR.out Tryd.underlying34 rfl (by kernel_rfl) ?_; go_frame))
    refine (vlwith_any (ruN 0) k (tp + 1) _ KK.out).mono ?_
    rintro e v3 ⟨rfl, bb⟩
    have BB := Lib.hid (BB.out.trans (bb.mono BB.out.size))
    clear bb
    have VR := vlrules_any E (setR (ruN 0) k (tp + 1)) v3 (HE.out.below BB.out).rng
    rw [TT2.out, if_neg (by decide)] at VR
    go_wp2_with fail
    refine VR.mono ?_
    rintro e v4 ⟨rfl, bb⟩
    have BB := Lib.hid (BB.out.trans (bb.mono BB.out.size))
    clear bb VR
    have IS := is_any E 22 122 true rfl v4 (HE.out.below BB.out) (by omega)
    go_wp2_with fail
    refine IS.mono ?_
    rintro e v5 ⟨rfl, bb⟩
    have BB := Lib.hid (BB.out.trans (bb.mono BB.out.size))
    clear bb IS
    go_wp2_with fail
    go_ret
    exact ⟨rfl, BB.out⟩
end Go.Proofs.YtlpdgjneoahdeaaDoor.Sha

/-
  Plain mathematics of SHA-256 on 32-bit words, as the chapter gives it, and how the model's integers of kind u32 compute with such words. No program is imported. No conditions.
-/
namespace Go.Proofs.YtlpdgjneoahdeaaDoor.Sha
open Go
/-- A word as the model's integer. -/
def wv (x : UInt32) : Int := x.toNat
theorem wv_add (x y : UInt32) : IntKind.u32.wrap (wv x + wv y) = wv (x + y) := by
  unfold wv
  rw [IntKind.wrap_u32', UInt32.toNat_add]
  omega
theorem wv_sum (x y : UInt32) : (wv x + wv y) % 4294967296 = wv (x + y) := by
  rw [← wv_add, IntKind.wrap_u32']
theorem wv_xor (x y : UInt32) : bits .xor .u32 (wv x) (wv y) = wv (x ^^^ y) := by
  unfold wv
  rw [u32_xor_nat _ _ x.toNat_lt y.toNat_lt, UInt32.toNat_xor]
theorem wv_or (x y : UInt32) : bits .or .u32 (wv x) (wv y) = wv (x ||| y) := by
  unfold wv
  rw [u32_or_nat _ _ x.toNat_lt y.toNat_lt, UInt32.toNat_or]
theorem wv_and (x y : UInt32) : bits .and .u32 (wv x) (wv y) = wv (x &&& y) := by
  unfold wv
  rw [u32_and_nat _ _ x.toNat_lt y.toNat_lt, UInt32.toNat_and]
theorem wv_andNot (x y : UInt32) : bits .andNot .u32 (wv x) (wv y) = wv (x &&& ~~~y) := by
  unfold wv
  rw [u32_andNot_nat _ _ x.toNat_lt y.toNat_lt, UInt32.toNat_and, UInt32.toNat_not]
  rfl
/-- A word turned right by n bits. -/
def rotr (x : UInt32) (n : Nat) : UInt32 := (x >>> UInt32.ofNat n) ||| (x <<< UInt32.ofNat (32 - n))
theorem wv_shr (x : UInt32) (n : Nat) (h : n < 32) : wv x / 2 ^ n = wv (x >>> UInt32.ofNat n) := by
  unfold wv
  rw [UInt32.toNat_shiftRight, UInt32.toNat_ofNat_of_lt' (by show n < 2 ^ 32; omega), Nat.mod_eq_of_lt h, Nat.shiftRight_eq_div_pow]
  simp
theorem wv_shl (x : UInt32) (n : Nat) (h : n < 32) : IntKind.u32.wrap (wv x * 2 ^ n) = wv (x <<< UInt32.ofNat n) := by
  unfold wv
  rw [IntKind.wrap_u32', UInt32.toNat_shiftLeft, UInt32.toNat_ofNat_of_lt' (by show n < 2 ^ 32; omega), Nat.mod_eq_of_lt h, Nat.shiftLeft_eq]
  simp
theorem low5 (n : Nat) (h1 : 1 ≤ n) (h2 : n ≤ 31) : bits .and .u64 (IntKind.u64.wrap (-(n : Int))) 31 = 32 - (n : Int) := by
  have e : IntKind.u64.wrap (-(n : Int)) = ((18446744073709551616 - n : Nat) : Int) := by rw [IntKind.wrap_u64]; omega
  rw [e, show (31 : Int) = ((31 : Nat) : Int) from rfl, u64_and_nat _ _ (by omega) (by omega), show (31 : Nat) = 2 ^ 5 - 1 from rfl, Nat.and_two_pow_sub_one_eq_mod]
  omega
theorem rot_fact (x : UInt32) (n : Nat) (h1 : 1 ≤ n) (h2 : n ≤ 31) : bits .or .u32 (wv x * 2 ^ (32 - n) % 4294967296) (wv x / 2 ^ (32 - (32 - n))) = wv (rotr x n) := by
  rw [show 32 - (32 - n) = n by omega, ← IntKind.wrap_u32', wv_shl x _ (by omega), wv_shr x n (by omega), wv_or]
  unfold rotr
  rw [UInt32.or_comm]
def sS0 (x : UInt32) : UInt32 := rotr x 7 ^^^ rotr x 18 ^^^ (x >>> UInt32.ofNat 3)
def sS1 (x : UInt32) : UInt32 := rotr x 17 ^^^ rotr x 19 ^^^ (x >>> UInt32.ofNat 10)
def bS0 (x : UInt32) : UInt32 := rotr x 2 ^^^ rotr x 13 ^^^ rotr x 22
def bS1 (x : UInt32) : UInt32 := rotr x 6 ^^^ rotr x 11 ^^^ rotr x 25
theorem wv_shr3 (x : UInt32) : wv x / 8 = wv (x >>> UInt32.ofNat 3) := wv_shr x 3 (by omega)
theorem wv_shr10 (x : UInt32) : wv x / 1024 = wv (x >>> UInt32.ofNat 10) := wv_shr x 10 (by omega)
def wV (x : UInt32) : Value := .int .u32 (wv x)
/-- Four bytes read as a word, the highest first. -/
def rd (b : Nat → UInt8) (t : Nat) : UInt32 := ((b (4 * t)).toUInt32 <<< UInt32.ofNat 24) ||| ((b (4 * t + 1)).toUInt32 <<< UInt32.ofNat 16) ||| ((b (4 * t + 2)).toUInt32 <<< UInt32.ofNat 8) ||| (b (4 * t + 3)).toUInt32
def nextW (b : Nat → UInt8) (t : Nat) (l : List UInt32) : UInt32 :=
  if t < 16 then rd b t else sS1 (l.getD (t - 2) 0) + l.getD (t - 7) 0 + sS0 (l.getD (t - 15) 0) + l.getD (t - 16) 0
/-- The schedule's first t words. -/
def row (b : Nat → UInt8) : Nat → List UInt32
  | 0 => []
  | t + 1 => row b t ++ [nextW b t (row b t)]
theorem row_length (b : Nat → UInt8) : ∀ t, (row b t).length = t
  | 0 => rfl
  | t + 1 => by simp [row, row_length b t]
/-- The schedule's cells when t words stand. -/
def rowV (b : Nat → UInt8) (t : Nat) : List Value := (row b t).map wV ++ List.replicate (64 - t) (wV 0)
theorem rowV_set (b : Nat → UInt8) (t : Nat) (h : t < 64) : (rowV b t).toArray.setIfInBounds t (wV (nextW b t (row b t))) = (rowV b (t + 1)).toArray := by
  rw [List.setIfInBounds_toArray]
  congr 1
  unfold rowV
  rw [List.set_append_right _ _ (by simp [row_length])]
  simp only [List.length_map, row_length, Nat.sub_self]
  rw [show 64 - t = (64 - (t + 1)) + 1 by omega, List.replicate_succ, List.set_cons_zero]
  simp [row]
theorem rowV_get (b : Nat → UInt8) (t j : Nat) (h : j < t) : (rowV b t).toArray[j]? = some (.int .u32 (wv ((row b t).getD j 0))) := by
  unfold rowV
  rw [List.getElem?_toArray, List.getElem?_append_left (by simp [row_length]; omega), List.getElem?_map, List.getElem?_eq_getElem (by rw [row_length]; exact h)]
  simp [wV, List.getD, List.getElem?_eq_getElem (show j < (row b t).length by rw [row_length]; exact h)]
theorem wv_byte (x : UInt8) : bv x = wv x.toUInt32 := by
  unfold bv wv
  simp
theorem wv_shl24 (x : UInt32) : wv x * 16777216 % 4294967296 = wv (x <<< UInt32.ofNat 24) := by
  rw [← wv_shl x 24 (by omega), IntKind.wrap_u32']; rfl
theorem wv_shl16 (x : UInt32) : wv x * 65536 % 4294967296 = wv (x <<< UInt32.ofNat 16) := by
  rw [← wv_shl x 16 (by omega), IntKind.wrap_u32']; rfl
theorem wv_shl8 (x : UInt32) : wv x * 256 % 4294967296 = wv (x <<< UInt32.ofNat 8) := by
  rw [← wv_shl x 8 (by omega), IntKind.wrap_u32']; rfl
theorem bv_u32 (x : UInt8) : bv x % 4294967296 = wv x.toUInt32 := by
  have := bv_bd x
  rw [← wv_byte]
  omega
theorem bv_u32' (x : UInt8) : IntKind.u32.wrap (bv x) = wv x.toUInt32 := by rw [IntKind.wrap_u32', bv_u32]
theorem wr_shl24 (x : UInt32) : IntKind.u32.wrap (wv x * 16777216) = wv (x <<< UInt32.ofNat 24) := by rw [IntKind.wrap_u32', wv_shl24]
theorem wr_shl16 (x : UInt32) : IntKind.u32.wrap (wv x * 65536) = wv (x <<< UInt32.ofNat 16) := by rw [IntKind.wrap_u32', wv_shl16]
theorem wr_shl8 (x : UInt32) : IntKind.u32.wrap (wv x * 256) = wv (x <<< UInt32.ofNat 8) := by rw [IntKind.wrap_u32', wv_shl8]
theorem rowV_zero (b : Nat → UInt8) (t j : Nat) (h1 : t ≤ j) (h2 : j < 64) : (rowV b t).toArray[j]? = some (wV 0) := by
  unfold rowV
  rw [List.getElem?_toArray, List.getElem?_append_right (by simp [row_length]; omega), List.length_map, row_length, List.getElem?_replicate, if_pos (by omega)]
theorem nextW_low (b : Nat → UInt8) (t : Nat) (l : List UInt32) (h : t < 16) : nextW b t l = rd b t := by unfold nextW; rw [if_pos h]
theorem nextW_high (b : Nat → UInt8) (t : Nat) (l : List UInt32) (h : 16 ≤ t) : nextW b t l = sS1 (l.getD (t - 2) 0) + l.getD (t - 7) 0 + sS0 (l.getD (t - 15) 0) + l.getD (t - 16) 0 := by
  unfold nextW; rw [if_neg (by omega)]
theorem wV_one (l : List UInt32) : (l.map wV).toArray.all (·.oneCell') = true := by
  rw [Array.all_eq_true_iff_forall_mem]
  intro x hx
  simp at hx
  obtain ⟨a, _, rfl⟩ := hx
  rfl
theorem rowV_all (b : Nat → UInt8) : rowV b 64 = (row b 64).map wV := by simp [rowV]
/-- The eight words while a block is worked in. -/
structure St where
  a : UInt32
  b : UInt32
  c : UInt32
  d : UInt32
  e : UInt32
  f : UInt32
  g : UInt32
  h : UInt32
def St.cells (s : St) : List Value := [wV s.a, wV s.b, wV s.c, wV s.d, wV s.e, wV s.f, wV s.g, wV s.h]
def T1 (s : St) (k w : UInt32) : UInt32 := s.h + bS1 s.e + ((s.e &&& s.f) ^^^ (s.g &&& ~~~s.e)) + k + w
def T2 (s : St) : UInt32 := bS0 s.a + ((s.a &&& s.b) ^^^ (s.a &&& s.c) ^^^ (s.b &&& s.c))
def St.round (s : St) (k w : UInt32) : St := ⟨T1 s k w + T2 s, s.a, s.b, s.c, s.d + T1 s k w, s.e, s.f, s.g⟩
def kList : List UInt32 := [
  1116352408, 1899447441, 3049323471, 3921009573, 961987163, 1508970993, 2453635748, 2870763221,
  3624381080, 310598401, 607225278, 1426881987, 1925078388, 2162078206, 2614888103, 3248222580,
  3835390401, 4022224774, 264347078, 604807628, 770255983, 1249150122, 1555081692, 1996064986,
  2554220882, 2821834349, 2952996808, 3210313671, 3336571891, 3584528711, 113926993, 338241895,
  666307205, 773529912, 1294757372, 1396182291, 1695183700, 1986661051, 2177026350, 2456956037,
  2730485921, 2820302411, 3259730800, 3345764771, 3516065817, 3600352804, 4094571909, 275423344,
  430227734, 506948616, 659060556, 883997877, 958139571, 1322822218, 1537002063, 1747873779,
  1955562222, 2024104815, 2227730452, 2361852424, 2428436474, 2756734187, 3204031479, 3329325298]
def kW (t : Nat) : UInt32 := kList.getD t 0
/-- t rounds over a schedule. -/
def rounds (l : List UInt32) (s : St) : Nat → St
  | 0 => s
  | t + 1 => (rounds l s t).round (kW t) (l.getD t 0)
def St.plus (s r : St) : St := ⟨s.a + r.a, s.b + r.b, s.c + r.c, s.d + r.d, s.e + r.e, s.f + r.f, s.g + r.g, s.h + r.h⟩
/-- One block of 64 bytes worked in. -/
def compress (s : St) (b : Nat → UInt8) : St := s.plus (rounds (row b 64) s 64)
def start : St := ⟨0x6a09e667, 0xbb67ae85, 0x3c6ef372, 0xa54ff53a, 0x510e527f, 0x9b05688c, 0x1f83d9ab, 0x5be0cd19⟩
theorem St.cells_length (s : St) : s.cells.length = 8 := rfl
theorem wV_get (l : List UInt32) (j : Nat) (h : j < l.length) : (l.map wV).toArray[j]? = some (.int .u32 (wv (l.getD j 0))) := by
  simp [wV, List.getD, List.getElem?_eq_getElem h]
end Go.Proofs.YtlpdgjneoahdeaaDoor.Sha

/-
  The small turning functions of package digest answer what the chapter says of them, for every word. No conditions.
-/
namespace Go.Proofs.YtlpdgjneoahdeaaDoor.Sha
open Go Go.RowKit
set_option maxRecDepth 100000 in
theorem rot_any (x : UInt32) (n : Nat) (k : Int) (hk : k = -(n : Int)) (h1 : 1 ≤ n) (h2 : n ≤ 31) (w : World) :
    Calls Tryd.prog 57 #[.int .u32 (wv x), .int .i64 k] w fun e w' => e = .returned (.int .u32 (wv (rotr x n))) ∧ w = w' := by
  subst hk
  have hl := low5 n h1 h2
  go_enter Tryd.func57, Tryd.ntmps57
  go_wp2
  go_ret
  exact ⟨ret_int (rot_fact x n h1 h2), rfl⟩
set_option maxRecDepth 100000 in
theorem turn_any (x : UInt32) (n : Nat) (k : Int) (hk : k = (n : Int)) (h1 : 1 ≤ n) (h2 : n ≤ 31) (w : World) :
    Calls Tryd.prog 56 #[.int .u32 (wv x), .int .i64 k] w fun e w' => e = .returned (.int .u32 (wv (rotr x n))) ∧ w = w' := by
  subst hk
  go_enter Tryd.func56, Tryd.ntmps56
  go_wp2_with fail
  refine (rot_any x n _ rfl h1 h2 _).mono ?_
  rintro e w' ⟨rfl, rfl⟩
  go_wp2_with fail
  go_ret
  exact ⟨rfl, rfl⟩
section
set_option maxRecDepth 100000 in
attribute [local go_sem] wv_xor wv_shr3 wv_shr10
theorem sS0_any (x : UInt32) (w : World) :
    Calls Tryd.prog 55 #[.int .u32 (wv x)] w fun e w' => e = .returned (.int .u32 (wv (sS0 x))) ∧ w = w' := by
  go_enter Tryd.func55, Tryd.ntmps55
  go_wp2_with fail
  refine (turn_any x 7 _ rfl (by omega) (by omega) _).mono ?_
  rintro e w' ⟨rfl, rfl⟩
  go_wp2_with fail
  refine (turn_any x 18 _ rfl (by omega) (by omega) _).mono ?_
  rintro e w' ⟨rfl, rfl⟩
  go_wp2_with fail
  go_ret
  exact ⟨rfl, rfl⟩
set_option maxRecDepth 100000 in
theorem sS1_any (x : UInt32) (w : World) :
    Calls Tryd.prog 54 #[.int .u32 (wv x)] w fun e w' => e = .returned (.int .u32 (wv (sS1 x))) ∧ w = w' := by
  go_enter Tryd.func54, Tryd.ntmps54
  go_wp2_with fail
  refine (turn_any x 17 _ rfl (by omega) (by omega) _).mono ?_
  rintro e w' ⟨rfl, rfl⟩
  go_wp2_with fail
  refine (turn_any x 19 _ rfl (by omega) (by omega) _).mono ?_
  rintro e w' ⟨rfl, rfl⟩
  go_wp2_with fail
  go_ret
  exact ⟨rfl, rfl⟩
set_option maxRecDepth 100000 in
theorem bS0_any (x : UInt32) (w : World) :
    Calls Tryd.prog 53 #[.int .u32 (wv x)] w fun e w' => e = .returned (.int .u32 (wv (bS0 x))) ∧ w = w' := by
  go_enter Tryd.func53, Tryd.ntmps53
  go_wp2_with fail
  refine (turn_any x 2 _ rfl (by omega) (by omega) _).mono ?_
  rintro e w' ⟨rfl, rfl⟩
  go_wp2_with fail
  refine (turn_any x 13 _ rfl (by omega) (by omega) _).mono ?_
  rintro e w' ⟨rfl, rfl⟩
  go_wp2_with fail
  refine (turn_any x 22 _ rfl (by omega) (by omega) _).mono ?_
  rintro e w' ⟨rfl, rfl⟩
  go_wp2_with fail
  go_ret
  exact ⟨rfl, rfl⟩
set_option maxRecDepth 100000 in
theorem bS1_any (x : UInt32) (w : World) :
    Calls Tryd.prog 52 #[.int .u32 (wv x)] w fun e w' => e = .returned (.int .u32 (wv (bS1 x))) ∧ w = w' := by
  go_enter Tryd.func52, Tryd.ntmps52
  go_wp2_with fail
  refine (turn_any x 6 _ rfl (by omega) (by omega) _).mono ?_
  rintro e w' ⟨rfl, rfl⟩
  go_wp2_with fail
  refine (turn_any x 11 _ rfl (by omega) (by omega) _).mono ?_
  rintro e w' ⟨rfl, rfl⟩
  go_wp2_with fail
  refine (turn_any x 25 _ rfl (by omega) (by omega) _).mono ?_
  rintro e w' ⟨rfl, rfl⟩
  go_wp2_with fail
  go_ret
  exact ⟨rfl, rfl⟩
end
end Go.Proofs.YtlpdgjneoahdeaaDoor.Sha
