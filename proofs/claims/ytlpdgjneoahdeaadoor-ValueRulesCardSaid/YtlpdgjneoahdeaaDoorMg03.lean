/-
  Texts of this proof joined into one file: StoreW, RuM, MkRules, VlWith. What each holds, and under which conditions, its own first sentence tells.
-/
import Derived.Laws.ResultCell
import Derived.Test.YtlpdgjneoahdeaaDoorMg02
import Derived.Test.YtlpdgjneoahdeaaDoorMg01
/-
  A value stored into a box, or into a part of a block of one's own, the new world hidden; two boxes; a box and a value as results. No conditions beyond those that each states.
-/
namespace Go.Proofs.YtlpdgjneoahdeaaDoor.Sha
open Go Go.RowKit
section
variable {P : Program}
theorem setRow_grown {w : World} {g : Nat} (cs : Array Value) : w.grownBy (w.setRow g cs) (some g) := by
  refine ⟨rfl, rfl, rfl, by simp [World.setRow], fun k _ hk => ?_⟩
  simp only [World.setRow]
  rw [Array.getElem?_modify, if_neg (fun e => hk (by rw [e]))]
theorem run_store_part {w : World} (ty : TypeId) (g o : Nat) (A old C new : List Value) (T : TypeId) (v : Value) (hv : v.cells = new.toArray) (hA : A.length = o) (hlen : old.length = new.length)
    (hg : w.heap[g]? = some (.cells (A ++ old ++ C).toArray T (0, 0))) (hi : (P.info? ty).map (·.size) = some new.length) (h1 : ∀ u ∈ new, u.oneCell' = true) :
    (storeVar ty ⟨g, o, none⟩ v).run P w = .ok () (w.setRow g (A ++ new ++ C).toArray) := by
  have h := run_storeCells_at P g o T new 0 (A ++ old ++ C).toArray w hg (by simp; omega) h1
  have e : ((A ++ old ++ C).toArray.toList.take (o + 0) ++ new ++ (A ++ old ++ C).toArray.toList.drop (o + 0 + new.length)).toArray = (A ++ new ++ C).toArray := by
    congr 1
    subst hA
    simp only [Nat.add_zero]
    rw [List.append_assoc A old C, List.take_left, ← List.drop_drop, List.drop_left, ← hlen, List.drop_left]
  rw [e] at h
  cases hq : P.info? ty with
  | none => simp [hq] at hi
  | some i =>
    have hs : i.size = new.length := by simpa [hq] using hi
    simp [storeVar, sizeOf, typeInfo, hq, hv, hs]
    simpa using h
theorem wp_store_part {op : Oper} {a : Act} {w : World} {K : Act → World → Prop} {Q : Exit → Act → World → Prop} (ty : TypeId) (x y : Operand) (ho : op.op = .store ty x y)
    (g o : Nat) (A old C new : List Value) (T : TypeId) (v : Value) (hx : a.eval x = .pointer (some ⟨g, o, none⟩)) (hy : a.eval y = v) (hv : v.cells = new.toArray) (hA : A.length = o) (hlen : old.length = new.length)
    (hg : w.heap[g]? = some (.cells (A ++ old ++ C).toArray T (0, 0))) (hi : (P.info? ty).map (·.size) = some new.length) (h1 : ∀ u ∈ new, u.oneCell' = true)
    (h : ∀ w', w'.heap[g]? = some (.cells (A ++ new ++ C).toArray T (0, 0)) → w.grownBy w' (some g) → K (a.put op.dst undef) w') : op.wp P a w K Q := by
  unfold Oper.wp execOp
  simp only [ho, hx, hy, Instr.storeAt, Instr.sureAddr, Sem.run_bind, Sem.run_pure, Result.andThen_ok, run_store_part ty g o A old C new T v hv hA hlen hg hi h1]
  exact h _ (setRow_heap _ _ _ _ _ _ hg) (setRow_grown _)
theorem wpList_store_part {ops : Array Oper} {rest : List Oper} {op : Oper} {a : Act} {w : World} {Q : Exit → Act → World → Prop} (hgd : op.guard = none) (ty : TypeId) (x y : Operand) (ho : op.op = .store ty x y)
    (g o : Nat) (A old C new : List Value) (T : TypeId) (v : Value) (hx : a.eval x = .pointer (some ⟨g, o, none⟩)) (hy : a.eval y = v) (hv : v.cells = new.toArray) (hA : A.length = o) (hlen : old.length = new.length)
    (hg : w.heap[g]? = some (.cells (A ++ old ++ C).toArray T (0, 0))) (hi : (P.info? ty).map (·.size) = some new.length) (h1 : ∀ u ∈ new, u.oneCell' = true)
    (h : ∀ w', w'.heap[g]? = some (.cells (A ++ new ++ C).toArray T (0, 0)) → w.grownBy w' (some g) → wpList P ops Q rest (a.put op.dst undef) w') : wpList P ops Q (op :: rest) a w :=
  wpList_plain hgd fun _ hK => wp_store_part ty x y ho g o A old C new T v hx hy hv hA hlen hg hi h1 (fun w' a1 a2 => hK _ _ (h w' a1 a2))
end
theorem row_far {w w' : World} {g : Nat} {q : Option Nat} {o : Obj} (h : w.heap[g]? = some o) (hg : w.grownBy w' q) (hq : q ≠ some g) : w'.heap[g]? = some o := by
  rw [hg.block g (Array.getElem?_eq_some_iff.1 h).1 (fun e => hq e.symm)]
  exact h
section
variable {P : Program}
theorem wp_store_whole {op : Oper} {a : Act} {w : World} {K : Act → World → Prop} {Q : Exit → Act → World → Prop} (ty : TypeId) (x y : Operand) (ho : op.op = .store ty x y)
    (g : Nat) (old new : List Value) (T : TypeId) (hx : a.eval x = .pointer (some ⟨g, 0, none⟩)) (hy : a.eval y = .agg new.toArray) (hlen : old.length = new.length) (hrow : w.heap[g]? = some (.cells old.toArray T (0, 0)))
    (hi : (P.info? ty).map (·.size) = some new.length) (h1 : new.toArray.all (·.oneCell') = true)
    (h : ∀ w', w'.heap[g]? = some (.cells new.toArray T (0, 0)) → w.grownBy w' (some g) → K (a.put op.dst undef) w') : op.wp P a w K Q :=
  wp_store_row ty x y ho g new.toArray hx hy T old.toArray hrow (by simpa using hi) (by simpa using hlen) h1 (h _ (setRow_heap _ _ _ _ _ _ hrow) (setRow_grown _))
end
/-- Two boxes. -/
theorem boxes_two (w : World) (x y : Array Value) (T : TypeId) :
    Below w.heap.size w ((w.alloc (.cells x T (0, 0))).alloc (.cells y T (0, 0)))
    ∧ ((w.alloc (.cells x T (0, 0))).alloc (.cells y T (0, 0))).heap[w.heap.size]? = some (.cells x T (0, 0))
    ∧ ((w.alloc (.cells x T (0, 0))).alloc (.cells y T (0, 0))).heap[w.heap.size + 1]? = some (.cells y T (0, 0)) := by
  refine ⟨((Below.refl _ _).alloc (Nat.le_refl _) _).alloc (by simp) _, ?_, ?_⟩
  · have h1 := heap_alloc_new w (.cells x T (0, 0))
    exact row_below h1 ((Below.refl _ _).alloc (Nat.le_refl _) (.cells y T (0, 0)))
  · have h1 := heap_alloc_new (w.alloc (.cells x T (0, 0))) (.cells y T (0, 0))
    rw [World.size_alloc] at h1
    exact h1
end Go.Proofs.YtlpdgjneoahdeaaDoor.Sha

/-
  A chain's rules as nine numbers; whether they may be. No conditions.
-/
namespace Go.Proofs.YtlpdgjneoahdeaaDoor.Sha
open Go Go.RowKit
structure TRu where
  hal : Int
  mat : Int
  pool : Int
  redo : Int
  log : Int
  anc : Int
  ancB : Int
  des : Int
  desB : Int
def ruL (r : TRu) : List Value := [.int .i64 r.hal, .int .i64 r.mat, .int .i64 r.pool, .int .i64 r.redo, .int .i64 r.log, .int .i64 r.anc, .int .i64 r.ancB, .int .i64 r.des, .int .i64 r.desB]
def okI (n lo hi : Int) : Bool := decide (lo ≤ n) && decide (n ≤ hi)
def ruT (r : TRu) : List (Int × Int × Int) := [(r.hal, 1, 1048576), (r.mat, 0, 1000), (r.pool, 1, 16777216), (r.redo, 1, 16777216), (r.log, 1, 65536), (r.anc, 1, 1000), (r.ancB, 1, 16777216), (r.des, 1, 1000), (r.desB, 1, 16777216)]
def rulesB (r : TRu) : Bool := okI r.hal 1 1048576 && okI r.mat 0 1000 && okI r.pool 1 16777216 && okI r.redo 1 16777216 && okI r.log 1 65536 && okI r.anc 1 1000 && okI r.des 1 1000 && okI r.ancB 1 16777216 && okI r.desB 1 16777216
def RuOk (r : TRu) : Prop := (-9223372036854775808 ≤ r.hal ∧ r.hal ≤ 9223372036854775807) ∧ (-9223372036854775808 ≤ r.mat ∧ r.mat ≤ 9223372036854775807) ∧ (-9223372036854775808 ≤ r.pool ∧ r.pool ≤ 9223372036854775807) ∧ (-9223372036854775808 ≤ r.redo ∧ r.redo ≤ 9223372036854775807) ∧ (-9223372036854775808 ≤ r.log ∧ r.log ≤ 9223372036854775807) ∧ (-9223372036854775808 ≤ r.anc ∧ r.anc ≤ 9223372036854775807) ∧ (-9223372036854775808 ≤ r.ancB ∧ r.ancB ≤ 9223372036854775807) ∧ (-9223372036854775808 ≤ r.des ∧ r.des ≤ 9223372036854775807) ∧ (-9223372036854775808 ≤ r.desB ∧ r.desB ≤ 9223372036854775807)
theorem rulesB_all (r : TRu) : rulesB r = (ruT r).all fun e => okI e.1 e.2.1 e.2.2 := by
  simp only [rulesB, ruT, List.all_cons, List.all_nil, Bool.and_true, Bool.and_assoc]
  congr 6
  rw [← Bool.and_assoc, ← Bool.and_assoc]
  congr 1
  exact Bool.and_comm _ _
theorem ruL_all (r : TRu) : (ruL r).toArray.all (·.oneCell') = true := by kernel_rfl
theorem ruL_size (r : TRu) : (ruL r).toArray.size = 9 := rfl
end Go.Proofs.YtlpdgjneoahdeaaDoor.Sha

/-
  Rules that may be, of a number, as the statements' own make them. Nothing that was there turns. Condition: a number that an int holds.
-/
namespace Go.Proofs.YtlpdgjneoahdeaaDoor.Sha
open Go Go.RowKit
def ruN : Nat → TRu
  | 1 => ⟨5, 0, 700, 2000, 200, 5, 2000, 5, 2000⟩
  | 2 => ⟨5, 2, 3000, 300, 4, 5, 2000, 5, 2000⟩
  | 3 => ⟨5, 1, 3000, 2000, 200, 2, 2000, 3, 2000⟩
  | 4 => ⟨5, 1, 3000, 2000, 200, 5, 400, 5, 500⟩
  | 5 => ⟨5, 0, 1048576, 1048576, 200, 50, 1048576, 50, 1048576⟩
  | _ => ⟨5, 1, 3000, 2000, 200, 5, 2000, 5, 2000⟩
set_option maxHeartbeats 1000000 in
set_option maxRecDepth 100000 in
theorem mkrules_0 (n : Int) (hk : numb n 6 = 0) (hn : -9223372036854775808 ≤ n ∧ n ≤ 9223372036854775807) (w : World) :
    Calls Tryd.prog 20 #[.int .i64 n] w fun e w' => e = .returned (.agg (ruL (ruN 0)).toArray) ∧ Below w.heap.size w w' := by
  have NB : Hid (∀ W, Calls Tryd.prog 18 #[.int .i64 n, .int .i64 6] W fun e w' => e = .returned (.int .i64 0) ∧ W = w') := fun W => (numb_any n 6 (by omega) (by omega) hn W).mono (by rw [hk]; exact fun _ _ h => h)
  go_enter Tryd.func20, Tryd.ntmps20
  go_upto_region 2 with fail
  obtain ⟨b, f2, f3⟩ := boxes_two w #[.int .i64 0, .int .i64 0, .int .i64 0, .int .i64 0, .int .i64 0, .int .i64 0, .int .i64 0, .int .i64 0, .int .i64 0] ([.int .i64 5, .int .i64 1, .int .i64 3000, .int .i64 2000, .int .i64 200, .int .i64 5, .int .i64 2000, .int .i64 5, .int .i64 2000] : List Value).toArray 34
  generalize hq : World.alloc _ _ = w1
  have e1 : (w.alloc (.cells #[.int .i64 0, .int .i64 0, .int .i64 0, .int .i64 0, .int .i64 0, .int .i64 0, .int .i64 0, .int .i64 0, .int .i64 0] 34 (0, 0))).alloc (.cells ([.int .i64 5, .int .i64 1, .int .i64 3000, .int .i64 2000, .int .i64 200, .int .i64 5, .int .i64 2000, .int .i64 5, .int .i64 2000] : List Value).toArray 34 (0, 0)) = w1 := hq
  rw [e1] at b f2 f3
  obtain ⟨g2, hg2⟩ : ∃ g2, g2 = w.heap.size := ⟨_, rfl⟩
  obtain ⟨g3, hg3⟩ : ∃ g3, g3 = w.heap.size + 1 := ⟨_, rfl⟩
  rw [← hg3] at f3
  rw [← hg2] at f2
  rw [← hg3, ← hg2]
  have F2 := Lib.hid f2
  have F3 := Lib.hid f3
  have BB := Lib.hid b
  have G : Hid (w.heap.size ≤ g2 ∧ g2 < g3) := ⟨by omega, by omega⟩
  clear b f2 f3 hq e1 hg2 hg3
  go_wp2_with fail
  refine (NB.out _).mono ?_
  rintro e wx ⟨rfl, rfl⟩
  clear NB
  go_wp2_with ((with_reducible show wpList _ _ _ _ _ _); first | (refine wpList_load_row rfl 34 (.tmp 3) rfl g3 rfl 34 ([.int .i64 5, .int .i64 1, .int .i64 3000, .int .i64 2000, .int .i64 200, .int .i64 5, .int .i64 2000, .int .i64 5, .int .i64 2000] : List Value).toArray (0, 0) _ F3.out Tryd.underlying34 rfl (by kernel_rfl) ?_; go_frame) | (refine wpList_store_row rfl 34 (.tmp 2) (.tmp 33) rfl g2 ([.int .i64 5, .int .i64 1, .int .i64 3000, .int .i64 2000, .int .i64 200, .int .i64 5, .int .i64 2000, .int .i64 5, .int .i64 2000] : List Value).toArray rfl rfl 34 _ F2.out (by kernel_rfl) rfl (by kernel_rfl) ?_; go_frame))
  refine bodyPost_ret (results_cell_row rfl _ _ g2 34 ([.int .i64 5, .int .i64 1, .int .i64 3000, .int .i64 2000, .int .i64 200, .int .i64 5, .int .i64 2000, .int .i64 5, .int .i64 2000] : List Value).toArray (0, 0) _ rfl (setRow_heap _ _ _ _ _ _ F2.out) Tryd.underlying34 rfl (by kernel_rfl)) rfl ?_
  exact ⟨rfl, below_setRow BB.out G.out.1 _⟩
set_option maxHeartbeats 1000000 in
set_option maxRecDepth 100000 in
theorem mkrules_1 (n : Int) (hk : numb n 6 = 1) (hn : -9223372036854775808 ≤ n ∧ n ≤ 9223372036854775807) (w : World) :
    Calls Tryd.prog 20 #[.int .i64 n] w fun e w' => e = .returned (.agg (ruL (ruN 1)).toArray) ∧ Below w.heap.size w w' := by
  have NB : Hid (∀ W, Calls Tryd.prog 18 #[.int .i64 n, .int .i64 6] W fun e w' => e = .returned (.int .i64 1) ∧ W = w') := fun W => (numb_any n 6 (by omega) (by omega) hn W).mono (by rw [hk]; exact fun _ _ h => h)
  go_enter Tryd.func20, Tryd.ntmps20
  go_upto_region 2 with fail
  obtain ⟨b, f2, f3⟩ := boxes_two w #[.int .i64 0, .int .i64 0, .int .i64 0, .int .i64 0, .int .i64 0, .int .i64 0, .int .i64 0, .int .i64 0, .int .i64 0] ([.int .i64 5, .int .i64 1, .int .i64 3000, .int .i64 2000, .int .i64 200, .int .i64 5, .int .i64 2000, .int .i64 5, .int .i64 2000] : List Value).toArray 34
  generalize hq : World.alloc _ _ = w1
  have e1 : (w.alloc (.cells #[.int .i64 0, .int .i64 0, .int .i64 0, .int .i64 0, .int .i64 0, .int .i64 0, .int .i64 0, .int .i64 0, .int .i64 0] 34 (0, 0))).alloc (.cells ([.int .i64 5, .int .i64 1, .int .i64 3000, .int .i64 2000, .int .i64 200, .int .i64 5, .int .i64 2000, .int .i64 5, .int .i64 2000] : List Value).toArray 34 (0, 0)) = w1 := hq
  rw [e1] at b f2 f3
  obtain ⟨g2, hg2⟩ : ∃ g2, g2 = w.heap.size := ⟨_, rfl⟩
  obtain ⟨g3, hg3⟩ : ∃ g3, g3 = w.heap.size + 1 := ⟨_, rfl⟩
  rw [← hg3] at f3
  rw [← hg2] at f2
  rw [← hg3, ← hg2]
  have F2 := Lib.hid f2
  have F3 := Lib.hid f3
  have BB := Lib.hid b
  have G : Hid (w.heap.size ≤ g2 ∧ g2 < g3) := ⟨by omega, by omega⟩
  clear b f2 f3 hq e1 hg2 hg3
  go_wp2_with fail
  refine (NB.out _).mono ?_
  rintro e wx ⟨rfl, rfl⟩
  clear NB
  go_upto_region 5 with ((with_reducible show wpList _ _ _ _ _ _); (refine wpList_store_part rfl 3 (.tmp 9) (.const (.int .i64 0)) rfl g3 1 [.int .i64 5] [.int .i64 1] [.int .i64 3000, .int .i64 2000, .int .i64 200, .int .i64 5, .int .i64 2000, .int .i64 5, .int .i64 2000] [.int .i64 0] 34 (.int .i64 0) rfl rfl rfl rfl rfl F3.out (by kernel_rfl) (fun u hu => by obtain rfl := List.mem_singleton.1 hu; rfl) ?_; intro v0 q1 q2; have F3 : Hid (v0.heap[g3]? = some (.cells ([.int .i64 5, .int .i64 0, .int .i64 3000, .int .i64 2000, .int .i64 200, .int .i64 5, .int .i64 2000, .int .i64 5, .int .i64 2000] : List Value).toArray 34 (0, 0))) := q1; have F2 := Lib.hid (row_far F2.out q2 (by intro h; have := Option.some.inj h; have := G.out; omega)); have BB := Lib.hid (grownBy_below q2 BB.out (by have := G.out; omega) BB.out.size); clear q1 q2; go_frame))
  go_upto_region 24 with ((with_reducible show wpList _ _ _ _ _ _); (refine wpList_store_part rfl 3 (.tmp 10) (.const (.int .i64 700)) rfl g3 2 [.int .i64 5, .int .i64 0] [.int .i64 3000] [.int .i64 2000, .int .i64 200, .int .i64 5, .int .i64 2000, .int .i64 5, .int .i64 2000] [.int .i64 700] 34 (.int .i64 700) rfl rfl rfl rfl rfl F3.out (by kernel_rfl) (fun u hu => by obtain rfl := List.mem_singleton.1 hu; rfl) ?_; intro v1 q1 q2; have F3 : Hid (v1.heap[g3]? = some (.cells ([.int .i64 5, .int .i64 0, .int .i64 700, .int .i64 2000, .int .i64 200, .int .i64 5, .int .i64 2000, .int .i64 5, .int .i64 2000] : List Value).toArray 34 (0, 0))) := q1; have F2 := Lib.hid (row_far F2.out q2 (by intro h; have := Option.some.inj h; have := G.out; omega)); have BB := Lib.hid (grownBy_below q2 BB.out (by have := G.out; omega) BB.out.size); clear q1 q2; go_frame))
  go_wp2_with ((with_reducible show wpList _ _ _ _ _ _); first | (refine wpList_load_row rfl 34 (.tmp 3) rfl g3 rfl 34 ([.int .i64 5, .int .i64 0, .int .i64 700, .int .i64 2000, .int .i64 200, .int .i64 5, .int .i64 2000, .int .i64 5, .int .i64 2000] : List Value).toArray (0, 0) _ F3.out Tryd.underlying34 rfl (by kernel_rfl) ?_; go_frame) | (refine wpList_store_row rfl 34 (.tmp 2) (.tmp 33) rfl g2 ([.int .i64 5, .int .i64 0, .int .i64 700, .int .i64 2000, .int .i64 200, .int .i64 5, .int .i64 2000, .int .i64 5, .int .i64 2000] : List Value).toArray rfl rfl 34 _ F2.out (by kernel_rfl) rfl (by kernel_rfl) ?_; go_frame))
  refine bodyPost_ret (results_cell_row rfl _ _ g2 34 ([.int .i64 5, .int .i64 0, .int .i64 700, .int .i64 2000, .int .i64 200, .int .i64 5, .int .i64 2000, .int .i64 5, .int .i64 2000] : List Value).toArray (0, 0) _ rfl (setRow_heap _ _ _ _ _ _ F2.out) Tryd.underlying34 rfl (by kernel_rfl)) rfl ?_
  exact ⟨rfl, below_setRow BB.out G.out.1 _⟩
set_option maxHeartbeats 1000000 in
set_option maxRecDepth 100000 in
theorem mkrules_2 (n : Int) (hk : numb n 6 = 2) (hn : -9223372036854775808 ≤ n ∧ n ≤ 9223372036854775807) (w : World) :
    Calls Tryd.prog 20 #[.int .i64 n] w fun e w' => e = .returned (.agg (ruL (ruN 2)).toArray) ∧ Below w.heap.size w w' := by
  have NB : Hid (∀ W, Calls Tryd.prog 18 #[.int .i64 n, .int .i64 6] W fun e w' => e = .returned (.int .i64 2) ∧ W = w') := fun W => (numb_any n 6 (by omega) (by omega) hn W).mono (by rw [hk]; exact fun _ _ h => h)
  go_enter Tryd.func20, Tryd.ntmps20
  go_upto_region 2 with fail
  obtain ⟨b, f2, f3⟩ := boxes_two w #[.int .i64 0, .int .i64 0, .int .i64 0, .int .i64 0, .int .i64 0, .int .i64 0, .int .i64 0, .int .i64 0, .int .i64 0] ([.int .i64 5, .int .i64 1, .int .i64 3000, .int .i64 2000, .int .i64 200, .int .i64 5, .int .i64 2000, .int .i64 5, .int .i64 2000] : List Value).toArray 34
  generalize hq : World.alloc _ _ = w1
  have e1 : (w.alloc (.cells #[.int .i64 0, .int .i64 0, .int .i64 0, .int .i64 0, .int .i64 0, .int .i64 0, .int .i64 0, .int .i64 0, .int .i64 0] 34 (0, 0))).alloc (.cells ([.int .i64 5, .int .i64 1, .int .i64 3000, .int .i64 2000, .int .i64 200, .int .i64 5, .int .i64 2000, .int .i64 5, .int .i64 2000] : List Value).toArray 34 (0, 0)) = w1 := hq
  rw [e1] at b f2 f3
  obtain ⟨g2, hg2⟩ : ∃ g2, g2 = w.heap.size := ⟨_, rfl⟩
  obtain ⟨g3, hg3⟩ : ∃ g3, g3 = w.heap.size + 1 := ⟨_, rfl⟩
  rw [← hg3] at f3
  rw [← hg2] at f2
  rw [← hg3, ← hg2]
  have F2 := Lib.hid f2
  have F3 := Lib.hid f3
  have BB := Lib.hid b
  have G : Hid (w.heap.size ≤ g2 ∧ g2 < g3) := ⟨by omega, by omega⟩
  clear b f2 f3 hq e1 hg2 hg3
  go_wp2_with fail
  refine (NB.out _).mono ?_
  rintro e wx ⟨rfl, rfl⟩
  clear NB
  go_upto_region 8 with ((with_reducible show wpList _ _ _ _ _ _); (refine wpList_store_part rfl 3 (.tmp 13) (.const (.int .i64 2)) rfl g3 1 [.int .i64 5] [.int .i64 1] [.int .i64 3000, .int .i64 2000, .int .i64 200, .int .i64 5, .int .i64 2000, .int .i64 5, .int .i64 2000] [.int .i64 2] 34 (.int .i64 2) rfl rfl rfl rfl rfl F3.out (by kernel_rfl) (fun u hu => by obtain rfl := List.mem_singleton.1 hu; rfl) ?_; intro v0 q1 q2; have F3 : Hid (v0.heap[g3]? = some (.cells ([.int .i64 5, .int .i64 2, .int .i64 3000, .int .i64 2000, .int .i64 200, .int .i64 5, .int .i64 2000, .int .i64 5, .int .i64 2000] : List Value).toArray 34 (0, 0))) := q1; have F2 := Lib.hid (row_far F2.out q2 (by intro h; have := Option.some.inj h; have := G.out; omega)); have BB := Lib.hid (grownBy_below q2 BB.out (by have := G.out; omega) BB.out.size); clear q1 q2; go_frame))
  go_upto_region 9 with ((with_reducible show wpList _ _ _ _ _ _); (refine wpList_store_part rfl 3 (.tmp 14) (.const (.int .i64 300)) rfl g3 3 [.int .i64 5, .int .i64 2, .int .i64 3000] [.int .i64 2000] [.int .i64 200, .int .i64 5, .int .i64 2000, .int .i64 5, .int .i64 2000] [.int .i64 300] 34 (.int .i64 300) rfl rfl rfl rfl rfl F3.out (by kernel_rfl) (fun u hu => by obtain rfl := List.mem_singleton.1 hu; rfl) ?_; intro v1 q1 q2; have F3 : Hid (v1.heap[g3]? = some (.cells ([.int .i64 5, .int .i64 2, .int .i64 3000, .int .i64 300, .int .i64 200, .int .i64 5, .int .i64 2000, .int .i64 5, .int .i64 2000] : List Value).toArray 34 (0, 0))) := q1; have F2 := Lib.hid (row_far F2.out q2 (by intro h; have := Option.some.inj h; have := G.out; omega)); have BB := Lib.hid (grownBy_below q2 BB.out (by have := G.out; omega) BB.out.size); clear q1 q2; go_frame))
  go_upto_region 24 with ((with_reducible show wpList _ _ _ _ _ _); (refine wpList_store_part rfl 3 (.tmp 15) (.const (.int .i64 4)) rfl g3 4 [.int .i64 5, .int .i64 2, .int .i64 3000, .int .i64 300] [.int .i64 200] [.int .i64 5, .int .i64 2000, .int .i64 5, .int .i64 2000] [.int .i64 4] 34 (.int .i64 4) rfl rfl rfl rfl rfl F3.out (by kernel_rfl) (fun u hu => by obtain rfl := List.mem_singleton.1 hu; rfl) ?_; intro v2 q1 q2; have F3 : Hid (v2.heap[g3]? = some (.cells ([.int .i64 5, .int .i64 2, .int .i64 3000, .int .i64 300, .int .i64 4, .int .i64 5, .int .i64 2000, .int .i64 5, .int .i64 2000] : List Value).toArray 34 (0, 0))) := q1; have F2 := Lib.hid (row_far F2.out q2 (by intro h; have := Option.some.inj h; have := G.out; omega)); have BB := Lib.hid (grownBy_below q2 BB.out (by have := G.out; omega) BB.out.size); clear q1 q2; go_frame))
  go_wp2_with ((with_reducible show wpList _ _ _ _ _ _); first | (refine wpList_load_row rfl 34 (.tmp 3) rfl g3 rfl 34 ([.int .i64 5, .int .i64 2, .int .i64 3000, .int .i64 300, .int .i64 4, .int .i64 5, .int .i64 2000, .int .i64 5, .int .i64 2000] : List Value).toArray (0, 0) _ F3.out Tryd.underlying34 rfl (by kernel_rfl) ?_; go_frame) | (refine wpList_store_row rfl 34 (.tmp 2) (.tmp 33) rfl g2 ([.int .i64 5, .int .i64 2, .int .i64 3000, .int .i64 300, .int .i64 4, .int .i64 5, .int .i64 2000, .int .i64 5, .int .i64 2000] : List Value).toArray rfl rfl 34 _ F2.out (by kernel_rfl) rfl (by kernel_rfl) ?_; go_frame))
  refine bodyPost_ret (results_cell_row rfl _ _ g2 34 ([.int .i64 5, .int .i64 2, .int .i64 3000, .int .i64 300, .int .i64 4, .int .i64 5, .int .i64 2000, .int .i64 5, .int .i64 2000] : List Value).toArray (0, 0) _ rfl (setRow_heap _ _ _ _ _ _ F2.out) Tryd.underlying34 rfl (by kernel_rfl)) rfl ?_
  exact ⟨rfl, below_setRow BB.out G.out.1 _⟩
set_option maxHeartbeats 1000000 in
set_option maxRecDepth 100000 in
theorem mkrules_3 (n : Int) (hk : numb n 6 = 3) (hn : -9223372036854775808 ≤ n ∧ n ≤ 9223372036854775807) (w : World) :
    Calls Tryd.prog 20 #[.int .i64 n] w fun e w' => e = .returned (.agg (ruL (ruN 3)).toArray) ∧ Below w.heap.size w w' := by
  have NB : Hid (∀ W, Calls Tryd.prog 18 #[.int .i64 n, .int .i64 6] W fun e w' => e = .returned (.int .i64 3) ∧ W = w') := fun W => (numb_any n 6 (by omega) (by omega) hn W).mono (by rw [hk]; exact fun _ _ h => h)
  go_enter Tryd.func20, Tryd.ntmps20
  go_upto_region 2 with fail
  obtain ⟨b, f2, f3⟩ := boxes_two w #[.int .i64 0, .int .i64 0, .int .i64 0, .int .i64 0, .int .i64 0, .int .i64 0, .int .i64 0, .int .i64 0, .int .i64 0] ([.int .i64 5, .int .i64 1, .int .i64 3000, .int .i64 2000, .int .i64 200, .int .i64 5, .int .i64 2000, .int .i64 5, .int .i64 2000] : List Value).toArray 34
  generalize hq : World.alloc _ _ = w1
  have e1 : (w.alloc (.cells #[.int .i64 0, .int .i64 0, .int .i64 0, .int .i64 0, .int .i64 0, .int .i64 0, .int .i64 0, .int .i64 0, .int .i64 0] 34 (0, 0))).alloc (.cells ([.int .i64 5, .int .i64 1, .int .i64 3000, .int .i64 2000, .int .i64 200, .int .i64 5, .int .i64 2000, .int .i64 5, .int .i64 2000] : List Value).toArray 34 (0, 0)) = w1 := hq
  rw [e1] at b f2 f3
  obtain ⟨g2, hg2⟩ : ∃ g2, g2 = w.heap.size := ⟨_, rfl⟩
  obtain ⟨g3, hg3⟩ : ∃ g3, g3 = w.heap.size + 1 := ⟨_, rfl⟩
  rw [← hg3] at f3
  rw [← hg2] at f2
  rw [← hg3, ← hg2]
  have F2 := Lib.hid f2
  have F3 := Lib.hid f3
  have BB := Lib.hid b
  have G : Hid (w.heap.size ≤ g2 ∧ g2 < g3) := ⟨by omega, by omega⟩
  clear b f2 f3 hq e1 hg2 hg3
  go_wp2_with fail
  refine (NB.out _).mono ?_
  rintro e wx ⟨rfl, rfl⟩
  clear NB
  go_upto_region 12 with ((with_reducible show wpList _ _ _ _ _ _); (refine wpList_store_part rfl 3 (.tmp 18) (.const (.int .i64 2)) rfl g3 5 [.int .i64 5, .int .i64 1, .int .i64 3000, .int .i64 2000, .int .i64 200] [.int .i64 5] [.int .i64 2000, .int .i64 5, .int .i64 2000] [.int .i64 2] 34 (.int .i64 2) rfl rfl rfl rfl rfl F3.out (by kernel_rfl) (fun u hu => by obtain rfl := List.mem_singleton.1 hu; rfl) ?_; intro v0 q1 q2; have F3 : Hid (v0.heap[g3]? = some (.cells ([.int .i64 5, .int .i64 1, .int .i64 3000, .int .i64 2000, .int .i64 200, .int .i64 2, .int .i64 2000, .int .i64 5, .int .i64 2000] : List Value).toArray 34 (0, 0))) := q1; have F2 := Lib.hid (row_far F2.out q2 (by intro h; have := Option.some.inj h; have := G.out; omega)); have BB := Lib.hid (grownBy_below q2 BB.out (by have := G.out; omega) BB.out.size); clear q1 q2; go_frame))
  go_upto_region 24 with ((with_reducible show wpList _ _ _ _ _ _); (refine wpList_store_part rfl 3 (.tmp 19) (.const (.int .i64 3)) rfl g3 7 [.int .i64 5, .int .i64 1, .int .i64 3000, .int .i64 2000, .int .i64 200, .int .i64 2, .int .i64 2000] [.int .i64 5] [.int .i64 2000] [.int .i64 3] 34 (.int .i64 3) rfl rfl rfl rfl rfl F3.out (by kernel_rfl) (fun u hu => by obtain rfl := List.mem_singleton.1 hu; rfl) ?_; intro v1 q1 q2; have F3 : Hid (v1.heap[g3]? = some (.cells ([.int .i64 5, .int .i64 1, .int .i64 3000, .int .i64 2000, .int .i64 200, .int .i64 2, .int .i64 2000, .int .i64 3, .int .i64 2000] : List Value).toArray 34 (0, 0))) := q1; have F2 := Lib.hid (row_far F2.out q2 (by intro h; have := Option.some.inj h; have := G.out; omega)); have BB := Lib.hid (grownBy_below q2 BB.out (by have := G.out; omega) BB.out.size); clear q1 q2; go_frame))
  go_wp2_with ((with_reducible show wpList _ _ _ _ _ _); first | (refine wpList_load_row rfl 34 (.tmp 3) rfl g3 rfl 34 ([.int .i64 5, .int .i64 1, .int .i64 3000, .int .i64 2000, .int .i64 200, .int .i64 2, .int .i64 2000, .int .i64 3, .int .i64 2000] : List Value).toArray (0, 0) _ F3.out Tryd.underlying34 rfl (by kernel_rfl) ?_; go_frame) | (refine wpList_store_row rfl 34 (.tmp 2) (.tmp 33) rfl g2 ([.int .i64 5, .int .i64 1, .int .i64 3000, .int .i64 2000, .int .i64 200, .int .i64 2, .int .i64 2000, .int .i64 3, .int .i64 2000] : List Value).toArray rfl rfl 34 _ F2.out (by kernel_rfl) rfl (by kernel_rfl) ?_; go_frame))
  refine bodyPost_ret (results_cell_row rfl _ _ g2 34 ([.int .i64 5, .int .i64 1, .int .i64 3000, .int .i64 2000, .int .i64 200, .int .i64 2, .int .i64 2000, .int .i64 3, .int .i64 2000] : List Value).toArray (0, 0) _ rfl (setRow_heap _ _ _ _ _ _ F2.out) Tryd.underlying34 rfl (by kernel_rfl)) rfl ?_
  exact ⟨rfl, below_setRow BB.out G.out.1 _⟩
set_option maxHeartbeats 1000000 in
set_option maxRecDepth 100000 in
theorem mkrules_4 (n : Int) (hk : numb n 6 = 4) (hn : -9223372036854775808 ≤ n ∧ n ≤ 9223372036854775807) (w : World) :
    Calls Tryd.prog 20 #[.int .i64 n] w fun e w' => e = .returned (.agg (ruL (ruN 4)).toArray) ∧ Below w.heap.size w w' := by
  have NB : Hid (∀ W, Calls Tryd.prog 18 #[.int .i64 n, .int .i64 6] W fun e w' => e = .returned (.int .i64 4) ∧ W = w') := fun W => (numb_any n 6 (by omega) (by omega) hn W).mono (by rw [hk]; exact fun _ _ h => h)
  go_enter Tryd.func20, Tryd.ntmps20
  go_upto_region 2 with fail
  obtain ⟨b, f2, f3⟩ := boxes_two w #[.int .i64 0, .int .i64 0, .int .i64 0, .int .i64 0, .int .i64 0, .int .i64 0, .int .i64 0, .int .i64 0, .int .i64 0] ([.int .i64 5, .int .i64 1, .int .i64 3000, .int .i64 2000, .int .i64 200, .int .i64 5, .int .i64 2000, .int .i64 5, .int .i64 2000] : List Value).toArray 34
  generalize hq : World.alloc _ _ = w1
  have e1 : (w.alloc (.cells #[.int .i64 0, .int .i64 0, .int .i64 0, .int .i64 0, .int .i64 0, .int .i64 0, .int .i64 0, .int .i64 0, .int .i64 0] 34 (0, 0))).alloc (.cells ([.int .i64 5, .int .i64 1, .int .i64 3000, .int .i64 2000, .int .i64 200, .int .i64 5, .int .i64 2000, .int .i64 5, .int .i64 2000] : List Value).toArray 34 (0, 0)) = w1 := hq
  rw [e1] at b f2 f3
  obtain ⟨g2, hg2⟩ : ∃ g2, g2 = w.heap.size := ⟨_, rfl⟩
  obtain ⟨g3, hg3⟩ : ∃ g3, g3 = w.heap.size + 1 := ⟨_, rfl⟩
  rw [← hg3] at f3
  rw [← hg2] at f2
  rw [← hg3, ← hg2]
  have F2 := Lib.hid f2
  have F3 := Lib.hid f3
  have BB := Lib.hid b
  have G : Hid (w.heap.size ≤ g2 ∧ g2 < g3) := ⟨by omega, by omega⟩
  clear b f2 f3 hq e1 hg2 hg3
  go_wp2_with fail
  refine (NB.out _).mono ?_
  rintro e wx ⟨rfl, rfl⟩
  clear NB
  go_upto_region 15 with ((with_reducible show wpList _ _ _ _ _ _); (refine wpList_store_part rfl 3 (.tmp 22) (.const (.int .i64 400)) rfl g3 6 [.int .i64 5, .int .i64 1, .int .i64 3000, .int .i64 2000, .int .i64 200, .int .i64 5] [.int .i64 2000] [.int .i64 5, .int .i64 2000] [.int .i64 400] 34 (.int .i64 400) rfl rfl rfl rfl rfl F3.out (by kernel_rfl) (fun u hu => by obtain rfl := List.mem_singleton.1 hu; rfl) ?_; intro v0 q1 q2; have F3 : Hid (v0.heap[g3]? = some (.cells ([.int .i64 5, .int .i64 1, .int .i64 3000, .int .i64 2000, .int .i64 200, .int .i64 5, .int .i64 400, .int .i64 5, .int .i64 2000] : List Value).toArray 34 (0, 0))) := q1; have F2 := Lib.hid (row_far F2.out q2 (by intro h; have := Option.some.inj h; have := G.out; omega)); have BB := Lib.hid (grownBy_below q2 BB.out (by have := G.out; omega) BB.out.size); clear q1 q2; go_frame))
  go_upto_region 24 with ((with_reducible show wpList _ _ _ _ _ _); (refine wpList_store_part rfl 3 (.tmp 23) (.const (.int .i64 500)) rfl g3 8 [.int .i64 5, .int .i64 1, .int .i64 3000, .int .i64 2000, .int .i64 200, .int .i64 5, .int .i64 400, .int .i64 5] [.int .i64 2000] [] [.int .i64 500] 34 (.int .i64 500) rfl rfl rfl rfl rfl F3.out (by kernel_rfl) (fun u hu => by obtain rfl := List.mem_singleton.1 hu; rfl) ?_; intro v1 q1 q2; have F3 : Hid (v1.heap[g3]? = some (.cells ([.int .i64 5, .int .i64 1, .int .i64 3000, .int .i64 2000, .int .i64 200, .int .i64 5, .int .i64 400, .int .i64 5, .int .i64 500] : List Value).toArray 34 (0, 0))) := q1; have F2 := Lib.hid (row_far F2.out q2 (by intro h; have := Option.some.inj h; have := G.out; omega)); have BB := Lib.hid (grownBy_below q2 BB.out (by have := G.out; omega) BB.out.size); clear q1 q2; go_frame))
  go_wp2_with ((with_reducible show wpList _ _ _ _ _ _); first | (refine wpList_load_row rfl 34 (.tmp 3) rfl g3 rfl 34 ([.int .i64 5, .int .i64 1, .int .i64 3000, .int .i64 2000, .int .i64 200, .int .i64 5, .int .i64 400, .int .i64 5, .int .i64 500] : List Value).toArray (0, 0) _ F3.out Tryd.underlying34 rfl (by kernel_rfl) ?_; go_frame) | (refine wpList_store_row rfl 34 (.tmp 2) (.tmp 33) rfl g2 ([.int .i64 5, .int .i64 1, .int .i64 3000, .int .i64 2000, .int .i64 200, .int .i64 5, .int .i64 400, .int .i64 5, .int .i64 500] : List Value).toArray rfl rfl 34 _ F2.out (by kernel_rfl) rfl (by kernel_rfl) ?_; go_frame))
  refine bodyPost_ret (results_cell_row rfl _ _ g2 34 ([.int .i64 5, .int .i64 1, .int .i64 3000, .int .i64 2000, .int .i64 200, .int .i64 5, .int .i64 400, .int .i64 5, .int .i64 500] : List Value).toArray (0, 0) _ rfl (setRow_heap _ _ _ _ _ _ F2.out) Tryd.underlying34 rfl (by kernel_rfl)) rfl ?_
  exact ⟨rfl, below_setRow BB.out G.out.1 _⟩
set_option maxHeartbeats 1000000 in
set_option maxRecDepth 100000 in
theorem mkrules_5 (n : Int) (hk : numb n 6 = 5) (hn : -9223372036854775808 ≤ n ∧ n ≤ 9223372036854775807) (w : World) :
    Calls Tryd.prog 20 #[.int .i64 n] w fun e w' => e = .returned (.agg (ruL (ruN 5)).toArray) ∧ Below w.heap.size w w' := by
  have NB : Hid (∀ W, Calls Tryd.prog 18 #[.int .i64 n, .int .i64 6] W fun e w' => e = .returned (.int .i64 5) ∧ W = w') := fun W => (numb_any n 6 (by omega) (by omega) hn W).mono (by rw [hk]; exact fun _ _ h => h)
  go_enter Tryd.func20, Tryd.ntmps20
  go_upto_region 2 with fail
  obtain ⟨b, f2, f3⟩ := boxes_two w #[.int .i64 0, .int .i64 0, .int .i64 0, .int .i64 0, .int .i64 0, .int .i64 0, .int .i64 0, .int .i64 0, .int .i64 0] ([.int .i64 5, .int .i64 1, .int .i64 3000, .int .i64 2000, .int .i64 200, .int .i64 5, .int .i64 2000, .int .i64 5, .int .i64 2000] : List Value).toArray 34
  generalize hq : World.alloc _ _ = w1
  have e1 : (w.alloc (.cells #[.int .i64 0, .int .i64 0, .int .i64 0, .int .i64 0, .int .i64 0, .int .i64 0, .int .i64 0, .int .i64 0, .int .i64 0] 34 (0, 0))).alloc (.cells ([.int .i64 5, .int .i64 1, .int .i64 3000, .int .i64 2000, .int .i64 200, .int .i64 5, .int .i64 2000, .int .i64 5, .int .i64 2000] : List Value).toArray 34 (0, 0)) = w1 := hq
  rw [e1] at b f2 f3
  obtain ⟨g2, hg2⟩ : ∃ g2, g2 = w.heap.size := ⟨_, rfl⟩
  obtain ⟨g3, hg3⟩ : ∃ g3, g3 = w.heap.size + 1 := ⟨_, rfl⟩
  rw [← hg3] at f3
  rw [← hg2] at f2
  rw [← hg3, ← hg2]
  have F2 := Lib.hid f2
  have F3 := Lib.hid f3
  have BB := Lib.hid b
  have G : Hid (w.heap.size ≤ g2 ∧ g2 < g3) := ⟨by omega, by omega⟩
  clear b f2 f3 hq e1 hg2 hg3
  go_wp2_with fail
  refine (NB.out _).mono ?_
  rintro e wx ⟨rfl, rfl⟩
  clear NB
  go_upto_region 18 with ((with_reducible show wpList _ _ _ _ _ _); (refine wpList_store_part rfl 3 (.tmp 26) (.const (.int .i64 0)) rfl g3 1 [.int .i64 5] [.int .i64 1] [.int .i64 3000, .int .i64 2000, .int .i64 200, .int .i64 5, .int .i64 2000, .int .i64 5, .int .i64 2000] [.int .i64 0] 34 (.int .i64 0) rfl rfl rfl rfl rfl F3.out (by kernel_rfl) (fun u hu => by obtain rfl := List.mem_singleton.1 hu; rfl) ?_; intro v0 q1 q2; have F3 : Hid (v0.heap[g3]? = some (.cells ([.int .i64 5, .int .i64 0, .int .i64 3000, .int .i64 2000, .int .i64 200, .int .i64 5, .int .i64 2000, .int .i64 5, .int .i64 2000] : List Value).toArray 34 (0, 0))) := q1; have F2 := Lib.hid (row_far F2.out q2 (by intro h; have := Option.some.inj h; have := G.out; omega)); have BB := Lib.hid (grownBy_below q2 BB.out (by have := G.out; omega) BB.out.size); clear q1 q2; go_frame))
  go_upto_region 19 with ((with_reducible show wpList _ _ _ _ _ _); (refine wpList_store_part rfl 3 (.tmp 27) (.const (.int .i64 1048576)) rfl g3 2 [.int .i64 5, .int .i64 0] [.int .i64 3000] [.int .i64 2000, .int .i64 200, .int .i64 5, .int .i64 2000, .int .i64 5, .int .i64 2000] [.int .i64 1048576] 34 (.int .i64 1048576) rfl rfl rfl rfl rfl F3.out (by kernel_rfl) (fun u hu => by obtain rfl := List.mem_singleton.1 hu; rfl) ?_; intro v1 q1 q2; have F3 : Hid (v1.heap[g3]? = some (.cells ([.int .i64 5, .int .i64 0, .int .i64 1048576, .int .i64 2000, .int .i64 200, .int .i64 5, .int .i64 2000, .int .i64 5, .int .i64 2000] : List Value).toArray 34 (0, 0))) := q1; have F2 := Lib.hid (row_far F2.out q2 (by intro h; have := Option.some.inj h; have := G.out; omega)); have BB := Lib.hid (grownBy_below q2 BB.out (by have := G.out; omega) BB.out.size); clear q1 q2; go_frame))
  go_upto_region 20 with ((with_reducible show wpList _ _ _ _ _ _); (refine wpList_store_part rfl 3 (.tmp 28) (.const (.int .i64 50)) rfl g3 5 [.int .i64 5, .int .i64 0, .int .i64 1048576, .int .i64 2000, .int .i64 200] [.int .i64 5] [.int .i64 2000, .int .i64 5, .int .i64 2000] [.int .i64 50] 34 (.int .i64 50) rfl rfl rfl rfl rfl F3.out (by kernel_rfl) (fun u hu => by obtain rfl := List.mem_singleton.1 hu; rfl) ?_; intro v2 q1 q2; have F3 : Hid (v2.heap[g3]? = some (.cells ([.int .i64 5, .int .i64 0, .int .i64 1048576, .int .i64 2000, .int .i64 200, .int .i64 50, .int .i64 2000, .int .i64 5, .int .i64 2000] : List Value).toArray 34 (0, 0))) := q1; have F2 := Lib.hid (row_far F2.out q2 (by intro h; have := Option.some.inj h; have := G.out; omega)); have BB := Lib.hid (grownBy_below q2 BB.out (by have := G.out; omega) BB.out.size); clear q1 q2; go_frame))
  go_upto_region 21 with ((with_reducible show wpList _ _ _ _ _ _); (refine wpList_store_part rfl 3 (.tmp 29) (.const (.int .i64 50)) rfl g3 7 [.int .i64 5, .int .i64 0, .int .i64 1048576, .int .i64 2000, .int .i64 200, .int .i64 50, .int .i64 2000] [.int .i64 5] [.int .i64 2000] [.int .i64 50] 34 (.int .i64 50) rfl rfl rfl rfl rfl F3.out (by kernel_rfl) (fun u hu => by obtain rfl := List.mem_singleton.1 hu; rfl) ?_; intro v3 q1 q2; have F3 : Hid (v3.heap[g3]? = some (.cells ([.int .i64 5, .int .i64 0, .int .i64 1048576, .int .i64 2000, .int .i64 200, .int .i64 50, .int .i64 2000, .int .i64 50, .int .i64 2000] : List Value).toArray 34 (0, 0))) := q1; have F2 := Lib.hid (row_far F2.out q2 (by intro h; have := Option.some.inj h; have := G.out; omega)); have BB := Lib.hid (grownBy_below q2 BB.out (by have := G.out; omega) BB.out.size); clear q1 q2; go_frame))
  go_upto_region 22 with ((with_reducible show wpList _ _ _ _ _ _); (refine wpList_store_part rfl 3 (.tmp 30) (.const (.int .i64 1048576)) rfl g3 6 [.int .i64 5, .int .i64 0, .int .i64 1048576, .int .i64 2000, .int .i64 200, .int .i64 50] [.int .i64 2000] [.int .i64 50, .int .i64 2000] [.int .i64 1048576] 34 (.int .i64 1048576) rfl rfl rfl rfl rfl F3.out (by kernel_rfl) (fun u hu => by obtain rfl := List.mem_singleton.1 hu; rfl) ?_; intro v4 q1 q2; have F3 : Hid (v4.heap[g3]? = some (.cells ([.int .i64 5, .int .i64 0, .int .i64 1048576, .int .i64 2000, .int .i64 200, .int .i64 50, .int .i64 1048576, .int .i64 50, .int .i64 2000] : List Value).toArray 34 (0, 0))) := q1; have F2 := Lib.hid (row_far F2.out q2 (by intro h; have := Option.some.inj h; have := G.out; omega)); have BB := Lib.hid (grownBy_below q2 BB.out (by have := G.out; omega) BB.out.size); clear q1 q2; go_frame))
  go_upto_region 23 with ((with_reducible show wpList _ _ _ _ _ _); (refine wpList_store_part rfl 3 (.tmp 31) (.const (.int .i64 1048576)) rfl g3 8 [.int .i64 5, .int .i64 0, .int .i64 1048576, .int .i64 2000, .int .i64 200, .int .i64 50, .int .i64 1048576, .int .i64 50] [.int .i64 2000] [] [.int .i64 1048576] 34 (.int .i64 1048576) rfl rfl rfl rfl rfl F3.out (by kernel_rfl) (fun u hu => by obtain rfl := List.mem_singleton.1 hu; rfl) ?_; intro v5 q1 q2; have F3 : Hid (v5.heap[g3]? = some (.cells ([.int .i64 5, .int .i64 0, .int .i64 1048576, .int .i64 2000, .int .i64 200, .int .i64 50, .int .i64 1048576, .int .i64 50, .int .i64 1048576] : List Value).toArray 34 (0, 0))) := q1; have F2 := Lib.hid (row_far F2.out q2 (by intro h; have := Option.some.inj h; have := G.out; omega)); have BB := Lib.hid (grownBy_below q2 BB.out (by have := G.out; omega) BB.out.size); clear q1 q2; go_frame))
  go_upto_region 24 with ((with_reducible show wpList _ _ _ _ _ _); (refine wpList_store_part rfl 3 (.tmp 32) (.const (.int .i64 1048576)) rfl g3 3 [.int .i64 5, .int .i64 0, .int .i64 1048576] [.int .i64 2000] [.int .i64 200, .int .i64 50, .int .i64 1048576, .int .i64 50, .int .i64 1048576] [.int .i64 1048576] 34 (.int .i64 1048576) rfl rfl rfl rfl rfl F3.out (by kernel_rfl) (fun u hu => by obtain rfl := List.mem_singleton.1 hu; rfl) ?_; intro v6 q1 q2; have F3 : Hid (v6.heap[g3]? = some (.cells ([.int .i64 5, .int .i64 0, .int .i64 1048576, .int .i64 1048576, .int .i64 200, .int .i64 50, .int .i64 1048576, .int .i64 50, .int .i64 1048576] : List Value).toArray 34 (0, 0))) := q1; have F2 := Lib.hid (row_far F2.out q2 (by intro h; have := Option.some.inj h; have := G.out; omega)); have BB := Lib.hid (grownBy_below q2 BB.out (by have := G.out; omega) BB.out.size); clear q1 q2; go_frame))
  go_wp2_with ((with_reducible show wpList _ _ _ _ _ _); first | (refine wpList_load_row rfl 34 (.tmp 3) rfl g3 rfl 34 ([.int .i64 5, .int .i64 0, .int .i64 1048576, .int .i64 1048576, .int .i64 200, .int .i64 50, .int .i64 1048576, .int .i64 50, .int .i64 1048576] : List Value).toArray (0, 0) _ F3.out Tryd.underlying34 rfl (by kernel_rfl) ?_; go_frame) | (refine wpList_store_row rfl 34 (.tmp 2) (.tmp 33) rfl g2 ([.int .i64 5, .int .i64 0, .int .i64 1048576, .int .i64 1048576, .int .i64 200, .int .i64 50, .int .i64 1048576, .int .i64 50, .int .i64 1048576] : List Value).toArray rfl rfl 34 _ F2.out (by kernel_rfl) rfl (by kernel_rfl) ?_; go_frame))
  refine bodyPost_ret (results_cell_row rfl _ _ g2 34 ([.int .i64 5, .int .i64 0, .int .i64 1048576, .int .i64 1048576, .int .i64 200, .int .i64 50, .int .i64 1048576, .int .i64 50, .int .i64 1048576] : List Value).toArray (0, 0) _ rfl (setRow_heap _ _ _ _ _ _ F2.out) Tryd.underlying34 rfl (by kernel_rfl)) rfl ?_
  exact ⟨rfl, below_setRow BB.out G.out.1 _⟩
theorem mkrules_any (n : Int) (hn : -9223372036854775808 ≤ n ∧ n ≤ 9223372036854775807) (w : World) :
    Calls Tryd.prog 20 #[.int .i64 n] w fun e w' => e = .returned (.agg (ruL (ruN (numb n 6).toNat)).toArray) ∧ Below w.heap.size w w' := by
  obtain ⟨k, hk, h6⟩ := numb_nat n 6 (by omega)
  have hk : numb n 6 = (k : Int) := hk
  rw [hk, Int.toNat_natCast]
  match k, h6, hk with
  | 0, _, hk => exact mkrules_0 n hk hn w
  | 1, _, hk => exact mkrules_1 n hk hn w
  | 2, _, hk => exact mkrules_2 n hk hn w
  | 3, _, hk => exact mkrules_3 n hk hn w
  | 4, _, hk => exact mkrules_4 n hk hn w
  | 5, _, hk => exact mkrules_5 n hk hn w
end Go.Proofs.YtlpdgjneoahdeaaDoor.Sha

/-
  Rules with one number otherwise. Nothing that was there turns. No conditions.
-/
namespace Go.Proofs.YtlpdgjneoahdeaaDoor.Sha
open Go Go.RowKit
def setR (r : TRu) : Nat → Int → TRu
  | 0, n => { r with hal := n }
  | 1, n => { r with mat := n }
  | 2, n => { r with pool := n }
  | 3, n => { r with redo := n }
  | 4, n => { r with log := n }
  | 5, n => { r with anc := n }
  | 6, n => { r with ancB := n }
  | 7, n => { r with des := n }
  | _, n => { r with desB := n }
set_option maxHeartbeats 1000000 in
set_option maxRecDepth 100000 in
theorem vlwith_0 (r : TRu) (n : Int) (w : World) :
    Calls Tryd.prog 21 #[.agg (ruL r).toArray, .int .i64 0, .int .i64 n] w fun e w' => e = .returned (.agg (ruL (setR r 0 n)).toArray) ∧ Below w.heap.size w w' := by
  go_enter Tryd.func21, Tryd.ntmps21
  go_upto_region 1 with fail
  obtain ⟨b, f3, f2⟩ := boxes_two w (ruL r).toArray #[.int .i64 0, .int .i64 0, .int .i64 0, .int .i64 0, .int .i64 0, .int .i64 0, .int .i64 0, .int .i64 0, .int .i64 0] 34
  generalize hq : World.alloc _ _ = w1
  have e1 : (w.alloc (.cells (ruL r).toArray 34 (0, 0))).alloc (.cells #[.int .i64 0, .int .i64 0, .int .i64 0, .int .i64 0, .int .i64 0, .int .i64 0, .int .i64 0, .int .i64 0, .int .i64 0] 34 (0, 0)) = w1 := hq
  rw [e1] at b f2 f3
  obtain ⟨g3, hg3⟩ : ∃ g3, g3 = w.heap.size := ⟨_, rfl⟩
  obtain ⟨g2, hg2⟩ : ∃ g2, g2 = w.heap.size + 1 := ⟨_, rfl⟩
  rw [← hg3] at f3
  rw [← hg2] at f2
  rw [← hg2, ← hg3]
  have F2 := Lib.hid f2
  have F3 := Lib.hid f3
  have BB := Lib.hid b
  have G : Hid (w.heap.size ≤ g3 ∧ g3 < g2) := ⟨by omega, by omega⟩
  clear b f2 f3 hq e1 hg2 hg3
  go_upto_region 19 with ((with_reducible show wpList _ _ _ _ _ _); (refine wpList_store_part rfl 3 (.tmp 13) (.tmp 12) rfl g3 0 [] [.int .i64 r.hal] [.int .i64 r.mat, .int .i64 r.pool, .int .i64 r.redo, .int .i64 r.log, .int .i64 r.anc, .int .i64 r.ancB, .int .i64 r.des, .int .i64 r.desB] [.int .i64 n] 34 (.int .i64 n) rfl rfl rfl rfl rfl F3.out (by kernel_rfl) (fun u hu => by obtain rfl := List.mem_singleton.1 hu; rfl) ?_; intro v0 q1 q2; have F3 : Hid (v0.heap[g3]? = some (.cells ([.int .i64 n, .int .i64 r.mat, .int .i64 r.pool, .int .i64 r.redo, .int .i64 r.log, .int .i64 r.anc, .int .i64 r.ancB, .int .i64 r.des, .int .i64 r.desB] : List Value).toArray 34 (0, 0))) := q1; have F2 := Lib.hid (row_far F2.out q2 (by intro h; have := Option.some.inj h; have := G.out; omega)); have BB := Lib.hid (grownBy_below q2 BB.out (by have := G.out; omega) BB.out.size); clear q1 q2; go_frame))
  go_wp2_with ((with_reducible show wpList _ _ _ _ _ _); first | (refine wpList_load_row rfl 34 (.tmp 3) rfl g3 rfl 34 ([.int .i64 n, .int .i64 r.mat, .int .i64 r.pool, .int .i64 r.redo, .int .i64 r.log, .int .i64 r.anc, .int .i64 r.ancB, .int .i64 r.des, .int .i64 r.desB] : List Value).toArray (0, 0) _ F3.out Tryd.underlying34 rfl (by kernel_rfl) ?_; go_frame) | (refine wpList_store_row rfl 34 (.tmp 6) (.tmp 42) rfl g2 ([.int .i64 n, .int .i64 r.mat, .int .i64 r.pool, .int .i64 r.redo, .int .i64 r.log, .int .i64 r.anc, .int .i64 r.ancB, .int .i64 r.des, .int .i64 r.desB] : List Value).toArray rfl rfl 34 _ F2.out (by kernel_rfl) rfl (by kernel_rfl) ?_; go_frame))
  refine bodyPost_ret (results_cell_row rfl _ _ g2 34 ([.int .i64 n, .int .i64 r.mat, .int .i64 r.pool, .int .i64 r.redo, .int .i64 r.log, .int .i64 r.anc, .int .i64 r.ancB, .int .i64 r.des, .int .i64 r.desB] : List Value).toArray (0, 0) _ rfl (setRow_heap _ _ _ _ _ _ F2.out) Tryd.underlying34 rfl (by kernel_rfl)) rfl ?_
  exact ⟨rfl, below_setRow BB.out (by have := G.out; omega) _⟩
set_option maxHeartbeats 1000000 in
set_option maxRecDepth 100000 in
theorem vlwith_1 (r : TRu) (n : Int) (w : World) :
    Calls Tryd.prog 21 #[.agg (ruL r).toArray, .int .i64 1, .int .i64 n] w fun e w' => e = .returned (.agg (ruL (setR r 1 n)).toArray) ∧ Below w.heap.size w w' := by
  go_enter Tryd.func21, Tryd.ntmps21
  go_upto_region 1 with fail
  obtain ⟨b, f3, f2⟩ := boxes_two w (ruL r).toArray #[.int .i64 0, .int .i64 0, .int .i64 0, .int .i64 0, .int .i64 0, .int .i64 0, .int .i64 0, .int .i64 0, .int .i64 0] 34
  generalize hq : World.alloc _ _ = w1
  have e1 : (w.alloc (.cells (ruL r).toArray 34 (0, 0))).alloc (.cells #[.int .i64 0, .int .i64 0, .int .i64 0, .int .i64 0, .int .i64 0, .int .i64 0, .int .i64 0, .int .i64 0, .int .i64 0] 34 (0, 0)) = w1 := hq
  rw [e1] at b f2 f3
  obtain ⟨g3, hg3⟩ : ∃ g3, g3 = w.heap.size := ⟨_, rfl⟩
  obtain ⟨g2, hg2⟩ : ∃ g2, g2 = w.heap.size + 1 := ⟨_, rfl⟩
  rw [← hg3] at f3
  rw [← hg2] at f2
  rw [← hg2, ← hg3]
  have F2 := Lib.hid f2
  have F3 := Lib.hid f3
  have BB := Lib.hid b
  have G : Hid (w.heap.size ≤ g3 ∧ g3 < g2) := ⟨by omega, by omega⟩
  clear b f2 f3 hq e1 hg2 hg3
  go_upto_region 19 with ((with_reducible show wpList _ _ _ _ _ _); (refine wpList_store_part rfl 3 (.tmp 17) (.tmp 16) rfl g3 1 [.int .i64 r.hal] [.int .i64 r.mat] [.int .i64 r.pool, .int .i64 r.redo, .int .i64 r.log, .int .i64 r.anc, .int .i64 r.ancB, .int .i64 r.des, .int .i64 r.desB] [.int .i64 n] 34 (.int .i64 n) rfl rfl rfl rfl rfl F3.out (by kernel_rfl) (fun u hu => by obtain rfl := List.mem_singleton.1 hu; rfl) ?_; intro v0 q1 q2; have F3 : Hid (v0.heap[g3]? = some (.cells ([.int .i64 r.hal, .int .i64 n, .int .i64 r.pool, .int .i64 r.redo, .int .i64 r.log, .int .i64 r.anc, .int .i64 r.ancB, .int .i64 r.des, .int .i64 r.desB] : List Value).toArray 34 (0, 0))) := q1; have F2 := Lib.hid (row_far F2.out q2 (by intro h; have := Option.some.inj h; have := G.out; omega)); have BB := Lib.hid (grownBy_below q2 BB.out (by have := G.out; omega) BB.out.size); clear q1 q2; go_frame))
  go_wp2_with ((with_reducible show wpList _ _ _ _ _ _); first | (refine wpList_load_row rfl 34 (.tmp 3) rfl g3 rfl 34 ([.int .i64 r.hal, .int .i64 n, .int .i64 r.pool, .int .i64 r.redo, .int .i64 r.log, .int .i64 r.anc, .int .i64 r.ancB, .int .i64 r.des, .int .i64 r.desB] : List Value).toArray (0, 0) _ F3.out Tryd.underlying34 rfl (by kernel_rfl) ?_; go_frame) | (refine wpList_store_row rfl 34 (.tmp 6) (.tmp 42) rfl g2 ([.int .i64 r.hal, .int .i64 n, .int .i64 r.pool, .int .i64 r.redo, .int .i64 r.log, .int .i64 r.anc, .int .i64 r.ancB, .int .i64 r.des, .int .i64 r.desB] : List Value).toArray rfl rfl 34 _ F2.out (by kernel_rfl) rfl (by kernel_rfl) ?_; go_frame))
  refine bodyPost_ret (results_cell_row rfl _ _ g2 34 ([.int .i64 r.hal, .int .i64 n, .int .i64 r.pool, .int .i64 r.redo, .int .i64 r.log, .int .i64 r.anc, .int .i64 r.ancB, .int .i64 r.des, .int .i64 r.desB] : List Value).toArray (0, 0) _ rfl (setRow_heap _ _ _ _ _ _ F2.out) Tryd.underlying34 rfl (by kernel_rfl)) rfl ?_
  exact ⟨rfl, below_setRow BB.out (by have := G.out; omega) _⟩
set_option maxHeartbeats 1000000 in
set_option maxRecDepth 100000 in
theorem vlwith_2 (r : TRu) (n : Int) (w : World) :
    Calls Tryd.prog 21 #[.agg (ruL r).toArray, .int .i64 2, .int .i64 n] w fun e w' => e = .returned (.agg (ruL (setR r 2 n)).toArray) ∧ Below w.heap.size w w' := by
  go_enter Tryd.func21, Tryd.ntmps21
  go_upto_region 1 with fail
  obtain ⟨b, f3, f2⟩ := boxes_two w (ruL r).toArray #[.int .i64 0, .int .i64 0, .int .i64 0, .int .i64 0, .int .i64 0, .int .i64 0, .int .i64 0, .int .i64 0, .int .i64 0] 34
  generalize hq : World.alloc _ _ = w1
  have e1 : (w.alloc (.cells (ruL r).toArray 34 (0, 0))).alloc (.cells #[.int .i64 0, .int .i64 0, .int .i64 0, .int .i64 0, .int .i64 0, .int .i64 0, .int .i64 0, .int .i64 0, .int .i64 0] 34 (0, 0)) = w1 := hq
  rw [e1] at b f2 f3
  obtain ⟨g3, hg3⟩ : ∃ g3, g3 = w.heap.size := ⟨_, rfl⟩
  obtain ⟨g2, hg2⟩ : ∃ g2, g2 = w.heap.size + 1 := ⟨_, rfl⟩
  rw [← hg3] at f3
  rw [← hg2] at f2
  rw [← hg2, ← hg3]
  have F2 := Lib.hid f2
  have F3 := Lib.hid f3
  have BB := Lib.hid b
  have G : Hid (w.heap.size ≤ g3 ∧ g3 < g2) := ⟨by omega, by omega⟩
  clear b f2 f3 hq e1 hg2 hg3
  go_upto_region 19 with ((with_reducible show wpList _ _ _ _ _ _); (refine wpList_store_part rfl 3 (.tmp 21) (.tmp 20) rfl g3 2 [.int .i64 r.hal, .int .i64 r.mat] [.int .i64 r.pool] [.int .i64 r.redo, .int .i64 r.log, .int .i64 r.anc, .int .i64 r.ancB, .int .i64 r.des, .int .i64 r.desB] [.int .i64 n] 34 (.int .i64 n) rfl rfl rfl rfl rfl F3.out (by kernel_rfl) (fun u hu => by obtain rfl := List.mem_singleton.1 hu; rfl) ?_; intro v0 q1 q2; have F3 : Hid (v0.heap[g3]? = some (.cells ([.int .i64 r.hal, .int .i64 r.mat, .int .i64 n, .int .i64 r.redo, .int .i64 r.log, .int .i64 r.anc, .int .i64 r.ancB, .int .i64 r.des, .int .i64 r.desB] : List Value).toArray 34 (0, 0))) := q1; have F2 := Lib.hid (row_far F2.out q2 (by intro h; have := Option.some.inj h; have := G.out; omega)); have BB := Lib.hid (grownBy_below q2 BB.out (by have := G.out; omega) BB.out.size); clear q1 q2; go_frame))
  go_wp2_with ((with_reducible show wpList _ _ _ _ _ _); first | (refine wpList_load_row rfl 34 (.tmp 3) rfl g3 rfl 34 ([.int .i64 r.hal, .int .i64 r.mat, .int .i64 n, .int .i64 r.redo, .int .i64 r.log, .int .i64 r.anc, .int .i64 r.ancB, .int .i64 r.des, .int .i64 r.desB] : List Value).toArray (0, 0) _ F3.out Tryd.underlying34 rfl (by kernel_rfl) ?_; go_frame) | (refine wpList_store_row rfl 34 (.tmp 6) (.tmp 42) rfl g2 ([.int .i64 r.hal, .int .i64 r.mat, .int .i64 n, .int .i64 r.redo, .int .i64 r.log, .int .i64 r.anc, .int .i64 r.ancB, .int .i64 r.des, .int .i64 r.desB] : List Value).toArray rfl rfl 34 _ F2.out (by kernel_rfl) rfl (by kernel_rfl) ?_; go_frame))
  refine bodyPost_ret (results_cell_row rfl _ _ g2 34 ([.int .i64 r.hal, .int .i64 r.mat, .int .i64 n, .int .i64 r.redo, .int .i64 r.log, .int .i64 r.anc, .int .i64 r.ancB, .int .i64 r.des, .int .i64 r.desB] : List Value).toArray (0, 0) _ rfl (setRow_heap _ _ _ _ _ _ F2.out) Tryd.underlying34 rfl (by kernel_rfl)) rfl ?_
  exact ⟨rfl, below_setRow BB.out (by have := G.out; omega) _⟩
set_option maxHeartbeats 1000000 in
set_option maxRecDepth 100000 in
theorem vlwith_3 (r : TRu) (n : Int) (w : World) :
    Calls Tryd.prog 21 #[.agg (ruL r).toArray, .int .i64 3, .int .i64 n] w fun e w' => e = .returned (.agg (ruL (setR r 3 n)).toArray) ∧ Below w.heap.size w w' := by
  go_enter Tryd.func21, Tryd.ntmps21
  go_upto_region 1 with fail
  obtain ⟨b, f3, f2⟩ := boxes_two w (ruL r).toArray #[.int .i64 0, .int .i64 0, .int .i64 0, .int .i64 0, .int .i64 0, .int .i64 0, .int .i64 0, .int .i64 0, .int .i64 0] 34
  generalize hq : World.alloc _ _ = w1
  have e1 : (w.alloc (.cells (ruL r).toArray 34 (0, 0))).alloc (.cells #[.int .i64 0, .int .i64 0, .int .i64 0, .int .i64 0, .int .i64 0, .int .i64 0, .int .i64 0, .int .i64 0, .int .i64 0] 34 (0, 0)) = w1 := hq
  rw [e1] at b f2 f3
  obtain ⟨g3, hg3⟩ : ∃ g3, g3 = w.heap.size := ⟨_, rfl⟩
  obtain ⟨g2, hg2⟩ : ∃ g2, g2 = w.heap.size + 1 := ⟨_, rfl⟩
  rw [← hg3] at f3
  rw [← hg2] at f2
  rw [← hg2, ← hg3]
  have F2 := Lib.hid f2
  have F3 := Lib.hid f3
  have BB := Lib.hid b
  have G : Hid (w.heap.size ≤ g3 ∧ g3 < g2) := ⟨by omega, by omega⟩
  clear b f2 f3 hq e1 hg2 hg3
  go_upto_region 19 with ((with_reducible show wpList _ _ _ _ _ _); (refine wpList_store_part rfl 3 (.tmp 25) (.tmp 24) rfl g3 3 [.int .i64 r.hal, .int .i64 r.mat, .int .i64 r.pool] [.int .i64 r.redo] [.int .i64 r.log, .int .i64 r.anc, .int .i64 r.ancB, .int .i64 r.des, .int .i64 r.desB] [.int .i64 n] 34 (.int .i64 n) rfl rfl rfl rfl rfl F3.out (by kernel_rfl) (fun u hu => by obtain rfl := List.mem_singleton.1 hu; rfl) ?_; intro v0 q1 q2; have F3 : Hid (v0.heap[g3]? = some (.cells ([.int .i64 r.hal, .int .i64 r.mat, .int .i64 r.pool, .int .i64 n, .int .i64 r.log, .int .i64 r.anc, .int .i64 r.ancB, .int .i64 r.des, .int .i64 r.desB] : List Value).toArray 34 (0, 0))) := q1; have F2 := Lib.hid (row_far F2.out q2 (by intro h; have := Option.some.inj h; have := G.out; omega)); have BB := Lib.hid (grownBy_below q2 BB.out (by have := G.out; omega) BB.out.size); clear q1 q2; go_frame))
  go_wp2_with ((with_reducible show wpList _ _ _ _ _ _); first | (refine wpList_load_row rfl 34 (.tmp 3) rfl g3 rfl 34 ([.int .i64 r.hal, .int .i64 r.mat, .int .i64 r.pool, .int .i64 n, .int .i64 r.log, .int .i64 r.anc, .int .i64 r.ancB, .int .i64 r.des, .int .i64 r.desB] : List Value).toArray (0, 0) _ F3.out Tryd.underlying34 rfl (by kernel_rfl) ?_; go_frame) | (refine wpList_store_row rfl 34 (.tmp 6) (.tmp 42) rfl g2 ([.int .i64 r.hal, .int .i64 r.mat, .int .i64 r.pool, .int .i64 n, .int .i64 r.log, .int .i64 r.anc, .int .i64 r.ancB, .int .i64 r.des, .int .i64 r.desB] : List Value).toArray rfl rfl 34 _ F2.out (by kernel_rfl) rfl (by kernel_rfl) ?_; go_frame))
  refine bodyPost_ret (results_cell_row rfl _ _ g2 34 ([.int .i64 r.hal, .int .i64 r.mat, .int .i64 r.pool, .int .i64 n, .int .i64 r.log, .int .i64 r.anc, .int .i64 r.ancB, .int .i64 r.des, .int .i64 r.desB] : List Value).toArray (0, 0) _ rfl (setRow_heap _ _ _ _ _ _ F2.out) Tryd.underlying34 rfl (by kernel_rfl)) rfl ?_
  exact ⟨rfl, below_setRow BB.out (by have := G.out; omega) _⟩
set_option maxHeartbeats 1000000 in
set_option maxRecDepth 100000 in
theorem vlwith_4 (r : TRu) (n : Int) (w : World) :
    Calls Tryd.prog 21 #[.agg (ruL r).toArray, .int .i64 4, .int .i64 n] w fun e w' => e = .returned (.agg (ruL (setR r 4 n)).toArray) ∧ Below w.heap.size w w' := by
  go_enter Tryd.func21, Tryd.ntmps21
  go_upto_region 1 with fail
  obtain ⟨b, f3, f2⟩ := boxes_two w (ruL r).toArray #[.int .i64 0, .int .i64 0, .int .i64 0, .int .i64 0, .int .i64 0, .int .i64 0, .int .i64 0, .int .i64 0, .int .i64 0] 34
  generalize hq : World.alloc _ _ = w1
  have e1 : (w.alloc (.cells (ruL r).toArray 34 (0, 0))).alloc (.cells #[.int .i64 0, .int .i64 0, .int .i64 0, .int .i64 0, .int .i64 0, .int .i64 0, .int .i64 0, .int .i64 0, .int .i64 0] 34 (0, 0)) = w1 := hq
  rw [e1] at b f2 f3
  obtain ⟨g3, hg3⟩ : ∃ g3, g3 = w.heap.size := ⟨_, rfl⟩
  obtain ⟨g2, hg2⟩ : ∃ g2, g2 = w.heap.size + 1 := ⟨_, rfl⟩
  rw [← hg3] at f3
  rw [← hg2] at f2
  rw [← hg2, ← hg3]
  have F2 := Lib.hid f2
  have F3 := Lib.hid f3
  have BB := Lib.hid b
  have G : Hid (w.heap.size ≤ g3 ∧ g3 < g2) := ⟨by omega, by omega⟩
  clear b f2 f3 hq e1 hg2 hg3
  go_upto_region 19 with ((with_reducible show wpList _ _ _ _ _ _); (refine wpList_store_part rfl 3 (.tmp 29) (.tmp 28) rfl g3 4 [.int .i64 r.hal, .int .i64 r.mat, .int .i64 r.pool, .int .i64 r.redo] [.int .i64 r.log] [.int .i64 r.anc, .int .i64 r.ancB, .int .i64 r.des, .int .i64 r.desB] [.int .i64 n] 34 (.int .i64 n) rfl rfl rfl rfl rfl F3.out (by kernel_rfl) (fun u hu => by obtain rfl := List.mem_singleton.1 hu; rfl) ?_; intro v0 q1 q2; have F3 : Hid (v0.heap[g3]? = some (.cells ([.int .i64 r.hal, .int .i64 r.mat, .int .i64 r.pool, .int .i64 r.redo, .int .i64 n, .int .i64 r.anc, .int .i64 r.ancB, .int .i64 r.des, .int .i64 r.desB] : List Value).toArray 34 (0, 0))) := q1; have F2 := Lib.hid (row_far F2.out q2 (by intro h; have := Option.some.inj h; have := G.out; omega)); have BB := Lib.hid (grownBy_below q2 BB.out (by have := G.out; omega) BB.out.size); clear q1 q2; go_frame))
  go_wp2_with ((with_reducible show wpList _ _ _ _ _ _); first | (refine wpList_load_row rfl 34 (.tmp 3) rfl g3 rfl 34 ([.int .i64 r.hal, .int .i64 r.mat, .int .i64 r.pool, .int .i64 r.redo, .int .i64 n, .int .i64 r.anc, .int .i64 r.ancB, .int .i64 r.des, .int .i64 r.desB] : List Value).toArray (0, 0) _ F3.out Tryd.underlying34 rfl (by kernel_rfl) ?_; go_frame) | (refine wpList_store_row rfl 34 (.tmp 6) (.tmp 42) rfl g2 ([.int .i64 r.hal, .int .i64 r.mat, .int .i64 r.pool, .int .i64 r.redo, .int .i64 n, .int .i64 r.anc, .int .i64 r.ancB, .int .i64 r.des, .int .i64 r.desB] : List Value).toArray rfl rfl 34 _ F2.out (by kernel_rfl) rfl (by kernel_rfl) ?_; go_frame))
  refine bodyPost_ret (results_cell_row rfl _ _ g2 34 ([.int .i64 r.hal, .int .i64 r.mat, .int .i64 r.pool, .int .i64 r.redo, .int .i64 n, .int .i64 r.anc, .int .i64 r.ancB, .int .i64 r.des, .int .i64 r.desB] : List Value).toArray (0, 0) _ rfl (setRow_heap _ _ _ _ _ _ F2.out) Tryd.underlying34 rfl (by kernel_rfl)) rfl ?_
  exact ⟨rfl, below_setRow BB.out (by have := G.out; omega) _⟩
set_option maxHeartbeats 1000000 in
set_option maxRecDepth 100000 in
theorem vlwith_5 (r : TRu) (n : Int) (w : World) :
    Calls Tryd.prog 21 #[.agg (ruL r).toArray, .int .i64 5, .int .i64 n] w fun e w' => e = .returned (.agg (ruL (setR r 5 n)).toArray) ∧ Below w.heap.size w w' := by
  go_enter Tryd.func21, Tryd.ntmps21
  go_upto_region 1 with fail
  obtain ⟨b, f3, f2⟩ := boxes_two w (ruL r).toArray #[.int .i64 0, .int .i64 0, .int .i64 0, .int .i64 0, .int .i64 0, .int .i64 0, .int .i64 0, .int .i64 0, .int .i64 0] 34
  generalize hq : World.alloc _ _ = w1
  have e1 : (w.alloc (.cells (ruL r).toArray 34 (0, 0))).alloc (.cells #[.int .i64 0, .int .i64 0, .int .i64 0, .int .i64 0, .int .i64 0, .int .i64 0, .int .i64 0, .int .i64 0, .int .i64 0] 34 (0, 0)) = w1 := hq
  rw [e1] at b f2 f3
  obtain ⟨g3, hg3⟩ : ∃ g3, g3 = w.heap.size := ⟨_, rfl⟩
  obtain ⟨g2, hg2⟩ : ∃ g2, g2 = w.heap.size + 1 := ⟨_, rfl⟩
  rw [← hg3] at f3
  rw [← hg2] at f2
  rw [← hg2, ← hg3]
  have F2 := Lib.hid f2
  have F3 := Lib.hid f3
  have BB := Lib.hid b
  have G : Hid (w.heap.size ≤ g3 ∧ g3 < g2) := ⟨by omega, by omega⟩
  clear b f2 f3 hq e1 hg2 hg3
  go_upto_region 19 with ((with_reducible show wpList _ _ _ _ _ _); (refine wpList_store_part rfl 3 (.tmp 33) (.tmp 32) rfl g3 5 [.int .i64 r.hal, .int .i64 r.mat, .int .i64 r.pool, .int .i64 r.redo, .int .i64 r.log] [.int .i64 r.anc] [.int .i64 r.ancB, .int .i64 r.des, .int .i64 r.desB] [.int .i64 n] 34 (.int .i64 n) rfl rfl rfl rfl rfl F3.out (by kernel_rfl) (fun u hu => by obtain rfl := List.mem_singleton.1 hu; rfl) ?_; intro v0 q1 q2; have F3 : Hid (v0.heap[g3]? = some (.cells ([.int .i64 r.hal, .int .i64 r.mat, .int .i64 r.pool, .int .i64 r.redo, .int .i64 r.log, .int .i64 n, .int .i64 r.ancB, .int .i64 r.des, .int .i64 r.desB] : List Value).toArray 34 (0, 0))) := q1; have F2 := Lib.hid (row_far F2.out q2 (by intro h; have := Option.some.inj h; have := G.out; omega)); have BB := Lib.hid (grownBy_below q2 BB.out (by have := G.out; omega) BB.out.size); clear q1 q2; go_frame))
  go_wp2_with ((with_reducible show wpList _ _ _ _ _ _); first | (refine wpList_load_row rfl 34 (.tmp 3) rfl g3 rfl 34 ([.int .i64 r.hal, .int .i64 r.mat, .int .i64 r.pool, .int .i64 r.redo, .int .i64 r.log, .int .i64 n, .int .i64 r.ancB, .int .i64 r.des, .int .i64 r.desB] : List Value).toArray (0, 0) _ F3.out Tryd.underlying34 rfl (by kernel_rfl) ?_; go_frame) | (refine wpList_store_row rfl 34 (.tmp 6) (.tmp 42) rfl g2 ([.int .i64 r.hal, .int .i64 r.mat, .int .i64 r.pool, .int .i64 r.redo, .int .i64 r.log, .int .i64 n, .int .i64 r.ancB, .int .i64 r.des, .int .i64 r.desB] : List Value).toArray rfl rfl 34 _ F2.out (by kernel_rfl) rfl (by kernel_rfl) ?_; go_frame))
  refine bodyPost_ret (results_cell_row rfl _ _ g2 34 ([.int .i64 r.hal, .int .i64 r.mat, .int .i64 r.pool, .int .i64 r.redo, .int .i64 r.log, .int .i64 n, .int .i64 r.ancB, .int .i64 r.des, .int .i64 r.desB] : List Value).toArray (0, 0) _ rfl (setRow_heap _ _ _ _ _ _ F2.out) Tryd.underlying34 rfl (by kernel_rfl)) rfl ?_
  exact ⟨rfl, below_setRow BB.out (by have := G.out; omega) _⟩
set_option maxHeartbeats 1000000 in
set_option maxRecDepth 100000 in
theorem vlwith_6 (r : TRu) (n : Int) (w : World) :
    Calls Tryd.prog 21 #[.agg (ruL r).toArray, .int .i64 6, .int .i64 n] w fun e w' => e = .returned (.agg (ruL (setR r 6 n)).toArray) ∧ Below w.heap.size w w' := by
  go_enter Tryd.func21, Tryd.ntmps21
  go_upto_region 1 with fail
  obtain ⟨b, f3, f2⟩ := boxes_two w (ruL r).toArray #[.int .i64 0, .int .i64 0, .int .i64 0, .int .i64 0, .int .i64 0, .int .i64 0, .int .i64 0, .int .i64 0, .int .i64 0] 34
  generalize hq : World.alloc _ _ = w1
  have e1 : (w.alloc (.cells (ruL r).toArray 34 (0, 0))).alloc (.cells #[.int .i64 0, .int .i64 0, .int .i64 0, .int .i64 0, .int .i64 0, .int .i64 0, .int .i64 0, .int .i64 0, .int .i64 0] 34 (0, 0)) = w1 := hq
  rw [e1] at b f2 f3
  obtain ⟨g3, hg3⟩ : ∃ g3, g3 = w.heap.size := ⟨_, rfl⟩
  obtain ⟨g2, hg2⟩ : ∃ g2, g2 = w.heap.size + 1 := ⟨_, rfl⟩
  rw [← hg3] at f3
  rw [← hg2] at f2
  rw [← hg2, ← hg3]
  have F2 := Lib.hid f2
  have F3 := Lib.hid f3
  have BB := Lib.hid b
  have G : Hid (w.heap.size ≤ g3 ∧ g3 < g2) := ⟨by omega, by omega⟩
  clear b f2 f3 hq e1 hg2 hg3
  go_upto_region 19 with ((with_reducible show wpList _ _ _ _ _ _); (refine wpList_store_part rfl 3 (.tmp 37) (.tmp 36) rfl g3 6 [.int .i64 r.hal, .int .i64 r.mat, .int .i64 r.pool, .int .i64 r.redo, .int .i64 r.log, .int .i64 r.anc] [.int .i64 r.ancB] [.int .i64 r.des, .int .i64 r.desB] [.int .i64 n] 34 (.int .i64 n) rfl rfl rfl rfl rfl F3.out (by kernel_rfl) (fun u hu => by obtain rfl := List.mem_singleton.1 hu; rfl) ?_; intro v0 q1 q2; have F3 : Hid (v0.heap[g3]? = some (.cells ([.int .i64 r.hal, .int .i64 r.mat, .int .i64 r.pool, .int .i64 r.redo, .int .i64 r.log, .int .i64 r.anc, .int .i64 n, .int .i64 r.des, .int .i64 r.desB] : List Value).toArray 34 (0, 0))) := q1; have F2 := Lib.hid (row_far F2.out q2 (by intro h; have := Option.some.inj h; have := G.out; omega)); have BB := Lib.hid (grownBy_below q2 BB.out (by have := G.out; omega) BB.out.size); clear q1 q2; go_frame))
  go_wp2_with ((with_reducible show wpList _ _ _ _ _ _); first | (refine wpList_load_row rfl 34 (.tmp 3) rfl g3 rfl 34 ([.int .i64 r.hal, .int .i64 r.mat, .int .i64 r.pool, .int .i64 r.redo, .int .i64 r.log, .int .i64 r.anc, .int .i64 n, .int .i64 r.des, .int .i64 r.desB] : List Value).toArray (0, 0) _ F3.out Tryd.underlying34 rfl (by kernel_rfl) ?_; go_frame) | (refine wpList_store_row rfl 34 (.tmp 6) (.tmp 42) rfl g2 ([.int .i64 r.hal, .int .i64 r.mat, .int .i64 r.pool, .int .i64 r.redo, .int .i64 r.log, .int .i64 r.anc, .int .i64 n, .int .i64 r.des, .int .i64 r.desB] : List Value).toArray rfl rfl 34 _ F2.out (by kernel_rfl) rfl (by kernel_rfl) ?_; go_frame))
  refine bodyPost_ret (results_cell_row rfl _ _ g2 34 ([.int .i64 r.hal, .int .i64 r.mat, .int .i64 r.pool, .int .i64 r.redo, .int .i64 r.log, .int .i64 r.anc, .int .i64 n, .int .i64 r.des, .int .i64 r.desB] : List Value).toArray (0, 0) _ rfl (setRow_heap _ _ _ _ _ _ F2.out) Tryd.underlying34 rfl (by kernel_rfl)) rfl ?_
  exact ⟨rfl, below_setRow BB.out (by have := G.out; omega) _⟩
set_option maxHeartbeats 1000000 in
set_option maxRecDepth 100000 in
theorem vlwith_7 (r : TRu) (n : Int) (w : World) :
    Calls Tryd.prog 21 #[.agg (ruL r).toArray, .int .i64 7, .int .i64 n] w fun e w' => e = .returned (.agg (ruL (setR r 7 n)).toArray) ∧ Below w.heap.size w w' := by
  go_enter Tryd.func21, Tryd.ntmps21
  go_upto_region 1 with fail
  obtain ⟨b, f3, f2⟩ := boxes_two w (ruL r).toArray #[.int .i64 0, .int .i64 0, .int .i64 0, .int .i64 0, .int .i64 0, .int .i64 0, .int .i64 0, .int .i64 0, .int .i64 0] 34
  generalize hq : World.alloc _ _ = w1
  have e1 : (w.alloc (.cells (ruL r).toArray 34 (0, 0))).alloc (.cells #[.int .i64 0, .int .i64 0, .int .i64 0, .int .i64 0, .int .i64 0, .int .i64 0, .int .i64 0, .int .i64 0, .int .i64 0] 34 (0, 0)) = w1 := hq
  rw [e1] at b f2 f3
  obtain ⟨g3, hg3⟩ : ∃ g3, g3 = w.heap.size := ⟨_, rfl⟩
  obtain ⟨g2, hg2⟩ : ∃ g2, g2 = w.heap.size + 1 := ⟨_, rfl⟩
  rw [← hg3] at f3
  rw [← hg2] at f2
  rw [← hg2, ← hg3]
  have F2 := Lib.hid f2
  have F3 := Lib.hid f3
  have BB := Lib.hid b
  have G : Hid (w.heap.size ≤ g3 ∧ g3 < g2) := ⟨by omega, by omega⟩
  clear b f2 f3 hq e1 hg2 hg3
  go_upto_region 19 with ((with_reducible show wpList _ _ _ _ _ _); (refine wpList_store_part rfl 3 (.tmp 41) (.tmp 40) rfl g3 7 [.int .i64 r.hal, .int .i64 r.mat, .int .i64 r.pool, .int .i64 r.redo, .int .i64 r.log, .int .i64 r.anc, .int .i64 r.ancB] [.int .i64 r.des] [.int .i64 r.desB] [.int .i64 n] 34 (.int .i64 n) rfl rfl rfl rfl rfl F3.out (by kernel_rfl) (fun u hu => by obtain rfl := List.mem_singleton.1 hu; rfl) ?_; intro v0 q1 q2; have F3 : Hid (v0.heap[g3]? = some (.cells ([.int .i64 r.hal, .int .i64 r.mat, .int .i64 r.pool, .int .i64 r.redo, .int .i64 r.log, .int .i64 r.anc, .int .i64 r.ancB, .int .i64 n, .int .i64 r.desB] : List Value).toArray 34 (0, 0))) := q1; have F2 := Lib.hid (row_far F2.out q2 (by intro h; have := Option.some.inj h; have := G.out; omega)); have BB := Lib.hid (grownBy_below q2 BB.out (by have := G.out; omega) BB.out.size); clear q1 q2; go_frame))
  go_wp2_with ((with_reducible show wpList _ _ _ _ _ _); first | (refine wpList_load_row rfl 34 (.tmp 3) rfl g3 rfl 34 ([.int .i64 r.hal, .int .i64 r.mat, .int .i64 r.pool, .int .i64 r.redo, .int .i64 r.log, .int .i64 r.anc, .int .i64 r.ancB, .int .i64 n, .int .i64 r.desB] : List Value).toArray (0, 0) _ F3.out Tryd.underlying34 rfl (by kernel_rfl) ?_; go_frame) | (refine wpList_store_row rfl 34 (.tmp 6) (.tmp 42) rfl g2 ([.int .i64 r.hal, .int .i64 r.mat, .int .i64 r.pool, .int .i64 r.redo, .int .i64 r.log, .int .i64 r.anc, .int .i64 r.ancB, .int .i64 n, .int .i64 r.desB] : List Value).toArray rfl rfl 34 _ F2.out (by kernel_rfl) rfl (by kernel_rfl) ?_; go_frame))
  refine bodyPost_ret (results_cell_row rfl _ _ g2 34 ([.int .i64 r.hal, .int .i64 r.mat, .int .i64 r.pool, .int .i64 r.redo, .int .i64 r.log, .int .i64 r.anc, .int .i64 r.ancB, .int .i64 n, .int .i64 r.desB] : List Value).toArray (0, 0) _ rfl (setRow_heap _ _ _ _ _ _ F2.out) Tryd.underlying34 rfl (by kernel_rfl)) rfl ?_
  exact ⟨rfl, below_setRow BB.out (by have := G.out; omega) _⟩
set_option maxHeartbeats 1000000 in
set_option maxRecDepth 100000 in
theorem vlwith_8 (r : TRu) (n : Int) (w : World) :
    Calls Tryd.prog 21 #[.agg (ruL r).toArray, .int .i64 8, .int .i64 n] w fun e w' => e = .returned (.agg (ruL (setR r 8 n)).toArray) ∧ Below w.heap.size w w' := by
  go_enter Tryd.func21, Tryd.ntmps21
  go_upto_region 1 with fail
  obtain ⟨b, f3, f2⟩ := boxes_two w (ruL r).toArray #[.int .i64 0, .int .i64 0, .int .i64 0, .int .i64 0, .int .i64 0, .int .i64 0, .int .i64 0, .int .i64 0, .int .i64 0] 34
  generalize hq : World.alloc _ _ = w1
  have e1 : (w.alloc (.cells (ruL r).toArray 34 (0, 0))).alloc (.cells #[.int .i64 0, .int .i64 0, .int .i64 0, .int .i64 0, .int .i64 0, .int .i64 0, .int .i64 0, .int .i64 0, .int .i64 0] 34 (0, 0)) = w1 := hq
  rw [e1] at b f2 f3
  obtain ⟨g3, hg3⟩ : ∃ g3, g3 = w.heap.size := ⟨_, rfl⟩
  obtain ⟨g2, hg2⟩ : ∃ g2, g2 = w.heap.size + 1 := ⟨_, rfl⟩
  rw [← hg3] at f3
  rw [← hg2] at f2
  rw [← hg2, ← hg3]
  have F2 := Lib.hid f2
  have F3 := Lib.hid f3
  have BB := Lib.hid b
  have G : Hid (w.heap.size ≤ g3 ∧ g3 < g2) := ⟨by omega, by omega⟩
  clear b f2 f3 hq e1 hg2 hg3
  go_upto_region 19 with ((with_reducible show wpList _ _ _ _ _ _); (refine wpList_store_part rfl 3 (.tmp 9) (.tmp 8) rfl g3 8 [.int .i64 r.hal, .int .i64 r.mat, .int .i64 r.pool, .int .i64 r.redo, .int .i64 r.log, .int .i64 r.anc, .int .i64 r.ancB, .int .i64 r.des] [.int .i64 r.desB] [] [.int .i64 n] 34 (.int .i64 n) rfl rfl rfl rfl rfl F3.out (by kernel_rfl) (fun u hu => by obtain rfl := List.mem_singleton.1 hu; rfl) ?_; intro v0 q1 q2; have F3 : Hid (v0.heap[g3]? = some (.cells ([.int .i64 r.hal, .int .i64 r.mat, .int .i64 r.pool, .int .i64 r.redo, .int .i64 r.log, .int .i64 r.anc, .int .i64 r.ancB, .int .i64 r.des, .int .i64 n] : List Value).toArray 34 (0, 0))) := q1; have F2 := Lib.hid (row_far F2.out q2 (by intro h; have := Option.some.inj h; have := G.out; omega)); have BB := Lib.hid (grownBy_below q2 BB.out (by have := G.out; omega) BB.out.size); clear q1 q2; go_frame))
  go_wp2_with ((with_reducible show wpList _ _ _ _ _ _); first | (refine wpList_load_row rfl 34 (.tmp 3) rfl g3 rfl 34 ([.int .i64 r.hal, .int .i64 r.mat, .int .i64 r.pool, .int .i64 r.redo, .int .i64 r.log, .int .i64 r.anc, .int .i64 r.ancB, .int .i64 r.des, .int .i64 n] : List Value).toArray (0, 0) _ F3.out Tryd.underlying34 rfl (by kernel_rfl) ?_; go_frame) | (refine wpList_store_row rfl 34 (.tmp 6) (.tmp 42) rfl g2 ([.int .i64 r.hal, .int .i64 r.mat, .int .i64 r.pool, .int .i64 r.redo, .int .i64 r.log, .int .i64 r.anc, .int .i64 r.ancB, .int .i64 r.des, .int .i64 n] : List Value).toArray rfl rfl 34 _ F2.out (by kernel_rfl) rfl (by kernel_rfl) ?_; go_frame))
  refine bodyPost_ret (results_cell_row rfl _ _ g2 34 ([.int .i64 r.hal, .int .i64 r.mat, .int .i64 r.pool, .int .i64 r.redo, .int .i64 r.log, .int .i64 r.anc, .int .i64 r.ancB, .int .i64 r.des, .int .i64 n] : List Value).toArray (0, 0) _ rfl (setRow_heap _ _ _ _ _ _ F2.out) Tryd.underlying34 rfl (by kernel_rfl)) rfl ?_
  exact ⟨rfl, below_setRow BB.out (by have := G.out; omega) _⟩
theorem vlwith_any (r : TRu) (k : Nat) (n : Int) (w : World) (hk : k < 9) :
    Calls Tryd.prog 21 #[.agg (ruL r).toArray, .int .i64 (k : Int), .int .i64 n] w fun e w' => e = .returned (.agg (ruL (setR r k n)).toArray) ∧ Below w.heap.size w w' := by
  match k, hk with
  | 0, _ => exact vlwith_0 r n w
  | 1, _ => exact vlwith_1 r n w
  | 2, _ => exact vlwith_2 r n w
  | 3, _ => exact vlwith_3 r n w
  | 4, _ => exact vlwith_4 r n w
  | 5, _ => exact vlwith_5 r n w
  | 6, _ => exact vlwith_6 r n w
  | 7, _ => exact vlwith_7 r n w
  | 8, _ => exact vlwith_8 r n w
end Go.Proofs.YtlpdgjneoahdeaaDoor.Sha
