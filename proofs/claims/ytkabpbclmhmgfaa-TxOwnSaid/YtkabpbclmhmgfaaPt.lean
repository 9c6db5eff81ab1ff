/-
  A place (api.Point) as the model has it: 32 bytes and a number, 33 cells; how two are held against each other. Conditions: digests of 32 bytes.
-/
import Derived.Deep.MidRow
import Derived.Stop.BytesEq
import Derived.Test.YtkabpbclmhmgfaaBase
namespace Go.Proofs.Ytkabpbclmhmgfaa.Sha
open Go Go.RowKit

/-- A number of 32 bits as a cell. -/
def nV (n : Nat) : Value := .int .u32 (n : Int)
/-- A place: its transaction's digest, its number. -/
def ptL (h : List UInt8) (n : Nat) : List Value := h.map bV ++ [nV n]
theorem ptL_length (h : List UInt8) (n : Nat) : (ptL h n).length = h.length + 1 := by simp [ptL]
theorem ptL_size (h : List UInt8) (n : Nat) (hh : h.length = 32) : (ptL h n).toArray.size = 33 := by simp [ptL, hh]
theorem ptL_one' (h : List UInt8) (n : Nat) : ∀ v ∈ ptL h n, v.oneCell' = true := by
  intro v hv
  rcases List.mem_append.1 hv with h1 | h1
  · exact bV_one' h v h1
  · obtain rfl : v = nV n := by simpa using h1
    rfl
theorem ptL_one (h : List UInt8) (n : Nat) : (ptL h n).toArray.all (·.oneCell') = true := all_oneCell_toArray (ptL_one' h n)
theorem bV_nat (x : UInt8) : (x.toNat : Int) = bv x := rfl
theorem bV_cell : (fun x : UInt8 => Extern.Stop.cell x) = bV := rfl
/-- The digest lies at the place's head. -/
theorem pt_hash {w : World} {g : Nat} {h : List UInt8} {n : Nat} {T : TypeId} {fr : Nat × Nat} (hg : w.heap[g]? = some (.cells (ptL h n).toArray T fr)) : w.rangeAt g 0 (h.map bV) := fun j v hv => by
  rw [Nat.zero_add, cell_of_row _ _ _ _ _ _ hg, List.getElem?_toArray, ptL, List.getElem?_append_left (List.getElem?_eq_some_iff.1 hv).1]
  exact hv
/-- The number lies behind. -/
theorem pt_num {w : World} {g : Nat} {h : List UInt8} {n : Nat} {T : TypeId} {fr : Nat × Nat} (hh : h.length = 32) (hg : w.heap[g]? = some (.cells (ptL h n).toArray T fr)) : w.cell? ⟨g, 32, none⟩ = some (nV n) := by
  rw [cell_of_row _ _ _ _ _ _ hg, List.getElem?_toArray, ptL, List.getElem?_append_right (by simp [hh])]
  simp [hh]
theorem size_u8 (w : World) : (Go.sizeOf 5).run Try.prog w = .ok 1 w := by kernel_rfl
theorem eq_hash (d : Nat) (h h' : List UInt8) (hh : h.length = 32) (hh' : h'.length = 32) (w : World) : (Op.equalIn (d + 2) 31 (.agg (h.map bV).toArray) (.agg (h'.map bV).toArray)).run Try.prog w = .ok (decide (h = h')) w := by
  have := run_equalIn_bytes (P := Try.prog) w d 31 5 32 Try.underlying31 Try.underlying5 size_u8 h h' hh hh'
  rw [show (h == h') = decide (h = h') by by_cases e : h = h' <;> simp [e]] at this
  exact this
theorem run_eql_hash (h h' : List UInt8) (hh : h.length = 32) (hh' : h'.length = 32) (w : World) : (binOp .eql 31 (.agg (h.map bV).toArray) (.agg (h'.map bV).toArray)).run Try.prog w = .ok (.bool (decide (h = h'))) w := by
  rw [run_eql_struct, eq_hash 9998 h h' hh hh']
  rfl
theorem run_neq_hash (h h' : List UInt8) (hh : h.length = 32) (hh' : h'.length = 32) (w : World) : (binOp .neq 31 (.agg (h.map bV).toArray) (.agg (h'.map bV).toArray)).run Try.prog w = .ok (.bool (!decide (h = h'))) w := by
  rw [run_neq_struct, eq_hash 9998 h h' hh hh']
  rfl
theorem pt_fields : (Try.prog.fieldsOf 33).toList.map (fun f => (f.name, f.type, f.offset)) = [("Tx", 31, 0), ("N", 22, 32)] := by kernel_rfl
theorem pt_under : Try.prog.underlying 33 = some (.struct (Try.prog.fieldsOf 33)) := by kernel_rfl
theorem pt_free : Try.prog.stoodInHeld 33 = false := by kernel_rfl
theorem size_hash (w : World) : (Go.sizeOf 31).run Try.prog w = .ok 32 w := by kernel_rfl
theorem part_hash (h : List UInt8) (n : Nat) (hh : h.length = 32) (w : World) : (part 31 (ptL h n).toArray 0).run Try.prog w = .ok (.agg (h.map bV).toArray) w := by
  have hagg : (isAgg 31).run Try.prog w = .ok true w := by
    unfold isAgg
    rw [Sem.run_bind, run_underlying Try.underlying31 w]
    rfl
  have e : (ptL h n).toArray.extract 0 32 = (h.map bV).toArray := by
    rw [List.extract_toArray, List.extract_eq_take_drop, List.drop_zero, Nat.sub_zero, ptL, List.take_append_of_le_length (by simp [hh]), List.take_of_length_le (by simp [hh])]
  simp only [part, Sem.run_bind, hagg, Result.andThen_ok, if_true, size_hash, Sem.run_pure, Nat.zero_add, e]
theorem part_num (h : List UInt8) (n : Nat) (hh : h.length = 32) (w : World) : (part 22 (ptL h n).toArray 32).run Try.prog w = .ok (nV n) w := by
  have hagg : (isAgg 22).run Try.prog w = .ok false w := by
    unfold isAgg
    rw [Sem.run_bind, run_underlying Try.underlying22 w]
    rfl
  have e : (ptL h n).toArray[32]? = some (nV n) := by
    rw [List.getElem?_toArray, ptL, List.getElem?_append_right (by simp [hh])]
    simp [hh]
  simp only [part, Sem.run_bind, hagg, Result.andThen_ok, e]
  rfl
theorem eq_num (d n m : Nat) (w : World) : (Op.equalIn (d + 1) 22 (nV n) (nV m)).run Try.prog w = .ok (decide (n = m)) w := by
  rw [nV, nV, run_equalIn_int w d 22 .u32 .u32 _ _ Try.underlying22]
  congr 1
  rw [Bool.eq_iff_iff]
  simp
  omega
/-- Two places by '=='. -/
theorem eq_pt (d : Nat) (h h' : List UInt8) (n n' : Nat) (hh : h.length = 32) (hh' : h'.length = 32) (w : World) : (Op.equalIn (d + 3) 33 (.agg (ptL h n).toArray) (.agg (ptL h' n').toArray)).run Try.prog w = .ok (decide (h = h') && decide (n = n')) w := by
  rw [run_equalIn_agg w (d + 2) 33 _ _ pt_under pt_free]
  have hf := pt_fields
  generalize (Try.prog.fieldsOf 33).toList = fs at hf
  obtain ⟨f, f', rfl⟩ : ∃ f f', fs = [f, f'] := by
    have hl := congrArg List.length hf
    simp only [List.length_map, List.length_cons, List.length_nil] at hl
    obtain ⟨f, r, rfl⟩ := List.exists_cons_of_length_eq_add_one hl
    obtain ⟨f', r', rfl⟩ := List.exists_cons_of_length_eq_add_one (by simpa using hl)
    obtain rfl : r' = [] := List.eq_nil_of_length_eq_zero (by simpa using hl)
    exact ⟨f, f', rfl⟩
  · simp only [List.map_cons, List.map_nil, List.cons.injEq, Prod.mk.injEq, and_true] at hf
    obtain ⟨⟨h1, h2, h3⟩, h4, h5, h6⟩ := hf
    simp only [Op.eqFields, h1, h2, h3, h4, h5, h6, Sem.run_bind, Sem.run_ite, part_hash h n hh, part_hash h' n' hh', part_num h n hh, part_num h' n' hh', Result.andThen_ok, eq_hash d h h' hh hh', eq_num (d + 1) n n', ne_eq, String.reduceEq, not_false_eq_true, if_true]
    by_cases e : h = h' <;> by_cases e' : n = n' <;> simp [e, e', Sem.run_pure]
theorem run_eql_pt (h h' : List UInt8) (n n' : Nat) (hh : h.length = 32) (hh' : h'.length = 32) (w : World) : (binOp .eql 33 (.agg (ptL h n).toArray) (.agg (ptL h' n').toArray)).run Try.prog w = .ok (.bool (decide (h = h') && decide (n = n'))) w := by
  rw [run_eql_struct, eq_pt 9997 h h' n n' hh hh']
  rfl
/-- In a quiet walk: an operation on two values, its answer laid ahead. -/
theorem quiet_bin {P : Program} {C : World → Prop} {a : Act} {o : Oper} {K : Act → Prop} (op : BinOp) (t : TypeId) (x y : Operand) (r : TypeId) (ho : o.op = .binOp op t x y r) (u v z : Value) (hx : a.eval x = u) (hy : a.eval y = v)
    (hg : ∀ w, (eqGuard op t x y u v).run P w = .ok () w) (h : ∀ w, (binOp op t u v).run P w = .ok z w) (hk : K (a.put o.dst z)) : o.quiet P a C K := by
  refine quiet_run z (fun w => ?_) hk
  simp only [execOp, ho, hx, hy, Sem.run_bind, hg, h, Result.andThen_ok, Sem.run_pure]
theorem quiet_eql_pt {C : World → Prop} {a : Act} {o : Oper} {K : Act → Prop} (x y : Operand) (r : TypeId) (ho : o.op = .binOp .eql 33 x y r) (h h' : List UInt8) (n n' : Nat) (hh : h.length = 32) (hh' : h'.length = 32)
    (hx : a.eval x = .agg (ptL h n).toArray) (hy : a.eval y = .agg (ptL h' n').toArray) (b : Bool) (hb : b = (decide (h = h') && decide (n = n'))) (hk : K (a.put o.dst (.bool b))) : o.quiet Try.prog a C K := by
  subst hb
  exact quiet_bin .eql 33 x y r ho _ _ _ hx hy (fun w => run_eqGuard_agg w .eql 33 x y _ _ (by kernel_rfl)) (fun w => run_eql_pt h h' n n' hh hh' w) hk
theorem quiet_eql_hash {C : World → Prop} {a : Act} {o : Oper} {K : Act → Prop} (x y : Operand) (r : TypeId) (ho : o.op = .binOp .eql 31 x y r) (h h' : List UInt8) (hh : h.length = 32) (hh' : h'.length = 32)
    (hx : a.eval x = .agg (h.map bV).toArray) (hy : a.eval y = .agg (h'.map bV).toArray) (b : Bool) (hb : b = decide (h = h')) (hk : K (a.put o.dst (.bool b))) : o.quiet Try.prog a C K := by
  subst hb
  exact quiet_bin .eql 31 x y r ho _ _ _ hx hy (fun w => run_eqGuard_agg w .eql 31 x y _ _ (by kernel_rfl)) (fun w => run_eql_hash h h' hh hh' w) hk
/-- '!=' of two digests, in a plain list. -/
theorem wpList_neq_hash {ops : Array Oper} {rest : List Oper} {o : Oper} {a : Act} {w : World} {Q : Exit → Act → World → Prop} (hgd : o.guard = none) (x y : Operand) (r : TypeId) (ho : o.op = .binOp .neq 31 x y r) (h h' : List UInt8) (hh : h.length = 32) (hh' : h'.length = 32)
    (hx : a.eval x = .agg (h.map bV).toArray) (hy : a.eval y = .agg (h'.map bV).toArray) (b : Bool) (hb : b = !decide (h = h')) (hk : wpList Try.prog ops Q rest (a.put o.dst (.bool b)) w) : wpList Try.prog ops Q (o :: rest) a w := by
  subst hb
  refine wpList_plain hgd fun K hK => ?_
  unfold Oper.wp
  simp only [execOp, ho, hx, hy, Sem.run_bind, run_eqGuard_agg w .neq 31 x y _ _ (show Try.prog.eqGuardType Try.prog.depth 31 = false by kernel_rfl), run_neq_hash h h' hh hh', Result.andThen_ok, Sem.run_pure]
  exact hK _ _ hk
/-- A whole row is read, in a list, where its guard asks for it. -/
theorem wpList_load_rowG {P : Program} {ops : Array Oper} {rest : List Oper} {o : Oper} {a : Act} {w : World} {Q : Exit → Act → World → Prop} (ty : TypeId) (x : Operand) (ho : o.op = .load ty x)
    (g : Nat) (hx : a.eval x = .pointer (some ⟨g, 0, none⟩)) (t : TypeId) (cs : Array Value) (fr : Nat × Nat) (d : TypeDesc) (hg : w.heap[g]? = some (.cells cs t fr))
    (hu : P.underlying ty = some d) (hd : (match d with | .struct _ | .array _ _ => true | _ => false) = true) (hi : (P.info? ty).map (·.size) = some cs.size) (hw : Region.wanted o (yielded ops a.tmps) = true)
    (h : wpList P ops Q rest (a.put o.dst (.agg cs)) w) : wpList P ops Q (o :: rest) a w :=
  wpList_step fun _ hK => by
    rw [if_pos hw]
    exact wp_load_row ty x ho g hx t cs fr d hg hu hd hi (hK _ _ h)
/-- In a quiet walk: one cell is read. -/
theorem quiet_load_cell {P : Program} {C : World → Prop} {a : Act} {o : Oper} {K : Act → Prop} (ty : TypeId) (x : Operand) (ho : o.op = .load ty x) (b off : Nat) (hx : a.eval x = .pointer (some ⟨b, off, none⟩)) (k : IntKind) (v : Value)
    (hg : ∀ w, C w → w.cell? ⟨b, off, none⟩ = some v) (hu : P.underlying ty = some (.int k)) (hk : K (a.put o.dst v)) : o.quiet P a C K :=
  ⟨v, fun w hw => by
    have hagg : (isAgg ty).run P w = .ok false w := by
      unfold isAgg
      rw [Sem.run_bind, run_underlying hu w]
      rfl
    unfold Oper.quietAt execOp
    simp [ho, hx, Instr.loadAt, Instr.sureAddr, Sem.run_bind, loadVar, hagg, hg w hw, Oper.quietUpon], hk⟩
/-- A part of a block is read, in a list, where its guard asks for it. -/
theorem wpList_load_midG {P : Program} {ops : Array Oper} {rest : List Oper} {o : Oper} {a : Act} {w : World} {Q : Exit → Act → World → Prop} (ty : TypeId) (x : Operand) (ho : o.op = .load ty x)
    (b off : Nat) (hx : a.eval x = .pointer (some ⟨b, off, none⟩)) (cs : List Value) (d : TypeDesc) (hc : w.rangeAt b off cs)
    (hu : P.underlying ty = some d) (hd : d.isRow = true) (hi : (P.info? ty).map (·.size) = some cs.length) (hw : Region.wanted o (yielded ops a.tmps) = true)
    (h : wpList P ops Q rest (a.put o.dst (.agg cs.toArray)) w) : wpList P ops Q (o :: rest) a w :=
  wpList_step fun _ hK => by
    rw [if_pos hw]
    exact wp_load_mid ty x ho b off hx cs d hc hu hd hi (hK _ _ h)
/-- In a quiet walk: a part of a block is read. -/
theorem quiet_load_mid {P : Program} {C : World → Prop} {a : Act} {o : Oper} {K : Act → Prop} (ty : TypeId) (x : Operand) (ho : o.op = .load ty x) (b off : Nat) (hx : a.eval x = .pointer (some ⟨b, off, none⟩)) (cs : List Value) (d : TypeDesc)
    (hg : ∀ w, C w → w.rangeAt b off cs) (hu : P.underlying ty = some d) (hd : d.isRow = true) (hi : (P.info? ty).map (·.size) = some cs.length) (hk : K (a.put o.dst (.agg cs.toArray))) : o.quiet P a C K :=
  ⟨_, fun w hw => by
    unfold Oper.quietAt execOp
    simp only [ho, hx, Instr.loadAt, Instr.sureAddr, Sem.run_bind, Sem.run_pure, Result.andThen_ok, run_loadVar_mid w b off ty cs d (hg w hw) hu hd hi]
    exact ⟨rfl, rfl⟩, hk⟩
/-- In a quiet walk: one cell of whatever type is read. -/
theorem quiet_load_one {P : Program} {C : World → Prop} {a : Act} {o : Oper} {K : Act → Prop} (ty : TypeId) (x : Operand) (ho : o.op = .load ty x) (b off : Nat) (hx : a.eval x = .pointer (some ⟨b, off, none⟩)) (v : Value) (d : TypeDesc)
    (hg : ∀ w, C w → w.cell? ⟨b, off, none⟩ = some v) (hu : P.underlying ty = some d) (hd : d.isRow = false) (hk : K (a.put o.dst v)) : o.quiet P a C K :=
  ⟨v, fun w hw => by
    have hagg : (isAgg ty).run P w = .ok false w := by
      unfold isAgg
      rw [Sem.run_bind, run_underlying hu w]
      cases d <;> simp_all
    unfold Oper.quietAt execOp
    simp [ho, hx, Instr.loadAt, Instr.sureAddr, Sem.run_bind, loadVar, hagg, hg w hw, Oper.quietUpon], hk⟩
/-- The place that is none. -/
def nullL : List Value := ptL (List.replicate 32 0) 4294967295
end Go.Proofs.Ytkabpbclmhmgfaa.Sha
