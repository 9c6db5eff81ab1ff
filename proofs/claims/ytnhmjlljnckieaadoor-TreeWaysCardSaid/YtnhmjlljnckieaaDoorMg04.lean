/-
  Texts of this proof joined into one file: Pt, ArgsPt, TxData, TxMath, ArgsTx, PtSame, RefSameB, TxSame, CmpSum, RefWire, RefBuf. What each holds, and under which conditions, its own first sentence tells.
-/
import Derived.Deep.MidRow
import Derived.Stop.BytesEq
import Derived.Deep.Slices
import Derived.Maps.AppendAt
import Derived.Test.YtnhmjlljnckieaaDoorMg01
import Derived.Test.YtnhmjlljnckieaaDoorMg03
/-
  A place (api.Point) as the model has it: 32 bytes and a number, 33 cells; how two are held against each other. Conditions: digests of 32 bytes.
-/
namespace Go.Proofs.YtnhmjlljnckieaaDoor.Sha
open Go Go.RowKit
/-- A number of 32 bits as a cell. -/
def nV (n : Nat) : Value := .int .u32 (n : Int)
/-- A place: its transaction's digest, its number. -/
def ptL (h : List UInt8) (n : Nat) : List Value := h.map bV ++ [nV n]
theorem ptL_length (h : List UInt8) (n : Nat) : (ptL h n).length = h.length + 1 := by simp [ptL]
theorem ptL_size (h : List UInt8) (n : Nat) (hh : h.length = 32) : (ptL h n).toArray.size = 33 := by simp [ptL, hh]
theorem ptL_one' (h : List UInt8) (n : Nat) : ∀ v ∈ ptL h n, v.oneCell' = true := by
  intro v hv
  rcases List.mem_append.1 hv with h1 | h1
  · exact bV_one' h v h1
  · obtain rfl : v = nV n := by simpa using h1
    rfl
theorem ptL_one (h : List UInt8) (n : Nat) : (ptL h n).toArray.all (·.oneCell') = true := all_oneCell_toArray (ptL_one' h n)
theorem bV_nat (x : UInt8) : (x.toNat : Int) = bv x := rfl
theorem bV_cell : (fun x : UInt8 => Extern.Stop.cell x) = bV := rfl
/-- The digest lies at the place's head. -/
theorem pt_hash {w : World} {g : Nat} {h : List UInt8} {n : Nat} {T : TypeId} {fr : Nat × Nat} (hg : w.heap[g]? = some (.cells (ptL h n).toArray T fr)) : w.rangeAt g 0 (h.map bV) := fun j v hv => by
  rw [Nat.zero_add, cell_of_row _ _ _ _ _ _ hg, List.getElem?_toArray, ptL, List.getElem?_append_left (List.getElem?_eq_some_iff.1 hv).1]
  exact hv
/-- The number lies behind. -/
theorem pt_num {w : World} {g : Nat} {h : List UInt8} {n : Nat} {T : TypeId} {fr : Nat × Nat} (hh : h.length = 32) (hg : w.heap[g]? = some (.cells (ptL h n).toArray T fr)) : w.cell? ⟨g, 32, none⟩ = some (nV n) := by
  rw [cell_of_row _ _ _ _ _ _ hg, List.getElem?_toArray, ptL, List.getElem?_append_right (by simp [hh])]
  simp [hh]
theorem size_u8 (w : World) : (Go.sizeOf 5).run Tryd.prog w = .ok 1 w := by kernel_rfl
theorem eq_hash (d : Nat) (h h' : List UInt8) (hh : h.length = 32) (hh' : h'.length = 32) (w : World) : (Op.equalIn (d + 2) 30 (.agg (h.map bV).toArray) (.agg (h'.map bV).toArray)).run Tryd.prog w = .ok (decide (h = h')) w := by
  have := run_equalIn_bytes (P := Tryd.prog) w d 30 5 32 Tryd.underlying30 Tryd.underlying5 size_u8 h h' hh hh'
  rw [show (h == h') = decide (h = h') by by_cases e : h = h' <;> simp [e]] at this
  exact this
theorem run_eql_hash (h h' : List UInt8) (hh : h.length = 32) (hh' : h'.length = 32) (w : World) : (binOp .eql 30 (.agg (h.map bV).toArray) (.agg (h'.map bV).toArray)).run Tryd.prog w = .ok (.bool (decide (h = h'))) w := by
  rw [run_eql_struct, eq_hash 9998 h h' hh hh']
  rfl
theorem run_neq_hash (h h' : List UInt8) (hh : h.length = 32) (hh' : h'.length = 32) (w : World) : (binOp .neq 30 (.agg (h.map bV).toArray) (.agg (h'.map bV).toArray)).run Tryd.prog w = .ok (.bool (!decide (h = h'))) w := by
  rw [run_neq_struct, eq_hash 9998 h h' hh hh']
  rfl
theorem pt_fields : (Tryd.prog.fieldsOf 88).toList.map (fun f => (f.name, f.type, f.offset)) = [("Tx", 30, 0), ("N", 28, 32)] := by kernel_rfl
theorem pt_under : Tryd.prog.underlying 88 = some (.struct (Tryd.prog.fieldsOf 88)) := by kernel_rfl
theorem pt_free : Tryd.prog.stoodInHeld 88 = false := by kernel_rfl
theorem size_hash (w : World) : (Go.sizeOf 30).run Tryd.prog w = .ok 32 w := by kernel_rfl
theorem part_hash (h : List UInt8) (n : Nat) (hh : h.length = 32) (w : World) : (part 30 (ptL h n).toArray 0).run Tryd.prog w = .ok (.agg (h.map bV).toArray) w := by
  have hagg : (isAgg 30).run Tryd.prog w = .ok true w := by
    unfold isAgg
    rw [Sem.run_bind, run_underlying Tryd.underlying30 w]
    rfl
  have e : (ptL h n).toArray.extract 0 32 = (h.map bV).toArray := by
    rw [List.extract_toArray, List.extract_eq_take_drop, List.drop_zero, Nat.sub_zero, ptL, List.take_append_of_le_length (by simp [hh]), List.take_of_length_le (by simp [hh])]
  simp only [part, Sem.run_bind, hagg, Result.andThen_ok, if_true, size_hash, Sem.run_pure, Nat.zero_add, e]
theorem part_num (h : List UInt8) (n : Nat) (hh : h.length = 32) (w : World) : (part 28 (ptL h n).toArray 32).run Tryd.prog w = .ok (nV n) w := by
  have hagg : (isAgg 28).run Tryd.prog w = .ok false w := by
    unfold isAgg
    rw [Sem.run_bind, run_underlying Tryd.underlying28 w]
    rfl
  have e : (ptL h n).toArray[32]? = some (nV n) := by
    rw [List.getElem?_toArray, ptL, List.getElem?_append_right (by simp [hh])]
    simp [hh]
  simp only [part, Sem.run_bind, hagg, Result.andThen_ok, e]
  rfl
theorem eq_num (d n m : Nat) (w : World) : (Op.equalIn (d + 1) 28 (nV n) (nV m)).run Tryd.prog w = .ok (decide (n = m)) w := by
  rw [nV, nV, run_equalIn_int w d 28 .u32 .u32 _ _ Tryd.underlying28]
  congr 1
  rw [Bool.eq_iff_iff]
  simp
  omega
/-- Two places by '=='. -/
theorem eq_pt (d : Nat) (h h' : List UInt8) (n n' : Nat) (hh : h.length = 32) (hh' : h'.length = 32) (w : World) : (Op.equalIn (d + 3) 88 (.agg (ptL h n).toArray) (.agg (ptL h' n').toArray)).run Tryd.prog w = .ok (decide (h = h') && decide (n = n')) w := by
  rw [run_equalIn_agg w (d + 2) 88 _ _ pt_under pt_free]
  have hf := pt_fields
  generalize (Tryd.prog.fieldsOf 88).toList = fs at hf
  obtain ⟨f, f', rfl⟩ : ∃ f f', fs = [f, f'] := by
    have hl := congrArg List.length hf
    simp only [List.length_map, List.length_cons, List.length_nil] at hl
    obtain ⟨f, r, rfl⟩ := List.exists_cons_of_length_eq_add_one hl
    obtain ⟨f', r', rfl⟩ := List.exists_cons_of_length_eq_add_one (by simpa using hl)
    obtain rfl : r' = [] := List.eq_nil_of_length_eq_zero (by simpa using hl)
    exact ⟨f, f', rfl⟩
  · simp only [List.map_cons, List.map_nil, List.cons.injEq, Prod.mk.injEq, and_true] at hf
    obtain ⟨⟨h1, h2, h3⟩, h4, h5, h6⟩ := hf
    simp only [Op.eqFields, h1, h2, h3, h4, h5, h6, Sem.run_bind, Sem.run_ite, part_hash h n hh, part_hash h' n' hh', part_num h n hh, part_num h' n' hh', Result.andThen_ok, eq_hash d h h' hh hh', eq_num (d + 1) n n', ne_eq, String.reduceEq, not_false_eq_true, if_true]
    by_cases e : h = h' <;> by_cases e' : n = n' <;> simp [e, e', Sem.run_pure]
theorem run_eql_pt (h h' : List UInt8) (n n' : Nat) (hh : h.length = 32) (hh' : h'.length = 32) (w : World) : (binOp .eql 88 (.agg (ptL h n).toArray) (.agg (ptL h' n').toArray)).run Tryd.prog w = .ok (.bool (decide (h = h') && decide (n = n'))) w := by
  rw [run_eql_struct, eq_pt 9997 h h' n n' hh hh']
  rfl
/-- In a quiet walk: an operation on two values, its answer laid ahead. -/
theorem quiet_bin {P : Program} {C : World → Prop} {a : Act} {o : Oper} {K : Act → Prop} (op : BinOp) (t : TypeId) (x y : Operand) (r : TypeId) (ho : o.op = .binOp op t x y r) (u v z : Value) (hx : a.eval x = u) (hy : a.eval y = v)
    (hg : ∀ w, (eqGuard op t x y u v).run P w = .ok () w) (h : ∀ w, (binOp op t u v).run P w = .ok z w) (hk : K (a.put o.dst z)) : o.quiet P a C K := by
  refine quiet_run z (fun w => ?_) hk
  simp only [execOp, ho, hx, hy, Sem.run_bind, hg, h, Result.andThen_ok, Sem.run_pure]
theorem quiet_eql_pt {C : World → Prop} {a : Act} {o : Oper} {K : Act → Prop} (x y : Operand) (r : TypeId) (ho : o.op = .binOp .eql 88 x y r) (h h' : List UInt8) (n n' : Nat) (hh : h.length = 32) (hh' : h'.length = 32)
    (hx : a.eval x = .agg (ptL h n).toArray) (hy : a.eval y = .agg (ptL h' n').toArray) (b : Bool) (hb : b = (decide (h = h') && decide (n = n'))) (hk : K (a.put o.dst (.bool b))) : o.quiet Tryd.prog a C K := by
  subst hb
  exact quiet_bin .eql 88 x y r ho _ _ _ hx hy (fun w => run_eqGuard_agg w .eql 88 x y _ _ (by kernel_rfl)) (fun w => run_eql_pt h h' n n' hh hh' w) hk
theorem quiet_eql_hash {C : World → Prop} {a : Act} {o : Oper} {K : Act → Prop} (x y : Operand) (r : TypeId) (ho : o.op = .binOp .eql 30 x y r) (h h' : List UInt8) (hh : h.length = 32) (hh' : h'.length = 32)
    (hx : a.eval x = .agg (h.map bV).toArray) (hy : a.eval y = .agg (h'.map bV).toArray) (b : Bool) (hb : b = decide (h = h')) (hk : K (a.put o.dst (.bool b))) : o.quiet Tryd.prog a C K := by
  subst hb
  exact quiet_bin .eql 30 x y r ho _ _ _ hx hy (fun w => run_eqGuard_agg w .eql 30 x y _ _ (by kernel_rfl)) (fun w => run_eql_hash h h' hh hh' w) hk
/-- '!=' of two digests, in a plain list. -/
theorem wpList_neq_hash {ops : Array Oper} {rest : List Oper} {o : Oper} {a : Act} {w : World} {Q : Exit → Act → World → Prop} (hgd : o.guard = none) (x y : Operand) (r : TypeId) (ho : o.op = .binOp .neq 30 x y r) (h h' : List UInt8) (hh : h.length = 32) (hh' : h'.length = 32)
    (hx : a.eval x = .agg (h.map bV).toArray) (hy : a.eval y = .agg (h'.map bV).toArray) (b : Bool) (hb : b = !decide (h = h')) (hk : wpList Tryd.prog ops Q rest (a.put o.dst (.bool b)) w) : wpList Tryd.prog ops Q (o :: rest) a w := by
  subst hb
  refine wpList_plain hgd fun K hK => ?_
  unfold Oper.wp
  simp only [execOp, ho, hx, hy, Sem.run_bind, run_eqGuard_agg w .neq 30 x y _ _ (show Tryd.prog.eqGuardType Tryd.prog.depth 30 = false by kernel_rfl), run_neq_hash h h' hh hh', Result.andThen_ok, Sem.run_pure]
  exact hK _ _ hk
/-- A whole row is read, in a list, where its guard asks for it. -/
theorem wpList_load_rowG {P : Program} {ops : Array Oper} {rest : List Oper} {o : Oper} {a : Act} {w : World} {Q : Exit → Act → World → Prop} (ty : TypeId) (x : Operand) (ho : o.op = .load ty x)
    (g : Nat) (hx : a.eval x = .pointer (some ⟨g, 0, none⟩)) (t : TypeId) (cs : Array Value) (fr : Nat × Nat) (d : TypeDesc) (hg : w.heap[g]? = some (.cells cs t fr))
    (hu : P.underlying ty = some d) (hd : (match d with | .struct _ | .array _ _ => true | _ => false) = true) (hi : (P.info? ty).map (·.size) = some cs.size) (hw : Region.wanted o (yielded ops a.tmps) = true)
    (h : wpList P ops Q rest (a.put o.dst (.agg cs)) w) : wpList P ops Q (o :: rest) a w :=
  wpList_step fun _ hK => by
    rw [if_pos hw]
    exact wp_load_row ty x ho g hx t cs fr d hg hu hd hi (hK _ _ h)
/-- In a quiet walk: one cell is read. -/
theorem quiet_load_cell {P : Program} {C : World → Prop} {a : Act} {o : Oper} {K : Act → Prop} (ty : TypeId) (x : Operand) (ho : o.op = .load ty x) (b off : Nat) (hx : a.eval x = .pointer (some ⟨b, off, none⟩)) (k : IntKind) (v : Value)
    (hg : ∀ w, C w → w.cell? ⟨b, off, none⟩ = some v) (hu : P.underlying ty = some (.int k)) (hk : K (a.put o.dst v)) : o.quiet P a C K :=
  ⟨v, fun w hw => by
    have hagg : (isAgg ty).run P w = .ok false w := by
      unfold isAgg
      rw [Sem.run_bind, run_underlying hu w]
      rfl
    unfold Oper.quietAt execOp
    simp [ho, hx, Instr.loadAt, Instr.sureAddr, Sem.run_bind, loadVar, hagg, hg w hw, Oper.quietUpon], hk⟩
/-- A part of a block is read, in a list, where its guard asks for it. -/
theorem wpList_load_midG {P : Program} {ops : Array Oper} {rest : List Oper} {o : Oper} {a : Act} {w : World} {Q : Exit → Act → World → Prop} (ty : TypeId) (x : Operand) (ho : o.op = .load ty x)
    (b off : Nat) (hx : a.eval x = .pointer (some ⟨b, off, none⟩)) (cs : List Value) (d : TypeDesc) (hc : w.rangeAt b off cs)
    (hu : P.underlying ty = some d) (hd : d.isRow = true) (hi : (P.info? ty).map (·.size) = some cs.length) (hw : Region.wanted o (yielded ops a.tmps) = true)
    (h : wpList P ops Q rest (a.put o.dst (.agg cs.toArray)) w) : wpList P ops Q (o :: rest) a w :=
  wpList_step fun _ hK => by
    rw [if_pos hw]
    exact wp_load_mid ty x ho b off hx cs d hc hu hd hi (hK _ _ h)
/-- In a quiet walk: a part of a block is read. -/
theorem quiet_load_mid {P : Program} {C : World → Prop} {a : Act} {o : Oper} {K : Act → Prop} (ty : TypeId) (x : Operand) (ho : o.op = .load ty x) (b off : Nat) (hx : a.eval x = .pointer (some ⟨b, off, none⟩)) (cs : List Value) (d : TypeDesc)
    (hg : ∀ w, C w → w.rangeAt b off cs) (hu : P.underlying ty = some d) (hd : d.isRow = true) (hi : (P.info? ty).map (·.size) = some cs.length) (hk : K (a.put o.dst (.agg cs.toArray))) : o.quiet P a C K :=
  ⟨_, fun w hw => by
    unfold Oper.quietAt execOp
    simp only [ho, hx, Instr.loadAt, Instr.sureAddr, Sem.run_bind, Sem.run_pure, Result.andThen_ok, run_loadVar_mid w b off ty cs d (hg w hw) hu hd hi]
    exact ⟨rfl, rfl⟩, hk⟩
/-- In a quiet walk: one cell of whatever type is read. -/
theorem quiet_load_one {P : Program} {C : World → Prop} {a : Act} {o : Oper} {K : Act → Prop} (ty : TypeId) (x : Operand) (ho : o.op = .load ty x) (b off : Nat) (hx : a.eval x = .pointer (some ⟨b, off, none⟩)) (v : Value) (d : TypeDesc)
    (hg : ∀ w, C w → w.cell? ⟨b, off, none⟩ = some v) (hu : P.underlying ty = some d) (hd : d.isRow = false) (hk : K (a.put o.dst v)) : o.quiet P a C K :=
  ⟨v, fun w hw => by
    have hagg : (isAgg ty).run P w = .ok false w := by
      unfold isAgg
      rw [Sem.run_bind, run_underlying hu w]
      cases d <;> simp_all
    unfold Oper.quietAt execOp
    simp [ho, hx, Instr.loadAt, Instr.sureAddr, Sem.run_bind, loadVar, hagg, hg w hw, Oper.quietUpon], hk⟩
/-- The place that is none. -/
def nullL : List Value := ptL (List.replicate 32 0) 4294967295
end Go.Proofs.YtnhmjlljnckieaaDoor.Sha

/-
  How a place that came in by value reads; a struct's fields. No conditions.
-/
namespace Go.Proofs.YtnhmjlljnckieaaDoor.Sha
open Go Go.ChangeShapes Go.WideShapes Go.ChangeAt Go.RowKit
/-- A struct's fields, each read. -/
theorem struct_field {H : Type} {enc : TypeId × Value → H} {P : Program} {W : World} {fuel : Nat} {T : TypeId} {cs : List Value} {x : DataW H × List MemPlace} (hu : P.underlying T = some (.struct (P.fieldsOf T)))
    (hf : DataW.trod enc P W 0 (fun _ => true) true fuel T cs = some x) {names : List (String × TypeId × Nat)} (hm : (P.fieldsOf T).toList.map (fun f => (f.name, f.type, f.offset)) = names) :
    cs.length = P.cellsOf T ∧ ∃ m : Nat, ∀ (i : Nat) (n : String) (ty : TypeId) (off : Nat), names[i]? = some (n, ty, off) → ∃ y, DataW.trod enc P W 0 (fun _ => true) true m ty ((cs.drop off).take (P.cellsOf ty)) = some y := by
  obtain ⟨xs, m, _, _, hlen, hxl, hel⟩ := DataW.trod_struct hu hf
  refine ⟨hlen, m, fun i n ty off hi => ?_⟩
  rw [← hm, List.getElem?_map] at hi
  obtain ⟨f, hf1, hf2⟩ := Option.map_eq_some_iff.1 hi
  simp only [Prod.mk.injEq] at hf2
  obtain ⟨_, h2, h3⟩ := hf2
  have hil : i < (P.fieldsOf T).size := by have := (List.getElem?_eq_some_iff.1 hf1).1; simpa using this
  have g := hel i f (by rw [← Array.getElem?_toList]; exact hf1)
  rw [h2, h3, List.getElem?_eq_getElem (by omega)] at g
  exact ⟨_, g⟩
theorem num32_cells {H : Type} {enc : TypeId × Value → H} {W : World} {fuel : Nat} {cs : List Value} {x : DataW H × List MemPlace} (hf : DataW.trod enc Tryd.prog W 0 (fun _ => true) true fuel 28 cs = some x) :
    ∃ n : Nat, n ≤ 4294967295 ∧ cs = [nV n] := by
  obtain ⟨z, hz, _, hw⟩ := DataW.trod_int Tryd.underlying28 hf
  have hbd := bounds_u32 hw
  exact ⟨z.toNat, by omega, by rw [hz, nV, Int.toNat_of_nonneg (by omega)]⟩
set_option maxRecDepth 100000 in
/-- A place's cells. -/
theorem pt_cells {H : Type} {enc : TypeId × Value → H} {W : World} {fuel : Nat} {cs : List Value} {x : DataW H × List MemPlace} (hf : DataW.trod enc Tryd.prog W 0 (fun _ => true) true fuel 88 cs = some x) :
    ∃ (bs : List UInt8) (n : Nat), (bs.length = 32 ∧ n ≤ 4294967295) ∧ cs = ptL bs n := by
  have c24 : Tryd.prog.cellsOf 30 = 32 := by kernel_rfl
  have c25 : Tryd.prog.cellsOf 28 = 1 := by kernel_rfl
  have c27 : Tryd.prog.cellsOf 88 = 33 := by kernel_rfl
  obtain ⟨hlen, m, hel⟩ := struct_field pt_under hf pt_fields
  rw [c27] at hlen
  obtain ⟨y0, g0⟩ := hel 0 _ _ _ rfl
  obtain ⟨y1, g1⟩ := hel 1 _ _ _ rfl
  rw [c24, List.drop_zero] at g0
  rw [c25] at g1
  obtain ⟨bs, hb, hcs⟩ := hash_cells g0
  obtain ⟨n, hn, hcn⟩ := num32_cells g1
  rw [List.take_of_length_le (by rw [List.length_drop]; omega)] at hcn
  exact ⟨bs, n, ⟨hb, hn⟩, by rw [ptL, ← hcs, ← hcn, List.take_append_drop]⟩
set_option maxRecDepth 100000 in
/-- A place by value. -/
theorem point_in {H : Type} {enc : TypeId × Value → H} {W : World} {base : Nat} {v : Value} {d : DataW H} {p : List MemPlace} (hok : Value.okWide Tryd.prog W .any base 88 v) (h : DataW.Trod enc Tryd.prog W 0 (fun _ => true) true 88 v d p) :
    ∃ (bs : List UInt8) (n : Nat), (bs.length = 32 ∧ n ≤ 4294967295) ∧ v = .agg (ptL bs n).toArray := by
  simp only [Value.okWide, pt_under] at hok
  obtain ⟨cs, rfl, _, _⟩ := hok
  obtain ⟨fuel, hf⟩ := h
  have hcells : (Value.agg cs).cells.toList = cs.toList := rfl
  rw [hcells] at hf
  obtain ⟨bs, n, hb, hcs⟩ := pt_cells hf
  exact ⟨bs, n, hb, by rw [← hcs, Array.toArray_toList]⟩
end Go.Proofs.YtnhmjlljnckieaaDoor.Sha

/-
  A transaction as the model has it: inputs of 35 cells, outputs of 33, rows of them behind slices; what stands in memory keeps standing where only new memory turns. No conditions.
-/
namespace Go.Proofs.YtnhmjlljnckieaaDoor.Sha
open Go Go.RowKit
structure TIn where
  h : List UInt8
  n : Nat
  key : List UInt8
  seq : Nat
structure TOut where
  val : Nat
  lock : List UInt8
structure TTx where
  ver : Nat
  ins : List TIn
  outs : List TOut
  time : Nat
/-- A number of 64 bits as a cell. -/
def uV (n : Nat) : Value := .int .u64 (n : Int)
/-- An input's cells. -/
def inL (x : TIn) (kv : Value) : List Value := ptL x.h x.n ++ [kv, nV x.seq]
/-- An output's cells. -/
def outL (y : TOut) : List Value := uV y.val :: y.lock.map bV
theorem inL_length (x : TIn) (kv : Value) (h : x.h.length = 32) : (inL x kv).length = 35 := by simp [inL, ptL, h]
theorem outL_length (y : TOut) (h : y.lock.length = 32) : (outL y).length = 33 := by simp [outL, h]
/-- A key as a slice. -/
def KeyAt (w : World) (kv : Value) (key : List UInt8) : Prop := SrcB w kv key ∧ ∃ sp cap, kv = .slice sp key.length cap
theorem KeyAt.below {w w' : World} {kv : Value} {key : List UInt8} (h : KeyAt w kv key) (hb : Below w.heap.size w w') : KeyAt w' kv key := ⟨h.1.below hb, h.2⟩
/-- What may be of an input. -/
def InOk (x : TIn) : Prop := x.h.length = 32 ∧ x.n ≤ 4294967295 ∧ x.seq ≤ 4294967295
def OutOk (y : TOut) : Prop := y.lock.length = 32 ∧ y.val ≤ 18446744073709551615
/-- An input stands in block b from o on. -/
def InAt (w : World) (b o : Nat) (x : TIn) : Prop := InOk x ∧ ∃ kv, KeyAt w kv x.key ∧ w.rangeAt b o (inL x kv)
def OutAt (w : World) (b o : Nat) (y : TOut) : Prop := OutOk y ∧ w.rangeAt b o (outL y)
theorem range_below {w w' : World} {b o : Nat} {cs : List Value} (h : w.rangeAt b o cs) (hb : Below w.heap.size w w') : w'.rangeAt b o cs := fun j v hj => by
  have h1 := h j v hj
  rw [hb.cell (p := ⟨b, o + j, none⟩) (World.block_lt_of_cell? w _ h1)]
  exact h1
theorem InAt.below {w w' : World} {b o : Nat} {x : TIn} (h : InAt w b o x) (hb : Below w.heap.size w w') : InAt w' b o x := by
  obtain ⟨h0, kv, h1, h2⟩ := h
  exact ⟨h0, kv, h1.below hb, range_below h2 hb⟩
theorem OutAt.below {w w' : World} {b o : Nat} {y : TOut} (h : OutAt w b o y) (hb : Below w.heap.size w w') : OutAt w' b o y := ⟨h.1, range_below h.2 hb⟩
/-- A row of inputs behind a slice. -/
def InsAt (w : World) (v : Value) (l : List TIn) : Prop :=
  ∃ sp cap, v = .slice sp l.length cap ∧ l.length ≤ cap ∧ (0 < l.length → ∃ b o, sp = some ⟨b, o, none⟩ ∧ ∀ i x, l[i]? = some x → InAt w b (o + i * 35) x)
def OutsAt (w : World) (v : Value) (l : List TOut) : Prop :=
  ∃ sp cap, v = .slice sp l.length cap ∧ l.length ≤ cap ∧ (0 < l.length → ∃ b o, sp = some ⟨b, o, none⟩ ∧ ∀ i x, l[i]? = some x → OutAt w b (o + i * 33) x)
theorem InsAt.below {w w' : World} {v : Value} {l : List TIn} (h : InsAt w v l) (hb : Below w.heap.size w w') : InsAt w' v l := by
  obtain ⟨sp, cap, h1, h2, h3⟩ := h
  refine ⟨sp, cap, h1, h2, fun h0 => ?_⟩
  obtain ⟨b, o, h4, h5⟩ := h3 h0
  exact ⟨b, o, h4, fun i x hx => (h5 i x hx).below hb⟩
theorem OutsAt.below {w w' : World} {v : Value} {l : List TOut} (h : OutsAt w v l) (hb : Below w.heap.size w w') : OutsAt w' v l := by
  obtain ⟨sp, cap, h1, h2, h3⟩ := h
  refine ⟨sp, cap, h1, h2, fun h0 => ?_⟩
  obtain ⟨b, o, h4, h5⟩ := h3 h0
  exact ⟨b, o, h4, fun i x hx => (h5 i x hx).below hb⟩
/-- A transaction's cells. -/
def txL (t : TTx) (iv ov : Value) : List Value := [nV t.ver, iv, ov, nV t.time]
def TxOk (t : TTx) : Prop := t.ver ≤ 4294967295 ∧ t.time ≤ 4294967295
/-- A transaction by value. -/
def TxAt (w : World) (v : Value) (t : TTx) : Prop := TxOk t ∧ ∃ iv ov, v = .agg (txL t iv ov).toArray ∧ InsAt w iv t.ins ∧ OutsAt w ov t.outs
theorem TxAt.below {w w' : World} {v : Value} {t : TTx} (h : TxAt w v t) (hb : Below w.heap.size w w') : TxAt w' v t := by
  obtain ⟨h0, iv, ov, h1, h2, h3⟩ := h
  exact ⟨h0, iv, ov, h1, h2.below hb, h3.below hb⟩
/-- What of an input lies where. -/
theorem in_hash {w : World} {b o : Nat} {x : TIn} {kv : Value} (h : w.rangeAt b o (inL x kv)) : w.rangeAt b o (x.h.map bV) := fun j v hj => h j v (by
  rw [inL, ptL, List.append_assoc, List.getElem?_append_left (List.getElem?_eq_some_iff.1 hj).1]
  exact hj)
theorem in_pt {w : World} {b o : Nat} {x : TIn} {kv : Value} (h : w.rangeAt b o (inL x kv)) : w.rangeAt b o (ptL x.h x.n) := fun j v hj => h j v (by
  rw [inL, List.getElem?_append_left (List.getElem?_eq_some_iff.1 hj).1]
  exact hj)
theorem in_num {w : World} {b o : Nat} {x : TIn} {kv : Value} (hx : x.h.length = 32) (h : w.rangeAt b o (inL x kv)) : w.cell? ⟨b, o + 32, none⟩ = some (.int .u32 (x.n : Int)) := h 32 _ (by
  rw [inL, List.getElem?_append_left (by simp [ptL, hx]), ptL, List.getElem?_append_right (by simp [hx])]
  simp [hx, nV])
theorem in_key {w : World} {b o : Nat} {x : TIn} {kv : Value} (hx : x.h.length = 32) (h : w.rangeAt b o (inL x kv)) : w.cell? ⟨b, o + 33, none⟩ = some kv := h 33 _ (by
  rw [inL, List.getElem?_append_right (by simp [ptL, hx])]
  simp [ptL, hx])
theorem in_seq {w : World} {b o : Nat} {x : TIn} {kv : Value} (hx : x.h.length = 32) (h : w.rangeAt b o (inL x kv)) : w.cell? ⟨b, o + 34, none⟩ = some (.int .u32 (x.seq : Int)) := h 34 _ (by
  rw [inL, List.getElem?_append_right (by simp [ptL, hx])]
  simp [ptL, hx, nV])
theorem out_val {w : World} {b o : Nat} {y : TOut} (h : w.rangeAt b o (outL y)) : w.cell? ⟨b, o, none⟩ = some (.int .u64 (y.val : Int)) := h 0 _ rfl
theorem out_lock {w : World} {b o : Nat} {y : TOut} (h : w.rangeAt b o (outL y)) : w.rangeAt b (o + 1) (y.lock.map bV) := fun j v hj => by
  have := h (j + 1) v (by rw [outL, List.getElem?_cons_succ]; exact hj)
  rw [show o + 1 + j = o + (j + 1) by omega]
  exact this
/-- What of a boxed transaction lies where. -/
theorem tx_cells {w : World} {g : Nat} {t : TTx} {iv ov : Value} {T : TypeId} {fr : Nat × Nat} (h : w.heap[g]? = some (.cells (txL t iv ov).toArray T fr)) :
    w.cell? ⟨g, 0, none⟩ = some (.int .u32 (t.ver : Int)) ∧ w.cell? ⟨g, 1, none⟩ = some iv ∧ w.cell? ⟨g, 2, none⟩ = some ov ∧ w.cell? ⟨g, 3, none⟩ = some (.int .u32 (t.time : Int)) :=
  ⟨by rw [cell_of_row _ _ _ _ _ _ h]; rfl, by rw [cell_of_row _ _ _ _ _ _ h]; rfl, by rw [cell_of_row _ _ _ _ _ _ h]; rfl, by rw [cell_of_row _ _ _ _ _ _ h]; rfl⟩
end Go.Proofs.YtnhmjlljnckieaaDoor.Sha

/-
  A transaction's bytes, as the chapter says: how many there are; two that have the same bytes are the same. What is amiss with one, in the chapter's order. No conditions beyond those that each states.
-/
namespace Go.Proofs.YtnhmjlljnckieaaDoor.Sha
open Go Go.RowKit
def inB (x : TIn) : List UInt8 := x.h ++ leB x.n 4 ++ putL x.key.length ++ x.key ++ leB x.seq 4
def outB (y : TOut) : List UInt8 := leB y.val 8 ++ y.lock
def insB (l : List TIn) : List UInt8 := l.flatMap inB
def outsB (l : List TOut) : List UInt8 := l.flatMap outB
/-- A transaction's bytes. -/
def txB (t : TTx) : List UInt8 := leB t.ver 4 ++ putL t.ins.length ++ insB t.ins ++ putL t.outs.length ++ outsB t.outs ++ leB t.time 4
def InsOk (l : List TIn) : Prop := ∀ x ∈ l, InOk x
def OutsOk (l : List TOut) : Prop := ∀ y ∈ l, OutOk y
theorem outB_length (y : TOut) (h : OutOk y) : (outB y).length = 40 := by simp [outB, leB_length, h.1]
theorem inB_length (x : TIn) (h : InOk x) : (inB x).length = 40 + lenN x.key.length + x.key.length := by simp [inB, leB_length, putL_length, h.1]; omega
theorem outsB_length : ∀ (l : List TOut), OutsOk l → (outsB l).length = 40 * l.length
  | [], _ => rfl
  | y :: l, h => by
    have ih := outsB_length l (fun z hz => h z (List.mem_cons_of_mem _ hz))
    simp only [outsB] at ih
    simp only [outsB, List.flatMap_cons, List.length_append, ih, outB_length y (h y List.mem_cons_self), List.length_cons]
    omega
theorem lenN_small {n : Nat} (h : n < 253) : lenN n = 1 := by unfold lenN; rw [if_pos h]
theorem leB_inj {n m k : Nat} (hn : n < 256 ^ k) (hm : m < 256 ^ k) (h : leB n k = leB m k) : n = m := by
  rw [← leN_leB_of hn, h, leN_leB_of hm]
/-- Bytes in front that tell their own length. -/
theorem putL_cut {n m : Nat} {r s : List UInt8} (hn : n ≤ 18446744073709551615) (hm : m ≤ 18446744073709551615) (h : putL n ++ r = putL m ++ s) : n = m ∧ r = s := by
  rcases lenN_eq n with ⟨a, b⟩ | ⟨a, b⟩ | ⟨a, b⟩ | ⟨a, b⟩ <;> rcases lenN_eq m with ⟨c, d⟩ | ⟨c, d⟩ | ⟨c, d⟩ | ⟨c, d⟩ <;> rw [b, d] at h
  · have hn2 : n < 253 := by unfold lenN at a; split at a <;> (try split at a) <;> (try split at a) <;> omega
    have hm2 : m < 253 := by unfold lenN at c; split at c <;> (try split at c) <;> (try split at c) <;> omega
    simp only [List.cons_append, List.nil_append, List.cons.injEq] at h
    refine ⟨?_, h.2⟩
    have h1 := congrArg UInt8.toNat h.1
    rw [UInt8.toNat_ofNat', UInt8.toNat_ofNat'] at h1
    omega
  all_goals first
    | (have hn2 : n < 253 := by unfold lenN at a; split at a <;> (try split at a) <;> (try split at a) <;> omega
       simp only [List.cons_append, List.nil_append, List.cons.injEq] at h
       have h1 := congrArg UInt8.toNat h.1
       rw [UInt8.toNat_ofNat'] at h1
       simp at h1
       omega)
    | (have hm2 : m < 253 := by unfold lenN at c; split at c <;> (try split at c) <;> (try split at c) <;> omega
       simp only [List.cons_append, List.nil_append, List.cons.injEq] at h
       have h1 := congrArg UInt8.toNat h.1
       rw [UInt8.toNat_ofNat'] at h1
       simp at h1
       omega)
    | (simp only [List.cons_append, List.cons.injEq] at h
       obtain ⟨h1, h2⟩ := h
       obtain ⟨h3, h4⟩ := List.append_inj h2 (by simp [leB_length])
       refine ⟨leB_inj ?_ ?_ h3, h4⟩ <;> (unfold lenN at a c; split at a <;> (try split at a) <;> (try split at a) <;> split at c <;> (try split at c) <;> (try split at c) <;> omega))
    | (exfalso
       simp only [List.cons_append, List.cons.injEq] at h
       have h1 := congrArg UInt8.toNat h.1
       revert h1
       decide)
theorem inB_cut {x y : TIn} {r s : List UInt8} (hx : InOk x) (hy : InOk y) (hkx : x.key.length ≤ 18446744073709551615) (hky : y.key.length ≤ 18446744073709551615) (h : inB x ++ r = inB y ++ s) : x = y ∧ r = s := by
  obtain ⟨hx1, hx2, hx3⟩ := hx
  obtain ⟨hy1, hy2, hy3⟩ := hy
  simp only [inB, List.append_assoc] at h
  obtain ⟨e1, h⟩ := List.append_inj h (by rw [hx1, hy1])
  obtain ⟨e2, h⟩ := List.append_inj h (by simp [leB_length])
  obtain ⟨e3, h⟩ := putL_cut hkx hky h
  obtain ⟨e4, h⟩ := List.append_inj h e3
  obtain ⟨e5, h⟩ := List.append_inj h (by simp [leB_length])
  have e6 := leB_inj (by omega) (by omega) e2
  have e7 := leB_inj (by omega) (by omega) e5
  obtain ⟨a, b, c, d⟩ := x
  obtain ⟨a', b', c', d'⟩ := y
  simp only at e1 e4 e6 e7
  subst e1 e4 e6 e7
  exact ⟨rfl, List.append_cancel_left h⟩
theorem outB_cut {x y : TOut} {r s : List UInt8} (hx : OutOk x) (hy : OutOk y) (h : outB x ++ r = outB y ++ s) : x = y ∧ r = s := by
  obtain ⟨hx1, hx2⟩ := hx
  obtain ⟨hy1, hy2⟩ := hy
  simp only [outB, List.append_assoc] at h
  obtain ⟨e1, h⟩ := List.append_inj h (by simp [leB_length])
  obtain ⟨e2, h⟩ := List.append_inj h (by rw [hx1, hy1])
  have e3 := leB_inj (by omega) (by omega) e1
  obtain ⟨a, b⟩ := x
  obtain ⟨a', b'⟩ := y
  simp only at e2 e3
  subst e2 e3
  exact ⟨rfl, List.append_cancel_left h⟩
def KeysLe (l : List TIn) (n : Nat) : Prop := ∀ x ∈ l, x.key.length ≤ n
theorem insB_cut : ∀ (l m : List TIn) {r s : List UInt8}, l.length = m.length → InsOk l → InsOk m → KeysLe l 18446744073709551615 → KeysLe m 18446744073709551615 → insB l ++ r = insB m ++ s → l = m ∧ r = s
  | [], [], r, s, _, _, _, _, _, h => ⟨rfl, by simpa [insB] using h⟩
  | x :: l, y :: m, r, s, hl, h1, h2, k1, k2, h => by
    simp only [insB, List.flatMap_cons, List.append_assoc] at h
    obtain ⟨e1, h⟩ := inB_cut (h1 x List.mem_cons_self) (h2 y List.mem_cons_self) (k1 x List.mem_cons_self) (k2 y List.mem_cons_self) h
    obtain ⟨e2, h⟩ := insB_cut l m (by simpa using hl) (fun z hz => h1 z (List.mem_cons_of_mem _ hz)) (fun z hz => h2 z (List.mem_cons_of_mem _ hz)) (fun z hz => k1 z (List.mem_cons_of_mem _ hz)) (fun z hz => k2 z (List.mem_cons_of_mem _ hz)) h
    exact ⟨by rw [e1, e2], h⟩
theorem outsB_cut : ∀ (l m : List TOut) {r s : List UInt8}, l.length = m.length → OutsOk l → OutsOk m → outsB l ++ r = outsB m ++ s → l = m ∧ r = s
  | [], [], r, s, _, _, _, h => ⟨rfl, by simpa [outsB] using h⟩
  | x :: l, y :: m, r, s, hl, h1, h2, h => by
    simp only [outsB, List.flatMap_cons, List.append_assoc] at h
    obtain ⟨e1, h⟩ := outB_cut (h1 x List.mem_cons_self) (h2 y List.mem_cons_self) h
    obtain ⟨e2, h⟩ := outsB_cut l m (by simpa using hl) (fun z hz => h1 z (List.mem_cons_of_mem _ hz)) (fun z hz => h2 z (List.mem_cons_of_mem _ hz)) h
    exact ⟨by rw [e1, e2], h⟩
/-- All that may be of a transaction that is small enough to be in memory. -/
def TxFit (t : TTx) : Prop := TxOk t ∧ InsOk t.ins ∧ OutsOk t.outs ∧ KeysLe t.ins 18446744073709551615 ∧ t.ins.length ≤ 18446744073709551615 ∧ t.outs.length ≤ 18446744073709551615
/-- Two with the same bytes, whatever stands behind, are one. -/
theorem txB_cut {t u : TTx} {r s : List UInt8} (ht : TxFit t) (hu : TxFit u) (h : txB t ++ r = txB u ++ s) : t = u ∧ r = s := by
  obtain ⟨⟨a1, a2⟩, a3, a4, a5, a6, a7⟩ := ht
  obtain ⟨⟨b1, b2⟩, b3, b4, b5, b6, b7⟩ := hu
  simp only [txB, List.append_assoc] at h
  obtain ⟨e1, h⟩ := List.append_inj h (by simp [leB_length])
  obtain ⟨e2, h⟩ := putL_cut a6 b6 h
  obtain ⟨e3, h⟩ := insB_cut _ _ e2 a3 b3 a5 b5 h
  obtain ⟨e4, h⟩ := putL_cut a7 b7 h
  obtain ⟨e5, h⟩ := outsB_cut _ _ e4 a4 b4 h
  obtain ⟨e6, h⟩ := List.append_inj h (by simp [leB_length])
  have e7 := leB_inj (by omega) (by omega) e1
  have e8 := leB_inj (by omega) (by omega) e6
  obtain ⟨a, b, c, d⟩ := t
  obtain ⟨a', b', c', d'⟩ := u
  simp only at e3 e5 e7 e8
  subst e3 e5 e7 e8
  exact ⟨rfl, List.append_cancel_left h⟩
theorem txB_inj {t u : TTx} (ht : TxFit t) (hu : TxFit u) (h : txB t = txB u) : t = u := (txB_cut (r := []) (s := []) ht hu (by rw [h])).1
/-- A transaction that makes coins: one input, of none. -/
def isNullIn (x : TIn) : Bool := decide (x.h = List.replicate 32 0) && decide (x.n = 4294967295)
def baseB (t : TTx) : Bool := match t.ins with
  | [x] => isNullIn x
  | _ => false
def samePtIn (x y : TIn) : Bool := decide (x.h = y.h) && decide (x.n = y.n)
/-- Two inputs with one place? -/
def twiceB : List TIn → Bool
  | [] => false
  | x :: l => l.any (samePtIn x) || twiceB l
/-- What is amiss first: the error's number, 0 if nothing is. -/
def checkN (t : TTx) : Nat :=
  if t.ins.length = 0 ∨ 50 < t.ins.length ∨ t.outs.length = 0 ∨ 50 < t.outs.length then 104
  else if 4000 < (txB t).length then 103
  else if t.ins.any (fun x => decide (80 < x.key.length)) then 114
  else if sumIs (t.outs.map (·.val)) = false then 105
  else if twiceB t.ins then 106
  else if baseB t then (if t.ins.any (fun x => decide (x.key.length < 4)) then 107 else 0)
  else if t.ins.any isNullIn then 107 else 0
end Go.Proofs.YtnhmjlljnckieaaDoor.Sha

/-
  How a transaction that came in by value reads. No conditions.
-/
namespace Go.Proofs.YtnhmjlljnckieaaDoor.Sha
open Go Go.ChangeShapes Go.WideShapes Go.ChangeAt Go.RowKit Go.Deep
theorem in_fields : (Tryd.prog.fieldsOf 91).toList.map (fun f => (f.name, f.type, f.offset)) = [("From", 88, 0), ("Key", 70, 33), ("Seq", 28, 34)] := by kernel_rfl
theorem in_under : Tryd.prog.underlying 91 = some (.struct (Tryd.prog.fieldsOf 91)) := by kernel_rfl
theorem out_fields : (Tryd.prog.fieldsOf 93).toList.map (fun f => (f.name, f.type, f.offset)) = [("Value", 53, 0), ("Lock", 30, 1)] := by kernel_rfl
theorem out_under : Tryd.prog.underlying 93 = some (.struct (Tryd.prog.fieldsOf 93)) := by kernel_rfl
theorem tx_fields : (Tryd.prog.fieldsOf 81).toList.map (fun f => (f.name, f.type, f.offset)) = [("Version", 28, 0), ("Ins", 78, 1), ("Outs", 79, 2), ("Time", 28, 3)] := by kernel_rfl
theorem tx_under : Tryd.prog.underlying 81 = some (.struct (Tryd.prog.fieldsOf 81)) := by kernel_rfl
theorem key_cells {H : Type} {enc : TypeId × Value → H} {W : World} {fuel : Nat} {cs : List Value} {x : DataW H × List MemPlace} (hf : DataW.trod enc Tryd.prog W 0 (fun _ => true) true fuel 70 cs = some x) :
    ∃ kv key, cs = [kv] ∧ KeyAt W kv key ∧ key.length ≤ 9223372036854775807 := by
  rcases open_ints Tryd.underlying70 Tryd.underlying5 (by kernel_rfl) hf with ⟨hcs, _⟩ | ⟨a, l, c, zs, hcs, _, hl, hm, hz, _, hcell, hwz⟩
  · exact ⟨_, [], hcs, ⟨.inl ⟨_, _, rfl, rfl⟩, _, _, rfl⟩, by simp⟩
  · have hr : IsRow .u8 W (some a) l c zs := .inr ⟨a, rfl, hl, hm, by simpa using hz, hcell, hwz⟩
    obtain ⟨bs, hs⟩ := src_of_row hr
    have hlen := hs.le.1
    exact ⟨_, bs, hcs, ⟨hs, _, _, by rw [hlen]⟩, by have := hr.len; omega⟩
set_option maxRecDepth 100000 in
theorem in_cells {H : Type} {enc : TypeId × Value → H} {W : World} {fuel : Nat} {cs : List Value} {x : DataW H × List MemPlace} (hf : DataW.trod enc Tryd.prog W 0 (fun _ => true) true fuel 91 cs = some x) :
    ∃ (y : TIn) (kv : Value), InOk y ∧ KeyAt W kv y.key ∧ y.key.length ≤ 9223372036854775807 ∧ cs = inL y kv := by
  have c27 : Tryd.prog.cellsOf 88 = 33 := by kernel_rfl
  have c22 : Tryd.prog.cellsOf 70 = 1 := by kernel_rfl
  have c25 : Tryd.prog.cellsOf 28 = 1 := by kernel_rfl
  have c54 : Tryd.prog.cellsOf 91 = 35 := by kernel_rfl
  obtain ⟨hlen, m, hel⟩ := struct_field in_under hf in_fields
  rw [c54] at hlen
  obtain ⟨y0, g0⟩ := hel 0 _ _ _ rfl
  obtain ⟨y1, g1⟩ := hel 1 _ _ _ rfl
  obtain ⟨y2, g2⟩ := hel 2 _ _ _ rfl
  rw [c27, List.drop_zero] at g0
  rw [c22] at g1
  rw [c25] at g2
  obtain ⟨bs, n, ⟨hb, hn⟩, hp⟩ := pt_cells g0
  obtain ⟨kv, key, hk, hka, hkl⟩ := key_cells g1
  obtain ⟨s, hs, hsq⟩ := num32_cells g2
  rw [List.take_of_length_le (by rw [List.length_drop]; omega)] at hsq
  refine ⟨⟨bs, n, key, s⟩, kv, ⟨hb, hn, hs⟩, hka, hkl, ?_⟩
  have e1 : cs.drop 33 = [kv] ++ [nV s] := by
    rw [← List.take_append_drop 1 (cs.drop 33), hk, List.drop_drop, hsq]
  show cs = ptL bs n ++ [kv, nV s]
  rw [← hp, show [kv, nV s] = cs.drop 33 from e1.symm, List.take_append_drop]
set_option maxRecDepth 100000 in
theorem out_cells {H : Type} {enc : TypeId × Value → H} {W : World} {fuel : Nat} {cs : List Value} {x : DataW H × List MemPlace} (hf : DataW.trod enc Tryd.prog W 0 (fun _ => true) true fuel 93 cs = some x) :
    ∃ y : TOut, OutOk y ∧ cs = outL y := by
  have c24 : Tryd.prog.cellsOf 30 = 32 := by kernel_rfl
  have c55 : Tryd.prog.cellsOf 53 = 1 := by kernel_rfl
  have c57 : Tryd.prog.cellsOf 93 = 33 := by kernel_rfl
  obtain ⟨hlen, m, hel⟩ := struct_field out_under hf out_fields
  rw [c57] at hlen
  obtain ⟨y0, g0⟩ := hel 0 _ _ _ rfl
  obtain ⟨y1, g1⟩ := hel 1 _ _ _ rfl
  rw [c55, List.drop_zero] at g0
  rw [c24] at g1
  obtain ⟨z, hz, _, hw⟩ := DataW.trod_int Tryd.underlying53 g0
  have hbd := bounds_u64 hw
  obtain ⟨bs, hb, hcs⟩ := hash_cells g1
  rw [List.take_of_length_le (by rw [List.length_drop]; omega)] at hcs
  refine ⟨⟨z.toNat, bs⟩, ⟨hb, by show z.toNat ≤ _; omega⟩, ?_⟩
  show cs = uV z.toNat :: bs.map bV
  rw [← hcs, uV, Int.toNat_of_nonneg (by omega), ← List.take_append_drop 1 cs, hz]
  rfl
/-- Many, each of which is somewhere: a list of them. -/
theorem list_of_each {α : Type} {p : Nat → α → Prop} : ∀ n, (∀ i, i < n → ∃ x, p i x) → ∃ l : List α, l.length = n ∧ ∀ i x, l[i]? = some x → p i x
  | 0, _ => ⟨[], rfl, fun i x h => by simp at h⟩
  | n + 1, h => by
    obtain ⟨l, hl, hp⟩ := list_of_each n (fun i hi => h i (by omega))
    obtain ⟨x, hx⟩ := h n (by omega)
    refine ⟨l ++ [x], by simp [hl], fun i y hy => ?_⟩
    by_cases hi : i < n
    · exact hp i y (by rwa [List.getElem?_append_left (by omega)] at hy)
    · have hin : i = n := by
        have := (List.getElem?_eq_some_iff.1 hy).1
        simp [hl] at this
        omega
      subst hin
      rw [List.getElem?_append_right (by omega), hl] at hy
      simp at hy
      rw [← hy]
      exact hx
theorem range_of_cells {w : World} {a : Addr} {n : Nat} {cs : List Value} (h : w.cells? 0 a n = some cs) (hn : 0 < n) : ∃ b o, a = ⟨b, o, none⟩ ∧ w.rangeAt b o cs := by
  obtain ⟨_, hcl, hat⟩ := World.cells?_some h
  obtain ⟨b, o, spot⟩ := a
  have h0 := hat 0 hn
  have hspot : spot = none := by
    have hs : (cs[0]?) = some (cs[0]'(by omega)) := List.getElem?_eq_getElem _
    rw [hs] at h0
    simpa [Addr.add] using World.cell?_spot h0
  subst hspot
  refine ⟨b, o, rfl, fun j v hj => ?_⟩
  have hjn : j < n := by have := (List.getElem?_eq_some_iff.1 hj).1; omega
  rw [← Addr.add_mid, hat j hjn]
  exact hj
theorem ins_cells {H : Type} {enc : TypeId × Value → H} {W : World} {fuel : Nat} {cs : List Value} {x : DataW H × List MemPlace} (hf : DataW.trod enc Tryd.prog W 0 (fun _ => true) true fuel 78 cs = some x) :
    ∃ (iv : Value) (l : List TIn), cs = [iv] ∧ InsAt W iv l ∧ InsOk l ∧ KeysLe l 9223372036854775807 ∧ l.length ≤ 9223372036854775807 := by
  have c54 : Tryd.prog.cellsOf 91 = 35 := by kernel_rfl
  rcases open_slice Tryd.underlying78 hf with ⟨hcs, _⟩ | ⟨a, len, cap, m, n, D, Pl, hcs, hb, hl, hm, hmm, hx, hi⟩
  · exact ⟨_, [], hcs, ⟨_, _, rfl, by simp, fun h => by simp at h⟩, fun y hy => by simp at hy, fun y hy => by simp at hy, by simp⟩
  · have hmc : m = cap := by rw [hmm]; simp
    rw [c54] at hi
    have each : ∀ i, i < len → ∃ y : TIn, ∃ b o, a.add (i * 35) = ⟨b, o, none⟩ ∧ InAt W b o y ∧ y.key.length ≤ 9223372036854775807 := fun i him => by
      obtain ⟨cs', hc, ht⟩ := hi i (by omega)
      obtain ⟨y, kv, h1, h2, h3, h4⟩ := in_cells ht
      obtain ⟨b, o, hab, hr⟩ := range_of_cells hc (by omega)
      exact ⟨y, b, o, hab, ⟨h1, kv, h2, by rw [← h4]; exact hr⟩, h3⟩
    obtain ⟨l, hll, hp⟩ := list_of_each len each
    have hmem : ∀ y ∈ l, ∃ b o, InAt W b o y ∧ y.key.length ≤ 9223372036854775807 := fun y hy => by
      obtain ⟨i, hi2⟩ := List.getElem?_of_mem hy
      obtain ⟨b, o, _, h1, h2⟩ := hp i y hi2
      exact ⟨b, o, h1, h2⟩
    refine ⟨_, l, hcs, ⟨_, _, by rw [hll], by omega, fun h0 => ?_⟩, fun y hy => ?_, fun y hy => ?_, by unfold maxLen at hm; omega⟩
    · obtain ⟨x0, hx0⟩ : ∃ x0, l[0]? = some x0 := ⟨_, List.getElem?_eq_getElem h0⟩
      obtain ⟨b, o, hab, _⟩ := hp 0 x0 hx0
      obtain ⟨ab, ao, asp⟩ := a
      have hsp : asp = none := by
        have := congrArg Addr.spot hab
        simpa [Addr.add] using this
      subst hsp
      refine ⟨ab, ao, rfl, fun i y hy => ?_⟩
      obtain ⟨b', o', hab', h1, _⟩ := hp i y hy
      rw [Addr.add_mid] at hab'
      cases hab'
      exact h1
    · obtain ⟨b, o, h1, _⟩ := hmem y hy
      exact h1.1
    · obtain ⟨b, o, _, h2⟩ := hmem y hy
      exact h2
theorem outs_cells {H : Type} {enc : TypeId × Value → H} {W : World} {fuel : Nat} {cs : List Value} {x : DataW H × List MemPlace} (hf : DataW.trod enc Tryd.prog W 0 (fun _ => true) true fuel 79 cs = some x) :
    ∃ (ov : Value) (l : List TOut), cs = [ov] ∧ OutsAt W ov l ∧ OutsOk l ∧ l.length ≤ 9223372036854775807 := by
  have c57 : Tryd.prog.cellsOf 93 = 33 := by kernel_rfl
  rcases open_slice Tryd.underlying79 hf with ⟨hcs, _⟩ | ⟨a, len, cap, m, n, D, Pl, hcs, hb, hl, hm, hmm, hx, hi⟩
  · exact ⟨_, [], hcs, ⟨_, _, rfl, by simp, fun h => by simp at h⟩, fun y hy => by simp at hy, by simp⟩
  · have hmc : m = cap := by rw [hmm]; simp
    rw [c57] at hi
    have each : ∀ i, i < len → ∃ y : TOut, ∃ b o, a.add (i * 33) = ⟨b, o, none⟩ ∧ OutAt W b o y := fun i him => by
      obtain ⟨cs', hc, ht⟩ := hi i (by omega)
      obtain ⟨y, h1, h4⟩ := out_cells ht
      obtain ⟨b, o, hab, hr⟩ := range_of_cells hc (by omega)
      exact ⟨y, b, o, hab, h1, by rw [← h4]; exact hr⟩
    obtain ⟨l, hll, hp⟩ := list_of_each len each
    refine ⟨_, l, hcs, ⟨_, _, by rw [hll], by omega, fun h0 => ?_⟩, fun y hy => ?_, by unfold maxLen at hm; omega⟩
    · obtain ⟨x0, hx0⟩ : ∃ x0, l[0]? = some x0 := ⟨_, List.getElem?_eq_getElem h0⟩
      obtain ⟨b, o, hab, _⟩ := hp 0 x0 hx0
      obtain ⟨ab, ao, asp⟩ := a
      have hsp : asp = none := by
        have := congrArg Addr.spot hab
        simpa [Addr.add] using this
      subst hsp
      refine ⟨ab, ao, rfl, fun i y hy => ?_⟩
      obtain ⟨b', o', hab', h1⟩ := hp i y hy
      rw [Addr.add_mid] at hab'
      cases hab'
      exact h1
    · obtain ⟨i, hi2⟩ := List.getElem?_of_mem hy
      obtain ⟨b, o, _, h1⟩ := hp i y hi2
      exact h1.1
/-- All that is known of a transaction that came in. -/
def TxCame (t : TTx) : Prop := TxOk t ∧ InsOk t.ins ∧ OutsOk t.outs ∧ KeysLe t.ins 9223372036854775807 ∧ t.ins.length ≤ 9223372036854775807 ∧ t.outs.length ≤ 9223372036854775807
set_option maxRecDepth 100000 in
/-- A transaction by value. -/
theorem tx_in {H : Type} {enc : TypeId × Value → H} {W : World} {base : Nat} {v : Value} {d : DataW H} {p : List MemPlace} (hok : Value.okWide Tryd.prog W .any base 81 v) (h : DataW.Trod enc Tryd.prog W 0 (fun _ => true) true 81 v d p) :
    ∃ t : TTx, TxAt W v t ∧ TxCame t := by
  have c25 : Tryd.prog.cellsOf 28 = 1 := by kernel_rfl
  have c23 : Tryd.prog.cellsOf 78 = 1 := by kernel_rfl
  have c24 : Tryd.prog.cellsOf 79 = 1 := by kernel_rfl
  have c26 : Tryd.prog.cellsOf 81 = 4 := by kernel_rfl
  simp only [Value.okWide, tx_under] at hok
  obtain ⟨cs, rfl, _, _⟩ := hok
  obtain ⟨fuel, hf⟩ := h
  have hcells : (Value.agg cs).cells.toList = cs.toList := rfl
  rw [hcells] at hf
  obtain ⟨hlen, m, hel⟩ := struct_field tx_under hf tx_fields
  rw [c26] at hlen
  obtain ⟨y0, g0⟩ := hel 0 _ _ _ rfl
  obtain ⟨y1, g1⟩ := hel 1 _ _ _ rfl
  obtain ⟨y2, g2⟩ := hel 2 _ _ _ rfl
  obtain ⟨y3, g3⟩ := hel 3 _ _ _ rfl
  rw [c25] at g0 g3
  rw [c23] at g1
  rw [c24] at g2
  obtain ⟨ver, h0, e0⟩ := num32_cells g0
  obtain ⟨iv, il, e1, h1, h1a, h1b, h1c⟩ := ins_cells g1
  obtain ⟨ov, ol, e2, h2, h2a, h2b⟩ := outs_cells g2
  obtain ⟨tm, h3, e3⟩ := num32_cells g3
  obtain ⟨l, hl⟩ : ∃ l, l = cs.toList := ⟨_, rfl⟩
  rw [← hl] at hlen e0 e1 e2 e3
  match l, hlen with
  | [a, b, c, e], _ =>
    simp at e0 e1 e2 e3
    subst e0 e1 e2 e3
    refine ⟨⟨ver, il, ol, tm⟩, ⟨⟨h0, h3⟩, _, _, ?_, h1, h2⟩, ⟨h0, h3⟩, h1a, h2a, h1b, h1c, h2b⟩
    congr 1
    apply Array.toList_inj.1
    rw [← hl]
    rfl
end Go.Proofs.YtnhmjlljnckieaaDoor.Sha

/-
  The statements' own SamePoint tells whether two places are one. Nothing that was there turns. Condition: digests of 32 bytes.
-/
namespace Go.Proofs.YtnhmjlljnckieaaDoor.Sha
open Go Go.RowKit
theorem same_b (x y : List UInt8) (hx : x.length = 32) (hy : y.length = 32) (b : Bool) (hb : b = decide (x = y)) (w : World) :
    Calls Tryd.prog 14 #[.agg (x.map bV).toArray, .agg (y.map bV).toArray] w fun e w' => e = .returned (.bool b) ∧ Below w.heap.size w w' := by
  subst hb
  exact same_any x y hx hy w
/-- Two places laid as boxes: what lies where. -/
theorem pt_boxes (w : World) (h h' : List UInt8) (n n' : Nat) (T : TypeId) :
    Below w.heap.size w ((w.alloc (.cells (ptL h n).toArray T (0, 0))).alloc (.cells (ptL h' n').toArray T (0, 0)))
    ∧ ((w.alloc (.cells (ptL h n).toArray T (0, 0))).alloc (.cells (ptL h' n').toArray T (0, 0))).heap[w.heap.size]? = some (.cells (ptL h n).toArray T (0, 0))
    ∧ ((w.alloc (.cells (ptL h n).toArray T (0, 0))).alloc (.cells (ptL h' n').toArray T (0, 0))).heap[w.heap.size + 1]? = some (.cells (ptL h' n').toArray T (0, 0)) :=
  ⟨((Below.refl _ _).alloc (Nat.le_refl _) _).alloc (by simp) _, heap_alloc2_old _ _ _, heap_alloc2_new _ _ _⟩
end Go.Proofs.YtnhmjlljnckieaaDoor.Sha

/-
  The statements' own SameBytes tells whether two texts are the same; nothing that was there turns. Condition: the bytes lie where the slices say.
-/
namespace Go.Proofs.YtnhmjlljnckieaaDoor.Sha
open Go Go.RowKit
theorem bytes_eq_of {x y : List UInt8} (hl : x.length = y.length) (h : ∀ j, j < x.length → x.getD j 0 = y.getD j 0) : x = y := by
  apply List.ext_getElem hl
  intro i h1 h2
  have := h i h1
  simpa [List.getD, List.getElem?_eq_getElem h1, List.getElem?_eq_getElem h2] using this
def SbInv (x y : List UInt8) (n : Nat) (w : World) (i : Value) (wr : World) : Prop :=
  ∃ k : Nat, k ≤ n ∧ i = .int .i64 k ∧ (∀ j, j < k → x.getD j 0 = y.getD j 0) ∧ Below w.heap.size w wr
def BoolPost (b : Bool) (w : World) (e : Ending) (w' : World) : Prop := e = .returned (.bool b) ∧ Below w.heap.size w w'
end Go.Proofs.YtnhmjlljnckieaaDoor.Sha

/-
  The statements' own SameIn, SameOut tell whether two inputs, two outputs are the same. Nothing that was there turns. Conditions: digests of 32 bytes, keys that lie in memory, fewer than 2^46 bytes.
-/
namespace Go.Proofs.YtnhmjlljnckieaaDoor.Sha
open Go Go.RowKit
theorem range_of_box {w : World} {g : Nat} {cs : List Value} {T : TypeId} {fr : Nat × Nat} (h : w.heap[g]? = some (.cells cs.toArray T fr)) : w.rangeAt g 0 cs := fun j v hj => by
  rw [Nat.zero_add, cell_of_row _ _ _ _ _ _ h, List.getElem?_toArray]
  exact hj
/-- Two boxes: what lies where. -/
theorem boxes2 (w : World) (x y : List Value) (T : TypeId) :
    Below w.heap.size w ((w.alloc (.cells x.toArray T (0, 0))).alloc (.cells y.toArray T (0, 0)))
    ∧ ((w.alloc (.cells x.toArray T (0, 0))).alloc (.cells y.toArray T (0, 0))).heap[w.heap.size]? = some (.cells x.toArray T (0, 0))
    ∧ ((w.alloc (.cells x.toArray T (0, 0))).alloc (.cells y.toArray T (0, 0))).heap[w.heap.size + 1]? = some (.cells y.toArray T (0, 0)) :=
  ⟨((Below.refl _ _).alloc (Nat.le_refl _) _).alloc (by simp) _, heap_alloc2_old _ _ _, heap_alloc2_new _ _ _⟩
/-- Are two inputs the same? -/
def sameIn (x y : TIn) : Bool := (decide (x.h = y.h) && decide (x.n = y.n)) && (decide (x.key = y.key) && decide (x.seq = y.seq))
def sameOut (x y : TOut) : Bool := decide (x.val = y.val) && decide (x.lock = y.lock)
theorem sameIn_iff (x y : TIn) : sameIn x y = true ↔ x = y := by
  obtain ⟨a, b, c, d⟩ := x
  obtain ⟨a', b', c', d'⟩ := y
  simp [sameIn, and_assoc]
theorem sameOut_iff (x y : TOut) : sameOut x y = true ↔ x = y := by
  obtain ⟨a, b⟩ := x
  obtain ⟨a', b'⟩ := y
  simp [sameOut]
end Go.Proofs.YtnhmjlljnckieaaDoor.Sha

/-
  compact.Sum and the statements' own Sum answer the amounts added, or that this is none; nothing is written. Condition: the amounts lie where the slice says.
-/
namespace Go.Proofs.YtnhmjlljnckieaaDoor.Sha
open Go Go.RowKit
/-- The sum's two answers. -/
def sumV (l : List Nat) : Value := .tuple #[.int .u64 (sumL l : Nat), .bool (sumIs l)]
theorem sumV_yes {l : List Nat} (h : l.sum ≤ most) : sumV l = .tuple #[.int .u64 (l.sum : Nat), .bool true] := by
  unfold sumV sumL sumIs
  rw [if_pos h, decide_eq_true h]
theorem sumV_no {l : List Nat} (h : ¬ l.sum ≤ most) : sumV l = .tuple #[.int .u64 0, .bool false] := by
  unfold sumV sumL sumIs
  rw [if_neg h, decide_eq_false h]
  rfl
def SmI (l : List Nat) (vs vi : Value) : Prop := ∃ k : Nat, k ≤ l.length ∧ vi = .int .i64 k ∧ vs = .int .u64 ((l.take k).sum : Nat) ∧ (l.take k).sum ≤ most
theorem most_eq : most = 2100000000000000 := rfl
end Go.Proofs.YtnhmjlljnckieaaDoor.Sha

/-
  The statements' own numbers in bytes and sums (chapter 2) answer what the chapter says; nothing that was there turns but the row that they are given. Conditions: own rows that are short; amounts that lie where the slice says.
-/
namespace Go.Proofs.YtnhmjlljnckieaaDoor.Sha
open Go Go.RowKit
set_option maxRecDepth 100000 in
theorem rlen_c (n : Nat) (k : Int) (w : World) (hk : ((lenN n : Nat) : Int) = k) :
    Calls Tryd.prog 62 #[.int .u64 n] w fun e w' => e = .returned (.int .i64 k) ∧ w = w' := by
  subst hk
  by_cases h1 : n < 253
  · have e : lenN n = 1 := by unfold lenN; rw [if_pos h1]
    rw [e]
    clear e
    go_enter Tryd.func62, Tryd.ntmps62
    go_wp2
    go_ret
    exact ⟨rfl, rfl⟩
  by_cases h2 : n ≤ 65535
  · have e : lenN n = 3 := by unfold lenN; rw [if_neg h1, if_pos h2]
    rw [e]
    have i1 : ¬ (n : Int) < 253 := by omega
    have i2 : (n : Int) < 65536 := by omega
    clear e h1 h2
    go_enter Tryd.func62, Tryd.ntmps62
    go_wp2
    go_ret
    exact ⟨rfl, rfl⟩
  by_cases h3 : n ≤ 4294967295
  · have e : lenN n = 5 := by unfold lenN; rw [if_neg h1, if_neg h2, if_pos h3]
    rw [e]
    have i1 : ¬ (n : Int) < 253 := by omega
    have i2 : ¬ (n : Int) < 65536 := by omega
    have i3 : (n : Int) < 4294967296 := by omega
    clear e h1 h2 h3
    go_enter Tryd.func62, Tryd.ntmps62
    go_wp2
    go_ret
    exact ⟨rfl, rfl⟩
  · have e : lenN n = 9 := by unfold lenN; rw [if_neg h1, if_neg h2, if_neg h3]
    rw [e]
    have i1 : ¬ (n : Int) < 253 := by omega
    have i2 : ¬ (n : Int) < 65536 := by omega
    have i3 : ¬ (n : Int) < 4294967296 := by omega
    clear e h1 h2 h3
    go_enter Tryd.func62, Tryd.ntmps62
    go_wp2
    go_ret
    exact ⟨rfl, rfl⟩
/-- An own row of bytes, nothing below B turned. -/
def OwnB (base B : Nat) (w0 w : World) (v : Value) (bs : List UInt8) : Prop := w.ownsRow base 5 1 v bs.length (bs.map bV) ∧ Below B w0 w ∧ B ≤ w.heap.size
def LtInv (n many base : Nat) (bs : List UInt8) (w : World) (vb vi : Value) (wr : World) : Prop :=
  ∃ k : Nat, k ≤ many ∧ vi = .int .i64 k ∧ OwnB base base w wr vb (bs ++ leB n k)
theorem OwnB.push {base B : Nat} {w0 w w' : World} {v v' : Value} {bs : List UInt8} {o : Obj} (c : UInt8) (h : OwnB base B w0 w v bs) (hB : B ≤ base) (ho : w'.ownsRow base 5 1 v' (bs.length + 1) (bs.map bV ++ [.int .u8 (bv c)])) (hg : (w.alloc o).grownBy w' v.ownBlock) : OwnB base B w0 w' v' (bs ++ [c]) := by
  refine ⟨?_, own_grown (h.2.1.alloc h.2.2 o) hB (by have := h.2.2; simp; omega) (h.1.alloc o) hg, by have := hg.size; have := h.2.2; simp at *; omega⟩
  rw [List.map_append, List.length_append]
  exact ho
set_option maxHeartbeats 400000 in
set_option maxRecDepth 100000 in
theorem little_any (n many base : Nat) (km : Int) (hkm : km = (many : Int)) (bs : List UInt8) (v : Value) (w : World) (hw : many ≤ 8) (hb : base ≤ w.heap.size) (hl : bs.length ≤ 70368744177664) (ho : w.ownsRow base 5 1 v bs.length (bs.map bV)) :
    Calls Tryd.prog 43 #[v, .int .u64 n, .int .i64 km] w fun e w' => ∃ v', e = .returned v' ∧ OwnB base base w w' v' (bs ++ leB n many) := by
  subst hkm
  obtain ⟨i0, hi, hz0, hz1, hz2⟩ := info_parts info_u8
  have HO : Hid (OwnB base base w w v (bs ++ leB n 0)) := ⟨by simpa [leB] using ho, Below.refl _ _, hb⟩
  clear ho
  go_enter Tryd.func43, Tryd.ntmps43
  go_wp2_with fail
  go_loopw [0, 7] (fun vb vi wr => LtInv n many base bs w vb vi wr) (fun _ i _ => many - (intOf i).toNat)
  case atStart => exact ⟨0, by omega, rfl, HO.out⟩
  case round =>
    obtain ⟨k, hk, rfl, hown⟩ := hrel
    have HO := Lib.hid hown
    clear hown
    by_cases hlt : k < many
    · have e1 : (8 * (k : Int)).toNat = 8 * k := by omega
      have e2 : (2 : Nat) ^ (8 * k) = 256 ^ k := by rw [Nat.pow_mul]
      obtain ⟨q, hq⟩ : ∃ q, q = n / 256 ^ k := ⟨_, rfl⟩
      have hby : (n : Int) / 2 ^ (8 * k) % 256 = bv (UInt8.ofNat q) := by
        rw [← bv_of, IntKind.wrap_u8', hq, ← e2]
        simp
      obtain ⟨c, hc⟩ : ∃ c, c = UInt8.ofNat q := ⟨_, rfl⟩
      rw [← hc] at hby
      have HT : Hid (bs ++ leB n (k + 1) = (bs ++ leB n k) ++ [c]) := by
        show _ = _
        rw [hc, hq, leB, List.append_assoc]
      obtain ⟨cs, hcs⟩ : ∃ cs, cs = bs ++ leB n k := ⟨_, rfl⟩
      have hcl : cs.length ≤ 70368744177680 := by rw [hcs, List.length_append, leB_length]; omega
      rw [← hcs] at HO HT
      clear hq hc hcs e2
      go_wp2_with (at_builtin; refine wpList_append_own _ rfl _ _ 70 rfl base 5 i0 (.int .u8 0) 1 1 Tryd.underlying70 hi hz0 hz1 hz2 rfl (by decide) _ cs.length _ rfl (HO.out.1.alloc _) ⟨wr.heap.size, 0, none⟩ 1 1 [.int .u8 (bv c)] rfl rfl (cell_one_new _ _ _) (one_u8 _) (by unfold maxLen; omega) (by omega) (by have := HO.out.2.2; simp; omega) ?_; intro v2 w3 ho3 hg3 _; have HN := Lib.hid (HO.out.push c (Nat.le_refl _) ho3 hg3); clear ho3 hg3; go_frame)
      go_roundw
      case rel => exact ⟨k + 1, by omega, by go_num, by rw [HT.out]; exact HN.out⟩
      case measure => simp [intOf]; omega
    · have hkn : k = many := by omega
      subst hkn
      clear hlt
      go_wp2_with fail
      go_ret
      exact ⟨_, rfl, HO.out⟩
end Go.Proofs.YtnhmjlljnckieaaDoor.Sha

/-
  The statements' own Four, Eight, Put write a number behind bytes of the caller's: whatever else was there stays, but for the row written to. Conditions: the row is the caller's own, fewer than 2^46 bytes.
-/
namespace Go.Proofs.YtnhmjlljnckieaaDoor.Sha
open Go Go.RowKit
/-- An own row of bytes; since w0 nothing turned but the row r. -/
def OwnG (base : Nat) (r : Option Nat) (w0 w : World) (v : Value) (bs : List UInt8) : Prop :=
  w.ownsRow base 5 1 v bs.length (bs.map bV) ∧ w0.grownBy w r ∧ (v.ownBlock = r ∨ ∃ k, v.ownBlock = some k ∧ w0.heap.size ≤ k) ∧ base ≤ w.heap.size
theorem OwnG.start {base : Nat} {w : World} {v : Value} {bs : List UInt8} (h : w.ownsRow base 5 1 v bs.length (bs.map bV)) (hb : base ≤ w.heap.size) : OwnG base v.ownBlock w w v bs := ⟨h, grownBy_refl _ _, .inl rfl, hb⟩
theorem grown_over {w0 w w' : World} {r q : Option Nat} (h : w0.grownBy w r) (hg : w.grownBy w' q) (hq : q = r ∨ ∃ k, q = some k ∧ w0.heap.size ≤ k) : w0.grownBy w' r :=
  ⟨hg.os.trans h.os, hg.tape.trans h.tape, hg.output.trans h.output, Nat.le_trans h.size hg.size, fun k hk hne => by
    rw [hg.block k (Nat.lt_of_lt_of_le hk h.size) (by
      rcases hq with rfl | ⟨k', rfl, hk'⟩
      · exact hne
      · exact fun e => by have := Option.some.inj e; omega)]
    exact h.block k hk hne⟩
theorem OwnG.push {base : Nat} {r : Option Nat} {w0 w w' : World} {v v' : Value} {bs : List UInt8} {o : Obj} (c : UInt8) (h : OwnG base r w0 w v bs) (ho : w'.ownsRow base 5 1 v' (bs.length + 1) (bs.map bV ++ [.int .u8 (bv c)])) (hg : (w.alloc o).grownBy w' v.ownBlock)
    (hv : v'.ownBlock = v.ownBlock ∨ v'.ownBlock = some (w.alloc o).heap.size) : OwnG base r w0 w' v' (bs ++ [c]) := by
  have hg2 : w.grownBy w' v.ownBlock := grownBy_trans (World.grownBy_alloc w o _) hg
  refine ⟨?_, grown_over h.2.1 hg2 h.2.2.1, ?_, Nat.le_trans h.2.2.2 hg2.size⟩
  · rw [List.map_append, List.length_append]
    exact ho
  · rcases hv with e | e
    · rw [e]
      exact h.2.2.1
    · exact .inr ⟨_, e, by have := h.2.1.size; simp; omega⟩
theorem OwnG.trans {base : Nat} {r : Option Nat} {w0 w w' : World} {v v' : Value} {bs cs : List UInt8} (h : OwnG base r w0 w v bs) (k : OwnG base v.ownBlock w w' v' cs) : OwnG base r w0 w' v' cs :=
  ⟨k.1, grown_over h.2.1 k.2.1 h.2.2.1, by
    rcases k.2.2.1 with e | ⟨q, e, hq⟩
    · rw [e]
      exact h.2.2.1
    · exact .inr ⟨q, e, Nat.le_trans h.2.1.size hq⟩, k.2.2.2⟩
/-- Many bytes at once. -/
theorem OwnG.app {base : Nat} {r : Option Nat} {w0 w w' : World} {v v' : Value} {bs cs : List UInt8} (h : OwnG base r w0 w v bs) (ho : w'.ownsRow base 5 1 v' (bs.length + cs.length) (bs.map bV ++ cs.map bV)) (hg : w.grownBy w' v.ownBlock)
    (hv : v'.ownBlock = v.ownBlock ∨ v'.ownBlock = some w.heap.size) : OwnG base r w0 w' v' (bs ++ cs) := by
  refine ⟨?_, grown_over h.2.1 hg h.2.2.1, ?_, Nat.le_trans h.2.2.2 hg.size⟩
  · rw [List.map_append, List.length_append]
    exact ho
  · rcases hv with e | e
    · rw [e]
      exact h.2.2.1
    · exact .inr ⟨_, e, h.2.1.size⟩
/-- Only new memory turned, if the row is above. -/
theorem OwnG.below {base B : Nat} {r : Option Nat} {w0 w : World} {v : Value} {bs : List UInt8} (h : OwnG base r w0 w v bs) (hr : ∀ k, r = some k → B ≤ k) (hB : B ≤ w0.heap.size) : Below B w0 w :=
  ⟨h.2.1.os, h.2.1.tape, h.2.1.output, h.2.1.size, fun k hk => h.2.1.block k (by omega) (fun e => by have := hr k e.symm; omega)⟩
section
variable {P : Program}
/-- Any bytes behind an own row: it stays where it was, or is new. -/
theorem wp_append_g (w : World) {o : Oper} {a : Act} {K : Act → World → Prop} {Q : Exit → Act → World → Prop}
    (s x : Operand) (t : TypeId) (hop : o.op = Op.call { callee := Callee.builtin Builtin.append, args := #[s, x], argTypes := #[t, t] })
    (base : Nat) (e : TypeId) (i : TypeInfo) (h1 : P.underlying t = some (.slice e)) (h2 : P.info? e = some i) (hz : i.zero = some (.int .u8 0)) (h4 : i.size = 1) (h5 : i.bytes = 1)
    (v : Value) (k : Nat) (xs : List Value) (hs : a.eval s = v) (hown : w.ownsRow base e 1 v k xs) (y : Value) (bs : List UInt8) (hx : a.eval x = y) (hsrc : SrcB w y bs) (hlen : k + bs.length ≤ 70368744177680) (hbase : base ≤ w.heap.size)
    (hK : ∀ v' w', w'.ownsRow base e 1 v' (k + bs.length) (xs ++ bs.map bV) → w.grownBy w' v.ownBlock → (v'.ownBlock = v.ownBlock ∨ v'.ownBlock = some w.heap.size) → K (a.put o.dst v') w') : o.wp P a w K Q := by
  rcases hsrc with ⟨sp, c, rfl, rfl⟩ | ⟨h0, bb, off, c, rfl, hc, hcell⟩
  · have hrun := run_append_any0 (P := P) (w := w) base t o.type e i h1 h2 v k xs (by rw [h4]; exact hown) sp c
    unfold Oper.wp
    simp [execOp, hop, resolve, invoke, builtin, hs, hx, hrun, Result.andThen]
    refine hK v w ?_ (grownBy_refl _ _) (.inl rfl)
    show w.ownsRow _ _ _ _ _ _
    simpa using hown
  · obtain ⟨v', w', hr, h2', h3', _, h5'⟩ := run_append_own_at (P := P) w base t o.type e i (.int .u8 0) 1 1 h1 h2 hz h4 h5 rfl (by decide) v k xs hown ⟨bb, off, none⟩ bs.length c (bs.map bV) (by simp)
      (fun j u hu => by
        rw [List.getElem?_map] at hu
        obtain ⟨b, hb, rfl⟩ := Option.map_eq_some_iff.1 hu
        have hj := (List.getElem?_eq_some_iff.1 hb).1
        rw [Addr.add_mid, hcell j hj]
        simp [bV, List.getD, hb])
      (bV_one' bs) (by unfold maxLen; omega) (by omega) hbase
    unfold Oper.wp execOp
    simp only [hop, resolve, invoke, builtin, Sem.run_bind, Sem.run_pure, Result.andThen_ok, List.map_toArray, List.map_cons, List.map_nil, hs, hx, hr]
    exact hK v' w' h2' h3' h5'
theorem wpList_append_g (w : World) {ops : Array Oper} {rest : List Oper} {o : Oper} {a : Act} {Q : Exit → Act → World → Prop} (hg : o.guard = none)
    (s x : Operand) (t : TypeId) (hop : o.op = Op.call { callee := Callee.builtin Builtin.append, args := #[s, x], argTypes := #[t, t] })
    (base : Nat) (e : TypeId) (i : TypeInfo) (h1 : P.underlying t = some (.slice e)) (h2 : P.info? e = some i) (hz : i.zero = some (.int .u8 0)) (h4 : i.size = 1) (h5 : i.bytes = 1)
    (v : Value) (k : Nat) (xs : List Value) (hs : a.eval s = v) (hown : w.ownsRow base e 1 v k xs) (y : Value) (bs : List UInt8) (hx : a.eval x = y) (hsrc : SrcB w y bs) (hlen : k + bs.length ≤ 70368744177680) (hbase : base ≤ w.heap.size)
    (hK : ∀ v' w', w'.ownsRow base e 1 v' (k + bs.length) (xs ++ bs.map bV) → w.grownBy w' v.ownBlock → (v'.ownBlock = v.ownBlock ∨ v'.ownBlock = some w.heap.size) → wpList P ops Q rest (a.put o.dst v') w') : wpList P ops Q (o :: rest) a w :=
  wpList_plain hg fun _ hK' => wp_append_g w s x t hop base e i h1 h2 hz h4 h5 v k xs hs hown y bs hx hsrc hlen hbase (fun v' w' a1 a2 a3 => hK' _ _ (hK v' w' a1 a2 a3))
end
def LgInv (n many base : Nat) (r : Option Nat) (bs : List UInt8) (w : World) (vb vi : Value) (wr : World) : Prop :=
  ∃ k : Nat, k ≤ many ∧ vi = .int .i64 k ∧ OwnG base r w wr vb (bs ++ leB n k)
set_option maxHeartbeats 400000 in
set_option maxRecDepth 100000 in
theorem little_g (n many base : Nat) (km : Int) (hkm : km = (many : Int)) (bs : List UInt8) (v : Value) (w : World) (hw : many ≤ 8) (hb : base ≤ w.heap.size) (hl : bs.length ≤ 70368744177664) (ho : w.ownsRow base 5 1 v bs.length (bs.map bV)) :
    Calls Tryd.prog 43 #[v, .int .u64 n, .int .i64 km] w fun e w' => ∃ v', e = .returned v' ∧ OwnG base v.ownBlock w w' v' (bs ++ leB n many) := by
  subst hkm
  obtain ⟨i0, hi, hz0, hz1, hz2⟩ := info_parts info_u8
  have HO : Hid (OwnG base v.ownBlock w w v (bs ++ leB n 0)) := OwnG.start (by simpa [leB] using ho) hb
  clear ho
  go_enter Tryd.func43, Tryd.ntmps43
  go_wp2_with fail
  go_loopw [0, 7] (fun vb vi wr => LgInv n many base v.ownBlock bs w vb vi wr) (fun _ i _ => many - (intOf i).toNat)
  case atStart => exact ⟨0, by omega, rfl, HO.out⟩
  case round =>
    obtain ⟨k, hk, rfl, hown⟩ := hrel
    have HO := Lib.hid hown
    clear hown
    by_cases hlt : k < many
    · have e1 : (8 * (k : Int)).toNat = 8 * k := by omega
      have e2 : (2 : Nat) ^ (8 * k) = 256 ^ k := by rw [Nat.pow_mul]
      obtain ⟨q, hq⟩ : ∃ q, q = n / 256 ^ k := ⟨_, rfl⟩
      have hby : (n : Int) / 2 ^ (8 * k) % 256 = bv (UInt8.ofNat q) := by
        rw [← bv_of, IntKind.wrap_u8', hq, ← e2]
        simp
      obtain ⟨c, hc⟩ : ∃ c, c = UInt8.ofNat q := ⟨_, rfl⟩
      rw [← hc] at hby
      have HT : Hid (bs ++ leB n (k + 1) = (bs ++ leB n k) ++ [c]) := by
        show _ = _
        rw [hc, hq, leB, List.append_assoc]
      obtain ⟨cs, hcs⟩ : ∃ cs, cs = bs ++ leB n k := ⟨_, rfl⟩
      have hcl : cs.length ≤ 70368744177680 := by rw [hcs, List.length_append, leB_length]; omega
      rw [← hcs] at HO HT
      clear hq hc hcs e2
      go_wp2_with (at_builtin; refine wpList_append_own_at _ rfl _ _ 70 rfl base 5 i0 (.int .u8 0) 1 1 Tryd.underlying70 hi hz0 hz1 hz2 rfl (by decide) _ cs.length _ rfl (HO.out.1.alloc _) ⟨wr.heap.size, 0, none⟩ 1 1 [.int .u8 (bv c)] rfl rfl (cell_one_new _ _ _) (one_u8 _) (by unfold maxLen; omega) (by omega) (by have := HO.out.2.2.2; simp; omega) ?_; intro v2 w3 ho3 hg3 _ hv3; have HN := Lib.hid (HO.out.push c ho3 hg3 hv3); clear ho3 hg3 hv3; go_frame)
      go_roundw
      case rel => exact ⟨k + 1, by omega, by go_num, by rw [HT.out]; exact HN.out⟩
      case measure => simp [intOf]; omega
    · have hkn : k = many := by omega
      subst hkn
      clear hlt
      go_wp2_with fail
      go_ret
      exact ⟨_, rfl, HO.out⟩
set_option maxHeartbeats 1000000 in
set_option maxRecDepth 100000 in
theorem rput_g (n base : Nat) (bs : List UInt8) (v : Value) (w : World) (hb : base ≤ w.heap.size) (hl : bs.length ≤ 70368744177600) (ho : w.ownsRow base 5 1 v bs.length (bs.map bV)) :
    Calls Tryd.prog 57 #[v, .int .u64 n] w fun e w' => ∃ v', e = .returned v' ∧ OwnG base v.ownBlock w w' v' (bs ++ putL n) := by
  obtain ⟨i0, hi, hz0, hz1, hz2⟩ := info_parts info_u8
  have HO : Hid (OwnG base v.ownBlock w w v bs) := OwnG.start ho hb
  clear ho
  rcases lenN_eq n with ⟨e, e2⟩ | ⟨e, e2⟩ | ⟨e, e2⟩ | ⟨e, e2⟩ <;> rw [e2] <;> clear e2
  · have hby : (n : Int) % 256 = bv (UInt8.ofNat n) := by rw [← bv_of, IntKind.wrap_u8']
    obtain ⟨c, hc⟩ : ∃ c, c = UInt8.ofNat n := ⟨_, rfl⟩
    rw [← hc] at hby ⊢
    have HL : Hid (((lenN n : Nat) : Int) = 1) := by show _ = _; rw [e]; rfl
    clear e hc
    go_enter Tryd.func57, Tryd.ntmps57
    go_wp2_with (first | (go_at_call 62; refine (rlen_c n 1 _ HL.out).mono ?_; rintro e w' ⟨rfl, rfl⟩) | (at_builtin; refine wpList_append_own_at _ rfl _ _ 70 rfl base 5 i0 (.int .u8 0) 1 1 Tryd.underlying70 hi hz0 hz1 hz2 rfl (by decide) v bs.length _ rfl (HO.out.1.alloc _) ⟨w.heap.size, 0, none⟩ 1 1 [.int .u8 (bv c)] rfl rfl (cell_one_new _ _ _) (one_u8 _) (by unfold maxLen; omega) (by omega) (by simp; omega) ?_; intro v2 w3 ho3 hg3 _ hv3; have HN := Lib.hid (HO.out.push c ho3 hg3 hv3); clear ho3 hg3 hv3; go_frame))
    go_ret
    exact ⟨_, rfl, HN.out⟩
  · have HL : Hid (((lenN n : Nat) : Int) = 3) := by show _ = _; rw [e]; rfl
    clear e
    go_enter Tryd.func57, Tryd.ntmps57
    go_wp2_with (first | (go_at_call 62; refine (rlen_c n 3 _ HL.out).mono ?_; rintro e w' ⟨rfl, rfl⟩) | (at_builtin; refine wpList_append_own_at _ rfl _ _ 70 rfl base 5 i0 (.int .u8 0) 1 1 Tryd.underlying70 hi hz0 hz1 hz2 rfl (by decide) v bs.length _ rfl (HO.out.1.alloc _) ⟨w.heap.size, 0, none⟩ 1 1 [.int .u8 (bv 253)] rfl rfl (cell_one_new _ _ _) (one_u8 _) (by unfold maxLen; omega) (by omega) (by simp; omega) ?_; intro v2 w3 ho3 hg3 _ hv3; have HN := Lib.hid (HO.out.push 253 ho3 hg3 hv3); clear ho3 hg3 hv3; go_frame) | (go_at_call 43; refine (little_g n 2 base 2 rfl (bs ++ [253]) v2 _ (by omega) HN.out.2.2.2 (by simp; omega) HN.out.1).mono ?_; rintro e w4 ⟨v4, rfl, h4⟩; have H4 := Lib.hid h4; clear h4))
    go_ret
    have h := H4.out
    rw [List.append_assoc] at h
    exact ⟨_, rfl, HN.out.trans h⟩
  · have HL : Hid (((lenN n : Nat) : Int) = 5) := by show _ = _; rw [e]; rfl
    clear e
    go_enter Tryd.func57, Tryd.ntmps57
    go_wp2_with (first | (go_at_call 62; refine (rlen_c n 5 _ HL.out).mono ?_; rintro e w' ⟨rfl, rfl⟩) | (at_builtin; refine wpList_append_own_at _ rfl _ _ 70 rfl base 5 i0 (.int .u8 0) 1 1 Tryd.underlying70 hi hz0 hz1 hz2 rfl (by decide) v bs.length _ rfl (HO.out.1.alloc _) ⟨w.heap.size, 0, none⟩ 1 1 [.int .u8 (bv 254)] rfl rfl (cell_one_new _ _ _) (one_u8 _) (by unfold maxLen; omega) (by omega) (by simp; omega) ?_; intro v2 w3 ho3 hg3 _ hv3; have HN := Lib.hid (HO.out.push 254 ho3 hg3 hv3); clear ho3 hg3 hv3; go_frame) | (go_at_call 43; refine (little_g n 4 base 4 rfl (bs ++ [254]) v2 _ (by omega) HN.out.2.2.2 (by simp; omega) HN.out.1).mono ?_; rintro e w4 ⟨v4, rfl, h4⟩; have H4 := Lib.hid h4; clear h4))
    go_ret
    have h := H4.out
    rw [List.append_assoc] at h
    exact ⟨_, rfl, HN.out.trans h⟩
  · have HL : Hid (((lenN n : Nat) : Int) = 9) := by show _ = _; rw [e]; rfl
    clear e
    go_enter Tryd.func57, Tryd.ntmps57
    go_wp2_with (first | (go_at_call 62; refine (rlen_c n 9 _ HL.out).mono ?_; rintro e w' ⟨rfl, rfl⟩) | (at_builtin; refine wpList_append_own_at _ rfl _ _ 70 rfl base 5 i0 (.int .u8 0) 1 1 Tryd.underlying70 hi hz0 hz1 hz2 rfl (by decide) v bs.length _ rfl (HO.out.1.alloc _) ⟨w.heap.size, 0, none⟩ 1 1 [.int .u8 (bv 255)] rfl rfl (cell_one_new _ _ _) (one_u8 _) (by unfold maxLen; omega) (by omega) (by simp; omega) ?_; intro v2 w3 ho3 hg3 _ hv3; have HN := Lib.hid (HO.out.push 255 ho3 hg3 hv3); clear ho3 hg3 hv3; go_frame) | (go_at_call 43; refine (little_g n 8 base 8 rfl (bs ++ [255]) v2 _ (by omega) HN.out.2.2.2 (by simp; omega) HN.out.1).mono ?_; rintro e w4 ⟨v4, rfl, h4⟩; have H4 := Lib.hid h4; clear h4))
    go_ret
    have h := H4.out
    rw [List.append_assoc] at h
    exact ⟨_, rfl, HN.out.trans h⟩
set_option maxRecDepth 100000 in
theorem rfour_g (n base : Nat) (bs : List UInt8) (v : Value) (w : World) (hn : n ≤ 4294967295) (hb : base ≤ w.heap.size) (hl : bs.length ≤ 70368744177600) (ho : w.ownsRow base 5 1 v bs.length (bs.map bV)) :
    Calls Tryd.prog 34 #[v, .int .u32 n] w fun e w' => ∃ v', e = .returned v' ∧ OwnG base v.ownBlock w w' v' (bs ++ leB n 4) := by
  have HO := Lib.hid ho
  clear ho
  go_enter Tryd.func34, Tryd.ntmps34
  go_wp2_with (go_at_call 43; refine (little_g n 4 base 4 rfl bs v _ (by omega) hb (by omega) HO.out).mono ?_; rintro e w4 ⟨v4, rfl, h4⟩; have H4 := Lib.hid h4; clear h4)
  go_ret
  exact ⟨_, rfl, H4.out⟩
set_option maxRecDepth 100000 in
theorem reight_g (n base : Nat) (bs : List UInt8) (v : Value) (w : World) (hb : base ≤ w.heap.size) (hl : bs.length ≤ 70368744177600) (ho : w.ownsRow base 5 1 v bs.length (bs.map bV)) :
    Calls Tryd.prog 58 #[v, .int .u64 n] w fun e w' => ∃ v', e = .returned v' ∧ OwnG base v.ownBlock w w' v' (bs ++ leB n 8) := by
  have HO := Lib.hid ho
  clear ho
  go_enter Tryd.func58, Tryd.ntmps58
  go_wp2_with (go_at_call 43; refine (little_g n 8 base 8 rfl bs v _ (by omega) hb (by omega) HO.out).mono ?_; rintro e w4 ⟨v4, rfl, h4⟩; have H4 := Lib.hid h4; clear h4)
  go_ret
  exact ⟨_, rfl, H4.out⟩
end Go.Proofs.YtnhmjlljnckieaaDoor.Sha
