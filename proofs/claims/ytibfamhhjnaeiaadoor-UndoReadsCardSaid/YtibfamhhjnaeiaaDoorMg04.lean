/-
  Texts of this proof joined into one file: ArgsPt, TxData, TxMath, ArgsTx, ErrIs, PtSame, RefSameB, TxSame, CmpPut, CmpSum, RefWire, RefBuf, Held. What each holds, and under which conditions, its own first sentence tells.
-/
import Derived.Deep.Slices
import Derived.Maps.AppendAt
import Derived.Deep.RegionHeld3
import Derived.Test.YtibfamhhjnaeiaaDoorMg03
import Derived.Test.YtibfamhhjnaeiaaDoorMg01
import Derived.Test.YtibfamhhjnaeiaaDoorMg02
/-
  How a place that came in by value reads; a struct's fields. No conditions.
-/
namespace Go.Proofs.YtibfamhhjnaeiaaDoor.Sha
open Go Go.ChangeShapes Go.WideShapes Go.ChangeAt Go.RowKit
/-- A struct's fields, each read. -/
theorem struct_field {H : Type} {enc : TypeId × Value → H} {P : Program} {W : World} {fuel : Nat} {T : TypeId} {cs : List Value} {x : DataW H × List MemPlace} (hu : P.underlying T = some (.struct (P.fieldsOf T)))
    (hf : DataW.trod enc P W 0 (fun _ => true) true fuel T cs = some x) {names : List (String × TypeId × Nat)} (hm : (P.fieldsOf T).toList.map (fun f => (f.name, f.type, f.offset)) = names) :
    cs.length = P.cellsOf T ∧ ∃ m : Nat, ∀ (i : Nat) (n : String) (ty : TypeId) (off : Nat), names[i]? = some (n, ty, off) → ∃ y, DataW.trod enc P W 0 (fun _ => true) true m ty ((cs.drop off).take (P.cellsOf ty)) = some y := by
  obtain ⟨xs, m, _, _, hlen, hxl, hel⟩ := DataW.trod_struct hu hf
  refine ⟨hlen, m, fun i n ty off hi => ?_⟩
  rw [← hm, List.getElem?_map] at hi
  obtain ⟨f, hf1, hf2⟩ := Option.map_eq_some_iff.1 hi
  simp only [Prod.mk.injEq] at hf2
  obtain ⟨_, h2, h3⟩ := hf2
  have hil : i < (P.fieldsOf T).size := by have := (List.getElem?_eq_some_iff.1 hf1).1; simpa using this
  have g := hel i f (by rw [← Array.getElem?_toList]; exact hf1)
  rw [h2, h3, List.getElem?_eq_getElem (by omega)] at g
  exact ⟨_, g⟩
theorem num32_cells {H : Type} {enc : TypeId × Value → H} {W : World} {fuel : Nat} {cs : List Value} {x : DataW H × List MemPlace} (hf : DataW.trod enc Tryd.prog W 0 (fun _ => true) true fuel 26 cs = some x) :
    ∃ n : Nat, n ≤ 4294967295 ∧ cs = [nV n] := by
  obtain ⟨z, hz, _, hw⟩ := DataW.trod_int Tryd.underlying26 hf
  have hbd := bounds_u32 hw
  exact ⟨z.toNat, by omega, by rw [hz, nV, Int.toNat_of_nonneg (by omega)]⟩
set_option maxRecDepth 100000 in
/-- A place's cells. -/
theorem pt_cells {H : Type} {enc : TypeId × Value → H} {W : World} {fuel : Nat} {cs : List Value} {x : DataW H × List MemPlace} (hf : DataW.trod enc Tryd.prog W 0 (fun _ => true) true fuel 28 cs = some x) :
    ∃ (bs : List UInt8) (n : Nat), (bs.length = 32 ∧ n ≤ 4294967295) ∧ cs = ptL bs n := by
  have c24 : Tryd.prog.cellsOf 25 = 32 := by kernel_rfl
  have c25 : Tryd.prog.cellsOf 26 = 1 := by kernel_rfl
  have c27 : Tryd.prog.cellsOf 28 = 33 := by kernel_rfl
  obtain ⟨hlen, m, hel⟩ := struct_field pt_under hf pt_fields
  rw [c27] at hlen
  obtain ⟨y0, g0⟩ := hel 0 _ _ _ rfl
  obtain ⟨y1, g1⟩ := hel 1 _ _ _ rfl
  rw [c24, List.drop_zero] at g0
  rw [c25] at g1
  obtain ⟨bs, hb, hcs⟩ := hash_cells g0
  obtain ⟨n, hn, hcn⟩ := num32_cells g1
  rw [List.take_of_length_le (by rw [List.length_drop]; omega)] at hcn
  exact ⟨bs, n, ⟨hb, hn⟩, by rw [ptL, ← hcs, ← hcn, List.take_append_drop]⟩
set_option maxRecDepth 100000 in
/-- A place by value. -/
theorem point_in {H : Type} {enc : TypeId × Value → H} {W : World} {base : Nat} {v : Value} {d : DataW H} {p : List MemPlace} (hok : Value.okWide Tryd.prog W .any base 28 v) (h : DataW.Trod enc Tryd.prog W 0 (fun _ => true) true 28 v d p) :
    ∃ (bs : List UInt8) (n : Nat), (bs.length = 32 ∧ n ≤ 4294967295) ∧ v = .agg (ptL bs n).toArray := by
  simp only [Value.okWide, pt_under] at hok
  obtain ⟨cs, rfl, _, _⟩ := hok
  obtain ⟨fuel, hf⟩ := h
  have hcells : (Value.agg cs).cells.toList = cs.toList := rfl
  rw [hcells] at hf
  obtain ⟨bs, n, hb, hcs⟩ := pt_cells hf
  exact ⟨bs, n, hb, by rw [← hcs, Array.toArray_toList]⟩
end Go.Proofs.YtibfamhhjnaeiaaDoor.Sha

/-
  A transaction as the model has it: inputs of 35 cells, outputs of 33, rows of them behind slices; what stands in memory keeps standing where only new memory turns. No conditions.
-/
namespace Go.Proofs.YtibfamhhjnaeiaaDoor.Sha
open Go Go.RowKit
structure TIn where
  h : List UInt8
  n : Nat
  key : List UInt8
  seq : Nat
structure TOut where
  val : Nat
  lock : List UInt8
structure TTx where
  ver : Nat
  ins : List TIn
  outs : List TOut
  time : Nat
/-- A number of 64 bits as a cell. -/
def uV (n : Nat) : Value := .int .u64 (n : Int)
/-- An input's cells. -/
def inL (x : TIn) (kv : Value) : List Value := ptL x.h x.n ++ [kv, nV x.seq]
/-- An output's cells. -/
def outL (y : TOut) : List Value := uV y.val :: y.lock.map bV
theorem inL_length (x : TIn) (kv : Value) (h : x.h.length = 32) : (inL x kv).length = 35 := by simp [inL, ptL, h]
theorem outL_length (y : TOut) (h : y.lock.length = 32) : (outL y).length = 33 := by simp [outL, h]
/-- A key as a slice. -/
def KeyAt (w : World) (kv : Value) (key : List UInt8) : Prop := SrcB w kv key ∧ ∃ sp cap, kv = .slice sp key.length cap
theorem KeyAt.below {w w' : World} {kv : Value} {key : List UInt8} (h : KeyAt w kv key) (hb : Below w.heap.size w w') : KeyAt w' kv key := ⟨h.1.below hb, h.2⟩
/-- What may be of an input. -/
def InOk (x : TIn) : Prop := x.h.length = 32 ∧ x.n ≤ 4294967295 ∧ x.seq ≤ 4294967295
def OutOk (y : TOut) : Prop := y.lock.length = 32 ∧ y.val ≤ 18446744073709551615
/-- An input stands in block b from o on. -/
def InAt (w : World) (b o : Nat) (x : TIn) : Prop := InOk x ∧ ∃ kv, KeyAt w kv x.key ∧ w.rangeAt b o (inL x kv)
def OutAt (w : World) (b o : Nat) (y : TOut) : Prop := OutOk y ∧ w.rangeAt b o (outL y)
theorem range_below {w w' : World} {b o : Nat} {cs : List Value} (h : w.rangeAt b o cs) (hb : Below w.heap.size w w') : w'.rangeAt b o cs := fun j v hj => by
  have h1 := h j v hj
  rw [hb.cell (p := ⟨b, o + j, none⟩) (World.block_lt_of_cell? w _ h1)]
  exact h1
theorem InAt.below {w w' : World} {b o : Nat} {x : TIn} (h : InAt w b o x) (hb : Below w.heap.size w w') : InAt w' b o x := by
  obtain ⟨h0, kv, h1, h2⟩ := h
  exact ⟨h0, kv, h1.below hb, range_below h2 hb⟩
theorem OutAt.below {w w' : World} {b o : Nat} {y : TOut} (h : OutAt w b o y) (hb : Below w.heap.size w w') : OutAt w' b o y := ⟨h.1, range_below h.2 hb⟩
/-- A row of inputs behind a slice. -/
def InsAt (w : World) (v : Value) (l : List TIn) : Prop :=
  ∃ sp cap, v = .slice sp l.length cap ∧ l.length ≤ cap ∧ (0 < l.length → ∃ b o, sp = some ⟨b, o, none⟩ ∧ ∀ i x, l[i]? = some x → InAt w b (o + i * 35) x)
def OutsAt (w : World) (v : Value) (l : List TOut) : Prop :=
  ∃ sp cap, v = .slice sp l.length cap ∧ l.length ≤ cap ∧ (0 < l.length → ∃ b o, sp = some ⟨b, o, none⟩ ∧ ∀ i x, l[i]? = some x → OutAt w b (o + i * 33) x)
theorem InsAt.below {w w' : World} {v : Value} {l : List TIn} (h : InsAt w v l) (hb : Below w.heap.size w w') : InsAt w' v l := by
  obtain ⟨sp, cap, h1, h2, h3⟩ := h
  refine ⟨sp, cap, h1, h2, fun h0 => ?_⟩
  obtain ⟨b, o, h4, h5⟩ := h3 h0
  exact ⟨b, o, h4, fun i x hx => (h5 i x hx).below hb⟩
theorem OutsAt.below {w w' : World} {v : Value} {l : List TOut} (h : OutsAt w v l) (hb : Below w.heap.size w w') : OutsAt w' v l := by
  obtain ⟨sp, cap, h1, h2, h3⟩ := h
  refine ⟨sp, cap, h1, h2, fun h0 => ?_⟩
  obtain ⟨b, o, h4, h5⟩ := h3 h0
  exact ⟨b, o, h4, fun i x hx => (h5 i x hx).below hb⟩
/-- A transaction's cells. -/
def txL (t : TTx) (iv ov : Value) : List Value := [nV t.ver, iv, ov, nV t.time]
def TxOk (t : TTx) : Prop := t.ver ≤ 4294967295 ∧ t.time ≤ 4294967295
/-- A transaction by value. -/
def TxAt (w : World) (v : Value) (t : TTx) : Prop := TxOk t ∧ ∃ iv ov, v = .agg (txL t iv ov).toArray ∧ InsAt w iv t.ins ∧ OutsAt w ov t.outs
theorem TxAt.below {w w' : World} {v : Value} {t : TTx} (h : TxAt w v t) (hb : Below w.heap.size w w') : TxAt w' v t := by
  obtain ⟨h0, iv, ov, h1, h2, h3⟩ := h
  exact ⟨h0, iv, ov, h1, h2.below hb, h3.below hb⟩
/-- What of an input lies where. -/
theorem in_hash {w : World} {b o : Nat} {x : TIn} {kv : Value} (h : w.rangeAt b o (inL x kv)) : w.rangeAt b o (x.h.map bV) := fun j v hj => h j v (by
  rw [inL, ptL, List.append_assoc, List.getElem?_append_left (List.getElem?_eq_some_iff.1 hj).1]
  exact hj)
theorem in_pt {w : World} {b o : Nat} {x : TIn} {kv : Value} (h : w.rangeAt b o (inL x kv)) : w.rangeAt b o (ptL x.h x.n) := fun j v hj => h j v (by
  rw [inL, List.getElem?_append_left (List.getElem?_eq_some_iff.1 hj).1]
  exact hj)
theorem in_num {w : World} {b o : Nat} {x : TIn} {kv : Value} (hx : x.h.length = 32) (h : w.rangeAt b o (inL x kv)) : w.cell? ⟨b, o + 32, none⟩ = some (.int .u32 (x.n : Int)) := h 32 _ (by
  rw [inL, List.getElem?_append_left (by simp [ptL, hx]), ptL, List.getElem?_append_right (by simp [hx])]
  simp [hx, nV])
theorem in_key {w : World} {b o : Nat} {x : TIn} {kv : Value} (hx : x.h.length = 32) (h : w.rangeAt b o (inL x kv)) : w.cell? ⟨b, o + 33, none⟩ = some kv := h 33 _ (by
  rw [inL, List.getElem?_append_right (by simp [ptL, hx])]
  simp [ptL, hx])
theorem in_seq {w : World} {b o : Nat} {x : TIn} {kv : Value} (hx : x.h.length = 32) (h : w.rangeAt b o (inL x kv)) : w.cell? ⟨b, o + 34, none⟩ = some (.int .u32 (x.seq : Int)) := h 34 _ (by
  rw [inL, List.getElem?_append_right (by simp [ptL, hx])]
  simp [ptL, hx, nV])
theorem out_val {w : World} {b o : Nat} {y : TOut} (h : w.rangeAt b o (outL y)) : w.cell? ⟨b, o, none⟩ = some (.int .u64 (y.val : Int)) := h 0 _ rfl
theorem out_lock {w : World} {b o : Nat} {y : TOut} (h : w.rangeAt b o (outL y)) : w.rangeAt b (o + 1) (y.lock.map bV) := fun j v hj => by
  have := h (j + 1) v (by rw [outL, List.getElem?_cons_succ]; exact hj)
  rw [show o + 1 + j = o + (j + 1) by omega]
  exact this
/-- What of a boxed transaction lies where. -/
theorem tx_cells {w : World} {g : Nat} {t : TTx} {iv ov : Value} {T : TypeId} {fr : Nat × Nat} (h : w.heap[g]? = some (.cells (txL t iv ov).toArray T fr)) :
    w.cell? ⟨g, 0, none⟩ = some (.int .u32 (t.ver : Int)) ∧ w.cell? ⟨g, 1, none⟩ = some iv ∧ w.cell? ⟨g, 2, none⟩ = some ov ∧ w.cell? ⟨g, 3, none⟩ = some (.int .u32 (t.time : Int)) :=
  ⟨by rw [cell_of_row _ _ _ _ _ _ h]; rfl, by rw [cell_of_row _ _ _ _ _ _ h]; rfl, by rw [cell_of_row _ _ _ _ _ _ h]; rfl, by rw [cell_of_row _ _ _ _ _ _ h]; rfl⟩
end Go.Proofs.YtibfamhhjnaeiaaDoor.Sha

/-
  A transaction's bytes, as the chapter says: how many there are; two that have the same bytes are the same. What is amiss with one, in the chapter's order. No conditions beyond those that each states.
-/
namespace Go.Proofs.YtibfamhhjnaeiaaDoor.Sha
open Go Go.RowKit
def inB (x : TIn) : List UInt8 := x.h ++ leB x.n 4 ++ putL x.key.length ++ x.key ++ leB x.seq 4
def outB (y : TOut) : List UInt8 := leB y.val 8 ++ y.lock
def insB (l : List TIn) : List UInt8 := l.flatMap inB
def outsB (l : List TOut) : List UInt8 := l.flatMap outB
/-- A transaction's bytes. -/
def txB (t : TTx) : List UInt8 := leB t.ver 4 ++ putL t.ins.length ++ insB t.ins ++ putL t.outs.length ++ outsB t.outs ++ leB t.time 4
def InsOk (l : List TIn) : Prop := ∀ x ∈ l, InOk x
def OutsOk (l : List TOut) : Prop := ∀ y ∈ l, OutOk y
theorem outB_length (y : TOut) (h : OutOk y) : (outB y).length = 40 := by simp [outB, leB_length, h.1]
theorem inB_length (x : TIn) (h : InOk x) : (inB x).length = 40 + lenN x.key.length + x.key.length := by simp [inB, leB_length, putL_length, h.1]; omega
theorem outsB_length : ∀ (l : List TOut), OutsOk l → (outsB l).length = 40 * l.length
  | [], _ => rfl
  | y :: l, h => by
    have ih := outsB_length l (fun z hz => h z (List.mem_cons_of_mem _ hz))
    simp only [outsB] at ih
    simp only [outsB, List.flatMap_cons, List.length_append, ih, outB_length y (h y List.mem_cons_self), List.length_cons]
    omega
theorem lenN_small {n : Nat} (h : n < 253) : lenN n = 1 := by unfold lenN; rw [if_pos h]
theorem leB_inj {n m k : Nat} (hn : n < 256 ^ k) (hm : m < 256 ^ k) (h : leB n k = leB m k) : n = m := by
  rw [← leN_leB_of hn, h, leN_leB_of hm]
/-- Bytes in front that tell their own length. -/
theorem putL_cut {n m : Nat} {r s : List UInt8} (hn : n ≤ 18446744073709551615) (hm : m ≤ 18446744073709551615) (h : putL n ++ r = putL m ++ s) : n = m ∧ r = s := by
  rcases lenN_eq n with ⟨a, b⟩ | ⟨a, b⟩ | ⟨a, b⟩ | ⟨a, b⟩ <;> rcases lenN_eq m with ⟨c, d⟩ | ⟨c, d⟩ | ⟨c, d⟩ | ⟨c, d⟩ <;> rw [b, d] at h
  · have hn2 : n < 253 := by unfold lenN at a; split at a <;> (try split at a) <;> (try split at a) <;> omega
    have hm2 : m < 253 := by unfold lenN at c; split at c <;> (try split at c) <;> (try split at c) <;> omega
    simp only [List.cons_append, List.nil_append, List.cons.injEq] at h
    refine ⟨?_, h.2⟩
    have h1 := congrArg UInt8.toNat h.1
    rw [UInt8.toNat_ofNat', UInt8.toNat_ofNat'] at h1
    omega
  all_goals first
    | (have hn2 : n < 253 := by unfold lenN at a; split at a <;> (try split at a) <;> (try split at a) <;> omega
       simp only [List.cons_append, List.nil_append, List.cons.injEq] at h
       have h1 := congrArg UInt8.toNat h.1
       rw [UInt8.toNat_ofNat'] at h1
       simp at h1
       omega)
    | (have hm2 : m < 253 := by unfold lenN at c; split at c <;> (try split at c) <;> (try split at c) <;> omega
       simp only [List.cons_append, List.nil_append, List.cons.injEq] at h
       have h1 := congrArg UInt8.toNat h.1
       rw [UInt8.toNat_ofNat'] at h1
       simp at h1
       omega)
    | (simp only [List.cons_append, List.cons.injEq] at h
       obtain ⟨h1, h2⟩ := h
       obtain ⟨h3, h4⟩ := List.append_inj h2 (by simp [leB_length])
       refine ⟨leB_inj ?_ ?_ h3, h4⟩ <;> (unfold lenN at a c; split at a <;> (try split at a) <;> (try split at a) <;> split at c <;> (try split at c) <;> (try split at c) <;> omega))
    | (exfalso
       simp only [List.cons_append, List.cons.injEq] at h
       have h1 := congrArg UInt8.toNat h.1
       revert h1
       decide)
theorem inB_cut {x y : TIn} {r s : List UInt8} (hx : InOk x) (hy : InOk y) (hkx : x.key.length ≤ 18446744073709551615) (hky : y.key.length ≤ 18446744073709551615) (h : inB x ++ r = inB y ++ s) : x = y ∧ r = s := by
  obtain ⟨hx1, hx2, hx3⟩ := hx
  obtain ⟨hy1, hy2, hy3⟩ := hy
  simp only [inB, List.append_assoc] at h
  obtain ⟨e1, h⟩ := List.append_inj h (by rw [hx1, hy1])
  obtain ⟨e2, h⟩ := List.append_inj h (by simp [leB_length])
  obtain ⟨e3, h⟩ := putL_cut hkx hky h
  obtain ⟨e4, h⟩ := List.append_inj h e3
  obtain ⟨e5, h⟩ := List.append_inj h (by simp [leB_length])
  have e6 := leB_inj (by omega) (by omega) e2
  have e7 := leB_inj (by omega) (by omega) e5
  obtain ⟨a, b, c, d⟩ := x
  obtain ⟨a', b', c', d'⟩ := y
  simp only at e1 e4 e6 e7
  subst e1 e4 e6 e7
  exact ⟨rfl, List.append_cancel_left h⟩
theorem outB_cut {x y : TOut} {r s : List UInt8} (hx : OutOk x) (hy : OutOk y) (h : outB x ++ r = outB y ++ s) : x = y ∧ r = s := by
  obtain ⟨hx1, hx2⟩ := hx
  obtain ⟨hy1, hy2⟩ := hy
  simp only [outB, List.append_assoc] at h
  obtain ⟨e1, h⟩ := List.append_inj h (by simp [leB_length])
  obtain ⟨e2, h⟩ := List.append_inj h (by rw [hx1, hy1])
  have e3 := leB_inj (by omega) (by omega) e1
  obtain ⟨a, b⟩ := x
  obtain ⟨a', b'⟩ := y
  simp only at e2 e3
  subst e2 e3
  exact ⟨rfl, List.append_cancel_left h⟩
def KeysLe (l : List TIn) (n : Nat) : Prop := ∀ x ∈ l, x.key.length ≤ n
theorem insB_cut : ∀ (l m : List TIn) {r s : List UInt8}, l.length = m.length → InsOk l → InsOk m → KeysLe l 18446744073709551615 → KeysLe m 18446744073709551615 → insB l ++ r = insB m ++ s → l = m ∧ r = s
  | [], [], r, s, _, _, _, _, _, h => ⟨rfl, by simpa [insB] using h⟩
  | x :: l, y :: m, r, s, hl, h1, h2, k1, k2, h => by
    simp only [insB, List.flatMap_cons, List.append_assoc] at h
    obtain ⟨e1, h⟩ := inB_cut (h1 x List.mem_cons_self) (h2 y List.mem_cons_self) (k1 x List.mem_cons_self) (k2 y List.mem_cons_self) h
    obtain ⟨e2, h⟩ := insB_cut l m (by simpa using hl) (fun z hz => h1 z (List.mem_cons_of_mem _ hz)) (fun z hz => h2 z (List.mem_cons_of_mem _ hz)) (fun z hz => k1 z (List.mem_cons_of_mem _ hz)) (fun z hz => k2 z (List.mem_cons_of_mem _ hz)) h
    exact ⟨by rw [e1, e2], h⟩
theorem outsB_cut : ∀ (l m : List TOut) {r s : List UInt8}, l.length = m.length → OutsOk l → OutsOk m → outsB l ++ r = outsB m ++ s → l = m ∧ r = s
  | [], [], r, s, _, _, _, h => ⟨rfl, by simpa [outsB] using h⟩
  | x :: l, y :: m, r, s, hl, h1, h2, h => by
    simp only [outsB, List.flatMap_cons, List.append_assoc] at h
    obtain ⟨e1, h⟩ := outB_cut (h1 x List.mem_cons_self) (h2 y List.mem_cons_self) h
    obtain ⟨e2, h⟩ := outsB_cut l m (by simpa using hl) (fun z hz => h1 z (List.mem_cons_of_mem _ hz)) (fun z hz => h2 z (List.mem_cons_of_mem _ hz)) h
    exact ⟨by rw [e1, e2], h⟩
/-- All that may be of a transaction that is small enough to be in memory. -/
def TxFit (t : TTx) : Prop := TxOk t ∧ InsOk t.ins ∧ OutsOk t.outs ∧ KeysLe t.ins 18446744073709551615 ∧ t.ins.length ≤ 18446744073709551615 ∧ t.outs.length ≤ 18446744073709551615
/-- Two with the same bytes, whatever stands behind, are one. -/
theorem txB_cut {t u : TTx} {r s : List UInt8} (ht : TxFit t) (hu : TxFit u) (h : txB t ++ r = txB u ++ s) : t = u ∧ r = s := by
  obtain ⟨⟨a1, a2⟩, a3, a4, a5, a6, a7⟩ := ht
  obtain ⟨⟨b1, b2⟩, b3, b4, b5, b6, b7⟩ := hu
  simp only [txB, List.append_assoc] at h
  obtain ⟨e1, h⟩ := List.append_inj h (by simp [leB_length])
  obtain ⟨e2, h⟩ := putL_cut a6 b6 h
  obtain ⟨e3, h⟩ := insB_cut _ _ e2 a3 b3 a5 b5 h
  obtain ⟨e4, h⟩ := putL_cut a7 b7 h
  obtain ⟨e5, h⟩ := outsB_cut _ _ e4 a4 b4 h
  obtain ⟨e6, h⟩ := List.append_inj h (by simp [leB_length])
  have e7 := leB_inj (by omega) (by omega) e1
  have e8 := leB_inj (by omega) (by omega) e6
  obtain ⟨a, b, c, d⟩ := t
  obtain ⟨a', b', c', d'⟩ := u
  simp only at e3 e5 e7 e8
  subst e3 e5 e7 e8
  exact ⟨rfl, List.append_cancel_left h⟩
theorem txB_inj {t u : TTx} (ht : TxFit t) (hu : TxFit u) (h : txB t = txB u) : t = u := (txB_cut (r := []) (s := []) ht hu (by rw [h])).1
/-- A transaction that makes coins: one input, of none. -/
def isNullIn (x : TIn) : Bool := decide (x.h = List.replicate 32 0) && decide (x.n = 4294967295)
def baseB (t : TTx) : Bool := match t.ins with
  | [x] => isNullIn x
  | _ => false
def samePtIn (x y : TIn) : Bool := decide (x.h = y.h) && decide (x.n = y.n)
/-- Two inputs with one place? -/
def twiceB : List TIn → Bool
  | [] => false
  | x :: l => l.any (samePtIn x) || twiceB l
/-- What is amiss first: the error's number, 0 if nothing is. -/
def checkN (t : TTx) : Nat :=
  if t.ins.length = 0 ∨ 50 < t.ins.length ∨ t.outs.length = 0 ∨ 50 < t.outs.length then 104
  else if 4000 < (txB t).length then 103
  else if t.ins.any (fun x => decide (80 < x.key.length)) then 114
  else if sumIs (t.outs.map (·.val)) = false then 105
  else if twiceB t.ins then 106
  else if baseB t then (if t.ins.any (fun x => decide (x.key.length < 4)) then 107 else 0)
  else if t.ins.any isNullIn then 107 else 0
end Go.Proofs.YtibfamhhjnaeiaaDoor.Sha

/-
  How a transaction that came in by value reads. No conditions.
-/
namespace Go.Proofs.YtibfamhhjnaeiaaDoor.Sha
open Go Go.ChangeShapes Go.WideShapes Go.ChangeAt Go.RowKit Go.Deep
theorem in_fields : (Tryd.prog.fieldsOf 52).toList.map (fun f => (f.name, f.type, f.offset)) = [("From", 28, 0), ("Key", 35, 33), ("Seq", 26, 34)] := by kernel_rfl
theorem in_under : Tryd.prog.underlying 52 = some (.struct (Tryd.prog.fieldsOf 52)) := by kernel_rfl
theorem out_fields : (Tryd.prog.fieldsOf 55).toList.map (fun f => (f.name, f.type, f.offset)) = [("Value", 29, 0), ("Lock", 25, 1)] := by kernel_rfl
theorem out_under : Tryd.prog.underlying 55 = some (.struct (Tryd.prog.fieldsOf 55)) := by kernel_rfl
theorem tx_fields : (Tryd.prog.fieldsOf 58).toList.map (fun f => (f.name, f.type, f.offset)) = [("Version", 26, 0), ("Ins", 53, 1), ("Outs", 56, 2), ("Time", 26, 3)] := by kernel_rfl
theorem tx_under : Tryd.prog.underlying 58 = some (.struct (Tryd.prog.fieldsOf 58)) := by kernel_rfl
theorem key_cells {H : Type} {enc : TypeId × Value → H} {W : World} {fuel : Nat} {cs : List Value} {x : DataW H × List MemPlace} (hf : DataW.trod enc Tryd.prog W 0 (fun _ => true) true fuel 35 cs = some x) :
    ∃ kv key, cs = [kv] ∧ KeyAt W kv key ∧ key.length ≤ 9223372036854775807 := by
  rcases open_ints Tryd.underlying35 Tryd.underlying5 (by kernel_rfl) hf with ⟨hcs, _⟩ | ⟨a, l, c, zs, hcs, _, hl, hm, hz, _, hcell, hwz⟩
  · exact ⟨_, [], hcs, ⟨.inl ⟨_, _, rfl, rfl⟩, _, _, rfl⟩, by simp⟩
  · have hr : IsRow .u8 W (some a) l c zs := .inr ⟨a, rfl, hl, hm, by simpa using hz, hcell, hwz⟩
    obtain ⟨bs, hs⟩ := src_of_row hr
    have hlen := hs.le.1
    exact ⟨_, bs, hcs, ⟨hs, _, _, by rw [hlen]⟩, by have := hr.len; omega⟩
set_option maxRecDepth 100000 in
theorem in_cells {H : Type} {enc : TypeId × Value → H} {W : World} {fuel : Nat} {cs : List Value} {x : DataW H × List MemPlace} (hf : DataW.trod enc Tryd.prog W 0 (fun _ => true) true fuel 52 cs = some x) :
    ∃ (y : TIn) (kv : Value), InOk y ∧ KeyAt W kv y.key ∧ y.key.length ≤ 9223372036854775807 ∧ cs = inL y kv := by
  have c27 : Tryd.prog.cellsOf 28 = 33 := by kernel_rfl
  have c22 : Tryd.prog.cellsOf 35 = 1 := by kernel_rfl
  have c25 : Tryd.prog.cellsOf 26 = 1 := by kernel_rfl
  have c54 : Tryd.prog.cellsOf 52 = 35 := by kernel_rfl
  obtain ⟨hlen, m, hel⟩ := struct_field in_under hf in_fields
  rw [c54] at hlen
  obtain ⟨y0, g0⟩ := hel 0 _ _ _ rfl
  obtain ⟨y1, g1⟩ := hel 1 _ _ _ rfl
  obtain ⟨y2, g2⟩ := hel 2 _ _ _ rfl
  rw [c27, List.drop_zero] at g0
  rw [c22] at g1
  rw [c25] at g2
  obtain ⟨bs, n, ⟨hb, hn⟩, hp⟩ := pt_cells g0
  obtain ⟨kv, key, hk, hka, hkl⟩ := key_cells g1
  obtain ⟨s, hs, hsq⟩ := num32_cells g2
  rw [List.take_of_length_le (by rw [List.length_drop]; omega)] at hsq
  refine ⟨⟨bs, n, key, s⟩, kv, ⟨hb, hn, hs⟩, hka, hkl, ?_⟩
  have e1 : cs.drop 33 = [kv] ++ [nV s] := by
    rw [← List.take_append_drop 1 (cs.drop 33), hk, List.drop_drop, hsq]
  show cs = ptL bs n ++ [kv, nV s]
  rw [← hp, show [kv, nV s] = cs.drop 33 from e1.symm, List.take_append_drop]
set_option maxRecDepth 100000 in
theorem out_cells {H : Type} {enc : TypeId × Value → H} {W : World} {fuel : Nat} {cs : List Value} {x : DataW H × List MemPlace} (hf : DataW.trod enc Tryd.prog W 0 (fun _ => true) true fuel 55 cs = some x) :
    ∃ y : TOut, OutOk y ∧ cs = outL y := by
  have c24 : Tryd.prog.cellsOf 25 = 32 := by kernel_rfl
  have c55 : Tryd.prog.cellsOf 29 = 1 := by kernel_rfl
  have c57 : Tryd.prog.cellsOf 55 = 33 := by kernel_rfl
  obtain ⟨hlen, m, hel⟩ := struct_field out_under hf out_fields
  rw [c57] at hlen
  obtain ⟨y0, g0⟩ := hel 0 _ _ _ rfl
  obtain ⟨y1, g1⟩ := hel 1 _ _ _ rfl
  rw [c55, List.drop_zero] at g0
  rw [c24] at g1
  obtain ⟨z, hz, _, hw⟩ := DataW.trod_int Tryd.underlying29 g0
  have hbd := bounds_u64 hw
  obtain ⟨bs, hb, hcs⟩ := hash_cells g1
  rw [List.take_of_length_le (by rw [List.length_drop]; omega)] at hcs
  refine ⟨⟨z.toNat, bs⟩, ⟨hb, by show z.toNat ≤ _; omega⟩, ?_⟩
  show cs = uV z.toNat :: bs.map bV
  rw [← hcs, uV, Int.toNat_of_nonneg (by omega), ← List.take_append_drop 1 cs, hz]
  rfl
/-- Many, each of which is somewhere: a list of them. -/
theorem list_of_each {α : Type} {p : Nat → α → Prop} : ∀ n, (∀ i, i < n → ∃ x, p i x) → ∃ l : List α, l.length = n ∧ ∀ i x, l[i]? = some x → p i x
  | 0, _ => ⟨[], rfl, fun i x h => by simp at h⟩
  | n + 1, h => by
    obtain ⟨l, hl, hp⟩ := list_of_each n (fun i hi => h i (by omega))
    obtain ⟨x, hx⟩ := h n (by omega)
    refine ⟨l ++ [x], by simp [hl], fun i y hy => ?_⟩
    by_cases hi : i < n
    · exact hp i y (by rwa [List.getElem?_append_left (by omega)] at hy)
    · have hin : i = n := by
        have := (List.getElem?_eq_some_iff.1 hy).1
        simp [hl] at this
        omega
      subst hin
      rw [List.getElem?_append_right (by omega), hl] at hy
      simp at hy
      rw [← hy]
      exact hx
theorem range_of_cells {w : World} {a : Addr} {n : Nat} {cs : List Value} (h : w.cells? 0 a n = some cs) (hn : 0 < n) : ∃ b o, a = ⟨b, o, none⟩ ∧ w.rangeAt b o cs := by
  obtain ⟨_, hcl, hat⟩ := World.cells?_some h
  obtain ⟨b, o, spot⟩ := a
  have h0 := hat 0 hn
  have hspot : spot = none := by
    have hs : (cs[0]?) = some (cs[0]'(by omega)) := List.getElem?_eq_getElem _
    rw [hs] at h0
    simpa [Addr.add] using World.cell?_spot h0
  subst hspot
  refine ⟨b, o, rfl, fun j v hj => ?_⟩
  have hjn : j < n := by have := (List.getElem?_eq_some_iff.1 hj).1; omega
  rw [← Addr.add_mid, hat j hjn]
  exact hj
theorem ins_cells {H : Type} {enc : TypeId × Value → H} {W : World} {fuel : Nat} {cs : List Value} {x : DataW H × List MemPlace} (hf : DataW.trod enc Tryd.prog W 0 (fun _ => true) true fuel 53 cs = some x) :
    ∃ (iv : Value) (l : List TIn), cs = [iv] ∧ InsAt W iv l ∧ InsOk l ∧ KeysLe l 9223372036854775807 ∧ l.length ≤ 9223372036854775807 := by
  have c54 : Tryd.prog.cellsOf 52 = 35 := by kernel_rfl
  rcases open_slice Tryd.underlying53 hf with ⟨hcs, _⟩ | ⟨a, len, cap, m, n, D, Pl, hcs, hb, hl, hm, hmm, hx, hi⟩
  · exact ⟨_, [], hcs, ⟨_, _, rfl, by simp, fun h => by simp at h⟩, fun y hy => by simp at hy, fun y hy => by simp at hy, by simp⟩
  · have hmc : m = cap := by rw [hmm]; simp
    rw [c54] at hi
    have each : ∀ i, i < len → ∃ y : TIn, ∃ b o, a.add (i * 35) = ⟨b, o, none⟩ ∧ InAt W b o y ∧ y.key.length ≤ 9223372036854775807 := fun i him => by
      obtain ⟨cs', hc, ht⟩ := hi i (by omega)
      obtain ⟨y, kv, h1, h2, h3, h4⟩ := in_cells ht
      obtain ⟨b, o, hab, hr⟩ := range_of_cells hc (by omega)
      exact ⟨y, b, o, hab, ⟨h1, kv, h2, by rw [← h4]; exact hr⟩, h3⟩
    obtain ⟨l, hll, hp⟩ := list_of_each len each
    have hmem : ∀ y ∈ l, ∃ b o, InAt W b o y ∧ y.key.length ≤ 9223372036854775807 := fun y hy => by
      obtain ⟨i, hi2⟩ := List.getElem?_of_mem hy
      obtain ⟨b, o, _, h1, h2⟩ := hp i y hi2
      exact ⟨b, o, h1, h2⟩
    refine ⟨_, l, hcs, ⟨_, _, by rw [hll], by omega, fun h0 => ?_⟩, fun y hy => ?_, fun y hy => ?_, by unfold maxLen at hm; omega⟩
    · obtain ⟨x0, hx0⟩ : ∃ x0, l[0]? = some x0 := ⟨_, List.getElem?_eq_getElem h0⟩
      obtain ⟨b, o, hab, _⟩ := hp 0 x0 hx0
      obtain ⟨ab, ao, asp⟩ := a
      have hsp : asp = none := by
        have := congrArg Addr.spot hab
        simpa [Addr.add] using this
      subst hsp
      refine ⟨ab, ao, rfl, fun i y hy => ?_⟩
      obtain ⟨b', o', hab', h1, _⟩ := hp i y hy
      rw [Addr.add_mid] at hab'
      cases hab'
      exact h1
    · obtain ⟨b, o, h1, _⟩ := hmem y hy
      exact h1.1
    · obtain ⟨b, o, _, h2⟩ := hmem y hy
      exact h2
theorem outs_cells {H : Type} {enc : TypeId × Value → H} {W : World} {fuel : Nat} {cs : List Value} {x : DataW H × List MemPlace} (hf : DataW.trod enc Tryd.prog W 0 (fun _ => true) true fuel 56 cs = some x) :
    ∃ (ov : Value) (l : List TOut), cs = [ov] ∧ OutsAt W ov l ∧ OutsOk l ∧ l.length ≤ 9223372036854775807 := by
  have c57 : Tryd.prog.cellsOf 55 = 33 := by kernel_rfl
  rcases open_slice Tryd.underlying56 hf with ⟨hcs, _⟩ | ⟨a, len, cap, m, n, D, Pl, hcs, hb, hl, hm, hmm, hx, hi⟩
  · exact ⟨_, [], hcs, ⟨_, _, rfl, by simp, fun h => by simp at h⟩, fun y hy => by simp at hy, by simp⟩
  · have hmc : m = cap := by rw [hmm]; simp
    rw [c57] at hi
    have each : ∀ i, i < len → ∃ y : TOut, ∃ b o, a.add (i * 33) = ⟨b, o, none⟩ ∧ OutAt W b o y := fun i him => by
      obtain ⟨cs', hc, ht⟩ := hi i (by omega)
      obtain ⟨y, h1, h4⟩ := out_cells ht
      obtain ⟨b, o, hab, hr⟩ := range_of_cells hc (by omega)
      exact ⟨y, b, o, hab, h1, by rw [← h4]; exact hr⟩
    obtain ⟨l, hll, hp⟩ := list_of_each len each
    refine ⟨_, l, hcs, ⟨_, _, by rw [hll], by omega, fun h0 => ?_⟩, fun y hy => ?_, by unfold maxLen at hm; omega⟩
    · obtain ⟨x0, hx0⟩ : ∃ x0, l[0]? = some x0 := ⟨_, List.getElem?_eq_getElem h0⟩
      obtain ⟨b, o, hab, _⟩ := hp 0 x0 hx0
      obtain ⟨ab, ao, asp⟩ := a
      have hsp : asp = none := by
        have := congrArg Addr.spot hab
        simpa [Addr.add] using this
      subst hsp
      refine ⟨ab, ao, rfl, fun i y hy => ?_⟩
      obtain ⟨b', o', hab', h1⟩ := hp i y hy
      rw [Addr.add_mid] at hab'
      cases hab'
      exact h1
    · obtain ⟨i, hi2⟩ := List.getElem?_of_mem hy
      obtain ⟨b, o, _, h1⟩ := hp i y hi2
      exact h1.1
/-- All that is known of a transaction that came in. -/
def TxCame (t : TTx) : Prop := TxOk t ∧ InsOk t.ins ∧ OutsOk t.outs ∧ KeysLe t.ins 9223372036854775807 ∧ t.ins.length ≤ 9223372036854775807 ∧ t.outs.length ≤ 9223372036854775807
set_option maxRecDepth 100000 in
/-- A transaction by value. -/
theorem tx_in {H : Type} {enc : TypeId × Value → H} {W : World} {base : Nat} {v : Value} {d : DataW H} {p : List MemPlace} (hok : Value.okWide Tryd.prog W .any base 58 v) (h : DataW.Trod enc Tryd.prog W 0 (fun _ => true) true 58 v d p) :
    ∃ t : TTx, TxAt W v t ∧ TxCame t := by
  have c25 : Tryd.prog.cellsOf 26 = 1 := by kernel_rfl
  have c23 : Tryd.prog.cellsOf 53 = 1 := by kernel_rfl
  have c24 : Tryd.prog.cellsOf 56 = 1 := by kernel_rfl
  have c26 : Tryd.prog.cellsOf 58 = 4 := by kernel_rfl
  simp only [Value.okWide, tx_under] at hok
  obtain ⟨cs, rfl, _, _⟩ := hok
  obtain ⟨fuel, hf⟩ := h
  have hcells : (Value.agg cs).cells.toList = cs.toList := rfl
  rw [hcells] at hf
  obtain ⟨hlen, m, hel⟩ := struct_field tx_under hf tx_fields
  rw [c26] at hlen
  obtain ⟨y0, g0⟩ := hel 0 _ _ _ rfl
  obtain ⟨y1, g1⟩ := hel 1 _ _ _ rfl
  obtain ⟨y2, g2⟩ := hel 2 _ _ _ rfl
  obtain ⟨y3, g3⟩ := hel 3 _ _ _ rfl
  rw [c25] at g0 g3
  rw [c23] at g1
  rw [c24] at g2
  obtain ⟨ver, h0, e0⟩ := num32_cells g0
  obtain ⟨iv, il, e1, h1, h1a, h1b, h1c⟩ := ins_cells g1
  obtain ⟨ov, ol, e2, h2, h2a, h2b⟩ := outs_cells g2
  obtain ⟨tm, h3, e3⟩ := num32_cells g3
  obtain ⟨l, hl⟩ : ∃ l, l = cs.toList := ⟨_, rfl⟩
  rw [← hl] at hlen e0 e1 e2 e3
  match l, hlen with
  | [a, b, c, e], _ =>
    simp at e0 e1 e2 e3
    subst e0 e1 e2 e3
    refine ⟨⟨ver, il, ol, tm⟩, ⟨⟨h0, h3⟩, _, _, ?_, h1, h2⟩, ⟨h0, h3⟩, h1a, h2a, h1b, h1c, h2b⟩
    congr 1
    apply Array.toList_inj.1
    rw [← hl]
    rfl
end Go.Proofs.YtibfamhhjnaeiaaDoor.Sha

/-
  The statements' own Fault, Same and Is: an error of package api, or none, is told by its number. Conditions: the errors are there, each its own.
-/
namespace Go.Proofs.YtibfamhhjnaeiaaDoor.Sha
open Go Go.RowKit
/-- A fault with nothing around it. -/
def fC (c : Int) : List Value := [.int .i64 c, .bool false, .int .i64 0, .bool false, .int .i64 0]
/-- The number of an error. -/
def numE : Nat → Int
  | 0 => 0
  | q + 1 => ((101 + q : Nat) : Int)
set_option maxRecDepth 100000 in
theorem none_any (w : World) : Calls Tryd.prog 52 #[] w fun e w' => e = .returned (.agg (fC 0).toArray) ∧ Below w.heap.size w w' := by
  go_enter Tryd.func52, Tryd.ntmps52
  go_wp2
  refine bodyPost_ret (v := .agg (fC 0).toArray) (by simp [results, Tryd.results52, go_sem]; rfl) rfl ⟨rfl, ?_⟩
  exact (Below.refl _ _).alloc (Nat.le_refl _) _
set_option maxRecDepth 100000 in
theorem bare_any (c : Int) (w : World) : Calls Tryd.prog 23 #[.int .i64 c] w fun e w' => e = .returned (.agg (fC c).toArray) ∧ Below w.heap.size w w' := by
  go_enter Tryd.func23, Tryd.ntmps23
  go_wp2
  refine bodyPost_ret (v := .agg (fC c).toArray) (by simp [results, Tryd.results23, go_sem]; rfl) rfl ⟨rfl, ?_⟩
  exact (Below.refl _ _).alloc (Nat.le_refl _) _
theorem fault_all (c : Int) : (fC c).toArray.all (·.oneCell') = true := by
  rw [Array.all_eq_true_iff_forall_mem]
  intro x hx
  simp [fC] at hx
  rcases hx with rfl | rfl | rfl | rfl | rfl <;> rfl
set_option maxRecDepth 100000 in
theorem fault_nil (w : World) : Calls Tryd.prog 42 #[.nilIface] w fun e w' => e = .returned (.agg (fC 0).toArray) ∧ Below w.heap.size w w' := by
  go_enter Tryd.func42, Tryd.ntmps42
  go_wp2_with fail
  refine (none_any _).mono ?_
  rintro e w1 ⟨rfl, hb1⟩
  obtain ⟨hb2, hr, hlt⟩ := twice_setup hb1
  have HB1 := Lib.hid hb2
  have HR := Lib.hid hr
  clear hb1 hb2 hr
  go_wp2_with ((with_reducible show wpList _ _ _ _ _ _); refine wpList_store_row rfl 71 (.tmp 2) (.tmp 9) rfl w.heap.size (fC 0).toArray rfl rfl 71 _ HR.out (by kernel_rfl) rfl (fault_all _) ?_; go_frame)
  refine bodyPost_ret (results_cell_row rfl _ _ w.heap.size 71 (fC 0).toArray (0, 0) _ rfl (setRow_heap _ _ _ _ _ _ HR.out) Tryd.underlying71 rfl (by kernel_rfl)) rfl ⟨rfl, below_setRow HB1.out (Nat.le_refl _) _⟩
set_option maxRecDepth 100000 in
theorem fault_err (E : Nat → Addr) (q : Nat) (w : World) (hE : Errs w E) (hq : q < 25) : Calls Tryd.prog 42 #[errV E (q + 1)] w fun e w' => e = .returned (.agg (fC ((101 + q : Nat) : Int)).toArray) ∧ Below w.heap.size w w' := by
  obtain ⟨kk, hkk⟩ : ∃ kk : Int, kk = ((101 + q : Nat) : Int) := ⟨_, rfl⟩
  rw [← hkk]
  have hta : ∀ W, (Instr.typeAssert (.iface 142 (.pointer (some (E q)))) 38 78 true).run Tryd.prog W = .ok (.tuple #[.pointer none, .bool false]) W := fun W => by kernel_rfl
  have hb0 : ∀ o, Below w.heap.size w (w.alloc o) := fun o => (Below.refl _ _).alloc (Nat.le_refl _) o
  have HS : Hid (∀ o, Calls Tryd.prog 53 #[errV E (q + 1)] (w.alloc o) fun e w' => e = .returned (.int .i64 kk) ∧ Below (w.alloc o).heap.size (w.alloc o) w') := fun o => sentinel_any E q kk hkk _ (hE.below (hb0 o)) hq
  clear hb0 hkk hE
  show Calls Tryd.prog 42 #[.iface 142 (.pointer (some (E q)))] w _
  go_enter Tryd.func42, Tryd.ntmps42
  go_wp2_with fail
  refine (HS.out _).mono ?_
  rintro e w1 ⟨rfl, hb1⟩
  obtain ⟨hb2, hr, hlt⟩ := twice_setup hb1
  have HB0 := Lib.hid hb2
  have HR0 := Lib.hid hr
  clear hb1 hb2 hr hta
  go_wp2_with fail
  refine (bare_any kk _).mono ?_
  rintro e w2 ⟨rfl, hb2⟩
  have HR := Lib.hid ((hb2.block _ hlt).trans HR0.out)
  have HB1 := Lib.hid (HB0.out.trans (hb2.mono HB0.out.size))
  clear hb2 HB0 HR0
  go_wp2_with ((with_reducible show wpList _ _ _ _ _ _); refine wpList_store_row rfl 71 (.tmp 2) (.tmp 19) rfl w.heap.size (fC kk).toArray rfl rfl 71 _ HR.out (by kernel_rfl) rfl (fault_all _) ?_; go_frame)
  refine bodyPost_ret (results_cell_row rfl _ _ w.heap.size 71 (fC kk).toArray (0, 0) _ rfl (setRow_heap _ _ _ _ _ _ HR.out) Tryd.underlying71 rfl (by kernel_rfl)) rfl ⟨rfl, below_setRow HB1.out (Nat.le_refl _) _⟩
set_option maxRecDepth 100000 in
theorem samefault_any (a c : Int) (b : Bool) (hb : b = (a == c)) (w : World) : Calls Tryd.prog 41 #[.agg (fC a).toArray, .agg (fC c).toArray] w fun e w' => e = .returned (.bool b) ∧ Below w.heap.size w w' := by
  show Calls Tryd.prog 41 #[.agg #[.int .i64 a, .bool false, .int .i64 0, .bool false, .int .i64 0], .agg #[.int .i64 c, .bool false, .int .i64 0, .bool false, .int .i64 0]] w _
  cases b with
  | true =>
    have hq : (a == c) = true := hb.symm
    clear hb
    go_enter Tryd.func41, Tryd.ntmps41
    go_wp2
    go_ret
    exact ⟨rfl, ((Below.refl _ _).alloc (Nat.le_refl _) _).alloc (by simp) _⟩
  | false =>
    have hq : (a == c) = false := hb.symm
    clear hb
    go_enter Tryd.func41, Tryd.ntmps41
    go_wp2
    go_ret
    exact ⟨rfl, ((Below.refl _ _).alloc (Nat.le_refl _) _).alloc (by simp) _⟩
theorem fault_any (E : Nat → Addr) (c : Nat) (w : World) (hE : Errs w E) (hc : c ≤ 25) : Calls Tryd.prog 42 #[errV E c] w fun e w' => e = .returned (.agg (fC (numE c)).toArray) ∧ Below w.heap.size w w' := by
  cases c with
  | zero => exact fault_nil w
  | succ q => exact fault_err E q w hE (by omega)
set_option maxRecDepth 100000 in
theorem same_err (E : Nat → Addr) (c : Nat) (k : Int) (b : Bool) (hb : b = (numE c == k)) (w : World) (hE : Errs w E) (hc : c ≤ 25) :
    Calls Tryd.prog 22 #[errV E c, .agg (fC k).toArray] w fun e w' => e = .returned (.bool b) ∧ Below w.heap.size w w' := by
  obtain ⟨x, hx⟩ : ∃ x, x = errV E c := ⟨_, rfl⟩
  obtain ⟨n, hn⟩ : ∃ n, n = numE c := ⟨_, rfl⟩
  have HF : Hid (∀ W, Below w.heap.size w W → Calls Tryd.prog 42 #[x] W fun e w' => e = .returned (.agg (fC n).toArray) ∧ Below W.heap.size W w') := fun W hW => by rw [hx, hn]; exact fault_any E c W (hE.below hW) hc
  have HBB : Hid (b = (n == k)) := by show _ = _; rw [hn]; exact hb
  rw [← hx]
  clear hx hn hb hE hc
  go_enter Tryd.func22, Tryd.ntmps22
  go_wp2_with fail
  have e1 := heap_alloc_new w (.cells (fC k).toArray 71)
  have b1 : Below w.heap.size w (w.alloc (.cells (fC k).toArray 71)) := (Below.refl _ _).alloc (Nat.le_refl _) _
  generalize hw1 : World.alloc _ _ = w1
  have e0 : w.alloc (.cells (fC k).toArray 71) = w1 := hw1
  rw [e0] at e1 b1
  have E1 := Lib.hid e1
  have B1 := Lib.hid b1
  clear e0 hw1 e1 b1
  refine wp_region_below (by kernel_rfl) (by kernel_rfl) w1 (Below.refl _ _) ?_
  go_big_quiet_step ((intro _; rfl))
  go_big_quiet_step ((intro hw'; exact cls hw' (HF.out _ (B1.out.trans (hw'.mono B1.out.size)))))
  go_big_quiet_want
  refine quiet_load_row 71 (.tmp 3) rfl w.heap.size rfl 71 (fC k).toArray (0, 0) _ (fun w' hw' => row_below E1.out hw') Tryd.underlying71 rfl (by kernel_rfl) ?_
  go_frame
  go_big_quiet_on
  go_big_quiet_step ((intro hw'; exact cls hw' (samefault_any n k b HBB.out _)))
  go_big_quiet_step ((intro _; rfl))
  refine wpQuiet_nil ?_
  intro w2 hw2
  have B2 := Lib.hid (B1.out.trans (hw2.mono B1.out.size))
  clear hw2
  go_wp2_with fail
  go_ret
  exact ⟨rfl, B2.out⟩
set_option maxRecDepth 100000 in
/-- Is the error the one of this number? -/
theorem is_any (E : Nat → Addr) (c : Nat) (k : Int) (b : Bool) (hb : b = (numE c == k)) (w : World) (hE : Errs w E) (hc : c ≤ 25) :
    Calls Tryd.prog 10 #[errV E c, .int .i64 k] w fun e w' => e = .returned (.bool b) ∧ Below w.heap.size w w' := by
  obtain ⟨x, hx⟩ : ∃ x, x = errV E c := ⟨_, rfl⟩
  have HF : Hid (∀ W, Below w.heap.size w W → Calls Tryd.prog 22 #[x, .agg (fC k).toArray] W fun e w' => e = .returned (.bool b) ∧ Below W.heap.size W w') := fun W hW => by rw [hx]; exact same_err E c k b hb W (hE.below hW) hc
  rw [← hx]
  clear hx hb hE hc
  go_enter Tryd.func10, Tryd.ntmps10
  go_wp2_with fail
  refine (bare_any k _).mono ?_
  rintro e w1 ⟨rfl, hb1⟩
  have B1 := Lib.hid hb1
  clear hb1
  go_wp2_with fail
  refine (HF.out _ B1.out).mono ?_
  rintro e w2 ⟨rfl, hb2⟩
  have B2 := Lib.hid (B1.out.trans (hb2.mono B1.out.size))
  clear hb2
  go_wp2_with fail
  go_ret
  exact ⟨rfl, B2.out⟩
end Go.Proofs.YtibfamhhjnaeiaaDoor.Sha

/-
  The statements' own SamePoint tells whether two places are one. Nothing that was there turns. Condition: digests of 32 bytes.
-/
namespace Go.Proofs.YtibfamhhjnaeiaaDoor.Sha
open Go Go.RowKit
theorem same_b (x y : List UInt8) (hx : x.length = 32) (hy : y.length = 32) (b : Bool) (hb : b = decide (x = y)) (w : World) :
    Calls Tryd.prog 51 #[.agg (x.map bV).toArray, .agg (y.map bV).toArray] w fun e w' => e = .returned (.bool b) ∧ Below w.heap.size w w' := by
  subst hb
  exact same_any x y hx hy w
/-- Two places laid as boxes: what lies where. -/
theorem pt_boxes (w : World) (h h' : List UInt8) (n n' : Nat) (T : TypeId) :
    Below w.heap.size w ((w.alloc (.cells (ptL h n).toArray T (0, 0))).alloc (.cells (ptL h' n').toArray T (0, 0)))
    ∧ ((w.alloc (.cells (ptL h n).toArray T (0, 0))).alloc (.cells (ptL h' n').toArray T (0, 0))).heap[w.heap.size]? = some (.cells (ptL h n).toArray T (0, 0))
    ∧ ((w.alloc (.cells (ptL h n).toArray T (0, 0))).alloc (.cells (ptL h' n').toArray T (0, 0))).heap[w.heap.size + 1]? = some (.cells (ptL h' n').toArray T (0, 0)) :=
  ⟨((Below.refl _ _).alloc (Nat.le_refl _) _).alloc (by simp) _, heap_alloc2_old _ _ _, heap_alloc2_new _ _ _⟩
set_option maxRecDepth 100000 in
theorem samept_any (h h' : List UInt8) (n n' : Nat) (hh : h.length = 32) (hh' : h'.length = 32) (b : Bool) (hb : b = (decide (h = h') && decide (n = n'))) (w : World) :
    Calls Tryd.prog 39 #[.agg (ptL h n).toArray, .agg (ptL h' n').toArray] w fun e w' => e = .returned (.bool b) ∧ Below w.heap.size w w' := by
  have hl : (h.map bV).length = 32 := by simp [hh]
  have hl' : (h'.map bV).length = 32 := by simp [hh']
  have HL := Lib.hid hl
  have HL' := Lib.hid hl'
  have HH := Lib.hid hh
  have HH' := Lib.hid hh'
  have HB := Lib.hid hb
  clear hl hl' hh hh' hb
  go_enter Tryd.func39, Tryd.ntmps39
  go_upto_region 1 with fail
  obtain ⟨B, F, F'⟩ := pt_boxes w h h' n n' 28
  generalize hw1 : World.alloc _ _ = w1
  rw [hw1] at B F F'
  have B := Lib.hid B
  have F := Lib.hid F
  have F' := Lib.hid F'
  clear hw1
  go_wp2_with ((with_reducible show wpList _ _ _ _ _ _); first | (refine wpList_load_mid rfl 25 (.tmp 5) rfl w.heap.size 0 rfl (h.map bV) _ (pt_hash F.out) Tryd.underlying25 rfl (by rw [HL.out]; kernel_rfl) ?_; go_frame) | (refine wpList_load_mid rfl 25 (.tmp 7) rfl (w.heap.size + 1) 0 rfl (h'.map bV) _ (pt_hash F'.out) Tryd.underlying25 rfl (by rw [HL'.out]; kernel_rfl) ?_; go_frame))
  refine (same_b h h' HH.out HH'.out _ rfl _).mono ?_
  rintro e w2 ⟨rfl, hb2⟩
  have c : w2.cell? ⟨w.heap.size, 32, none⟩ = some (.int .u32 (n : Int)) := pt_num HH.out (row_below F.out hb2)
  have c' : w2.cell? ⟨w.heap.size + 1, 32, none⟩ = some (.int .u32 (n' : Int)) := pt_num HH'.out (row_below F'.out hb2)
  have B2 := Lib.hid (B.out.trans (hb2.mono B.out.size))
  clear hb2
  by_cases he : h = h'
  · rw [decide_eq_true he]
    have HE := Lib.hid he
    clear he
    by_cases hn : n = n'
    · have ht : ((n : Int) == (n' : Int)) = true := by rw [beq_iff_eq]; omega
      have HN := Lib.hid hn
      clear hn
      go_wp2_with fail
      go_ret
      exact ⟨by rw [HB.out, decide_eq_true HE.out, decide_eq_true HN.out]; rfl, B2.out⟩
    · have ht : ((n : Int) == (n' : Int)) = false := by rw [beq_eq_false_iff_ne]; omega
      have HN := Lib.hid hn
      clear hn
      go_wp2_with fail
      go_ret
      exact ⟨by rw [HB.out, decide_eq_true HE.out, decide_eq_false HN.out]; rfl, B2.out⟩
  · rw [decide_eq_false he]
    have HE := Lib.hid he
    clear he
    go_wp2_with fail
    go_ret
    exact ⟨by rw [HB.out, decide_eq_false HE.out]; rfl, B2.out⟩
end Go.Proofs.YtibfamhhjnaeiaaDoor.Sha

/-
  The statements' own SameBytes tells whether two texts are the same; nothing that was there turns. Condition: the bytes lie where the slices say.
-/
namespace Go.Proofs.YtibfamhhjnaeiaaDoor.Sha
open Go Go.RowKit
theorem bytes_eq_of {x y : List UInt8} (hl : x.length = y.length) (h : ∀ j, j < x.length → x.getD j 0 = y.getD j 0) : x = y := by
  apply List.ext_getElem hl
  intro i h1 h2
  have := h i h1
  simpa [List.getD, List.getElem?_eq_getElem h1, List.getElem?_eq_getElem h2] using this
def SbInv (x y : List UInt8) (n : Nat) (w : World) (i : Value) (wr : World) : Prop :=
  ∃ k : Nat, k ≤ n ∧ i = .int .i64 k ∧ (∀ j, j < k → x.getD j 0 = y.getD j 0) ∧ Below w.heap.size w wr
def BoolPost (b : Bool) (w : World) (e : Ending) (w' : World) : Prop := e = .returned (.bool b) ∧ Below w.heap.size w w'
end Go.Proofs.YtibfamhhjnaeiaaDoor.Sha

/-
  The statements' own SameIn, SameOut tell whether two inputs, two outputs are the same. Nothing that was there turns. Conditions: digests of 32 bytes, keys that lie in memory, fewer than 2^46 bytes.
-/
namespace Go.Proofs.YtibfamhhjnaeiaaDoor.Sha
open Go Go.RowKit
theorem range_of_box {w : World} {g : Nat} {cs : List Value} {T : TypeId} {fr : Nat × Nat} (h : w.heap[g]? = some (.cells cs.toArray T fr)) : w.rangeAt g 0 cs := fun j v hj => by
  rw [Nat.zero_add, cell_of_row _ _ _ _ _ _ h, List.getElem?_toArray]
  exact hj
/-- Two boxes: what lies where. -/
theorem boxes2 (w : World) (x y : List Value) (T : TypeId) :
    Below w.heap.size w ((w.alloc (.cells x.toArray T (0, 0))).alloc (.cells y.toArray T (0, 0)))
    ∧ ((w.alloc (.cells x.toArray T (0, 0))).alloc (.cells y.toArray T (0, 0))).heap[w.heap.size]? = some (.cells x.toArray T (0, 0))
    ∧ ((w.alloc (.cells x.toArray T (0, 0))).alloc (.cells y.toArray T (0, 0))).heap[w.heap.size + 1]? = some (.cells y.toArray T (0, 0)) :=
  ⟨((Below.refl _ _).alloc (Nat.le_refl _) _).alloc (by simp) _, heap_alloc2_old _ _ _, heap_alloc2_new _ _ _⟩
/-- Are two inputs the same? -/
def sameIn (x y : TIn) : Bool := (decide (x.h = y.h) && decide (x.n = y.n)) && (decide (x.key = y.key) && decide (x.seq = y.seq))
def sameOut (x y : TOut) : Bool := decide (x.val = y.val) && decide (x.lock = y.lock)
theorem sameIn_iff (x y : TIn) : sameIn x y = true ↔ x = y := by
  obtain ⟨a, b, c, d⟩ := x
  obtain ⟨a', b', c', d'⟩ := y
  simp [sameIn, and_assoc]
theorem sameOut_iff (x y : TOut) : sameOut x y = true ↔ x = y := by
  obtain ⟨a, b⟩ := x
  obtain ⟨a', b'⟩ := y
  simp [sameOut]
end Go.Proofs.YtibfamhhjnaeiaaDoor.Sha

/-
  compact.Len, withRoom, lowestFirst, Put, Four and Eight answer what the chapter says, in new memory; nothing that was there turns. Conditions: fewer than 2^46 bytes, which lie where the slice says; numbers of 64 bits.
-/
namespace Go.Proofs.YtibfamhhjnaeiaaDoor.Sha
open Go Go.RowKit
set_option maxRecDepth 100000 in
theorem len_c (n : Nat) (w : World) :
    Calls Tryd.prog 26 #[.int .u64 n] w fun e w' => e = .returned (.int .i64 (lenN n)) ∧ w = w' := by
  by_cases h1 : n < 253
  · have e : lenN n = 1 := by unfold lenN; rw [if_pos h1]
    rw [e]
    go_enter Tryd.func26, Tryd.ntmps26
    go_wp2
    go_ret
    exact ⟨rfl, rfl⟩
  by_cases h2 : n ≤ 65535
  · have e : lenN n = 3 := by unfold lenN; rw [if_neg h1, if_pos h2]
    rw [e]
    clear e
    go_enter Tryd.func26, Tryd.ntmps26
    go_wp2
    go_ret
    exact ⟨rfl, rfl⟩
  by_cases h3 : n ≤ 4294967295
  · have e : lenN n = 5 := by unfold lenN; rw [if_neg h1, if_neg h2, if_pos h3]
    rw [e]
    clear e
    go_enter Tryd.func26, Tryd.ntmps26
    go_wp2
    go_ret
    exact ⟨rfl, rfl⟩
  · have e : lenN n = 9 := by unfold lenN; rw [if_neg h1, if_neg h2, if_neg h3]
    rw [e]
    clear e
    go_enter Tryd.func26, Tryd.ntmps26
    go_wp2
    go_ret
    exact ⟨rfl, rfl⟩
theorem len_is (n : Nat) (k : Int) (w : World) (hk : ((lenN n : Nat) : Int) = k) :
    Calls Tryd.prog 26 #[.int .u64 n] w fun e w' => e = .returned (.int .i64 k) ∧ w = w' := by
  subst hk
  exact len_c n w
theorem below_made {w w' : World} (h : w.grownBy w' none) : Below w.heap.size w w' := (Below.refl _ _).grown h (Nat.le_refl _) (fun k hk => by cases hk)
/-- New memory: k bytes of room c, which read as bs. -/
def NewB (w w' : World) (k c : Nat) (bs : List UInt8) : Prop :=
  w'.ownsRow w.heap.size 5 1 (.slice (some ⟨w.heap.size, 0, none⟩) k c) k (bs.map bV) ∧ Below w.heap.size w w'
set_option maxRecDepth 100000 in
theorem room_any (bs : List UInt8) (sp : Option Addr) (n cap m : Nat) (km : Int) (hkm : km = (m : Int)) (w : World) (hs : SrcB w (.slice sp n cap) bs) (hn : n ≤ 70368744177664) (hm : m ≤ 9) :
    Calls Tryd.prog 27 #[.slice sp n cap, .int .i64 km] w fun e w' => e = .returned (.slice (some ⟨w.heap.size, 0, none⟩) n (n + m)) ∧ NewB w w' n (n + m) bs := by
  subst hkm
  obtain ⟨i0, hi, hz0, hz1, hz2⟩ := info_parts info_u8
  have hl := hs.le.1
  have HL := Lib.hid hl
  have HS := Lib.hid hs
  clear hl hs
  go_enter Tryd.func27, Tryd.ntmps27
  go_wp2_with (first | (at_make; refine wpList_make_own _ rfl _ _ 35 rfl w.heap.size 5 i0 (.int .u8 0) 1 Tryd.underlying35 hi hz0 hz1 _ _ _ (n + m) rfl rfl (by omega) (by rw [hz2]; omega) (by unfold maxLen; omega) (Nat.le_refl _) ?_; intro w2 hown hgrow; have HO := Lib.hid hown; have HB := Lib.hid (below_made hgrow); clear hown hgrow; go_frame) | (at_builtin; refine wpList_append_src _ rfl _ _ 35 rfl w.heap.size 5 i0 Tryd.underlying35 hi hz1 w.heap.size 0 (n + m) [] rfl HO.out (.slice sp n cap) bs rfl (HS.out.below HB.out) (by have := HL.out; omega) ?_; intro w3 HO3 HG3; go_frame))
  go_ret
  have e : 0 + bs.length = n := by rw [HL.out]; omega
  refine ⟨by rw [e]; rfl, ?_, (HB.out).grown HG3.out HB.out.size (fun k hk => by cases hk; exact Nat.le_refl _)⟩
  have h := HO3.out
  rw [e] at h
  exact h
def LfInv (n width k0 g cap : Nat) (xs : List Value) (w : World) (vb vn vi : Value) (wr : World) : Prop :=
  ∃ k : Nat, k ≤ width ∧ vi = .int .i64 k ∧ vn = .int .u64 ((n / 256 ^ k : Nat) : Int) ∧ vb = .slice (some ⟨g, 0, none⟩) (k0 + k) cap ∧ wr.ownsRow g 5 1 vb (k0 + k) (xs ++ (leB n k).map bV) ∧ Below g w wr
set_option maxHeartbeats 400000 in
set_option maxRecDepth 100000 in
theorem lowest_any (n width g k0 cap : Nat) (kw : Int) (hkw : kw = (width : Int)) (xs : List Value) (w : World) (hw : width ≤ 8) (hcap : k0 + width ≤ cap) (hc2 : cap ≤ 70368744177680) (hg : g < w.heap.size)
    (ho : w.ownsRow g 5 1 (.slice (some ⟨g, 0, none⟩) k0 cap) k0 xs) :
    Calls Tryd.prog 28 #[.slice (some ⟨g, 0, none⟩) k0 cap, .int .u64 n, .int .i64 kw] w fun e w' =>
      e = .returned (.slice (some ⟨g, 0, none⟩) (k0 + width) cap) ∧ w'.ownsRow g 5 1 (.slice (some ⟨g, 0, none⟩) (k0 + width) cap) (k0 + width) (xs ++ (leB n width).map bV) ∧ Below g w w' := by
  subst hkw
  obtain ⟨i0, hi, hz0, hz1, hz2⟩ := info_parts info_u8
  have HO := Lib.hid ho
  clear ho
  go_enter Tryd.func28, Tryd.ntmps28
  go_wp2_with fail
  go_loopw [0, 1, 8] (fun vb vn vi wr => LfInv n width k0 g cap xs w vb vn vi wr) (fun _ _ i _ => width - (intOf i).toNat)
  case atStart => exact ⟨0, by omega, rfl, by simp, rfl, by simpa [leB] using HO.out, Below.refl _ _⟩
  case round =>
    obtain ⟨k, hk, rfl, rfl, rfl, hown, hb⟩ := hrel
    have HO := Lib.hid hown
    have HB := Lib.hid hb
    clear hown hb
    by_cases hlt : k < width
    · obtain ⟨q, hq⟩ : ∃ q, q = n / 256 ^ k := ⟨_, rfl⟩
      have hq2 : n / 256 ^ (k + 1) = q / 256 := by rw [hq, pow_next, Nat.div_div_eq_div_mul]
      have hby : (q : Int) % 256 = bv (UInt8.ofNat q) := by rw [← bv_of, IntKind.wrap_u8']
      obtain ⟨c, hc⟩ : ∃ c, c = UInt8.ofNat q := ⟨_, rfl⟩
      have HT : Hid ((leB n (k + 1)).map bV = (leB n k).map bV ++ [.int .u8 (bv c)]) := by
        show _ = _
        rw [hc, hq, leB, List.map_append]
        rfl
      rw [← hq]
      rw [← hc] at hby
      have HQ2 := Lib.hid hq2
      clear hq hq2 hc
      go_wp2_with (at_builtin; refine wpList_append_fits _ rfl _ _ 35 rfl g 5 i0 1 Tryd.underlying35 hi hz1 g (k0 + k) cap _ rfl (HO.out.alloc _) ⟨wr.heap.size, 0, none⟩ 1 1 [.int .u8 (bv c)] rfl rfl (cell_one_new _ _ _) (one_u8 _) (by omega) ?_; intro w3 hown2 hgrow; have HO3 := Lib.hid hown2; have HG3 := Lib.hid hgrow; clear hown2 hgrow; go_frame)
      go_roundw
      case rel =>
        refine ⟨k + 1, by omega, by go_num, ?_, rfl, ?_, ?_⟩
        · rw [HQ2.out]; rfl
        · rw [HT.out, ← List.append_assoc]
          exact HO3.out
        · have h1 : g ≤ wr.heap.size := by have := HB.out.size; omega
          exact (HB.out.alloc h1 _).grown HG3.out (by simp; omega) (fun j hj => by cases hj; exact Nat.le_refl _)
      case measure => simp [intOf]; omega
    · have hkn : k = width := by omega
      subst hkn
      clear hlt
      go_wp2_with fail
      go_ret
      exact ⟨rfl, HO.out, HB.out⟩
theorem NewB.lt {w w1 : World} {n c : Nat} {bs : List UInt8} (h : NewB w w1 n c bs) : w.heap.size < w1.heap.size := by
  rcases h.1.2 with ⟨h', _⟩ | ⟨g, cap, cur, h', _, hg, _⟩
  · simp at h'
  · simp at h'
    rw [← h'.1] at hg
    exact (Array.getElem?_eq_some_iff.1 hg).1
/-- One byte more. -/
theorem NewB.push {w w1 w3 : World} {n c : Nat} {bs : List UInt8} (x : UInt8) {o : Obj} (h : NewB w w1 n c bs) (ho : w3.ownsRow w.heap.size 5 1 (.slice (some ⟨w.heap.size, 0, none⟩) (n + 1) c) (n + 1) (bs.map bV ++ [.int .u8 (bv x)]))
    (hg : (w1.alloc o).grownBy w3 (some w.heap.size)) : NewB w w3 (n + 1) c (bs ++ [x]) := by
  refine ⟨by rw [List.map_append]; exact ho, (h.2.alloc h.2.size o).grown hg ?_ (fun j hj => by cases hj; exact Nat.le_refl _)⟩
  have := h.lt
  simp
  omega
theorem NewB.low {w w1 w2 : World} {n k c : Nat} {bs cs : List UInt8} (h : NewB w w1 n c bs) (hb : Below w.heap.size w1 w2) (ho : w2.ownsRow w.heap.size 5 1 (.slice (some ⟨w.heap.size, 0, none⟩) k c) k (bs.map bV ++ cs.map bV)) : NewB w w2 k c (bs ++ cs) :=
  ⟨by rw [List.map_append]; exact ho, h.2.trans hb⟩
set_option maxRecDepth 100000 in
theorem four_any (bs : List UInt8) (sp : Option Addr) (n cap x : Nat) (w : World) (hs : SrcB w (.slice sp n cap) bs) (hn : n ≤ 70368744177664) (hx : x ≤ 4294967295) :
    Calls Tryd.prog 29 #[.slice sp n cap, .int .u32 x] w fun e w' => e = .returned (.slice (some ⟨w.heap.size, 0, none⟩) (n + 4) (n + 4)) ∧ NewB w w' (n + 4) (n + 4) (bs ++ leB x 4) := by
  have HS := Lib.hid hs
  clear hs
  go_enter Tryd.func29, Tryd.ntmps29
  go_wp2_with (first | (go_at_call 27; refine (room_any bs sp n cap 4 4 rfl _ HS.out hn (by omega)).mono ?_; rintro e w1 ⟨rfl, hn1⟩; have HN1 := Lib.hid hn1; clear hn1) | (go_at_call 28; refine (lowest_any x 4 w.heap.size n (n + 4) 4 rfl (bs.map bV) _ (by omega) (by omega) (by omega) HN1.out.lt HN1.out.1).mono ?_; rintro e w2 ⟨rfl, ho, hb⟩; have HN2 := Lib.hid (HN1.out.low hb ho); clear ho hb))
  go_ret
  exact ⟨rfl, HN2.out⟩
set_option maxRecDepth 100000 in
theorem eight_any (bs : List UInt8) (sp : Option Addr) (n cap x : Nat) (w : World) (hs : SrcB w (.slice sp n cap) bs) (hn : n ≤ 70368744177664) :
    Calls Tryd.prog 30 #[.slice sp n cap, .int .u64 x] w fun e w' => e = .returned (.slice (some ⟨w.heap.size, 0, none⟩) (n + 8) (n + 8)) ∧ NewB w w' (n + 8) (n + 8) (bs ++ leB x 8) := by
  have HS := Lib.hid hs
  clear hs
  go_enter Tryd.func30, Tryd.ntmps30
  go_wp2_with (first | (go_at_call 27; refine (room_any bs sp n cap 8 8 rfl _ HS.out hn (by omega)).mono ?_; rintro e w1 ⟨rfl, hn1⟩; have HN1 := Lib.hid hn1; clear hn1) | (go_at_call 28; refine (lowest_any x 8 w.heap.size n (n + 8) 8 rfl (bs.map bV) _ (by omega) (by omega) (by omega) HN1.out.lt HN1.out.1).mono ?_; rintro e w2 ⟨rfl, ho, hb⟩; have HN2 := Lib.hid (HN1.out.low hb ho); clear ho hb))
  go_ret
  exact ⟨rfl, HN2.out⟩
end Go.Proofs.YtibfamhhjnaeiaaDoor.Sha

/-
  compact.Sum and the statements' own Sum answer the amounts added, or that this is none; nothing is written. Condition: the amounts lie where the slice says.
-/
namespace Go.Proofs.YtibfamhhjnaeiaaDoor.Sha
open Go Go.RowKit
/-- The sum's two answers. -/
def sumV (l : List Nat) : Value := .tuple #[.int .u64 (sumL l : Nat), .bool (sumIs l)]
theorem sumV_yes {l : List Nat} (h : l.sum ≤ most) : sumV l = .tuple #[.int .u64 (l.sum : Nat), .bool true] := by
  unfold sumV sumL sumIs
  rw [if_pos h, decide_eq_true h]
theorem sumV_no {l : List Nat} (h : ¬ l.sum ≤ most) : sumV l = .tuple #[.int .u64 0, .bool false] := by
  unfold sumV sumL sumIs
  rw [if_neg h, decide_eq_false h]
  rfl
def SmI (l : List Nat) (vs vi : Value) : Prop := ∃ k : Nat, k ≤ l.length ∧ vi = .int .i64 k ∧ vs = .int .u64 ((l.take k).sum : Nat) ∧ (l.take k).sum ≤ most
theorem most_eq : most = 2100000000000000 := rfl
end Go.Proofs.YtibfamhhjnaeiaaDoor.Sha

/-
  The statements' own numbers in bytes and sums (chapter 2) answer what the chapter says; nothing that was there turns but the row that they are given. Conditions: own rows that are short; amounts that lie where the slice says.
-/
namespace Go.Proofs.YtibfamhhjnaeiaaDoor.Sha
open Go Go.RowKit
/-- An own row of bytes, nothing below B turned. -/
def OwnB (base B : Nat) (w0 w : World) (v : Value) (bs : List UInt8) : Prop := w.ownsRow base 5 1 v bs.length (bs.map bV) ∧ Below B w0 w ∧ B ≤ w.heap.size
def LtInv (n many base : Nat) (bs : List UInt8) (w : World) (vb vi : Value) (wr : World) : Prop :=
  ∃ k : Nat, k ≤ many ∧ vi = .int .i64 k ∧ OwnB base base w wr vb (bs ++ leB n k)
theorem OwnB.push {base B : Nat} {w0 w w' : World} {v v' : Value} {bs : List UInt8} {o : Obj} (c : UInt8) (h : OwnB base B w0 w v bs) (hB : B ≤ base) (ho : w'.ownsRow base 5 1 v' (bs.length + 1) (bs.map bV ++ [.int .u8 (bv c)])) (hg : (w.alloc o).grownBy w' v.ownBlock) : OwnB base B w0 w' v' (bs ++ [c]) := by
  refine ⟨?_, own_grown (h.2.1.alloc h.2.2 o) hB (by have := h.2.2; simp; omega) (h.1.alloc o) hg, by have := hg.size; have := h.2.2; simp at *; omega⟩
  rw [List.map_append, List.length_append]
  exact ho
end Go.Proofs.YtibfamhhjnaeiaaDoor.Sha

/-
  The statements' own Four, Eight, Put write a number behind bytes of the caller's: whatever else was there stays, but for the row written to. Conditions: the row is the caller's own, fewer than 2^46 bytes.
-/
namespace Go.Proofs.YtibfamhhjnaeiaaDoor.Sha
open Go Go.RowKit
/-- An own row of bytes; since w0 nothing turned but the row r. -/
def OwnG (base : Nat) (r : Option Nat) (w0 w : World) (v : Value) (bs : List UInt8) : Prop :=
  w.ownsRow base 5 1 v bs.length (bs.map bV) ∧ w0.grownBy w r ∧ (v.ownBlock = r ∨ ∃ k, v.ownBlock = some k ∧ w0.heap.size ≤ k) ∧ base ≤ w.heap.size
theorem OwnG.start {base : Nat} {w : World} {v : Value} {bs : List UInt8} (h : w.ownsRow base 5 1 v bs.length (bs.map bV)) (hb : base ≤ w.heap.size) : OwnG base v.ownBlock w w v bs := ⟨h, grownBy_refl _ _, .inl rfl, hb⟩
theorem grown_over {w0 w w' : World} {r q : Option Nat} (h : w0.grownBy w r) (hg : w.grownBy w' q) (hq : q = r ∨ ∃ k, q = some k ∧ w0.heap.size ≤ k) : w0.grownBy w' r :=
  ⟨hg.os.trans h.os, hg.tape.trans h.tape, hg.output.trans h.output, Nat.le_trans h.size hg.size, fun k hk hne => by
    rw [hg.block k (Nat.lt_of_lt_of_le hk h.size) (by
      rcases hq with rfl | ⟨k', rfl, hk'⟩
      · exact hne
      · exact fun e => by have := Option.some.inj e; omega)]
    exact h.block k hk hne⟩
theorem OwnG.push {base : Nat} {r : Option Nat} {w0 w w' : World} {v v' : Value} {bs : List UInt8} {o : Obj} (c : UInt8) (h : OwnG base r w0 w v bs) (ho : w'.ownsRow base 5 1 v' (bs.length + 1) (bs.map bV ++ [.int .u8 (bv c)])) (hg : (w.alloc o).grownBy w' v.ownBlock)
    (hv : v'.ownBlock = v.ownBlock ∨ v'.ownBlock = some (w.alloc o).heap.size) : OwnG base r w0 w' v' (bs ++ [c]) := by
  have hg2 : w.grownBy w' v.ownBlock := grownBy_trans (World.grownBy_alloc w o _) hg
  refine ⟨?_, grown_over h.2.1 hg2 h.2.2.1, ?_, Nat.le_trans h.2.2.2 hg2.size⟩
  · rw [List.map_append, List.length_append]
    exact ho
  · rcases hv with e | e
    · rw [e]
      exact h.2.2.1
    · exact .inr ⟨_, e, by have := h.2.1.size; simp; omega⟩
theorem OwnG.trans {base : Nat} {r : Option Nat} {w0 w w' : World} {v v' : Value} {bs cs : List UInt8} (h : OwnG base r w0 w v bs) (k : OwnG base v.ownBlock w w' v' cs) : OwnG base r w0 w' v' cs :=
  ⟨k.1, grown_over h.2.1 k.2.1 h.2.2.1, by
    rcases k.2.2.1 with e | ⟨q, e, hq⟩
    · rw [e]
      exact h.2.2.1
    · exact .inr ⟨q, e, Nat.le_trans h.2.1.size hq⟩, k.2.2.2⟩
/-- Many bytes at once. -/
theorem OwnG.app {base : Nat} {r : Option Nat} {w0 w w' : World} {v v' : Value} {bs cs : List UInt8} (h : OwnG base r w0 w v bs) (ho : w'.ownsRow base 5 1 v' (bs.length + cs.length) (bs.map bV ++ cs.map bV)) (hg : w.grownBy w' v.ownBlock)
    (hv : v'.ownBlock = v.ownBlock ∨ v'.ownBlock = some w.heap.size) : OwnG base r w0 w' v' (bs ++ cs) := by
  refine ⟨?_, grown_over h.2.1 hg h.2.2.1, ?_, Nat.le_trans h.2.2.2 hg.size⟩
  · rw [List.map_append, List.length_append]
    exact ho
  · rcases hv with e | e
    · rw [e]
      exact h.2.2.1
    · exact .inr ⟨_, e, h.2.1.size⟩
/-- Only new memory turned, if the row is above. -/
theorem OwnG.below {base B : Nat} {r : Option Nat} {w0 w : World} {v : Value} {bs : List UInt8} (h : OwnG base r w0 w v bs) (hr : ∀ k, r = some k → B ≤ k) (hB : B ≤ w0.heap.size) : Below B w0 w :=
  ⟨h.2.1.os, h.2.1.tape, h.2.1.output, h.2.1.size, fun k hk => h.2.1.block k (by omega) (fun e => by have := hr k e.symm; omega)⟩
section
variable {P : Program}
/-- Any bytes behind an own row: it stays where it was, or is new. -/
theorem wp_append_g (w : World) {o : Oper} {a : Act} {K : Act → World → Prop} {Q : Exit → Act → World → Prop}
    (s x : Operand) (t : TypeId) (hop : o.op = Op.call { callee := Callee.builtin Builtin.append, args := #[s, x], argTypes := #[t, t] })
    (base : Nat) (e : TypeId) (i : TypeInfo) (h1 : P.underlying t = some (.slice e)) (h2 : P.info? e = some i) (hz : i.zero = some (.int .u8 0)) (h4 : i.size = 1) (h5 : i.bytes = 1)
    (v : Value) (k : Nat) (xs : List Value) (hs : a.eval s = v) (hown : w.ownsRow base e 1 v k xs) (y : Value) (bs : List UInt8) (hx : a.eval x = y) (hsrc : SrcB w y bs) (hlen : k + bs.length ≤ 70368744177680) (hbase : base ≤ w.heap.size)
    (hK : ∀ v' w', w'.ownsRow base e 1 v' (k + bs.length) (xs ++ bs.map bV) → w.grownBy w' v.ownBlock → (v'.ownBlock = v.ownBlock ∨ v'.ownBlock = some w.heap.size) → K (a.put o.dst v') w') : o.wp P a w K Q := by
  rcases hsrc with ⟨sp, c, rfl, rfl⟩ | ⟨h0, bb, off, c, rfl, hc, hcell⟩
  · have hrun := run_append_any0 (P := P) (w := w) base t o.type e i h1 h2 v k xs (by rw [h4]; exact hown) sp c
    unfold Oper.wp
    simp [execOp, hop, resolve, invoke, builtin, hs, hx, hrun, Result.andThen]
    refine hK v w ?_ (grownBy_refl _ _) (.inl rfl)
    show w.ownsRow _ _ _ _ _ _
    simpa using hown
  · obtain ⟨v', w', hr, h2', h3', _, h5'⟩ := run_append_own_at (P := P) w base t o.type e i (.int .u8 0) 1 1 h1 h2 hz h4 h5 rfl (by decide) v k xs hown ⟨bb, off, none⟩ bs.length c (bs.map bV) (by simp)
      (fun j u hu => by
        rw [List.getElem?_map] at hu
        obtain ⟨b, hb, rfl⟩ := Option.map_eq_some_iff.1 hu
        have hj := (List.getElem?_eq_some_iff.1 hb).1
        rw [Addr.add_mid, hcell j hj]
        simp [bV, List.getD, hb])
      (bV_one' bs) (by unfold maxLen; omega) (by omega) hbase
    unfold Oper.wp execOp
    simp only [hop, resolve, invoke, builtin, Sem.run_bind, Sem.run_pure, Result.andThen_ok, List.map_toArray, List.map_cons, List.map_nil, hs, hx, hr]
    exact hK v' w' h2' h3' h5'
theorem wpList_append_g (w : World) {ops : Array Oper} {rest : List Oper} {o : Oper} {a : Act} {Q : Exit → Act → World → Prop} (hg : o.guard = none)
    (s x : Operand) (t : TypeId) (hop : o.op = Op.call { callee := Callee.builtin Builtin.append, args := #[s, x], argTypes := #[t, t] })
    (base : Nat) (e : TypeId) (i : TypeInfo) (h1 : P.underlying t = some (.slice e)) (h2 : P.info? e = some i) (hz : i.zero = some (.int .u8 0)) (h4 : i.size = 1) (h5 : i.bytes = 1)
    (v : Value) (k : Nat) (xs : List Value) (hs : a.eval s = v) (hown : w.ownsRow base e 1 v k xs) (y : Value) (bs : List UInt8) (hx : a.eval x = y) (hsrc : SrcB w y bs) (hlen : k + bs.length ≤ 70368744177680) (hbase : base ≤ w.heap.size)
    (hK : ∀ v' w', w'.ownsRow base e 1 v' (k + bs.length) (xs ++ bs.map bV) → w.grownBy w' v.ownBlock → (v'.ownBlock = v.ownBlock ∨ v'.ownBlock = some w.heap.size) → wpList P ops Q rest (a.put o.dst v') w') : wpList P ops Q (o :: rest) a w :=
  wpList_plain hg fun _ hK' => wp_append_g w s x t hop base e i h1 h2 hz h4 h5 v k xs hs hown y bs hx hsrc hlen hbase (fun v' w' a1 a2 a3 => hK' _ _ (hK v' w' a1 a2 a3))
end
def LgInv (n many base : Nat) (r : Option Nat) (bs : List UInt8) (w : World) (vb vi : Value) (wr : World) : Prop :=
  ∃ k : Nat, k ≤ many ∧ vi = .int .i64 k ∧ OwnG base r w wr vb (bs ++ leB n k)
end Go.Proofs.YtibfamhhjnaeiaaDoor.Sha

/-
  What may be read first in a region that draws its order; bytes in the middle of a block as a source. No conditions beyond those that each states.
-/
namespace Go.Proofs.YtibfamhhjnaeiaaDoor.Sha
open Go Go.RowKit
/-- A cell that every world of S holds may be read first. -/
theorem yieldsIf_load_one {P : Program} {ops : Array Oper} {S : World → Prop} {op : Oper} {a : Act} (hw : Region.wanted op (yielded ops a.tmps) = true) (ty : TypeId) (x : Operand) (ho : op.op = .load ty x)
    (b off : Nat) (hx : a.eval x = .pointer (some ⟨b, off, none⟩)) (v : Value) (d : TypeDesc) (hS : ∀ w, S w → w.cell? ⟨b, off, none⟩ = some v)
    (hu : P.underlying ty = some d) (hd : d.isRow = false) : YieldsIf P ops S op v a :=
  .inl ⟨hw, fun w hw' => by
    have hagg : (isAgg ty).run P w = .ok false w := by
      unfold isAgg
      rw [Sem.run_bind, run_underlying hu w]
      cases d <;> simp_all
    unfold execOp
    simp [ho, hx, Instr.loadAt, Instr.sureAddr, Sem.run_bind, loadVar, hagg, hS w hw']⟩
/-- A whole row that every world of S holds may be read first. -/
theorem yieldsIf_load_row {P : Program} {ops : Array Oper} {S : World → Prop} {op : Oper} {a : Act} (hw : Region.wanted op (yielded ops a.tmps) = true) (ty : TypeId) (x : Operand) (ho : op.op = .load ty x)
    (g : Nat) (hx : a.eval x = .pointer (some ⟨g, 0, none⟩)) (t : TypeId) (cs : Array Value) (fr : Nat × Nat) (d : TypeDesc) (hS : ∀ w, S w → w.heap[g]? = some (.cells cs t fr))
    (hu : P.underlying ty = some d) (hd : (match d with | .struct _ | .array _ _ => true | _ => false) = true) (hi : (P.info? ty).map (·.size) = some cs.size) : YieldsIf P ops S op (.agg cs) a :=
  .inl ⟨hw, fun w hw' => by
    unfold execOp
    simp only [ho, hx, Instr.loadAt, Instr.sureAddr, Sem.run_bind, Sem.run_pure, Result.andThen_ok, run_loadVar_row w g t ty cs fr d (hS w hw') hu hd hi]⟩
/-- A part of a block may be read first. -/
theorem yieldsIf_load_mid {P : Program} {ops : Array Oper} {S : World → Prop} {op : Oper} {a : Act} (hw : Region.wanted op (yielded ops a.tmps) = true) (ty : TypeId) (x : Operand) (ho : op.op = .load ty x)
    (b off : Nat) (hx : a.eval x = .pointer (some ⟨b, off, none⟩)) (cs : List Value) (d : TypeDesc) (hS : ∀ w, S w → w.rangeAt b off cs)
    (hu : P.underlying ty = some d) (hd : d.isRow = true) (hi : (P.info? ty).map (·.size) = some cs.length) : YieldsIf P ops S op (.agg cs.toArray) a :=
  .inl ⟨hw, fun w hw' => by
    unfold execOp
    simp only [ho, hx, Instr.loadAt, Instr.sureAddr, Sem.run_bind, Sem.run_pure, Result.andThen_ok, run_loadVar_mid w b off ty cs d (hS w hw') hu hd hi]⟩
/-- A part of a block as a source of bytes. -/
theorem src_range {w : World} {b o m c : Nat} {bs : List UInt8} (h : w.rangeAt b o (bs.map bV)) (hm : m = bs.length) (h0 : 0 < m) (hc : m ≤ c) : SrcB w (.slice (some ⟨b, o, none⟩) m c) bs := by
  refine .inr ⟨by omega, b, o, c, by rw [hm], by omega, fun j hj => h j _ ?_⟩
  rw [List.getElem?_map, List.getElem?_eq_getElem hj]
  simp [bV, List.getD, List.getElem?_eq_getElem hj]
theorem keyAt_src {w : World} {kv : Value} {key : List UInt8} (h : KeyAt w kv key) : SrcB w kv key := h.1
theorem get_of_drop {α : Type} {l rest : List α} {i : Nat} {x : α} (h : l.drop i = x :: rest) : l[i]? = some x := by
  have := congrArg (·[0]?) h
  simpa [List.getElem?_drop] using this
section
variable {P : Program} {md : Region.Mode} {l : List Oper} {Q : Exit → Act → World → Prop} {S : World → Prop}
/-- Take operation i first: the operation comes out written. -/
theorem held_take {i : Nat} {oi : Oper} {rest : List Oper} {v : Value} {fuel : Nat} {listed : Array Bool} {a : Act} {w : World} (hd : l.drop i = oi :: rest)
    (hs : Region.noSelect l.toArray = true) (hf : Region.free md l.toArray listed i = true) (hr : (Region.ready md l.toArray listed).contains i = true)
    (hQ : ∀ c a w, Q (.panic c) (a.put oi.dst v) w → Q (.panic c) a w) (hy : YieldsIf P l.toArray S oi v a) (hS : S w)
    (h : wpAnyH P md l.toArray Q S fuel (listed.setIfInBounds i true) (a.put oi.dst v) w) : wpAnyH P md l.toArray Q S (fuel + 1) listed a w :=
  wpAnyH_take (by rw [List.getElem?_toArray]; exact get_of_drop hd) hs hf hr hQ hy hS h
/-- Operation i comes up. -/
theorem held_cons {fuel : Nat} {listed : Array Bool} {a : Act} {w : World} {i : Nat} {o : Oper} {rest : List Oper} {rs : List Nat} (hd : l.drop i = o :: rest)
    (h : ∀ K' : Act → World → Prop, Shut (∀ a w, S w → (S w → wpAnyH P md l.toArray Q S fuel (listed.setIfInBounds i true) a w) → K' a w) → if Region.wanted o (yielded l.toArray a.tmps) = true then Oper.wp P o a w K' Q else K' (a.put o.dst undef) w)
    (hs : AllReadyH P md l.toArray Q S fuel listed a w rs) : AllReadyH P md l.toArray Q S fuel listed a w (i :: rs) :=
  AllReadyH.cons (by rw [List.getElem?_toArray]; exact get_of_drop hd) h hs
end
end Go.Proofs.YtibfamhhjnaeiaaDoor.Sha
