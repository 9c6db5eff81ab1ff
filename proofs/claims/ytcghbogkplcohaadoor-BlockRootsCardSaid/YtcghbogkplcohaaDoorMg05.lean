/-
  Texts of this proof joined into one file: ArgsTx, PtSame, RefSameB, TxSame, CmpSum, RefWire, RefBuf, Held, RefTx, RefVals, TxSame2, PtCalls, RefBase, RefCheck, TxLight, TxSm, CmpPut2, TxBox, ShaCopy, Fill. What each holds, and under which conditions, its own first sentence tells.
-/
import Derived.Deep.Slices
import Derived.Maps.AppendAt
import Derived.Deep.RegionHeld3
import Derived.Great.BuildSlice
import Derived.IntWalk
import Derived.LoopN
import Derived.Test.YtcghbogkplcohaaDoorMg04
import Derived.Test.YtcghbogkplcohaaDoorMg02
import Derived.Test.YtcghbogkplcohaaDoorMg01
import Derived.Test.YtcghbogkplcohaaDoorMg03
/-
  How a transaction that came in by value reads. No conditions.
-/
namespace Go.Proofs.YtcghbogkplcohaaDoor.Sha
open Go Go.ChangeShapes Go.WideShapes Go.ChangeAt Go.RowKit Go.Deep
theorem in_fields : (Tryd.prog.fieldsOf 42).toList.map (fun f => (f.name, f.type, f.offset)) = [("From", 39, 0), ("Key", 40, 33), ("Seq", 26, 34)] := by kernel_rfl
theorem in_under : Tryd.prog.underlying 42 = some (.struct (Tryd.prog.fieldsOf 42)) := by kernel_rfl
theorem out_fields : (Tryd.prog.fieldsOf 44).toList.map (fun f => (f.name, f.type, f.offset)) = [("Value", 34, 0), ("Lock", 23, 1)] := by kernel_rfl
theorem out_under : Tryd.prog.underlying 44 = some (.struct (Tryd.prog.fieldsOf 44)) := by kernel_rfl
theorem tx_fields : (Tryd.prog.fieldsOf 32).toList.map (fun f => (f.name, f.type, f.offset)) = [("Version", 26, 0), ("Ins", 29, 1), ("Outs", 30, 2), ("Time", 26, 3)] := by kernel_rfl
theorem tx_under : Tryd.prog.underlying 32 = some (.struct (Tryd.prog.fieldsOf 32)) := by kernel_rfl
theorem key_cells {H : Type} {enc : TypeId × Value → H} {W : World} {fuel : Nat} {cs : List Value} {x : DataW H × List MemPlace} (hf : DataW.trod enc Tryd.prog W 0 (fun _ => true) true fuel 40 cs = some x) :
    ∃ kv key, cs = [kv] ∧ KeyAt W kv key ∧ key.length ≤ 9223372036854775807 := by
  rcases open_ints Tryd.underlying40 Tryd.underlying5 (by kernel_rfl) hf with ⟨hcs, _⟩ | ⟨a, l, c, zs, hcs, _, hl, hm, hz, _, hcell, hwz⟩
  · exact ⟨_, [], hcs, ⟨.inl ⟨_, _, rfl, rfl⟩, _, _, rfl⟩, by simp⟩
  · have hr : IsRow .u8 W (some a) l c zs := .inr ⟨a, rfl, hl, hm, by simpa using hz, hcell, hwz⟩
    obtain ⟨bs, hs⟩ := src_of_row hr
    have hlen := hs.le.1
    exact ⟨_, bs, hcs, ⟨hs, _, _, by rw [hlen]⟩, by have := hr.len; omega⟩
set_option maxRecDepth 100000 in
theorem in_cells {H : Type} {enc : TypeId × Value → H} {W : World} {fuel : Nat} {cs : List Value} {x : DataW H × List MemPlace} (hf : DataW.trod enc Tryd.prog W 0 (fun _ => true) true fuel 42 cs = some x) :
    ∃ (y : TIn) (kv : Value), InOk y ∧ KeyAt W kv y.key ∧ y.key.length ≤ 9223372036854775807 ∧ cs = inL y kv := by
  have c27 : Tryd.prog.cellsOf 39 = 33 := by kernel_rfl
  have c22 : Tryd.prog.cellsOf 40 = 1 := by kernel_rfl
  have c25 : Tryd.prog.cellsOf 26 = 1 := by kernel_rfl
  have c54 : Tryd.prog.cellsOf 42 = 35 := by kernel_rfl
  obtain ⟨hlen, m, hel⟩ := struct_field in_under hf in_fields
  rw [c54] at hlen
  obtain ⟨y0, g0⟩ := hel 0 _ _ _ rfl
  obtain ⟨y1, g1⟩ := hel 1 _ _ _ rfl
  obtain ⟨y2, g2⟩ := hel 2 _ _ _ rfl
  rw [c27, List.drop_zero] at g0
  rw [c22] at g1
  rw [c25] at g2
  obtain ⟨bs, n, ⟨hb, hn⟩, hp⟩ := pt_cells g0
  obtain ⟨kv, key, hk, hka, hkl⟩ := key_cells g1
  obtain ⟨s, hs, hsq⟩ := num32_cells g2
  rw [List.take_of_length_le (by rw [List.length_drop]; omega)] at hsq
  refine ⟨⟨bs, n, key, s⟩, kv, ⟨hb, hn, hs⟩, hka, hkl, ?_⟩
  have e1 : cs.drop 33 = [kv] ++ [nV s] := by
    rw [← List.take_append_drop 1 (cs.drop 33), hk, List.drop_drop, hsq]
  show cs = ptL bs n ++ [kv, nV s]
  rw [← hp, show [kv, nV s] = cs.drop 33 from e1.symm, List.take_append_drop]
set_option maxRecDepth 100000 in
theorem out_cells {H : Type} {enc : TypeId × Value → H} {W : World} {fuel : Nat} {cs : List Value} {x : DataW H × List MemPlace} (hf : DataW.trod enc Tryd.prog W 0 (fun _ => true) true fuel 44 cs = some x) :
    ∃ y : TOut, OutOk y ∧ cs = outL y := by
  have c24 : Tryd.prog.cellsOf 23 = 32 := by kernel_rfl
  have c55 : Tryd.prog.cellsOf 34 = 1 := by kernel_rfl
  have c57 : Tryd.prog.cellsOf 44 = 33 := by kernel_rfl
  obtain ⟨hlen, m, hel⟩ := struct_field out_under hf out_fields
  rw [c57] at hlen
  obtain ⟨y0, g0⟩ := hel 0 _ _ _ rfl
  obtain ⟨y1, g1⟩ := hel 1 _ _ _ rfl
  rw [c55, List.drop_zero] at g0
  rw [c24] at g1
  obtain ⟨z, hz, _, hw⟩ := DataW.trod_int Tryd.underlying34 g0
  have hbd := bounds_u64 hw
  obtain ⟨bs, hb, hcs⟩ := hash_cells g1
  rw [List.take_of_length_le (by rw [List.length_drop]; omega)] at hcs
  refine ⟨⟨z.toNat, bs⟩, ⟨hb, by show z.toNat ≤ _; omega⟩, ?_⟩
  show cs = uV z.toNat :: bs.map bV
  rw [← hcs, uV, Int.toNat_of_nonneg (by omega), ← List.take_append_drop 1 cs, hz]
  rfl
/-- Many, each of which is somewhere: a list of them. -/
theorem list_of_each {α : Type} {p : Nat → α → Prop} : ∀ n, (∀ i, i < n → ∃ x, p i x) → ∃ l : List α, l.length = n ∧ ∀ i x, l[i]? = some x → p i x
  | 0, _ => ⟨[], rfl, fun i x h => by simp at h⟩
  | n + 1, h => by
    obtain ⟨l, hl, hp⟩ := list_of_each n (fun i hi => h i (by omega))
    obtain ⟨x, hx⟩ := h n (by omega)
    refine ⟨l ++ [x], by simp [hl], fun i y hy => ?_⟩
    by_cases hi : i < n
    · exact hp i y (by rwa [List.getElem?_append_left (by omega)] at hy)
    · have hin : i = n := by
        have := (List.getElem?_eq_some_iff.1 hy).1
        simp [hl] at this
        omega
      subst hin
      rw [List.getElem?_append_right (by omega), hl] at hy
      simp at hy
      rw [← hy]
      exact hx
theorem range_of_cells {w : World} {a : Addr} {n : Nat} {cs : List Value} (h : w.cells? 0 a n = some cs) (hn : 0 < n) : ∃ b o, a = ⟨b, o, none⟩ ∧ w.rangeAt b o cs := by
  obtain ⟨_, hcl, hat⟩ := World.cells?_some h
  obtain ⟨b, o, spot⟩ := a
  have h0 := hat 0 hn
  have hspot : spot = none := by
    have hs : (cs[0]?) = some (cs[0]'(by omega)) := List.getElem?_eq_getElem _
    rw [hs] at h0
    simpa [Addr.add] using World.cell?_spot h0
  subst hspot
  refine ⟨b, o, rfl, fun j v hj => ?_⟩
  have hjn : j < n := by have := (List.getElem?_eq_some_iff.1 hj).1; omega
  rw [← Addr.add_mid, hat j hjn]
  exact hj
theorem ins_cells {H : Type} {enc : TypeId × Value → H} {W : World} {fuel : Nat} {cs : List Value} {x : DataW H × List MemPlace} (hf : DataW.trod enc Tryd.prog W 0 (fun _ => true) true fuel 29 cs = some x) :
    ∃ (iv : Value) (l : List TIn), cs = [iv] ∧ InsAt W iv l ∧ InsOk l ∧ KeysLe l 9223372036854775807 ∧ l.length ≤ 9223372036854775807 := by
  have c54 : Tryd.prog.cellsOf 42 = 35 := by kernel_rfl
  rcases open_slice Tryd.underlying29 hf with ⟨hcs, _⟩ | ⟨a, len, cap, m, n, D, Pl, hcs, hb, hl, hm, hmm, hx, hi⟩
  · exact ⟨_, [], hcs, ⟨_, _, rfl, by simp, fun h => by simp at h⟩, fun y hy => by simp at hy, fun y hy => by simp at hy, by simp⟩
  · have hmc : m = cap := by rw [hmm]; simp
    rw [c54] at hi
    have each : ∀ i, i < len → ∃ y : TIn, ∃ b o, a.add (i * 35) = ⟨b, o, none⟩ ∧ InAt W b o y ∧ y.key.length ≤ 9223372036854775807 := fun i him => by
      obtain ⟨cs', hc, ht⟩ := hi i (by omega)
      obtain ⟨y, kv, h1, h2, h3, h4⟩ := in_cells ht
      obtain ⟨b, o, hab, hr⟩ := range_of_cells hc (by omega)
      exact ⟨y, b, o, hab, ⟨h1, kv, h2, by rw [← h4]; exact hr⟩, h3⟩
    obtain ⟨l, hll, hp⟩ := list_of_each len each
    have hmem : ∀ y ∈ l, ∃ b o, InAt W b o y ∧ y.key.length ≤ 9223372036854775807 := fun y hy => by
      obtain ⟨i, hi2⟩ := List.getElem?_of_mem hy
      obtain ⟨b, o, _, h1, h2⟩ := hp i y hi2
      exact ⟨b, o, h1, h2⟩
    refine ⟨_, l, hcs, ⟨_, _, by rw [hll], by omega, fun h0 => ?_⟩, fun y hy => ?_, fun y hy => ?_, by unfold maxLen at hm; omega⟩
    · obtain ⟨x0, hx0⟩ : ∃ x0, l[0]? = some x0 := ⟨_, List.getElem?_eq_getElem h0⟩
      obtain ⟨b, o, hab, _⟩ := hp 0 x0 hx0
      obtain ⟨ab, ao, asp⟩ := a
      have hsp : asp = none := by
        have := congrArg Addr.spot hab
        simpa [Addr.add] using this
      subst hsp
      refine ⟨ab, ao, rfl, fun i y hy => ?_⟩
      obtain ⟨b', o', hab', h1, _⟩ := hp i y hy
      rw [Addr.add_mid] at hab'
      cases hab'
      exact h1
    · obtain ⟨b, o, h1, _⟩ := hmem y hy
      exact h1.1
    · obtain ⟨b, o, _, h2⟩ := hmem y hy
      exact h2
theorem outs_cells {H : Type} {enc : TypeId × Value → H} {W : World} {fuel : Nat} {cs : List Value} {x : DataW H × List MemPlace} (hf : DataW.trod enc Tryd.prog W 0 (fun _ => true) true fuel 30 cs = some x) :
    ∃ (ov : Value) (l : List TOut), cs = [ov] ∧ OutsAt W ov l ∧ OutsOk l ∧ l.length ≤ 9223372036854775807 := by
  have c57 : Tryd.prog.cellsOf 44 = 33 := by kernel_rfl
  rcases open_slice Tryd.underlying30 hf with ⟨hcs, _⟩ | ⟨a, len, cap, m, n, D, Pl, hcs, hb, hl, hm, hmm, hx, hi⟩
  · exact ⟨_, [], hcs, ⟨_, _, rfl, by simp, fun h => by simp at h⟩, fun y hy => by simp at hy, by simp⟩
  · have hmc : m = cap := by rw [hmm]; simp
    rw [c57] at hi
    have each : ∀ i, i < len → ∃ y : TOut, ∃ b o, a.add (i * 33) = ⟨b, o, none⟩ ∧ OutAt W b o y := fun i him => by
      obtain ⟨cs', hc, ht⟩ := hi i (by omega)
      obtain ⟨y, h1, h4⟩ := out_cells ht
      obtain ⟨b, o, hab, hr⟩ := range_of_cells hc (by omega)
      exact ⟨y, b, o, hab, h1, by rw [← h4]; exact hr⟩
    obtain ⟨l, hll, hp⟩ := list_of_each len each
    refine ⟨_, l, hcs, ⟨_, _, by rw [hll], by omega, fun h0 => ?_⟩, fun y hy => ?_, by unfold maxLen at hm; omega⟩
    · obtain ⟨x0, hx0⟩ : ∃ x0, l[0]? = some x0 := ⟨_, List.getElem?_eq_getElem h0⟩
      obtain ⟨b, o, hab, _⟩ := hp 0 x0 hx0
      obtain ⟨ab, ao, asp⟩ := a
      have hsp : asp = none := by
        have := congrArg Addr.spot hab
        simpa [Addr.add] using this
      subst hsp
      refine ⟨ab, ao, rfl, fun i y hy => ?_⟩
      obtain ⟨b', o', hab', h1⟩ := hp i y hy
      rw [Addr.add_mid] at hab'
      cases hab'
      exact h1
    · obtain ⟨i, hi2⟩ := List.getElem?_of_mem hy
      obtain ⟨b, o, _, h1⟩ := hp i y hi2
      exact h1.1
/-- All that is known of a transaction that came in. -/
def TxCame (t : TTx) : Prop := TxOk t ∧ InsOk t.ins ∧ OutsOk t.outs ∧ KeysLe t.ins 9223372036854775807 ∧ t.ins.length ≤ 9223372036854775807 ∧ t.outs.length ≤ 9223372036854775807
set_option maxRecDepth 100000 in
/-- A transaction by value. -/
theorem tx_in {H : Type} {enc : TypeId × Value → H} {W : World} {base : Nat} {v : Value} {d : DataW H} {p : List MemPlace} (hok : Value.okWide Tryd.prog W .any base 32 v) (h : DataW.Trod enc Tryd.prog W 0 (fun _ => true) true 32 v d p) :
    ∃ t : TTx, TxAt W v t ∧ TxCame t := by
  have c25 : Tryd.prog.cellsOf 26 = 1 := by kernel_rfl
  have c23 : Tryd.prog.cellsOf 29 = 1 := by kernel_rfl
  have c24 : Tryd.prog.cellsOf 30 = 1 := by kernel_rfl
  have c26 : Tryd.prog.cellsOf 32 = 4 := by kernel_rfl
  simp only [Value.okWide, tx_under] at hok
  obtain ⟨cs, rfl, _, _⟩ := hok
  obtain ⟨fuel, hf⟩ := h
  have hcells : (Value.agg cs).cells.toList = cs.toList := rfl
  rw [hcells] at hf
  obtain ⟨hlen, m, hel⟩ := struct_field tx_under hf tx_fields
  rw [c26] at hlen
  obtain ⟨y0, g0⟩ := hel 0 _ _ _ rfl
  obtain ⟨y1, g1⟩ := hel 1 _ _ _ rfl
  obtain ⟨y2, g2⟩ := hel 2 _ _ _ rfl
  obtain ⟨y3, g3⟩ := hel 3 _ _ _ rfl
  rw [c25] at g0 g3
  rw [c23] at g1
  rw [c24] at g2
  obtain ⟨ver, h0, e0⟩ := num32_cells g0
  obtain ⟨iv, il, e1, h1, h1a, h1b, h1c⟩ := ins_cells g1
  obtain ⟨ov, ol, e2, h2, h2a, h2b⟩ := outs_cells g2
  obtain ⟨tm, h3, e3⟩ := num32_cells g3
  obtain ⟨l, hl⟩ : ∃ l, l = cs.toList := ⟨_, rfl⟩
  rw [← hl] at hlen e0 e1 e2 e3
  match l, hlen with
  | [a, b, c, e], _ =>
    simp at e0 e1 e2 e3
    subst e0 e1 e2 e3
    refine ⟨⟨ver, il, ol, tm⟩, ⟨⟨h0, h3⟩, _, _, ?_, h1, h2⟩, ⟨h0, h3⟩, h1a, h2a, h1b, h1c, h2b⟩
    congr 1
    apply Array.toList_inj.1
    rw [← hl]
    rfl
end Go.Proofs.YtcghbogkplcohaaDoor.Sha

/-
  The statements' own SamePoint tells whether two places are one. Nothing that was there turns. Condition: digests of 32 bytes.
-/
namespace Go.Proofs.YtcghbogkplcohaaDoor.Sha
open Go Go.RowKit
theorem same_b (x y : List UInt8) (hx : x.length = 32) (hy : y.length = 32) (b : Bool) (hb : b = decide (x = y)) (w : World) :
    Calls Tryd.prog 10 #[.agg (x.map bV).toArray, .agg (y.map bV).toArray] w fun e w' => e = .returned (.bool b) ∧ Below w.heap.size w w' := by
  subst hb
  exact same_any x y hx hy w
/-- Two places laid as boxes: what lies where. -/
theorem pt_boxes (w : World) (h h' : List UInt8) (n n' : Nat) (T : TypeId) :
    Below w.heap.size w ((w.alloc (.cells (ptL h n).toArray T (0, 0))).alloc (.cells (ptL h' n').toArray T (0, 0)))
    ∧ ((w.alloc (.cells (ptL h n).toArray T (0, 0))).alloc (.cells (ptL h' n').toArray T (0, 0))).heap[w.heap.size]? = some (.cells (ptL h n).toArray T (0, 0))
    ∧ ((w.alloc (.cells (ptL h n).toArray T (0, 0))).alloc (.cells (ptL h' n').toArray T (0, 0))).heap[w.heap.size + 1]? = some (.cells (ptL h' n').toArray T (0, 0)) :=
  ⟨((Below.refl _ _).alloc (Nat.le_refl _) _).alloc (by simp) _, heap_alloc2_old _ _ _, heap_alloc2_new _ _ _⟩
end Go.Proofs.YtcghbogkplcohaaDoor.Sha

/-
  The statements' own SameBytes tells whether two texts are the same; nothing that was there turns. Condition: the bytes lie where the slices say.
-/
namespace Go.Proofs.YtcghbogkplcohaaDoor.Sha
open Go Go.RowKit
theorem bytes_eq_of {x y : List UInt8} (hl : x.length = y.length) (h : ∀ j, j < x.length → x.getD j 0 = y.getD j 0) : x = y := by
  apply List.ext_getElem hl
  intro i h1 h2
  have := h i h1
  simpa [List.getD, List.getElem?_eq_getElem h1, List.getElem?_eq_getElem h2] using this
def SbInv (x y : List UInt8) (n : Nat) (w : World) (i : Value) (wr : World) : Prop :=
  ∃ k : Nat, k ≤ n ∧ i = .int .i64 k ∧ (∀ j, j < k → x.getD j 0 = y.getD j 0) ∧ Below w.heap.size w wr
def BoolPost (b : Bool) (w : World) (e : Ending) (w' : World) : Prop := e = .returned (.bool b) ∧ Below w.heap.size w w'
end Go.Proofs.YtcghbogkplcohaaDoor.Sha

/-
  The statements' own SameIn, SameOut tell whether two inputs, two outputs are the same. Nothing that was there turns. Conditions: digests of 32 bytes, keys that lie in memory, fewer than 2^46 bytes.
-/
namespace Go.Proofs.YtcghbogkplcohaaDoor.Sha
open Go Go.RowKit
theorem range_of_box {w : World} {g : Nat} {cs : List Value} {T : TypeId} {fr : Nat × Nat} (h : w.heap[g]? = some (.cells cs.toArray T fr)) : w.rangeAt g 0 cs := fun j v hj => by
  rw [Nat.zero_add, cell_of_row _ _ _ _ _ _ h, List.getElem?_toArray]
  exact hj
/-- Two boxes: what lies where. -/
theorem boxes2 (w : World) (x y : List Value) (T : TypeId) :
    Below w.heap.size w ((w.alloc (.cells x.toArray T (0, 0))).alloc (.cells y.toArray T (0, 0)))
    ∧ ((w.alloc (.cells x.toArray T (0, 0))).alloc (.cells y.toArray T (0, 0))).heap[w.heap.size]? = some (.cells x.toArray T (0, 0))
    ∧ ((w.alloc (.cells x.toArray T (0, 0))).alloc (.cells y.toArray T (0, 0))).heap[w.heap.size + 1]? = some (.cells y.toArray T (0, 0)) :=
  ⟨((Below.refl _ _).alloc (Nat.le_refl _) _).alloc (by simp) _, heap_alloc2_old _ _ _, heap_alloc2_new _ _ _⟩
/-- Are two inputs the same? -/
def sameIn (x y : TIn) : Bool := (decide (x.h = y.h) && decide (x.n = y.n)) && (decide (x.key = y.key) && decide (x.seq = y.seq))
def sameOut (x y : TOut) : Bool := decide (x.val = y.val) && decide (x.lock = y.lock)
theorem sameIn_iff (x y : TIn) : sameIn x y = true ↔ x = y := by
  obtain ⟨a, b, c, d⟩ := x
  obtain ⟨a', b', c', d'⟩ := y
  simp [sameIn, and_assoc]
theorem sameOut_iff (x y : TOut) : sameOut x y = true ↔ x = y := by
  obtain ⟨a, b⟩ := x
  obtain ⟨a', b'⟩ := y
  simp [sameOut]
end Go.Proofs.YtcghbogkplcohaaDoor.Sha

/-
  compact.Sum and the statements' own Sum answer the amounts added, or that this is none; nothing is written. Condition: the amounts lie where the slice says.
-/
namespace Go.Proofs.YtcghbogkplcohaaDoor.Sha
open Go Go.RowKit
/-- The sum's two answers. -/
def sumV (l : List Nat) : Value := .tuple #[.int .u64 (sumL l : Nat), .bool (sumIs l)]
theorem sumV_yes {l : List Nat} (h : l.sum ≤ most) : sumV l = .tuple #[.int .u64 (l.sum : Nat), .bool true] := by
  unfold sumV sumL sumIs
  rw [if_pos h, decide_eq_true h]
theorem sumV_no {l : List Nat} (h : ¬ l.sum ≤ most) : sumV l = .tuple #[.int .u64 0, .bool false] := by
  unfold sumV sumL sumIs
  rw [if_neg h, decide_eq_false h]
  rfl
def SmI (l : List Nat) (vs vi : Value) : Prop := ∃ k : Nat, k ≤ l.length ∧ vi = .int .i64 k ∧ vs = .int .u64 ((l.take k).sum : Nat) ∧ (l.take k).sum ≤ most
theorem most_eq : most = 2100000000000000 := rfl
set_option maxRecDepth 100000 in
theorem sum_c (l : List Nat) (v : Value) (w : World) (hs : SrcU w v l) (hl : l.length ≤ 9223372036854775807) :
    Calls Tryd.prog 62 #[v] w fun e w' => e = .returned (sumV l) ∧ w = w' := by
  have hm := most_eq
  rcases hs with ⟨sp, cap, rfl, rfl⟩ | ⟨h0, bb, off, cap, rfl, hc, hcell⟩
  · rw [sumV_yes (by simp)]
    clear hm hl
    go_enter Tryd.func62, Tryd.ntmps62
    go_wp2_with fail
    refine wp_loop_rounds 1 ?_
    rw [rounds_succ]
    go_wp2_with fail
    go_ret2
    exact ⟨rfl, rfl⟩
  obtain ⟨n, hn⟩ : ∃ n, n = l.length := ⟨_, rfl⟩
  rw [← hn] at hc h0 hl ⊢
  have HN := Lib.hid hn
  have HC := Lib.hid hcell
  clear hn hcell hm
  go_enter Tryd.func62, Tryd.ntmps62
  go_wp2_with fail
  go_loop [4, 9] (fun vs vi => SmI l vs vi) (fun _ vi => n - (intOf vi).toNat)
  case atStart => exact ⟨0, by omega, rfl, rfl, by simp⟩
  case round =>
    obtain ⟨k, hk, rfl, rfl, hsm⟩ := hrel
    rw [← HN.out] at hk
    obtain ⟨s, hse⟩ : ∃ s, s = (l.take k).sum := ⟨_, rfl⟩
    rw [← hse] at hsm ⊢
    rw [most_eq] at hsm
    by_cases hlt : k < n
    · obtain ⟨x, hx⟩ : ∃ x, x = l.getD k 0 := ⟨_, rfl⟩
      have ck : w.cell? ⟨bb, off + k, none⟩ = some (.int .u64 (x : Nat)) := by rw [hx]; exact HC.out k (by rw [← HN.out]; exact hlt)
      have HT : Hid ((l.take (k + 1)).sum = s + x) := by
        show _ = _
        rw [sum_take_succ (by rw [← HN.out]; exact hlt), hse, hx]
      have HO : Hid (most < s + x → ¬ l.sum ≤ most) := fun h => sum_over (k := k) (by rw [← HN.out]; exact hlt) (by rw [← hse, ← hx]; exact h)
      have HNL : Hid (k + 1 ≤ l.length) := by show _ ≤ _; rw [← HN.out]; omega
      clear hx hse HC
      by_cases hov : s + x ≤ 2100000000000000
      · have hno : ¬ (2100000000000000 - (s : Int) < (x : Int)) := by omega
        go_wp2_with fail
        go_round
        case rel => exact ⟨k + 1, HNL.out, by go_num, by rw [HT.out]; go_num, by rw [HT.out, most_eq]; exact hov⟩
        case measure => simp [intOf]; omega
      · have hyes : (2100000000000000 - (s : Int) < (x : Int)) := by omega
        have HF : Hid (sumV l = .tuple #[.int .u64 0, .bool false]) := sumV_no (HO.out (by rw [most_eq]; omega))
        clear HO HT
        go_wp2_with fail
        go_ret2
        exact ⟨by rw [HF.out]; rfl, rfl⟩
    · have hkn : k = n := by omega
      have HF : Hid (sumV l = .tuple #[.int .u64 (s : Nat), .bool true]) := by
        have e : l.take k = l := List.take_of_length_le (by rw [← HN.out]; omega)
        show _ = _
        rw [hse, e]
        exact sumV_yes (by rw [← e, ← hse, most_eq]; exact hsm)
      clear hkn hse HC
      go_wp2_with fail
      go_ret2
      exact ⟨by rw [HF.out]; rfl, rfl⟩
end Go.Proofs.YtcghbogkplcohaaDoor.Sha

/-
  The statements' own numbers in bytes and sums (chapter 2) answer what the chapter says; nothing that was there turns but the row that they are given. Conditions: own rows that are short; amounts that lie where the slice says.
-/
namespace Go.Proofs.YtcghbogkplcohaaDoor.Sha
open Go Go.RowKit
/-- An own row of bytes, nothing below B turned. -/
def OwnB (base B : Nat) (w0 w : World) (v : Value) (bs : List UInt8) : Prop := w.ownsRow base 5 1 v bs.length (bs.map bV) ∧ Below B w0 w ∧ B ≤ w.heap.size
def LtInv (n many base : Nat) (bs : List UInt8) (w : World) (vb vi : Value) (wr : World) : Prop :=
  ∃ k : Nat, k ≤ many ∧ vi = .int .i64 k ∧ OwnB base base w wr vb (bs ++ leB n k)
theorem OwnB.push {base B : Nat} {w0 w w' : World} {v v' : Value} {bs : List UInt8} {o : Obj} (c : UInt8) (h : OwnB base B w0 w v bs) (hB : B ≤ base) (ho : w'.ownsRow base 5 1 v' (bs.length + 1) (bs.map bV ++ [.int .u8 (bv c)])) (hg : (w.alloc o).grownBy w' v.ownBlock) : OwnB base B w0 w' v' (bs ++ [c]) := by
  refine ⟨?_, own_grown (h.2.1.alloc h.2.2 o) hB (by have := h.2.2; simp; omega) (h.1.alloc o) hg, by have := hg.size; have := h.2.2; simp at *; omega⟩
  rw [List.map_append, List.length_append]
  exact ho
end Go.Proofs.YtcghbogkplcohaaDoor.Sha

/-
  The statements' own Four, Eight, Put write a number behind bytes of the caller's: whatever else was there stays, but for the row written to. Conditions: the row is the caller's own, fewer than 2^46 bytes.
-/
namespace Go.Proofs.YtcghbogkplcohaaDoor.Sha
open Go Go.RowKit
/-- An own row of bytes; since w0 nothing turned but the row r. -/
def OwnG (base : Nat) (r : Option Nat) (w0 w : World) (v : Value) (bs : List UInt8) : Prop :=
  w.ownsRow base 5 1 v bs.length (bs.map bV) ∧ w0.grownBy w r ∧ (v.ownBlock = r ∨ ∃ k, v.ownBlock = some k ∧ w0.heap.size ≤ k) ∧ base ≤ w.heap.size
theorem OwnG.start {base : Nat} {w : World} {v : Value} {bs : List UInt8} (h : w.ownsRow base 5 1 v bs.length (bs.map bV)) (hb : base ≤ w.heap.size) : OwnG base v.ownBlock w w v bs := ⟨h, grownBy_refl _ _, .inl rfl, hb⟩
theorem grown_over {w0 w w' : World} {r q : Option Nat} (h : w0.grownBy w r) (hg : w.grownBy w' q) (hq : q = r ∨ ∃ k, q = some k ∧ w0.heap.size ≤ k) : w0.grownBy w' r :=
  ⟨hg.os.trans h.os, hg.tape.trans h.tape, hg.output.trans h.output, Nat.le_trans h.size hg.size, fun k hk hne => by
    rw [hg.block k (Nat.lt_of_lt_of_le hk h.size) (by
      rcases hq with rfl | ⟨k', rfl, hk'⟩
      · exact hne
      · exact fun e => by have := Option.some.inj e; omega)]
    exact h.block k hk hne⟩
theorem OwnG.push {base : Nat} {r : Option Nat} {w0 w w' : World} {v v' : Value} {bs : List UInt8} {o : Obj} (c : UInt8) (h : OwnG base r w0 w v bs) (ho : w'.ownsRow base 5 1 v' (bs.length + 1) (bs.map bV ++ [.int .u8 (bv c)])) (hg : (w.alloc o).grownBy w' v.ownBlock)
    (hv : v'.ownBlock = v.ownBlock ∨ v'.ownBlock = some (w.alloc o).heap.size) : OwnG base r w0 w' v' (bs ++ [c]) := by
  have hg2 : w.grownBy w' v.ownBlock := grownBy_trans (World.grownBy_alloc w o _) hg
  refine ⟨?_, grown_over h.2.1 hg2 h.2.2.1, ?_, Nat.le_trans h.2.2.2 hg2.size⟩
  · rw [List.map_append, List.length_append]
    exact ho
  · rcases hv with e | e
    · rw [e]
      exact h.2.2.1
    · exact .inr ⟨_, e, by have := h.2.1.size; simp; omega⟩
theorem OwnG.trans {base : Nat} {r : Option Nat} {w0 w w' : World} {v v' : Value} {bs cs : List UInt8} (h : OwnG base r w0 w v bs) (k : OwnG base v.ownBlock w w' v' cs) : OwnG base r w0 w' v' cs :=
  ⟨k.1, grown_over h.2.1 k.2.1 h.2.2.1, by
    rcases k.2.2.1 with e | ⟨q, e, hq⟩
    · rw [e]
      exact h.2.2.1
    · exact .inr ⟨q, e, Nat.le_trans h.2.1.size hq⟩, k.2.2.2⟩
/-- Many bytes at once. -/
theorem OwnG.app {base : Nat} {r : Option Nat} {w0 w w' : World} {v v' : Value} {bs cs : List UInt8} (h : OwnG base r w0 w v bs) (ho : w'.ownsRow base 5 1 v' (bs.length + cs.length) (bs.map bV ++ cs.map bV)) (hg : w.grownBy w' v.ownBlock)
    (hv : v'.ownBlock = v.ownBlock ∨ v'.ownBlock = some w.heap.size) : OwnG base r w0 w' v' (bs ++ cs) := by
  refine ⟨?_, grown_over h.2.1 hg h.2.2.1, ?_, Nat.le_trans h.2.2.2 hg.size⟩
  · rw [List.map_append, List.length_append]
    exact ho
  · rcases hv with e | e
    · rw [e]
      exact h.2.2.1
    · exact .inr ⟨_, e, h.2.1.size⟩
/-- Only new memory turned, if the row is above. -/
theorem OwnG.below {base B : Nat} {r : Option Nat} {w0 w : World} {v : Value} {bs : List UInt8} (h : OwnG base r w0 w v bs) (hr : ∀ k, r = some k → B ≤ k) (hB : B ≤ w0.heap.size) : Below B w0 w :=
  ⟨h.2.1.os, h.2.1.tape, h.2.1.output, h.2.1.size, fun k hk => h.2.1.block k (by omega) (fun e => by have := hr k e.symm; omega)⟩
section
variable {P : Program}
/-- Any bytes behind an own row: it stays where it was, or is new. -/
theorem wp_append_g (w : World) {o : Oper} {a : Act} {K : Act → World → Prop} {Q : Exit → Act → World → Prop}
    (s x : Operand) (t : TypeId) (hop : o.op = Op.call { callee := Callee.builtin Builtin.append, args := #[s, x], argTypes := #[t, t] })
    (base : Nat) (e : TypeId) (i : TypeInfo) (h1 : P.underlying t = some (.slice e)) (h2 : P.info? e = some i) (hz : i.zero = some (.int .u8 0)) (h4 : i.size = 1) (h5 : i.bytes = 1)
    (v : Value) (k : Nat) (xs : List Value) (hs : a.eval s = v) (hown : w.ownsRow base e 1 v k xs) (y : Value) (bs : List UInt8) (hx : a.eval x = y) (hsrc : SrcB w y bs) (hlen : k + bs.length ≤ 70368744177680) (hbase : base ≤ w.heap.size)
    (hK : ∀ v' w', w'.ownsRow base e 1 v' (k + bs.length) (xs ++ bs.map bV) → w.grownBy w' v.ownBlock → (v'.ownBlock = v.ownBlock ∨ v'.ownBlock = some w.heap.size) → K (a.put o.dst v') w') : o.wp P a w K Q := by
  rcases hsrc with ⟨sp, c, rfl, rfl⟩ | ⟨h0, bb, off, c, rfl, hc, hcell⟩
  · have hrun := run_append_any0 (P := P) (w := w) base t o.type e i h1 h2 v k xs (by rw [h4]; exact hown) sp c
    unfold Oper.wp
    simp [execOp, hop, resolve, invoke, builtin, hs, hx, hrun, Result.andThen]
    refine hK v w ?_ (grownBy_refl _ _) (.inl rfl)
    show w.ownsRow _ _ _ _ _ _
    simpa using hown
  · obtain ⟨v', w', hr, h2', h3', _, h5'⟩ := run_append_own_at (P := P) w base t o.type e i (.int .u8 0) 1 1 h1 h2 hz h4 h5 rfl (by decide) v k xs hown ⟨bb, off, none⟩ bs.length c (bs.map bV) (by simp)
      (fun j u hu => by
        rw [List.getElem?_map] at hu
        obtain ⟨b, hb, rfl⟩ := Option.map_eq_some_iff.1 hu
        have hj := (List.getElem?_eq_some_iff.1 hb).1
        rw [Addr.add_mid, hcell j hj]
        simp [bV, List.getD, hb])
      (bV_one' bs) (by unfold maxLen; omega) (by omega) hbase
    unfold Oper.wp execOp
    simp only [hop, resolve, invoke, builtin, Sem.run_bind, Sem.run_pure, Result.andThen_ok, List.map_toArray, List.map_cons, List.map_nil, hs, hx, hr]
    exact hK v' w' h2' h3' h5'
theorem wpList_append_g (w : World) {ops : Array Oper} {rest : List Oper} {o : Oper} {a : Act} {Q : Exit → Act → World → Prop} (hg : o.guard = none)
    (s x : Operand) (t : TypeId) (hop : o.op = Op.call { callee := Callee.builtin Builtin.append, args := #[s, x], argTypes := #[t, t] })
    (base : Nat) (e : TypeId) (i : TypeInfo) (h1 : P.underlying t = some (.slice e)) (h2 : P.info? e = some i) (hz : i.zero = some (.int .u8 0)) (h4 : i.size = 1) (h5 : i.bytes = 1)
    (v : Value) (k : Nat) (xs : List Value) (hs : a.eval s = v) (hown : w.ownsRow base e 1 v k xs) (y : Value) (bs : List UInt8) (hx : a.eval x = y) (hsrc : SrcB w y bs) (hlen : k + bs.length ≤ 70368744177680) (hbase : base ≤ w.heap.size)
    (hK : ∀ v' w', w'.ownsRow base e 1 v' (k + bs.length) (xs ++ bs.map bV) → w.grownBy w' v.ownBlock → (v'.ownBlock = v.ownBlock ∨ v'.ownBlock = some w.heap.size) → wpList P ops Q rest (a.put o.dst v') w') : wpList P ops Q (o :: rest) a w :=
  wpList_plain hg fun _ hK' => wp_append_g w s x t hop base e i h1 h2 hz h4 h5 v k xs hs hown y bs hx hsrc hlen hbase (fun v' w' a1 a2 a3 => hK' _ _ (hK v' w' a1 a2 a3))
end
def LgInv (n many base : Nat) (r : Option Nat) (bs : List UInt8) (w : World) (vb vi : Value) (wr : World) : Prop :=
  ∃ k : Nat, k ≤ many ∧ vi = .int .i64 k ∧ OwnG base r w wr vb (bs ++ leB n k)
end Go.Proofs.YtcghbogkplcohaaDoor.Sha

/-
  What may be read first in a region that draws its order; bytes in the middle of a block as a source. No conditions beyond those that each states.
-/
namespace Go.Proofs.YtcghbogkplcohaaDoor.Sha
open Go Go.RowKit
/-- A cell that every world of S holds may be read first. -/
theorem yieldsIf_load_one {P : Program} {ops : Array Oper} {S : World → Prop} {op : Oper} {a : Act} (hw : Region.wanted op (yielded ops a.tmps) = true) (ty : TypeId) (x : Operand) (ho : op.op = .load ty x)
    (b off : Nat) (hx : a.eval x = .pointer (some ⟨b, off, none⟩)) (v : Value) (d : TypeDesc) (hS : ∀ w, S w → w.cell? ⟨b, off, none⟩ = some v)
    (hu : P.underlying ty = some d) (hd : d.isRow = false) : YieldsIf P ops S op v a :=
  .inl ⟨hw, fun w hw' => by
    have hagg : (isAgg ty).run P w = .ok false w := by
      unfold isAgg
      rw [Sem.run_bind, run_underlying hu w]
      cases d <;> simp_all
    unfold execOp
    simp [ho, hx, Instr.loadAt, Instr.sureAddr, Sem.run_bind, loadVar, hagg, hS w hw']⟩
/-- A whole row that every world of S holds may be read first. -/
theorem yieldsIf_load_row {P : Program} {ops : Array Oper} {S : World → Prop} {op : Oper} {a : Act} (hw : Region.wanted op (yielded ops a.tmps) = true) (ty : TypeId) (x : Operand) (ho : op.op = .load ty x)
    (g : Nat) (hx : a.eval x = .pointer (some ⟨g, 0, none⟩)) (t : TypeId) (cs : Array Value) (fr : Nat × Nat) (d : TypeDesc) (hS : ∀ w, S w → w.heap[g]? = some (.cells cs t fr))
    (hu : P.underlying ty = some d) (hd : (match d with | .struct _ | .array _ _ => true | _ => false) = true) (hi : (P.info? ty).map (·.size) = some cs.size) : YieldsIf P ops S op (.agg cs) a :=
  .inl ⟨hw, fun w hw' => by
    unfold execOp
    simp only [ho, hx, Instr.loadAt, Instr.sureAddr, Sem.run_bind, Sem.run_pure, Result.andThen_ok, run_loadVar_row w g t ty cs fr d (hS w hw') hu hd hi]⟩
/-- A part of a block may be read first. -/
theorem yieldsIf_load_mid {P : Program} {ops : Array Oper} {S : World → Prop} {op : Oper} {a : Act} (hw : Region.wanted op (yielded ops a.tmps) = true) (ty : TypeId) (x : Operand) (ho : op.op = .load ty x)
    (b off : Nat) (hx : a.eval x = .pointer (some ⟨b, off, none⟩)) (cs : List Value) (d : TypeDesc) (hS : ∀ w, S w → w.rangeAt b off cs)
    (hu : P.underlying ty = some d) (hd : d.isRow = true) (hi : (P.info? ty).map (·.size) = some cs.length) : YieldsIf P ops S op (.agg cs.toArray) a :=
  .inl ⟨hw, fun w hw' => by
    unfold execOp
    simp only [ho, hx, Instr.loadAt, Instr.sureAddr, Sem.run_bind, Sem.run_pure, Result.andThen_ok, run_loadVar_mid w b off ty cs d (hS w hw') hu hd hi]⟩
/-- A part of a block as a source of bytes. -/
theorem src_range {w : World} {b o m c : Nat} {bs : List UInt8} (h : w.rangeAt b o (bs.map bV)) (hm : m = bs.length) (h0 : 0 < m) (hc : m ≤ c) : SrcB w (.slice (some ⟨b, o, none⟩) m c) bs := by
  refine .inr ⟨by omega, b, o, c, by rw [hm], by omega, fun j hj => h j _ ?_⟩
  rw [List.getElem?_map, List.getElem?_eq_getElem hj]
  simp [bV, List.getD, List.getElem?_eq_getElem hj]
theorem keyAt_src {w : World} {kv : Value} {key : List UInt8} (h : KeyAt w kv key) : SrcB w kv key := h.1
theorem get_of_drop {α : Type} {l rest : List α} {i : Nat} {x : α} (h : l.drop i = x :: rest) : l[i]? = some x := by
  have := congrArg (·[0]?) h
  simpa [List.getElem?_drop] using this
section
variable {P : Program} {md : Region.Mode} {l : List Oper} {Q : Exit → Act → World → Prop} {S : World → Prop}
/-- Take operation i first: the operation comes out written. -/
theorem held_take {i : Nat} {oi : Oper} {rest : List Oper} {v : Value} {fuel : Nat} {listed : Array Bool} {a : Act} {w : World} (hd : l.drop i = oi :: rest)
    (hs : Region.noSelect l.toArray = true) (hf : Region.free md l.toArray listed i = true) (hr : (Region.ready md l.toArray listed).contains i = true)
    (hQ : ∀ c a w, Q (.panic c) (a.put oi.dst v) w → Q (.panic c) a w) (hy : YieldsIf P l.toArray S oi v a) (hS : S w)
    (h : wpAnyH P md l.toArray Q S fuel (listed.setIfInBounds i true) (a.put oi.dst v) w) : wpAnyH P md l.toArray Q S (fuel + 1) listed a w :=
  wpAnyH_take (by rw [List.getElem?_toArray]; exact get_of_drop hd) hs hf hr hQ hy hS h
/-- Operation i comes up. -/
theorem held_cons {fuel : Nat} {listed : Array Bool} {a : Act} {w : World} {i : Nat} {o : Oper} {rest : List Oper} {rs : List Nat} (hd : l.drop i = o :: rest)
    (h : ∀ K' : Act → World → Prop, Shut (∀ a w, S w → (S w → wpAnyH P md l.toArray Q S fuel (listed.setIfInBounds i true) a w) → K' a w) → if Region.wanted o (yielded l.toArray a.tmps) = true then Oper.wp P o a w K' Q else K' (a.put o.dst undef) w)
    (hs : AllReadyH P md l.toArray Q S fuel listed a w rs) : AllReadyH P md l.toArray Q S fuel listed a w (i :: rs) :=
  AllReadyH.cons (by rw [List.getElem?_toArray]; exact get_of_drop hd) h hs
end
end Go.Proofs.YtcghbogkplcohaaDoor.Sha

/-
  The statements' own TxBytes writes a transaction's bytes as the chapter says. Nothing that was there turns. Conditions: a transaction that lies in memory; its inputs' bytes and its outputs' bytes fewer than 2^44.
-/
namespace Go.Proofs.YtcghbogkplcohaaDoor.Sha
open Go Go.RowKit
theorem gr_drew {w w' : World} {r : Option Nat} (h : w.grownBy w' r) : w.grownBy w'.drew r := ⟨h.os, h.tape, h.output, h.size, h.block⟩
theorem OwnG.keep {base : Nat} {r : Option Nat} {w0 w w' : World} {v : Value} {bs : List UInt8} (h : OwnG base r w0 w v bs) (hb : Below w.heap.size w w') : OwnG base r w0 w' v bs :=
  ⟨own_kept h.1 hb, grownBy_trans h.2.1 (grownBy_of_below hb _), h.2.2.1, Nat.le_trans h.2.2.2 hb.size⟩
theorem insB_succ {l : List TIn} {k : Nat} {x : TIn} (h : l[k]? = some x) : insB (l.take (k + 1)) = insB (l.take k) ++ inB x := by
  have hk := (List.getElem?_eq_some_iff.1 h).1
  rw [List.take_succ_eq_append_getElem hk]
  have e : l[k] = x := (List.getElem?_eq_some_iff.1 h).2
  rw [e]
  simp [insB]
theorem outsB_succ {l : List TOut} {k : Nat} {x : TOut} (h : l[k]? = some x) : outsB (l.take (k + 1)) = outsB (l.take k) ++ outB x := by
  have hk := (List.getElem?_eq_some_iff.1 h).1
  rw [List.take_succ_eq_append_getElem hk]
  have e : l[k] = x := (List.getElem?_eq_some_iff.1 h).2
  rw [e]
  simp [outsB]
theorem insB_le {l : List TIn} {k : Nat} {x : TIn} (h : l[k]? = some x) : (insB (l.take k)).length + (inB x).length ≤ (insB l).length := by
  rw [← List.length_append, ← insB_succ h]
  have e : insB l = insB (l.take (k + 1)) ++ insB (l.drop (k + 1)) := by
    conv => lhs; rw [← List.take_append_drop (k + 1) l]
    simp only [insB, List.flatMap_append]
  rw [e, List.length_append]
  omega
theorem outsB_le {l : List TOut} {k : Nat} {x : TOut} (h : l[k]? = some x) : (outsB (l.take k)).length + (outB x).length ≤ (outsB l).length := by
  rw [← List.length_append, ← outsB_succ h]
  have e : outsB l = outsB (l.take (k + 1)) ++ outsB (l.drop (k + 1)) := by
    conv => lhs; rw [← List.take_append_drop (k + 1) l]
    simp only [outsB, List.flatMap_append]
  rw [e, List.length_append]
  omega
def TbInv (base n : Nat) (A : Nat → List UInt8) (w1 : World) (vb vi : Value) (wr : World) : Prop :=
  ∃ (k : Nat) (vq : Value), vq = vb ∧ k ≤ n ∧ vi = .int .i64 k ∧ Below w1.heap.size w1 wr ∧ ∃ r w0, r = none ∧ OwnG base r w0 wr vq (A k)
end Go.Proofs.YtcghbogkplcohaaDoor.Sha

/-
  The statements' own Values lists a transaction's amounts; their own Size counts its bytes. Nothing that was there turns. Conditions: a transaction that lies in memory; fewer than 2^44 bytes.
-/
namespace Go.Proofs.YtcghbogkplcohaaDoor.Sha
open Go Go.RowKit
theorem info_u64v : (Tryd.prog.info? 34).map (fun i => (i.zero, i.size, i.bytes)) = some (some (.int .u64 0), 1, 8) := by kernel_rfl
/-- An own row of numbers of 64 bits reads as them. -/
theorem srcU_own {w : World} {base n : Nat} {v : Value} {l : List Nat} (h : w.ownsRow base 34 1 v n (l.map uV)) : SrcU w v l := by
  have hl : n = l.length := by have := h.1; rw [List.length_map] at this; omega
  by_cases hn : 0 < n
  · rcases h.2 with ⟨_, h0⟩ | ⟨g, cap, cur, rfl, hb, hg, hc, _⟩
    · omega
    · refine .inr ⟨by omega, g, 0, cap, by rw [hl], by omega, fun j hj => ?_⟩
      rw [Nat.zero_add, h.cellAt j (by omega), List.getElem?_map, List.getElem?_eq_getElem hj]
      simp [uV, List.getD, List.getElem?_eq_getElem hj]
  · have e : l = [] := List.eq_nil_of_length_eq_zero (by omega)
    rcases h.2 with ⟨rfl, _⟩ | ⟨g, cap, cur, rfl, _⟩
    · exact .inl ⟨_, _, rfl, e⟩
    · exact .inl ⟨_, _, by rw [show n = 0 by omega], e⟩
def VlInv (base n : Nat) (t : TTx) (w1 : World) (vb vi : Value) (wr : World) : Prop :=
  ∃ (k : Nat) (vq : Value), vq = vb ∧ k ≤ n ∧ vi = .int .i64 k ∧ Below w1.heap.size w1 wr ∧ wr.ownsRow base 34 1 vq k (((t.outs.take k).map (·.val)).map uV)
end Go.Proofs.YtcghbogkplcohaaDoor.Sha

/-
  The statements' own SameTx tells whether two transactions are the same. Nothing that was there turns. Conditions: transactions that lie in memory, keys of fewer than 2^46 bytes.
-/
namespace Go.Proofs.YtcghbogkplcohaaDoor.Sha
open Go Go.RowKit
def StInv (n : Nat) (P : Nat → Prop) (g : Nat) (ct cu : Array Value) (w : World) (i : Value) (wr : World) : Prop :=
  ∃ k : Nat, k ≤ n ∧ i = .int .i64 k ∧ P k ∧ wr.heap[g]? = some (.cells ct 32 (0, 0)) ∧ wr.heap[g + 1]? = some (.cells cu 32 (0, 0)) ∧ Below w.heap.size w wr
theorem list_of_get {α : Type} {l m : List α} (hl : l.length = m.length) (h : ∀ j, j < l.length → l[j]? = m[j]?) : l = m := by
  apply List.ext_getElem hl
  intro i h1 h2
  have := h i h1
  rw [List.getElem?_eq_getElem h1, List.getElem?_eq_getElem h2] at this
  exact Option.some.inj this
end Go.Proofs.YtcghbogkplcohaaDoor.Sha

/-
  The place that is none, spend.Null and the statements' own, is 32 bytes of 0 and the number 0xffffffff; IsNull tells it. Nothing that was there turns. Condition: a digest of 32 bytes.
-/
namespace Go.Proofs.YtcghbogkplcohaaDoor.Sha
open Go Go.RowKit
set_option maxRecDepth 100000 in
theorem null_any (w : World) :
    Calls Tryd.prog 14 #[] w fun e w' => e = .returned (.agg nullL.toArray) ∧ Below w.heap.size w w' := by
  go_enter Tryd.func14, Tryd.ntmps14
  go_wp2_with ((with_reducible show wpList _ _ _ _ _ _); first | (refine wpList_buildTo rfl 39 _ rfl _ rfl nullL.toArray (by kernel_rfl) ?_; go_frame) | (refine wpList_store_row rfl 39 (.tmp 0) (.tmp 1) rfl w.heap.size nullL.toArray rfl rfl 39 _ (heap_alloc_new _ _) (by kernel_rfl) (by kernel_rfl) (ptL_one _ _) ?_; go_frame))
  refine bodyPost_ret (results_cell_row rfl _ _ w.heap.size 39 nullL.toArray (0, 0) _ rfl (setRow_heap _ _ _ _ _ _ (heap_alloc_new _ _)) Tryd.underlying39 rfl (by kernel_rfl)) rfl ⟨rfl, below_setRow ((Below.refl _ _).alloc (Nat.le_refl _) _) (Nat.le_refl _) _⟩
set_option maxRecDepth 100000 in
theorem isnull_any (h : List UInt8) (n : Nat) (hh : h.length = 32) (b : Bool) (hb : b = (decide (h = List.replicate 32 0) && decide (n = 4294967295))) (w : World) :
    Calls Tryd.prog 52 #[.agg (ptL h n).toArray] w fun e w' => e = .returned (.bool b) ∧ Below w.heap.size w w' := by
  have hs := ptL_size h n hh
  have HS := Lib.hid hs
  have HH := Lib.hid hh
  have HB := Lib.hid hb
  clear hs hh hb
  go_enter Tryd.func52, Tryd.ntmps52
  go_upto_region 1 with fail
  have F := Lib.hid (heap_alloc_new w (.cells (ptL h n).toArray 39 (0, 0)))
  have B := Lib.hid ((Below.refl w.heap.size w).alloc (Nat.le_refl _) (.cells (ptL h n).toArray 39 (0, 0)))
  generalize hw1 : World.alloc _ _ = w1
  rw [hw1] at F B
  clear hw1
  refine wp_region_below (by kernel_rfl) (by kernel_rfl) w1 (Below.refl _ _) ?_
  go_big_quiet_want
  refine quiet_load_row 39 (.tmp 1) rfl w.heap.size rfl 39 (ptL h n).toArray (0, 0) _ (fun w' hw' => row_below F.out hw') Tryd.underlying39 rfl (by rw [HS.out]; kernel_rfl) ?_
  go_frame
  go_big_quiet_on
  go_big_quiet_step ((intro hw'; exact cls hw' (null_any _)))
  go_big_quiet_want
  refine quiet_eql_pt (.tmp 3) (.tmp 4) _ rfl h (List.replicate 32 0) n 4294967295 HH.out rfl rfl rfl b HB.out ?_
  go_frame
  go_big_quiet_on
  repeat (go_big_quiet_step ((intro _; rfl)))
  refine wpQuiet_nil ?_
  intro w7 hw7
  have HW7 := Lib.hid (B.out.trans (hw7.mono B.out.size))
  clear hw7
  go_wp2_with fail
  go_ret
  exact ⟨rfl, HW7.out⟩
end Go.Proofs.YtcghbogkplcohaaDoor.Sha

/-
  The statements' own Base tells whether a transaction makes coins. Nothing that was there turns. Condition: a transaction that lies in memory.
-/
namespace Go.Proofs.YtcghbogkplcohaaDoor.Sha
open Go Go.RowKit
theorem base_one {t : TTx} {x : TIn} (h1 : t.ins.length = 1) (hx : t.ins[0]? = some x) : baseB t = isNullIn x := by
  obtain ⟨a, l, b, c⟩ := t
  simp only at h1 hx
  match l, h1 with
  | [y], _ =>
    obtain rfl : y = x := Option.some.inj hx
    rfl
theorem base_not {t : TTx} (h1 : t.ins.length ≠ 1) : baseB t = false := by
  obtain ⟨a, l, b, c⟩ := t
  simp only at h1
  unfold baseB
  match l, h1 with
  | [], _ => rfl
  | [y], h => exact absurd rfl h
  | _ :: _ :: _, _ => rfl
end Go.Proofs.YtcghbogkplcohaaDoor.Sha

/-
  The statements' own CheckTx tells what is amiss first with a transaction. Nothing that was there turns. Conditions: a transaction that lies in memory, its bytes fewer than 2^44.
-/
namespace Go.Proofs.YtcghbogkplcohaaDoor.Sha
open Go Go.RowKit
theorem samePtIn_symm (x y : TIn) : samePtIn x y = samePtIn y x := by
  unfold samePtIn
  rw [Bool.eq_iff_iff]
  simp only [Bool.and_eq_true, decide_eq_true_eq]
  constructor <;> (rintro ⟨a, b⟩; exact ⟨a.symm, b.symm⟩)
theorem twice_true : ∀ {l : List TIn} {a b : Nat} {x y : TIn}, b < a → l[a]? = some x → l[b]? = some y → samePtIn x y = true → twiceB l = true
  | [], _, _, _, _, _, h, _, _ => by simp at h
  | z :: l, a, b, x, y, hlt, ha, hb, hs => by
    obtain ⟨a, rfl⟩ : ∃ c, a = c + 1 := ⟨a - 1, by omega⟩
    rw [List.getElem?_cons_succ] at ha
    cases b with
    | zero =>
      simp at hb
      subst hb
      have : (l.any (samePtIn z)) = true := by
        rw [List.any_eq_true]
        exact ⟨x, List.mem_of_getElem? ha, by rw [samePtIn_symm]; exact hs⟩
      simp [twiceB, this]
    | succ b =>
      rw [List.getElem?_cons_succ] at hb
      simp [twiceB, twice_true (by omega) ha hb hs]
theorem twice_false : ∀ {l : List TIn}, (∀ (a b : Nat) (x y : TIn), b < a → l[a]? = some x → l[b]? = some y → samePtIn x y = false) → twiceB l = false
  | [], _ => rfl
  | z :: l, h => by
    have h1 : twiceB l = false := twice_false (fun a b x y hab ha hb => h (a + 1) (b + 1) x y (by omega) (by rw [List.getElem?_cons_succ]; exact ha) (by rw [List.getElem?_cons_succ]; exact hb))
    have h2 : (l.any (samePtIn z)) = false := by
      rw [List.any_eq_false]
      intro x hx
      obtain ⟨i, hi⟩ := List.getElem?_of_mem hx
      have := h (i + 1) 0 x z (by omega) (by rw [List.getElem?_cons_succ]; exact hi) rfl
      rw [samePtIn_symm, this]
      simp
    simp [twiceB, h1, h2]
theorem any_false {α : Type} {l : List α} {p : α → Bool} (h : ∀ (j : Nat) (x : α), l[j]? = some x → p x = false) : l.any p = false := by
  rw [List.any_eq_false]
  intro x hx
  obtain ⟨j, hj⟩ := List.getElem?_of_mem hx
  rw [h j x hj]
  simp
theorem any_true {α : Type} {l : List α} {p : α → Bool} {j : Nat} {x : α} (h : l[j]? = some x) (hp : p x = true) : l.any p = true := List.any_eq_true.2 ⟨x, List.mem_of_getElem? h, hp⟩
def CkInv (n : Nat) (P : Nat → Prop) (w1 : World) (i : Value) (wr : World) : Prop := ∃ k : Nat, k ≤ n ∧ i = .int .i64 k ∧ P k ∧ Below w1.heap.size w1 wr
theorem chk_many {t : TTx} (h : t.ins.length = 0 ∨ 50 < t.ins.length ∨ t.outs.length = 0 ∨ 50 < t.outs.length) : checkN t = 104 := by unfold checkN; rw [if_pos h]
theorem chk_rest {t : TTx} (h : ¬ (t.ins.length = 0 ∨ 50 < t.ins.length ∨ t.outs.length = 0 ∨ 50 < t.outs.length)) : checkN t =
    if 4000 < (txB t).length then 103 else if t.ins.any (fun x => decide (80 < x.key.length)) then 114 else if sumIs (t.outs.map (·.val)) = false then 105 else if twiceB t.ins then 106
    else if baseB t then (if t.ins.any (fun x => decide (x.key.length < 4)) then 107 else 0) else if t.ins.any isNullIn then 107 else 0 := by unfold checkN; rw [if_neg h]
end Go.Proofs.YtcghbogkplcohaaDoor.Sha

/-
  The statements' own 'light' tells whether a transaction is small; their own Base whether it makes coins. Nothing that was there turns. Condition: a transaction that lies in memory.
-/
namespace Go.Proofs.YtcghbogkplcohaaDoor.Sha
open Go Go.RowKit
/-- Small enough. -/
def lightB (t : TTx) : Bool := decide (t.ins.length ≤ 60) && (decide (t.outs.length ≤ 60) && t.ins.all fun x => decide (x.key.length ≤ 100))
theorem all_take {α : Type} {l : List α} {p : α → Bool} (h : ∀ (j : Nat) (x : α), l[j]? = some x → p x = true) : l.all p = true := by
  rw [List.all_eq_true]
  intro x hx
  obtain ⟨j, hj⟩ := List.getElem?_of_mem hx
  exact h j x hj
def LitInv (n g : Nat) (t : TTx) (ct : Array Value) (w : World) (i : Value) (wr : World) : Prop :=
  ∃ k : Nat, k ≤ n ∧ i = .int .i64 k ∧ (∀ j x, j < k → t.ins[j]? = some x → x.key.length ≤ 100) ∧ wr.heap[g]? = some (.cells ct 32 (0, 0)) ∧ Below w.heap.size w wr
end Go.Proofs.YtcghbogkplcohaaDoor.Sha

/-
  What package tx is shown to answer, call by call, as hypotheses for the statements' walks. A transaction of a few inputs and outputs is small. No conditions.
-/
namespace Go.Proofs.YtcghbogkplcohaaDoor.Sha
open Go Go.RowKit
/-- The errors that package tx tells are there. -/
def Er8 (w : World) (E : Nat → Addr) : Prop := ∀ i, i < 7 ∨ i = 13 → w.cell? ⟨errG.getD i 0, 0, none⟩ = some (errV E (i + 1))
theorem Er8.below {w w' : World} {E : Nat → Addr} (h : Er8 w E) (hb : Below w.heap.size w w') : Er8 w' E := fun i hi => by
  rw [hb.cell (p := ⟨errG.getD i 0, 0, none⟩) (World.block_lt_of_cell? w _ (h i hi))]
  exact h i hi
theorem Errs.e8 {w : World} {E : Nat → Addr} (h : Errs w E) : Er8 w E := fun i hi => (h.1 i (by omega)).1
/-- The errors that package tx's Check tells. -/
def Er6 (w : World) (E : Nat → Addr) : Prop := ∀ i, (2 ≤ i ∧ i < 7) ∨ i = 13 → w.cell? ⟨errG.getD i 0, 0, none⟩ = some (errV E (i + 1))
theorem Er6.below {w w' : World} {E : Nat → Addr} (h : Er6 w E) (hb : Below w.heap.size w w') : Er6 w' E := fun i hi => by
  rw [hb.cell (p := ⟨errG.getD i 0, 0, none⟩) (World.block_lt_of_cell? w _ (h i hi))]
  exact h i hi
theorem Er8.e6 {w : World} {E : Nat → Addr} (h : Er8 w E) : Er6 w E := fun i hi => h i (by omega)
/-- The errors that package block's Check tells. -/
def ErB (w : World) (E : Nat → Addr) : Prop := ∀ i, (2 ≤ i ∧ i < 8) ∨ i = 13 ∨ i = 21 → w.cell? ⟨errG.getD i 0, 0, none⟩ = some (errV E (i + 1))
theorem ErB.below {w w' : World} {E : Nat → Addr} (h : ErB w E) (hb : Below w.heap.size w w') : ErB w' E := fun i hi => by
  rw [hb.cell (p := ⟨errG.getD i 0, 0, none⟩) (World.block_lt_of_cell? w _ (h i hi))]
  exact h i hi
theorem ErB.e6 {w : World} {E : Nat → Addr} (h : ErB w E) : Er6 w E := fun i hi => h i (by omega)
theorem Errs.eB {w : World} {E : Nat → Addr} (h : Errs w E) : ErB w E := fun i hi => (h.1 i (by omega)).1
theorem Er8.er {w : World} {E : Nat → Addr} (h : Er8 w E) : Er w E := ⟨h 0 (by omega), h 1 (by omega), h 3 (by omega)⟩
/-- Few enough. -/
def TxSmall (t : TTx) : Prop := TxCame t ∧ t.ins.length ≤ 1000 ∧ t.outs.length ≤ 1000 ∧ KeysLe t.ins 100000
theorem insB_bound : ∀ (l : List TIn) {n : Nat}, InsOk l → KeysLe l n → (insB l).length ≤ (49 + n) * l.length
  | [], _, _, _ => by simp [insB]
  | x :: l, n, h, hk => by
    have ih := insB_bound l (fun z hz => h z (List.mem_cons_of_mem _ hz)) (fun z hz => hk z (List.mem_cons_of_mem _ hz))
    have h1 := inB_length x (h x List.mem_cons_self)
    have h2 := lenN_bd x.key.length
    have h3 := hk x List.mem_cons_self
    simp only [insB] at ih
    simp only [insB, List.flatMap_cons, List.length_append, List.length_cons, h1, Nat.mul_add, Nat.mul_one]
    omega
theorem TxSmall.ins0 {t : TTx} (h : TxSmall t) : (insB t.ins).length ≤ 200000000 := by
  have h1 := insB_bound t.ins h.1.2.1 h.2.2.2
  have h2 := h.2.1
  have : (49 + 100000) * t.ins.length ≤ (49 + 100000) * 1000 := Nat.mul_le_mul_left _ h2
  omega
theorem TxSmall.ins {t : TTx} (h : TxSmall t) : (insB t.ins).length ≤ 17592186044416 := Nat.le_trans h.ins0 (by omega)
theorem TxSmall.outs {t : TTx} (h : TxSmall t) : (outsB t.outs).length ≤ 17592186044416 := by
  have h1 := outsB_length t.outs h.1.2.2.1
  have h2 := h.2.2.1
  omega
theorem TxSmall.len {t : TTx} (h : TxSmall t) : (txB t).length ≤ 35184372088832 := by
  have h1 := h.ins0
  have h2 := h.outs
  have h3 := lenN_bd t.ins.length
  have h4 := lenN_bd t.outs.length
  simp only [txB, List.length_append, leB_length, putL_length]
  omega
theorem TxSmall.fit {t : TTx} (h : TxSmall t) : TxFit t :=
  ⟨h.1.1, h.1.2.1, h.1.2.2.1, fun x hx => Nat.le_trans (h.2.2.2 x hx) (by omega), Nat.le_trans h.2.1 (by omega), Nat.le_trans h.2.2.1 (by omega)⟩
theorem small_of_light {t : TTx} (h : TxCame t) (hl : lightB t = true) : TxSmall t := by
  unfold lightB at hl
  simp only [Bool.and_eq_true, decide_eq_true_eq, List.all_eq_true] at hl
  obtain ⟨h1, h2, h3⟩ := hl
  exact ⟨h, by omega, by omega, fun x hx => by have := h3 x hx; omega⟩
/-- A number from 0 on as the errors' places count. -/
def checkC (t : TTx) : Nat := checkN t - 100
theorem check_num (t : TTx) : numE (checkC t) = (checkN t : Int) ∧ checkC t ≤ 25 := by
  unfold checkC checkN
  split
  · exact ⟨rfl, by omega⟩
  split
  · exact ⟨rfl, by omega⟩
  split
  · exact ⟨rfl, by omega⟩
  split
  · exact ⟨rfl, by omega⟩
  split
  · exact ⟨rfl, by omega⟩
  split
  · split <;> exact ⟨rfl, by omega⟩
  · split <;> exact ⟨rfl, by omega⟩
/-- A transaction all of whose memory is above base. -/
def BytesC : Prop := ∀ (t : TTx) (v : Value) (w : World), TxAt w v t → TxSmall t →
  Calls Tryd.prog 43 #[v] w fun e w' => ∃ v', e = .returned v' ∧ w'.ownsRow w.heap.size 5 1 v' (txB t).length ((txB t).map bV) ∧ Below w.heap.size w w'
def SizeC : Prop := ∀ (t : TTx) (v : Value) (w : World), TxAt w v t → TxSmall t →
  Calls Tryd.prog 33 #[v] w fun e w' => e = .returned (.int .i64 ((txB t).length : Int)) ∧ Below w.heap.size w w'
def BaseC : Prop := ∀ (t : TTx) (v : Value) (w : World) (b : Bool), b = baseB t → TxAt w v t → TxSmall t →
  Calls Tryd.prog 35 #[v] w fun e w' => e = .returned (.bool b) ∧ Below w.heap.size w w'
def CheckC (E : Nat → Addr) : Prop := ∀ (t : TTx) (v : Value) (w : World) (c : Nat), c = checkC t → Er6 w E → TxAt w v t → TxSmall t →
  Calls Tryd.prog 34 #[v] w fun e w' => e = .returned (errV E c) ∧ Below w.heap.size w w'
def CloneC : Prop := ∀ (t : TTx) (v : Value) (w : World), TxAt w v t → TxSmall t →
  Calls Tryd.prog 23 #[v] w fun e w' => ∃ v', e = .returned v' ∧ TxAt w' v' t ∧ Below w.heap.size w w'
end Go.Proofs.YtcghbogkplcohaaDoor.Sha

/-
  compact.Put answers the bytes and behind them the number in the fewest bytes, in new memory; nothing that was there turns. Conditions: fewer than 2^46 bytes, which lie where the slice says.
-/
namespace Go.Proofs.YtcghbogkplcohaaDoor.Sha
open Go Go.RowKit
theorem ret_slice {p : Option Addr} {a b c : Nat} (h : a = b) : Ending.returned (.slice p a c) = .returned (.slice p b c) := by rw [h]
theorem newB_of {w w' : World} {k k2 c : Nat} {bs : List UInt8} (h : NewB w w' k c bs) (hk : k = k2) : NewB w w' k2 c bs := by subst hk; exact h
set_option maxRecDepth 100000 in
theorem put_0 (bs : List UInt8) (sp : Option Addr) (n cap x : Nat) (w : World) (hs : SrcB w (.slice sp n cap) bs) (hn : n ≤ 70368744177664) (hl : lenN x = 1) :
    Calls Tryd.prog 59 #[.slice sp n cap, .int .u64 x] w fun e w' => e = .returned (.slice (some ⟨w.heap.size, 0, none⟩) (n + 1) (n + 1)) ∧ NewB w w' (n + 1) (n + 1) (bs ++ [UInt8.ofNat x]) := by
  obtain ⟨i0, hi, hz0, hz1, hz2⟩ := info_parts info_u8
  have hby : (x : Int) % 256 = bv (UInt8.ofNat x) := by rw [← bv_of, IntKind.wrap_u8']
  obtain ⟨c, hc⟩ : ∃ c, c = UInt8.ofNat x := ⟨_, rfl⟩
  rw [← hc] at hby ⊢
  have HS := Lib.hid hs
  have HL := Lib.hid (show ((lenN x : Nat) : Int) = 1 by rw [hl]; rfl)
  clear hs hl hc
  go_enter Tryd.func59, Tryd.ntmps59
  go_wp2_with (first | (go_at_call 32; refine (len_is x 1 _ HL.out).mono ?_; rintro e w' ⟨rfl, rfl⟩) | (go_at_call 30; refine (room_any bs sp n cap 1 1 rfl _ HS.out hn (by omega)).mono ?_; rintro e w1 ⟨rfl, hn1⟩; have HN1 := Lib.hid hn1; clear hn1) | (at_builtin; refine wpList_append_fits _ rfl _ _ 40 rfl w.heap.size 5 i0 1 Tryd.underlying40 hi hz1 w.heap.size n (n + 1) _ rfl (HN1.out.1.alloc _) ⟨w1.heap.size, 0, none⟩ 1 1 [.int .u8 (bv c)] rfl rfl (cell_one_new _ _ _) (one_u8 _) (by omega) ?_; intro w2 ho hg; have HN2 := Lib.hid (HN1.out.push c ho hg); clear ho hg; go_frame))
  go_ret
  exact ⟨rfl, HN2.out⟩
set_option maxHeartbeats 400000 in
set_option maxRecDepth 100000 in
theorem put_2 (bs : List UInt8) (sp : Option Addr) (n cap x : Nat) (w : World) (hs : SrcB w (.slice sp n cap) bs) (hn : n ≤ 70368744177664) (hl : lenN x = 3) :
    Calls Tryd.prog 59 #[.slice sp n cap, .int .u64 x] w fun e w' => e = .returned (.slice (some ⟨w.heap.size, 0, none⟩) (n + 3) (n + 3)) ∧ NewB w w' (n + 3) (n + 3) (bs ++ 253 :: leB x 2) := by
  obtain ⟨i0, hi, hz0, hz1, hz2⟩ := info_parts info_u8
  have HS := Lib.hid hs
  have HL := Lib.hid (show ((lenN x : Nat) : Int) = 3 by rw [hl]; rfl)
  clear hs hl
  go_enter Tryd.func59, Tryd.ntmps59
  go_wp2_with (first | (go_at_call 32; refine (len_is x 3 _ HL.out).mono ?_; rintro e w' ⟨rfl, rfl⟩) | (go_at_call 30; refine (room_any bs sp n cap 3 3 rfl _ HS.out hn (by omega)).mono ?_; rintro e w1 ⟨rfl, hn1⟩; have HN1 := Lib.hid hn1; clear hn1) | (at_builtin; refine wpList_append_fits _ rfl _ _ 40 rfl w.heap.size 5 i0 1 Tryd.underlying40 hi hz1 w.heap.size n (n + 3) _ rfl (HN1.out.1.alloc _) ⟨w1.heap.size, 0, none⟩ 1 1 [.int .u8 (bv 253)] rfl rfl (cell_one_new _ _ _) (one_u8 _) (by omega) ?_; intro w2 ho hg; have HN2 := Lib.hid (HN1.out.push 253 ho hg); clear ho hg; go_frame) | (go_at_call 29; refine (lowest_any x 2 w.heap.size (n + 1) (n + 3) 2 rfl ((bs ++ [253]).map bV) _ (by omega) (by omega) (by omega) HN2.out.lt HN2.out.1).mono ?_; rintro e w3 ⟨rfl, ho, hb⟩; have HN3 := Lib.hid (HN2.out.low hb ho); clear ho hb))
  go_ret
  have h := HN3.out
  rw [List.append_assoc] at h
  exact ⟨ret_slice (by omega), newB_of h (by omega)⟩
set_option maxHeartbeats 400000 in
set_option maxRecDepth 100000 in
theorem put_4 (bs : List UInt8) (sp : Option Addr) (n cap x : Nat) (w : World) (hs : SrcB w (.slice sp n cap) bs) (hn : n ≤ 70368744177664) (hl : lenN x = 5) :
    Calls Tryd.prog 59 #[.slice sp n cap, .int .u64 x] w fun e w' => e = .returned (.slice (some ⟨w.heap.size, 0, none⟩) (n + 5) (n + 5)) ∧ NewB w w' (n + 5) (n + 5) (bs ++ 254 :: leB x 4) := by
  obtain ⟨i0, hi, hz0, hz1, hz2⟩ := info_parts info_u8
  have HS := Lib.hid hs
  have HL := Lib.hid (show ((lenN x : Nat) : Int) = 5 by rw [hl]; rfl)
  clear hs hl
  go_enter Tryd.func59, Tryd.ntmps59
  go_wp2_with (first | (go_at_call 32; refine (len_is x 5 _ HL.out).mono ?_; rintro e w' ⟨rfl, rfl⟩) | (go_at_call 30; refine (room_any bs sp n cap 5 5 rfl _ HS.out hn (by omega)).mono ?_; rintro e w1 ⟨rfl, hn1⟩; have HN1 := Lib.hid hn1; clear hn1) | (at_builtin; refine wpList_append_fits _ rfl _ _ 40 rfl w.heap.size 5 i0 1 Tryd.underlying40 hi hz1 w.heap.size n (n + 5) _ rfl (HN1.out.1.alloc _) ⟨w1.heap.size, 0, none⟩ 1 1 [.int .u8 (bv 254)] rfl rfl (cell_one_new _ _ _) (one_u8 _) (by omega) ?_; intro w2 ho hg; have HN2 := Lib.hid (HN1.out.push 254 ho hg); clear ho hg; go_frame) | (go_at_call 29; refine (lowest_any x 4 w.heap.size (n + 1) (n + 5) 4 rfl ((bs ++ [254]).map bV) _ (by omega) (by omega) (by omega) HN2.out.lt HN2.out.1).mono ?_; rintro e w3 ⟨rfl, ho, hb⟩; have HN3 := Lib.hid (HN2.out.low hb ho); clear ho hb))
  go_ret
  have h := HN3.out
  rw [List.append_assoc] at h
  exact ⟨ret_slice (by omega), newB_of h (by omega)⟩
set_option maxHeartbeats 400000 in
set_option maxRecDepth 100000 in
theorem put_8 (bs : List UInt8) (sp : Option Addr) (n cap x : Nat) (w : World) (hs : SrcB w (.slice sp n cap) bs) (hn : n ≤ 70368744177664) (hl : lenN x = 9) :
    Calls Tryd.prog 59 #[.slice sp n cap, .int .u64 x] w fun e w' => e = .returned (.slice (some ⟨w.heap.size, 0, none⟩) (n + 9) (n + 9)) ∧ NewB w w' (n + 9) (n + 9) (bs ++ 255 :: leB x 8) := by
  obtain ⟨i0, hi, hz0, hz1, hz2⟩ := info_parts info_u8
  have HS := Lib.hid hs
  have HL := Lib.hid (show ((lenN x : Nat) : Int) = 9 by rw [hl]; rfl)
  clear hs hl
  go_enter Tryd.func59, Tryd.ntmps59
  go_wp2_with (first | (go_at_call 32; refine (len_is x 9 _ HL.out).mono ?_; rintro e w' ⟨rfl, rfl⟩) | (go_at_call 30; refine (room_any bs sp n cap 9 9 rfl _ HS.out hn (by omega)).mono ?_; rintro e w1 ⟨rfl, hn1⟩; have HN1 := Lib.hid hn1; clear hn1) | (at_builtin; refine wpList_append_fits _ rfl _ _ 40 rfl w.heap.size 5 i0 1 Tryd.underlying40 hi hz1 w.heap.size n (n + 9) _ rfl (HN1.out.1.alloc _) ⟨w1.heap.size, 0, none⟩ 1 1 [.int .u8 (bv 255)] rfl rfl (cell_one_new _ _ _) (one_u8 _) (by omega) ?_; intro w2 ho hg; have HN2 := Lib.hid (HN1.out.push 255 ho hg); clear ho hg; go_frame) | (go_at_call 29; refine (lowest_any x 8 w.heap.size (n + 1) (n + 9) 8 rfl ((bs ++ [255]).map bV) _ (by omega) (by omega) (by omega) HN2.out.lt HN2.out.1).mono ?_; rintro e w3 ⟨rfl, ho, hb⟩; have HN3 := Lib.hid (HN2.out.low hb ho); clear ho hb))
  go_ret
  have h := HN3.out
  rw [List.append_assoc] at h
  exact ⟨ret_slice (by omega), newB_of h (by omega)⟩
theorem put_any (bs : List UInt8) (sp : Option Addr) (n cap x : Nat) (w : World) (hs : SrcB w (.slice sp n cap) bs) (hn : n ≤ 70368744177664) :
    Calls Tryd.prog 59 #[.slice sp n cap, .int .u64 x] w fun e w' => e = .returned (.slice (some ⟨w.heap.size, 0, none⟩) (n + lenN x) (n + lenN x)) ∧ NewB w w' (n + lenN x) (n + lenN x) (bs ++ putL x) := by
  by_cases h1 : x < 253
  · have e : lenN x = 1 := by unfold lenN; rw [if_pos h1]
    have e2 : putL x = [UInt8.ofNat x] := by unfold putL; rw [if_pos h1]
    rw [e2]
    simp only [e]
    exact put_0 bs sp n cap x w hs hn e
  by_cases h2 : x ≤ 65535
  · have e : lenN x = 3 := by unfold lenN; rw [if_neg h1, if_pos h2]
    have e2 : putL x = 253 :: leB x 2 := by unfold putL; rw [if_neg h1, if_pos h2]
    rw [e2]
    simp only [e]
    exact put_2 bs sp n cap x w hs hn e
  by_cases h3 : x ≤ 4294967295
  · have e : lenN x = 5 := by unfold lenN; rw [if_neg h1, if_neg h2, if_pos h3]
    have e2 : putL x = 254 :: leB x 4 := by unfold putL; rw [if_neg h1, if_neg h2, if_pos h3]
    rw [e2]
    simp only [e]
    exact put_4 bs sp n cap x w hs hn e
  · have e : lenN x = 9 := by unfold lenN; rw [if_neg h1, if_neg h2, if_neg h3]
    have e2 : putL x = 255 :: leB x 8 := by unfold putL; rw [if_neg h1, if_neg h2, if_neg h3]
    rw [e2]
    simp only [e]
    exact put_8 bs sp n cap x w hs hn e
end Go.Proofs.YtcghbogkplcohaaDoor.Sha

/-
  What the walks of package tx share: cells of an input and an output as rows, bytes of so many of them, sums that stay. No conditions beyond those that each states.
-/
namespace Go.Proofs.YtcghbogkplcohaaDoor.Sha
open Go Go.RowKit
theorem in_one (x : TIn) (kv : Value) (hk : kv.oneCell' = true) : (inL x kv).toArray.all (·.oneCell') = true := by
  rw [Array.all_eq_true_iff_forall_mem]
  intro u hu
  simp only [inL, ptL, List.mem_toArray, List.mem_append, List.mem_cons, List.mem_map, List.not_mem_nil, or_false] at hu
  rcases hu with (⟨a, _, rfl⟩ | rfl) | rfl | rfl
  · rfl
  · rfl
  · exact hk
  · rfl
theorem out_one (y : TOut) : (outL y).toArray.all (·.oneCell') = true := by
  rw [Array.all_eq_true_iff_forall_mem]
  intro u hu
  simp only [outL, List.mem_toArray, List.mem_cons, List.mem_map] at hu
  rcases hu with rfl | ⟨a, _, rfl⟩
  · rfl
  · rfl
theorem ins_snoc {l : List TIn} {k : Nat} {x : TIn} (h : l[k]? = some x) : insB (l.take (k + 1)) = insB (l.take k) ++ inB x := by
  have hk := (List.getElem?_eq_some_iff.1 h).1
  rw [List.take_succ_eq_append_getElem hk]
  have e : l[k] = x := (List.getElem?_eq_some_iff.1 h).2
  rw [e]
  simp [insB]
theorem outs_snoc {l : List TOut} {k : Nat} {x : TOut} (h : l[k]? = some x) : outsB (l.take (k + 1)) = outsB (l.take k) ++ outB x := by
  have hk := (List.getElem?_eq_some_iff.1 h).1
  rw [List.take_succ_eq_append_getElem hk]
  have e : l[k] = x := (List.getElem?_eq_some_iff.1 h).2
  rw [e]
  simp [outsB]
theorem ins_part {l : List TIn} {k : Nat} {x : TIn} (h : l[k]? = some x) : (insB (l.take k)).length + (inB x).length ≤ (insB l).length := by
  rw [← List.length_append, ← ins_snoc h]
  have e : insB l = insB (l.take (k + 1)) ++ insB (l.drop (k + 1)) := by
    conv => lhs; rw [← List.take_append_drop (k + 1) l]
    simp only [insB, List.flatMap_append]
  rw [e, List.length_append]
  omega
theorem outs_part {l : List TOut} {k : Nat} {x : TOut} (h : l[k]? = some x) : (outsB (l.take k)).length + (outB x).length ≤ (outsB l).length := by
  rw [← List.length_append, ← outs_snoc h]
  have e : outsB l = outsB (l.take (k + 1)) ++ outsB (l.drop (k + 1)) := by
    conv => lhs; rw [← List.take_append_drop (k + 1) l]
    simp only [outsB, List.flatMap_append]
  rw [e, List.length_append]
  omega
theorem i64_stays {x : Int} (h : 0 ≤ x ∧ x ≤ 9223372036854775807) : IntKind.i64.wrap x = x := IntWalk.i64_in _ (by omega)
theorem u64_stays {x : Int} (h : 0 ≤ x ∧ x ≤ 18446744073709551615) : IntKind.u64.wrap x = x := by rw [IntKind.wrap_u64]; omega
theorem TxSmall.bytes {t : TTx} (h : TxSmall t) : (txB t).length = 8 + lenN t.ins.length + lenN t.outs.length + (insB t.ins).length + 40 * t.outs.length := by
  simp only [txB, List.length_append, leB_length, putL_length, outsB_length t.outs h.1.2.2.1]
  omega
end Go.Proofs.YtcghbogkplcohaaDoor.Sha

/-
  The statements' own Bytes copies bytes into new memory. Conditions: at least one byte, fewer than 2^46; the bytes lie where the slice says.
-/
namespace Go.Proofs.YtcghbogkplcohaaDoor.Sha
open Go Go.RowKit
def CpInv (bs : List UInt8) (n : Nat) (w : World) (v i : Value) (wr : World) : Prop :=
  ∃ k : Nat, k ≤ n ∧ i = .int .i64 k ∧ v = .slice (some ⟨w.heap.size, 0, none⟩) k n ∧ wr.ownsRow w.heap.size 5 1 v k ((bs.take k).map bV) ∧ Below w.heap.size w wr
end Go.Proofs.YtcghbogkplcohaaDoor.Sha

/-
  What 'build' lays: a part over the zero value's cells, from an offset on. A place out of a digest and a number. Condition: a digest of 32 bytes.
-/
namespace Go.Proofs.YtcghbogkplcohaaDoor.Sha
open Go Go.RowKit
theorem fold_fill (off : Nat) : ∀ (v : List Value) (k : Nat) (cs : List Value), off + k + v.length ≤ cs.length →
    (v.zipIdx k).foldl (fun (cs : Array Value) (x : Value × Nat) => cs.setIfInBounds (off + x.2) x.1) cs.toArray = (cs.take (off + k) ++ v ++ cs.drop (off + k + v.length)).toArray
  | [], k, cs, _ => by simp
  | x :: v, k, cs, h => by
    rw [List.length_cons] at h
    rw [List.zipIdx_cons, List.foldl_cons, List.setIfInBounds_toArray, fold_fill off v (k + 1) (cs.set (off + k) x) (by rw [List.length_set]; omega)]
    congr 1
    have e1 : (cs.set (off + k) x).take (off + (k + 1)) = cs.take (off + k) ++ [x] := by
      rw [show off + (k + 1) = (off + k) + 1 by omega, List.take_succ_eq_append_getElem (by rw [List.length_set]; omega), List.getElem_set_self, List.take_set_of_le (by omega)]
    have e2 : (cs.set (off + k) x).drop (off + (k + 1) + v.length) = cs.drop (off + k + (x :: v).length) := by
      rw [List.drop_set_of_lt (by omega), List.length_cons]
      congr 1
      omega
    rw [e1, e2]
    simp
theorem fill_part (place : Nat → Option (Nat × Nat)) (i off : Nat) (v : Value) (vs cs : List Value) (rest : List (Nat × Value)) (hv : v.cells = vs.toArray) (hp : place i = some (off, vs.length)) (hl : off + vs.length ≤ cs.length) :
    Instr.fill place cs.toArray ((i, v) :: rest) = Instr.fill place (cs.take off ++ vs ++ cs.drop (off + vs.length)).toArray rest := by
  have h := fold_fill off vs 0 cs (by omega)
  rw [Instr.fill, hp]
  simp only [hv, List.size_toArray, ne_eq, not_true_eq_false, gt_iff_lt]
  rw [if_neg (by simp; omega)]
  congr 1
  rw [Nat.add_zero] at h
  rw [← h, ← Array.foldl_toList]
  simp
/-- A place built of a digest and a number. -/
theorem built_pt (h : List UInt8) (n : Nat) (hh : h.length = 32) : Tryd.prog.built 39 [(0, .agg (h.map bV).toArray), (1, .int .u32 (n : Int))] = some (ptL h n).toArray := by
  have hz : ∀ parts, Tryd.prog.built 39 parts = Instr.fill ([(0, 32), (32, 1)].toArray[·]?) (List.replicate 32 (bV 0) ++ [nV 0]).toArray parts := fun parts => by kernel_rfl
  rw [hz, fill_part _ 0 0 (.agg (h.map bV).toArray) (h.map bV) _ _ rfl (by simp [hh]) (by simp [hh]), List.take_zero, List.nil_append, List.length_map, hh, Nat.zero_add,
    fill_part _ 1 32 (.int .u32 (n : Int)) [.int .u32 (n : Int)] _ _ rfl rfl (by simp [hh])]
  have e : (h.map bV ++ (List.replicate 32 (bV 0) ++ [nV 0]).drop 32).take 32 = h.map bV := by rw [List.take_append_of_le_length (by simp [hh]), List.take_of_length_le (by simp [hh])]
  rw [e]
  have e2 : (h.map bV ++ (List.replicate 32 (bV 0) ++ [nV 0]).drop 32).drop (32 + [Value.int .u32 (n : Int)].length) = [] := List.drop_eq_nil_of_le (by simp [hh])
  rw [e2, List.append_nil]
  rfl
end Go.Proofs.YtcghbogkplcohaaDoor.Sha
