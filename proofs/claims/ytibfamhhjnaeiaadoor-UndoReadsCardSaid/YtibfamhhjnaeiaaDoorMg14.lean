/-
  Texts of this proof joined into one file: TxKeys, TxAdds, TxTwice, TxPlaces, TxCheckW, TxLits, UdFirst, UdTake. What each holds, and under which conditions, its own first sentence tells.
-/
import Derived.Maps.OwnSet
import Derived.DeepKeys4
import Derived.Great.BuildSlice
import Derived.Test.YtibfamhhjnaeiaaDoorMg05
import Derived.Test.YtibfamhhjnaeiaaDoorMg04
import Derived.Test.YtibfamhhjnaeiaaDoorMg12
import Derived.Test.YtibfamhhjnaeiaaDoorMg10
import Derived.Test.YtibfamhhjnaeiaaDoorMg13
import Derived.Test.YtibfamhhjnaeiaaDoorMg08
import Derived.Test.YtibfamhhjnaeiaaDoorMg07
/-
  Package tx tells how long the longest key of a transaction is, and whether a number is between two. Nothing that was there turns. Condition: a transaction of a few inputs and outputs that lies in memory.
-/
namespace Go.Proofs.YtibfamhhjnaeiaaDoor.Sha
open Go Go.RowKit
/-- The longest key of so many inputs. -/
def mostKey (l : List TIn) : Nat := l.foldl (fun m x => max m x.key.length) 0
theorem mostKey_snoc {l : List TIn} {k : Nat} {x : TIn} (h : l[k]? = some x) : mostKey (l.take (k + 1)) = max (mostKey (l.take k)) x.key.length := by
  have hk := List.getElem?_eq_some_iff.1 h
  rw [List.take_succ_eq_append_getElem hk.1, hk.2]
  simp [mostKey, List.foldl_append]
theorem fold_key : ∀ (l : List TIn) (m : Nat), (80 < l.foldl (fun m x => max m x.key.length) m) ↔ (80 < m ∨ ∃ x ∈ l, 80 < x.key.length)
  | [], m => by simp
  | x :: l, m => by
    rw [List.foldl_cons, fold_key l]
    simp only [List.mem_cons, exists_eq_or_imp]
    constructor
    · rintro (h | h)
      · by_cases hm : 80 < m
        · exact .inl hm
        · exact .inr (.inl (by omega))
      · exact .inr (.inr h)
    · rintro (h | h | h)
      · exact .inl (by omega)
      · exact .inl (by omega)
      · exact .inr h
theorem mostKey_over (l : List TIn) : l.any (fun x => decide (80 < x.key.length)) = decide (80 < mostKey l) := by
  rw [Bool.eq_iff_iff, List.any_eq_true, decide_eq_true_eq, mostKey, fold_key]
  simp
def LkInv (n : Nat) (t : TTx) (w1 : World) (vs vi : Value) (wr : World) : Prop :=
  ∃ k s : Nat, k ≤ n ∧ vi = .int .i64 k ∧ s = mostKey (t.ins.take k) ∧ s ≤ 100000 ∧ vs = .int .i64 s ∧ Below w1.heap.size w1 wr
end Go.Proofs.YtibfamhhjnaeiaaDoor.Sha

/-
  Package tx tells whether the amounts of a transaction are one that can be. Nothing that was there turns. Condition: a transaction of a few inputs and outputs that lies in memory.
-/
namespace Go.Proofs.YtibfamhhjnaeiaaDoor.Sha
open Go Go.RowKit
def AddInv (base n : Nat) (t : TTx) (w1 : World) (vb vi : Value) (wr : World) : Prop :=
  ∃ (k : Nat) (vq : Value), vq = vb ∧ k ≤ n ∧ vi = .int .i64 k ∧ Below w1.heap.size w1 wr ∧ wr.ownsRow base 29 1 vq k (((t.outs.take k).map (·.val)).map uV)
end Go.Proofs.YtibfamhhjnaeiaaDoor.Sha

/-
  The places that a transaction's inputs spend, as a map's keys: there are fewer keys than inputs just if two inputs have one place. Conditions: the inputs are what may be of inputs.
-/
namespace Go.Proofs.YtibfamhhjnaeiaaDoor.Sha
open Go Go.RowKit
open Go.Maps (addKey Keyed)
theorem any_key {L : List Lit} {x : Lit} (hx : WideAt.IsKeyLit x) : L.any (fun y => y.sameKey x) = true ↔ x ∈ L := by
  rw [List.any_eq_true]
  constructor
  · rintro ⟨y, hy, hs⟩
    rw [WideAt.sameKey_eq hs] at hy
    exact hy
  · exact fun h => ⟨x, h, WideAt.sameKey_self hx⟩
theorem keys_fewer (k : TIn → Lit) : ∀ (l : List TIn) (L : List Lit), (∀ x ∈ l, WideAt.IsKeyLit (k x)) → (∀ x ∈ l, ∀ y ∈ l, samePtIn x y = true ↔ k x = k y) →
    (((l.map k).foldl addKey L).length ≤ L.length + l.length ∧ (((l.map k).foldl addKey L).length < L.length + l.length ↔ (∃ x ∈ l, k x ∈ L) ∨ twiceB l = true))
  | [], L, _, _ => by simp [twiceB]
  | x :: l, L, h1, h2 => by
    have hx := h1 x List.mem_cons_self
    have ih := fun L => keys_fewer k l L (fun z hz => h1 z (List.mem_cons_of_mem _ hz)) (fun z hz y hy => h2 z (List.mem_cons_of_mem _ hz) y (List.mem_cons_of_mem _ hy))
    rw [List.map_cons, List.foldl_cons, List.length_cons]
    by_cases hm : k x ∈ L
    · have e : addKey L (k x) = L := by unfold addKey; rw [if_pos ((any_key hx).2 hm)]
      rw [e]
      obtain ⟨i1, -⟩ := ih L
      exact ⟨by omega, ⟨fun _ => .inl ⟨x, List.mem_cons_self, hm⟩, fun _ => by omega⟩⟩
    · have e : addKey L (k x) = L ++ [k x] := by unfold addKey; rw [if_neg (fun h => hm ((any_key hx).1 h))]
      rw [e]
      obtain ⟨i1, i2⟩ := ih (L ++ [k x])
      rw [List.length_append, List.length_singleton] at i1 i2
      refine ⟨by omega, ?_⟩
      rw [show L.length + (l.length + 1) = L.length + 1 + l.length by omega, i2]
      rw [show twiceB (x :: l) = (l.any (samePtIn x) || twiceB l) from rfl]
      simp only [Bool.or_eq_true, List.any_eq_true, List.mem_append, List.mem_singleton]
      constructor
      · rintro (⟨y, hy, hyL | hyx⟩ | ht)
        · exact .inl ⟨y, List.mem_cons_of_mem _ hy, hyL⟩
        · exact .inr (.inl ⟨y, hy, (h2 x List.mem_cons_self y (List.mem_cons_of_mem _ hy)).2 hyx.symm⟩)
        · exact .inr (.inr ht)
      · rintro (⟨y, hy, hyL⟩ | ⟨y, hy, hyx⟩ | ht)
        · rcases List.mem_cons.1 hy with rfl | hy
          · exact absurd hyL hm
          · exact .inl ⟨y, hy, .inl hyL⟩
        · exact .inl ⟨y, hy, .inr ((h2 x List.mem_cons_self y (List.mem_cons_of_mem _ hy)).1 hyx).symm⟩
        · exact .inr ht
theorem laid_out : laidOutB Tryd.prog = true := by kernel_rfl
theorem pt_row : (28 : TypeId) < Tryd.prog.types.size := of_decide_eq_true (by kernel_rfl)
theorem pt_wide : (match Tryd.prog.underlying 28 with | some (.array _ _) | some (.struct _) => true | _ => false) = true := by rw [pt_under]
theorem pt_typed : Tryd.prog.keyTypeAt 4 28 = true := by kernel_rfl
theorem pt_typed2 : Tryd.prog.keyType 28 = true := by kernel_rfl
theorem pt_cellsN : Tryd.prog.cellsOf 28 = 33 := by kernel_rfl
theorem hash_cellsN : Tryd.prog.cellsOf 25 = 32 := by kernel_rfl
theorem u8_cellsN : Tryd.prog.cellsOf 5 = 1 := by kernel_rfl
theorem u32_cellsN : Tryd.prog.cellsOf 26 = 1 := by kernel_rfl
set_option maxRecDepth 100000 in
theorem pt_law : Keyed Tryd.prog 28 := Keyed.of_law (deep_law_laid laid_out (by omega : 4 + 1 ≤ 10000) pt_row pt_typed pt_wide)
/-- A place as a map's key. -/
def ptLit (x : TIn) : Lit := .string (keyBytes ((x.h.map fun b => Lit.int .u8 (bv b)) ++ [.int .u32 (x.n : Int)]))
theorem mapM_all {α β : Type} {f : α → Option β} {g : α → β} : ∀ l : List α, (∀ x ∈ l, f x = some (g x)) → l.mapM f = some (l.map g)
  | [], _ => rfl
  | x :: l, h => by
    rw [List.mapM_cons, h x List.mem_cons_self, mapM_all l (fun y hy => h y (List.mem_cons_of_mem _ hy))]
    rfl
theorem flat_one {α β : Type} (g : α → β) : ∀ l : List α, (l.map fun i => [g i]).flatten = l.map g
  | [] => rfl
  | x :: l => by simp [flat_one g l]
theorem lits_u8 (d : Nat) (b : UInt8) : Tryd.prog.keyLits (d + 1) 5 [bV b] = some [.int .u8 (bv b)] := by
  have := bv_bd b
  simp only [Program.keyLits, Tryd.underlying5, bV]
  rw [if_pos]
  refine ⟨trivial, ?_⟩
  simp [Lit.wf, IntKind.min, IntKind.max, IntKind.signed, IntKind.bits]
  omega
theorem lits_u32 (d n : Nat) (h : n ≤ 4294967295) : Tryd.prog.keyLits (d + 1) 26 [nV n] = some [.int .u32 (n : Int)] := by
  simp only [Program.keyLits, Tryd.underlying26, nV]
  rw [if_pos]
  refine ⟨trivial, ?_⟩
  simp [Lit.wf, IntKind.min, IntKind.max, IntKind.signed, IntKind.bits]
  omega
theorem lits_array {P : Program} (d : Nat) {t n e : Nat} (cs : List Value) (hu : P.underlying t = some (.array n e)) : P.keyLits (d + 1) t cs =
    if cs.length = P.cellsOf t then ((List.range n).mapM fun i => P.keyLits d e ((cs.drop (i * P.cellsOf e)).take (P.cellsOf e))).map List.flatten else none := by
  conv => lhs; unfold Program.keyLits
  rw [hu]
theorem lits_struct {P : Program} (d : Nat) {t : Nat} {fs : Array Field} (cs : List Value) (hu : P.underlying t = some (.struct fs)) : P.keyLits (d + 1) t cs =
    if cs.length = P.cellsOf t ∧ fs.all (·.name != "_") = true then (fs.toList.mapM fun f => P.keyLits d f.type ((cs.drop f.offset).take (P.cellsOf f.type))).map List.flatten else none := by
  conv => lhs; unfold Program.keyLits
  rw [hu]
theorem lits_hash (d : Nat) (l : List UInt8) (h : l.length = 32) : Tryd.prog.keyLits (d + 2) 25 (l.map bV) = some (l.map fun b => .int .u8 (bv b)) := by
  rw [lits_array _ _ Tryd.underlying25]
  simp only [hash_cellsN, u8_cellsN, List.length_map, h, if_true, Nat.mul_one]
  rw [mapM_all (g := fun i => [Lit.int .u8 (bv (l.getD i 0))])]
  · show some _ = some _
    congr 1
    apply List.ext_getElem?
    intro i
    rw [flat_one (fun i => Lit.int .u8 (bv (l.getD i 0)))]
    simp only [List.getElem?_map]
    by_cases hi : i < 32
    · rw [List.getElem?_range hi, List.getElem?_eq_getElem (by omega)]
      simp [List.getD, List.getElem?_eq_getElem (show i < l.length by omega)]
    · rw [List.getElem?_eq_none (by simp; omega), List.getElem?_eq_none (by omega)]
      rfl
  · intro i hi
    have hi : i < 32 := List.mem_range.1 hi
    have e : ((l.map bV).drop i).take 1 = [bV (l.getD i 0)] := by
      rw [← List.map_drop, ← List.map_take, List.drop_eq_getElem_cons (show i < l.length by omega)]
      show [bV l[i]] = _
      simp [List.getD, List.getElem?_eq_getElem (show i < l.length by omega)]
    rw [e]
    exact lits_u8 d _
set_option maxRecDepth 100000 in
theorem pt_key (x : TIn) (hx : InOk x) : keyOf Tryd.prog 28 (.agg (ptL x.h x.n).toArray) = some (ptLit x) := by
  obtain ⟨m, hm⟩ : ∃ m, Tryd.prog.types.size = m + 2 := ⟨Tryd.prog.types.size - 2, by have : 28 < Tryd.prog.types.size := pt_row; omega⟩
  have hl : (ptL x.h x.n).length = 33 := by simp [ptL, hx.1]
  have hf : (Value.agg (ptL x.h x.n).toArray).formed Tryd.prog 28 = true := by
    unfold Value.formed
    rw [pt_under, pt_cellsN]
    simp [hl]
  have hL : Tryd.prog.keyLits (Tryd.prog.types.size + 1) 28 (ptL x.h x.n) = some ((x.h.map fun b => Lit.int .u8 (bv b)) ++ [.int .u32 (x.n : Int)]) := by
    rw [hm, lits_struct _ _ pt_under]
    have hpf := pt_fields
    generalize Tryd.prog.fieldsOf 28 = fs at hpf ⊢
    obtain ⟨fl⟩ := fs
    simp only [List.map_eq_cons_iff, List.map_eq_nil_iff] at hpf
    obtain ⟨f0, r0, rfl, e0, f1, r1, rfl, e1, rfl⟩ := hpf
    simp only [Prod.mk.injEq] at e0 e1
    obtain ⟨a0, b0, c0⟩ := e0
    obtain ⟨a1, b1, c1⟩ := e1
    have hg : (ptL x.h x.n).length = Tryd.prog.cellsOf 28 ∧ (List.toArray [f0, f1]).all (fun f => f.name != "_") = true := by
      rw [pt_cellsN]
      refine ⟨hl, ?_⟩
      simp [a0, a1]
    simp only [hg, if_true, and_self, List.mapM_cons, List.mapM_nil, b0, b1, c0, c1, hash_cellsN, u32_cellsN, List.drop_zero]
    have e2 : (ptL x.h x.n).take 32 = x.h.map bV := by simp [ptL, ← hx.1]
    have e3 : ((ptL x.h x.n).drop 32).take 1 = [nV x.n] := by simp [ptL, ← hx.1]
    rw [e2, e3, lits_hash _ _ hx.1, lits_u32 _ _ hx.2.1]
    rfl
  unfold keyOf
  rw [pt_under]
  simp only [pt_typed2, hf, Bool.and_self, if_true]
  rw [show (Value.agg (ptL x.h x.n).toArray).cells.toList = ptL x.h x.n by simp [Value.cells], hL]
  rfl
theorem ptLit_key (x : TIn) : WideAt.IsKeyLit (ptLit x) := trivial
theorem ptLit_same {x y : TIn} (hx : InOk x) (hy : InOk y) : samePtIn x y = true ↔ ptLit x = ptLit y := by
  constructor
  · intro h
    simp only [samePtIn, Bool.and_eq_true, decide_eq_true_eq] at h
    unfold ptLit
    rw [h.1, h.2]
  · intro h
    have h1 := pt_key x hx
    rw [h] at h1
    have h2 := pt_law.inj h1 (pt_key y hy)
    have h2 := Value.agg.inj h2
    have h3 := congrArg Array.toList h2
    simp only [ptL] at h3
    obtain ⟨h4, h5⟩ := List.append_inj h3 (by simp [hx.1, hy.1])
    have h6 : x.h = y.h := by
      have := List.map_inj_right (f := bV) (l := x.h) (l' := y.h) (fun a b e => bv_inj (Value.int.inj e).2)
      exact this.1 h4
    have h7 : x.n = y.n := by
      simp only [nV, List.cons.injEq, Value.int.injEq, true_and, and_true] at h5
      omega
    simp [samePtIn, h6, h7]
/-- Fewer places than inputs: two have one. -/
theorem twice_keys (l : List TIn) (h : InsOk l) : ((l.map ptLit).foldl addKey []).length ≤ l.length ∧ (decide (((l.map ptLit).foldl addKey []).length < l.length) = twiceB l) := by
  have h1 := keys_fewer ptLit l [] (fun x hx => ptLit_key x) (fun x hx y hy => ptLit_same (h x hx) (h y hy))
  simp only [List.length_nil, Nat.zero_add] at h1
  refine ⟨h1.1, ?_⟩
  rw [Bool.eq_iff_iff, decide_eq_true_eq, h1.2]
  simp
end Go.Proofs.YtibfamhhjnaeiaaDoor.Sha

/-
  Package tx tells whether two inputs of a transaction have one place. Nothing that was there turns. Condition: a transaction of a few inputs and outputs that lies in memory.
-/
namespace Go.Proofs.YtibfamhhjnaeiaaDoor.Sha
open Go Go.RowKit
open Go.Maps (addKey Keyed)
theorem run_makeMap_hint {P : Program} {w : World} (t kt et : TypeId) (k : IntKind) (n : Int) (hu : P.underlying t = some (.map kt et)) : (Instr.makeMap t (some (.int k n))).run P w = .ok (.map (some w.heap.size)) (w.alloc (.map #[] 0)) := by
  simp [Instr.makeMap, run_underlying hu, asInt, asIntOf, Result.andThen]
def placesD (l : List TIn) : DataW Unit := Maps.setOf (.agg []) (l.map ptLit)
theorem placesD_size (l : List TIn) : Maps.size (placesD l) = ((l.map ptLit).foldl addKey []).length :=
  Maps.size_setOf _ _ (fun x hx => by obtain ⟨y, _, rfl⟩ := List.mem_map.1 hx; exact ptLit_key y)
theorem placesD_snoc {l : List TIn} {k : Nat} {x : TIn} (h : l[k]? = some x) : placesD (l.take (k + 1)) = (placesD (l.take k)).put (ptLit x) (.agg []) := by
  have hk := List.getElem?_eq_some_iff.1 h
  rw [List.take_succ_eq_append_getElem hk.1, hk.2, placesD, List.map_append]
  exact Maps.setOf_snoc _ _ _
def PlInv (n mb : Nat) (t : TTx) (w1 : World) (vi : Value) (wr : World) : Prop :=
  ∃ k : Nat, k ≤ n ∧ vi = .int .i64 k ∧ wr.ownsMap Tryd.prog 28 unitElem mb k (placesD (t.ins.take k)) ∧ Below w1.heap.size w1 wr
end Go.Proofs.YtibfamhhjnaeiaaDoor.Sha

/-
  Package tx tells what is amiss with a transaction, in the order of the chapter. Nothing that was there turns. Conditions: a transaction of a few inputs and outputs that lies in memory; the errors are there.
-/
namespace Go.Proofs.YtibfamhhjnaeiaaDoor.Sha
open Go Go.RowKit
theorem chkC_many {t : TTx} (h : t.ins.length = 0 ∨ 50 < t.ins.length ∨ t.outs.length = 0 ∨ 50 < t.outs.length) : checkC t = 4 := by
  unfold checkC checkN
  rw [if_pos h]
theorem chkC_rest {t : TTx} (h : ¬ (t.ins.length = 0 ∨ 50 < t.ins.length ∨ t.outs.length = 0 ∨ 50 < t.outs.length)) : checkC t =
    if 4000 < (txB t).length then 3 else if 80 < mostKey t.ins then 14 else if sumIs (t.outs.map (·.val)) = false then 5 else if twiceB t.ins = true then 6 else if rightB t = true then 0 else 7 := by
  unfold checkC checkN rightB
  rw [if_neg h, mostKey_over]
  simp only [decide_eq_true_eq]
  split
  · rfl
  split
  · rfl
  split
  · rfl
  split
  · rfl
  by_cases hb : baseB t = true
  · rw [if_pos hb, if_pos hb]
    cases h4 : t.ins.any fun x => decide (x.key.length < 4) <;> rfl
  · rw [if_neg hb, if_neg hb]
    cases h4 : t.ins.any isNullIn <;> rfl
end Go.Proofs.YtibfamhhjnaeiaaDoor.Sha

/-
  Rows of one or two inputs, or outputs, as slices; what is amiss with transactions of few inputs. Conditions: those that each states.
-/
namespace Go.Proofs.YtibfamhhjnaeiaaDoor.Sha
open Go Go.RowKit
theorem insAt_one {w : World} {g : Nat} {x : TIn} {kv : Value} {fr : Nat × Nat} (h : w.heap[g]? = some (.cells (inL x kv).toArray 52 fr)) (hx : InOk x) (hk : KeyAt w kv x.key) : InsAt w (.slice (some ⟨g, 0, none⟩) 1 1) [x] :=
  ⟨_, 1, rfl, Nat.le_refl _, fun _ => ⟨g, 0, rfl, fun i y hy => by
    have hi := (List.getElem?_eq_some_iff.1 hy).1
    simp at hi
    subst hi
    simp only [List.getElem?_cons_zero, Option.some.injEq] at hy
    subst hy
    exact ⟨hx, kv, hk, range_of_box h⟩⟩⟩
theorem insAt_two {w : World} {g : Nat} {x y : TIn} {kv kw : Value} {fr : Nat × Nat} (h : w.heap[g]? = some (.cells (inL x kv ++ inL y kw).toArray 52 fr)) (hx : InOk x) (hy : InOk y) (hk : KeyAt w kv x.key) (hk2 : KeyAt w kw y.key) : InsAt w (.slice (some ⟨g, 0, none⟩) 2 2) [x, y] :=
  ⟨_, 2, rfl, Nat.le_refl _, fun _ => ⟨g, 0, rfl, fun i z hz => by
    have hr := range_of_box h
    have hl := inL_length x kv hx.1
    have hi := (List.getElem?_eq_some_iff.1 hz).1
    simp at hi
    obtain rfl | rfl : i = 0 ∨ i = 1 := by omega
    · simp only [List.getElem?_cons_zero, Option.some.injEq] at hz
      subst hz
      exact ⟨hx, kv, hk, fun j u hj => by
        have := hr j u (by rw [List.getElem?_append_left (List.getElem?_eq_some_iff.1 hj).1]; exact hj)
        simpa using this⟩
    · simp only [List.getElem?_cons_succ, List.getElem?_cons_zero, Option.some.injEq] at hz
      subst hz
      exact ⟨hy, kw, hk2, fun j u hj => by
        have := hr (35 + j) u (by rw [List.getElem?_append_right (by omega), hl, Nat.add_sub_cancel_left]; exact hj)
        simpa [Nat.add_assoc] using this⟩⟩⟩
theorem outsAt_one {w : World} {g : Nat} {y : TOut} {fr : Nat × Nat} (h : w.heap[g]? = some (.cells (outL y).toArray 55 fr)) (hy : OutOk y) : OutsAt w (.slice (some ⟨g, 0, none⟩) 1 1) [y] :=
  ⟨_, 1, rfl, Nat.le_refl _, fun _ => ⟨g, 0, rfl, fun i z hz => by
    have hi := (List.getElem?_eq_some_iff.1 hz).1
    simp at hi
    subst hi
    simp only [List.getElem?_cons_zero, Option.some.injEq] at hz
    subst hz
    exact ⟨hy, range_of_box h⟩⟩⟩
theorem nil_key (w : World) : KeyAt w (.slice none 0 0) [] := ⟨.inl ⟨_, _, rfl, rfl⟩, _, _, rfl⟩
def hOne : List UInt8 := 1 :: List.replicate 31 0
def bsX (bs : List UInt8) : TIn := ⟨zH, 4294967295, bs, 0⟩
def bsO (v : Nat) : TOut := ⟨v % 1000, zH⟩
def bsN : TIn := ⟨zH, 1, [], 0⟩
def bsV : TIn := ⟨hOne, 4294967295, [], 0⟩
def bsT (bs : List UInt8) (v : Nat) : TTx := ⟨0, [bsX bs], [bsO v], 0⟩
def bsU (bs : List UInt8) (v : Nat) : TTx := ⟨0, [bsN, bsX bs], [bsO v], 0⟩
def bsW (v : Nat) : TTx := ⟨0, [bsV], [bsO v], 0⟩
theorem bsX_ok (bs : List UInt8) : InOk (bsX bs) := ⟨rfl, Nat.le_refl _, Nat.zero_le _⟩
theorem bsN_ok : InOk bsN := ⟨rfl, by decide, Nat.zero_le _⟩
theorem bsV_ok : InOk bsV := ⟨rfl, Nat.le_refl _, Nat.zero_le _⟩
theorem bsO_ok (v : Nat) : OutOk (bsO v) := ⟨rfl, by show v % 1000 ≤ _; omega⟩
theorem small_of {l : List TIn} {v : Nat} (h1 : InsOk l) (h2 : l.length ≤ 2) (h3 : KeysLe l 80) : TxSmall ⟨0, l, [bsO v], 0⟩ :=
  ⟨⟨⟨Nat.zero_le _, Nat.zero_le _⟩, h1, fun y hy => by rw [List.mem_singleton.1 hy]; exact bsO_ok v, fun x hx => Nat.le_trans (h3 x hx) (by omega), by show l.length ≤ _; omega, by simp⟩, by show l.length ≤ _; omega, by simp, fun x hx => Nat.le_trans (h3 x hx) (by omega)⟩
theorem bs_sum (v : Nat) : sumIs [(bsO v).val] = true := by
  unfold sumIs
  rw [decide_eq_true_eq, most_eq]
  simp [bsO]
  omega
theorem bsT_small {bs : List UInt8} (v : Nat) (h : bs.length ≤ 80) : TxSmall (bsT bs v) := small_of (fun x hx => by rw [List.mem_singleton.1 hx]; exact bsX_ok bs) (by simp) (fun x hx => by rw [List.mem_singleton.1 hx]; exact h)
theorem bsU_small {bs : List UInt8} (v : Nat) (h : bs.length ≤ 80) : TxSmall (bsU bs v) := by
  refine small_of (fun x hx => ?_) (by simp) (fun x hx => ?_)
  · simp only [List.mem_cons, List.not_mem_nil, or_false] at hx
    rcases hx with rfl | rfl
    · exact bsN_ok
    · exact bsX_ok bs
  · simp only [List.mem_cons, List.not_mem_nil, or_false] at hx
    rcases hx with rfl | rfl
    · exact Nat.zero_le _
    · exact h
theorem bsW_small (v : Nat) : TxSmall (bsW v) := small_of (fun x hx => by rw [List.mem_singleton.1 hx]; exact bsV_ok) (by simp) (fun x hx => by rw [List.mem_singleton.1 hx]; exact Nat.zero_le _)
theorem zH_null : decide (zH = List.replicate 32 0) = true := by decide
theorem hOne_null : decide (hOne = List.replicate 32 0) = false := by decide
theorem bsX_null (bs : List UInt8) : isNullIn (bsX bs) = true := by
  unfold isNullIn bsX
  simp only [zH_null]
  rfl
theorem bsN_null : isNullIn bsN = false := by
  unfold isNullIn bsN
  simp
theorem bsV_null : isNullIn bsV = false := by
  unfold isNullIn bsV
  simp only [hOne_null]
  rfl
theorem bsT_base (bs : List UInt8) (v : Nat) : true = baseB (bsT bs v) := (bsX_null bs).symm
theorem bsU_base (bs : List UInt8) (v : Nat) : false = baseB (bsU bs v) := rfl
theorem bsW_base (v : Nat) : false = baseB (bsW v) := bsV_null.symm
theorem bsT_check {bs : List UInt8} (v : Nat) (h : bs.length ≤ 80) : checkC (bsT bs v) = if bs.length < 4 then 7 else 0 := by
  rw [chkC_rest (by simp [bsT])]
  have hb := (bsT_small v h).bytes
  have h1 : (insB (bsT bs v).ins).length ≤ 200 := by
    have e : insB (bsT bs v).ins = inB (bsX bs) := by simp [insB, bsT]
    rw [e, inB_length _ (bsX_ok bs)]
    have := lenN_bd (bsX bs).key.length
    have : (bsX bs).key.length = bs.length := rfl
    omega
  have h2 := lenN_bd (bsT bs v).ins.length
  have h3 := lenN_bd (bsT bs v).outs.length
  have h4 : (bsT bs v).outs.length = 1 := rfl
  rw [if_neg (by omega), if_neg (by show ¬ 80 < max 0 bs.length; omega), if_neg (by show ¬ sumIs [(bsO v).val] = false; rw [bs_sum]; simp), if_neg (by show ¬ (false || false) = true; simp)]
  have hr : rightB (bsT bs v) = !decide (bs.length < 4) := by
    unfold rightB
    rw [← bsT_base]
    simp [bsT, bsX]
  rw [hr]
  by_cases h5 : bs.length < 4
  · rw [if_pos h5, decide_eq_true h5]; rfl
  · rw [if_neg h5, decide_eq_false h5]; rfl
theorem bsU_check {bs : List UInt8} (v : Nat) (h : bs.length ≤ 80) : checkC (bsU bs v) = 7 := by
  rw [chkC_rest (by simp [bsU])]
  have hb := (bsU_small v h).bytes
  have h1 : (insB (bsU bs v).ins).length ≤ 300 := by
    have e : insB (bsU bs v).ins = inB bsN ++ inB (bsX bs) := by simp [insB, bsU]
    rw [e, List.length_append, inB_length _ (bsX_ok bs), inB_length _ bsN_ok]
    have := lenN_bd (bsX bs).key.length
    have := lenN_bd bsN.key.length
    have : (bsX bs).key.length = bs.length := rfl
    have : bsN.key.length = 0 := rfl
    omega
  have h2 := lenN_bd (bsU bs v).ins.length
  have h3 := lenN_bd (bsU bs v).outs.length
  have h4 : (bsU bs v).outs.length = 1 := rfl
  have h5 : twiceB (bsU bs v).ins = false := by
    show ((samePtIn bsN (bsX bs) || false) || (false || false)) = false
    have : samePtIn bsN (bsX bs) = false := by simp [samePtIn, bsN, bsX]
    rw [this]
    rfl
  have hr : rightB (bsU bs v) = false := by
    unfold rightB
    rw [← bsU_base]
    show (!(isNullIn bsN || (isNullIn (bsX bs) || false))) = false
    rw [bsX_null]
    simp
  rw [if_neg (by omega), if_neg (by show ¬ 80 < max (max 0 0) bs.length; omega), if_neg (by show ¬ sumIs [(bsO v).val] = false; rw [bs_sum]; simp), if_neg (by rw [h5]; simp), if_neg (by rw [hr]; simp)]
theorem bsW_check (v : Nat) : checkC (bsW v) = 0 := by
  rw [chkC_rest (by simp [bsW])]
  have hb := (bsW_small v).bytes
  have h1 : (insB (bsW v).ins).length ≤ 200 := by
    have e : insB (bsW v).ins = inB bsV := by simp [insB, bsW]
    rw [e, inB_length _ bsV_ok]
    have := lenN_bd bsV.key.length
    have : bsV.key.length = 0 := rfl
    omega
  have h2 := lenN_bd (bsW v).ins.length
  have h3 := lenN_bd (bsW v).outs.length
  have h4 : (bsW v).outs.length = 1 := rfl
  have hr : rightB (bsW v) = true := by
    unfold rightB
    rw [← bsW_base]
    show (!(isNullIn bsV || false)) = true
    rw [bsV_null]
    rfl
  rw [if_neg (by omega), if_neg (by show ¬ 80 < max 0 0; omega), if_neg (by show ¬ sumIs [(bsO v).val] = false; rw [bs_sum]; simp), if_neg (by show ¬ (false || false) = true; simp), if_pos hr]
end Go.Proofs.YtibfamhhjnaeiaaDoor.Sha

/-
  The statements' own first of layer 9 answers true. Nothing that was there turns. Conditions: the errors, the table of the rounds' words are there.
-/
namespace Go.Proofs.YtibfamhhjnaeiaaDoor.Sha
open Go Go.RowKit
theorem ecw_of {E : Nat → Addr} {w1 w : World} {a : Nat} {m : Option Nat} (h : EC w1 E) (hb : Below w1.heap.size w1 w) (ha : w1.heap.size ≤ a) (hm : ∀ b, m = some b → w1.heap.size ≤ b) : ECw E w a m := fun W hk => h.below
  ⟨hk.os.trans hb.os, hk.tape.trans hb.tape, hk.output.trans hb.output, Nat.le_trans hb.size hk.size, fun k hlt => (hk.block k (Nat.lt_of_lt_of_le hlt hb.size) ⟨by omega, fun e => by have := hm k e; omega⟩).trans (hb.block k hlt)⟩
theorem ktw_of {w1 w : World} {a : Nat} {m : Option Nat} (h : KTab w1) (hb : Below w1.heap.size w1 w) (ha : w1.heap.size ≤ a) (hm : ∀ b, m = some b → w1.heap.size ≤ b) : ∀ W, Kps (fun j => j ≠ a ∧ m ≠ some j) w W → KTab W := fun W hk => h.below
  ⟨hk.os.trans hb.os, hk.tape.trans hb.tape, hk.output.trans hb.output, Nat.le_trans hb.size hk.size, fun k hlt => (hk.block k (Nat.lt_of_lt_of_le hlt hb.size) ⟨by omega, fun e => by have := hm k e; omega⟩).trans (hb.block k hlt)⟩
def unX : TIn := ⟨zH, 4294967295, [], 0⟩
def unO : TOut := ⟨3, zH⟩
def unT : TTx := ⟨0, [unX], [unO], 0⟩
theorem unT_small : TxSmall unT := small_of (v := 3) (fun x hx => by rw [List.mem_singleton.1 hx]; exact ⟨rfl, Nat.le_refl _, Nat.zero_le _⟩) (Nat.le_succ _) (fun x hx => by rw [List.mem_singleton.1 hx]; exact Nat.zero_le _)
theorem put_base1 (ht : Int) (t : TTx) (y : TOut) (hb : baseB t = true) (ho : t.outs = [y]) (hy : y.val ≤ 2100000000000000) : putE ht [] t = .ok ([], [⟨⟨idT t, 0⟩, coinO ht true y⟩]) := by
  have h1 : insS t = [] := by unfold insS; rw [hb]; rfl
  have h2 : addR [] ⟨idT t, 0⟩ (coinO ht true y) = 0 := by
    unfold addR
    rw [if_neg (by show ¬ 2100000000000000 < y.val; omega)]
    rfl
  rw [putE, h1, ho, hb]
  show (match ([(y, 0)] : List (TOut × Nat)).foldlM (adStep (idT t) ht true) [] with | .error c => Except.error c | .ok l' => Except.ok ([], l')) = _
  rw [List.foldlM_cons]
  show (match (adStep (idT t) ht true [] (y, 0) >>= fun r => ([] : List (TOut × Nat)).foldlM (adStep (idT t) ht true) r) with | .error c => Except.error c | .ok l' => Except.ok ([], l')) = _
  rw [adStep, if_pos h2]
  rfl
theorem unT_apply : applyE 1 [] [unT] = .ok ([], [⟨⟨idT unT, 0⟩, coinO 1 true unO⟩]) := by
  have h := put_base1 1 unT unO (by rfl) rfl (by decide)
  have e : ([unT] : List TTx) = [] ++ [unT] := rfl
  rw [applyE, e, foldlM_snoc]
  show apStep 1 ([], []) unT = _
  rw [apStep, h]
  rfl
theorem kps_cell {F : Nat → Prop} {w w' : World} {p : Addr} {v : Value} (h : w.cell? p = some v) (hk : Kps F w w') (hf : F p.block) : w'.cell? p = some v := by
  rw [World.cell?_of_block (hk.block _ (World.block_lt_of_cell? _ _ h) hf)]
  exact h
/-- Transactions apart from a set, by what their cells hold. -/
theorem cell_apart {w : World} {a b o : Nat} {m : Option Nat} {l : List TSp} {v : Value} (hs : SetAt w a m l) (h : w.cell? ⟨b, o, none⟩ = some v) (hv : ∀ q, v ≠ .map q) : b ≠ a ∧ m ≠ some b := by
  refine ⟨fun e => ?_, fun e => ?_⟩
  · subst e
    have hl := hs.box
    rw [cell_of_row _ _ _ _ _ _ hl] at h
    cases o with
    | zero => exact hv m (by simpa using h.symm)
    | succ o => simp at h
  · have hm := hs.map
    rw [e] at hm
    obtain ⟨es, clock, hb, _⟩ := (show MapAt w b l from hm)
    rw [World.cell?, hb] at h
    cases h
theorem range_apart {w W : World} {a b o : Nat} {m : Option Nat} {l : List TSp} {cs : List Value} (hs : SetAt w a m l) (h : w.rangeAt b o cs) (hv : ∀ v ∈ cs, ∀ q, v ≠ .map q) (hk : Kps (fun j => j ≠ a ∧ m ≠ some j) w W) : W.rangeAt b o cs := fun j v hj =>
  kps_cell (h j v hj) hk (cell_apart hs (h j v hj) (hv v (List.mem_of_getElem? hj)))
theorem src_apart {w W : World} {a : Nat} {m : Option Nat} {l : List TSp} {v : Value} {bs : List UInt8} (hs : SetAt w a m l) (h : SrcB w v bs) (hk : Kps (fun j => j ≠ a ∧ m ≠ some j) w W) : SrcB W v bs := by
  rcases h with h | ⟨h0, bb, off, cap, hv, hc, hx⟩
  · exact .inl h
  · exact .inr ⟨h0, bb, off, cap, hv, hc, fun j hj => kps_cell (hx j hj) hk (cell_apart hs (hx j hj) (fun q e => by cases e))⟩
theorem no_map_in (x : TIn) (kv : Value) (hk : ∀ q, kv ≠ .map q) : ∀ v ∈ inL x kv, ∀ q, v ≠ .map q := by
  intro v hv q e
  subst e
  simp only [inL, ptL, List.mem_append, List.mem_map, List.mem_cons, List.not_mem_nil, or_false] at hv
  rcases hv with (⟨y, _, h⟩ | h) | h | h
  · cases h
  · cases h
  · exact hk q h.symm
  · cases h
theorem no_map_out (y : TOut) : ∀ v ∈ outL y, ∀ q, v ≠ .map q := by
  intro v hv q e
  subst e
  simp only [outL, List.mem_cons, List.mem_map] at hv
  rcases hv with h | ⟨y, _, h⟩
  · cases h
  · cases h
theorem key_apart {w W : World} {a : Nat} {m : Option Nat} {l : List TSp} {kv : Value} {key : List UInt8} (hs : SetAt w a m l) (h : KeyAt w kv key) (hk : Kps (fun j => j ≠ a ∧ m ≠ some j) w W) : KeyAt W kv key := ⟨src_apart hs h.1 hk, h.2⟩
theorem ins_apart {w W : World} {a : Nat} {m : Option Nat} {l : List TSp} {iv : Value} {xs : List TIn} (hs : SetAt w a m l) (h : InsAt w iv xs) (hk : Kps (fun j => j ≠ a ∧ m ≠ some j) w W) : InsAt W iv xs := by
  obtain ⟨sp, cap, hv, hc, hx⟩ := h
  refine ⟨sp, cap, hv, hc, fun h0 => ?_⟩
  obtain ⟨b, o, hs2, hg⟩ := hx h0
  refine ⟨b, o, hs2, fun i x hi => ?_⟩
  obtain ⟨ox, kv, hkey, hr⟩ := hg i x hi
  exact ⟨ox, kv, key_apart hs hkey hk, range_apart hs hr (no_map_in x kv (fun q e => by obtain ⟨_, sp, cap, e2⟩ := hkey; rw [e2] at e; cases e)) hk⟩
theorem outs_apart {w W : World} {a : Nat} {m : Option Nat} {l : List TSp} {ov : Value} {ys : List TOut} (hs : SetAt w a m l) (h : OutsAt w ov ys) (hk : Kps (fun j => j ≠ a ∧ m ≠ some j) w W) : OutsAt W ov ys := by
  obtain ⟨sp, cap, hv, hc, hx⟩ := h
  refine ⟨sp, cap, hv, hc, fun h0 => ?_⟩
  obtain ⟨b, o, hs2, hg⟩ := hx h0
  refine ⟨b, o, hs2, fun i y hi => ?_⟩
  obtain ⟨oy, hr⟩ := hg i y hi
  exact ⟨oy, range_apart hs hr (no_map_out y) hk⟩
/-- Transactions stand whatever is done to a set. -/
theorem TxsF.ofA {w : World} {a : Nat} {m : Option Nat} {l : List TSp} {v : Value} {txs : List TTx} (h : TxsAt w v txs) (hs : SetAt w a m l) : TxsF (fun j => j ≠ a ∧ m ≠ some j) w v txs := by
  obtain ⟨sp, cap, hv, hc, hx⟩ := h
  refine ⟨sp, cap, hv, hc, fun h0 => ?_⟩
  obtain ⟨b, o, hs2, hg⟩ := hx h0
  refine ⟨b, o, hs2, fun i t hi => ?_⟩
  obtain ⟨ok, iv, ov, hr, h1, h2⟩ := hg i t hi
  refine ⟨iv, ov, fun W hk => ⟨range_apart hs hr (fun u hu q e => ?_) hk, ok, iv, ov, rfl, ins_apart hs h1 hk, outs_apart hs h2 hk⟩⟩
  subst e
  simp only [txL, List.mem_cons, List.not_mem_nil, or_false] at hu
  rcases hu with hu | hu | hu | hu
  · cases hu
  · obtain ⟨_, _, rfl, _⟩ := h1; cases hu
  · obtain ⟨_, _, rfl, _⟩ := h2; cases hu
  · cases hu
set_option maxHeartbeats 2000000 in
set_option maxRecDepth 100000 in
theorem udfirst_any (E : Nat → Addr) (w : World) (hE : Errs w E) (hK : KTab w) :
    Calls Tryd.prog 4 #[] w fun e w' => e = .returned (.bool true) ∧ Below w.heap.size w w' := by
  obtain ⟨i1, hi1, hy0, hy1, hy2⟩ := info_parts info_in
  obtain ⟨i2, hi2, hv0, hv1, hv2⟩ := info_parts info_out
  obtain ⟨i3, hi3, hu0, hu1, hu2⟩ := info_parts info_tx
  have HE := Lib.hid hE
  have HK := Lib.hid hK
  clear hE hK
  go_enter Tryd.func4, Tryd.ntmps4
  go_upto_region 2 with fail
  have f1 := heap_alloc_new w (.cells #[.map none] 47 (0, 0))
  have b1 := (Below.refl w.heap.size w).alloc (Nat.le_refl _) (.cells #[.map none] 47 (0, 0))
  generalize hw1 : World.alloc _ _ = w1
  have e1 : w.alloc (.cells #[.map none] 47 (0, 0)) = w1 := hw1
  rw [e1] at f1 b1
  obtain ⟨gs, hgs⟩ : ∃ gs, gs = w.heap.size := ⟨_, rfl⟩
  rw [← hgs] at f1 ⊢
  have S1 : Hid (SetAt w1 gs none []) := ⟨f1, rfl⟩
  have B1 := Lib.hid b1
  have GS : Hid (w.heap.size ≤ gs) := by show _ ≤ _; omega
  clear f1 b1 hw1 e1 hgs
  go_wp2_with fail
  refine (rnull_any w1).mono ?_
  rintro e w2 ⟨rfl, bb⟩
  have S2 := Lib.hid (S1.out.below bb)
  have B2 := Lib.hid (B1.out.trans (bb.mono B1.out.size))
  have LI : Hid ((inL unX (.slice none 0 0)).length = 35) := inL_length _ _ rfl
  have LO : Hid ((outL unO).length = 33) := outL_length _ rfl
  have LT : Hid (([nV 0, .slice none 0 0, .slice none 0 0, nV 0] : List Value).length = 4) := rfl
  clear bb S1 B1
  go_wp2_with ((with_reducible show wpList _ _ _ _ _ _); first | (refine wpList_buildTo rfl 52 _ rfl _ rfl (inL unX (.slice none 0 0)).toArray (by kernel_rfl) ?_; go_frame) | (refine wpList_buildTo rfl 55 _ rfl _ rfl (outL unO).toArray (by kernel_rfl) ?_; go_frame) | (refine wpList_slice_one rfl 53 52 (.tmp 6) rfl (inL unX (.slice none 0 0)) rfl Tryd.underlying53 i1 _ hi1 hy0 (by rw [hy1, LI.out]) (by rw [LI.out]; omega) (by rw [LI.out]; omega) ?_; have nf := heap_alloc_new w2 (.cells ((inL unX (.slice none 0 0))).toArray 52 (0, 0)); have bb := (Below.refl w2.heap.size w2).alloc (Nat.le_refl _) (.cells ((inL unX (.slice none 0 0))).toArray 52 (0, 0)); obtain ⟨gI, hgI⟩ : ∃ g, g = w2.heap.size := ⟨_, rfl⟩; generalize hq : World.alloc _ _ = w3; have e2 : w2.alloc (.cells ((inL unX (.slice none 0 0))).toArray 52 (0, 0)) = w3 := hq; rw [e2] at nf bb; rw [← hgI] at nf ⊢; have FI := Lib.hid nf; have S2 := Lib.hid (S2.out.below bb); have B2 := Lib.hid (B2.out.trans (bb.mono B2.out.size)); clear nf bb hq e2 hgI; go_frame) | (refine wpList_slice_one rfl 56 55 (.tmp 8) rfl (outL unO) rfl Tryd.underlying56 i2 _ hi2 hv0 (by rw [hv1, LO.out]) (by rw [LO.out]; omega) (by rw [LO.out]; omega) ?_; have nf := heap_alloc_new w3 (.cells ((outL unO)).toArray 55 (0, 0)); have bb := (Below.refl w3.heap.size w3).alloc (Nat.le_refl _) (.cells ((outL unO)).toArray 55 (0, 0)); obtain ⟨gO, hgO⟩ : ∃ g, g = w3.heap.size := ⟨_, rfl⟩; generalize hq : World.alloc _ _ = w4; have e2 : w3.alloc (.cells ((outL unO)).toArray 55 (0, 0)) = w4 := hq; rw [e2] at nf bb; rw [← hgO] at nf ⊢; have FO := Lib.hid nf; have S2 := Lib.hid (S2.out.below bb); have B2 := Lib.hid (B2.out.trans (bb.mono B2.out.size)); have FI := Lib.hid (row_below FI.out bb); clear nf bb hq e2 hgO; go_frame) | (refine wpList_buildTo rfl 58 _ rfl _ rfl [nV 0, .slice (some ⟨gI, 0, none⟩) 1 1, .slice (some ⟨gO, 0, none⟩) 1 1, nV 0].toArray (by kernel_rfl) ?_; go_frame) | (have LT : Hid (([nV 0, .slice (some ⟨gI, 0, none⟩) 1 1, .slice (some ⟨gO, 0, none⟩) 1 1, nV 0] : List Value).length = 4) := rfl; (refine wpList_slice_one rfl 73 58 (.tmp 10) rfl [nV 0, .slice (some ⟨gI, 0, none⟩) 1 1, .slice (some ⟨gO, 0, none⟩) 1 1, nV 0] rfl Tryd.underlying73 i3 _ hi3 hu0 (by rw [hu1, LT.out]) (by rw [LT.out]; omega) (by rw [LT.out]; omega) ?_; have nf := heap_alloc_new w4 (.cells ([nV 0, .slice (some ⟨gI, 0, none⟩) 1 1, .slice (some ⟨gO, 0, none⟩) 1 1, nV 0]).toArray 58 (0, 0)); have bb := (Below.refl w4.heap.size w4).alloc (Nat.le_refl _) (.cells ([nV 0, .slice (some ⟨gI, 0, none⟩) 1 1, .slice (some ⟨gO, 0, none⟩) 1 1, nV 0]).toArray 58 (0, 0)); obtain ⟨gT, hgT⟩ : ∃ g, g = w4.heap.size := ⟨_, rfl⟩; generalize hq : World.alloc _ _ = w5; have e2 : w4.alloc (.cells ([nV 0, .slice (some ⟨gI, 0, none⟩) 1 1, .slice (some ⟨gO, 0, none⟩) 1 1, nV 0]).toArray 58 (0, 0)) = w5 := hq; rw [e2] at nf bb; rw [← hgT] at nf ⊢; have FT := Lib.hid nf; have S2 := Lib.hid (S2.out.below bb); have B2 := Lib.hid (B2.out.trans (bb.mono B2.out.size)); have FI := Lib.hid (row_below FI.out bb); have FO := Lib.hid (row_below FO.out bb); clear nf bb hq e2 hgT; go_frame)))
  have TA : TxsAt w5 (.slice (some ⟨gT, 0, none⟩) 1 1) [unT] := by
    refine ⟨_, 1, rfl, Nat.le_refl _, fun _ => ⟨gT, 0, rfl, fun i t hi => ?_⟩⟩
    have hi0 : i = 0 := by have := (List.getElem?_eq_some_iff.1 hi).1; simp at this; omega
    subst hi0
    obtain rfl : unT = t := by simpa using hi
    refine ⟨⟨Nat.zero_le _, Nat.zero_le _⟩, _, _, range_of_box FT.out, insAt_one FI.out ⟨rfl, Nat.le_refl _, Nat.zero_le _⟩ (nil_key _), outsAt_one FO.out ⟨rfl, by decide⟩⟩
  have AP := apply_ok E w5 gs none [] [unT] (.slice (some ⟨gT, 0, none⟩) 1 1) 1 [] [⟨⟨idT unT, 0⟩, coinO 1 true unO⟩] (ecw_of (EC.of HE.out) B2.out GS.out (fun b h => by cases h)) S2.out (TxsF.ofA TA S2.out) (ktw_of HK.out B2.out GS.out (fun b h => by cases h)) (fun t ht => by rw [List.mem_singleton.1 ht]; exact unT_small) (by decide) (by decide) (by decide) unT_apply
  have AP := Lib.hid AP
  clear TA
  refine AP.out.mono ?_
  rintro e w6 ⟨v, m', rfl, hr, hset, hm, hk, _⟩
  have SET := Lib.hid hset
  have KP := Lib.hid hk
  have RA := Lib.hid (hr.at (by decide))
  obtain ⟨sp, cap, hsh⟩ := RA.out.shape
  subst hsh
  clear hr hset hm hk AP
  go_wp2_with fail
  refine (setlen_any w6 gs m' _ SET.out).mono ?_
  rintro e w7 ⟨rfl, rfl⟩
  go_wp2_with fail
  go_ret
  refine ⟨rfl, ?_⟩
  exact ⟨KP.out.os.trans B2.out.os, KP.out.tape.trans B2.out.tape, KP.out.output.trans B2.out.output, Nat.le_trans B2.out.size KP.out.size, fun k hlt => (KP.out.block k (Nat.lt_of_lt_of_le hlt B2.out.size) ⟨by have := GS.out; omega, fun e => by cases e⟩).trans (B2.out.block k hlt)⟩
end Go.Proofs.YtibfamhhjnaeiaaDoor.Sha

/-
  Package undo takes a coin with its place from a Reader. Nothing that was there turns but the Reader. Conditions: the Reader stands as it should; the errors are there.
-/
namespace Go.Proofs.YtibfamhhjnaeiaaDoor.Sha
open Go Go.RowKit
/-- A coin with its place out of its parts. -/
def spC (h : List UInt8) (n v : Nat) (k : List UInt8) (t : Int) (e : Bool) : List Value := h.map bV ++ [nV n] ++ [.int .u64 (v : Int)] ++ k.map bV ++ [.int .i64 t] ++ [.bool e]
theorem spC_spL (h : List UInt8) (n v : Nat) (k : List UInt8) (t : Int) (e : Bool) : spC h n v k t e = spL ⟨⟨h, n⟩, ⟨v, k, t, e⟩⟩ := by simp [spC, spL, ptC, ptL, mnL]
theorem spC_length {h : List UInt8} {n v : Nat} {k : List UInt8} {t : Int} {e : Bool} (hh : h.length = 32) (hk : k.length = 32) : (spC h n v k t e).length = 68 := by simp [spC, hh, hk]
theorem sp_ones {v : Value} (h : v.oneCell' = true) : ∀ u ∈ [v], u.oneCell' = true := fun u hu => by rw [List.mem_singleton.1 hu]; exact h
/-- A coin's box. -/
structure SpBox (w : World) (g : Nat) (h : List UInt8) (n v : Nat) (k : List UInt8) (t : Int) (e : Bool) : Prop where
  row : w.heap[g]? = some (.cells (spC h n v k t e).toArray 33 (0, 0))
theorem SpBox.far {w w' : World} {g q : Nat} {h : List UInt8} {n v : Nat} {k : List UInt8} {t : Int} {e : Bool} (b : SpBox w g h n v k t e) (hg : w.grownBy w' (some q)) (hq : q ≠ g) : SpBox w' g h n v k t e := ⟨row_far b.row hg (fun e => hq (Option.some.inj e))⟩
section
variable {ops : Array Oper} {rest : List Oper} {op : Oper} {a : Act} {w : World} {Q : Exit → Act → World → Prop} {g : Nat} {h : List UInt8} {n v : Nat} {k : List UInt8} {t : Int} {e : Bool}
theorem spst_h (hgd : op.guard = none) (x y : Operand) (ho : op.op = .store 25 x y) (hx : a.eval x = .pointer (some ⟨g, 0, none⟩)) (p : List UInt8) (hp : p.length = 32) (hy : a.eval y = .agg (p.map bV).toArray) (hh : h.length = 32) (hk : k.length = 32) (b : SpBox w g h n v k t e)
    (hK : ∀ w', SpBox w' g p n v k t e → w.grownBy w' (some g) → wpList Tryd.prog ops Q rest (a.put op.dst undef) w') : wpList Tryd.prog ops Q (op :: rest) a w := by
  refine wpList_store_part hgd 25 x y ho g 0 ([]) (h.map bV) ([nV n] ++ [.int .u64 (v : Int)] ++ (k.map bV) ++ [.int .i64 t] ++ [.bool e]) (p.map bV) 33 (.agg (p.map bV).toArray) hx hy rfl (by simp [hh, hk]) (by simp [hp, hh, hk]) (by rw [b.row]; simp [spC]) (by rw [List.length_map, hp]; kernel_rfl) (bV_one' p) ?_
  intro w' q1 q2
  exact hK w' ⟨by rw [q1]; simp [spC]⟩ q2
theorem spst_n (hgd : op.guard = none) (x y : Operand) (ho : op.op = .store 26 x y) (hx : a.eval x = .pointer (some ⟨g, 32, none⟩)) (p : Nat) (hy : a.eval y = nV p) (hh : h.length = 32) (hk : k.length = 32) (b : SpBox w g h n v k t e)
    (hK : ∀ w', SpBox w' g h p v k t e → w.grownBy w' (some g) → wpList Tryd.prog ops Q rest (a.put op.dst undef) w') : wpList Tryd.prog ops Q (op :: rest) a w := by
  refine wpList_store_part hgd 26 x y ho g 32 ((h.map bV)) [nV n] ([.int .u64 (v : Int)] ++ (k.map bV) ++ [.int .i64 t] ++ [.bool e]) [nV p] 33 (nV p) hx hy rfl (by simp [hh, hk]) (by simp) (by rw [b.row]; simp [spC]) (by kernel_rfl) (sp_ones rfl) ?_
  intro w' q1 q2
  exact hK w' ⟨by rw [q1]; simp [spC]⟩ q2
theorem spst_v (hgd : op.guard = none) (x y : Operand) (ho : op.op = .store 29 x y) (hx : a.eval x = .pointer (some ⟨g, 33, none⟩)) (p : Nat) (hy : a.eval y = .int .u64 (p : Int)) (hh : h.length = 32) (hk : k.length = 32) (b : SpBox w g h n v k t e)
    (hK : ∀ w', SpBox w' g h n p k t e → w.grownBy w' (some g) → wpList Tryd.prog ops Q rest (a.put op.dst undef) w') : wpList Tryd.prog ops Q (op :: rest) a w := by
  refine wpList_store_part hgd 29 x y ho g 33 ((h.map bV) ++ [nV n]) [.int .u64 (v : Int)] ((k.map bV) ++ [.int .i64 t] ++ [.bool e]) [.int .u64 (p : Int)] 33 (.int .u64 (p : Int)) hx hy rfl (by simp [hh, hk]) (by simp) (by rw [b.row]; simp [spC]) (by kernel_rfl) (sp_ones rfl) ?_
  intro w' q1 q2
  exact hK w' ⟨by rw [q1]; simp [spC]⟩ q2
theorem spst_k (hgd : op.guard = none) (x y : Operand) (ho : op.op = .store 25 x y) (hx : a.eval x = .pointer (some ⟨g, 34, none⟩)) (p : List UInt8) (hp : p.length = 32) (hy : a.eval y = .agg (p.map bV).toArray) (hh : h.length = 32) (hk : k.length = 32) (b : SpBox w g h n v k t e)
    (hK : ∀ w', SpBox w' g h n v p t e → w.grownBy w' (some g) → wpList Tryd.prog ops Q rest (a.put op.dst undef) w') : wpList Tryd.prog ops Q (op :: rest) a w := by
  refine wpList_store_part hgd 25 x y ho g 34 ((h.map bV) ++ [nV n] ++ [.int .u64 (v : Int)]) (k.map bV) ([.int .i64 t] ++ [.bool e]) (p.map bV) 33 (.agg (p.map bV).toArray) hx hy rfl (by simp [hh, hk]) (by simp [hp, hh, hk]) (by rw [b.row]; simp [spC]) (by rw [List.length_map, hp]; kernel_rfl) (bV_one' p) ?_
  intro w' q1 q2
  exact hK w' ⟨by rw [q1]; simp [spC]⟩ q2
theorem spst_t (hgd : op.guard = none) (x y : Operand) (ho : op.op = .store 3 x y) (hx : a.eval x = .pointer (some ⟨g, 66, none⟩)) (p : Int) (hy : a.eval y = .int .i64 p) (hh : h.length = 32) (hk : k.length = 32) (b : SpBox w g h n v k t e)
    (hK : ∀ w', SpBox w' g h n v k p e → w.grownBy w' (some g) → wpList Tryd.prog ops Q rest (a.put op.dst undef) w') : wpList Tryd.prog ops Q (op :: rest) a w := by
  refine wpList_store_part hgd 3 x y ho g 66 ((h.map bV) ++ [nV n] ++ [.int .u64 (v : Int)] ++ (k.map bV)) [.int .i64 t] ([.bool e]) [.int .i64 p] 33 (.int .i64 p) hx hy rfl (by simp [hh, hk]) (by simp) (by rw [b.row]; simp [spC]) (by kernel_rfl) (sp_ones rfl) ?_
  intro w' q1 q2
  exact hK w' ⟨by rw [q1]; simp [spC]⟩ q2
theorem spst_e (hgd : op.guard = none) (x y : Operand) (ho : op.op = .store 4 x y) (hx : a.eval x = .pointer (some ⟨g, 67, none⟩)) (p : Bool) (hy : a.eval y = .bool p) (hh : h.length = 32) (hk : k.length = 32) (b : SpBox w g h n v k t e)
    (hK : ∀ w', SpBox w' g h n v k t p → w.grownBy w' (some g) → wpList Tryd.prog ops Q rest (a.put op.dst undef) w') : wpList Tryd.prog ops Q (op :: rest) a w := by
  refine wpList_store_part hgd 4 x y ho g 67 ((h.map bV) ++ [nV n] ++ [.int .u64 (v : Int)] ++ (k.map bV) ++ [.int .i64 t]) [.bool e] ([]) [.bool p] 33 (.bool p) hx hy rfl (by simp [hh, hk]) (by simp) (by rw [b.row]; simp [spC]) (by kernel_rfl) (sp_ones rfl) ?_
  intro w' q1 q2
  exact hK w' ⟨by rw [q1]; simp [spC]⟩ q2
end
theorem sple4 {bs x b : List UInt8} {c d : Nat} (h : takeL 4 bs c = (x, b, d)) : leN x ≤ 4294967295 := by
  have hx : x.length ≤ 4 := by have := takeL_le 4 bs c; rw [h] at this; exact this
  have h1 := leN_lt x
  have h2 : 256 ^ x.length ≤ 256 ^ 4 := Nat.pow_le_pow_right (by omega) hx
  have h3 : (256 : Nat) ^ 4 = 4294967296 := rfl
  omega
theorem spl8 {bs x b : List UInt8} {c d : Nat} (h : takeL 8 bs c = (x, b, d)) : leN x ≤ 18446744073709551615 := by
  have hx : x.length ≤ 8 := by have := takeL_le 8 bs c; rw [h] at this; exact this
  have h1 := leN_lt x
  have h2 : 256 ^ x.length ≤ 256 ^ 8 := Nat.pow_le_pow_right (by omega) hx
  have h3 : (256 : Nat) ^ 8 = 18446744073709551616 := rfl
  omega
theorem sppad {bs x b : List UInt8} {c d : Nat} (h : takeL 32 bs c = (x, b, d)) : (padH x).length = 32 := padH_length (by have := takeL_le 32 bs c; rw [h] at this; exact this)
theorem rawP_laid (bs x1 b1 x2 b2 x3 b3 x4 b4 x5 b5 x6 b6 : List UInt8) (c d1 d2 d3 d4 d5 d6 : Nat) (h1 : takeL 32 bs c = (x1, b1, d1)) (h2 : takeL 4 b1 d1 = (x2, b2, d2)) (h3 : takeL 8 b2 d2 = (x3, b3, d3)) (h4 : takeL 32 b3 d3 = (x4, b4, d4)) (h5 : takeL 4 b4 d4 = (x5, b5, d5)) (h6 : takeL 1 b5 d5 = (x6, b6, d6)) :
    rawP bs c = ((⟨⟨padH x1, leN x2⟩, ⟨leN x3, padH x4, ((leN x5 : Nat) : Int), decide (x6.getD 0 0 = 1)⟩⟩, x6), b6, d6) := by
  simp only [rawP, thenP, mapP, leP, h1, h2, h3, h4, h5, h6]
theorem take_one {bs x b : List UInt8} {c : Nat} (h : takeL 1 bs c = (x, b, 0)) : ∃ f, x = [f] := by
  unfold takeL at h
  split at h
  · rename_i hc
    simp only [Prod.mk.injEq] at h
    exact absurd h.2.2 hc
  · split at h
    · simp only [Prod.mk.injEq] at h
      exact absurd h.2.2 (by decide)
    · rename_i h1
      simp only [Prod.mk.injEq] at h
      rw [← h.1]
      cases bs with
      | nil => simp at h1
      | cons y ys => exact ⟨y, rfl⟩
theorem rawP_ok {bs : List UInt8} {c : Nat} {x : TSp × List UInt8} {b : List UInt8} {d : Nat} (h : rawP bs c = (x, b, d)) : Low x.1 := by
  obtain ⟨x1, b1, d1, h1⟩ : ∃ x b d, takeL 32 bs c = (x, b, d) := ⟨_, _, _, rfl⟩
  obtain ⟨x2, b2, d2, h2⟩ : ∃ x b d, takeL 4 b1 d1 = (x, b, d) := ⟨_, _, _, rfl⟩
  obtain ⟨x3, b3, d3, h3⟩ : ∃ x b d, takeL 8 b2 d2 = (x, b, d) := ⟨_, _, _, rfl⟩
  obtain ⟨x4, b4, d4, h4⟩ : ∃ x b d, takeL 32 b3 d3 = (x, b, d) := ⟨_, _, _, rfl⟩
  obtain ⟨x5, b5, d5, h5⟩ : ∃ x b d, takeL 4 b4 d4 = (x, b, d) := ⟨_, _, _, rfl⟩
  obtain ⟨x6, b6, d6, h6⟩ : ∃ x b d, takeL 1 b5 d5 = (x, b, d) := ⟨_, _, _, rfl⟩
  rw [rawP_laid bs x1 b1 x2 b2 x3 b3 x4 b4 x5 b5 x6 b6 c d1 d2 d3 d4 d5 d6 h1 h2 h3 h4 h5 h6] at h
  have e := congrArg (fun z => z.1.1) h
  simp only at e
  rw [← e]
  have l5 := sple4 h5
  have l3 := spl8 h3
  refine ⟨⟨⟨sppad h1, sple4 h2⟩, sppad h4, l3, ?_, ?_⟩, ?_, ?_⟩ <;> (simp only; omega)
theorem spP_ok (bs : List UInt8) (c : Nat) : Low (spP bs c).1 := by
  unfold spP
  split
  · exact ⟨spZ_ok, Int.le_refl 0, (by decide : (0 : Int) ≤ 4294967295)⟩
  · split
    · exact ⟨spZ_ok, Int.le_refl 0, (by decide : (0 : Int) ≤ 4294967295)⟩
    · exact rawP_ok (x := (rawP bs c).1) (b := (rawP bs c).2.1) (d := (rawP bs c).2.2) rfl
/-- What spP answers of a coin's parts. -/
def spR (x : TSp) (f : Nat) (b : List UInt8) (d : Nat) : TSp × List UInt8 × Nat := if d ≠ 0 then (spZ, b, d) else if 1 < f then (spZ, b, 2) else (x, b, 0)
theorem spP_laid {bs : List UInt8} {c : Nat} {x : TSp} {f : List UInt8} {b : List UInt8} {d : Nat} (h : rawP bs c = ((x, f), b, d)) : spP bs c = spR x (f.getD 0 0).toNat b d := by
  unfold spP spR
  rw [h]
  simp only
  split
  · rfl
  · rename_i h0
    have : d = 0 := by omega
    subst this
    rfl
def SpPost (E : Nat → Addr) (m : Nat) (x : TSp) (b : List UInt8) (d r : Nat) (w : World) (e : Ending) (w' : World) : Prop :=
  e = .returned (.tuple #[.agg (spL x).toArray, errV E d]) ∧ (∃ d', RdI E m w' r b d' ∧ (d = 0 → d' = 0)) ∧ w.grownBy w' (some r)
set_option maxHeartbeats 2000000 in
set_option maxRecDepth 100000 in
theorem take_sp (E : Nat → Addr) (m : Nat) (bs : List UInt8) (c r : Nat) (w : World) (hE : ErR w E r) (hr : RdI E m w r bs c) (hm : m < w.heap.size) (hl : bs.length ≤ 70368744177664) (x : TSp) (bz : List UInt8) (dz : Nat) (ht : spP bs c = (x, bz, dz)) :
    Calls Tryd.prog 18 #[.pointer (some ⟨r, 0, none⟩)] w (SpPost E m x bz dz r w) := by
  obtain ⟨x1, b1, d1, h1⟩ : ∃ x b d, takeL 32 bs c = (x, b, d) := ⟨_, _, _, rfl⟩
  obtain ⟨x2, b2, d2, h2⟩ : ∃ x b d, takeL 4 b1 d1 = (x, b, d) := ⟨_, _, _, rfl⟩
  obtain ⟨x3, b3, d3, h3⟩ : ∃ x b d, takeL 8 b2 d2 = (x, b, d) := ⟨_, _, _, rfl⟩
  obtain ⟨x4, b4, d4, h4⟩ : ∃ x b d, takeL 32 b3 d3 = (x, b, d) := ⟨_, _, _, rfl⟩
  obtain ⟨x5, b5, d5, h5⟩ : ∃ x b d, takeL 4 b4 d4 = (x, b, d) := ⟨_, _, _, rfl⟩
  obtain ⟨x6, b6, d6, h6⟩ : ∃ x b d, takeL 1 b5 d5 = (x, b, d) := ⟨_, _, _, rfl⟩
  rw [spP_laid (rawP_laid bs x1 b1 x2 b2 x3 b3 x4 b4 x5 b5 x6 b6 c d1 d2 d3 d4 d5 d6 h1 h2 h3 h4 h5 h6)] at ht
  have l1 := sppad h1
  have l2 := sple4 h2
  have l3 := spl8 h3
  have l4 := sppad h4
  have l5 := sple4 h5
  have hb5 : b5.length ≤ 70368744177664 := by
    have q1 := less_take 32 bs c
    have q2 := less_take 4 b1 d1
    have q3 := less_take 8 b2 d2
    have q4 := less_take 32 b3 d3
    have q5 := less_take 4 b4 d4
    rw [h1] at q1
    rw [h2] at q2
    rw [h3] at q3
    rw [h4] at q4
    rw [h5] at q5
    exact Nat.le_trans q5 (Nat.le_trans q4 (Nat.le_trans q3 (Nat.le_trans q2 (Nat.le_trans q1 hl))))
  have HB5 := Lib.hid hb5
  have T6 := Lib.hid h6
  have ONE6 : Hid (d6 = 0 → ∃ f, x6 = [f]) := fun hd => take_one (by rw [← hd]; exact h6)
  have T1 := Lib.hid h1
  have T2 := Lib.hid h2
  have T3 := Lib.hid h3
  have T4 := Lib.hid h4
  have T5 := Lib.hid h5
  obtain ⟨V1, hV1⟩ : ∃ N, N = padH x1 := ⟨_, rfl⟩
  obtain ⟨V2, hV2⟩ : ∃ N, N = leN x2 := ⟨_, rfl⟩
  obtain ⟨V3, hV3⟩ : ∃ N, N = leN x3 := ⟨_, rfl⟩
  obtain ⟨V4, hV4⟩ : ∃ N, N = padH x4 := ⟨_, rfl⟩
  obtain ⟨V5, hV5⟩ : ∃ N, N = leN x5 := ⟨_, rfl⟩
  rw [← hV1, ← hV2, ← hV3, ← hV4, ← hV5] at ht
  rw [← hV1] at l1
  have L1 := Lib.hid l1
  have HV1 := Lib.hid hV1
  rw [← hV2] at l2
  have L2 := Lib.hid l2
  have HV2 := Lib.hid hV2
  rw [← hV3] at l3
  have L3 := Lib.hid l3
  have HV3 := Lib.hid hV3
  rw [← hV4] at l4
  have L4 := Lib.hid l4
  have HV4 := Lib.hid hV4
  rw [← hV5] at l5
  have L5 := Lib.hid l5
  have HV5 := Lib.hid hV5
  have HTt := Lib.hid ht
  have HE := Lib.hid hE
  have HR := Lib.hid hr
  have HM := Lib.hid hm
  have wk : IntKind.i64.wrap (V5 : Int) = (V5 : Int) := i64_stays (by omega)
  have WK := Lib.hid wk
  clear hE hr hm hl hb5 h1 h2 h3 h4 h5 h6 ht hV1 hV2 hV3 hV4 hV5 l1 l2 l3 l4 l5
  go_enter Tryd.func18, Tryd.ntmps18
  go_upto_region 1 with fail
  have hf2 := heap_alloc_new w (.cells (spC (List.replicate 32 0) 0 0 (List.replicate 32 0) 0 false).toArray 33 (0, 0))
  have bb := (Below.refl w.heap.size w).alloc (Nat.le_refl _) (.cells (spC (List.replicate 32 0) 0 0 (List.replicate 32 0) 0 false).toArray 33 (0, 0))
  generalize hw0 : World.alloc w _ = w0
  have e0 : w.alloc (.cells (spC (List.replicate 32 0) 0 0 (List.replicate 32 0) 0 false).toArray 33 (0, 0)) = w0 := hw0
  rw [e0] at hf2 bb
  obtain ⟨g2, hg2⟩ : ∃ g2, g2 = w.heap.size := ⟨_, rfl⟩
  have hrl := HR.out.lt
  have hml := HM.out
  have NR2 : Hid (r ≠ g2) := by show _ ≠ _; omega
  have NM2 : Hid (m ≠ g2) := by show _ ≠ _; omega
  have W2 : Hid (w.heap.size ≤ g2) := by show _ ≤ _; omega
  rw [← hg2] at hf2 ⊢
  have ZH : Hid ((List.replicate 32 (0 : UInt8)).length = 32) := List.length_replicate
  obtain ⟨z0, hz0⟩ : ∃ z : List UInt8, z = List.replicate 32 0 := ⟨_, rfl⟩
  rw [← hz0] at hf2 ZH
  have HF : Hid (SpBox w0 g2 z0 0 0 z0 0 false) := ⟨hf2⟩
  have HG : Hid (w.grownBy w0 (some r)) := grownBy_of_below bb _
  have HRd := Lib.hid (HR.out.below bb)
  clear hf2 bb hw0 e0 hg2 hrl hml hz0 wk
  go_wp2_with fail
  refine (hash_is E m bs x1 b1 c d1 r w0 (HE.out.grown HG.out) HRd.out T1.out).mono ?_
  rintro e w1 ⟨rfl, i1, g1⟩
  have HRd := Lib.hid i1
  have HG := Lib.hid (grownBy_trans HG.out g1)
  have HF := Lib.hid (HF.out.far g1 NR2.out)
  clear i1 g1
  rw [← HV1.out]
  go_upto_region 2 with ((with_reducible show wpList _ _ _ _ _ _); refine spst_h (g := g2) (h := z0) (n := 0) (v := 0) (k := z0) (t := 0) (e := false) rfl (.tmp 8) (.tmp 6) rfl rfl V1 L1.out rfl ZH.out ZH.out HF.out ?_; intro w2 q1 q2; have HF : Hid (SpBox w2 g2 V1 0 0 z0 0 false) := Lib.hid q1; have HQ := Lib.hid q2; clear q1 q2; go_frame)
  have HRd := Lib.hid (HRd.out.grown HQ.out NR2.out.symm (fun _ => NM2.out))
  have HG := Lib.hid (gr_low HG.out HQ.out W2.out)
  clear HQ
  go_wp2_with fail
  refine (four_is E m b1 x2 b2 d1 d2 r w2 (HE.out.grown HG.out) HRd.out T2.out).mono ?_
  rintro e w3 ⟨rfl, i1, g1⟩
  have HRd := Lib.hid i1
  have HG := Lib.hid (grownBy_trans HG.out g1)
  have HF := Lib.hid (HF.out.far g1 NR2.out)
  clear i1 g1
  rw [← HV2.out]
  go_upto_region 3 with ((with_reducible show wpList _ _ _ _ _ _); refine spst_n (g := g2) (h := V1) (n := 0) (v := 0) (k := z0) (t := 0) (e := false) rfl (.tmp 12) (.tmp 10) rfl rfl V2 rfl L1.out ZH.out HF.out ?_; intro w4 q1 q2; have HF : Hid (SpBox w4 g2 V1 V2 0 z0 0 false) := Lib.hid q1; have HQ := Lib.hid q2; clear q1 q2; go_frame)
  have HRd := Lib.hid (HRd.out.grown HQ.out NR2.out.symm (fun _ => NM2.out))
  have HG := Lib.hid (gr_low HG.out HQ.out W2.out)
  clear HQ
  go_wp2_with fail
  refine (eight_is E m b2 x3 b3 d2 d3 r w4 (HE.out.grown HG.out) HRd.out T3.out).mono ?_
  rintro e w5 ⟨rfl, i1, g1⟩
  have HRd := Lib.hid i1
  have HG := Lib.hid (grownBy_trans HG.out g1)
  have HF := Lib.hid (HF.out.far g1 NR2.out)
  clear i1 g1
  rw [← HV3.out]
  go_upto_region 4 with ((with_reducible show wpList _ _ _ _ _ _); refine spst_v (g := g2) (h := V1) (n := V2) (v := 0) (k := z0) (t := 0) (e := false) rfl (.tmp 16) (.tmp 14) rfl rfl V3 rfl L1.out ZH.out HF.out ?_; intro w6 q1 q2; have HF : Hid (SpBox w6 g2 V1 V2 V3 z0 0 false) := Lib.hid q1; have HQ := Lib.hid q2; clear q1 q2; go_frame)
  have HRd := Lib.hid (HRd.out.grown HQ.out NR2.out.symm (fun _ => NM2.out))
  have HG := Lib.hid (gr_low HG.out HQ.out W2.out)
  clear HQ
  go_wp2_with fail
  refine (hash_is E m b3 x4 b4 d3 d4 r w6 (HE.out.grown HG.out) HRd.out T4.out).mono ?_
  rintro e w7 ⟨rfl, i1, g1⟩
  have HRd := Lib.hid i1
  have HG := Lib.hid (grownBy_trans HG.out g1)
  have HF := Lib.hid (HF.out.far g1 NR2.out)
  clear i1 g1
  rw [← HV4.out]
  go_upto_region 5 with ((with_reducible show wpList _ _ _ _ _ _); refine spst_k (g := g2) (h := V1) (n := V2) (v := V3) (k := z0) (t := 0) (e := false) rfl (.tmp 20) (.tmp 18) rfl rfl V4 L4.out rfl L1.out ZH.out HF.out ?_; intro w8 q1 q2; have HF : Hid (SpBox w8 g2 V1 V2 V3 V4 0 false) := Lib.hid q1; have HQ := Lib.hid q2; clear q1 q2; go_frame)
  have HRd := Lib.hid (HRd.out.grown HQ.out NR2.out.symm (fun _ => NM2.out))
  have HG := Lib.hid (gr_low HG.out HQ.out W2.out)
  clear HQ
  go_wp2_with fail
  refine (four_is E m b4 x5 b5 d4 d5 r w8 (HE.out.grown HG.out) HRd.out T5.out).mono ?_
  rintro e w9 ⟨rfl, i1, g1⟩
  have HRd := Lib.hid i1
  have HG := Lib.hid (grownBy_trans HG.out g1)
  have HF := Lib.hid (HF.out.far g1 NR2.out)
  clear i1 g1
  rw [← HV5.out]
  have wk : IntKind.i64.wrap (V5 : Int) = (V5 : Int) := WK.out
  go_upto_region 6 with ((with_reducible show wpList _ _ _ _ _ _); refine spst_t (g := g2) (h := V1) (n := V2) (v := V3) (k := V4) (t := 0) (e := false) rfl (.tmp 25) (.tmp 23) rfl rfl (V5 : Int) rfl L1.out L4.out HF.out ?_; intro w10 q1 q2; have HF : Hid (SpBox w10 g2 V1 V2 V3 V4 (V5 : Int) false) := Lib.hid q1; have HQ := Lib.hid q2; clear q1 q2; go_frame)
  have HRd := Lib.hid (HRd.out.grown HQ.out NR2.out.symm (fun _ => NM2.out))
  have HG := Lib.hid (gr_low HG.out HQ.out W2.out)
  clear HQ
  clear wk
  go_wp2_with fail
  refine (bytes_is E m (1 : Int) 1 (by simp) b5 x6 b6 d5 d6 r w10 (HE.out.grown HG.out) HRd.out T6.out (by omega) HB5.out).mono ?_
  rintro e w11 ⟨v6, rfl, o6, i1, g1⟩
  have HRd := Lib.hid i1
  have HG := Lib.hid (grownBy_trans HG.out g1)
  have HF := Lib.hid (HF.out.far g1 NR2.out)
  have O6 := Lib.hid o6
  clear i1 g1 o6
  have ZR : Tryd.zeroCells33 = (spL spZ).toArray := by kernel_rfl
  have ZS : Hid ((spL spZ).toArray.size = 68) := by show _ = _; kernel_rfl
  have ZO : Hid ((spL spZ).toArray.all (·.oneCell') = true) := spL_all _
  obtain ⟨sz, hsz⟩ : ∃ sz, sz = (spL spZ).toArray := ⟨_, rfl⟩
  have SZ := Lib.hid hsz
  have ZRh : Hid (Tryd.zeroCells33 = sz) := by show _ = _; rw [hsz]; exact ZR
  rw [← hsz] at ZS ZO
  clear ZR hsz
  have CZ : Hid ((spC V1 V2 V3 V4 (V5 : Int) false).toArray.size = 68) := by show _ = _; simp [spC_length L1.out L4.out]
  cases d6 with
  | succ d =>
    have HX : Hid (x = spZ ∧ bz = b6 ∧ dz = d + 1) := by
      have := HTt.out
      rw [spR, if_pos (by omega)] at this
      simp only [Prod.mk.injEq] at this
      exact ⟨this.1.symm, this.2.1.symm, this.2.2.symm⟩
    obtain ⟨rfl, rfl, rfl⟩ := HX.out
    have EA := err_any E m bz (d + 1) r w11 HRd.out
    change Calls _ _ _ _ (fun e w' => e = .returned (.iface 142 (.pointer (some (E d)))) ∧ w11 = w') at EA
    have EA := Lib.hid EA
    clear ONE6
    go_wp2_with fail
    refine EA.out.mono ?_
    rintro e w' ⟨rfl, rfl⟩
    go_wp2_with fail
    refine EA.out.mono ?_
    rintro e w' ⟨rfl, rfl⟩
    clear EA
    go_wp2_with ((with_reducible show wpList _ _ _ _ _ _); refine wpList_store_row rfl 33 (.tmp 2) (.tmp 32) rfl g2 sz rfl (by rw [← ZRh.out]; kernel_rfl) 33 _ HF.out.row (by rw [ZS.out]; kernel_rfl) (by rw [ZS.out, CZ.out]) ZO.out ?_; go_frame)
    refine bodyPost_ret (results_row_tmp rfl _ _ g2 33 sz (0, 0) _ rfl (setRow_heap _ _ _ _ _ _ HF.out.row) Tryd.underlying33 rfl (by rw [ZS.out]; kernel_rfl)) rfl ?_
    have hq := setRow_grown (w := w11) (g := g2) sz
    refine ⟨by rw [SZ.out]; rfl, ⟨d + 1, HRd.out.grown hq NR2.out.symm (fun _ => NM2.out), fun h => absurd h (by omega)⟩, gr_low HG.out hq W2.out⟩
  | zero =>
    obtain ⟨f, hf⟩ := ONE6.out rfl
    subst hf
    obtain ⟨gb, cb, rfl, hgb, hcb⟩ := own_shape O6.out (Nat.zero_lt_one)
    have cell := O6.out.cellAt 0 (show 0 < 1 * 1 from Nat.zero_lt_one)
    change w11.cell? ⟨gb, 0 + 0, none⟩ = some (bV f) at cell
    obtain ⟨z, hz⟩ : ∃ z, z = bv f := ⟨_, rfl⟩
    have zb := bv_bd f
    change w11.cell? ⟨gb, 0, none⟩ = some (.int .u8 (bv f)) at cell
    rw [← hz] at cell zb
    have CELL := Lib.hid cell
    have ZF : Hid (z = ((f.toNat : Nat) : Int)) := hz
    clear ONE6 hz
    have EA := err_any E m b6 0 r w11 HRd.out
    change Calls _ _ _ _ (fun e w' => e = .returned .nilIface ∧ w11 = w') at EA
    have EA := Lib.hid EA
    have NE2 : Hid (0 ≠ g2) := fun e => by
      have h1 := World.block_lt_of_cell? _ _ (HE.out.1.2.1)
      have h2 := W2.out
      have h3 : 0 < w.heap.size := h1
      omega
    by_cases hbig : (1 : Int) < z
    · skip
      have HX : Hid (x = spZ ∧ bz = b6 ∧ dz = 2) := by
        have := HTt.out
        have e : ([f].getD 0 0).toNat = f.toNat := rfl
        rw [spR, if_neg (by omega), e, if_pos (by have := ZF.out; omega)] at this
        simp only [Prod.mk.injEq] at this
        exact ⟨this.1.symm, this.2.1.symm, this.2.2.symm⟩
      obtain ⟨rfl, rfl, rfl⟩ := HX.out
      have ES := ((HE.out.grown HG.out).1).2.1
      go_wp2_with fail
      refine EA.out.mono ?_
      rintro e w' ⟨rfl, rfl⟩
      clear EA
      go_upto_region 10 with fail
      refine wp_region_held_drew (S := (fun w' => w'.cell? ⟨0, 0, none⟩ = some (errV E 2))) (by kernel_rfl) (ES) (fun hHeld => ?_)
      have HF := Lib.hid (SpBox.mk (row_below HF.out.row (Below.drew (Below.refl _ _))))
      have HRd := Lib.hid (HRd.out.below (Below.drew (Below.refl _ _)))
      have HG := Lib.hid (grownBy_below' HG.out (Below.drew (Below.refl _ _)))
      generalize hwd : w11.drew = wd at HF HRd HG hHeld ⊢
      clear hwd
      refine held_take (i := 0) (v := (.agg sz)) rfl (by kernel_rfl) (by kernel_rfl) (by kernel_rfl) (fun _ _ _ h => h) (Or.inl ⟨by rfl, fun w' _ => by rw [← ZRh.out]; kernel_rfl⟩) hHeld ?_
      go_frame
      refine held_take (i := 1) (v := (errV E 2)) rfl (by kernel_rfl) (by kernel_rfl) (by kernel_rfl) (fun _ _ _ h => h) (yieldsIf_load_one (by rfl) 38 _ rfl 0 (0) rfl _ _ (fun w' hw' => hw') Tryd.underlying38 rfl) hHeld ?_
      go_frame
      refine wpAnyH_ready (rs := [2]) (by kernel_rfl) (by simp) (held_cons rfl (fun K hK => ?_) AllReadyH.nil)
      rw [if_pos (by rfl)]
      refine wp_store_whole 33 (.tmp 2) (.tmp 40) rfl g2 (spC V1 V2 V3 V4 (V5 : Int) false) (spL spZ) 33 rfl (by rw [← SZ.out]; rfl) (by rw [spC_length L1.out L4.out]; rfl) HF.out.row (by kernel_rfl) (spL_all _) ?_
      intro v1 q1 q2
      have FF := Lib.hid q1
      have HQ := Lib.hid q2
      have hv1 : v1.cell? ⟨0, 0, none⟩ = some (errV E 2) := by rw [World.cell?_of_block (q2.block _ (World.block_lt_of_cell? _ _ hHeld) (fun e => by cases e; exact NE2.out rfl))]; exact hHeld
      clear q1 q2 hHeld
      go_frame
      refine hK.out _ _ hv1 (fun hHeld => ?_)
      clear hK K hv1
      refine held_take (i := 3) (v := (errV E 2)) rfl (by kernel_rfl) (by kernel_rfl) (by kernel_rfl) (fun _ _ _ h => h) (Or.inl ⟨by rfl, fun w' _ => by kernel_rfl⟩) hHeld ?_
      go_frame
      refine wpAnyH_done (by kernel_rfl) ?_ _
      clear hHeld
      go_wp2_with fail
      refine bodyPost_ret (results_row_tmp rfl _ _ g2 33 (spL spZ).toArray (0, 0) _ rfl FF.out Tryd.underlying33 rfl (by kernel_rfl)) rfl ?_
      exact ⟨rfl, ⟨0, HRd.out.grown HQ.out NR2.out.symm (fun _ => NM2.out), fun h => absurd h (by omega)⟩, gr_low HG.out HQ.out W2.out⟩
    · by_cases h1 : z = 1
      · subst h1
        have HX : Hid (x = ⟨⟨V1, V2⟩, ⟨V3, V4, (V5 : Int), true⟩⟩ ∧ bz = b6 ∧ dz = 0) := by
          have := HTt.out
          have e : ([f].getD 0 0).toNat = f.toNat := rfl
          have e2 : ([f].getD 0 0) = f := rfl
          have e3 : decide (f = 1) = true := by
            have := ZF.out
            exact decide_eq_true (UInt8.toNat_inj.1 (by simp; omega))
          rw [spR, if_neg (by omega), e, if_neg (by have := ZF.out; omega), e2, e3] at this
          simp only [Prod.mk.injEq] at this
          exact ⟨this.1.symm, this.2.1.symm, this.2.2.symm⟩
        obtain ⟨rfl, rfl, rfl⟩ := HX.out
        have CL := Lib.hid (spC_length (n := V2) (v := V3) (t := (V5 : Int)) (e := true) L1.out L4.out)
        have SC := Lib.hid (spC_spL V1 V2 V3 V4 (V5 : Int) true)
        have SO : Hid ((spC V1 V2 V3 V4 (V5 : Int) true).toArray.all (·.oneCell') = true) := by
          show _ = _
          rw [SC.out]
          exact spL_all _
        go_wp2_with fail
        refine EA.out.mono ?_
        rintro e w' ⟨rfl, rfl⟩
        clear EA
        go_upto_region 12 with ((with_reducible show wpList _ _ _ _ _ _); refine spst_e (g := g2) (h := V1) (n := V2) (v := V3) (k := V4) (t := (V5 : Int)) (e := false) rfl (.tmp 47) (.tmp 45) rfl rfl true rfl L1.out L4.out HF.out ?_; intro w12 q1 q2; have HF : Hid (SpBox w12 g2 V1 V2 V3 V4 (V5 : Int) true) := Lib.hid q1; have HQ := Lib.hid q2; clear q1 q2; go_frame)
        have HRd := Lib.hid (HRd.out.grown HQ.out NR2.out.symm (fun _ => NM2.out))
        have HG := Lib.hid (gr_low HG.out HQ.out W2.out)
        clear HQ
        obtain ⟨cs, hcs⟩ : ∃ cs, cs = (spC V1 V2 V3 V4 (V5 : Int) true).toArray := ⟨_, rfl⟩
        have SZC : Hid (cs.size = 68) := by show _ = _; rw [hcs]; simp [CL.out]
        have FR := Lib.hid HF.out.row
        rw [← hcs] at FR SO
        have CS : Hid (cs = (spL ⟨⟨V1, V2⟩, ⟨V3, V4, (V5 : Int), true⟩⟩).toArray) := by show _ = _; rw [hcs, SC.out]
        clear hcs HF SC CL
        go_wp2_with ((with_reducible show wpList _ _ _ _ _ _); first | (refine wpList_load_row rfl 33 (.tmp 2) rfl g2 rfl 33 cs (0, 0) _ FR.out Tryd.underlying33 rfl (by rw [SZC.out]; kernel_rfl) ?_; go_frame) | (refine wpList_store_row rfl 33 (.tmp 2) (.tmp 48) rfl g2 cs rfl rfl 33 _ FR.out (by rw [SZC.out]; kernel_rfl) (by rw [SZC.out]) SO.out ?_; go_frame))
        refine bodyPost_ret (results_row_tmp rfl _ _ g2 33 cs (0, 0) _ rfl (setRow_heap _ _ _ _ _ _ FR.out) Tryd.underlying33 rfl (by rw [SZC.out]; kernel_rfl)) rfl ?_
        have hq := setRow_grown (w := w12) (g := g2) cs
        exact ⟨by rw [CS.out]; rfl, ⟨0, HRd.out.grown hq NR2.out.symm (fun _ => NM2.out), fun _ => rfl⟩, gr_low HG.out hq W2.out⟩
      · have h0 : z = 0 := by omega
        subst h0
        clear h1
        have HX : Hid (x = ⟨⟨V1, V2⟩, ⟨V3, V4, (V5 : Int), false⟩⟩ ∧ bz = b6 ∧ dz = 0) := by
          have := HTt.out
          have e : ([f].getD 0 0).toNat = f.toNat := rfl
          have e2 : ([f].getD 0 0) = f := rfl
          have e3 : decide (f = 1) = false := by
            have := ZF.out
            exact decide_eq_false (fun h => by rw [h] at this; simp at this)
          rw [spR, if_neg (by omega), e, if_neg (by have := ZF.out; omega), e2, e3] at this
          simp only [Prod.mk.injEq] at this
          exact ⟨this.1.symm, this.2.1.symm, this.2.2.symm⟩
        obtain ⟨rfl, rfl, rfl⟩ := HX.out
        have CL := Lib.hid (spC_length (n := V2) (v := V3) (t := (V5 : Int)) (e := false) L1.out L4.out)
        have SC := Lib.hid (spC_spL V1 V2 V3 V4 (V5 : Int) false)
        have SO : Hid ((spC V1 V2 V3 V4 (V5 : Int) false).toArray.all (·.oneCell') = true) := by
          show _ = _
          rw [SC.out]
          exact spL_all _
        go_wp2_with fail
        refine EA.out.mono ?_
        rintro e w' ⟨rfl, rfl⟩
        clear EA
        go_upto_region 12 with ((with_reducible show wpList _ _ _ _ _ _); refine spst_e (g := g2) (h := V1) (n := V2) (v := V3) (k := V4) (t := (V5 : Int)) (e := false) rfl (.tmp 47) (.tmp 45) rfl rfl false rfl L1.out L4.out HF.out ?_; intro w12 q1 q2; have HF : Hid (SpBox w12 g2 V1 V2 V3 V4 (V5 : Int) false) := Lib.hid q1; have HQ := Lib.hid q2; clear q1 q2; go_frame)
        have HRd := Lib.hid (HRd.out.grown HQ.out NR2.out.symm (fun _ => NM2.out))
        have HG := Lib.hid (gr_low HG.out HQ.out W2.out)
        clear HQ
        obtain ⟨cs, hcs⟩ : ∃ cs, cs = (spC V1 V2 V3 V4 (V5 : Int) false).toArray := ⟨_, rfl⟩
        have SZC : Hid (cs.size = 68) := by show _ = _; rw [hcs]; simp [CL.out]
        have FR := Lib.hid HF.out.row
        rw [← hcs] at FR SO
        have CS : Hid (cs = (spL ⟨⟨V1, V2⟩, ⟨V3, V4, (V5 : Int), false⟩⟩).toArray) := by show _ = _; rw [hcs, SC.out]
        clear hcs HF SC CL
        go_wp2_with ((with_reducible show wpList _ _ _ _ _ _); first | (refine wpList_load_row rfl 33 (.tmp 2) rfl g2 rfl 33 cs (0, 0) _ FR.out Tryd.underlying33 rfl (by rw [SZC.out]; kernel_rfl) ?_; go_frame) | (refine wpList_store_row rfl 33 (.tmp 2) (.tmp 48) rfl g2 cs rfl rfl 33 _ FR.out (by rw [SZC.out]; kernel_rfl) (by rw [SZC.out]) SO.out ?_; go_frame))
        refine bodyPost_ret (results_row_tmp rfl _ _ g2 33 cs (0, 0) _ rfl (setRow_heap _ _ _ _ _ _ FR.out) Tryd.underlying33 rfl (by rw [SZC.out]; kernel_rfl)) rfl ?_
        have hq := setRow_grown (w := w12) (g := g2) cs
        exact ⟨by rw [CS.out]; rfl, ⟨0, HRd.out.grown hq NR2.out.symm (fun _ => NM2.out), fun _ => rfl⟩, gr_low HG.out hq W2.out⟩
end Go.Proofs.YtibfamhhjnaeiaaDoor.Sha
