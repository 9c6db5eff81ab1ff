/-
  Texts of this proof joined into one file: TxTwice, TxPlaces, TxBaseW, TxCheckW, TxLits, VcSt, HdMath, HdVal, Txs, BlMath, BlSm, BlSize, HdIdM, TxFirst, TxBasesWalk. What each holds, and under which conditions, its own first sentence tells.
-/
import Derived.Maps.OwnSet
import Derived.DeepKeys4
import Derived.Great.BuildSlice
import Derived.IntWalk
import Derived.Test.YtgcoegbamoehfaaDoorMg04
import Derived.Test.YtgcoegbamoehfaaDoorMg06
import Derived.Test.YtgcoegbamoehfaaDoorMg13
import Derived.Test.YtgcoegbamoehfaaDoorMg15
import Derived.Test.YtgcoegbamoehfaaDoorMg03
import Derived.Test.YtgcoegbamoehfaaDoorMg08
import Derived.Test.YtgcoegbamoehfaaDoorMg07
import Derived.Test.YtgcoegbamoehfaaDoorMg09
import Derived.Test.YtgcoegbamoehfaaDoorMg05
import Derived.Test.YtgcoegbamoehfaaDoorMg01
import Derived.Test.YtgcoegbamoehfaaDoorMg02
/-
  The places that a transaction's inputs spend, as a map's keys: there are fewer keys than inputs just if two inputs have one place. Conditions: the inputs are what may be of inputs.
-/
namespace Go.Proofs.YtgcoegbamoehfaaDoor.Sha
open Go Go.RowKit
open Go.Maps (addKey Keyed)
theorem any_key {L : List Lit} {x : Lit} (hx : WideAt.IsKeyLit x) : L.any (fun y => y.sameKey x) = true ↔ x ∈ L := by
  rw [List.any_eq_true]
  constructor
  · rintro ⟨y, hy, hs⟩
    rw [WideAt.sameKey_eq hs] at hy
    exact hy
  · exact fun h => ⟨x, h, WideAt.sameKey_self hx⟩
theorem keys_fewer (k : TIn → Lit) : ∀ (l : List TIn) (L : List Lit), (∀ x ∈ l, WideAt.IsKeyLit (k x)) → (∀ x ∈ l, ∀ y ∈ l, samePtIn x y = true ↔ k x = k y) →
    (((l.map k).foldl addKey L).length ≤ L.length + l.length ∧ (((l.map k).foldl addKey L).length < L.length + l.length ↔ (∃ x ∈ l, k x ∈ L) ∨ twiceB l = true))
  | [], L, _, _ => by simp [twiceB]
  | x :: l, L, h1, h2 => by
    have hx := h1 x List.mem_cons_self
    have ih := fun L => keys_fewer k l L (fun z hz => h1 z (List.mem_cons_of_mem _ hz)) (fun z hz y hy => h2 z (List.mem_cons_of_mem _ hz) y (List.mem_cons_of_mem _ hy))
    rw [List.map_cons, List.foldl_cons, List.length_cons]
    by_cases hm : k x ∈ L
    · have e : addKey L (k x) = L := by unfold addKey; rw [if_pos ((any_key hx).2 hm)]
      rw [e]
      obtain ⟨i1, -⟩ := ih L
      exact ⟨by omega, ⟨fun _ => .inl ⟨x, List.mem_cons_self, hm⟩, fun _ => by omega⟩⟩
    · have e : addKey L (k x) = L ++ [k x] := by unfold addKey; rw [if_neg (fun h => hm ((any_key hx).1 h))]
      rw [e]
      obtain ⟨i1, i2⟩ := ih (L ++ [k x])
      rw [List.length_append, List.length_singleton] at i1 i2
      refine ⟨by omega, ?_⟩
      rw [show L.length + (l.length + 1) = L.length + 1 + l.length by omega, i2]
      rw [show twiceB (x :: l) = (l.any (samePtIn x) || twiceB l) from rfl]
      simp only [Bool.or_eq_true, List.any_eq_true, List.mem_append, List.mem_singleton]
      constructor
      · rintro (⟨y, hy, hyL | hyx⟩ | ht)
        · exact .inl ⟨y, List.mem_cons_of_mem _ hy, hyL⟩
        · exact .inr (.inl ⟨y, hy, (h2 x List.mem_cons_self y (List.mem_cons_of_mem _ hy)).2 hyx.symm⟩)
        · exact .inr (.inr ht)
      · rintro (⟨y, hy, hyL⟩ | ⟨y, hy, hyx⟩ | ht)
        · rcases List.mem_cons.1 hy with rfl | hy
          · exact absurd hyL hm
          · exact .inl ⟨y, hy, .inl hyL⟩
        · exact .inl ⟨y, hy, .inr ((h2 x List.mem_cons_self y (List.mem_cons_of_mem _ hy)).1 hyx).symm⟩
        · exact .inr ht
theorem laid_out : laidOutB Tryd.prog = true := by kernel_rfl
theorem pt_row : (28 : TypeId) < Tryd.prog.types.size := of_decide_eq_true (by kernel_rfl)
theorem pt_wide : (match Tryd.prog.underlying 28 with | some (.array _ _) | some (.struct _) => true | _ => false) = true := by rw [pt_under]
theorem pt_typed : Tryd.prog.keyTypeAt 4 28 = true := by kernel_rfl
theorem pt_typed2 : Tryd.prog.keyType 28 = true := by kernel_rfl
theorem pt_cellsN : Tryd.prog.cellsOf 28 = 33 := by kernel_rfl
theorem hash_cellsN : Tryd.prog.cellsOf 25 = 32 := by kernel_rfl
theorem u8_cellsN : Tryd.prog.cellsOf 5 = 1 := by kernel_rfl
theorem u32_cellsN : Tryd.prog.cellsOf 26 = 1 := by kernel_rfl
set_option maxRecDepth 100000 in
theorem pt_law : Keyed Tryd.prog 28 := Keyed.of_law (deep_law_laid laid_out (by omega : 4 + 1 ≤ 10000) pt_row pt_typed pt_wide)
/-- A place as a map's key. -/
def ptLit (x : TIn) : Lit := .string (keyBytes ((x.h.map fun b => Lit.int .u8 (bv b)) ++ [.int .u32 (x.n : Int)]))
theorem mapM_all {α β : Type} {f : α → Option β} {g : α → β} : ∀ l : List α, (∀ x ∈ l, f x = some (g x)) → l.mapM f = some (l.map g)
  | [], _ => rfl
  | x :: l, h => by
    rw [List.mapM_cons, h x List.mem_cons_self, mapM_all l (fun y hy => h y (List.mem_cons_of_mem _ hy))]
    rfl
theorem flat_one {α β : Type} (g : α → β) : ∀ l : List α, (l.map fun i => [g i]).flatten = l.map g
  | [] => rfl
  | x :: l => by simp [flat_one g l]
theorem lits_u8 (d : Nat) (b : UInt8) : Tryd.prog.keyLits (d + 1) 5 [bV b] = some [.int .u8 (bv b)] := by
  have := bv_bd b
  simp only [Program.keyLits, Tryd.underlying5, bV]
  rw [if_pos]
  refine ⟨trivial, ?_⟩
  simp [Lit.wf, IntKind.min, IntKind.max, IntKind.signed, IntKind.bits]
  omega
theorem lits_u32 (d n : Nat) (h : n ≤ 4294967295) : Tryd.prog.keyLits (d + 1) 26 [nV n] = some [.int .u32 (n : Int)] := by
  simp only [Program.keyLits, Tryd.underlying26, nV]
  rw [if_pos]
  refine ⟨trivial, ?_⟩
  simp [Lit.wf, IntKind.min, IntKind.max, IntKind.signed, IntKind.bits]
  omega
theorem lits_array {P : Program} (d : Nat) {t n e : Nat} (cs : List Value) (hu : P.underlying t = some (.array n e)) : P.keyLits (d + 1) t cs =
    if cs.length = P.cellsOf t then ((List.range n).mapM fun i => P.keyLits d e ((cs.drop (i * P.cellsOf e)).take (P.cellsOf e))).map List.flatten else none := by
  conv => lhs; unfold Program.keyLits
  rw [hu]
theorem lits_struct {P : Program} (d : Nat) {t : Nat} {fs : Array Field} (cs : List Value) (hu : P.underlying t = some (.struct fs)) : P.keyLits (d + 1) t cs =
    if cs.length = P.cellsOf t ∧ fs.all (·.name != "_") = true then (fs.toList.mapM fun f => P.keyLits d f.type ((cs.drop f.offset).take (P.cellsOf f.type))).map List.flatten else none := by
  conv => lhs; unfold Program.keyLits
  rw [hu]
theorem lits_hash (d : Nat) (l : List UInt8) (h : l.length = 32) : Tryd.prog.keyLits (d + 2) 25 (l.map bV) = some (l.map fun b => .int .u8 (bv b)) := by
  rw [lits_array _ _ Tryd.underlying25]
  simp only [hash_cellsN, u8_cellsN, List.length_map, h, if_true, Nat.mul_one]
  rw [mapM_all (g := fun i => [Lit.int .u8 (bv (l.getD i 0))])]
  · show some _ = some _
    congr 1
    apply List.ext_getElem?
    intro i
    rw [flat_one (fun i => Lit.int .u8 (bv (l.getD i 0)))]
    simp only [List.getElem?_map]
    by_cases hi : i < 32
    · rw [List.getElem?_range hi, List.getElem?_eq_getElem (by omega)]
      simp [List.getD, List.getElem?_eq_getElem (show i < l.length by omega)]
    · rw [List.getElem?_eq_none (by simp; omega), List.getElem?_eq_none (by omega)]
      rfl
  · intro i hi
    have hi : i < 32 := List.mem_range.1 hi
    have e : ((l.map bV).drop i).take 1 = [bV (l.getD i 0)] := by
      rw [← List.map_drop, ← List.map_take, List.drop_eq_getElem_cons (show i < l.length by omega)]
      show [bV l[i]] = _
      simp [List.getD, List.getElem?_eq_getElem (show i < l.length by omega)]
    rw [e]
    exact lits_u8 d _
set_option maxRecDepth 100000 in
theorem pt_key (x : TIn) (hx : InOk x) : keyOf Tryd.prog 28 (.agg (ptL x.h x.n).toArray) = some (ptLit x) := by
  obtain ⟨m, hm⟩ : ∃ m, Tryd.prog.types.size = m + 2 := ⟨Tryd.prog.types.size - 2, by have : 28 < Tryd.prog.types.size := pt_row; omega⟩
  have hl : (ptL x.h x.n).length = 33 := by simp [ptL, hx.1]
  have hf : (Value.agg (ptL x.h x.n).toArray).formed Tryd.prog 28 = true := by
    unfold Value.formed
    rw [pt_under, pt_cellsN]
    simp [hl]
  have hL : Tryd.prog.keyLits (Tryd.prog.types.size + 1) 28 (ptL x.h x.n) = some ((x.h.map fun b => Lit.int .u8 (bv b)) ++ [.int .u32 (x.n : Int)]) := by
    rw [hm, lits_struct _ _ pt_under]
    have hpf := pt_fields
    generalize Tryd.prog.fieldsOf 28 = fs at hpf ⊢
    obtain ⟨fl⟩ := fs
    simp only [List.map_eq_cons_iff, List.map_eq_nil_iff] at hpf
    obtain ⟨f0, r0, rfl, e0, f1, r1, rfl, e1, rfl⟩ := hpf
    simp only [Prod.mk.injEq] at e0 e1
    obtain ⟨a0, b0, c0⟩ := e0
    obtain ⟨a1, b1, c1⟩ := e1
    have hg : (ptL x.h x.n).length = Tryd.prog.cellsOf 28 ∧ (List.toArray [f0, f1]).all (fun f => f.name != "_") = true := by
      rw [pt_cellsN]
      refine ⟨hl, ?_⟩
      simp [a0, a1]
    simp only [hg, if_true, and_self, List.mapM_cons, List.mapM_nil, b0, b1, c0, c1, hash_cellsN, u32_cellsN, List.drop_zero]
    have e2 : (ptL x.h x.n).take 32 = x.h.map bV := by simp [ptL, ← hx.1]
    have e3 : ((ptL x.h x.n).drop 32).take 1 = [nV x.n] := by simp [ptL, ← hx.1]
    rw [e2, e3, lits_hash _ _ hx.1, lits_u32 _ _ hx.2.1]
    rfl
  unfold keyOf
  rw [pt_under]
  simp only [pt_typed2, hf, Bool.and_self, if_true]
  rw [show (Value.agg (ptL x.h x.n).toArray).cells.toList = ptL x.h x.n by simp [Value.cells], hL]
  rfl
theorem ptLit_key (x : TIn) : WideAt.IsKeyLit (ptLit x) := trivial
theorem ptLit_same {x y : TIn} (hx : InOk x) (hy : InOk y) : samePtIn x y = true ↔ ptLit x = ptLit y := by
  constructor
  · intro h
    simp only [samePtIn, Bool.and_eq_true, decide_eq_true_eq] at h
    unfold ptLit
    rw [h.1, h.2]
  · intro h
    have h1 := pt_key x hx
    rw [h] at h1
    have h2 := pt_law.inj h1 (pt_key y hy)
    have h2 := Value.agg.inj h2
    have h3 := congrArg Array.toList h2
    simp only [ptL] at h3
    obtain ⟨h4, h5⟩ := List.append_inj h3 (by simp [hx.1, hy.1])
    have h6 : x.h = y.h := by
      have := List.map_inj_right (f := bV) (l := x.h) (l' := y.h) (fun a b e => bv_inj (Value.int.inj e).2)
      exact this.1 h4
    have h7 : x.n = y.n := by
      simp only [nV, List.cons.injEq, Value.int.injEq, true_and, and_true] at h5
      omega
    simp [samePtIn, h6, h7]
/-- Fewer places than inputs: two have one. -/
theorem twice_keys (l : List TIn) (h : InsOk l) : ((l.map ptLit).foldl addKey []).length ≤ l.length ∧ (decide (((l.map ptLit).foldl addKey []).length < l.length) = twiceB l) := by
  have h1 := keys_fewer ptLit l [] (fun x hx => ptLit_key x) (fun x hx y hy => ptLit_same (h x hx) (h y hy))
  simp only [List.length_nil, Nat.zero_add] at h1
  refine ⟨h1.1, ?_⟩
  rw [Bool.eq_iff_iff, decide_eq_true_eq, h1.2]
  simp
end Go.Proofs.YtgcoegbamoehfaaDoor.Sha

/-
  Package tx tells whether two inputs of a transaction have one place. Nothing that was there turns. Condition: a transaction of a few inputs and outputs that lies in memory.
-/
namespace Go.Proofs.YtgcoegbamoehfaaDoor.Sha
open Go Go.RowKit
open Go.Maps (addKey Keyed)
theorem run_makeMap_hint {P : Program} {w : World} (t kt et : TypeId) (k : IntKind) (n : Int) (hu : P.underlying t = some (.map kt et)) : (Instr.makeMap t (some (.int k n))).run P w = .ok (.map (some w.heap.size)) (w.alloc (.map #[] 0)) := by
  simp [Instr.makeMap, run_underlying hu, asInt, asIntOf, Result.andThen]
def placesD (l : List TIn) : DataW Unit := Maps.setOf (.agg []) (l.map ptLit)
theorem placesD_size (l : List TIn) : Maps.size (placesD l) = ((l.map ptLit).foldl addKey []).length :=
  Maps.size_setOf _ _ (fun x hx => by obtain ⟨y, _, rfl⟩ := List.mem_map.1 hx; exact ptLit_key y)
theorem placesD_snoc {l : List TIn} {k : Nat} {x : TIn} (h : l[k]? = some x) : placesD (l.take (k + 1)) = (placesD (l.take k)).put (ptLit x) (.agg []) := by
  have hk := List.getElem?_eq_some_iff.1 h
  rw [List.take_succ_eq_append_getElem hk.1, hk.2, placesD, List.map_append]
  exact Maps.setOf_snoc _ _ _
def PlInv (n mb : Nat) (t : TTx) (w1 : World) (vi : Value) (wr : World) : Prop :=
  ∃ k : Nat, k ≤ n ∧ vi = .int .i64 k ∧ wr.ownsMap Tryd.prog 28 unitElem mb k (placesD (t.ins.take k)) ∧ Below w1.heap.size w1 wr
end Go.Proofs.YtgcoegbamoehfaaDoor.Sha

/-
  Package tx tells whether a transaction makes coins, and whether inputs of no place are there only where they may be. Nothing that was there turns. Condition: a transaction of a few inputs and outputs that lies in memory.
-/
namespace Go.Proofs.YtgcoegbamoehfaaDoor.Sha
open Go Go.RowKit
theorem base_of {t : TTx} : (∃ x, t.ins = [x] ∧ baseB t = isNullIn x) ∨ (t.ins.length ≠ 1 ∧ baseB t = false) := by
  unfold baseB
  rcases h : t.ins with _ | ⟨x, _ | ⟨y, r⟩⟩
  · exact .inr ⟨by simp, rfl⟩
  · exact .inl ⟨x, rfl, rfl⟩
  · exact .inr ⟨by simp, rfl⟩
def BrInv (n : Nat) (t : TTx) (w1 : World) (i : Value) (wr : World) : Prop := ∃ k : Nat, k ≤ n ∧ i = .int .i64 k ∧ (∀ (j : Nat) x, j < k → t.ins[j]? = some x → isNullIn x = false) ∧ Below w1.heap.size w1 wr
/-- What basesRight is to answer. -/
def rightB (t : TTx) : Bool := if baseB t then !(t.ins.any fun x => decide (x.key.length < 4)) else !(t.ins.any isNullIn)
end Go.Proofs.YtgcoegbamoehfaaDoor.Sha

/-
  Package tx tells what is amiss with a transaction, in the order of the chapter. Nothing that was there turns. Conditions: a transaction of a few inputs and outputs that lies in memory; the errors are there.
-/
namespace Go.Proofs.YtgcoegbamoehfaaDoor.Sha
open Go Go.RowKit
theorem chkC_many {t : TTx} (h : t.ins.length = 0 ∨ 50 < t.ins.length ∨ t.outs.length = 0 ∨ 50 < t.outs.length) : checkC t = 4 := by
  unfold checkC checkN
  rw [if_pos h]
theorem chkC_rest {t : TTx} (h : ¬ (t.ins.length = 0 ∨ 50 < t.ins.length ∨ t.outs.length = 0 ∨ 50 < t.outs.length)) : checkC t =
    if 4000 < (txB t).length then 3 else if 80 < mostKey t.ins then 14 else if sumIs (t.outs.map (·.val)) = false then 5 else if twiceB t.ins = true then 6 else if rightB t = true then 0 else 7 := by
  unfold checkC checkN rightB
  rw [if_neg h, mostKey_over]
  simp only [decide_eq_true_eq]
  split
  · rfl
  split
  · rfl
  split
  · rfl
  split
  · rfl
  by_cases hb : baseB t = true
  · rw [if_pos hb, if_pos hb]
    cases h4 : t.ins.any fun x => decide (x.key.length < 4) <;> rfl
  · rw [if_neg hb, if_neg hb]
    cases h4 : t.ins.any isNullIn <;> rfl
end Go.Proofs.YtgcoegbamoehfaaDoor.Sha

/-
  Rows of one or two inputs, or outputs, as slices; what is amiss with transactions of few inputs. Conditions: those that each states.
-/
namespace Go.Proofs.YtgcoegbamoehfaaDoor.Sha
open Go Go.RowKit
theorem insAt_one {w : World} {g : Nat} {x : TIn} {kv : Value} {fr : Nat × Nat} (h : w.heap[g]? = some (.cells (inL x kv).toArray 43 fr)) (hx : InOk x) (hk : KeyAt w kv x.key) : InsAt w (.slice (some ⟨g, 0, none⟩) 1 1) [x] :=
  ⟨_, 1, rfl, Nat.le_refl _, fun _ => ⟨g, 0, rfl, fun i y hy => by
    have hi := (List.getElem?_eq_some_iff.1 hy).1
    simp at hi
    subst hi
    simp only [List.getElem?_cons_zero, Option.some.injEq] at hy
    subst hy
    exact ⟨hx, kv, hk, range_of_box h⟩⟩⟩
theorem insAt_two {w : World} {g : Nat} {x y : TIn} {kv kw : Value} {fr : Nat × Nat} (h : w.heap[g]? = some (.cells (inL x kv ++ inL y kw).toArray 43 fr)) (hx : InOk x) (hy : InOk y) (hk : KeyAt w kv x.key) (hk2 : KeyAt w kw y.key) : InsAt w (.slice (some ⟨g, 0, none⟩) 2 2) [x, y] :=
  ⟨_, 2, rfl, Nat.le_refl _, fun _ => ⟨g, 0, rfl, fun i z hz => by
    have hr := range_of_box h
    have hl := inL_length x kv hx.1
    have hi := (List.getElem?_eq_some_iff.1 hz).1
    simp at hi
    obtain rfl | rfl : i = 0 ∨ i = 1 := by omega
    · simp only [List.getElem?_cons_zero, Option.some.injEq] at hz
      subst hz
      exact ⟨hx, kv, hk, fun j u hj => by
        have := hr j u (by rw [List.getElem?_append_left (List.getElem?_eq_some_iff.1 hj).1]; exact hj)
        simpa using this⟩
    · simp only [List.getElem?_cons_succ, List.getElem?_cons_zero, Option.some.injEq] at hz
      subst hz
      exact ⟨hy, kw, hk2, fun j u hj => by
        have := hr (35 + j) u (by rw [List.getElem?_append_right (by omega), hl, Nat.add_sub_cancel_left]; exact hj)
        simpa [Nat.add_assoc] using this⟩⟩⟩
theorem outsAt_one {w : World} {g : Nat} {y : TOut} {fr : Nat × Nat} (h : w.heap[g]? = some (.cells (outL y).toArray 46 fr)) (hy : OutOk y) : OutsAt w (.slice (some ⟨g, 0, none⟩) 1 1) [y] :=
  ⟨_, 1, rfl, Nat.le_refl _, fun _ => ⟨g, 0, rfl, fun i z hz => by
    have hi := (List.getElem?_eq_some_iff.1 hz).1
    simp at hi
    subst hi
    simp only [List.getElem?_cons_zero, Option.some.injEq] at hz
    subst hz
    exact ⟨hy, range_of_box h⟩⟩⟩
theorem nil_key (w : World) : KeyAt w (.slice none 0 0) [] := ⟨.inl ⟨_, _, rfl, rfl⟩, _, _, rfl⟩
def hOne : List UInt8 := 1 :: List.replicate 31 0
def bsX (bs : List UInt8) : TIn := ⟨zH, 4294967295, bs, 0⟩
def bsO (v : Nat) : TOut := ⟨v % 1000, zH⟩
def bsN : TIn := ⟨zH, 1, [], 0⟩
def bsV : TIn := ⟨hOne, 4294967295, [], 0⟩
def bsT (bs : List UInt8) (v : Nat) : TTx := ⟨0, [bsX bs], [bsO v], 0⟩
def bsU (bs : List UInt8) (v : Nat) : TTx := ⟨0, [bsN, bsX bs], [bsO v], 0⟩
def bsW (v : Nat) : TTx := ⟨0, [bsV], [bsO v], 0⟩
theorem bsX_ok (bs : List UInt8) : InOk (bsX bs) := ⟨rfl, Nat.le_refl _, Nat.zero_le _⟩
theorem bsN_ok : InOk bsN := ⟨rfl, by decide, Nat.zero_le _⟩
theorem bsV_ok : InOk bsV := ⟨rfl, Nat.le_refl _, Nat.zero_le _⟩
theorem bsO_ok (v : Nat) : OutOk (bsO v) := ⟨rfl, by show v % 1000 ≤ _; omega⟩
theorem small_of {l : List TIn} {v : Nat} (h1 : InsOk l) (h2 : l.length ≤ 2) (h3 : KeysLe l 80) : TxSmall ⟨0, l, [bsO v], 0⟩ :=
  ⟨⟨⟨Nat.zero_le _, Nat.zero_le _⟩, h1, fun y hy => by rw [List.mem_singleton.1 hy]; exact bsO_ok v, fun x hx => Nat.le_trans (h3 x hx) (by omega), by show l.length ≤ _; omega, by simp⟩, by show l.length ≤ _; omega, by simp, fun x hx => Nat.le_trans (h3 x hx) (by omega)⟩
theorem bs_sum (v : Nat) : sumIs [(bsO v).val] = true := by
  unfold sumIs
  rw [decide_eq_true_eq, most_eq]
  simp [bsO]
  omega
theorem bsT_small {bs : List UInt8} (v : Nat) (h : bs.length ≤ 80) : TxSmall (bsT bs v) := small_of (fun x hx => by rw [List.mem_singleton.1 hx]; exact bsX_ok bs) (by simp) (fun x hx => by rw [List.mem_singleton.1 hx]; exact h)
theorem bsU_small {bs : List UInt8} (v : Nat) (h : bs.length ≤ 80) : TxSmall (bsU bs v) := by
  refine small_of (fun x hx => ?_) (by simp) (fun x hx => ?_)
  · simp only [List.mem_cons, List.not_mem_nil, or_false] at hx
    rcases hx with rfl | rfl
    · exact bsN_ok
    · exact bsX_ok bs
  · simp only [List.mem_cons, List.not_mem_nil, or_false] at hx
    rcases hx with rfl | rfl
    · exact Nat.zero_le _
    · exact h
theorem bsW_small (v : Nat) : TxSmall (bsW v) := small_of (fun x hx => by rw [List.mem_singleton.1 hx]; exact bsV_ok) (by simp) (fun x hx => by rw [List.mem_singleton.1 hx]; exact Nat.zero_le _)
theorem zH_null : decide (zH = List.replicate 32 0) = true := by decide
theorem hOne_null : decide (hOne = List.replicate 32 0) = false := by decide
theorem bsX_null (bs : List UInt8) : isNullIn (bsX bs) = true := by
  unfold isNullIn bsX
  simp only [zH_null]
  rfl
theorem bsN_null : isNullIn bsN = false := by
  unfold isNullIn bsN
  simp
theorem bsV_null : isNullIn bsV = false := by
  unfold isNullIn bsV
  simp only [hOne_null]
  rfl
theorem bsT_base (bs : List UInt8) (v : Nat) : true = baseB (bsT bs v) := (bsX_null bs).symm
theorem bsU_base (bs : List UInt8) (v : Nat) : false = baseB (bsU bs v) := rfl
theorem bsW_base (v : Nat) : false = baseB (bsW v) := bsV_null.symm
theorem bsT_check {bs : List UInt8} (v : Nat) (h : bs.length ≤ 80) : checkC (bsT bs v) = if bs.length < 4 then 7 else 0 := by
  rw [chkC_rest (by simp [bsT])]
  have hb := (bsT_small v h).bytes
  have h1 : (insB (bsT bs v).ins).length ≤ 200 := by
    have e : insB (bsT bs v).ins = inB (bsX bs) := by simp [insB, bsT]
    rw [e, inB_length _ (bsX_ok bs)]
    have := lenN_bd (bsX bs).key.length
    have : (bsX bs).key.length = bs.length := rfl
    omega
  have h2 := lenN_bd (bsT bs v).ins.length
  have h3 := lenN_bd (bsT bs v).outs.length
  have h4 : (bsT bs v).outs.length = 1 := rfl
  rw [if_neg (by omega), if_neg (by show ¬ 80 < max 0 bs.length; omega), if_neg (by show ¬ sumIs [(bsO v).val] = false; rw [bs_sum]; simp), if_neg (by show ¬ (false || false) = true; simp)]
  have hr : rightB (bsT bs v) = !decide (bs.length < 4) := by
    unfold rightB
    rw [← bsT_base]
    simp [bsT, bsX]
  rw [hr]
  by_cases h5 : bs.length < 4
  · rw [if_pos h5, decide_eq_true h5]; rfl
  · rw [if_neg h5, decide_eq_false h5]; rfl
theorem bsU_check {bs : List UInt8} (v : Nat) (h : bs.length ≤ 80) : checkC (bsU bs v) = 7 := by
  rw [chkC_rest (by simp [bsU])]
  have hb := (bsU_small v h).bytes
  have h1 : (insB (bsU bs v).ins).length ≤ 300 := by
    have e : insB (bsU bs v).ins = inB bsN ++ inB (bsX bs) := by simp [insB, bsU]
    rw [e, List.length_append, inB_length _ (bsX_ok bs), inB_length _ bsN_ok]
    have := lenN_bd (bsX bs).key.length
    have := lenN_bd bsN.key.length
    have : (bsX bs).key.length = bs.length := rfl
    have : bsN.key.length = 0 := rfl
    omega
  have h2 := lenN_bd (bsU bs v).ins.length
  have h3 := lenN_bd (bsU bs v).outs.length
  have h4 : (bsU bs v).outs.length = 1 := rfl
  have h5 : twiceB (bsU bs v).ins = false := by
    show ((samePtIn bsN (bsX bs) || false) || (false || false)) = false
    have : samePtIn bsN (bsX bs) = false := by simp [samePtIn, bsN, bsX]
    rw [this]
    rfl
  have hr : rightB (bsU bs v) = false := by
    unfold rightB
    rw [← bsU_base]
    show (!(isNullIn bsN || (isNullIn (bsX bs) || false))) = false
    rw [bsX_null]
    simp
  rw [if_neg (by omega), if_neg (by show ¬ 80 < max (max 0 0) bs.length; omega), if_neg (by show ¬ sumIs [(bsO v).val] = false; rw [bs_sum]; simp), if_neg (by rw [h5]; simp), if_neg (by rw [hr]; simp)]
theorem bsW_check (v : Nat) : checkC (bsW v) = 0 := by
  rw [chkC_rest (by simp [bsW])]
  have hb := (bsW_small v).bytes
  have h1 : (insB (bsW v).ins).length ≤ 200 := by
    have e : insB (bsW v).ins = inB bsV := by simp [insB, bsW]
    rw [e, inB_length _ bsV_ok]
    have := lenN_bd bsV.key.length
    have : bsV.key.length = 0 := rfl
    omega
  have h2 := lenN_bd (bsW v).ins.length
  have h3 := lenN_bd (bsW v).outs.length
  have h4 : (bsW v).outs.length = 1 := rfl
  have hr : rightB (bsW v) = true := by
    unfold rightB
    rw [← bsW_base]
    show (!(isNullIn bsV || false)) = true
    rw [bsV_null]
    rfl
  rw [if_neg (by omega), if_neg (by show ¬ 80 < max 0 0; omega), if_neg (by show ¬ sumIs [(bsO v).val] = false; rw [bs_sum]; simp), if_neg (by show ¬ (false || false) = true; simp), if_pos hr]
end Go.Proofs.YtgcoegbamoehfaaDoor.Sha

/-
  The law on chains of transactions in a view: the state of its walk; the chapter's examples. Conditions: the errors and the rounds' words are there.
-/
namespace Go.Proofs.YtgcoegbamoehfaaDoor.Sha
open Go Go.RowKit
theorem below_kps {F : Nat → Prop} {w w1 w2 : World} (h : Below w.heap.size w w1) (hk : Kps F w1 w2) (hF : ∀ k, k < w.heap.size → F k) : Below w.heap.size w w2 :=
  ⟨hk.os.trans h.os, hk.tape.trans h.tape, hk.output.trans h.output, Nat.le_trans h.size hk.size, fun k hk' => (hk.block k (Nat.lt_of_lt_of_le hk' h.size) (hF k hk')).trans (h.block k hk')⟩
theorem vf_low {mb sb B : Nat} (h1 : B ≤ mb) (h2 : B ≤ sb) : ∀ k, k < B → VF mb sb k := fun k hk => ⟨by omega, by omega⟩
theorem wpList_slice_oneG {P : Program} {ops : Array Oper} {rest : List Oper} {o : Oper} {a : Act} {w : World} {Q : Exit → Act → World → Prop} (t e : TypeId) (x : Operand) (ho : o.op = .buildSlice t 1 #[(0, x)]) (cs : List Value) (hx : a.eval x = .agg cs.toArray)
    (hu : P.underlying t = some (.slice e)) (i : TypeInfo) (z : Value) (hi : P.info? e = some i) (hz : i.zero = some z) (hs : i.size = cs.length) (hp : 0 < cs.length) (hm : cs.length ≤ 16777216) (hw : Region.wanted o (yielded ops a.tmps) = true)
    (h : wpList P ops Q rest (a.put o.dst (.slice (some ⟨w.heap.size, 0, none⟩) 1 1)) (w.alloc (.cells cs.toArray e))) : wpList P ops Q (o :: rest) a w :=
  wpList_step fun _ hK => by
    rw [if_pos hw]
    exact wp_slice_one t e x ho cs hx hu i z hi hz hs hp hm (hK _ _ h)
/-- A transaction of one input and one output, its rows in the blocks gi and go: it stands in each world in which these stand. -/
def xKey : Value := .slice none 0 0
def ElT (w : World) (i : Nat) (x : List Value) : Prop :=
  ∃ gi go, x = txL (vcX i) (.slice (some ⟨gi, 0, none⟩) 1 1) (.slice (some ⟨go, 0, none⟩) 1 1) ∧ w.heap[gi]? = some (.cells (inL ⟨(vcF i).h, (vcF i).n, [], 0⟩ xKey).toArray 43 (0, 0)) ∧ w.heap[go]? = some (.cells (outL ⟨i, zH⟩).toArray 46 (0, 0))
theorem ElT.kps {F : Nat → Prop} {w w' : World} {i : Nat} {x : List Value} (h : ElT w i x) (hk : Kps F w w') (hf : ∀ (g : Nat) (cs : Array Value) (T : TypeId), w.heap[g]? = some (.cells cs T (0, 0)) → T = 43 ∨ T = 46 → F g) : ElT w' i x := by
  obtain ⟨gi, go, e, h1, h2⟩ := h
  exact ⟨gi, go, e, row_kps h1 hk (hf _ _ _ h1 (.inl rfl)), row_kps h2 hk (hf _ _ _ h2 (.inr rfl))⟩
theorem ElT.below {w w' : World} {i : Nat} {x : List Value} (h : ElT w i x) (hb : Below w.heap.size w w') : ElT w' i x := by
  obtain ⟨gi, go, e, h1, h2⟩ := h
  exact ⟨gi, go, e, row_below h1 hb, row_below h2 hb⟩
theorem ElT.at {w : World} {i : Nat} {x : List Value} (h : ElT w i x) (hi : i ≤ 1000) : ∃ iv ov, x = txL (vcX i) iv ov ∧ TxAt w (.agg (txL (vcX i) iv ov).toArray) (vcX i) := by
  obtain ⟨gi, go, e, h1, h2⟩ := h
  exact ⟨_, _, e, ⟨by show i ≤ _; omega, Nat.zero_le _⟩, _, _, rfl, insAt_one h1 ⟨(vcF_ok i).1, (vcF_ok i).2, Nat.zero_le _⟩ (nil_key w), outsAt_one h2 ⟨rfl, by show i ≤ _; omega⟩⟩
theorem ElT.len {w : World} {i : Nat} {x : List Value} (h : ElT w i x) : x.length = 4 := by
  obtain ⟨gi, go, rfl, _, _⟩ := h
  rfl
theorem ElT.one {w : World} {i : Nat} {x : List Value} (h : ElT w i x) : ∀ v ∈ x, v.oneCell' = true := by
  obtain ⟨gi, go, rfl, _, _⟩ := h
  intro v hv
  simp only [txL, List.mem_cons, List.not_mem_nil, or_false] at hv
  rcases hv with rfl | rfl | rfl | rfl <;> rfl
section
variable {w w' : World} {b a mb sb : Nat} {m : Option Nat} {l : List TSp} {made made' : Made} {gone gone' : Gone}
theorem ElT.vf {i : Nat} {x : List Value} (h : ElT w i x) (hv : ViewAt w b a m mb sb l made gone) (hk : Kps (VF mb sb) w w') : ElT w' i x := h.kps hk fun _ _ _ hc _ => hv.rowF hc
/-- The same element, for a view's calls: all that Put and Take ask of it. -/
theorem ElT.sty {i : Nat} {x : List Value} (h : ElT w i x) (hv : ViewAt w b a m mb sb l made gone) (hi : i ≤ 1000) : ∃ iv ov, x = txL (vcX i) iv ov ∧ Sty (VF mb sb) w fun W => TxAt W (.agg (txL (vcX i) iv ov).toArray) (vcX i) := by
  obtain ⟨gi, go, e, h1, h2⟩ := h
  exact ⟨_, _, e, fun W hW => ⟨⟨by show i ≤ _; omega, Nat.zero_le _⟩, _, _, rfl, insAt_one (row_kps h1 hW (hv.rowF h1)) ⟨(vcF_ok i).1, (vcF_ok i).2, Nat.zero_le _⟩ (nil_key W), outsAt_one (row_kps h2 hW (hv.rowF h2)) ⟨rfl, by show i ≤ _; omega⟩⟩⟩
end
/-- The state: k: where 'from' stands, r: how many are in the row, q: how many are put. -/
structure VcG (w0 : World) (b a mb sb : Nat) (m : Option Nat) (c : TMn) (g8 g12 : Nat) (k r q : Nat) (w : World) (v : Value) (L : List (List Value)) (made : Made) (gone : Gone) : Prop where
  bel : Below w0.heap.size w0 w
  view : ViewAt w b a m mb sb [⟨vcP0, c⟩] made gone
  st : VcS q made gone
  f8 : w.heap[g8]? = some (.cells (ptC vcP0).toArray 28 (0, 0))
  f12 : w.heap[g12]? = some (.cells (ptC (vcF k)).toArray 28 (0, 0))
  row : RwOwn 4 49 w0.heap.size w v L
  len : L.length = r
  els : ∀ i x, L[i]? = some x → ElT w i x
  low : w0.heap.size ≤ mb ∧ w0.heap.size ≤ sb ∧ w0.heap.size ≤ g12 ∧ g8 ≠ g12
section
variable {w0 w w' : World} {b a mb sb : Nat} {m : Option Nat} {c : TMn} {g8 g12 k k' r q q' : Nat} {v v' : Value} {L : List (List Value)} {made made' : Made} {gone gone' : Gone}
theorem VcG.below (h : VcG w0 b a mb sb m c g8 g12 k r q w v L made gone) (hb : Below w.heap.size w w') : VcG w0 b a mb sb m c g8 g12 k r q w' v L made gone :=
  ⟨h.bel.trans (hb.mono h.bel.size), h.view.below hb, h.st, row_below h.f8 hb, row_below h.f12 hb, h.row.keep hb, h.len, fun i x hx => (h.els i x hx).below hb, h.low⟩
theorem VcG.turn (h : VcG w0 b a mb sb m c g8 g12 k r q w v L made gone) (hk : Kps (VF mb sb) w w') (hv : ViewAt w' b a m mb sb [⟨vcP0, c⟩] made' gone') (hs : VcS q' made' gone') : VcG w0 b a mb sb m c g8 g12 k r q' w' v L made' gone' :=
  ⟨below_kps h.bel hk (vf_low h.low.1 h.low.2.1), hv, hs, row_kps h.f8 hk (h.view.rowF h.f8), row_kps h.f12 hk (h.view.rowF h.f12), ⟨own_kpsB h.row.1 hk (h.view.ownF h.row.1), h.row.2⟩, h.len, fun i x hx => (h.els i x hx).vf h.view hk, h.low⟩
theorem VcG.push (h : VcG w0 b a mb sb m c g8 g12 k r q w v L made gone) {x : List Value} (hx : ElT w r x) (ho : w'.ownsRow w0.heap.size 49 4 v' (L.length + 1) (L.flatten ++ x)) (hg : w.grownBy w' v.ownBlock) : VcG w0 b a mb sb m c g8 g12 k (r + 1) q w' v' (L ++ [x]) made gone := by
  have hk : Kps (fun j => v.ownBlock ≠ some j) w w' := Kps.grown hg fun j _ hj e => hj e.symm
  have hne : ∀ {g : Nat} {cs : Array Value} {T : TypeId} {fr : Nat × Nat}, w.heap[g]? = some (.cells cs T fr) → 49 ≠ T → v.ownBlock ≠ some g := fun hc hT => own_ne' h.row.1 hc hT
  refine ⟨own_grown h.bel (Nat.le_refl _) h.bel.size h.row.1 hg, ?_, h.st, row_kps h.f8 hk (hne h.f8 (by decide)), row_kps h.f12 hk (hne h.f12 (by decide)), RwOwn.push h.row.2 hx.len ho, by rw [List.length_append, h.len]; rfl, fun i y hy => ?_, h.low⟩
  · refine h.view.kps hk (hne h.view.box (by decide)) (hne h.view.set.box (by decide)) (fun p hp e => ?_) (own_nemap h.view.mp h.row.1) (own_nemap h.view.gp h.row.1) (fun y hy g hg' e => ?_)
    · obtain ⟨cs, fz, hc⟩ := Lib.ownsRow_kind h.row.1 p e
      exact h.view.set.rowne hc hp
    · obtain ⟨cs, fz, hc⟩ := Lib.ownsRow_kind h.row.1 g e
      exact own_ne' (h.view.outs y hy).1.1 hc (by decide) hg'
  · have hel : ∀ i y, ElT w i y → ElT w' i y := fun i y he => he.kps hk fun g cs T hc hT => hne hc (by rcases hT with rfl | rfl <;> decide)
    by_cases hi : i < L.length
    · rw [List.getElem?_append_left hi] at hy
      exact hel i y (h.els i y hy)
    · rw [List.getElem?_append_right (by omega)] at hy
      have hi2 : i - L.length = 0 := by
        have := (List.getElem?_eq_some_iff.1 hy).1
        simp at this
        omega
      rw [hi2] at hy
      have e1 : x = y := by simpa using hy
      have e2 : i = r := by have := h.len; omega
      rw [← e1, e2]
      exact hel r x hx
theorem VcG.store (h : VcG w0 b a mb sb m c g8 g12 k r q w v L made gone) (hb : w'.heap[g12]? = some (.cells (ptC (vcF k')).toArray 28 (0, 0))) (hg : w.grownBy w' (some g12)) : VcG w0 b a mb sb m c g8 g12 k' r q w' v L made gone := by
  have hk : Kps (fun j => j ≠ g12) w w' := Kps.grown hg fun j _ hj e => hj (Option.some.inj e)
  refine ⟨below_kps h.bel hk (fun j hj => by have := h.low.2.2.1; omega), h.view.far hg h.f12, h.st, row_kps h.f8 hk h.low.2.2.2, hb, ⟨own_kpsB h.row.1 hk (fun g hg' e => own_ne' h.row.1 h.f12 (by decide) (by rw [hg', e])), h.row.2⟩, h.len, fun i x hx => (h.els i x hx).kps hk (fun g cs T hc hT e => ?_), h.low⟩
  subst e
  rw [h.f12] at hc
  rcases hT with rfl | rfl <;> (cases hc)
end
theorem built_pt1 (h : List UInt8) (hh : h.length = 32) : Tryd.prog.built 28 [(0, .agg (h.map bV).toArray)] = some (ptC ⟨h, 0⟩).toArray := by
  have hz : ∀ parts, Tryd.prog.built 28 parts = Instr.fill ([(0, 32), (32, 1)].toArray[·]?) (List.replicate 32 (bV 0) ++ [nV 0]).toArray parts := fun parts => by kernel_rfl
  rw [hz, fill_part _ 0 0 (.agg (h.map bV).toArray) (h.map bV) _ _ rfl (by simp [hh]) (by simp [hh]), List.take_zero, List.nil_append, List.length_map, hh, Nat.zero_add, List.drop_append_of_le_length (by simp), List.drop_of_length_le (by simp)]
  rfl
def fT : TTx := ⟨0, [], [⟨0, zH⟩], 0⟩
theorem fT_small : TxSmall fT := by
  refine ⟨⟨⟨Nat.zero_le _, Nat.zero_le _⟩, fun x hx => (by cases hx), fun y hy => ?_, fun x hx => (by cases hx), Nat.zero_le _, ?_⟩, Nat.zero_le _, ?_, fun x hx => (by cases hx)⟩
  · rw [List.mem_singleton.1 hy]; exact ⟨rfl, Nat.zero_le _⟩
  · show 1 ≤ _; omega
  · show 1 ≤ _; omega
theorem fT_put : putV [] [] [] fT = 0 := by
  unfold putV
  have h2 : outIs [] (idV fT) fT.outs.length = false := by
    show ([0].any fun i => (getC [] ⟨idV fT, i⟩).isSome) = false
    rfl
  rw [if_neg (by decide), if_neg (by rw [h2]; decide)]
set_option maxHeartbeats 4000000 in
set_option maxRecDepth 100000 in
theorem vwfirst_any (E : Nat → Addr) (w : World) (hE : VE w E) (hk : ∀ W, Below w.heap.size w W → KTab W) :
    Calls Tryd.prog 5 #[] w fun e w' => e = .returned (.bool true) ∧ Below w.heap.size w w' := by
  obtain ⟨i0, hi, hz0, hz1, hz2⟩ := info_parts info_out
  have HE := Lib.hid hE
  have HK := Lib.hid hk
  clear hE hk
  go_enter Tryd.func5, Tryd.ntmps5
  go_wp2_with fail
  have f0 := heap_alloc_new w (.cells #[.map none] 32 (0, 0))
  have b0 := (Below.refl w.heap.size w).alloc (Nat.le_refl _) (.cells #[.map none] 32 (0, 0))
  generalize hw1 : World.alloc _ _ = w1
  have e1 : w.alloc (.cells #[.map none] 32 (0, 0)) = w1 := hw1
  rw [e1] at f0 b0
  have S1 : SetAt w1 w.heap.size none [] := ⟨f0, rfl⟩
  have B0 := Lib.hid b0
  clear f0 b0 hw1 e1
  refine (vwover_any w1 w.heap.size none [] S1).mono ?_
  rintro e w2 ⟨b, mb, sb, rfl, hv, hb, hmb, hsb, bb⟩
  have HV := Lib.hid hv
  have LO : Hid (w.heap.size ≤ mb ∧ w.heap.size ≤ sb) := ⟨Nat.le_trans B0.out.size hmb, Nat.le_trans B0.out.size hsb⟩
  have B1 := Lib.hid (B0.out.trans (bb.mono B0.out.size))
  clear hv hb hmb hsb bb S1 B0
  obtain ⟨a, ha⟩ : ∃ a, a = w.heap.size := ⟨_, rfl⟩
  go_wp2_with ((with_reducible show wpList _ _ _ _ _ _); (refine wpList_buildTo rfl 28 _ rfl _ rfl (ptC ⟨zH, 0⟩).toArray (by kernel_rfl) ?_; go_frame))
  refine (vwget_any w2 b _ mb sb none [] [] [] ⟨zH, 0⟩ HV.out ⟨rfl, Nat.zero_le _⟩).mono ?_
  rw [show vGet [] [] [] ⟨zH, 0⟩ = none from rfl]
  rintro e w3 ⟨rfl, bb⟩
  have HV := Lib.hid (HV.out.below bb)
  have B1 := Lib.hid (B1.out.trans (bb.mono B1.out.size))
  clear bb
  rw [show (none.getD mnZ) = mnZ from rfl, show (none : Option TMn).isSome = false from rfl]
  have ZM : Hid ((mnL mnZ).toArray.size = 35) := by show _ = _; kernel_rfl
  have MA : Hid ((mnL mnZ).toArray.all (·.oneCell') = true) := mnL_all _
  go_upto_region 5 with ((with_reducible show wpList _ _ _ _ _ _); (refine wpList_store_row rfl 37 (.tmp 2) (.tmp 13) rfl w3.heap.size (mnL mnZ).toArray rfl rfl 37 _ (heap_alloc_new _ _) (by rw [ZM.out]; kernel_rfl) rfl MA.out ?_; go_frame))
  obtain ⟨_, f2, f3, f4⟩ := fill_setup (Below.refl w3.heap.size w3) (mnL mnZ).toArray (mnL mnZ).toArray 37
  generalize hqw4 : World.setRow _ _ _ = w4
  have ew4 : World.setRow (w3.alloc (.cells (mnL mnZ).toArray 37)) w3.heap.size (mnL mnZ).toArray = w4 := hqw4
  rw [ew4] at f4
  have HV := Lib.hid (HV.out.below f4)
  have B1 := Lib.hid (B1.out.trans (f4.mono B1.out.size))
  clear f2 f3 f4 hqw4 ew4
  go_wp2_with fail
  refine (vwlen_any w4 b _ mb sb none [] [] [] HV.out).mono ?_
  rintro e w5 ⟨rfl, rfl⟩
  have OL : Hid ((outL ⟨0, zH⟩).length = 33) := rfl
  go_wp2_with ((with_reducible show wpList _ _ _ _ _ _); (refine wpList_slice_oneG 47 46 (.tmp 24) rfl (outL ⟨0, zH⟩) rfl Tryd.underlying47 i0 _ hi hz0 (by rw [hz1]; rfl) (by rw [OL.out]; omega) (by rw [OL.out]; omega) rfl ?_; have nf := heap_alloc_new w4 (.cells (outL ⟨0, zH⟩).toArray 46 (0, 0)); have bb := (Below.refl w4.heap.size w4).alloc (Nat.le_refl _) (.cells (outL ⟨0, zH⟩).toArray 46 (0, 0)); obtain ⟨gn, hgn⟩ : ∃ g, g = w4.heap.size := ⟨_, rfl⟩; generalize hq : World.alloc _ _ = w6; have e2 : w4.alloc (.cells (outL ⟨0, zH⟩).toArray 46 (0, 0)) = w6 := hq; rw [e2] at nf bb; rw [← hgn] at nf ⊢; have NF := Lib.hid nf; have HV := Lib.hid (HV.out.below bb); have B1 := Lib.hid (B1.out.trans (bb.mono B1.out.size)); clear nf bb hq e2 hgn; go_frame))
  have PU : Hid (Calls Tryd.prog 8 #[.pointer (some ⟨b, 0, none⟩), .agg #[.int .u32 0, .slice none 0 0, .slice (some ⟨gn, 0, none⟩) 1 1, .int .u32 0], .int .i64 1] w6 (PvPost E b _ mb sb none [] [] [] fT 1 w6)) := vwput_any E w6 b _ mb sb none [] [] [] fT (.slice none 0 0) (.slice (some ⟨gn, 0, none⟩) 1 1) 1 HV.out (HE.out.below B1.out) (fun W hW => ⟨⟨Nat.zero_le _, Nat.zero_le _⟩, _, _, rfl, ⟨none, 0, rfl, Nat.le_refl _, fun h => absurd h (Nat.lt_irrefl _)⟩, outsAt_one (row_kps NF.out hW (HV.out.rowF NF.out)) ⟨rfl, Nat.zero_le _⟩⟩) (fun W hW => HK.out W (B1.out.trans (hW.mono B1.out.size))) fT_small (by omega)
  refine PU.out.mono ?_
  rintro e w7 ⟨hkp, hpo⟩
  rcases hpo with ⟨hne, _, _⟩ | ⟨_, rfl, v, hv7, _⟩
  · exact absurd fT_put hne
  have HV := Lib.hid hv7
  have B1 := Lib.hid (below_kps B1.out hkp (vf_low LO.out.1 LO.out.2))
  clear hkp hv7 PU
  go_wp2_with fail
  refine (vwlen_any w7 b _ mb sb none [] _ _ HV.out).mono ?_
  rintro e w8 ⟨rfl, rfl⟩
  go_wp2_with fail
  go_ret
  exact ⟨rfl, B1.out⟩
end Go.Proofs.YtgcoegbamoehfaaDoor.Sha

/-
  Plain mathematics of a block's header: its bytes; read out of bytes it is what was written, cut off it ends too early, longer it has another shape; any 80 bytes are one header's. No conditions beyond those that each states.
-/
namespace Go.Proofs.YtgcoegbamoehfaaDoor.Sha
open Go Go.RowKit
structure THd where
  ver : Nat
  prev : List UInt8
  root : List UInt8
  time : Nat
  work : Nat
  nonce : Nat
def HdOk (h : THd) : Prop := h.ver ≤ 4294967295 ∧ h.prev.length = 32 ∧ h.root.length = 32 ∧ h.time ≤ 4294967295 ∧ h.work ≤ 4294967295 ∧ h.nonce ≤ 4294967295
/-- A header's bytes. -/
def hdB (h : THd) : List UInt8 := leB h.ver 4 ++ h.prev ++ h.root ++ leB h.time 4 ++ leB h.work 4 ++ leB h.nonce 4
def hdP : Par THd := thenP (leP 4) fun v => thenP (takeL 32) fun p => thenP (takeL 32) fun r => thenP (leP 4) fun t => thenP (leP 4) fun w => mapP (fun n => ⟨v, padH p, padH r, t, w, n⟩) (leP 4)
def noHd : THd := ⟨0, List.replicate 32 0, List.replicate 32 0, 0, 0, 0⟩
/-- A header out of a Reader: none where an error was met. -/
def takeHd (bs : List UInt8) (c : Nat) : THd × List UInt8 × Nat := if (hdP bs c).2.2 = 0 then hdP bs c else (noHd, (hdP bs c).2)
/-- Bytes as a header, or what is amiss. -/
def readHd (bs : List UInt8) : THd × Nat := if (hdP bs 0).2.2 ≠ 0 then (noHd, (hdP bs 0).2.2) else if (hdP bs 0).2.1 ≠ [] then (noHd, 2) else ((hdP bs 0).1, 0)
theorem padH_all {x : List UInt8} (h : x.length = 32) : padH x = x := by unfold padH; rw [h]; simp
theorem hdB_length {h : THd} (hh : HdOk h) : (hdB h).length = 80 := by
  simp only [hdB, List.length_append, leB_length, hh.2.1, hh.2.2.1]
theorem stay_hd : Stay hdP := (stay_le 4).andThen fun _ => (stay_take 32).andThen fun _ => (stay_take 32).andThen fun _ => (stay_le 4).andThen fun _ => (stay_le 4).andThen fun _ => (stay_le 4).map _
theorem good_hd (h : THd) (hh : HdOk h) : Good hdP h (hdB h) := by
  obtain ⟨h1, h2, h3, h4, h5, h6⟩ := hh
  obtain ⟨a, b, c, d, e, f⟩ := h
  simp only at h1 h2 h3 h4 h5 h6
  have g := (good_le a 4 (by omega)).andThen (q := fun v => thenP (takeL 32) fun p => thenP (takeL 32) fun r => thenP (leP 4) fun t => thenP (leP 4) fun w => mapP (fun n => (⟨v, padH p, padH r, t, w, n⟩ : THd)) (leP 4))
    ((good_take b 32 h2).andThen (q := fun p => thenP (takeL 32) fun r => thenP (leP 4) fun t => thenP (leP 4) fun w => mapP (fun n => (⟨a, padH p, padH r, t, w, n⟩ : THd)) (leP 4))
      ((good_take c 32 h3).andThen (q := fun r => thenP (leP 4) fun t => thenP (leP 4) fun w => mapP (fun n => (⟨a, padH b, padH r, t, w, n⟩ : THd)) (leP 4))
        ((good_le d 4 (by omega)).andThen (q := fun t => thenP (leP 4) fun w => mapP (fun n => (⟨a, padH b, padH c, t, w, n⟩ : THd)) (leP 4))
          ((good_le e 4 (by omega)).andThen (q := fun w => mapP (fun n => (⟨a, padH b, padH c, d, w, n⟩ : THd)) (leP 4))
            ((good_le f 4 (by omega)).map _) (fun _ => (stay_le 4).map _)) (fun _ => (stay_le 4).andThen fun _ => (stay_le 4).map _))
          (fun _ => (stay_le 4).andThen fun _ => (stay_le 4).andThen fun _ => (stay_le 4).map _))
        (fun _ => (stay_take 32).andThen fun _ => (stay_le 4).andThen fun _ => (stay_le 4).andThen fun _ => (stay_le 4).map _))
      (fun _ => (stay_take 32).andThen fun _ => (stay_take 32).andThen fun _ => (stay_le 4).andThen fun _ => (stay_le 4).andThen fun _ => (stay_le 4).map _)
  rw [padH_all h2, padH_all h3] at g
  simp only [hdB, List.append_assoc]
  exact g
/-- What was written is read again. -/
theorem hd_own {h : THd} (hh : HdOk h) : readHd (hdB h) = (h, 0) := by
  have g := (good_hd h hh).1 []
  rw [List.append_nil] at g
  unfold readHd
  rw [g]
  rfl
theorem hd_take {h : THd} (hh : HdOk h) (y : List UInt8) : takeHd (hdB h ++ y) 0 = (h, y, 0) := by
  unfold takeHd
  rw [(good_hd h hh).1 y, if_pos rfl]
/-- Cut off, it ends too early. -/
theorem hd_cut {h : THd} (hh : HdOk h) {k : Nat} (hk : k < 80) : readHd ((hdB h).take k) = (noHd, 1) := by
  have g := (good_hd h hh).2 k (by rw [hdB_length hh]; exact hk)
  unfold readHd
  rw [g, if_pos (by omega)]
/-- Longer, it has another shape. -/
theorem hd_long {h : THd} (hh : HdOk h) {y : List UInt8} (hy : y ≠ []) : readHd (hdB h ++ y) = (noHd, 2) := by
  unfold readHd
  rw [(good_hd h hh).1 y, if_neg (by simp), if_pos hy]
/-- Any 80 bytes are one header's. -/
theorem hd_all (b : List UInt8) (hb : b.length = 80) : ∃ h, HdOk h ∧ hdB h = b := by
  have cut : ∀ (l : List UInt8) (k : Nat), k ≤ l.length → ∃ x y, l = x ++ y ∧ x.length = k := fun l k hk => ⟨l.take k, l.drop k, (List.take_append_drop k l).symm, by rw [List.length_take]; omega⟩
  obtain ⟨x1, y1, e1, l1⟩ := cut b 4 (by omega)
  have s1 : y1.length = 76 := by have := congrArg List.length e1; rw [List.length_append] at this; omega
  obtain ⟨x2, y2, e2, l2⟩ := cut y1 32 (by omega)
  have s2 : y2.length = 44 := by have := congrArg List.length e2; rw [List.length_append] at this; omega
  obtain ⟨x3, y3, e3, l3⟩ := cut y2 32 (by omega)
  have s3 : y3.length = 12 := by have := congrArg List.length e3; rw [List.length_append] at this; omega
  obtain ⟨x4, y4, e4, l4⟩ := cut y3 4 (by omega)
  have s4 : y4.length = 8 := by have := congrArg List.length e4; rw [List.length_append] at this; omega
  obtain ⟨x5, y5, e5, l5⟩ := cut y4 4 (by omega)
  have s5 : y5.length = 4 := by have := congrArg List.length e5; rw [List.length_append] at this; omega
  have lt : ∀ x : List UInt8, x.length = 4 → leN x ≤ 4294967295 ∧ leB (leN x) 4 = x := fun x hx => by
    have h1 := leN_lt x
    have h2 := leB_leN x
    rw [hx] at h1 h2
    exact ⟨by omega, h2⟩
  refine ⟨⟨leN x1, x2, x3, leN x4, leN x5, leN y5⟩, ⟨(lt x1 l1).1, l2, l3, (lt x4 l4).1, (lt x5 l5).1, (lt y5 s5).1⟩, ?_⟩
  simp only [hdB, (lt x1 l1).2, (lt x4 l4).2, (lt x5 l5).2, (lt y5 s5).2, List.append_assoc]
  rw [← e5, ← e4, ← e3, ← e2, ← e1]
theorem hd_inj {h g : THd} (hh : HdOk h) (hg : HdOk g) (e : hdB h = hdB g) : h = g := by
  have h1 := hd_own hh
  rw [e, hd_own hg] at h1
  exact (Prod.mk.inj h1).1.symm
/-- What is read has just these bytes. -/
theorem hd_back {b : List UInt8} (hb : b.length = 80) : HdOk (readHd b).1 ∧ hdB (readHd b).1 = b ∧ (readHd b).2 = 0 := by
  obtain ⟨h, hh, rfl⟩ := hd_all b hb
  rw [hd_own hh]
  exact ⟨hh, rfl, rfl⟩
end Go.Proofs.YtgcoegbamoehfaaDoor.Sha

/-
  A block's header as the model has it: 68 cells; where its parts lie. Conditions: digests of 32 bytes.
-/
namespace Go.Proofs.YtgcoegbamoehfaaDoor.Sha
open Go Go.RowKit
/-- A header's cells. -/
def hdL (h : THd) : List Value := nV h.ver :: (h.prev.map bV ++ (h.root.map bV ++ [nV h.time, nV h.work, nV h.nonce]))
theorem hdL_length {h : THd} (hh : HdOk h) : (hdL h).length = 68 := by simp [hdL, hh.2.1, hh.2.2.1]
theorem hdL_size {h : THd} (hh : HdOk h) : (hdL h).toArray.size = 68 := by rw [List.size_toArray]; exact hdL_length hh
theorem hdL_one' (h : THd) : ∀ v ∈ hdL h, v.oneCell' = true := by
  intro v hv
  rcases List.mem_cons.1 hv with rfl | h1
  · rfl
  rcases List.mem_append.1 h1 with h1 | h1
  · exact bV_one' _ v h1
  rcases List.mem_append.1 h1 with h1 | h1
  · exact bV_one' _ v h1
  · simp only [List.mem_cons, List.not_mem_nil, or_false] at h1
    rcases h1 with rfl | rfl | rfl <;> rfl
theorem hdL_one (h : THd) : (hdL h).toArray.all (·.oneCell') = true := all_oneCell_toArray (hdL_one' h)
/-- The parts' cells. -/
theorem hdL_at {h : THd} (hh : HdOk h) : (hdL h)[0]? = some (nV h.ver) ∧ (hdL h)[65]? = some (nV h.time) ∧ (hdL h)[66]? = some (nV h.work) ∧ (hdL h)[67]? = some (nV h.nonce) := by
  have h1 : (h.prev.map bV).length = 32 := by simp [hh.2.1]
  have h2 : (h.root.map bV).length = 32 := by simp [hh.2.2.1]
  have e : hdL h = [nV h.ver] ++ h.prev.map bV ++ h.root.map bV ++ [nV h.time, nV h.work, nV h.nonce] := by simp [hdL]
  refine ⟨rfl, ?_, ?_, ?_⟩ <;> (rw [e, List.getElem?_append_right (by simp only [List.length_append, h1, h2, List.length_cons, List.length_nil]; omega)]; simp only [List.length_append, h1, h2, List.length_cons, List.length_nil]; rfl)
theorem range_part {w : World} {b o : Nat} {xs ys zs : List Value} (h : w.rangeAt b o (xs ++ (ys ++ zs))) : w.rangeAt b (o + xs.length) ys := fun j v hj => by
  rw [Nat.add_assoc]
  refine h (xs.length + j) v ?_
  rw [List.getElem?_append_right (by omega), Nat.add_sub_cancel_left, List.getElem?_append_left (List.getElem?_eq_some_iff.1 hj).1]
  exact hj
theorem hd_prev {w : World} {b o : Nat} {h : THd} (hg : w.rangeAt b o (hdL h)) : w.rangeAt b (o + 1) (h.prev.map bV) :=
  range_part (xs := [nV h.ver]) (ys := h.prev.map bV) hg
theorem hd_root {w : World} {b o : Nat} {h : THd} (hh : HdOk h) (hg : w.rangeAt b o (hdL h)) : w.rangeAt b (o + 33) (h.root.map bV) := by
  have e : hdL h = (nV h.ver :: h.prev.map bV) ++ (h.root.map bV ++ [nV h.time, nV h.work, nV h.nonce]) := by simp [hdL]
  rw [e] at hg
  have h := range_part hg
  simpa [hh.2.1] using h
end Go.Proofs.YtgcoegbamoehfaaDoor.Sha

/-
  Rows of transactions, and blocks, as the model has them: four cells each behind a slice; a header's cells and a slice. No conditions.
-/
namespace Go.Proofs.YtgcoegbamoehfaaDoor.Sha
open Go Go.RowKit
/-- A transaction stands in block b from o on. -/
def TxIn (w : World) (b o : Nat) (t : TTx) : Prop := TxOk t ∧ ∃ iv ov, w.rangeAt b o (txL t iv ov) ∧ InsAt w iv t.ins ∧ OutsAt w ov t.outs
theorem TxIn.below {w w' : World} {b o : Nat} {t : TTx} (h : TxIn w b o t) (hb : Below w.heap.size w w') : TxIn w' b o t := by
  obtain ⟨h0, iv, ov, h1, h2, h3⟩ := h
  exact ⟨h0, iv, ov, range_below h1 hb, h2.below hb, h3.below hb⟩
/-- A row of transactions behind a slice. -/
def TxsAt (w : World) (v : Value) (l : List TTx) : Prop :=
  ∃ sp cap, v = .slice sp l.length cap ∧ l.length ≤ cap ∧ (0 < l.length → ∃ b o, sp = some ⟨b, o, none⟩ ∧ ∀ i t, l[i]? = some t → TxIn w b (o + i * 4) t)
theorem TxsAt.below {w w' : World} {v : Value} {l : List TTx} (h : TxsAt w v l) (hb : Below w.heap.size w w') : TxsAt w' v l := by
  obtain ⟨sp, cap, h1, h2, h3⟩ := h
  refine ⟨sp, cap, h1, h2, fun h0 => ?_⟩
  obtain ⟨b, o, h4, h5⟩ := h3 h0
  exact ⟨b, o, h4, fun i x hx => (h5 i x hx).below hb⟩
theorem TxsAt.nil (w : World) (sp : Option Addr) (cap : Nat) : TxsAt w (.slice sp 0 cap) [] := ⟨sp, cap, rfl, Nat.zero_le _, fun h => absurd h (by simp)⟩
theorem TxsAt.shape {w : World} {v : Value} {l : List TTx} (h : TxsAt w v l) : ∃ sp cap, v = .slice sp l.length cap := by
  obtain ⟨sp, cap, h1, _⟩ := h
  exact ⟨sp, cap, h1⟩
theorem TxsAt.len {w : World} {sp : Option Addr} {n cap : Nat} {l : List TTx} (h : TxsAt w (.slice sp n cap) l) : n = l.length ∧ n ≤ cap := by
  obtain ⟨sp', cap', h1, h2, _⟩ := h
  cases h1
  exact ⟨rfl, h2⟩
/-- One of them, by its place. -/
theorem TxsAt.get {w : World} {sp : Option Addr} {n cap : Nat} {l : List TTx} (h : TxsAt w (.slice sp n cap) l) (h0 : 0 < n) :
    ∃ b o, sp = some ⟨b, o, none⟩ ∧ b < w.heap.size ∧ ∀ i t, l[i]? = some t → ∃ iv ov, w.rangeAt b (o + i * 4) (txL t iv ov) ∧ TxAt w (.agg (txL t iv ov).toArray) t := by
  obtain ⟨sp', cap', h1, h2, h3⟩ := h
  cases h1
  obtain ⟨b, o, rfl, h5⟩ := h3 h0
  refine ⟨b, o, rfl, ?_, fun i t ht => ?_⟩
  · obtain ⟨_, iv, ov, h6, _⟩ := h5 0 (l[0]) (List.getElem?_eq_getElem h0)
    exact World.block_lt_of_cell? w _ (h6 0 _ rfl)
  · obtain ⟨a, iv, ov, h6, h7, h8⟩ := h5 i t ht
    exact ⟨iv, ov, h6, a, iv, ov, rfl, h7, h8⟩
/-- A block: a header, and transactions. -/
structure TBlk where
  head : THd
  txs : List TTx
/-- A block's cells. -/
def blL (h : THd) (tv : Value) : List Value := hdL h ++ [tv]
theorem blL_length {h : THd} (hh : HdOk h) (tv : Value) : (blL h tv).length = 69 := by simp [blL, hdL_length hh]
theorem blL_size {h : THd} (hh : HdOk h) (tv : Value) : (blL h tv).toArray.size = 69 := by simp [blL, hdL_length hh]
/-- A block by value. -/
def BlkAt (w : World) (v : Value) (x : TBlk) : Prop := HdOk x.head ∧ ∃ tv, v = .agg (blL x.head tv).toArray ∧ TxsAt w tv x.txs
theorem BlkAt.below {w w' : World} {v : Value} {x : TBlk} (h : BlkAt w v x) (hb : Below w.heap.size w w') : BlkAt w' v x := by
  obtain ⟨h0, tv, h1, h2⟩ := h
  exact ⟨h0, tv, h1, h2.below hb⟩
theorem blL_one {h : THd} {tv : Value} (ht : tv.oneCell' = true) : (blL h tv).toArray.all (·.oneCell') = true := by
  rw [Array.all_eq_true_iff_forall_mem]
  intro u hu
  rw [List.mem_toArray, blL, List.mem_append, List.mem_singleton] at hu
  rcases hu with hu | rfl
  · exact hdL_one' h u hu
  · exact ht
theorem TxsAt.one {w : World} {tv : Value} {l : List TTx} (h : TxsAt w tv l) : tv.oneCell' = true := by
  obtain ⟨sp, cap, rfl, _⟩ := h
  rfl
end Go.Proofs.YtgcoegbamoehfaaDoor.Sha

/-
  Plain mathematics of a block's bytes: what was written is read again; cut off it ends too early; longer it is none; what is read has just these bytes. No conditions beyond those that each states.
-/
namespace Go.Proofs.YtgcoegbamoehfaaDoor.Sha
open Go Go.RowKit
def txsB (l : List TTx) : List UInt8 := l.flatMap txB
def blkB (x : TBlk) : List UInt8 := hdB x.head ++ putL x.txs.length ++ txsB x.txs
theorem txsB_cons (t : TTx) (l : List TTx) : txsB (t :: l) = txB t ++ txsB l := rfl
theorem txsB_snoc {l : List TTx} {k : Nat} {t : TTx} (h : l[k]? = some t) : txsB (l.take (k + 1)) = txsB (l.take k) ++ txB t := by
  unfold txsB
  rw [List.take_add_one, h, List.flatMap_append]
  simp
theorem txsB_part {l : List TTx} {k : Nat} {t : TTx} (h : l[k]? = some t) : (txsB (l.take k)).length + (txB t).length ≤ (txsB l).length := by
  have e : txsB l = txsB (l.take (k + 1)) ++ txsB (l.drop (k + 1)) := by unfold txsB; rw [← List.flatMap_append, List.take_append_drop]
  rw [e, txsB_snoc h]
  simp only [List.length_append]
  omega
def blkP : Par TBlk := thenP takeHd fun h => thenP (numL 200) fun n => mapP (fun l => ⟨h, l⟩) (manyP takeTx n)
def noBlk : TBlk := ⟨noHd, []⟩
/-- Bytes as a block, or what is amiss. -/
def readBlk (bs : List UInt8) : TBlk × Nat := if (blkP bs 0).2.2 ≠ 0 then (noBlk, (blkP bs 0).2.2) else if (blkP bs 0).2.1 ≠ [] then (noBlk, 2) else ((blkP bs 0).1, 0)
/-- A reader that answers z once an error is met. -/
def noErr {α : Type} (z : α) (p : Par α) : Par α := fun bs c => if (p bs c).2.2 = 0 then p bs c else (z, (p bs c).2)
section
variable {α : Type} {z a : α} {p : Par α} {x : List UInt8}
theorem stay_noErr (h : Stay p) : Stay (noErr z p) := fun bs c hc => by
  have e := h bs c hc
  unfold noErr
  rw [if_neg (by rw [e]; exact hc)]
  exact e
theorem good_noErr (h : Good p a x) : Good (noErr z p) a x := by
  refine ⟨fun y => ?_, fun k hk => ?_⟩
  · unfold noErr
    rw [h.1 y, if_pos rfl]
  · have e := h.2 k hk
    unfold noErr
    rw [if_neg (by rw [e]; omega)]
    exact e
theorem back_noErr {R : α → List UInt8 → Prop} (h : BackR p R) : BackR (noErr z p) R := fun bs a r e => by
  unfold noErr at e
  split at e
  · exact h bs a r e
  · rename_i h
    exact absurd (congrArg (fun p : α × List UInt8 × Nat => p.2.2) e) h
end
theorem takeHd_eq : takeHd = noErr noHd hdP := rfl
theorem takeTx_eq : takeTx = noErr noTx txP := rfl
theorem stay_takeHd : Stay takeHd := takeHd_eq ▸ stay_noErr stay_hd
theorem stay_takeTx : Stay takeTx := takeTx_eq ▸ stay_noErr stay_tx
theorem good_takeHd (h : THd) (hh : HdOk h) : Good takeHd h (hdB h) := takeHd_eq ▸ good_noErr (good_hd h hh)
theorem good_takeTx (t : TTx) (h : TxRead t) : Good takeTx t (txB t) := takeTx_eq ▸ good_noErr (good_tx t h)
theorem back_hd : BackR hdP (fun h x => x = hdB h ∧ HdOk h) := by
  refine BackR.weak ((back_le 4).andThen (fun v => (back_take 32).andThen (fun p => (back_take 32).andThen (fun r => (back_le 4).andThen (fun t => (back_le 4).andThen (fun w => (back_le 4).map _) (fun _ => (stay_le 4).map _)) (fun _ => (stay_le 4).andThen fun _ => (stay_le 4).map _)) (fun _ => (stay_le 4).andThen fun _ => (stay_le 4).andThen fun _ => (stay_le 4).map _)) (fun _ => (stay_take 32).andThen fun _ => (stay_le 4).andThen fun _ => (stay_le 4).andThen fun _ => (stay_le 4).map _)) (fun _ => (stay_take 32).andThen fun _ => (stay_take 32).andThen fun _ => (stay_le 4).andThen fun _ => (stay_le 4).andThen fun _ => (stay_le 4).map _)) ?_
  rintro a x ⟨v, x1, x2, rfl, ⟨rfl, hv⟩, p, x3, x4, rfl, ⟨rfl, hp⟩, r, x5, x6, rfl, ⟨rfl, hr⟩, t, x7, x8, rfl, ⟨rfl, ht⟩, w, x9, x10, rfl, ⟨rfl, hw⟩, n, rfl, rfl, hn⟩
  rw [padH_all hp, padH_all hr]
  exact ⟨by simp only [hdB, List.append_assoc], Nat.le_of_lt_succ hv, hp, hr, Nat.le_of_lt_succ ht, Nat.le_of_lt_succ hw, Nat.le_of_lt_succ hn⟩
theorem back_takeHd : BackR takeHd (fun h x => x = hdB h ∧ HdOk h) := takeHd_eq ▸ back_noErr back_hd
theorem back_takeTx : BackR takeTx (fun t x => x = txB t ∧ TxRead t) := takeTx_eq ▸ back_noErr back_tx
/-- What a block must be to be read again. -/
def BlkRead (x : TBlk) : Prop := HdOk x.head ∧ (∀ t ∈ x.txs, TxRead t) ∧ x.txs.length ≤ 200
theorem stay_blk : Stay blkP := stay_takeHd.andThen fun _ => (stay_num 200).andThen fun n => (stay_many n).map _
theorem good_blk (x : TBlk) (h : BlkRead x) : Good blkP x (blkB x) := by
  obtain ⟨h1, h2, h3⟩ := h
  obtain ⟨a, l⟩ := x
  simp only at h1 h2 h3
  have g := (good_takeHd a h1).andThen (q := fun h => thenP (numL 200) fun n => mapP (fun l => (⟨h, l⟩ : TBlk)) (manyP takeTx n))
    ((good_num 200 l.length h3 (by omega)).andThen (q := fun n => mapP (fun l => (⟨a, l⟩ : TBlk)) (manyP takeTx n))
      ((good_many txB l (fun z hz => good_takeTx z (h2 z hz))).map _) (fun n => (stay_many n).map _))
    (fun _ => (stay_num 200).andThen fun n => (stay_many n).map _)
  simp only [blkB, txsB, List.append_assoc]
  exact g
theorem back_blk : BackR blkP (fun x bs => bs = blkB x ∧ BlkRead x) := by
  refine BackR.weak (back_takeHd.andThen (fun h => (back_num 200).andThen (fun n => (back_many txB _ back_takeTx n).map _) (fun n => (stay_many n).map _)) (fun _ => (stay_num 200).andThen fun n => (stay_many n).map _)) ?_
  rintro a x ⟨v, x1, x2, rfl, ⟨rfl, hv⟩, n, x3, x4, rfl, ⟨rfl, hn⟩, l, rfl, rfl, hl, hll⟩
  subst hll
  exact ⟨by simp only [blkB, txsB, List.append_assoc], hv, hl, hn⟩
/-- What was written is read again. -/
theorem blk_own {x : TBlk} (h : BlkRead x) : readBlk (blkB x) = (x, 0) := by
  have g := (good_blk x h).1 []
  rw [List.append_nil] at g
  unfold readBlk
  rw [g]
  rfl
/-- Cut off, it ends too early. -/
theorem blk_cut {x : TBlk} (h : BlkRead x) {k : Nat} (hk : k < (blkB x).length) : readBlk ((blkB x).take k) = (noBlk, 1) := by
  have g := (good_blk x h).2 k hk
  unfold readBlk
  rw [g, if_pos (by omega)]
/-- Longer, it has another shape. -/
theorem blk_long {x : TBlk} (h : BlkRead x) {y : List UInt8} (hy : y ≠ []) : readBlk (blkB x ++ y) = (noBlk, 2) := by
  unfold readBlk
  rw [(good_blk x h).1 y, if_neg (by simp), if_pos hy]
/-- What is read has just these bytes. -/
theorem blk_back {b : List UInt8} (h : (readBlk b).2 = 0) : b = blkB (readBlk b).1 ∧ BlkRead (readBlk b).1 := by
  obtain ⟨p, hp⟩ : ∃ p, blkP b 0 = p := ⟨_, rfl⟩
  unfold readBlk at h ⊢
  rw [hp] at h ⊢
  obtain ⟨a, r, c⟩ := p
  by_cases h1 : c ≠ 0
  · rw [if_pos (show (a, r, c).2.2 ≠ 0 from h1)] at h
    exact absurd h h1
  · have h1 : c = 0 := by omega
    subst h1
    by_cases h2 : r ≠ []
    · rw [if_neg (show ¬ (a, r, 0).2.2 ≠ 0 from fun h => h rfl), if_pos (show (a, r, 0).2.1 ≠ [] from h2)] at h
      exact absurd h (by simp)
    · have h2 : r = [] := by simpa using h2
      subst h2
      obtain ⟨x, e, e2, hr⟩ := back_blk b a [] hp
      rw [List.append_nil] at e
      exact ⟨e.trans e2, hr⟩
end Go.Proofs.YtgcoegbamoehfaaDoor.Sha

/-
  What of a block is small enough for the walks. No conditions.
-/
namespace Go.Proofs.YtgcoegbamoehfaaDoor.Sha
open Go Go.RowKit
/-- A block of a few transactions, each of a few inputs and outputs. -/
def BlkSmall (x : TBlk) : Prop := (∀ t ∈ x.txs, TxSmall t) ∧ x.txs.length ≤ 1000
theorem txB_le {t : TTx} (h : TxSmall t) : (txB t).length ≤ 200100000 := by
  have h1 := h.bytes
  have h2 := h.ins0
  have h3 := h.2.2.1
  have h4 := lenN_bd t.ins.length
  have h5 := lenN_bd t.outs.length
  omega
theorem txsB_le : ∀ (l : List TTx), (∀ t ∈ l, TxSmall t) → (txsB l).length ≤ 200100000 * l.length
  | [], _ => by simp [txsB]
  | t :: l, h => by
    have ih := txsB_le l (fun u hu => h u (List.mem_cons_of_mem _ hu))
    have h1 := txB_le (h t List.mem_cons_self)
    rw [txsB_cons, List.length_append, List.length_cons]
    omega
theorem BlkSmall.txs {x : TBlk} (h : BlkSmall x) : (txsB x.txs).length ≤ 200100000000 := by
  have h1 := txsB_le x.txs h.1
  have h2 := h.2
  omega
theorem blkB_len {x : TBlk} (hh : HdOk x.head) : (blkB x).length = 80 + lenN x.txs.length + (txsB x.txs).length := by
  simp only [blkB, List.length_append, hdB_length hh, putL_length]
theorem BlkSmall.len {x : TBlk} (h : BlkSmall x) (hh : HdOk x.head) : (blkB x).length ≤ 200200000000 := by
  have h1 := h.txs
  have h2 := lenN_bd x.txs.length
  rw [blkB_len hh]
  omega
end Go.Proofs.YtgcoegbamoehfaaDoor.Sha

/-
  Package block tells how many bytes a block has. Nothing that was there turns. Condition: a block of a few transactions that lies in memory.
-/
namespace Go.Proofs.YtgcoegbamoehfaaDoor.Sha
open Go Go.RowKit
def BsInv (n A : Nat) (l : List TTx) (w1 : World) (vs vi : Value) (wr : World) : Prop :=
  ∃ k s : Nat, k ≤ n ∧ vi = .int .i64 k ∧ s = A + (txsB (l.take k)).length ∧ vs = .int .i64 s ∧ Below w1.heap.size w1 wr
end Go.Proofs.YtgcoegbamoehfaaDoor.Sha

/-
  A header's id, as plain mathematics. No conditions.
-/
namespace Go.Proofs.YtgcoegbamoehfaaDoor.Sha
open Go Go.RowKit
/-- A header's digest. -/
def hdId (h : THd) : List UInt8 := sha (sha (hdB h))
theorem hdId_length (h : THd) : (hdId h).length = 32 := sha_length _
end Go.Proofs.YtgcoegbamoehfaaDoor.Sha

/-
  The chapter's examples hold, given what package tx is shown to answer. No conditions.
-/
namespace Go.Proofs.YtgcoegbamoehfaaDoor.Sha
open Go Go.RowKit
theorem noTx_at (w : World) : TxAt w (.agg #[.int .u32 0, .slice none 0 0, .slice none 0 0, .int .u32 0]) noTx :=
  ⟨⟨by simp [noTx], by simp [noTx]⟩, .slice none 0 0, .slice none 0 0, rfl, ⟨none, 0, rfl, by simp [noTx], fun h => absurd h (by simp [noTx])⟩, ⟨none, 0, rfl, by simp [noTx], fun h => absurd h (by simp [noTx])⟩⟩
theorem noTx_small : TxSmall noTx := TxRead.small ⟨⟨by simp [noTx], by simp [noTx]⟩, fun _ h => absurd h (by simp [noTx]), fun _ h => absurd h (by simp [noTx]), fun _ h => absurd h (by simp [noTx]), by simp [noTx], by simp [noTx]⟩
theorem noTx_len : (txB noTx).length = 10 := by decide
end Go.Proofs.YtgcoegbamoehfaaDoor.Sha

/-
  The statement on transactions that make coins answers true. Conditions: the key's bytes lie where the slice says; the errors are there.
-/
namespace Go.Proofs.YtgcoegbamoehfaaDoor.Sha
open Go Go.RowKit
theorem lay3 (w : World) (A B C : Array Value) (T1 T2 T3 : TypeId) : Below w.heap.size w (((w.alloc (.cells A T1 (0, 0))).alloc (.cells B T2 (0, 0))).alloc (.cells C T3 (0, 0)))
    ∧ (((w.alloc (.cells A T1 (0, 0))).alloc (.cells B T2 (0, 0))).alloc (.cells C T3 (0, 0))).heap[w.heap.size]? = some (.cells A T1 (0, 0))
    ∧ (((w.alloc (.cells A T1 (0, 0))).alloc (.cells B T2 (0, 0))).alloc (.cells C T3 (0, 0))).heap[w.heap.size + 1]? = some (.cells B T2 (0, 0))
    ∧ (((w.alloc (.cells A T1 (0, 0))).alloc (.cells B T2 (0, 0))).alloc (.cells C T3 (0, 0))).heap[w.heap.size + 2]? = some (.cells C T3 (0, 0))
    ∧ (((w.alloc (.cells A T1 (0, 0))).alloc (.cells B T2 (0, 0))).alloc (.cells C T3 (0, 0))).heap.size = w.heap.size + 3 := by
  have hb : ∀ (w : World) (o : Obj), Below w.heap.size w (w.alloc o) := fun w o => (Below.refl _ _).alloc (Nat.le_refl _) o
  refine ⟨(hb w _).trans (((hb _ _).trans ((hb _ _).mono (by simp))).mono (by simp)), ?_, ?_, ?_, by simp⟩
  · exact row_below (row_below (heap_alloc_new w _) (hb _ _)) (hb _ _)
  · have := row_below (heap_alloc_new (w.alloc (.cells A T1 (0, 0))) (.cells B T2 (0, 0))) (hb _ (.cells C T3 (0, 0)))
    rwa [World.size_alloc] at this
  · have := heap_alloc_new ((w.alloc (.cells A T1 (0, 0))).alloc (.cells B T2 (0, 0))) (.cells C T3 (0, 0))
    rwa [World.size_alloc, World.size_alloc] at this
end Go.Proofs.YtgcoegbamoehfaaDoor.Sha
