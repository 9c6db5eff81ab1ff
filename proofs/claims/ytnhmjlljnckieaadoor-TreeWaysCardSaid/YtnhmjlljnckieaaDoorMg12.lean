/-
  Texts of this proof joined into one file: TxTwice, TxPlaces, TxBaseW, TxCheckW, TxLits, TxFirst, TxNew, TxBytesW, TxBasesWalk, TxBoundsWalk, Hs, MkJoin, MkMath, MkSmall, MkHs, MkRow0, MkRoot, MkPath0, HsCopy, MkCalls. What each holds, and under which conditions, its own first sentence tells.
-/
import Derived.Maps.OwnSet
import Derived.DeepKeys4
import Derived.Great.BuildSlice
import Derived.Deep.OwnRows
import Derived.Lib.AppendZerosOnto
import Derived.Lib.Walk
import Derived.Deep.Light
import Derived.IntWalk
import Derived.Maps.AppendAt
import Derived.Test.YtnhmjlljnckieaaDoorMg04
import Derived.Test.YtnhmjlljnckieaaDoorMg05
import Derived.Test.YtnhmjlljnckieaaDoorMg11
import Derived.Test.YtnhmjlljnckieaaDoorMg03
import Derived.Test.YtnhmjlljnckieaaDoorMg06
import Derived.Test.YtnhmjlljnckieaaDoorMg01
import Derived.Test.YtnhmjlljnckieaaDoorMg10
/-
  The places that a transaction's inputs spend, as a map's keys: there are fewer keys than inputs just if two inputs have one place. Conditions: the inputs are what may be of inputs.
-/
namespace Go.Proofs.YtnhmjlljnckieaaDoor.Sha
open Go Go.RowKit
open Go.Maps (addKey Keyed)
theorem any_key {L : List Lit} {x : Lit} (hx : WideAt.IsKeyLit x) : L.any (fun y => y.sameKey x) = true ↔ x ∈ L := by
  rw [List.any_eq_true]
  constructor
  · rintro ⟨y, hy, hs⟩
    rw [WideAt.sameKey_eq hs] at hy
    exact hy
  · exact fun h => ⟨x, h, WideAt.sameKey_self hx⟩
theorem keys_fewer (k : TIn → Lit) : ∀ (l : List TIn) (L : List Lit), (∀ x ∈ l, WideAt.IsKeyLit (k x)) → (∀ x ∈ l, ∀ y ∈ l, samePtIn x y = true ↔ k x = k y) →
    (((l.map k).foldl addKey L).length ≤ L.length + l.length ∧ (((l.map k).foldl addKey L).length < L.length + l.length ↔ (∃ x ∈ l, k x ∈ L) ∨ twiceB l = true))
  | [], L, _, _ => by simp [twiceB]
  | x :: l, L, h1, h2 => by
    have hx := h1 x List.mem_cons_self
    have ih := fun L => keys_fewer k l L (fun z hz => h1 z (List.mem_cons_of_mem _ hz)) (fun z hz y hy => h2 z (List.mem_cons_of_mem _ hz) y (List.mem_cons_of_mem _ hy))
    rw [List.map_cons, List.foldl_cons, List.length_cons]
    by_cases hm : k x ∈ L
    · have e : addKey L (k x) = L := by unfold addKey; rw [if_pos ((any_key hx).2 hm)]
      rw [e]
      obtain ⟨i1, -⟩ := ih L
      exact ⟨by omega, ⟨fun _ => .inl ⟨x, List.mem_cons_self, hm⟩, fun _ => by omega⟩⟩
    · have e : addKey L (k x) = L ++ [k x] := by unfold addKey; rw [if_neg (fun h => hm ((any_key hx).1 h))]
      rw [e]
      obtain ⟨i1, i2⟩ := ih (L ++ [k x])
      rw [List.length_append, List.length_singleton] at i1 i2
      refine ⟨by omega, ?_⟩
      rw [show L.length + (l.length + 1) = L.length + 1 + l.length by omega, i2]
      rw [show twiceB (x :: l) = (l.any (samePtIn x) || twiceB l) from rfl]
      simp only [Bool.or_eq_true, List.any_eq_true, List.mem_append, List.mem_singleton]
      constructor
      · rintro (⟨y, hy, hyL | hyx⟩ | ht)
        · exact .inl ⟨y, List.mem_cons_of_mem _ hy, hyL⟩
        · exact .inr (.inl ⟨y, hy, (h2 x List.mem_cons_self y (List.mem_cons_of_mem _ hy)).2 hyx.symm⟩)
        · exact .inr (.inr ht)
      · rintro (⟨y, hy, hyL⟩ | ⟨y, hy, hyx⟩ | ht)
        · rcases List.mem_cons.1 hy with rfl | hy
          · exact absurd hyL hm
          · exact .inl ⟨y, hy, .inl hyL⟩
        · exact .inl ⟨y, hy, .inr ((h2 x List.mem_cons_self y (List.mem_cons_of_mem _ hy)).1 hyx).symm⟩
        · exact .inr ht
theorem laid_out : laidOutB Tryd.prog = true := by kernel_rfl
theorem pt_row : (88 : TypeId) < Tryd.prog.types.size := of_decide_eq_true (by kernel_rfl)
theorem pt_wide : (match Tryd.prog.underlying 88 with | some (.array _ _) | some (.struct _) => true | _ => false) = true := by rw [pt_under]
theorem pt_typed : Tryd.prog.keyTypeAt 4 88 = true := by kernel_rfl
theorem pt_typed2 : Tryd.prog.keyType 88 = true := by kernel_rfl
theorem pt_cellsN : Tryd.prog.cellsOf 88 = 33 := by kernel_rfl
theorem hash_cellsN : Tryd.prog.cellsOf 30 = 32 := by kernel_rfl
theorem u8_cellsN : Tryd.prog.cellsOf 5 = 1 := by kernel_rfl
theorem u32_cellsN : Tryd.prog.cellsOf 28 = 1 := by kernel_rfl
set_option maxRecDepth 100000 in
theorem pt_law : Keyed Tryd.prog 88 := Keyed.of_law (deep_law_laid laid_out (by omega : 4 + 1 ≤ 10000) pt_row pt_typed pt_wide)
/-- A place as a map's key. -/
def ptLit (x : TIn) : Lit := .string (keyBytes ((x.h.map fun b => Lit.int .u8 (bv b)) ++ [.int .u32 (x.n : Int)]))
theorem mapM_all {α β : Type} {f : α → Option β} {g : α → β} : ∀ l : List α, (∀ x ∈ l, f x = some (g x)) → l.mapM f = some (l.map g)
  | [], _ => rfl
  | x :: l, h => by
    rw [List.mapM_cons, h x List.mem_cons_self, mapM_all l (fun y hy => h y (List.mem_cons_of_mem _ hy))]
    rfl
theorem flat_one {α β : Type} (g : α → β) : ∀ l : List α, (l.map fun i => [g i]).flatten = l.map g
  | [] => rfl
  | x :: l => by simp [flat_one g l]
theorem lits_u8 (d : Nat) (b : UInt8) : Tryd.prog.keyLits (d + 1) 5 [bV b] = some [.int .u8 (bv b)] := by
  have := bv_bd b
  simp only [Program.keyLits, Tryd.underlying5, bV]
  rw [if_pos]
  refine ⟨trivial, ?_⟩
  simp [Lit.wf, IntKind.min, IntKind.max, IntKind.signed, IntKind.bits]
  omega
theorem lits_u32 (d n : Nat) (h : n ≤ 4294967295) : Tryd.prog.keyLits (d + 1) 28 [nV n] = some [.int .u32 (n : Int)] := by
  simp only [Program.keyLits, Tryd.underlying28, nV]
  rw [if_pos]
  refine ⟨trivial, ?_⟩
  simp [Lit.wf, IntKind.min, IntKind.max, IntKind.signed, IntKind.bits]
  omega
theorem lits_array {P : Program} (d : Nat) {t n e : Nat} (cs : List Value) (hu : P.underlying t = some (.array n e)) : P.keyLits (d + 1) t cs =
    if cs.length = P.cellsOf t then ((List.range n).mapM fun i => P.keyLits d e ((cs.drop (i * P.cellsOf e)).take (P.cellsOf e))).map List.flatten else none := by
  conv => lhs; unfold Program.keyLits
  rw [hu]
theorem lits_struct {P : Program} (d : Nat) {t : Nat} {fs : Array Field} (cs : List Value) (hu : P.underlying t = some (.struct fs)) : P.keyLits (d + 1) t cs =
    if cs.length = P.cellsOf t ∧ fs.all (·.name != "_") = true then (fs.toList.mapM fun f => P.keyLits d f.type ((cs.drop f.offset).take (P.cellsOf f.type))).map List.flatten else none := by
  conv => lhs; unfold Program.keyLits
  rw [hu]
theorem lits_hash (d : Nat) (l : List UInt8) (h : l.length = 32) : Tryd.prog.keyLits (d + 2) 30 (l.map bV) = some (l.map fun b => .int .u8 (bv b)) := by
  rw [lits_array _ _ Tryd.underlying30]
  simp only [hash_cellsN, u8_cellsN, List.length_map, h, if_true, Nat.mul_one]
  rw [mapM_all (g := fun i => [Lit.int .u8 (bv (l.getD i 0))])]
  · show some _ = some _
    congr 1
    apply List.ext_getElem?
    intro i
    rw [flat_one (fun i => Lit.int .u8 (bv (l.getD i 0)))]
    simp only [List.getElem?_map]
    by_cases hi : i < 32
    · rw [List.getElem?_range hi, List.getElem?_eq_getElem (by omega)]
      simp [List.getD, List.getElem?_eq_getElem (show i < l.length by omega)]
    · rw [List.getElem?_eq_none (by simp; omega), List.getElem?_eq_none (by omega)]
      rfl
  · intro i hi
    have hi : i < 32 := List.mem_range.1 hi
    have e : ((l.map bV).drop i).take 1 = [bV (l.getD i 0)] := by
      rw [← List.map_drop, ← List.map_take, List.drop_eq_getElem_cons (show i < l.length by omega)]
      show [bV l[i]] = _
      simp [List.getD, List.getElem?_eq_getElem (show i < l.length by omega)]
    rw [e]
    exact lits_u8 d _
set_option maxRecDepth 100000 in
theorem pt_key (x : TIn) (hx : InOk x) : keyOf Tryd.prog 88 (.agg (ptL x.h x.n).toArray) = some (ptLit x) := by
  obtain ⟨m, hm⟩ : ∃ m, Tryd.prog.types.size = m + 2 := ⟨Tryd.prog.types.size - 2, by have : 88 < Tryd.prog.types.size := pt_row; omega⟩
  have hl : (ptL x.h x.n).length = 33 := by simp [ptL, hx.1]
  have hf : (Value.agg (ptL x.h x.n).toArray).formed Tryd.prog 88 = true := by
    unfold Value.formed
    rw [pt_under, pt_cellsN]
    simp [hl]
  have hL : Tryd.prog.keyLits (Tryd.prog.types.size + 1) 88 (ptL x.h x.n) = some ((x.h.map fun b => Lit.int .u8 (bv b)) ++ [.int .u32 (x.n : Int)]) := by
    rw [hm, lits_struct _ _ pt_under]
    have hpf := pt_fields
    generalize Tryd.prog.fieldsOf 88 = fs at hpf ⊢
    obtain ⟨fl⟩ := fs
    simp only [List.map_eq_cons_iff, List.map_eq_nil_iff] at hpf
    obtain ⟨f0, r0, rfl, e0, f1, r1, rfl, e1, rfl⟩ := hpf
    simp only [Prod.mk.injEq] at e0 e1
    obtain ⟨a0, b0, c0⟩ := e0
    obtain ⟨a1, b1, c1⟩ := e1
    have hg : (ptL x.h x.n).length = Tryd.prog.cellsOf 88 ∧ (List.toArray [f0, f1]).all (fun f => f.name != "_") = true := by
      rw [pt_cellsN]
      refine ⟨hl, ?_⟩
      simp [a0, a1]
    simp only [hg, if_true, and_self, List.mapM_cons, List.mapM_nil, b0, b1, c0, c1, hash_cellsN, u32_cellsN, List.drop_zero]
    have e2 : (ptL x.h x.n).take 32 = x.h.map bV := by simp [ptL, ← hx.1]
    have e3 : ((ptL x.h x.n).drop 32).take 1 = [nV x.n] := by simp [ptL, ← hx.1]
    rw [e2, e3, lits_hash _ _ hx.1, lits_u32 _ _ hx.2.1]
    rfl
  unfold keyOf
  rw [pt_under]
  simp only [pt_typed2, hf, Bool.and_self, if_true]
  rw [show (Value.agg (ptL x.h x.n).toArray).cells.toList = ptL x.h x.n by simp [Value.cells], hL]
  rfl
theorem ptLit_key (x : TIn) : WideAt.IsKeyLit (ptLit x) := trivial
theorem ptLit_same {x y : TIn} (hx : InOk x) (hy : InOk y) : samePtIn x y = true ↔ ptLit x = ptLit y := by
  constructor
  · intro h
    simp only [samePtIn, Bool.and_eq_true, decide_eq_true_eq] at h
    unfold ptLit
    rw [h.1, h.2]
  · intro h
    have h1 := pt_key x hx
    rw [h] at h1
    have h2 := pt_law.inj h1 (pt_key y hy)
    have h2 := Value.agg.inj h2
    have h3 := congrArg Array.toList h2
    simp only [ptL] at h3
    obtain ⟨h4, h5⟩ := List.append_inj h3 (by simp [hx.1, hy.1])
    have h6 : x.h = y.h := by
      have := List.map_inj_right (f := bV) (l := x.h) (l' := y.h) (fun a b e => bv_inj (Value.int.inj e).2)
      exact this.1 h4
    have h7 : x.n = y.n := by
      simp only [nV, List.cons.injEq, Value.int.injEq, true_and, and_true] at h5
      omega
    simp [samePtIn, h6, h7]
/-- Fewer places than inputs: two have one. -/
theorem twice_keys (l : List TIn) (h : InsOk l) : ((l.map ptLit).foldl addKey []).length ≤ l.length ∧ (decide (((l.map ptLit).foldl addKey []).length < l.length) = twiceB l) := by
  have h1 := keys_fewer ptLit l [] (fun x hx => ptLit_key x) (fun x hx y hy => ptLit_same (h x hx) (h y hy))
  simp only [List.length_nil, Nat.zero_add] at h1
  refine ⟨h1.1, ?_⟩
  rw [Bool.eq_iff_iff, decide_eq_true_eq, h1.2]
  simp
end Go.Proofs.YtnhmjlljnckieaaDoor.Sha

/-
  Package tx tells whether two inputs of a transaction have one place. Nothing that was there turns. Condition: a transaction of a few inputs and outputs that lies in memory.
-/
namespace Go.Proofs.YtnhmjlljnckieaaDoor.Sha
open Go Go.RowKit
open Go.Maps (addKey Keyed)
theorem run_makeMap_hint {P : Program} {w : World} (t kt et : TypeId) (k : IntKind) (n : Int) (hu : P.underlying t = some (.map kt et)) : (Instr.makeMap t (some (.int k n))).run P w = .ok (.map (some w.heap.size)) (w.alloc (.map #[] 0)) := by
  simp [Instr.makeMap, run_underlying hu, asInt, asIntOf, Result.andThen]
def placesD (l : List TIn) : DataW Unit := Maps.setOf (.agg []) (l.map ptLit)
theorem placesD_size (l : List TIn) : Maps.size (placesD l) = ((l.map ptLit).foldl addKey []).length :=
  Maps.size_setOf _ _ (fun x hx => by obtain ⟨y, _, rfl⟩ := List.mem_map.1 hx; exact ptLit_key y)
theorem placesD_snoc {l : List TIn} {k : Nat} {x : TIn} (h : l[k]? = some x) : placesD (l.take (k + 1)) = (placesD (l.take k)).put (ptLit x) (.agg []) := by
  have hk := List.getElem?_eq_some_iff.1 h
  rw [List.take_succ_eq_append_getElem hk.1, hk.2, placesD, List.map_append]
  exact Maps.setOf_snoc _ _ _
def PlInv (n mb : Nat) (t : TTx) (w1 : World) (vi : Value) (wr : World) : Prop :=
  ∃ k : Nat, k ≤ n ∧ vi = .int .i64 k ∧ wr.ownsMap Tryd.prog 88 unitElem mb k (placesD (t.ins.take k)) ∧ Below w1.heap.size w1 wr
end Go.Proofs.YtnhmjlljnckieaaDoor.Sha

/-
  Package tx tells whether a transaction makes coins, and whether inputs of no place are there only where they may be. Nothing that was there turns. Condition: a transaction of a few inputs and outputs that lies in memory.
-/
namespace Go.Proofs.YtnhmjlljnckieaaDoor.Sha
open Go Go.RowKit
theorem base_of {t : TTx} : (∃ x, t.ins = [x] ∧ baseB t = isNullIn x) ∨ (t.ins.length ≠ 1 ∧ baseB t = false) := by
  unfold baseB
  rcases h : t.ins with _ | ⟨x, _ | ⟨y, r⟩⟩
  · exact .inr ⟨by simp, rfl⟩
  · exact .inl ⟨x, rfl, rfl⟩
  · exact .inr ⟨by simp, rfl⟩
def BrInv (n : Nat) (t : TTx) (w1 : World) (i : Value) (wr : World) : Prop := ∃ k : Nat, k ≤ n ∧ i = .int .i64 k ∧ (∀ (j : Nat) x, j < k → t.ins[j]? = some x → isNullIn x = false) ∧ Below w1.heap.size w1 wr
/-- What basesRight is to answer. -/
def rightB (t : TTx) : Bool := if baseB t then !(t.ins.any fun x => decide (x.key.length < 4)) else !(t.ins.any isNullIn)
end Go.Proofs.YtnhmjlljnckieaaDoor.Sha

/-
  Package tx tells what is amiss with a transaction, in the order of the chapter. Nothing that was there turns. Conditions: a transaction of a few inputs and outputs that lies in memory; the errors are there.
-/
namespace Go.Proofs.YtnhmjlljnckieaaDoor.Sha
open Go Go.RowKit
theorem chkC_many {t : TTx} (h : t.ins.length = 0 ∨ 50 < t.ins.length ∨ t.outs.length = 0 ∨ 50 < t.outs.length) : checkC t = 4 := by
  unfold checkC checkN
  rw [if_pos h]
theorem chkC_rest {t : TTx} (h : ¬ (t.ins.length = 0 ∨ 50 < t.ins.length ∨ t.outs.length = 0 ∨ 50 < t.outs.length)) : checkC t =
    if 4000 < (txB t).length then 3 else if 80 < mostKey t.ins then 14 else if sumIs (t.outs.map (·.val)) = false then 5 else if twiceB t.ins = true then 6 else if rightB t = true then 0 else 7 := by
  unfold checkC checkN rightB
  rw [if_neg h, mostKey_over]
  simp only [decide_eq_true_eq]
  split
  · rfl
  split
  · rfl
  split
  · rfl
  split
  · rfl
  by_cases hb : baseB t = true
  · rw [if_pos hb, if_pos hb]
    cases h4 : t.ins.any fun x => decide (x.key.length < 4) <;> rfl
  · rw [if_neg hb, if_neg hb]
    cases h4 : t.ins.any isNullIn <;> rfl
end Go.Proofs.YtnhmjlljnckieaaDoor.Sha

/-
  Rows of one or two inputs, or outputs, as slices; what is amiss with transactions of few inputs. Conditions: those that each states.
-/
namespace Go.Proofs.YtnhmjlljnckieaaDoor.Sha
open Go Go.RowKit
theorem insAt_one {w : World} {g : Nat} {x : TIn} {kv : Value} {fr : Nat × Nat} (h : w.heap[g]? = some (.cells (inL x kv).toArray 91 fr)) (hx : InOk x) (hk : KeyAt w kv x.key) : InsAt w (.slice (some ⟨g, 0, none⟩) 1 1) [x] :=
  ⟨_, 1, rfl, Nat.le_refl _, fun _ => ⟨g, 0, rfl, fun i y hy => by
    have hi := (List.getElem?_eq_some_iff.1 hy).1
    simp at hi
    subst hi
    simp only [List.getElem?_cons_zero, Option.some.injEq] at hy
    subst hy
    exact ⟨hx, kv, hk, range_of_box h⟩⟩⟩
theorem insAt_two {w : World} {g : Nat} {x y : TIn} {kv kw : Value} {fr : Nat × Nat} (h : w.heap[g]? = some (.cells (inL x kv ++ inL y kw).toArray 91 fr)) (hx : InOk x) (hy : InOk y) (hk : KeyAt w kv x.key) (hk2 : KeyAt w kw y.key) : InsAt w (.slice (some ⟨g, 0, none⟩) 2 2) [x, y] :=
  ⟨_, 2, rfl, Nat.le_refl _, fun _ => ⟨g, 0, rfl, fun i z hz => by
    have hr := range_of_box h
    have hl := inL_length x kv hx.1
    have hi := (List.getElem?_eq_some_iff.1 hz).1
    simp at hi
    obtain rfl | rfl : i = 0 ∨ i = 1 := by omega
    · simp only [List.getElem?_cons_zero, Option.some.injEq] at hz
      subst hz
      exact ⟨hx, kv, hk, fun j u hj => by
        have := hr j u (by rw [List.getElem?_append_left (List.getElem?_eq_some_iff.1 hj).1]; exact hj)
        simpa using this⟩
    · simp only [List.getElem?_cons_succ, List.getElem?_cons_zero, Option.some.injEq] at hz
      subst hz
      exact ⟨hy, kw, hk2, fun j u hj => by
        have := hr (35 + j) u (by rw [List.getElem?_append_right (by omega), hl, Nat.add_sub_cancel_left]; exact hj)
        simpa [Nat.add_assoc] using this⟩⟩⟩
theorem outsAt_one {w : World} {g : Nat} {y : TOut} {fr : Nat × Nat} (h : w.heap[g]? = some (.cells (outL y).toArray 93 fr)) (hy : OutOk y) : OutsAt w (.slice (some ⟨g, 0, none⟩) 1 1) [y] :=
  ⟨_, 1, rfl, Nat.le_refl _, fun _ => ⟨g, 0, rfl, fun i z hz => by
    have hi := (List.getElem?_eq_some_iff.1 hz).1
    simp at hi
    subst hi
    simp only [List.getElem?_cons_zero, Option.some.injEq] at hz
    subst hz
    exact ⟨hy, range_of_box h⟩⟩⟩
theorem nil_key (w : World) : KeyAt w (.slice none 0 0) [] := ⟨.inl ⟨_, _, rfl, rfl⟩, _, _, rfl⟩
def hOne : List UInt8 := 1 :: List.replicate 31 0
def bsX (bs : List UInt8) : TIn := ⟨zH, 4294967295, bs, 0⟩
def bsO (v : Nat) : TOut := ⟨v % 1000, zH⟩
def bsN : TIn := ⟨zH, 1, [], 0⟩
def bsV : TIn := ⟨hOne, 4294967295, [], 0⟩
def bsT (bs : List UInt8) (v : Nat) : TTx := ⟨0, [bsX bs], [bsO v], 0⟩
def bsU (bs : List UInt8) (v : Nat) : TTx := ⟨0, [bsN, bsX bs], [bsO v], 0⟩
def bsW (v : Nat) : TTx := ⟨0, [bsV], [bsO v], 0⟩
theorem bsX_ok (bs : List UInt8) : InOk (bsX bs) := ⟨rfl, Nat.le_refl _, Nat.zero_le _⟩
theorem bsN_ok : InOk bsN := ⟨rfl, by decide, Nat.zero_le _⟩
theorem bsV_ok : InOk bsV := ⟨rfl, Nat.le_refl _, Nat.zero_le _⟩
theorem bsO_ok (v : Nat) : OutOk (bsO v) := ⟨rfl, by show v % 1000 ≤ _; omega⟩
theorem small_of {l : List TIn} {v : Nat} (h1 : InsOk l) (h2 : l.length ≤ 2) (h3 : KeysLe l 80) : TxSmall ⟨0, l, [bsO v], 0⟩ :=
  ⟨⟨⟨Nat.zero_le _, Nat.zero_le _⟩, h1, fun y hy => by rw [List.mem_singleton.1 hy]; exact bsO_ok v, fun x hx => Nat.le_trans (h3 x hx) (by omega), by show l.length ≤ _; omega, by simp⟩, by show l.length ≤ _; omega, by simp, fun x hx => Nat.le_trans (h3 x hx) (by omega)⟩
theorem bs_sum (v : Nat) : sumIs [(bsO v).val] = true := by
  unfold sumIs
  rw [decide_eq_true_eq, most_eq]
  simp [bsO]
  omega
theorem bsT_small {bs : List UInt8} (v : Nat) (h : bs.length ≤ 80) : TxSmall (bsT bs v) := small_of (fun x hx => by rw [List.mem_singleton.1 hx]; exact bsX_ok bs) (by simp) (fun x hx => by rw [List.mem_singleton.1 hx]; exact h)
theorem bsU_small {bs : List UInt8} (v : Nat) (h : bs.length ≤ 80) : TxSmall (bsU bs v) := by
  refine small_of (fun x hx => ?_) (by simp) (fun x hx => ?_)
  · simp only [List.mem_cons, List.not_mem_nil, or_false] at hx
    rcases hx with rfl | rfl
    · exact bsN_ok
    · exact bsX_ok bs
  · simp only [List.mem_cons, List.not_mem_nil, or_false] at hx
    rcases hx with rfl | rfl
    · exact Nat.zero_le _
    · exact h
theorem bsW_small (v : Nat) : TxSmall (bsW v) := small_of (fun x hx => by rw [List.mem_singleton.1 hx]; exact bsV_ok) (by simp) (fun x hx => by rw [List.mem_singleton.1 hx]; exact Nat.zero_le _)
theorem zH_null : decide (zH = List.replicate 32 0) = true := by decide
theorem hOne_null : decide (hOne = List.replicate 32 0) = false := by decide
theorem bsX_null (bs : List UInt8) : isNullIn (bsX bs) = true := by
  unfold isNullIn bsX
  simp only [zH_null]
  rfl
theorem bsN_null : isNullIn bsN = false := by
  unfold isNullIn bsN
  simp
theorem bsV_null : isNullIn bsV = false := by
  unfold isNullIn bsV
  simp only [hOne_null]
  rfl
theorem bsT_base (bs : List UInt8) (v : Nat) : true = baseB (bsT bs v) := (bsX_null bs).symm
theorem bsU_base (bs : List UInt8) (v : Nat) : false = baseB (bsU bs v) := rfl
theorem bsW_base (v : Nat) : false = baseB (bsW v) := bsV_null.symm
theorem bsT_check {bs : List UInt8} (v : Nat) (h : bs.length ≤ 80) : checkC (bsT bs v) = if bs.length < 4 then 7 else 0 := by
  rw [chkC_rest (by simp [bsT])]
  have hb := (bsT_small v h).bytes
  have h1 : (insB (bsT bs v).ins).length ≤ 200 := by
    have e : insB (bsT bs v).ins = inB (bsX bs) := by simp [insB, bsT]
    rw [e, inB_length _ (bsX_ok bs)]
    have := lenN_bd (bsX bs).key.length
    have : (bsX bs).key.length = bs.length := rfl
    omega
  have h2 := lenN_bd (bsT bs v).ins.length
  have h3 := lenN_bd (bsT bs v).outs.length
  have h4 : (bsT bs v).outs.length = 1 := rfl
  rw [if_neg (by omega), if_neg (by show ¬ 80 < max 0 bs.length; omega), if_neg (by show ¬ sumIs [(bsO v).val] = false; rw [bs_sum]; simp), if_neg (by show ¬ (false || false) = true; simp)]
  have hr : rightB (bsT bs v) = !decide (bs.length < 4) := by
    unfold rightB
    rw [← bsT_base]
    simp [bsT, bsX]
  rw [hr]
  by_cases h5 : bs.length < 4
  · rw [if_pos h5, decide_eq_true h5]; rfl
  · rw [if_neg h5, decide_eq_false h5]; rfl
theorem bsU_check {bs : List UInt8} (v : Nat) (h : bs.length ≤ 80) : checkC (bsU bs v) = 7 := by
  rw [chkC_rest (by simp [bsU])]
  have hb := (bsU_small v h).bytes
  have h1 : (insB (bsU bs v).ins).length ≤ 300 := by
    have e : insB (bsU bs v).ins = inB bsN ++ inB (bsX bs) := by simp [insB, bsU]
    rw [e, List.length_append, inB_length _ (bsX_ok bs), inB_length _ bsN_ok]
    have := lenN_bd (bsX bs).key.length
    have := lenN_bd bsN.key.length
    have : (bsX bs).key.length = bs.length := rfl
    have : bsN.key.length = 0 := rfl
    omega
  have h2 := lenN_bd (bsU bs v).ins.length
  have h3 := lenN_bd (bsU bs v).outs.length
  have h4 : (bsU bs v).outs.length = 1 := rfl
  have h5 : twiceB (bsU bs v).ins = false := by
    show ((samePtIn bsN (bsX bs) || false) || (false || false)) = false
    have : samePtIn bsN (bsX bs) = false := by simp [samePtIn, bsN, bsX]
    rw [this]
    rfl
  have hr : rightB (bsU bs v) = false := by
    unfold rightB
    rw [← bsU_base]
    show (!(isNullIn bsN || (isNullIn (bsX bs) || false))) = false
    rw [bsX_null]
    simp
  rw [if_neg (by omega), if_neg (by show ¬ 80 < max (max 0 0) bs.length; omega), if_neg (by show ¬ sumIs [(bsO v).val] = false; rw [bs_sum]; simp), if_neg (by rw [h5]; simp), if_neg (by rw [hr]; simp)]
theorem bsW_check (v : Nat) : checkC (bsW v) = 0 := by
  rw [chkC_rest (by simp [bsW])]
  have hb := (bsW_small v).bytes
  have h1 : (insB (bsW v).ins).length ≤ 200 := by
    have e : insB (bsW v).ins = inB bsV := by simp [insB, bsW]
    rw [e, inB_length _ bsV_ok]
    have := lenN_bd bsV.key.length
    have : bsV.key.length = 0 := rfl
    omega
  have h2 := lenN_bd (bsW v).ins.length
  have h3 := lenN_bd (bsW v).outs.length
  have h4 : (bsW v).outs.length = 1 := rfl
  have hr : rightB (bsW v) = true := by
    unfold rightB
    rw [← bsW_base]
    show (!(isNullIn bsV || false)) = true
    rw [bsV_null]
    rfl
  rw [if_neg (by omega), if_neg (by show ¬ 80 < max 0 0; omega), if_neg (by show ¬ sumIs [(bsO v).val] = false; rw [bs_sum]; simp), if_neg (by show ¬ (false || false) = true; simp), if_pos hr]
end Go.Proofs.YtnhmjlljnckieaaDoor.Sha

/-
  The chapter's examples hold, given what package tx is shown to answer. No conditions.
-/
namespace Go.Proofs.YtnhmjlljnckieaaDoor.Sha
open Go Go.RowKit
theorem noTx_at (w : World) : TxAt w (.agg #[.int .u32 0, .slice none 0 0, .slice none 0 0, .int .u32 0]) noTx :=
  ⟨⟨by simp [noTx], by simp [noTx]⟩, .slice none 0 0, .slice none 0 0, rfl, ⟨none, 0, rfl, by simp [noTx], fun h => absurd h (by simp [noTx])⟩, ⟨none, 0, rfl, by simp [noTx], fun h => absurd h (by simp [noTx])⟩⟩
theorem noTx_small : TxSmall noTx := TxRead.small ⟨⟨by simp [noTx], by simp [noTx]⟩, fun _ h => absurd h (by simp [noTx]), fun _ h => absurd h (by simp [noTx]), fun _ h => absurd h (by simp [noTx]), by simp [noTx], by simp [noTx]⟩
theorem noTx_len : (txB noTx).length = 10 := by decide
end Go.Proofs.YtnhmjlljnckieaaDoor.Sha

/-
  Numbers written by package compact as new memory; rows that are new grow. No conditions beyond those that each states.
-/
namespace Go.Proofs.YtnhmjlljnckieaaDoor.Sha
open Go Go.RowKit
/-- New memory that reads as bs is answered. -/
def NewPost (w : World) (bs : List UInt8) (e : Ending) (w' : World) : Prop := ∃ sp n cap, e = .returned (.slice sp n cap) ∧ n = bs.length ∧ CopyB w w' (.slice sp n cap) bs
theorem newB_copy {w w' : World} {k c : Nat} {bs : List UInt8} (h : NewB w w' k c bs) : k = bs.length ∧ CopyB w w' (.slice (some ⟨w.heap.size, 0, none⟩) k c) bs := by
  have hl := own_len h.1
  refine ⟨hl, ?_, h.2⟩
  rw [← hl]
  exact h.1
theorem four_new (bs : List UInt8) (v : Value) (x : Nat) (w : World) (hs : SrcB w v bs) (hn : bs.length ≤ 70368744177664) (hx : x ≤ 4294967295) :
    Calls Tryd.prog 42 #[v, .int .u32 (x : Int)] w (NewPost w (bs ++ leB x 4)) := by
  obtain ⟨sp, cap, rfl⟩ := hs.shape
  refine (four_any bs sp bs.length cap x w hs hn hx).mono ?_
  rintro e w' ⟨rfl, h⟩
  exact ⟨_, _, _, rfl, newB_copy h⟩
theorem CopyB.src {w w' : World} {v : Value} {bs : List UInt8} (h : CopyB w w' v bs) : SrcB w' v bs := src_own h.1
theorem CopyB.keep {w w1 w2 : World} {v : Value} {bs : List UInt8} (h : CopyB w w1 v bs) (hb : Below w1.heap.size w1 w2) : CopyB w w2 v bs := ⟨own_kept h.1 hb, h.2.trans (hb.mono h.2.size)⟩
theorem CopyB.app {w w1 w2 : World} {v v' : Value} {bs cs : List UInt8} (h : CopyB w w1 v bs) (ho : w2.ownsRow w.heap.size 5 1 v' (bs.length + cs.length) (bs.map bV ++ cs.map bV)) (hg : w1.grownBy w2 v.ownBlock) : CopyB w w2 v' (bs ++ cs) :=
  ⟨by rw [List.length_append, List.map_append]; exact ho, own_grown h.2 (Nat.le_refl _) h.2.size h.1 hg⟩
theorem CopyB.start {w0 w w' : World} {v : Value} {bs : List UInt8} (h : CopyB w w' v bs) (hb : Below w0.heap.size w0 w) : CopyB w0 w' v bs := ⟨own_base h.1 hb.size, hb.trans (h.2.mono hb.size)⟩
theorem nil_src (w : World) : SrcB w (.slice none 0 0) [] := .inl ⟨_, _, rfl, rfl⟩
end Go.Proofs.YtnhmjlljnckieaaDoor.Sha

/-
  Package tx writes a transaction down, in new memory. Nothing that was there turns. Condition: a transaction of a few inputs and outputs that lies in memory.
-/
namespace Go.Proofs.YtnhmjlljnckieaaDoor.Sha
open Go Go.RowKit
def BtInv (n : Nat) (A : Nat → List UInt8) (w1 : World) (vb vi : Value) (wr : World) : Prop :=
  ∃ (k : Nat) (vq : Value), vq = vb ∧ k ≤ n ∧ vi = .int .i64 k ∧ CopyB w1 wr vq (A k)
end Go.Proofs.YtnhmjlljnckieaaDoor.Sha

/-
  The statement on transactions that make coins answers true. Conditions: the key's bytes lie where the slice says; the errors are there.
-/
namespace Go.Proofs.YtnhmjlljnckieaaDoor.Sha
open Go Go.RowKit
theorem lay3 (w : World) (A B C : Array Value) (T1 T2 T3 : TypeId) : Below w.heap.size w (((w.alloc (.cells A T1 (0, 0))).alloc (.cells B T2 (0, 0))).alloc (.cells C T3 (0, 0)))
    ∧ (((w.alloc (.cells A T1 (0, 0))).alloc (.cells B T2 (0, 0))).alloc (.cells C T3 (0, 0))).heap[w.heap.size]? = some (.cells A T1 (0, 0))
    ∧ (((w.alloc (.cells A T1 (0, 0))).alloc (.cells B T2 (0, 0))).alloc (.cells C T3 (0, 0))).heap[w.heap.size + 1]? = some (.cells B T2 (0, 0))
    ∧ (((w.alloc (.cells A T1 (0, 0))).alloc (.cells B T2 (0, 0))).alloc (.cells C T3 (0, 0))).heap[w.heap.size + 2]? = some (.cells C T3 (0, 0))
    ∧ (((w.alloc (.cells A T1 (0, 0))).alloc (.cells B T2 (0, 0))).alloc (.cells C T3 (0, 0))).heap.size = w.heap.size + 3 := by
  have hb : ∀ (w : World) (o : Obj), Below w.heap.size w (w.alloc o) := fun w o => (Below.refl _ _).alloc (Nat.le_refl _) o
  refine ⟨(hb w _).trans (((hb _ _).trans ((hb _ _).mono (by simp))).mono (by simp)), ?_, ?_, ?_, by simp⟩
  · exact row_below (row_below (heap_alloc_new w _) (hb _ _)) (hb _ _)
  · have := row_below (heap_alloc_new (w.alloc (.cells A T1 (0, 0))) (.cells B T2 (0, 0))) (hb _ (.cells C T3 (0, 0)))
    rwa [World.size_alloc] at this
  · have := heap_alloc_new ((w.alloc (.cells A T1 (0, 0))).alloc (.cells B T2 (0, 0))) (.cells C T3 (0, 0))
    rwa [World.size_alloc, World.size_alloc] at this
end Go.Proofs.YtnhmjlljnckieaaDoor.Sha

/-
  The statement on how many inputs and outputs, how long a key, how great an amount a transaction may have answers true. Condition: the errors are there.
-/
namespace Go.Proofs.YtnhmjlljnckieaaDoor.Sha
open Go Go.RowKit
def bdN (i : Nat) : TIn := ⟨zH, i + 1, [], 0⟩
def bdI (k : Nat) : List TIn := (List.range k).map bdN
def bdY : TOut := ⟨0, zH⟩
def bdO (k : Nat) : List TOut := List.replicate k bdY
def bd0 (r : Nat) : TTx := ⟨0, bdI (49 + r), bdO 1, 0⟩
def bd1 (r : Nat) : TTx := ⟨0, bdI 1, bdO (49 + r), 0⟩
def bdK (r : Nat) : TIn := ⟨zH, 1, List.replicate (79 + r) 0, 0⟩
def bd2 (r : Nat) : TTx := ⟨0, [bdK r], bdO 1, 0⟩
def bdV (r : Nat) : TOut := ⟨2099999999999999 + r, zH⟩
def bd3 (r : Nat) : TTx := ⟨0, bdI 1, [bdV r], 0⟩
def bd4 : TTx := ⟨0, [bdN 0, bdN 0], bdO 1, 0⟩
set_option maxRecDepth 100000 in
theorem bd0_check : ∀ r, r < 4 → checkC (bd0 r) = if r < 2 then 0 else 4 := by decide +kernel
set_option maxRecDepth 100000 in
theorem bd1_check : ∀ r, r < 4 → checkC (bd1 r) = if r < 2 then 0 else 4 := by decide +kernel
set_option maxRecDepth 100000 in
theorem bd2_check : ∀ r, r < 4 → checkC (bd2 r) = if r < 2 then 0 else 14 := by decide +kernel
set_option maxRecDepth 100000 in
theorem bd3_check : ∀ r, r < 4 → checkC (bd3 r) = if r < 2 then 0 else 5 := by decide +kernel
theorem bd4_check : checkC bd4 = 6 := by decide +kernel
theorem bdN_ok (i : Nat) (h : i < 100) : InOk (bdN i) := ⟨rfl, by show i + 1 ≤ _; omega, Nat.zero_le _⟩
theorem bdI_succ (k : Nat) : bdI (k + 1) = bdI k ++ [bdN k] := by simp [bdI, List.range_succ]
theorem bdO_succ (k : Nat) : bdO (k + 1) = bdO k ++ [bdY] := by simp [bdO, List.replicate_succ']
theorem bdI_length (k : Nat) : (bdI k).length = k := by simp [bdI]
theorem bdO_length (k : Nat) : (bdO k).length = k := by simp [bdO]
theorem bdI_ok (k : Nat) (h : k < 100) : InsOk (bdI k) := fun x hx => by
  obtain ⟨i, hi, rfl⟩ := List.mem_map.1 hx
  exact bdN_ok i (by have := List.mem_range.1 hi; omega)
theorem bdY_ok : OutOk bdY := ⟨rfl, Nat.zero_le _⟩
theorem bdO_ok (k : Nat) : OutsOk (bdO k) := fun x hx => by rw [(List.mem_replicate.1 hx).2]; exact bdY_ok
theorem bd_small {l : List TIn} {m : List TOut} (h1 : InsOk l) (h2 : l.length ≤ 60) (h3 : KeysLe l 90) (h4 : OutsOk m) (h5 : m.length ≤ 60) : TxSmall ⟨0, l, m, 0⟩ :=
  ⟨⟨⟨Nat.zero_le _, Nat.zero_le _⟩, h1, h4, fun x hx => Nat.le_trans (h3 x hx) (by omega), by show l.length ≤ _; omega, by show m.length ≤ _; omega⟩, by show l.length ≤ _; omega, by show m.length ≤ _; omega, fun x hx => Nat.le_trans (h3 x hx) (by omega)⟩
theorem bdI_keys (k : Nat) : KeysLe (bdI k) 90 := fun x hx => by
  obtain ⟨i, _, rfl⟩ := List.mem_map.1 hx
  exact Nat.zero_le _
theorem bd0_small (r : Nat) (h : r < 4) : TxSmall (bd0 r) := bd_small (bdI_ok _ (by omega)) (by rw [bdI_length]; omega) (bdI_keys _) (bdO_ok _) (by rw [bdO_length]; omega)
theorem bd1_small (r : Nat) (h : r < 4) : TxSmall (bd1 r) := bd_small (bdI_ok _ (by omega)) (by rw [bdI_length]; omega) (bdI_keys _) (bdO_ok _) (by rw [bdO_length]; omega)
theorem bdK_ok (r : Nat) : InOk (bdK r) := ⟨rfl, by show 1 ≤ _; omega, Nat.zero_le _⟩
theorem bd2_small (r : Nat) (h : r < 4) : TxSmall (bd2 r) := bd_small (fun x hx => by rw [List.mem_singleton.1 hx]; exact bdK_ok r) (by simp) (fun x hx => by rw [List.mem_singleton.1 hx]; simp [bdK]; omega) (bdO_ok _) (by rw [bdO_length]; omega)
theorem bdV_ok (r : Nat) (h : r < 4) : OutOk (bdV r) := ⟨rfl, by show 2099999999999999 + r ≤ _; omega⟩
theorem bd3_small (r : Nat) (h : r < 4) : TxSmall (bd3 r) := bd_small (bdI_ok _ (by omega)) (by rw [bdI_length]; omega) (bdI_keys _) (fun x hx => by rw [List.mem_singleton.1 hx]; exact bdV_ok r h) (by simp)
theorem bd4_small : TxSmall bd4 := bd_small (fun x hx => by simp only [List.mem_cons, List.not_mem_nil, or_false] at hx; rcases hx with rfl | rfl <;> exact bdN_ok 0 (by omega)) (by simp) (fun x hx => by simp only [List.mem_cons, List.not_mem_nil, or_false] at hx; rcases hx with rfl | rfl <;> exact Nat.zero_le _) (bdO_ok _) (by rw [bdO_length]; omega)
/-- A row that lies in memory by itself is one's own. -/
theorem own_of_row {w : World} {base g n size : Nat} {e : TypeId} {xs : List Value} (h : w.heap[g]? = some (.cells xs.toArray e (0, 0))) (hb : base ≤ g) (hl : xs.length = n * size) (hn : n ≤ maxLen) : w.ownsRow base e size (.slice (some ⟨g, 0, none⟩) n n) n xs :=
  ⟨hl, .inr ⟨g, n, xs.toArray, rfl, hb, h, Nat.le_refl _, hn, by simpa using hl, by rw [List.toList_toArray, ← hl, List.take_length]⟩⟩
theorem nil_off (q : Option Nat) : Off (.slice none 0 0) q := fun sp n cap hv => by cases hv
/-- While inputs, or outputs, are appended. -/
def BdAt (w : World) (gI gO g6 k m : Nat) (iv ov : Value) (wr : World) : Prop :=
  InsOwn gI wr iv (bdI k) (List.replicate k (.slice none 0 0)) ∧ OutsOwn gI wr ov (bdO m) ∧ (∀ g, iv.ownBlock = some g → g = gI ∨ g6 < g) ∧ (∀ g, ov.ownBlock = some g → g = gO ∨ g6 < g) ∧ iv.ownBlock ≠ ov.ownBlock
    ∧ wr.heap[g6]? = some (.cells [nV 0, iv, ov, nV 0].toArray 81 (0, 0)) ∧ Below w.heap.size w wr ∧ g6 < wr.heap.size
def BdIn (n : Nat) (w : World) (gI gO g6 : Nat) (vi : Value) (wr : World) : Prop := ∃ (k : Nat) (iv : Value), k ≤ n ∧ 1 ≤ k ∧ vi = .int .i64 k ∧ BdAt w gI gO g6 k 1 iv (.slice (some ⟨gO, 0, none⟩) 1 1) wr
def BdOut (n : Nat) (w : World) (gI gO g6 : Nat) (vi : Value) (wr : World) : Prop := ∃ (k : Nat) (ov : Value), k ≤ n ∧ 1 ≤ k ∧ vi = .int .i64 k ∧ BdAt w gI gO g6 1 k (.slice (some ⟨gI, 0, none⟩) 1 1) ov wr
theorem BdAt.tx {w wr : World} {gI gO g6 k m : Nat} {iv ov : Value} (h : BdAt w gI gO g6 k m iv ov wr) : TxAt wr (.agg [nV 0, iv, ov, nV 0].toArray) ⟨0, bdI k, bdO m, 0⟩ := ⟨⟨Nat.zero_le _, Nat.zero_le _⟩, iv, ov, rfl, h.1.at, h.2.1.at⟩
/-- One more input. -/
theorem BdAt.addI {w wr wn w1 w2 : World} {gI gO g6 k : Nat} {iv ov v2 : Value} (h : BdAt w gI gO g6 k 1 iv ov wr) (hlow : w.heap.size ≤ gI) (hg : gI < g6) (hk : k < 90) (hb : Below wr.heap.size wr wn) (ao : w1.ownsRow gI 91 35 v2 (k + 1) (insL (bdI k) (List.replicate k (.slice none 0 0)) ++ inL (bdN k) (.slice none 0 0))) (ag : wn.grownBy w1 iv.ownBlock)
    (at' : v2.ownBlock = iv.ownBlock ∨ v2.ownBlock = some wn.heap.size) (f : w2.heap[g6]? = some (.cells [nV 0, v2, ov, nV 0].toArray 81 (0, 0))) (q2 : w1.grownBy w2 (some g6)) (hov : ov.ownBlock = some gO) (hgo : gO < g6) (hgo2 : gI ≤ gO) : BdAt w gI gO g6 (k + 1) 1 v2 ov w2 := by
  obtain ⟨h1, h2, h3, h4, h5, h6, h7, h8⟩ := h
  have sz := hb.size
  have h1' := h1.keep hb
  have e : (bdI k).length = k := bdI_length k
  have p1 := h1'.push (bdN_ok k (by omega)) (nil_key _) (fun q _ => nil_off _) (nil_off _) (by rw [e]; exact ao) ag at'
  rw [← bdI_succ, show List.replicate k (Value.slice none 0 0) ++ [.slice none 0 0] = List.replicate (k + 1) (.slice none 0 0) by rw [List.replicate_succ']] at p1
  have lt := h1'.2.1.lt
  have hv2 : ∀ g, v2.ownBlock = some g → g = gI ∨ g6 < g := fun g hgg => by
    rcases at' with e1 | e1
    · exact h3 g (by rw [← e1]; exact hgg)
    · rw [e1] at hgg; have := Option.some.inj hgg; omega
  have n6 : v2.ownBlock ≠ some g6 := fun e1 => by have := hv2 g6 e1; omega
  have no : v2.ownBlock ≠ ov.ownBlock := fun e1 => by
    rcases at' with e2 | e2
    · exact h5 (by rw [← e2]; exact e1)
    · rw [e2, hov] at e1; have := Option.some.inj e1; omega
  refine ⟨⟨p1.1, p1.2.1.kept q2 (.inr n6), p1.2.2.1, fun i x kv hx hkv => ⟨(p1.2.2.2 i x kv hx hkv).1.off ?_ q2, (p1.2.2.2 i x kv hx hkv).2⟩⟩, ?_, hv2, h4, no, f, ?_, ?_⟩
  · have : kv = .slice none 0 0 := (List.mem_replicate.1 (List.mem_of_getElem? hkv)).2
    rw [this]
    exact nil_off _
  · exact ((h2.keep hb).kept ag (.inr (fun e1 => h5 e1.symm))).kept q2 (.inr (by rw [hov]; intro e1; have := Option.some.inj e1; omega))
  · refine ((h7.trans (hb.mono h7.size)).grown ag (Nat.le_trans h7.size sz) (fun q hq => ?_)).grown q2 (Nat.le_trans (Nat.le_trans h7.size sz) ag.size) (fun q hq => by cases hq; omega)
    have := (lt q hq).1
    omega
  · exact Nat.lt_of_lt_of_le (Nat.lt_of_lt_of_le h8 sz) (Nat.le_trans ag.size q2.size)
/-- One more output. -/
theorem BdAt.addO {w wr wn w1 w2 : World} {gI gO g6 k : Nat} {iv ov v2 : Value} (h : BdAt w gI gO g6 1 k iv ov wr) (hlow : w.heap.size ≤ gI) (hg : gI < g6) (hgo : gO < g6) (hb : Below wr.heap.size wr wn) (ao : w1.ownsRow gI 93 33 v2 (k + 1) (outsL (bdO k) ++ outL bdY)) (ag : wn.grownBy w1 ov.ownBlock)
    (at' : v2.ownBlock = ov.ownBlock ∨ v2.ownBlock = some wn.heap.size) (f : w2.heap[g6]? = some (.cells [nV 0, iv, v2, nV 0].toArray 81 (0, 0))) (q2 : w1.grownBy w2 (some g6)) (hiv : iv.ownBlock = some gI) : BdAt w gI gO g6 1 (k + 1) iv v2 w2 := by
  obtain ⟨h1, h2, h3, h4, h5, h6, h7, h8⟩ := h
  have sz := hb.size
  have h2' := h2.keep hb
  have e : (bdO k).length = k := bdO_length k
  have p1 := h2'.push bdY_ok (by rw [e]; exact ao)
  rw [← bdO_succ] at p1
  have lt := h2'.1.lt
  have hv2 : ∀ g, v2.ownBlock = some g → g = gO ∨ g6 < g := fun g hgg => by
    rcases at' with e1 | e1
    · exact h4 g (by rw [← e1]; exact hgg)
    · rw [e1] at hgg; have := Option.some.inj hgg; omega
  have n6 : v2.ownBlock ≠ some g6 := fun e1 => by have := hv2 g6 e1; omega
  have no : iv.ownBlock ≠ v2.ownBlock := fun e1 => by
    rcases at' with e2 | e2
    · exact h5 (by rw [← e2]; exact e1)
    · rw [e2, hiv] at e1; have := Option.some.inj e1; omega
  have k1 : InsOwn gI wn iv (bdI 1) (List.replicate 1 (.slice none 0 0)) := h1.keep hb
  have hk : ∀ (i : Nat) kv, (List.replicate 1 (Value.slice none 0 0))[i]? = some kv → kv = .slice none 0 0 := fun i kv hkv => (List.mem_replicate.1 (List.mem_of_getElem? hkv)).2
  have k2 : InsOwn gI w1 iv (bdI 1) (List.replicate 1 (.slice none 0 0)) := ⟨k1.1, k1.2.1.kept ag (.inr h5), k1.2.2.1, fun i x kv hx hkv => ⟨(k1.2.2.2 i x kv hx hkv).1.off (by rw [hk i kv hkv]; exact nil_off _) ag, (k1.2.2.2 i x kv hx hkv).2⟩⟩
  refine ⟨⟨k2.1, k2.2.1.kept q2 (.inr (by rw [hiv]; intro e1; have := Option.some.inj e1; omega)), k2.2.2.1, fun i x kv hx hkv => ⟨(k2.2.2.2 i x kv hx hkv).1.off (by rw [hk i kv hkv]; exact nil_off _) q2, (k2.2.2.2 i x kv hx hkv).2⟩⟩, p1.kept q2 (.inr n6), h3, hv2, no, f, ?_, ?_⟩
  · refine ((h7.trans (hb.mono h7.size)).grown ag (Nat.le_trans h7.size sz) (fun q hq => ?_)).grown q2 (Nat.le_trans (Nat.le_trans h7.size sz) ag.size) (fun q hq => by cases hq; omega)
    have := (lt q hq).1
    omega
  · exact Nat.lt_of_lt_of_le (Nat.lt_of_lt_of_le h8 sz) (Nat.le_trans ag.size q2.size)
end Go.Proofs.YtnhmjlljnckieaaDoor.Sha

/-
  Rows of digests: a slice that reads as a list of digests (32 cells each), a row of one's own that grows. No conditions beyond those that each states.
-/
namespace Go.Proofs.YtnhmjlljnckieaaDoor.Sha
open Go Go.RowKit
theorem info_hash : (Tryd.prog.info? 30).map (fun i => (i.zero, i.size, i.bytes)) = some (some (.agg (List.replicate 32 (bV 0)).toArray), 32, 32) := by kernel_rfl
/-- Digests of 32 bytes each. -/
def HsOk (l : List (List UInt8)) : Prop := ∀ x ∈ l, x.length = 32
theorem HsOk.get {l : List (List UInt8)} (h : HsOk l) {i : Nat} (hi : i < l.length) : (l.getD i []).length = 32 := by
  rw [List.getD_eq_getElem?_getD, List.getElem?_eq_getElem hi]
  exact h _ (List.getElem_mem _)
theorem HsOk.snoc {l : List (List UInt8)} (h : HsOk l) {x : List UInt8} (hx : x.length = 32) : HsOk (l ++ [x]) := fun y hy => by
  rcases List.mem_append.1 hy with hy | hy
  · exact h y hy
  · rw [List.mem_singleton.1 hy]; exact hx
/-- Their cells. -/
def hsL (l : List (List UInt8)) : List Value := l.flatMap fun x => x.map bV
theorem hsL_snoc (l : List (List UInt8)) (x : List UInt8) : hsL (l ++ [x]) = hsL l ++ x.map bV := by simp [hsL, List.flatMap_append]
theorem hsL_length : ∀ (l : List (List UInt8)), HsOk l → (hsL l).length = l.length * 32
  | [], _ => rfl
  | y :: l, ho => by
    have ih := hsL_length l (fun z hz => ho z (List.mem_cons_of_mem _ hz))
    have hy := ho y List.mem_cons_self
    simp only [hsL] at ih
    simp only [hsL, List.flatMap_cons, List.length_append, List.length_map, ih, hy, List.length_cons]
    omega
theorem hsL_get : ∀ (l : List (List UInt8)) (i : Nat) (y : List UInt8), HsOk l → l[i]? = some y → ∀ j, j < 32 → (hsL l)[i * 32 + j]? = (y.map bV)[j]?
  | z :: l, 0, y, ho, hy, j, hj => by
    simp only [List.getElem?_cons_zero, Option.some.injEq] at hy
    subst hy
    rw [Nat.zero_mul, Nat.zero_add, hsL, List.flatMap_cons, List.getElem?_append_left (by rw [List.length_map, ho z List.mem_cons_self]; exact hj)]
  | z :: l, i + 1, y, ho, hy, j, hj => by
    have e : (z.map bV).length = 32 := by rw [List.length_map, ho z List.mem_cons_self]
    rw [hsL, List.flatMap_cons, List.getElem?_append_right (by omega), e, show (i + 1) * 32 + j - 32 = i * 32 + j by omega]
    exact hsL_get l i y (fun z hz => ho z (List.mem_cons_of_mem _ hz)) (by simpa using hy) j hj
  | [], _, _, _, hy, _, _ => by simp at hy
/-- The slice v reads as these digests. -/
def HsAt (w : World) (v : Value) (l : List (List UInt8)) : Prop :=
  HsOk l ∧ ∃ sp cap, v = .slice sp l.length cap ∧ l.length ≤ cap ∧ (0 < l.length → ∃ b o, sp = some ⟨b, o, none⟩ ∧ ∀ i x, l[i]? = some x → w.rangeAt b (o + i * 32) (x.map bV))
theorem HsAt.below {w w' : World} {v : Value} {l : List (List UInt8)} (h : HsAt w v l) (hb : Below w.heap.size w w') : HsAt w' v l := by
  obtain ⟨h0, sp, cap, h1, h2, h3⟩ := h
  refine ⟨h0, sp, cap, h1, h2, fun h0 => ?_⟩
  obtain ⟨b, o, h4, h5⟩ := h3 h0
  exact ⟨b, o, h4, fun i x hx => range_below (h5 i x hx) hb⟩
theorem HsAt.nil (w : World) (sp : Option Addr) (cap : Nat) : HsAt w (.slice sp 0 cap) [] := ⟨fun x hx => by simp at hx, sp, cap, rfl, by simp, fun h => by simp at h⟩
theorem HsAt.len {w : World} {sp : Option Addr} {n cap : Nat} {l : List (List UInt8)} (h : HsAt w (.slice sp n cap) l) : n = l.length ∧ n ≤ cap := by
  obtain ⟨_, sp', cap', hv, hc, _⟩ := h
  cases hv
  exact ⟨rfl, hc⟩
/-- Where one of them lies. -/
theorem HsAt.get {w : World} {sp : Option Addr} {n cap : Nat} {l : List (List UInt8)} (h : HsAt w (.slice sp n cap) l) (h0 : 0 < n) : ∃ b o, sp = some ⟨b, o, none⟩ ∧ b < w.heap.size ∧ ∀ i, i < n → w.rangeAt b (o + i * 32) ((l.getD i []).map bV) := by
  obtain ⟨ho, sp', cap', hv, hc, hr⟩ := h
  cases hv
  obtain ⟨b, o, hs, hx⟩ := hr h0
  have hg : ∀ i, i < l.length → w.rangeAt b (o + i * 32) ((l.getD i []).map bV) := fun i hi => hx i _ (by rw [List.getD_eq_getElem?_getD, List.getElem?_eq_getElem hi]; rfl)
  refine ⟨b, o, hs, ?_, hg⟩
  obtain ⟨x, hx0⟩ : ∃ x, (l.getD 0 [])[0]? = some x := ⟨_, List.getElem?_eq_getElem (by rw [HsOk.get ho h0]; omega)⟩
  exact World.block_lt_of_cell? w _ (hg 0 h0 0 (bV x) (by rw [List.getElem?_map, hx0]; rfl))
/-- A row of digests of one's own. -/
def HsOwn (base : Nat) (w : World) (v : Value) (l : List (List UInt8)) : Prop := w.ownsRow base 30 32 v l.length (hsL l) ∧ HsOk l
theorem HsOwn.nil (base : Nat) (w : World) : HsOwn base w (.slice none 0 0) [] := ⟨World.ownsRow_nil _ _ _ _, fun _ h => absurd h (by simp)⟩
section
variable {base : Nat} {w w' : World} {v v' : Value} {l : List (List UInt8)}
theorem HsOwn.keep (h : HsOwn base w v l) (hb : Below w.heap.size w w') : HsOwn base w' v l := ⟨own_kept h.1 hb, h.2⟩
theorem HsOwn.kept (h : HsOwn base w v l) {q : Option Nat} (hg : w.grownBy w' q) (hb : v.ownBlock = none ∨ v.ownBlock ≠ q) : HsOwn base w' v l := ⟨h.1.kept hg hb, h.2⟩
theorem HsOwn.push {x : List UInt8} (ho : HsOk l) (hx : x.length = 32) (hown : w'.ownsRow base 30 32 v' (l.length + 1) (hsL l ++ x.map bV)) : HsOwn base w' v' (l ++ [x]) := by
  refine ⟨?_, ho.snoc hx⟩
  rw [hsL_snoc, List.length_append]
  exact hown
/-- Such a row as a slice of digests. -/
theorem HsOwn.at (h : HsOwn base w v l) : HsAt w v l := by
  obtain ⟨h2, h3⟩ := h
  refine ⟨h3, ?_⟩
  rcases h2.2 with ⟨hv, h0⟩ | ⟨g, cap, cur, hv, hb, hc, hn, hm, hs, ht⟩
  · exact ⟨none, 0, by rw [hv, h0], by omega, fun h => by omega⟩
  · subst hv
    refine ⟨_, cap, rfl, hn, fun h0 => ⟨g, 0, rfl, fun i x hx => ?_⟩⟩
    have hi := (List.getElem?_eq_some_iff.1 hx).1
    have hxo := h3 x (List.mem_of_getElem? hx)
    intro j u hj
    have hj32 : j < 32 := by
      have := (List.getElem?_eq_some_iff.1 hj).1
      rwa [List.length_map, hxo] at this
    rw [Nat.zero_add, h2.cellAt (i * 32 + j) (by omega), hsL_get l i x h3 hx j hj32]
    exact hj
end
/-- A part of such a slice. -/
theorem HsAt.cut {w : World} {sp : Option Addr} {n cap : Nat} {l : List (List UInt8)} (h : HsAt w (.slice sp n cap) l) (i r : Nat) (h1 : i ≤ r) (h2 : r ≤ n) : HsAt w (sliced sp i r cap 32) ((l.take r).drop i) := by
  have hn := h.len
  have hok := h.1
  have hl : ((l.take r).drop i).length = r - i := by rw [List.length_drop, List.length_take]; omega
  refine ⟨fun x hx => hok x (List.mem_of_mem_take (List.mem_of_mem_drop hx)), if cap = i then sp else sp.map (·.add (i * 32)), cap - i, by rw [sliced, hl], by omega, fun h0 => ?_⟩
  obtain ⟨b, o, hs, _, _⟩ := h.get (by omega)
  obtain ⟨_, sp', cap', hv, hc, hr⟩ := h
  cases hv
  obtain ⟨b, o, hs, hx⟩ := hr (by omega)
  subst hs
  refine ⟨b, o + i * 32, by rw [if_neg (by omega)]; simp [Addr.add_mid], fun j x hj => ?_⟩
  have hj2 : j < r - i := by have := (List.getElem?_eq_some_iff.1 hj).1; omega
  rw [List.getElem?_drop, List.getElem?_take_of_lt (by omega)] at hj
  have := hx (i + j) x hj
  rwa [show o + (i + j) * 32 = o + i * 32 + j * 32 by omega] at this
/-- One digest in a row of its own. -/
theorem hs_one {w : World} {g : Nat} {x : List UInt8} {T : TypeId} (h : w.heap[g]? = some (.cells (x.map bV).toArray T (0, 0))) : ∀ j u, (x.map bV)[j]? = some u → w.cell? ((⟨g, 0, none⟩ : Addr).add j) = some u := fun j u hj => by
  rw [Addr.add_mid]
  exact range_of_box h j u hj
end Go.Proofs.YtnhmjlljnckieaaDoor.Sha

/-
  Package merkle's join: the digest above two. Nothing that was there turns. Condition: the table is there.
-/
namespace Go.Proofs.YtnhmjlljnckieaaDoor.Sha
open Go Go.RowKit
/-- The digest above two. -/
def prH (a b : List UInt8) : List UInt8 := sha (sha (a ++ b))
theorem prH_length (a b : List UInt8) : (prH a b).length = 32 := sha_length _
/-- Two boxes and an empty one. -/
theorem boxes_two_zero (w : World) (x y z : Array Value) (T : TypeId) :
    Below w.heap.size w (((w.alloc (.cells x T (0, 0))).alloc (.cells y T (0, 0))).alloc (.cells z T (0, 0)))
    ∧ (((w.alloc (.cells x T (0, 0))).alloc (.cells y T (0, 0))).alloc (.cells z T (0, 0))).heap[w.heap.size]? = some (.cells x T (0, 0))
    ∧ (((w.alloc (.cells x T (0, 0))).alloc (.cells y T (0, 0))).alloc (.cells z T (0, 0))).heap[w.heap.size + 1]? = some (.cells y T (0, 0))
    ∧ (((w.alloc (.cells x T (0, 0))).alloc (.cells y T (0, 0))).alloc (.cells z T (0, 0))).heap[w.heap.size + 2]? = some (.cells z T (0, 0)) := by
  refine ⟨(((Below.refl _ _).alloc (Nat.le_refl _) _).alloc (by simp) _).alloc (by simp; omega) _, ?_, ?_, ?_⟩
  · have h1 := heap_alloc_new w (.cells x T (0, 0))
    have h2 := row_below h1 ((Below.refl _ _).alloc (Nat.le_refl _) (.cells y T (0, 0)))
    exact row_below h2 ((Below.refl _ _).alloc (Nat.le_refl _) (.cells z T (0, 0)))
  · have h1 := heap_alloc_new (w.alloc (.cells x T (0, 0))) (.cells y T (0, 0))
    rw [World.size_alloc] at h1
    exact row_below h1 ((Below.refl _ _).alloc (Nat.le_refl _) (.cells z T (0, 0)))
  · have h1 := heap_alloc_new ((w.alloc (.cells x T (0, 0))).alloc (.cells y T (0, 0))) (.cells z T (0, 0))
    rw [World.size_alloc, World.size_alloc] at h1
    exact h1
theorem one_list {dg : Array Value} (h : dg.all (·.oneCell') = true) : ∀ u ∈ dg.toList, u.oneCell' = true := fun u hu => by
  rw [Array.all_eq_true_iff_forall_mem] at h
  exact h u (by simpa using hu)
theorem info_bytes : (Tryd.prog.info? 70).map (fun i => (i.zero, i.size, i.bytes)) = some (some (.slice none 0 0), 1, 24) := by kernel_rfl
end Go.Proofs.YtnhmjlljnckieaaDoor.Sha

/-
  Plain mathematics of rows of digests: the next row, the root, the way from below, what a leaf and a way make. Nothing of the program. No conditions beyond those that each states.
-/
namespace Go.Proofs.YtnhmjlljnckieaaDoor.Sha
section
variable {α : Type} (pr : α → α → α) (z : α)
/-- The next row: each two, the last of an odd row with itself. -/
def rowL : List α → List α
  | [] => []
  | [a] => [pr a a]
  | a :: b :: l => pr a b :: rowL l
theorem rowL_length : ∀ l : List α, (rowL pr l).length = (l.length + 1) / 2
  | [] => by simp [rowL]
  | [_] => by simp [rowL]
  | _ :: _ :: l => by
    rw [rowL, List.length_cons, rowL_length l]
    simp only [List.length_cons]
    omega
/-- One of the next row. -/
theorem rowL_get : ∀ (l : List α) (i : Nat), 2 * i < l.length → (rowL pr l).getD i z = pr (l.getD (2 * i) z) (l.getD (if 2 * i + 1 < l.length then 2 * i + 1 else 2 * i) z)
  | [], i, h => by simp at h
  | [a], i, h => by
    obtain rfl : i = 0 := by simp at h; omega
    simp [rowL]
  | a :: b :: l, 0, _ => by simp [rowL]
  | a :: b :: l, i + 1, h => by
    have ih := rowL_get l i (by simp at h; omega)
    rw [rowL, List.getD_cons_succ, ih, show 2 * (i + 1) = 2 * i + 1 + 1 by omega]
    simp only [List.length_cons]
    by_cases h2 : 2 * i + 1 < l.length
    · rw [if_pos h2, if_pos (by omega)]
      simp only [List.getD_cons_succ]
    · rw [if_neg h2, if_neg (by omega)]
      simp only [List.getD_cons_succ]
/-- The root: row by row. -/
def rootL (l : List α) : α := if _h : l.length ≤ 1 then l.getD 0 z else rootL (rowL pr l)
  termination_by l.length
  decreasing_by rw [rowL_length]; omega
theorem rootL_one {l : List α} (h : l.length ≤ 1) : rootL pr z l = l.getD 0 z := by rw [rootL, dif_pos h]
theorem rootL_more {l : List α} (h : 1 < l.length) : rootL pr z l = rootL pr z (rowL pr l) := by rw [rootL, dif_neg (by omega)]
/-- The other one of two. -/
def otherN (i n : Nat) : Nat := if i % 2 = 1 then i - 1 else if i + 1 < n then i + 1 else i
/-- The way from below. -/
def pathL (i : Nat) (l : List α) : List α := if _h : l.length ≤ 1 then [] else l.getD (otherN i l.length) z :: pathL (i / 2) (rowL pr l)
  termination_by l.length
  decreasing_by rw [rowL_length]; omega
theorem pathL_one {l : List α} (i : Nat) (h : l.length ≤ 1) : pathL pr z i l = [] := by rw [pathL, dif_pos h]
theorem pathL_more {l : List α} (i : Nat) (h : 1 < l.length) : pathL pr z i l = l.getD (otherN i l.length) z :: pathL pr z (i / 2) (rowL pr l) := by rw [pathL, dif_neg (by omega)]
/-- How many rows there are but the last. -/
def rowsN (n : Nat) : Nat := if _h : n ≤ 1 then 0 else rowsN ((n + 1) / 2) + 1
  termination_by n
  decreasing_by omega
theorem rowsN_one {n : Nat} (h : n ≤ 1) : rowsN n = 0 := by rw [rowsN, dif_pos h]
theorem rowsN_more {n : Nat} (h : 1 < n) : rowsN n = rowsN ((n + 1) / 2) + 1 := by rw [rowsN, dif_neg (by omega)]
theorem pathL_length : ∀ (n : Nat) (l : List α) (i : Nat), l.length = n → (pathL pr z i l).length = rowsN n := by
  intro n
  induction n using Nat.strongRecOn with
  | ind n ih =>
    intro l i hl
    by_cases h : n ≤ 1
    · rw [pathL_one pr z i (by omega), rowsN_one h]
      rfl
    · rw [pathL_more pr z i (by omega), rowsN_more (by omega), List.length_cons, ih ((n + 1) / 2) (by omega) (rowL pr l) (i / 2) (by rw [rowL_length, hl])]
/-- What a leaf and a way make. -/
def climbL (leaf : α) (i : Nat) : List α → α
  | [] => leaf
  | p :: ps => climbL (if i % 2 = 0 then pr leaf p else pr p leaf) (i / 2) ps
/-- The way leads to the root. -/
theorem climb_path : ∀ (n : Nat) (l : List α) (i : Nat), l.length = n → i < n → climbL pr (l.getD i z) i (pathL pr z i l) = rootL pr z l := by
  intro n
  induction n using Nat.strongRecOn with
  | ind n ih =>
    intro l i hl hi
    by_cases h : n ≤ 1
    · obtain rfl : i = 0 := by omega
      rw [pathL_one pr z 0 (by omega), rootL_one pr z (by omega)]
      rfl
    · rw [pathL_more pr z i (by omega), rootL_more pr z (by omega), climbL]
      have hr : (rowL pr l).getD (i / 2) z = (if i % 2 = 0 then pr (l.getD i z) (l.getD (otherN i l.length) z) else pr (l.getD (otherN i l.length) z) (l.getD i z)) := by
        rw [rowL_get pr z l (i / 2) (by omega)]
        unfold otherN
        by_cases h2 : i % 2 = 0
        · have e : 2 * (i / 2) = i := by omega
          rw [if_pos h2, e, if_neg (show ¬ i % 2 = 1 by omega)]
        · have e : 2 * (i / 2) = i - 1 := by omega
          have e2 : i - 1 + 1 = i := by omega
          rw [if_neg h2, e, e2, if_pos (show i % 2 = 1 by omega), if_pos (show i < l.length by omega)]
      rw [← hr]
      exact ih ((n + 1) / 2) (by omega) (rowL pr l) (i / 2) (by rw [rowL_length, hl]) (by omega)
/-- An odd row's last one twice: the same next row. -/
theorem rowL_odd : ∀ (l : List α), l.length % 2 = 1 → rowL pr (l ++ [l.getD (l.length - 1) z]) = rowL pr l
  | [], h => by simp at h
  | [a], _ => rfl
  | a :: b :: l, h => by
    simp only [List.length_cons] at h
    have h3 : 1 ≤ l.length := by omega
    have ih := rowL_odd l (by omega)
    have e : (a :: b :: l).getD ((a :: b :: l).length - 1) z = l.getD (l.length - 1) z := by
      simp only [List.length_cons]
      rw [show l.length + 1 + 1 - 1 = (l.length - 1) + 1 + 1 by omega, List.getD_cons_succ, List.getD_cons_succ]
    rw [e, List.cons_append, List.cons_append, rowL, rowL, ih]
theorem rootL_odd (l : List α) (h : l.length % 2 = 1) (h2 : 1 < l.length) : rootL pr z (l ++ [l.getD (l.length - 1) z]) = rootL pr z l := by
  rw [rootL_more pr z (by simp; omega), rootL_more pr z h2, rowL_odd pr z l h]
/-- Two rows one behind the other, the first of an even length. -/
theorem rowL_append : ∀ (a b : List α), a.length % 2 = 0 → rowL pr (a ++ b) = rowL pr a ++ rowL pr b
  | [], b, _ => rfl
  | [_], _, h => by simp at h
  | x :: y :: a, b, h => by
    have ih := rowL_append a b (by simp at h; omega)
    rw [List.cons_append, List.cons_append, rowL, rowL, ih, List.cons_append]
/-- Two rows of as many, a power of two: the root is of both roots; the last of the second one's way is the first one's root. -/
theorem root_two : ∀ (j : Nat) (a b : List α), a.length = 2 ^ j → b.length = 2 ^ j →
    rootL pr z (a ++ b) = pr (rootL pr z a) (rootL pr z b) ∧ (pathL pr z (2 ^ j) (a ++ b)).length = j + 1 ∧ (pathL pr z (2 ^ j) (a ++ b)).getD j z = rootL pr z a := by
  intro j
  induction j with
  | zero =>
    intro a b ha hb
    obtain ⟨x, rfl⟩ := List.length_eq_one_iff.1 ha
    obtain ⟨y, rfl⟩ := List.length_eq_one_iff.1 hb
    have hr : rowL pr ([x] ++ [y]) = [pr x y] := rfl
    refine ⟨?_, ?_, ?_⟩
    · rw [rootL_more pr z (by simp), hr, rootL_one pr z (by simp), rootL_one pr z (by simp), rootL_one pr z (by simp)]
      rfl
    · rw [pathL_more pr z _ (by simp), hr, pathL_one pr z _ (by simp)]
      rfl
    · rw [pathL_more pr z _ (by simp), rootL_one pr z (by simp)]
      rfl
  | succ j ih =>
    intro a b ha hb
    have hp : 2 ^ (j + 1) = 2 * 2 ^ j := by rw [Nat.pow_succ]; omega
    have h1 : 1 ≤ 2 ^ j := Nat.one_le_two_pow
    have la : (rowL pr a).length = 2 ^ j := by rw [rowL_length, ha]; omega
    have lb : (rowL pr b).length = 2 ^ j := by rw [rowL_length, hb]; omega
    have hr : rowL pr (a ++ b) = rowL pr a ++ rowL pr b := rowL_append pr a b (by omega)
    have hl : 1 < (a ++ b).length := by rw [List.length_append]; omega
    obtain ⟨i1, i2, i3⟩ := ih (rowL pr a) (rowL pr b) la lb
    have hd : 2 ^ (j + 1) / 2 = 2 ^ j := by omega
    refine ⟨?_, ?_, ?_⟩
    · rw [rootL_more pr z hl, hr, i1, ← rootL_more pr z (by omega), ← rootL_more pr z (by omega)]
    · rw [pathL_more pr z _ hl, hr, hd, List.length_cons, i2]
    · rw [pathL_more pr z _ hl, hr, hd, List.getD_cons_succ, i3, ← rootL_more pr z (by omega)]
theorem pathL_at (j : Nat) (a b : List α) (ha : a.length = 2 ^ j) (hb : b.length = 2 ^ j) : (pathL pr z (2 ^ j) (a ++ b)).getD ((pathL pr z (2 ^ j) (a ++ b)).length - 1) z = rootL pr z a := by
  obtain ⟨_, i2, i3⟩ := root_two pr z j a b ha hb
  rw [i2, Nat.add_sub_cancel]
  exact i3
end
end Go.Proofs.YtnhmjlljnckieaaDoor.Sha

/-
  Package merkle's small functions: half, partner, rowsAbove. No conditions beyond bounds.
-/
namespace Go.Proofs.YtnhmjlljnckieaaDoor.Sha
open Go Go.RowKit
theorem xor_one (k : Nat) : k ^^^ 1 = if k % 2 = 1 then k - 1 else k + 1 := by
  have h1 : (k ^^^ 1) / 2 = k / 2 := by
    rw [Nat.xor_div_two]
    simp
  have h2 : (k ^^^ 1) % 2 = (k + 1) % 2 := by
    have h3 := Nat.xor_mod_two_pow (a := k) (b := 1) (n := 1)
    have h4 : k % 2 = 0 ∨ k % 2 = 1 := by omega
    simp only [Nat.pow_one] at h3
    rw [h3]
    rcases h4 with h | h
    · rw [h]; simp; omega
    · rw [h]; simp; omega
  split <;> omega
theorem bits_xor_i64_one (k : Nat) (hk : k < 4611686018427387904) : bits .xor .i64 (k : Int) 1 = ((k ^^^ 1 : Nat) : Int) := by
  have hx : k ^^^ 1 < 2 ^ 62 := Nat.xor_lt_two_pow (by omega) (by omega)
  have h1 : (BitVec.ofInt 64 (k : Int)).toNat = k := by
    rw [BitVec.ofInt_natCast, BitVec.toNat_ofNat]; exact Nat.mod_eq_of_lt (by omega)
  have h2 : (BitVec.ofInt 64 (1 : Int)).toNat = 1 := by rfl
  show IntKind.i64.wrap ((BitVec.ofInt 64 (k : Int) ^^^ BitVec.ofInt 64 1).toNat : Int) = _
  rw [BitVec.toNat_xor, h1, h2, IntKind.wrap_i64]
  omega
/-- The other one of two, as the package finds it. -/
theorem other_min (at_ of_ : Nat) (h : at_ < of_) : (if (of_ : Int) - 1 < ((at_ ^^^ 1 : Nat) : Int) then (of_ : Int) - 1 else ((at_ ^^^ 1 : Nat) : Int)) = (otherN at_ of_ : Int) := by
  rw [xor_one]
  unfold otherN
  by_cases h1 : at_ % 2 = 1
  · simp only [if_pos h1]
    rw [if_neg (by omega)]
  · simp only [if_neg h1]
    by_cases h2 : at_ + 1 < of_
    · rw [if_pos h2, if_neg (by omega)]
    · rw [if_neg h2, if_pos (by omega)]
      omega
theorem otherN_lt {i n : Nat} (h : i < n) : otherN i n < n := by unfold otherN; split <;> (try split) <;> omega
theorem rowsN_le : ∀ n k : Nat, n ≤ 2 ^ k → rowsN n ≤ k := by
  intro n
  induction n using Nat.strongRecOn with
  | ind n ih =>
    intro k hk
    by_cases h : n ≤ 1
    · rw [rowsN_one h]; omega
    · rw [rowsN_more (by omega)]
      cases k with
      | zero => simp at hk; omega
      | succ k =>
        have := ih ((n + 1) / 2) (by omega) k (by rw [Nat.pow_succ] at hk; omega)
        omega
end Go.Proofs.YtnhmjlljnckieaaDoor.Sha

/-
  Rows of digests, roots and ways: lengths, what is kept when another block turns. No conditions beyond those that each states.
-/
namespace Go.Proofs.YtnhmjlljnckieaaDoor.Sha
open Go Go.RowKit
/-- 32 bytes of 0. -/
def zM : List UInt8 := List.replicate 32 0
theorem zM_length : zM.length = 32 := by simp [zM]
def slLen : Value → Nat
  | .slice _ n _ => n
  | _ => 0
theorem rowL_ok : ∀ l : List (List UInt8), HsOk (rowL prH l)
  | [] => fun x hx => by simp [rowL] at hx
  | [a] => fun x hx => by
    simp only [rowL, List.mem_singleton] at hx
    rw [hx]; exact prH_length _ _
  | a :: b :: l => fun x hx => by
    simp only [rowL, List.mem_cons] at hx
    rcases hx with rfl | hx
    · exact prH_length _ _
    · exact rowL_ok l x hx
theorem hsD_ok {l : List (List UInt8)} (h : HsOk l) (i : Nat) : (l.getD i zM).length = 32 := by
  by_cases hi : i < l.length
  · rw [List.getD_eq_getElem?_getD, List.getElem?_eq_getElem hi]
    exact h _ (List.getElem_mem _)
  · rw [List.getD_eq_getElem?_getD, List.getElem?_eq_none (by omega)]
    exact zM_length
theorem getD_any {l : List (List UInt8)} {i : Nat} (hi : i < l.length) : l.getD i [] = l.getD i zM := by
  rw [List.getD_eq_getElem?_getD, List.getD_eq_getElem?_getD, List.getElem?_eq_getElem hi]
  rfl
theorem rootL_len : ∀ (n : Nat) (l : List (List UInt8)), l.length = n → HsOk l → (rootL prH zM l).length = 32 := by
  intro n
  induction n using Nat.strongRecOn with
  | ind n ih =>
    intro l hl ho
    by_cases h : n ≤ 1
    · rw [rootL_one prH zM (by omega)]
      exact hsD_ok ho 0
    · rw [rootL_more prH zM (by omega)]
      exact ih ((n + 1) / 2) (by omega) _ (by rw [rowL_length, hl]) (rowL_ok l)
theorem pathL_ok : ∀ (n : Nat) (l : List (List UInt8)) (i : Nat), l.length = n → HsOk l → HsOk (pathL prH zM i l) := by
  intro n
  induction n using Nat.strongRecOn with
  | ind n ih =>
    intro l i hl ho
    by_cases h : n ≤ 1
    · rw [pathL_one prH zM i (by omega)]
      exact fun x hx => by simp at hx
    · rw [pathL_more prH zM i (by omega)]
      intro x hx
      rcases List.mem_cons.1 hx with rfl | hx
      · exact hsD_ok ho _
      · exact ih ((n + 1) / 2) (by omega) _ _ (by rw [rowL_length, hl]) (rowL_ok l) x hx
theorem climbL_len : ∀ (p : List (List UInt8)) (leaf : List UInt8) (i : Nat), leaf.length = 32 → (climbL prH leaf i p).length = 32
  | [], leaf, i, h => h
  | a :: p, leaf, i, h => by
    rw [climbL]
    exact climbL_len p _ _ (by split <;> exact prH_length _ _)
theorem HsAt.shape {w : World} {v : Value} {l : List (List UInt8)} (h : HsAt w v l) : ∃ sp cap, v = .slice sp l.length cap := by
  obtain ⟨_, sp, cap, h1, _, _⟩ := h
  exact ⟨sp, cap, h1⟩
theorem HsAt.off {w w' : World} {v : Value} {l : List (List UInt8)} {q : Option Nat} (h : HsAt w v l) (ho : Off v q) (hg : w.grownBy w' q) : HsAt w' v l := by
  obtain ⟨h0, sp, cap, rfl, h2, h3⟩ := h
  refine ⟨h0, sp, cap, rfl, h2, fun h0 => ?_⟩
  obtain ⟨b, o, rfl, h5⟩ := h3 h0
  refine ⟨b, o, rfl, fun i x hx j u hj => ?_⟩
  have h6 := h5 i x hx j u hj
  have hlt := World.block_lt_of_cell? w _ h6
  simp only at hlt
  rw [World.cell?_of_block (hg.block b hlt (fun e => ho _ _ _ rfl h0 e.symm))]
  exact h6
theorem HsAt.fresh {w : World} {v : Value} {l : List (List UInt8)} {k : Nat} (h : HsAt w v l) (hk : w.heap.size ≤ k) : Off v (some k) := fun sp n cap hv hn e => by
  obtain ⟨h0, sp', cap', h1, h2, h3⟩ := h
  rw [h1] at hv
  cases hv
  obtain ⟨b, o, hs, h5⟩ := h3 hn
  obtain ⟨x, hx⟩ : ∃ x, l[0]? = some x := ⟨_, List.getElem?_eq_getElem hn⟩
  have hx32 := h0 x (List.mem_of_getElem? hx)
  obtain ⟨u, hu⟩ : ∃ u, (x.map bV)[0]? = some u := ⟨_, List.getElem?_eq_getElem (by rw [List.length_map]; omega)⟩
  have hlt := World.block_lt_of_cell? w _ (h5 0 x hx 0 u hu)
  simp only at hlt
  have e1 := Option.some.inj e
  rw [Option.some.inj hs] at e1
  simp only at e1
  omega
end Go.Proofs.YtnhmjlljnckieaaDoor.Sha

/-
  What a loop over a row of digests keeps; a load that may come first. No conditions.
-/
namespace Go.Proofs.YtnhmjlljnckieaaDoor.Sha
open Go Go.RowKit
def RaInv (l : List (List UInt8)) (n : Nat) (w : World) (vs vi : Value) (wr : World) : Prop :=
  ∃ (k j : Nat) (vb : Value), vb = vs ∧ j ≤ n + 1 ∧ j = 2 * k ∧ vi = .int .i64 j ∧ HsOwn w.heap.size wr vb ((rowL prH l).take k) ∧ Below w.heap.size w wr
end Go.Proofs.YtnhmjlljnckieaaDoor.Sha

/-
  merkle.Root answers the root. Nothing that was there turns. Conditions: the digests lie where the slice says, the table is there; at most 2^20 of them.
-/
namespace Go.Proofs.YtnhmjlljnckieaaDoor.Sha
open Go Go.RowKit
def rootInv (R : List UInt8) (w : World) (vl : Value) (wr : World) : Prop :=
  ∃ l' : List (List UInt8), HsAt wr vl l' ∧ 1 ≤ l'.length ∧ l'.length ≤ 1048576 ∧ rootL prH zM l' = R ∧ Below w.heap.size w wr ∧ wr.heap[w.heap.size]? = some (.cells (List.replicate 32 (bV 0)).toArray 30 (0, 0))
end Go.Proofs.YtnhmjlljnckieaaDoor.Sha

/-
  What a loop that makes a way keeps. No conditions.
-/
namespace Go.Proofs.YtnhmjlljnckieaaDoor.Sha
open Go Go.RowKit
def pathInv (P : List (List UInt8)) (w : World) (va vl vp : Value) (wr : World) : Prop :=
  ∃ (k : Nat) (l' done : List (List UInt8)) (vb : Value), vb = vp ∧ va = .int .i64 k ∧ HsAt wr vl l' ∧ k < l'.length ∧ l'.length ≤ 1048576 ∧ done ++ pathL prH zM k l' = P ∧ HsOwn w.heap.size wr vb done ∧ Off vl vb.ownBlock ∧ Below w.heap.size w wr
theorem off_new {base : Nat} {w : World} {v u : Value} {l : List (List UInt8)} (h : HsOwn base w v l) (hu : ∀ g, u.ownBlock = some g → g < base) : Off v u.ownBlock := by
  cases hg : u.ownBlock with
  | none => exact Off.none v
  | some g => exact own_off h.1 (hu g hg)
theorem HsOwn.lt {base : Nat} {w : World} {v : Value} {l : List (List UInt8)} (h : HsOwn base w v l) : ∀ g, v.ownBlock = some g → g < w.heap.size := fun g hg => (h.1.lt g hg).2
end Go.Proofs.YtnhmjlljnckieaaDoor.Sha

/-
  The statements' own copy of a row of digests: new memory; nothing that was there turns. Conditions: the digests lie where the slice says; at most 2^20 of them.
-/
namespace Go.Proofs.YtnhmjlljnckieaaDoor.Sha
open Go Go.RowKit
def hsInv (l : List (List UInt8)) (w : World) (vs vi : Value) (wr : World) : Prop :=
  ∃ (k : Nat) (vb : Value), vb = vs ∧ vi = .int .i64 k ∧ k ≤ l.length ∧ HsOwn w.heap.size wr vb (l.take k) ∧ Below w.heap.size w wr
end Go.Proofs.YtnhmjlljnckieaaDoor.Sha

/-
  The calls on rows of digests, for any value that reads so. Nothing that was there turns. Conditions: as told; for package merkle's the table is there.
-/
namespace Go.Proofs.YtnhmjlljnckieaaDoor.Sha
open Go Go.RowKit
theorem same_v (x y : List UInt8) (r : Bool) (hx : x.length = 32) (hy : y.length = 32) (hr : r = decide (x = y)) (w : World) :
    Calls Tryd.prog 14 #[.agg (x.map bV).toArray, .agg (y.map bV).toArray] w fun e w' => e = .returned (.bool r) ∧ Below w.heap.size w w' := by
  rw [hr]
  exact same_any x y hx hy w
theorem HsOwn.base {b b' : Nat} {w : World} {v : Value} {l : List (List UInt8)} (h : HsOwn b w v l) (hb : b' ≤ b) : HsOwn b' w v l := ⟨own_base h.1 hb, h.2⟩
/-- A whole box of digests. -/
theorem hs_box {w : World} {g : Nat} {l : List (List UInt8)} (h : w.heap[g]? = some (.cells (hsL l).toArray 30 (0, 0))) (ho : HsOk l) (hn : l.length ≤ 1048576) : HsAt w (.slice (some ⟨g, 0, none⟩) l.length l.length) l :=
  HsOwn.at (base := 0) ⟨own_of_row h (Nat.zero_le _) (hsL_length l ho) (by unfold maxLen; omega), ho⟩
theorem hs_box1 {w : World} {g : Nat} {x : List UInt8} (h : w.heap[g]? = some (.cells (x.map bV).toArray 30 (0, 0))) (hx : x.length = 32) : HsAt w (.slice (some ⟨g, 0, none⟩) 1 1) [x] :=
  hs_box (l := [x]) (by rw [show hsL [x] = x.map bV by simp [hsL]]; exact h) (fun y hy => by rw [List.mem_singleton.1 hy]; exact hx) (by simp)
theorem hs_box2 {w : World} {g : Nat} {x y : List UInt8} (h : w.heap[g]? = some (.cells (x.map bV ++ y.map bV).toArray 30 (0, 0))) (hx : x.length = 32) (hy : y.length = 32) : HsAt w (.slice (some ⟨g, 0, none⟩) 2 2) [x, y] :=
  hs_box (l := [x, y]) (by rw [show hsL [x, y] = x.map bV ++ y.map bV by simp [hsL]]; exact h) (fun z hz => by
    simp only [List.mem_cons, List.not_mem_nil, or_false] at hz
    rcases hz with rfl | rfl
    · exact hx
    · exact hy) (by simp)
def h1M : List UInt8 := 1 :: List.replicate 31 0
theorem h1M_length : h1M.length = 32 := by simp [h1M]
end Go.Proofs.YtnhmjlljnckieaaDoor.Sha
