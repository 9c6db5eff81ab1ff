/-
  Texts of this proof joined into one file: StOwn, KpSt, KpWalk. What each holds, and under which conditions, its own first sentence tells.
-/
import Derived.Test.YtlpdgjneoahdeaaDoorMg03
import Derived.Test.YtlpdgjneoahdeaaDoorMg06
import Derived.Test.YtlpdgjneoahdeaaDoorMg11
import Derived.Test.YtlpdgjneoahdeaaDoorMg12
import Derived.Test.YtlpdgjneoahdeaaDoorMg04
import Derived.Test.YtlpdgjneoahdeaaDoorMg02
/-
  A cell of a row of one's own is stored into. Conditions: those that each states.
-/
namespace Go.Proofs.YtlpdgjneoahdeaaDoor.Sha
open Go Go.RowKit
theorem wp_store_own {P : Program} {op : Oper} {a : Act} {w : World} {K : Act → World → Prop} {Q : Exit → Act → World → Prop} (ty : TypeId) (x y : Operand) (ho : op.op = .store ty x y)
    (g j base size n cap : Nat) (e : TypeId) (xs : List Value) (v : Value) (hx : a.eval x = .pointer (some ⟨g, j, none⟩)) (hy : a.eval y = v) (h1 : v.oneCell' = true) (hi : (P.info? ty).map (·.size) = some 1)
    (hown : w.ownsRow base e size (.slice (some ⟨g, 0, none⟩) n cap) n xs) (hj : j < n * size)
    (h : ∀ w', w'.ownsRow base e size (.slice (some ⟨g, 0, none⟩) n cap) n (xs.set j v) → w.grownBy w' (some g) → K (a.put op.dst undef) w') : op.wp P a w K Q := by
  rcases hown.2 with ⟨h', _⟩ | ⟨g', cap', cur, h', hb, hg, hnc, hcm, hcs, htake⟩
  · simp at h'
  simp only [Value.slice.injEq, Option.some.injEq, Addr.mk.injEq, and_true, true_and] at h'
  obtain ⟨rfl, rfl⟩ := h'
  have hjc : j < cur.toList.length := by
    rw [Array.length_toList, hcs]
    exact Nat.lt_of_lt_of_le hj (Nat.mul_le_mul_right _ hnc)
  have hsplit : cur.toList = cur.toList.take j ++ [cur.toList[j]] ++ cur.toList.drop (j + 1) := by
    rw [List.append_assoc, List.singleton_append, ← List.drop_eq_getElem_cons hjc, List.take_append_drop]
  have hset : (cur.toList.take j ++ [v] ++ cur.toList.drop (j + 1)) = cur.toList.set j v := by
    rw [List.append_assoc, List.singleton_append, List.set_eq_take_append_cons_drop, if_pos hjc]
  refine wp_store_part ty x y ho g j (cur.toList.take j) [cur.toList[j]] (cur.toList.drop (j + 1)) [v] e v hx hy (cells_one h1) (by rw [List.length_take]; omega) rfl (by rw [← hsplit, Array.toArray_toList]; exact hg) hi (one_mem h1) ?_
  intro w' q1 q2
  refine h w' ⟨by rw [List.length_set]; exact hown.1, .inr ⟨g, cap, _, rfl, hb, q1, hnc, hcm, ?_, ?_⟩⟩ q2
  · rw [hset]
    simpa using hcs
  · rw [hset, ← htake]
    simp [List.take_set]
theorem wpList_store_own1 {P : Program} {ops : Array Oper} {rest : List Oper} {op : Oper} {a : Act} {w : World} {Q : Exit → Act → World → Prop} (hgd : op.guard = none) (ty : TypeId) (x y : Operand) (ho : op.op = .store ty x y)
    (g j base size n cap : Nat) (e : TypeId) (xs : List Value) (v : Value) (hx : a.eval x = .pointer (some ⟨g, j, none⟩)) (hy : a.eval y = v) (h1 : v.oneCell' = true) (hi : (P.info? ty).map (·.size) = some 1)
    (hown : w.ownsRow base e size (.slice (some ⟨g, 0, none⟩) n cap) n xs) (hj : j < n * size)
    (h : ∀ w', w'.ownsRow base e size (.slice (some ⟨g, 0, none⟩) n cap) n (xs.set j v) → w.grownBy w' (some g) → wpList P ops Q rest (a.put op.dst undef) w') : wpList P ops Q (op :: rest) a w :=
  wpList_plain hgd fun _ hK => wp_store_own ty x y ho g j base size n cap e xs v hx hy h1 hi hown hj (fun w' a1 a2 => hK _ _ (h w' a1 a2))
theorem flatten_set {k : Nat} : ∀ (M : List (List Value)) (i j : Nat) (m : List Value) (u : Value), (∀ x ∈ M, x.length = k) → j < k → M[i]? = some m → M.flatten.set (i * k + j) u = (M.set i (m.set j u)).flatten
  | [], i, j, m, u, _, _, hm => by simp at hm
  | x :: M, 0, j, m, u, hk, hj, hm => by
    simp only [List.getElem?_cons_zero, Option.some.injEq] at hm
    subst hm
    rw [List.set_cons_zero, List.flatten_cons, List.flatten_cons, Nat.zero_mul, Nat.zero_add, List.set_append_left _ _ (by rw [hk x List.mem_cons_self]; exact hj)]
  | x :: M, i + 1, j, m, u, hk, hj, hm => by
    have e := hk x List.mem_cons_self
    rw [List.set_cons_succ, List.flatten_cons, List.flatten_cons, List.set_append_right _ _ (by rw [e, Nat.succ_mul]; omega), e, show (i + 1) * k + j - k = i * k + j by rw [Nat.succ_mul]; omega,
      flatten_set M i j m u (fun y hy => hk y (List.mem_cons_of_mem _ hy)) hj (by simpa using hm)]
end Go.Proofs.YtlpdgjneoahdeaaDoor.Sha

/-
  The state of a law that builds a transaction and coins: the transaction in its box, its inputs with their keys, the coins, the outputs in rows of their own. Conditions: none.
-/
namespace Go.Proofs.YtlpdgjneoahdeaaDoor.Sha
open Go Go.RowKit
theorem kp_ne {w : World} {base n k g : Nat} {T T' : TypeId} {v : Value} {xs : List Value} {cs : Array Value} {fr : Nat × Nat} (h : w.ownsRow base T k v n xs) (hg : w.heap[g]? = some (.cells cs T' fr)) (hT : T ≠ T') : v.ownBlock ≠ some g := by
  rcases h.2 with ⟨rfl, _⟩ | ⟨b, cap, cur, rfl, _, hc, _⟩
  · exact fun e => by cases e
  · intro e
    have e' : b = g := Option.some.inj e
    rw [e', hg] at hc
    exact hT (Obj.cells.inj (Option.some.inj hc)).2.1.symm
theorem kp_apart {w : World} {T U : TypeId} {base base' k k' : Nat} {v v' : Value} {L L' : List (List Value)} (h : RwOwn k T base w v L) (h' : RwOwn k' U base' w v' L') (hT : T ≠ U) : v.ownBlock = none ∨ v.ownBlock ≠ v'.ownBlock := by
  rcases h'.1.2 with ⟨rfl, _⟩ | ⟨g', cap', cur', rfl, _, hr', _⟩
  · rcases h.1.2 with ⟨rfl, _⟩ | ⟨g, cap, cur, rfl, _, hr, _⟩
    · exact .inl rfl
    · exact .inr (fun e => by cases e)
  · exact .inr (kp_ne h.1 hr' hT)
theorem kp_row {w : World} {base g k : Nat} {T : TypeId} {cs : List Value} (h : w.heap[g]? = some (.cells cs.toArray T (0, 0))) (hb : base ≤ g) (hl : cs.length = k) : RwOwn k T base w (.slice (some ⟨g, 0, none⟩) 1 1) [cs] := by
  refine ⟨⟨by simp [hl], .inr ⟨g, 1, cs.toArray, rfl, hb, h, Nat.le_refl _, by decide, by simp [hl], ?_⟩⟩, fun x hx => ?_⟩
  · simp [hl, List.take_of_length_le]
  · rw [List.mem_singleton.1 hx]
    exact hl
def kpT (tv ov : Value) : List Value := [nV 0, tv, ov, nV 0]
/-- An input whose key stands in a block of bytes. -/
def KyAt (W : World) (e : TIn × Value) : Prop := InOk e.1 ∧ 0 < e.1.key.length ∧ ∃ b, e.2 = .slice (some ⟨b, 0, none⟩) e.1.key.length e.1.key.length ∧ W.heap[b]? = some (.cells (e.1.key.map bV).toArray 5 (0, 0))
theorem KyAt.below {W W' : World} {e : TIn × Value} (h : KyAt W e) (hb : Below W.heap.size W W') : KyAt W' e := by
  obtain ⟨h1, h0, b, h2, h3⟩ := h
  exact ⟨h1, h0, b, h2, row_below h3 hb⟩
theorem KyAt.own {W W' : World} {e : TIn × Value} {base k : Nat} {T : TypeId} {v : Value} {L : List (List Value)} (h : KyAt W e) (ho : RwOwn k T base W v L) (hT : T ≠ 5) (hg : W.grownBy W' v.ownBlock) : KyAt W' e := by
  obtain ⟨h1, h0, b, h2, h3⟩ := h
  exact ⟨h1, h0, b, h2, row_far h3 hg (kp_ne ho.1 h3 hT)⟩
theorem KyAt.box {W W' : World} {e : TIn × Value} {g : Nat} {cs : Array Value} {T : TypeId} {fr : Nat × Nat} (h : KyAt W e) (ho : W.heap[g]? = some (.cells cs T fr)) (hT : T ≠ 5) (hg : W.grownBy W' (some g)) : KyAt W' e := by
  obtain ⟨h1, h0, b, h2, h3⟩ := h
  refine ⟨h1, h0, b, h2, row_far h3 hg (fun e => ?_)⟩
  have e' : g = b := Option.some.inj e
  rw [e', h3] at ho
  exact hT (Obj.cells.inj (Option.some.inj ho)).2.1.symm
theorem KyAt.key {W : World} {e : TIn × Value} (h : KyAt W e) : KeyAt W e.2 e.1.key := by
  obtain ⟨_, h0, b, h2, h3⟩ := h
  rw [h2]
  exact ⟨src_row rfl h0 h3, _, _, rfl⟩
structure KpG (w0 : World) (base g : Nat) (es : List (TIn × Value)) (ms : List TMn) (os : List TOut) (iv vm ow tv ov : Value) (W : World) : Prop where
  tx : W.heap[g]? = some (.cells (kpT tv ov).toArray 31 (0, 0))
  ins : RwOwn 35 56 base W iv (es.map fun e => inL e.1 e.2)
  mon : RwOwn 35 26 base W vm (ms.map mnL)
  out : RwOwn 33 59 base W ow (os.map outL)
  keys : ∀ e ∈ es, KyAt W e
  below : Below w0.heap.size w0 W
  low : w0.heap.size ≤ g
  gb : g < base
  sz : base ≤ W.heap.size
variable {w0 W W' : World} {base g : Nat} {es : List (TIn × Value)} {ms : List TMn} {os : List TOut} {iv vm ow tv ov : Value}
theorem KpG.keep (h : KpG w0 base g es ms os iv vm ow tv ov W) (hb : Below W.heap.size W W') : KpG w0 base g es ms os iv vm ow tv ov W' :=
  ⟨row_below h.tx hb, h.ins.keep hb, h.mon.keep hb, h.out.keep hb, fun e he => (h.keys e he).below hb, h.below.trans (hb.mono h.below.size), h.low, h.gb, Nat.le_trans h.sz hb.size⟩
theorem KpG.off {k : Nat} {T : TypeId} {v : Value} {L : List (List Value)} (h : KpG w0 base g es ms os iv vm ow tv ov W) (ho : RwOwn k T base W v L) : v.ownBlock = none ∨ v.ownBlock ≠ some g := own_far ho.1 h.gb
theorem KpG.grown {k : Nat} {T : TypeId} {v : Value} {L : List (List Value)} (h : KpG w0 base g es ms os iv vm ow tv ov W) (ho : RwOwn k T base W v L) (hg : W.grownBy W' v.ownBlock) : Below w0.heap.size w0 W' :=
  own_grown h.below (Nat.le_of_lt (Nat.lt_of_le_of_lt h.low h.gb)) h.below.size ho.1 hg
theorem KpG.txrow {k : Nat} {T : TypeId} {v : Value} {L : List (List Value)} (h : KpG w0 base g es ms os iv vm ow tv ov W) (ho : RwOwn k T base W v L) (hg : W.grownBy W' v.ownBlock) : W'.heap[g]? = some (.cells (kpT tv ov).toArray 31 (0, 0)) := by
  rcases h.off ho with e | e
  · rw [e] at hg
    exact row_far h.tx hg (fun e => by cases e)
  · exact row_far h.tx hg e
theorem KpG.turnI {es' : List (TIn × Value)} {iv' : Value} (h : KpG w0 base g es ms os iv vm ow tv ov W) (ho : RwOwn 35 56 base W' iv' (es'.map fun e => inL e.1 e.2)) (hg : W.grownBy W' iv.ownBlock) (hk : ∀ e ∈ es', KyAt W e) : KpG w0 base g es' ms os iv' vm ow tv ov W' :=
  ⟨h.txrow h.ins hg, ho, h.mon.kept hg (kp_apart h.mon h.ins (by decide)), h.out.kept hg (kp_apart h.out h.ins (by decide)), fun e he => (hk e he).own h.ins (by decide) hg, h.grown h.ins hg, h.low, h.gb, Nat.le_trans h.sz hg.size⟩
theorem KpG.pushI {x : TIn} {kv iv' : Value} (h : KpG w0 base g es ms os iv vm ow tv ov W) (ho : RwOwn 35 56 base W' iv' ((es.map fun e => inL e.1 e.2) ++ [inL x kv])) (hg : W.grownBy W' iv.ownBlock) (hk : KyAt W (x, kv)) : KpG w0 base g (es ++ [(x, kv)]) ms os iv' vm ow tv ov W' :=
  h.turnI (by rw [List.map_append]; exact ho) hg (fun e he => by
    rcases List.mem_append.1 he with he | he
    · exact h.keys e he
    · rw [List.mem_singleton.1 he]; exact hk)
theorem KpG.pushM {m : TMn} {vm' : Value} (h : KpG w0 base g es ms os iv vm ow tv ov W) (ho : RwOwn 35 26 base W' vm' (ms.map mnL ++ [mnL m])) (hg : W.grownBy W' vm.ownBlock) : KpG w0 base g es (ms ++ [m]) os iv vm' ow tv ov W' :=
  ⟨h.txrow h.mon hg, h.ins.kept hg (kp_apart h.ins h.mon (by decide)), by rw [List.map_append]; exact ho, h.out.kept hg (kp_apart h.out h.mon (by decide)), fun e he => (h.keys e he).own h.mon (by decide) hg, h.grown h.mon hg, h.low, h.gb, Nat.le_trans h.sz hg.size⟩
theorem KpG.pushO {y : TOut} {ow' : Value} (h : KpG w0 base g es ms os iv vm ow tv ov W) (ho : RwOwn 33 59 base W' ow' (os.map outL ++ [outL y])) (hg : W.grownBy W' ow.ownBlock) : KpG w0 base g es ms (os ++ [y]) iv vm ow' tv ov W' :=
  ⟨h.txrow h.out hg, h.ins.kept hg (kp_apart h.ins h.out (by decide)), h.mon.kept hg (kp_apart h.mon h.out (by decide)), by rw [List.map_append]; exact ho, fun e he => (h.keys e he).own h.out (by decide) hg, h.grown h.out hg, h.low, h.gb, Nat.le_trans h.sz hg.size⟩
theorem KpG.newO {os' : List TOut} {ow' : Value} (h : KpG w0 base g es ms os iv vm ow tv ov W) (ho : RwOwn 33 59 base W ow' (os'.map outL)) : KpG w0 base g es ms os' iv vm ow' tv ov W :=
  ⟨h.tx, h.ins, h.mon, ho, h.keys, h.below, h.low, h.gb, h.sz⟩
theorem KpG.store {tv' ov' : Value} (h : KpG w0 base g es ms os iv vm ow tv ov W) (hr : W'.heap[g]? = some (.cells (kpT tv' ov').toArray 31 (0, 0))) (hg : W.grownBy W' (some g)) : KpG w0 base g es ms os iv vm ow tv' ov' W' :=
  ⟨hr, h.ins.kept hg (h.off h.ins), h.mon.kept hg (h.off h.mon), h.out.kept hg (h.off h.out), fun e he => (h.keys e he).box h.tx (by decide) hg,
    h.below.grown hg h.below.size (fun q hq => by cases hq; exact h.low), h.low, h.gb, Nat.le_trans h.sz hg.size⟩
theorem KpG.cells (h : KpG w0 base g es ms os iv vm ow tv ov W) : W.cell? ⟨g, 1, none⟩ = some tv ∧ W.cell? ⟨g, 2, none⟩ = some ov := by
  constructor
  · rw [cell_of_row _ _ _ _ _ _ h.tx]; rfl
  · rw [cell_of_row _ _ _ _ _ _ h.tx]; rfl
theorem KpG.at (h : KpG w0 base g es ms os iv vm ow iv ow W) (ho : ∀ y ∈ os, OutOk y) : TxAt W (.agg (kpT iv ow).toArray) ⟨0, es.map (·.1), os, 0⟩ := by
  refine ⟨⟨Nat.zero_le _, Nat.zero_le _⟩, iv, ow, rfl, ?_, ?_⟩
  · obtain ⟨_, sp, cap, e, hc, hg⟩ := h.ins.at (by omega)
    rw [List.length_map] at e hc hg
    refine ⟨sp, cap, by rw [e]; show _ = Value.slice sp (es.map (·.1)).length cap; rw [List.length_map], by show (es.map (·.1)).length ≤ cap; rw [List.length_map]; exact hc, fun h0 => ?_⟩
    obtain ⟨b, o, hsp, hx⟩ := hg (by have h1 : 0 < (es.map (·.1)).length := h0; rw [List.length_map] at h1; exact h1)
    refine ⟨b, o, hsp, fun i x hi => ?_⟩
    have hi2 : (es.map (·.1))[i]? = some x := hi
    rw [List.getElem?_map] at hi2
    cases he : es[i]? with
    | none => rw [he] at hi2; cases hi2
    | some e2 =>
      rw [he] at hi2
      cases hi2
      have hk := h.keys e2 (List.mem_of_getElem? he)
      exact ⟨hk.1, e2.2, hk.key, hx i _ (by rw [List.getElem?_map, he]; rfl)⟩
  · obtain ⟨_, sp, cap, e, hc, hg⟩ := h.out.at (by omega)
    rw [List.length_map] at e hc hg
    refine ⟨sp, cap, e, hc, fun h0 => ?_⟩
    obtain ⟨b, o, hsp, hx⟩ := hg h0
    refine ⟨b, o, hsp, fun i y hy => ⟨ho y (List.mem_of_getElem? hy), hx i _ (by rw [List.getElem?_map, hy]; rfl)⟩⟩
theorem in_set (x : TIn) (kv kw : Value) (k2 : List UInt8) (hx : x.h.length = 32) : (inL x kv).set 33 kw = inL ⟨x.h, x.n, k2, x.seq⟩ kw := by
  unfold inL
  rw [List.set_append_right _ _ (by rw [ptL_length, hx]; omega), ptL_length, hx]
  rfl
theorem KpG.setkey {gi n ci i : Nat} {x : TIn} {kv0 kv : Value} {k2 : List UInt8} (h : KpG w0 base g es ms os (.slice (some ⟨gi, 0, none⟩) n ci) vm ow tv ov W) (he : es[i]? = some (x, kv0)) (q1 : W'.ownsRow base 56 35 (.slice (some ⟨gi, 0, none⟩) n ci) n ((es.map fun e => inL e.1 e.2).flatten.set (i * 35 + 33) kv))
    (q2 : W.grownBy W' (some gi)) (hk : KyAt W (⟨x.h, x.n, k2, x.seq⟩, kv)) : KpG w0 base g (es.set i (⟨x.h, x.n, k2, x.seq⟩, kv)) ms os (.slice (some ⟨gi, 0, none⟩) n ci) vm ow tv ov W' := by
  have hx : x.h.length = 32 := (h.keys _ (List.mem_of_getElem? he)).1.1
  have hn : n = es.length := by
    have h2 := (h.ins.at (by omega)).len
    rw [List.length_map] at h2
    exact h2.1
  have e1 : (es.map fun e => inL e.1 e.2).flatten.set (i * 35 + 33) kv = ((es.set i (⟨x.h, x.n, k2, x.seq⟩, kv)).map fun e => inL e.1 e.2).flatten := by
    rw [flatten_set _ i 33 (inL x kv0) kv h.ins.2 (by omega) (by rw [List.getElem?_map, he]; rfl), in_set x kv0 kv k2 hx, List.map_set]
  rw [e1] at q1
  refine h.turnI ⟨?_, ?_⟩ q2 (fun e hm => ?_)
  · rw [List.length_map, List.length_set, ← hn]
    exact q1
  · intro z hz
    obtain ⟨e, hm, rfl⟩ := List.mem_map.1 hz
    rcases List.mem_or_eq_of_mem_set hm with hm | rfl
    · exact inL_length _ _ (h.keys e hm).1.1
    · exact inL_length _ _ hx
  · rcases List.mem_or_eq_of_mem_set hm with hm | rfl
    · exact h.keys e hm
    · exact hk
end Go.Proofs.YtlpdgjneoahdeaaDoor.Sha

/-
  The law that what goes in is what goes out answers true. Conditions: the amounts lie where the slice says; the errors and the table of the rounds' words are there.
-/
namespace Go.Proofs.YtlpdgjneoahdeaaDoor.Sha
open Go Go.RowKit
theorem built_kpi (b n m : Nat) (xs : List UInt8) : Tryd.prog.built 56 [(1, .slice (some ⟨b, 0, none⟩) n m)] = some (inL ⟨kpZ, 0, xs, 0⟩ (.slice (some ⟨b, 0, none⟩) n m)).toArray := by kernel_rfl
theorem info_kpm : (Tryd.prog.info? 26).map (fun i => (i.zero, i.size, i.bytes)) = some (some (.agg mnZ0.toArray), 35, 56) := by kernel_rfl
theorem built_kpo (x : Nat) : Tryd.prog.built 59 [(0, .int .u64 (x : Int))] = some (outL (kpO x)).toArray := by kernel_rfl
theorem built_kpm (c : TMn) (hc : MnOk c) (h0 : c.height = 0) (hb : c.base = false) : Tryd.prog.built 26 [(0, .int .u64 (c.val : Int)), (1, .agg (c.lock.map bV).toArray)] = some (mnL c).toArray := by
  have hz : ∀ parts, Tryd.prog.built 26 parts = Instr.fill ([(0, 1), (1, 32), (33, 1), (34, 1)].toArray[·]?) mnZ0.toArray parts := fun parts => by kernel_rfl
  obtain ⟨x, k, y, z⟩ := c
  obtain rfl : y = 0 := h0
  obtain rfl : z = false := hb
  have l1 : (k.map bV).length = 32 := by simp [show k.length = 32 from hc.1]
  have l2 : mnZ0.length = 35 := rfl
  rw [hz, fill_part _ 0 0 (.int .u64 (x : Int)) [.int .u64 (x : Int)] _ _ rfl rfl (by simp [l2]), List.take_zero, List.nil_append, List.length_singleton, Nat.zero_add]
  have e1 : [Value.int .u64 (x : Int)] ++ mnZ0.drop 1 = .int .u64 (x : Int) :: (List.replicate 32 (bV 0) ++ [.int .i64 0, .bool false]) := rfl
  rw [e1, fill_part _ 1 1 (.agg (k.map bV).toArray) (k.map bV) _ _ rfl (by rw [l1]; rfl) (by simp [l1])]
  have e2 : (Value.int .u64 (x : Int) :: (List.replicate 32 (bV 0) ++ [.int .i64 0, .bool false])).take 1 ++ k.map bV ++ (Value.int .u64 (x : Int) :: (List.replicate 32 (bV 0) ++ [.int .i64 0, .bool false])).drop (1 + (k.map bV).length) = .int .u64 (x : Int) :: (k.map bV ++ [.int .i64 0, .bool false]) := by
    rw [l1, show 1 + 32 = 32 + 1 from rfl, List.drop_succ_cons, List.drop_append_of_le_length (by simp), List.drop_eq_nil_of_le (by simp)]
    rfl
  rw [e2]
  rfl
theorem flt_bare {W : World} {E : Nat → Addr} {u : Value} {c : Nat} (h : FltV W E u (c, none)) : u = errV E c := by
  rcases h with ⟨_, h⟩ | ⟨q, p, g, h, _⟩
  · exact h
  · cases h
theorem kpM_ok {vs : List Nat} (hv : ∀ x ∈ vs, x ≤ 209999999999999) {n : Nat} : ∀ m ∈ kpMs vs n, MnOk m := fun m hm => by
  obtain ⟨i, _, rfl⟩ := List.mem_map.1 hm
  refine ⟨sha_length _, ?_, by show _ ≤ (0 : Int); omega, by show (0 : Int) ≤ _; omega⟩
  show vs.getD i 0 ≤ _
  rw [List.getD_eq_getElem?_getD]
  cases hi : vs[i]? with
  | none => simp
  | some x => have := hv x (List.mem_of_getElem? hi); simp; omega
theorem kpK_row (k : Nat) (h : k < 10) : (#[.int .u8 (k : Int), .int .u8 7] : Array Value) = ((kpK k).map bV).toArray := by
  match k, h with
  | 0, _ => rfl
  | 1, _ => rfl
  | 2, _ => rfl
  | 3, _ => rfl
  | 4, _ => rfl
  | 5, _ => rfl
  | 6, _ => rfl
  | 7, _ => rfl
  | 8, _ => rfl
  | 9, _ => rfl
variable {w0 W W' : World} {base g : Nat} {es : List (TIn × Value)} {ms : List TMn} {os : List TOut} {iv vm ow : Value}
theorem KpG.fee (E : Nat → Addr) (h : KpG w0 base g es ms os iv vm ow iv ow W) (ho : ∀ y ∈ os, OutOk y) (hm : ∀ m ∈ ms, MnOk m) (n1 : es.length ≤ 10) (n2 : ms.length ≤ 10) (n3 : os.length ≤ 10) (hE : Errs w0 E) (hK : KTab w0) (r : Nat × Nat × Option Nat) (hr : feeR ⟨0, es.map (·.1), os, 0⟩ ms = r) :
    Calls Tryd.prog 7 #[.agg (kpT iv ow).toArray, vm] W fun e w' => ∃ u, e = .returned (.tuple #[.int .u64 (r.1 : Int), u]) ∧ FltV w' E u r.2 ∧ KpG w0 base g es ms os iv vm ow iv ow w' := by
  rw [← hr]
  refine (vlfee_any E W _ vm ⟨0, es.map (·.1), os, 0⟩ ms (h.at ho) (h.mon.at (by omega)) hm (by show (es.map (·.1)).length ≤ _; rw [List.length_map]; omega) (by omega) (by show os.length ≤ _; omega) (hE.below h.below).fee (fun W2 hW2 => hK.below (h.below.trans (hW2.mono h.below.size)))).mono ?_
  rintro e w' ⟨u, h1, h2, h3⟩
  exact ⟨u, h1, h2, h.keep h3⟩
theorem KpG.shape {tv ov : Value} (h : KpG w0 base g es ms os iv vm ow tv ov W) (h0 : 0 < es.length) : ∃ gi ci, iv = .slice (some ⟨gi, 0, none⟩) es.length ci := by
  obtain ⟨sp, cp, e2⟩ := (h.ins.at (by omega)).shape
  rw [List.length_map] at e2
  rcases h.ins.1.2 with ⟨e, _⟩ | ⟨b, cap, cur, e, _⟩
  · rw [e] at e2
    injection e2 with _ h2 _
    omega
  · rw [List.length_map] at e
    exact ⟨b, cap, e⟩
def KeInv (n : Nat) (vs : List Nat) (w0 : World) (base g : Nat) (vin vsum vi : Value) (wr : World) : Prop :=
  ∃ (k : Nat) (es : List (TIn × Value)) (iv vm : Value), vm = vin ∧ vsum = .int .u64 ((vs.take k).sum : Nat) ∧ vi = .int .i64 (k : Int) ∧ k ≤ n ∧ es.map (·.1) = kpXs k ∧ KpG w0 base g es (kpMs vs k) [] iv vm (.slice none 0 0) iv (.slice none 0 0) wr
set_option maxHeartbeats 2000000 in
set_option maxRecDepth 100000 in
theorem keeps_main (E : Nat → Addr) (l : List Nat) (v : Value) (fee : Nat) (bad : Int) (w : World) (hE : Errs w E) (hK : KTab w) (hl : SrcU w v l) (hb : ∀ j, l.getD j 0 ≤ 18446744073709551615) (hf : fee ≤ 18446744073709551615) (hbad : -9223372036854775808 ≤ bad ∧ bad ≤ 9223372036854775807) :
    Calls Tryd.prog 4 #[v, .int .u64 (fee : Int), .int .i64 bad] w fun e w' => e = .returned (.bool true) ∧ Below w.heap.size w w' := by
  obtain ⟨i0, hi, hz0, hz1, hz2⟩ := info_parts info_in
  obtain ⟨j0, hj, hy0, hy1, hy2⟩ := info_parts info_out
  obtain ⟨k0, hk0, hu0, hu1, hu2⟩ := info_parts info_kpm
  have HE := Lib.hid hE
  have HK := Lib.hid hK
  rcases hl with ⟨sp, cap, rfl, rfl⟩ | ⟨h0, bb, off, cap, rfl, hc, hs⟩
  · go_enter Tryd.func4, Tryd.ntmps4
    go_wp2_with fail
    refine (vlfirst_any _).mono ?_
    rintro e w2 ⟨rfl, rfl⟩
    go_wp2_with fail
    go_ret
    exact ⟨rfl, Below.refl _ _⟩
  obtain ⟨n, hn⟩ : ∃ n, n = l.length := ⟨_, rfl⟩
  have HS := Lib.hid hs
  have HB := Lib.hid hb
  rw [← hn] at h0 hc HS ⊢
  have z0 : ((n : Int) == 0) = false := beq_eq_false_iff_ne.2 (by omega)
  obtain ⟨vs, hvs⟩ : ∃ vs, vs = l.map (· % 210000000000000) := ⟨_, rfl⟩
  have VL : Hid (vs.length = n) := by show _ = _; rw [hvs, List.length_map, hn]
  have VB : Hid (∀ x ∈ vs, x ≤ 209999999999999) := fun x hx => by
    rw [hvs] at hx
    obtain ⟨y, _, rfl⟩ := List.mem_map.1 hx
    show y % 210000000000000 ≤ _
    omega
  have VG : Hid (∀ k, k < n → vs[k]? = some (l.getD k 0 % 210000000000000)) := fun k hk => by
    rw [hvs, List.getElem?_map, List.getD_eq_getElem?_getD, List.getElem?_eq_getElem (by omega)]
    rfl
  obtain ⟨kb, hkb, hkb2⟩ := numb_nat bad n (by omega)
  have KB := Lib.hid hkb2
  have NB : Hid (n ≤ 10 → ∀ W, Calls Tryd.prog 18 #[.int .i64 bad, .int .i64 (n : Int)] W fun e w' => e = .returned (.int .i64 (kb : Int)) ∧ W = w') := fun h W => by rw [← show numb bad n = (kb : Int) from hkb]; exact numb_any bad n (by omega) (by omega) hbad W
  clear hn hvs hs hb hE hK hkb hkb2
  go_enter Tryd.func4, Tryd.ntmps4
  go_wp2_with fail
  refine (vlfirst_any _).mono ?_
  rintro e w2 ⟨rfl, rfl⟩
  by_cases h10 : 10 < n
  · have i1 : (10 : Int) < (n : Int) := by omega
    go_wp2_with fail
    go_ret
    exact ⟨rfl, Below.refl _ _⟩
  have i1 : ¬ (10 : Int) < (n : Int) := by omega
  have N10 : Hid (n ≤ 10 ∧ 0 < n) := ⟨by omega, h0⟩
  have NB := Lib.hid (NB.out N10.out.1)
  go_upto_region 7 with fail
  have f1 := heap_alloc_new w (.cells (kpT (.slice none 0 0) (.slice none 0 0)).toArray 31 (0, 0))
  have b1 := (Below.refl w.heap.size w).alloc (Nat.le_refl _) (.cells (kpT (.slice none 0 0) (.slice none 0 0)).toArray 31 (0, 0))
  generalize hq : World.alloc _ _ = w1
  have e1 : w.alloc (.cells (kpT (.slice none 0 0) (.slice none 0 0)).toArray 31 (0, 0)) = w1 := hq
  rw [e1] at f1 b1
  obtain ⟨gt, hgt⟩ : ∃ g, g = w.heap.size := ⟨_, rfl⟩
  obtain ⟨base, hbase⟩ : ∃ base, base = w1.heap.size := ⟨_, rfl⟩
  rw [← hgt] at f1 ⊢
  have ST0 : Hid (KpG w base gt [] [] [] (.slice none 0 0) (.slice none 0 0) (.slice none 0 0) (.slice none 0 0) (.slice none 0 0) w1) := ⟨f1, RwOwn.nil _ _ _ _, RwOwn.nil _ _ _ _, RwOwn.nil _ _ _ _, fun e he => (by cases he), b1, by omega, by have h := (Array.getElem?_eq_some_iff.1 f1).1; omega, by omega⟩
  clear f1 b1 hq e1 hgt hbase i1 h10 z0
  go_wp2_with fail
  go_loopw [9, 10, 11] (fun vin vsum vi wr => KeInv n vs w base gt vin vsum vi wr) (fun _ _ vi _ => n - (intOf vi).toNat)
  case atStart => exact ⟨0, [], _, _, rfl, rfl, rfl, Nat.zero_le _, rfl, ST0.out⟩
  case round =>
    clear ST0
    obtain ⟨k, es, iv, vm, rfl, rfl, rfl, hk, hes, hst⟩ := hrel
    have ST := Lib.hid hst
    have ES := Lib.hid hes
    clear hst hes
    by_cases hlt : k < n
    · have cl : wr.cell? ⟨bb, off + k, none⟩ = some (.int .u64 ((l.getD k 0 : Nat) : Int)) := by
        have h := HS.out k hlt
        rw [ST.out.below.cell (World.block_lt_of_cell? w _ h)]
        exact h
      have xb := HB.out k
      obtain ⟨x, hx⟩ : ∃ x, x = l.getD k 0 := ⟨_, rfl⟩
      rw [← hx] at cl xb
      obtain ⟨y, hy⟩ : ∃ y, y = x % 210000000000000 := ⟨_, rfl⟩
      have VK : Hid (vs[k]? = some y) := by show _ = _; rw [VG.out k hlt, ← hx, hy]
      have yb : y ≤ 209999999999999 := by omega
      have m1 : (x : Int).tmod 210000000000000 = (y : Int) := by rw [Int.tmod_eq_emod_of_nonneg (by omega)]; omega
      have m2 : IntKind.u64.wrap (y : Int) = (y : Int) := by rw [IntKind.wrap_u64]; omega
      have TS : Hid ((vs.take (k + 1)).sum = (vs.take k).sum + y) := by
        show _ = _
        rw [List.take_succ_eq_append_getElem (List.getElem?_eq_some_iff.1 VK.out).1, (List.getElem?_eq_some_iff.1 VK.out).2, List.sum_append]
        simp
      have sb : (vs.take k).sum ≤ 10 * 209999999999999 := by
        have h := kp_sum (vs.take k) (fun z hz => VB.out z (List.mem_of_mem_take hz))
        rw [List.length_take] at h
        have : min k vs.length * 209999999999999 ≤ 10 * 209999999999999 := Nat.mul_le_mul_right _ (by have := N10.out; omega)
        exact Nat.le_trans h this
      obtain ⟨s, hsq⟩ : ∃ s, s = (vs.take k).sum := ⟨_, rfl⟩
      rw [← hsq] at TS sb ⊢
      have m3 : IntKind.u64.wrap ((s : Int) + (y : Int)) = (s : Int) + (y : Int) := by rw [IntKind.wrap_u64]; omega
      have m4 : IntKind.u8.wrap (k : Int) = (k : Int) := by rw [IntKind.wrap_u8]; have := N10.out; omega
      have p0 : 0 ≤ (k : Int) := by omega
      have q0 : (k : Int) < (n : Int) := by omega
      have k10 : k < 10 := by have := N10.out; omega
      have KR := Lib.hid (kpK_row k k10)
      clear hx hy hsq
      go_upto_region 15 with fail
      have kr := KR.out
      have fk := heap_alloc_new wr (.cells ((kpK k).map bV).toArray 5 (0, 0))
      have bk := (Below.refl wr.heap.size wr).alloc (Nat.le_refl _) (.cells ((kpK k).map bV).toArray 5 (0, 0))
      first | rw [kr] | skip
      generalize hq : World.alloc _ _ = w2
      have e2 : wr.alloc (.cells ((kpK k).map bV).toArray 5 (0, 0)) = w2 := hq
      rw [e2] at fk bk
      obtain ⟨gk, hgk⟩ : ∃ g, g = wr.heap.size := ⟨_, rfl⟩
      rw [← hgk] at fk ⊢
      have KA : Hid (KyAt w2 (kpX k, .slice (some ⟨gk, 0, none⟩) 2 2)) := ⟨⟨rfl, by show (0 : Nat) ≤ _; omega, by show (0 : Nat) ≤ _; omega⟩, by show 0 < 2; omega, gk, rfl, fk⟩
      have ST := Lib.hid (ST.out.keep bk)
      clear hq e2 fk bk hgk cl kr KR
      obtain ⟨kv, hkv⟩ : ∃ kv : Value, kv = .slice (some ⟨gk, 0, none⟩) 2 2 := ⟨_, rfl⟩
      have KV := Lib.hid hkv
      rw [← hkv] at KA
      obtain ⟨ci, hci⟩ : ∃ ci, ci = inL (kpX k) kv := ⟨_, rfl⟩
      have CIE := Lib.hid hci
      have LI : Hid (ci.length = 35) := by show _ = _; rw [hci]; exact inL_length _ _ rfl
      have LI1 : Hid (∀ u ∈ ci, u.oneCell' = true) := fun u hu => by
        rw [hci] at hu
        rcases List.mem_append.1 hu with hu | hu
        · exact ptL_one' _ _ u hu
        · simp only [List.mem_cons, List.not_mem_nil, or_false] at hu
          rcases hu with rfl | rfl
          · rw [hkv]; rfl
          · rfl
      have BI : Hid (Tryd.prog.built 56 [(1, .slice (some ⟨gk, 0, none⟩) 2 2)] = some ci.toArray) := by show _ = _; rw [hci, hkv]; exact built_kpi gk 2 2 (kpK k)
      have Dins : Hid ((es.map fun e => inL e.1 e.2).length ≤ 10) := by
        have h := congrArg List.length ES.out
        rw [List.length_map, kpXs_length] at h
        show _ ≤ _
        rw [List.length_map, h]
        have := N10.out
        omega
      have Dmon : Hid (((kpMs vs k).map mnL).length ≤ 10) := by show _ ≤ _; rw [List.length_map, kpMs_length]; have := N10.out; omega
      clear hkv hci
      have c1 := ST.out.cells.1
      go_upto_region 16 with (first | ((with_reducible show wpList _ _ _ _ _ _); first | (refine wpList_buildTo rfl 56 _ rfl _ rfl ci.toArray (by rw [← BI.out]; kernel_rfl) ?_; go_frame) | (refine wpList_slice_one rfl 28 56 (.tmp 56) rfl ci rfl Tryd.underlying28 i0 _ hi hz0 (by rw [hz1, LI.out]) (by rw [LI.out]; omega) (by rw [LI.out]; omega) ?_; have nf := heap_alloc_new w2 (.cells (ci).toArray 56 (0, 0)); have bb := (Below.refl w2.heap.size w2).alloc (Nat.le_refl _) (.cells (ci).toArray 56 (0, 0)); obtain ⟨gN, hgN⟩ : ∃ g, g = w2.heap.size := ⟨_, rfl⟩; generalize hq : World.alloc _ _ = w3; have e2 : w2.alloc (.cells (ci).toArray 56 (0, 0)) = w3 := hq; rw [e2] at nf bb; rw [← hgN] at nf ⊢; have NF := Lib.hid nf; have ST := Lib.hid (ST.out.keep bb); have KA := Lib.hid (KA.out.below bb); clear nf bb hq e2 hgN; go_frame) | (refine wpList_store_part rfl 28 (.tmp 59) (.tmp 58) rfl gt 1 [nV 0] [iv] [(.slice none 0 0), nV 0] [iv2] 31 iv2 rfl rfl (cells_one (own_one IO.out.1)) rfl rfl ST.out.tx (by kernel_rfl) (one_mem (own_one IO.out.1)) ?_; intro w5 q1 q2; have ST := Lib.hid (ST.out.store (tv' := iv2) (ov' := (.slice none 0 0)) q1 q2); clear q1 q2; go_frame)) | (at_builtin; refine wpList_append_own_at _ rfl _ _ 28 rfl base 56 i0 (.agg (List.replicate 32 (bV 0) ++ [nV 0, .slice none 0 0, nV 0]).toArray) 35 72 Tryd.underlying28 hi hz0 hz1 hz2 (by kernel_rfl) (by decide) iv _ (es.map fun e => inL e.1 e.2).flatten rfl ST.out.ins.1 ⟨gN, 0, none⟩ 1 1 (ci) rfl (by rw [LI.out]) (fun j u hj => by rw [Addr.add_mid]; exact range_of_box NF.out j u hj) LI1.out (by have := Dins.out; unfold maxLen; omega) (by have := Dins.out; omega) ST.out.sz ?_; intro iv2 w4 q1 q2 _ q4; have IO : Hid (RwOwn 35 56 base w4 iv2 ((es.map fun e => inL e.1 e.2) ++ [ci])) := RwOwn.push ST.out.ins.2 LI.out q1; have ST := Lib.hid (ST.out.pushI (x := kpX k) (kv := kv) (by rw [← CIE.out]; exact IO.out) q2 KA.out); clear q1 q2 q4; go_frame))
      clear c1 NF
      have KS : Hid (SrcB w5 (.slice (some ⟨gk, 0, none⟩) 2 2) (kpK k)) := by
        have h := (ST.out.keys (kpX k, kv) (by simp)).key.1
        rw [KV.out] at h
        exact h
      go_wp2_with fail
      refine (ref_any (kpK k) _ 2 2 w5 KS.out (by omega)).mono ?_
      rintro e w6 ⟨rfl, bb6⟩
      have ST := Lib.hid (ST.out.keep bb6)
      clear bb6 KS
      have MK : MnOk (kpM vs k) := kpM_ok VB.out (n := k + 1) _ (by rw [kpMs_succ]; simp)
      obtain ⟨cm, hcm⟩ : ∃ cm, cm = mnL (kpM vs k) := ⟨_, rfl⟩
      have CME := Lib.hid hcm
      have LM : Hid (cm.length = 35) := by show _ = _; rw [hcm]; exact mnL_length MK
      have LM1 : Hid (∀ u ∈ cm, u.oneCell' = true) := by show ∀ u ∈ cm, _; rw [hcm]; exact mnL_one _
      have BM : Hid (Tryd.prog.built 26 [(0, .int .u64 (y : Int)), (1, .agg ((sha (kpK k)).map bV).toArray)] = some cm.toArray) := by
        have h := built_kpm (kpM vs k) MK rfl rfl
        rw [show (kpM vs k).val = y from by show vs.getD k 0 = y; rw [List.getD_eq_getElem?_getD, VK.out]; rfl] at h
        show _ = _
        rw [hcm]
        exact h
      obtain ⟨hk, hhk⟩ : ∃ hk, hk = (sha (kpK k)).map bV := ⟨_, rfl⟩
      rw [← hhk] at BM ⊢
      clear hcm hhk MK
      go_wp2_with (first | ((with_reducible show wpList _ _ _ _ _ _); first | (refine wpList_buildTo rfl 26 _ rfl _ rfl cm.toArray (by rw [← BM.out]; kernel_rfl) ?_; go_frame) | (refine wpList_slice_one rfl 32 26 (.tmp 64) rfl cm rfl Tryd.underlying32 k0 _ hk0 hu0 (by rw [hu1, LM.out]) (by rw [LM.out]; omega) (by rw [LM.out]; omega) ?_; have nf := heap_alloc_new w6 (.cells (cm).toArray 26 (0, 0)); have bb := (Below.refl w6.heap.size w6).alloc (Nat.le_refl _) (.cells (cm).toArray 26 (0, 0)); obtain ⟨gM, hgM⟩ : ∃ g, g = w6.heap.size := ⟨_, rfl⟩; generalize hq : World.alloc _ _ = w7; have e2 : w6.alloc (.cells (cm).toArray 26 (0, 0)) = w7 := hq; rw [e2] at nf bb; rw [← hgM] at nf ⊢; have NF := Lib.hid nf; have ST := Lib.hid (ST.out.keep bb); clear nf bb hq e2 hgM; go_frame)) | (at_builtin; refine wpList_append_own_at _ rfl _ _ 32 rfl base 26 k0 (.agg mnZ0.toArray) 35 56 Tryd.underlying32 hk0 hu0 hu1 hu2 (by kernel_rfl) (by decide) vm _ ((kpMs vs k).map mnL).flatten rfl ST.out.mon.1 ⟨gM, 0, none⟩ 1 1 (cm) rfl (by rw [LM.out]) (fun j u hj => by rw [Addr.add_mid]; exact range_of_box NF.out j u hj) LM1.out (by have := Dmon.out; unfold maxLen; omega) (by have := Dmon.out; omega) ST.out.sz ?_; intro vm2 w8 q1 q2 _ q4; have ST := Lib.hid (ST.out.pushM (m := kpM vs k) (by rw [← CME.out]; exact RwOwn.push ST.out.mon.2 LM.out q1) q2); clear q1 q2 q4; go_frame))
      go_roundw
      case rel =>
        refine ⟨k + 1, es ++ [(kpX k, kv)], iv2, vm2, rfl, ?_, by go_num, by omega, by rw [List.map_append, ES.out, kpXs_succ]; rfl, by rw [kpMs_succ]; exact ST.out⟩
        rw [TS.out]
        rfl
      case measure => simp [intOf] <;> omega
    · have hkn : k = n := by omega
      have q0 : ¬ (k : Int) < (n : Int) := by omega
      have ST : Hid (KpG w base gt es (kpMs vs n) [] iv vm (.slice none 0 0) iv (.slice none 0 0) wr) := by rw [← hkn]; exact ST.out
      have ES : Hid (es.map (·.1) = kpXs n) := by rw [← hkn]; exact ES.out
      have EL : Hid (es.length = n) := by
        have h := congrArg List.length ES.out
        rw [List.length_map, kpXs_length] at h
        exact h
      have TK : vs.take k = vs := List.take_of_length_le (by rw [VL.out]; omega)
      rw [TK]
      have sb : vs.sum ≤ 2099999999999990 := by
        have h := kp_sum vs VB.out
        have : vs.length * 209999999999999 ≤ 10 * 209999999999999 := Nat.mul_le_mul_right _ (by rw [VL.out]; exact N10.out.1)
        omega
      have SB := Lib.hid sb
      obtain ⟨s, hsq⟩ : ∃ s, s = vs.sum := ⟨_, rfl⟩
      have SE := Lib.hid hsq
      rw [← hsq] at sb ⊢
      obtain ⟨f, hfq⟩ : ∃ f, f = fee % (s + 1) := ⟨_, rfl⟩
      have fb : f ≤ s := by have := Nat.mod_lt fee (show 0 < s + 1 by omega); omega
      have m1 : IntKind.u64.wrap ((s : Int) + 1) = (s : Int) + 1 := by rw [IntKind.wrap_u64]; omega
      have m2 : ((s : Int) + 1 == 0) = false := beq_eq_false_iff_ne.2 (by omega)
      have m3 : (fee : Int).tmod ((s : Int) + 1) = (f : Int) := by rw [Int.tmod_eq_emod_of_nonneg (by omega), hfq]; rfl
      have m4 : IntKind.u64.wrap (f : Int) = (f : Int) := by rw [IntKind.wrap_u64]; omega
      obtain ⟨d, hd⟩ : ∃ d, d = s - f := ⟨_, rfl⟩
      have m5 : IntKind.u64.wrap ((s : Int) - (f : Int)) = (d : Int) := by rw [IntKind.wrap_u64]; omega
      obtain ⟨f1, hf1⟩ : ∃ f1, f1 = f + 1 := ⟨_, rfl⟩
      have m6 : IntKind.u64.wrap ((f : Int) + 1) = (f1 : Int) := by rw [IntKind.wrap_u64]; omega
      have DE := Lib.hid hd
      have FB := Lib.hid fb
      have F1 := Lib.hid hf1
      obtain ⟨co, hco⟩ : ∃ co, co = outL (kpO d) := ⟨_, rfl⟩
      have COE := Lib.hid hco
      have LO : Hid (co.length = 33) := by show _ = _; rw [hco]; rfl
      have LO1 : Hid (∀ u ∈ co, u.oneCell' = true) := by
        show ∀ u ∈ co, _
        rw [hco]
        intro u hu
        rcases List.mem_cons.1 hu with rfl | hu
        · rfl
        · exact bV_one' _ u hu
      have BO : Hid (Tryd.prog.built 59 [(0, .int .u64 (d : Int))] = some co.toArray) := by show _ = _; rw [hco]; exact built_kpo d
      obtain ⟨cp, hcp⟩ : ∃ cp, cp = outL (kpO f1) := ⟨_, rfl⟩
      have CPE := Lib.hid hcp
      have LP : Hid (cp.length = 33) := by show _ = _; rw [hcp]; rfl
      have LP1 : Hid (∀ u ∈ cp, u.oneCell' = true) := by
        show ∀ u ∈ cp, _
        rw [hcp]
        intro u hu
        rcases List.mem_cons.1 hu with rfl | hu
        · rfl
        · exact bV_one' _ u hu
      have BP : Hid (Tryd.prog.built 59 [(0, .int .u64 (f1 : Int))] = some cp.toArray) := by show _ = _; rw [hcp]; exact built_kpo f1
      have RA : Hid (feeR ⟨0, es.map (·.1), [kpO d], 0⟩ (kpMs vs n) = (f, 0, none)) := by
        show _ = _
        rw [ES.out, ← VL.out, kp_feeA, show ([kpO d].map (·.val)) = [vs.sum - f] from by rw [← SE.out, ← DE.out]; rfl]
        exact kp_w1 vs f SB.out (by rw [← SE.out]; exact FB.out)
      have RB : Hid (feeR ⟨0, es.map (·.1), [kpO d] ++ [kpO f1], 0⟩ (kpMs vs n) = (0, 17, none)) := by
        show _ = _
        rw [ES.out, ← VL.out, kp_feeA, show (([kpO d] ++ [kpO f1]).map (·.val)) = [vs.sum - f, f + 1] from by rw [← SE.out, ← DE.out, ← F1.out]; rfl]
        exact kp_w2 vs f SB.out (by rw [← SE.out]; exact FB.out)
      have OA : Hid (∀ y ∈ [kpO d], OutOk y) := fun y hy => by
        rw [List.mem_singleton.1 hy]
        exact ⟨rfl, by show d ≤ _; have := SB.out; have := SE.out; have := DE.out; omega⟩
      have OB : Hid (∀ y ∈ [kpO d] ++ [kpO f1], OutOk y) := fun y hy => by
        rcases List.mem_append.1 hy with hy | hy
        · exact OA.out y hy
        · rw [List.mem_singleton.1 hy]
          exact ⟨rfl, by show f1 ≤ _; have := SB.out; have := SE.out; have := FB.out; have := F1.out; omega⟩
      have MOK : Hid (∀ m ∈ kpMs vs n, MnOk m) := kpM_ok VB.out
      have ML : Hid ((kpMs vs n).length ≤ 10) := by show _ ≤ _; rw [kpMs_length]; exact N10.out.1
      have EL2 : Hid (es.length ≤ 10) := by show _ ≤ _; rw [EL.out]; exact N10.out.1
      have Dout : Hid ((List.map outL [kpO d]).length ≤ 10) := by show (1 : Nat) ≤ 10; omega
      clear hkn hlt TK hsq hfq hd hf1 hco hcp
      go_upto_region 19 with ((with_reducible show wpList _ _ _ _ _ _); first | (refine wpList_buildTo rfl 59 _ rfl _ rfl co.toArray (by rw [← BO.out]; kernel_rfl) ?_; go_frame) | (refine wpList_slice_one rfl 29 59 (.tmp 74) rfl co rfl Tryd.underlying29 j0 _ hj hy0 (by rw [hy1, LO.out]) (by rw [LO.out]; omega) (by rw [LO.out]; omega) ?_; have nf := heap_alloc_new wr (.cells (co).toArray 59 (0, 0)); have bb := (Below.refl wr.heap.size wr).alloc (Nat.le_refl _) (.cells (co).toArray 59 (0, 0)); obtain ⟨gO, hgO⟩ : ∃ g, g = wr.heap.size := ⟨_, rfl⟩; generalize hq : World.alloc _ _ = w2; have e2 : wr.alloc (.cells (co).toArray 59 (0, 0)) = w2 := hq; rw [e2] at nf bb; rw [← hgO] at nf ⊢; have NF := Lib.hid nf; have NO : Hid (base ≤ gO) := by { show _ ≤ _; rw [hgO]; exact ST.out.sz }; have ST := Lib.hid (ST.out.keep bb); clear nf bb hq e2 hgO; go_frame) | (refine wpList_store_part rfl 29 (.tmp 76) (.tmp 75) rfl gt 2 [nV 0, iv] [(.slice none 0 0)] [nV 0] [(.slice (some ⟨gO, 0, none⟩) 1 1)] 31 (.slice (some ⟨gO, 0, none⟩) 1 1) rfl rfl (cells_one (rfl : (Value.slice (some ⟨gO, 0, none⟩) 1 1).oneCell' = true)) rfl rfl ST.out.tx (by kernel_rfl) (one_mem (rfl : (Value.slice (some ⟨gO, 0, none⟩) 1 1).oneCell' = true)) ?_; intro w3 q1 q2; have NF := Lib.hid (row_far NF.out q2 (fun h => by have := Option.some.inj h; have := NO.out; have := ST.out.gb; omega)); have ST := Lib.hid (ST.out.store (tv' := iv) (ov' := (.slice (some ⟨gO, 0, none⟩) 1 1)) q1 q2); clear q1 q2; go_frame))
      obtain ⟨ow, how⟩ : ∃ ow : Value, ow = .slice (some ⟨gO, 0, none⟩) 1 1 := ⟨_, rfl⟩
      rw [← how] at ST ⊢
      have ST : Hid (KpG w base gt es (kpMs vs n) [kpO d] iv vm ow iv ow w3) := ST.out.newO (os' := [kpO d]) (by rw [how]; exact kp_row (cs := outL (kpO d)) (by rw [← COE.out]; exact NF.out) NO.out rfl)
      clear how NF
      go_wp2_with ((with_reducible show wpList _ _ _ _ _ _); (refine wpList_load_row rfl 31 (.tmp 8) rfl gt rfl 31 (kpT iv ow).toArray (0, 0) _ ST.out.tx Tryd.underlying31 rfl (by kernel_rfl) ?_; go_frame))
      refine (ST.out.fee E OA.out MOK.out EL2.out ML.out (by show (1 : Nat) ≤ 10; omega) HE.out HK.out _ RA.out).mono ?_
      rintro e w4 ⟨u1, rfl, hu, st⟩
      obtain rfl := flt_bare hu
      rw [show errV E 0 = .nilIface from rfl]
      have ST := Lib.hid st
      clear hu st
      have c2 := ST.out.cells.2
      go_upto_region 21 with (first | ((with_reducible show wpList _ _ _ _ _ _); first | (refine wpList_buildTo rfl 59 _ rfl _ rfl cp.toArray (by rw [← BP.out]; kernel_rfl) ?_; go_frame) | (refine wpList_slice_one rfl 29 59 (.tmp 87) rfl cp rfl Tryd.underlying29 j0 _ hj hy0 (by rw [hy1, LP.out]) (by rw [LP.out]; omega) (by rw [LP.out]; omega) ?_; have nf := heap_alloc_new w4 (.cells (cp).toArray 59 (0, 0)); have bb := (Below.refl w4.heap.size w4).alloc (Nat.le_refl _) (.cells (cp).toArray 59 (0, 0)); obtain ⟨gP, hgP⟩ : ∃ g, g = w4.heap.size := ⟨_, rfl⟩; generalize hq : World.alloc _ _ = w5; have e2 : w4.alloc (.cells (cp).toArray 59 (0, 0)) = w5 := hq; rw [e2] at nf bb; rw [← hgP] at nf ⊢; have NF := Lib.hid nf; have ST := Lib.hid (ST.out.keep bb); clear nf bb hq e2 hgP; go_frame) | (refine wpList_store_part rfl 29 (.tmp 90) (.tmp 89) rfl gt 2 [nV 0, iv] [ow] [nV 0] [ow2] 31 ow2 rfl rfl (cells_one (own_one IO.out.1)) rfl rfl ST.out.tx (by kernel_rfl) (one_mem (own_one IO.out.1)) ?_; intro w7 q1 q2; have ST := Lib.hid (ST.out.store (tv' := iv) (ov' := ow2) q1 q2); clear q1 q2; go_frame)) | (at_builtin; refine wpList_append_own_at _ rfl _ _ 29 rfl base 59 j0 (.agg (uV 0 :: List.replicate 32 (bV 0)).toArray) 33 40 Tryd.underlying29 hj hy0 hy1 hy2 (by kernel_rfl) (by decide) ow _ ([kpO d].map outL).flatten rfl ST.out.out.1 ⟨gP, 0, none⟩ 1 1 (cp) rfl (by rw [LP.out]) (fun j u hj => by rw [Addr.add_mid]; exact range_of_box NF.out j u hj) LP1.out (by have := Dout.out; unfold maxLen; omega) (by have := Dout.out; omega) ST.out.sz ?_; intro ow2 w6 q1 q2 _ q4; have IO : Hid (RwOwn 33 59 base w6 ow2 ([kpO d].map outL ++ [cp])) := RwOwn.push ST.out.out.2 LP.out q1; have ST := Lib.hid (ST.out.pushO (y := kpO f1) (by rw [← CPE.out]; exact IO.out) q2); clear q1 q2 q4; go_frame))
      clear c2 NF
      go_wp2_with ((with_reducible show wpList _ _ _ _ _ _); (refine wpList_load_row rfl 31 (.tmp 8) rfl gt rfl 31 (kpT iv ow2).toArray (0, 0) _ ST.out.tx Tryd.underlying31 rfl (by kernel_rfl) ?_; go_frame))
      refine (ST.out.fee E OB.out MOK.out EL2.out ML.out (by show (2 : Nat) ≤ 10; omega) HE.out HK.out _ RB.out).mono ?_
      rintro e w8 ⟨u2, rfl, hu, st⟩
      obtain rfl := flt_bare hu
      have ST := Lib.hid st
      clear hu st
      go_wp2_with fail
      refine (NB.out _).mono ?_
      rintro e wx ⟨rfl, rfl⟩
      obtain ⟨gi, cpi, hiv⟩ := ST.out.shape (by rw [EL.out]; exact N10.out.2)
      obtain ⟨spm, cpm, hvm⟩ := (ST.out.mon.at (by omega)).shape
      rw [List.length_map, kpMs_length] at hvm
      rw [EL.out] at hiv
      subst hiv
      subst hvm
      have kbb := KB.out
      have EG : Hid (∃ kv0, es[kb]? = some (kpX kb, kv0)) := by
        have h := congrArg (fun l => l[kb]?) ES.out
        rw [List.getElem?_map, kpXs_get KB.out] at h
        cases he : es[kb]? with
        | none => rw [he] at h; cases h
        | some e =>
          rw [he] at h
          obtain ⟨x, kv0⟩ := e
          cases h
          exact ⟨kv0, rfl⟩
      obtain ⟨kv0, hkv0⟩ := EG.out
      have c1 := ST.out.cells.1
      have p0 : 0 ≤ (kb : Int) := by omega
      have p1 : (kb : Int) < (n : Int) := by omega
      have KN : Hid (KyAt (w8.alloc (.cells #[.int .u8 9] 5 (0, 0))) (kpN, .slice (some ⟨w8.heap.size, 0, none⟩) 1 1)) := ⟨⟨rfl, by show (0 : Nat) ≤ _; omega, by show (0 : Nat) ≤ _; omega⟩, by show 0 < 1; omega, w8.heap.size, rfl, heap_alloc_new w8 (.cells #[.int .u8 9] 5 (0, 0))⟩
      have ST9 := Lib.hid (ST.out.keep ((Below.refl w8.heap.size w8).alloc (Nat.le_refl _) (.cells #[.int .u8 9] 5 (0, 0))))
      have OW9 : Hid ((w8.alloc (.cells #[.int .u8 9] 5 (0, 0))).ownsRow base 56 35 (.slice (some ⟨gi, 0, none⟩) n cpi) n (es.map fun e => inL e.1 e.2).flatten) := by
        have h := ST9.out.ins.1
        rw [List.length_map, EL.out] at h
        exact h
      have HK0 := Lib.hid hkv0
      clear hkv0 EG
      go_upto_region 24 with ((with_reducible show wpList _ _ _ _ _ _); (refine wpList_store_own1 rfl 52 (.tmp 106) (.tmp 104) rfl gi (kb * 35 + 33) base 35 n cpi 56 _ (.slice (some ⟨w8.heap.size, 0, none⟩) 1 1) rfl rfl rfl (by kernel_rfl) OW9.out (by have := KB.out; omega) ?_; intro w9 q1 q2; have ST := Lib.hid (ST9.out.setkey (x := kpX kb) (k2 := [9]) HK0.out q1 q2 KN.out); clear q1 q2; go_frame))
      clear c1 ST9 OW9 KN
      have RC : Hid (feeR ⟨0, (es.set kb (kpN, .slice (some ⟨w8.heap.size, 0, none⟩) 1 1)).map (·.1), [kpO d] ++ [kpO f1], 0⟩ (kpMs vs n) = (0, 14, some kb)) := by
        show _ = _
        rw [List.map_set, ES.out, ← VL.out]
        exact kp_feeB vs _ kb (by rw [VL.out]; exact KB.out) (by rw [VL.out]; exact N10.out.1)
      go_wp2_with ((with_reducible show wpList _ _ _ _ _ _); (refine wpList_load_row rfl 31 (.tmp 8) rfl gt rfl 31 (kpT (.slice (some ⟨gi, 0, none⟩) n cpi) ow2).toArray (0, 0) _ ST.out.tx Tryd.underlying31 rfl (by kernel_rfl) ?_; go_frame))
      refine (ST.out.fee E OB.out MOK.out (by rw [List.length_set]; exact EL2.out) ML.out (by show (2 : Nat) ≤ 10; omega) HE.out HK.out _ RC.out).mono ?_
      rintro e wr ⟨u3, rfl, hu, st⟩
      have UF := Lib.hid hu
      have ST := Lib.hid st
      clear hu st
      have TXR := Lib.hid ST.out.tx
      have BZ := Lib.hid ST.out.below
      obtain ⟨vcut, hvc⟩ : ∃ vc, vc = sliced spm 1 n cpm 35 := ⟨_, rfl⟩
      have VC := Lib.hid hvc
      have RD : Hid (∀ W, Below wr.heap.size wr W → RwAt 35 W vcut (((kpMs vs n).drop 1).map mnL)) := fun W hW => by
        have h := ((ST.out.mon.at (by omega)).below hW).cut 1 n N10.out.2 (Nat.le_refl _)
        rw [List.take_of_length_le (by rw [List.length_map, kpMs_length]; exact Nat.le_refl _), ← List.map_drop] at h
        rw [hvc]
        exact h
      have FE4 : Hid (∀ W, Below wr.heap.size wr W → Calls Tryd.prog 7 #[.agg (kpT (.slice (some ⟨gi, 0, none⟩) n cpi) ow2).toArray, vcut] W fun e w' => e = .returned (.tuple #[.int .u64 0, errV E 2]) ∧ Below W.heap.size W w') := fun W hW => by
        have st := ST.out.keep hW
        refine (vlfee_any E W _ vcut _ ((kpMs vs n).drop 1) (st.at OB.out) (RD.out W hW) (fun m hm => MOK.out m (List.mem_of_mem_drop hm)) (by show (List.map _ (es.set kb _)).length ≤ _; rw [List.length_map, List.length_set]; have := EL2.out; omega) (by rw [List.length_drop, kpMs_length]; have := N10.out; omega) (by show (2 : Nat) ≤ _; omega) (HE.out.below st.below).fee (fun W2 hW2 => HK.out.below (st.below.trans (hW2.mono st.below.size)))).mono ?_
        rintro e w' ⟨u, h1, h2, h3⟩
        rw [kp_feeC _ _ _ (by rw [List.length_drop, kpMs_length, List.length_map, List.length_set, EL.out]; have := N10.out; omega)] at h1 h2
        rw [flt_bare h2] at h1
        exact ⟨h1, h3⟩
      clear hvc
      go_upto_region 25 with fail
      refine wp_region_held_drew (S := (fun w' => Below wr.heap.size wr w')) (by kernel_rfl) (Below.drew (Below.refl _ _)) (fun hHeld => ?_)
      generalize hwd : wr.drew = wd at  hHeld ⊢
      clear hwd
      refine held_take (i := 0) (v := (.agg (kpT (.slice (some ⟨gi, 0, none⟩) n cpi) ow2).toArray)) rfl (by kernel_rfl) (by kernel_rfl) (by kernel_rfl) (fun _ _ _ h => h) (yieldsIf_load_row (by rfl) 31 (.tmp 8) rfl gt rfl 31 (kpT (.slice (some ⟨gi, 0, none⟩) n cpi) ow2).toArray (0, 0) _ (fun w' hw' => row_below TXR.out hw') Tryd.underlying31 rfl (by kernel_rfl)) hHeld ?_
      go_frame
      refine held_take (i := 1) (v := (.slice spm n cpm)) rfl (by kernel_rfl) (by kernel_rfl) (by kernel_rfl) (fun _ _ _ h => h) (Or.inl ⟨by rfl, fun w' _ => by kernel_rfl⟩) hHeld ?_
      go_frame
      refine held_take (i := 2) (v := vcut) rfl (by kernel_rfl) (by kernel_rfl) (by kernel_rfl) (fun _ _ _ h => h) (yields_cutS_l (by rfl) 32 (.tmp 115) (.const (.int .i64 1)) rfl 26 35 Tryd.underlying32 (by kernel_rfl) spm n cpm 1 vcut rfl rfl (by have := N10.out; omega) VC.out) hHeld ?_
      go_frame
      refine wpAnyH_ready (rs := [3]) (by kernel_rfl) (by simp) (held_cons rfl (fun K hK => ?_) AllReadyH.nil)
      go_simp
      refine (FE4.out _ hHeld).mono ?_
      rintro e v1 ⟨rfl, bb⟩
      have hv1 := hHeld.trans (bb.mono hHeld.size)
      clear bb hHeld
      go_wp2_with fail
      refine hK.out _ _ hv1 (fun hHeld => ?_)
      clear hK K hv1
      refine held_take (i := 4) (v := (.tuple #[.int .u64 0, errV E 2])) rfl (by kernel_rfl) (by kernel_rfl) (by kernel_rfl) (fun _ _ _ h => h) (Or.inl ⟨by rfl, fun w' _ => by kernel_rfl⟩) hHeld ?_
      go_frame
      refine held_take (i := 5) (v := (.int .u64 0)) rfl (by kernel_rfl) (by kernel_rfl) (by kernel_rfl) (fun _ _ _ h => h) (Or.inl ⟨by rfl, fun w' _ => by go_simp⟩) hHeld ?_
      go_frame
      refine held_take (i := 6) (v := (errV E 2)) rfl (by kernel_rfl) (by kernel_rfl) (by kernel_rfl) (fun _ _ _ h => h) (Or.inl ⟨by rfl, fun w' _ => by go_simp⟩) hHeld ?_
      go_frame
      refine held_take (i := 7) (v := (.int .u64 0)) rfl (by kernel_rfl) (by kernel_rfl) (by kernel_rfl) (fun _ _ _ h => h) (Or.inl ⟨by rfl, fun w' _ => by kernel_rfl⟩) hHeld ?_
      go_frame
      refine held_take (i := 8) (v := (errV E 2)) rfl (by kernel_rfl) (by kernel_rfl) (by kernel_rfl) (fun _ _ _ h => h) (Or.inl ⟨by rfl, fun w' _ => by kernel_rfl⟩) hHeld ?_
      go_frame
      refine wpAnyH_done (by kernel_rfl) ?_ _
      obtain ⟨wz, hwz⟩ : ∃ wz, wz = v1 := ⟨_, rfl⟩
      rw [← hwz] at hHeld ⊢
      clear hwz
      have UF := Lib.hid (UF.out.below hHeld)
      have BZ := Lib.hid (BZ.out.trans (hHeld.mono BZ.out.size))
      have SB2 := SB.out
      have SE2 := SE.out
      have s1 : ¬ (2100000000000000 : Int) < (s : Int) := by omega
      have s2 : ¬ (2100000000000000 : Int) < (s : Int) + 1 := by omega
      have m1 : IntKind.u64.wrap ((s : Int) + 1) = (s : Int) + 1 := by rw [IntKind.wrap_u64]; omega
      clear hHeld SB2 SE2
      go_wp2_with fail
      refine (is_any E 17 117 true rfl wz (HE.out.below BZ.out) (by omega)).mono ?_
      rintro e v1 ⟨rfl, bb1⟩
      have UF := Lib.hid (UF.out.below bb1)
      have BZ := Lib.hid (BZ.out.trans (bb1.mono BZ.out.size))
      clear bb1
      go_wp2_with fail
      refine (placed_any 114 (kb : Int) (by decide) v1).mono ?_
      rintro e v2 ⟨rfl, bb1⟩
      have UF := Lib.hid (UF.out.below bb1)
      have BZ := Lib.hid (BZ.out.trans (bb1.mono BZ.out.size))
      clear bb1
      have SF := same_flt E (14, some kb) u3 v2 (HE.out.below BZ.out) (by show (14 : Nat) ≤ 25; omega) UF.out
      go_wp2_with fail
      refine SF.mono ?_
      rintro e v3 ⟨rfl, bb1⟩
      have BZ := Lib.hid (BZ.out.trans (bb1.mono BZ.out.size))
      clear bb1 SF
      go_wp2_with fail
      refine (is_any E 2 102 true rfl v3 (HE.out.below BZ.out) (by omega)).mono ?_
      rintro e v4 ⟨rfl, bb1⟩
      have BZ := Lib.hid (BZ.out.trans (bb1.mono BZ.out.size))
      clear bb1
      go_wp2_with fail
      go_ret
      exact ⟨rfl, BZ.out⟩
end Go.Proofs.YtlpdgjneoahdeaaDoor.Sha
