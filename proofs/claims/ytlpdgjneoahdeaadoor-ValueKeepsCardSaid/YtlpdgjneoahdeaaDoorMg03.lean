/-
  Texts of this proof joined into one file: TxRow, StoreW, RuM, MkRules. What each holds, and under which conditions, its own first sentence tells.
-/
import Derived.Great.BuildSlice
import Derived.Laws.ResultCell
import Derived.Test.YtlpdgjneoahdeaaDoorMg02
import Derived.Test.YtlpdgjneoahdeaaDoorMg01
/-
  Inputs and outputs in rows of one's own: a row of them grows, its keys lie apart from it; what such a row is as a slice. What a slice literal of one or two structures lays. No conditions beyond those that each states.
-/
namespace Go.Proofs.YtlpdgjneoahdeaaDoor.Sha
open Go Go.RowKit
theorem info_in : (Tryd.prog.info? 56).map (fun i => (i.zero, i.size, i.bytes)) = some (some (.agg (List.replicate 32 (bV 0) ++ [nV 0, .slice none 0 0, nV 0]).toArray), 35, 72) := by kernel_rfl
theorem info_out : (Tryd.prog.info? 59).map (fun i => (i.zero, i.size, i.bytes)) = some (some (.agg (uV 0 :: List.replicate 32 (bV 0)).toArray), 33, 40) := by kernel_rfl
/-- The cells of so many inputs, their keys given. -/
def insL : List TIn → List Value → List Value
  | x :: l, kv :: ks => inL x kv ++ insL l ks
  | _, _ => []
def outsL (l : List TOut) : List Value := l.flatMap outL
theorem insL_snoc (x : TIn) (kv : Value) : ∀ (l : List TIn) (ks : List Value), l.length = ks.length → insL (l ++ [x]) (ks ++ [kv]) = insL l ks ++ inL x kv
  | [], [], _ => by simp [insL]
  | y :: l, k :: ks, h => by
    simp only [List.cons_append, insL, insL_snoc x kv l ks (by simpa using h), List.append_assoc]
theorem insL_get : ∀ (l : List TIn) (ks : List Value) (i : Nat) (x : TIn) (kv : Value), InsOk l → l[i]? = some x → ks[i]? = some kv → ∀ j, j < 35 → (insL l ks)[i * 35 + j]? = (inL x kv)[j]?
  | y :: l, k :: ks, 0, x, kv, ho, hx, hk, j, hj => by
    simp only [List.getElem?_cons_zero, Option.some.injEq] at hx hk
    subst hx hk
    rw [Nat.zero_mul, Nat.zero_add, insL, List.getElem?_append_left (by rw [inL_length y k (ho y List.mem_cons_self).1]; exact hj)]
  | y :: l, k :: ks, i + 1, x, kv, ho, hx, hk, j, hj => by
    have e := inL_length y k (ho y List.mem_cons_self).1
    rw [insL, List.getElem?_append_right (by omega), e, show (i + 1) * 35 + j - 35 = i * 35 + j by omega]
    exact insL_get l ks i x kv (fun z hz => ho z (List.mem_cons_of_mem _ hz)) (by simpa using hx) (by simpa using hk) j hj
  | [], _, _, _, _, _, hx, _, _, _ => by simp at hx
  | _ :: _, [], _, _, _, _, _, hk, _, _ => by simp at hk
theorem outsL_get : ∀ (l : List TOut) (i : Nat) (y : TOut), OutsOk l → l[i]? = some y → ∀ j, j < 33 → (outsL l)[i * 33 + j]? = (outL y)[j]?
  | z :: l, 0, y, ho, hy, j, hj => by
    simp only [List.getElem?_cons_zero, Option.some.injEq] at hy
    subst hy
    rw [Nat.zero_mul, Nat.zero_add, outsL, List.flatMap_cons, List.getElem?_append_left (by rw [outL_length z (ho z List.mem_cons_self).1]; exact hj)]
  | z :: l, i + 1, y, ho, hy, j, hj => by
    have e := outL_length z (ho z List.mem_cons_self).1
    rw [outsL, List.flatMap_cons, List.getElem?_append_right (by omega), e, show (i + 1) * 33 + j - 33 = i * 33 + j by omega]
    exact outsL_get l i y (fun z hz => ho z (List.mem_cons_of_mem _ hz)) (by simpa using hy) j hj
  | [], _, _, _, hy, _, _ => by simp at hy
/-- A slice of bytes that does not lie in this block. -/
def Off (kv : Value) (q : Option Nat) : Prop := ∀ sp n cap, kv = .slice (some sp) n cap → 0 < n → q ≠ some sp.block
theorem SrcB.off {w w' : World} {v : Value} {bs : List UInt8} {q : Option Nat} (h : SrcB w v bs) (ho : Off v q) (hg : w.grownBy w' q) : SrcB w' v bs := by
  rcases h with h | ⟨h0, bb, off, cap, hv, hc, hs⟩
  · exact .inl h
  · refine .inr ⟨h0, bb, off, cap, hv, hc, fun j hj => ?_⟩
    rw [World.cell?_of_block (hg.block bb (SrcB.block h0 hs) (fun e => ho _ _ _ hv h0 e.symm))]
    exact hs j hj
theorem KeyAt.off {w w' : World} {kv : Value} {key : List UInt8} {q : Option Nat} (h : KeyAt w kv key) (ho : Off kv q) (hg : w.grownBy w' q) : KeyAt w' kv key := ⟨h.1.off ho hg, h.2⟩
theorem KeyAt.fresh {w : World} {kv : Value} {key : List UInt8} {k : Nat} (h : KeyAt w kv key) (hk : w.heap.size ≤ k) : Off kv (some k) := fun sp n cap hv hn e => by
  rcases h.1 with ⟨sp', cap', hv', _⟩ | ⟨h0, bb, off, cap', hv', _, hs⟩
  · rw [hv'] at hv
    cases hv
    omega
  · have := SrcB.block h0 hs
    rw [hv'] at hv
    cases hv
    have e2 : k = bb := Option.some.inj e
    omega
/-- A row of inputs of one's own; its keys lie apart from it, and from all that was there before. -/
def InsOwn (base : Nat) (w : World) (v : Value) (l : List TIn) (ks : List Value) : Prop :=
  l.length = ks.length ∧ w.ownsRow base 56 35 v l.length (insL l ks) ∧ InsOk l ∧ ∀ (i : Nat) x kv, l[i]? = some x → ks[i]? = some kv → KeyAt w kv x.key ∧ (∀ q, q < base → Off kv (some q)) ∧ Off kv v.ownBlock
def OutsOwn (base : Nat) (w : World) (v : Value) (l : List TOut) : Prop := w.ownsRow base 59 33 v l.length (outsL l) ∧ OutsOk l
theorem InsOwn.nil (base : Nat) (w : World) : InsOwn base w (.slice none 0 0) [] [] := ⟨rfl, World.ownsRow_nil _ _ _ _, fun _ h => absurd h (by simp), fun i x kv h => absurd h (by simp)⟩
theorem OutsOwn.nil (base : Nat) (w : World) : OutsOwn base w (.slice none 0 0) [] := ⟨World.ownsRow_nil _ _ _ _, fun _ h => absurd h (by simp)⟩
section
variable {base : Nat} {w w' : World} {v v' : Value} {l : List TIn} {ks : List Value} {m : List TOut}
theorem own_far {size n q : Nat} {e : TypeId} {xs : List Value} (h : w.ownsRow base e size v n xs) (hq : q < base) : v.ownBlock = none ∨ v.ownBlock ≠ some q := by
  cases hv : v.ownBlock with
  | none => exact .inl rfl
  | some k => exact .inr (fun e => by have := (h.lt k hv).1; have := Option.some.inj e; omega)
theorem InsOwn.keep (h : InsOwn base w v l ks) (hb : Below w.heap.size w w') : InsOwn base w' v l ks :=
  ⟨h.1, own_kept h.2.1 hb, h.2.2.1, fun i x kv hx hk => ⟨(h.2.2.2 i x kv hx hk).1.below hb, (h.2.2.2 i x kv hx hk).2⟩⟩
theorem OutsOwn.kept (h : OutsOwn base w v m) {q : Option Nat} (hg : w.grownBy w' q) (hb : v.ownBlock = none ∨ v.ownBlock ≠ q) : OutsOwn base w' v m := ⟨h.1.kept hg hb, h.2⟩
theorem OutsOwn.keep (h : OutsOwn base w v m) (hb : Below w.heap.size w w') : OutsOwn base w' v m := ⟨own_kept h.1 hb, h.2⟩
theorem InsOwn.push (h : InsOwn base w v l ks) {x : TIn} {kv : Value} (hx : InOk x) (hk : KeyAt w kv x.key) (hr : ∀ q, q < base → Off kv (some q)) (ho : Off kv v.ownBlock)
    (hown : w'.ownsRow base 56 35 v' (l.length + 1) (insL l ks ++ inL x kv)) (hg : w.grownBy w' v.ownBlock) (hat : v'.ownBlock = v.ownBlock ∨ v'.ownBlock = some w.heap.size) : InsOwn base w' v' (l ++ [x]) (ks ++ [kv]) := by
  refine ⟨by simp [h.1], ?_, ?_, ?_⟩
  · rw [insL_snoc x kv l ks h.1, List.length_append]
    exact hown
  · intro z hz
    rcases List.mem_append.1 hz with hz | hz
    · exact h.2.2.1 z hz
    · rw [List.mem_singleton.1 hz]; exact hx
  · have move : ∀ {x : TIn} {kv : Value}, KeyAt w kv x.key → (∀ q, q < base → Off kv (some q)) → Off kv v.ownBlock → KeyAt w' kv x.key ∧ (∀ q, q < base → Off kv (some q)) ∧ Off kv v'.ownBlock := fun {x kv} a b c => by
      refine ⟨a.off c hg, b, ?_⟩
      rcases hat with e | e
      · rw [e]; exact c
      · rw [e]; exact a.fresh (Nat.le_refl _)
    intro i y kw hy hkw
    by_cases hi : i < l.length
    · rw [List.getElem?_append_left hi] at hy
      rw [List.getElem?_append_left (by rw [← h.1]; exact hi)] at hkw
      obtain ⟨a, b, c⟩ := h.2.2.2 i y kw hy hkw
      exact move a b c
    · have hil : i = l.length := by
        have := (List.getElem?_eq_some_iff.1 hy).1
        simp at this
        omega
      subst hil
      rw [List.getElem?_append_right (Nat.le_refl _), Nat.sub_self] at hy
      have h1 := h.1
      rw [List.getElem?_append_right (by omega), h1, Nat.sub_self] at hkw
      simp only [List.getElem?_cons_zero, Option.some.injEq] at hy hkw
      subst hy hkw
      exact move hk hr ho
theorem OutsOwn.push (h : OutsOwn base w v m) {y : TOut} (hy : OutOk y) (hown : w'.ownsRow base 59 33 v' (m.length + 1) (outsL m ++ outL y)) : OutsOwn base w' v' (m ++ [y]) := by
  refine ⟨?_, ?_⟩
  · have e : outsL (m ++ [y]) = outsL m ++ outL y := by simp [outsL, List.flatMap_append]
    rw [e, List.length_append]
    exact hown
  · intro z hz
    rcases List.mem_append.1 hz with hz | hz
    · exact h.2 z hz
    · rw [List.mem_singleton.1 hz]; exact hy
/-- Such a row as a slice of inputs. -/
theorem InsOwn.at (h : InsOwn base w v l ks) : InsAt w v l := by
  obtain ⟨h1, h2, h3, h4⟩ := h
  rcases h2.2 with ⟨hv, h0⟩ | ⟨g, cap, cur, hv, hb, hc, hn, hm, hs, ht⟩
  · exact ⟨none, 0, by rw [hv, h0], by omega, fun h => by omega⟩
  · subst hv
    refine ⟨_, cap, rfl, hn, fun h0 => ⟨g, 0, rfl, fun i x hx => ?_⟩⟩
    have hi := (List.getElem?_eq_some_iff.1 hx).1
    obtain ⟨kv, hkv⟩ : ∃ kv, ks[i]? = some kv := ⟨_, List.getElem?_eq_getElem (by omega)⟩
    have hxo := h3 x (List.mem_of_getElem? hx)
    refine ⟨hxo, kv, (h4 i x kv hx hkv).1, fun j u hj => ?_⟩
    have hj35 : j < 35 := by
      have := (List.getElem?_eq_some_iff.1 hj).1
      rwa [inL_length x kv hxo.1] at this
    rw [Nat.zero_add, h2.cellAt (i * 35 + j) (by omega), insL_get l ks i x kv h3 hx hkv j hj35]
    exact hj
theorem OutsOwn.at (h : OutsOwn base w v m) : OutsAt w v m := by
  obtain ⟨h2, h3⟩ := h
  rcases h2.2 with ⟨hv, h0⟩ | ⟨g, cap, cur, hv, hb, hc, hn, hm, hs, ht⟩
  · exact ⟨none, 0, by rw [hv, h0], by omega, fun h => by omega⟩
  · subst hv
    refine ⟨_, cap, rfl, hn, fun h0 => ⟨g, 0, rfl, fun i x hx => ?_⟩⟩
    have hi := (List.getElem?_eq_some_iff.1 hx).1
    have hxo := h3 x (List.mem_of_getElem? hx)
    refine ⟨hxo, fun j u hj => ?_⟩
    have hj35 : j < 33 := by
      have := (List.getElem?_eq_some_iff.1 hj).1
      rwa [outL_length x hxo.1] at this
    rw [Nat.zero_add, h2.cellAt (i * 33 + j) (by omega), outsL_get m i x h3 hx j hj35]
    exact hj
end
/-- A literal of one structure, of two. -/
theorem fill_one (size : Nat) (zs : List Value) (hz : zs.length = size) (cs : List Value) (hc : cs.length = size) : Instr.fill (fun i => some (i * size, size)) zs.toArray [(0, .agg cs.toArray)] = some cs.toArray := by
  have h := fill_part (fun i => some (i * size, size)) 0 0 (.agg cs.toArray) cs zs [] rfl (by simp [hc]) (by omega)
  rw [h]
  have e : zs.drop (0 + cs.length) = [] := List.drop_eq_nil_of_le (by omega)
  rw [List.take_zero, List.nil_append, e, List.append_nil]
  rfl
section
variable {P : Program}
theorem wp_slice_one {o : Oper} {a : Act} {w : World} {K : Act → World → Prop} {Q : Exit → Act → World → Prop} (t e : TypeId) (x : Operand) (ho : o.op = .buildSlice t 1 #[(0, x)]) (cs : List Value) (hx : a.eval x = .agg cs.toArray)
    (hu : P.underlying t = some (.slice e)) (i : TypeInfo) (z : Value) (hi : P.info? e = some i) (hz : i.zero = some z) (hs : i.size = cs.length) (hp : 0 < cs.length) (hm : cs.length ≤ 16777216)
    (h : K (a.put o.dst (.slice (some ⟨w.heap.size, 0, none⟩) 1 1)) (w.alloc (.cells cs.toArray e))) : o.wp P a w K Q := by
  refine wp_buildSlice t e 1 _ ho cs.toArray i z hu hi hz (by rw [hs]; omega) (by rw [hs]; omega) ?_ h
  have e1 : (Array.map (fun (q : Nat × Operand) => (q.1, a.eval q.2)) #[(0, x)]).toList = [(0, .agg cs.toArray)] := by simp [hx]
  rw [show (Array.map (fun (i, x) => (i, a.eval x)) #[(0, x)]).toList = [(0, .agg cs.toArray)] from e1, ← Array.toArray_toList (xs := Array.map _ _)]
  exact fill_one i.size _ (by simp) cs hs.symm
theorem wpList_slice_one {ops : Array Oper} {rest : List Oper} {o : Oper} {a : Act} {w : World} {Q : Exit → Act → World → Prop} (hg : o.guard = none) (t e : TypeId) (x : Operand) (ho : o.op = .buildSlice t 1 #[(0, x)]) (cs : List Value) (hx : a.eval x = .agg cs.toArray)
    (hu : P.underlying t = some (.slice e)) (i : TypeInfo) (z : Value) (hi : P.info? e = some i) (hz : i.zero = some z) (hs : i.size = cs.length) (hp : 0 < cs.length) (hm : cs.length ≤ 16777216)
    (h : wpList P ops Q rest (a.put o.dst (.slice (some ⟨w.heap.size, 0, none⟩) 1 1)) (w.alloc (.cells cs.toArray e))) : wpList P ops Q (o :: rest) a w :=
  wpList_plain hg fun _ hK => wp_slice_one t e x ho cs hx hu i z hi hz hs hp hm (hK _ _ h)
end
end Go.Proofs.YtlpdgjneoahdeaaDoor.Sha

/-
  A value stored into a box, or into a part of a block of one's own, the new world hidden; two boxes; a box and a value as results. No conditions beyond those that each states.
-/
namespace Go.Proofs.YtlpdgjneoahdeaaDoor.Sha
open Go Go.RowKit
section
variable {P : Program}
theorem setRow_grown {w : World} {g : Nat} (cs : Array Value) : w.grownBy (w.setRow g cs) (some g) := by
  refine ⟨rfl, rfl, rfl, by simp [World.setRow], fun k _ hk => ?_⟩
  simp only [World.setRow]
  rw [Array.getElem?_modify, if_neg (fun e => hk (by rw [e]))]
theorem run_store_part {w : World} (ty : TypeId) (g o : Nat) (A old C new : List Value) (T : TypeId) (v : Value) (hv : v.cells = new.toArray) (hA : A.length = o) (hlen : old.length = new.length)
    (hg : w.heap[g]? = some (.cells (A ++ old ++ C).toArray T (0, 0))) (hi : (P.info? ty).map (·.size) = some new.length) (h1 : ∀ u ∈ new, u.oneCell' = true) :
    (storeVar ty ⟨g, o, none⟩ v).run P w = .ok () (w.setRow g (A ++ new ++ C).toArray) := by
  have h := run_storeCells_at P g o T new 0 (A ++ old ++ C).toArray w hg (by simp; omega) h1
  have e : ((A ++ old ++ C).toArray.toList.take (o + 0) ++ new ++ (A ++ old ++ C).toArray.toList.drop (o + 0 + new.length)).toArray = (A ++ new ++ C).toArray := by
    congr 1
    subst hA
    simp only [Nat.add_zero]
    rw [List.append_assoc A old C, List.take_left, ← List.drop_drop, List.drop_left, ← hlen, List.drop_left]
  rw [e] at h
  cases hq : P.info? ty with
  | none => simp [hq] at hi
  | some i =>
    have hs : i.size = new.length := by simpa [hq] using hi
    simp [storeVar, sizeOf, typeInfo, hq, hv, hs]
    simpa using h
theorem wp_store_part {op : Oper} {a : Act} {w : World} {K : Act → World → Prop} {Q : Exit → Act → World → Prop} (ty : TypeId) (x y : Operand) (ho : op.op = .store ty x y)
    (g o : Nat) (A old C new : List Value) (T : TypeId) (v : Value) (hx : a.eval x = .pointer (some ⟨g, o, none⟩)) (hy : a.eval y = v) (hv : v.cells = new.toArray) (hA : A.length = o) (hlen : old.length = new.length)
    (hg : w.heap[g]? = some (.cells (A ++ old ++ C).toArray T (0, 0))) (hi : (P.info? ty).map (·.size) = some new.length) (h1 : ∀ u ∈ new, u.oneCell' = true)
    (h : ∀ w', w'.heap[g]? = some (.cells (A ++ new ++ C).toArray T (0, 0)) → w.grownBy w' (some g) → K (a.put op.dst undef) w') : op.wp P a w K Q := by
  unfold Oper.wp execOp
  simp only [ho, hx, hy, Instr.storeAt, Instr.sureAddr, Sem.run_bind, Sem.run_pure, Result.andThen_ok, run_store_part ty g o A old C new T v hv hA hlen hg hi h1]
  exact h _ (setRow_heap _ _ _ _ _ _ hg) (setRow_grown _)
theorem wpList_store_part {ops : Array Oper} {rest : List Oper} {op : Oper} {a : Act} {w : World} {Q : Exit → Act → World → Prop} (hgd : op.guard = none) (ty : TypeId) (x y : Operand) (ho : op.op = .store ty x y)
    (g o : Nat) (A old C new : List Value) (T : TypeId) (v : Value) (hx : a.eval x = .pointer (some ⟨g, o, none⟩)) (hy : a.eval y = v) (hv : v.cells = new.toArray) (hA : A.length = o) (hlen : old.length = new.length)
    (hg : w.heap[g]? = some (.cells (A ++ old ++ C).toArray T (0, 0))) (hi : (P.info? ty).map (·.size) = some new.length) (h1 : ∀ u ∈ new, u.oneCell' = true)
    (h : ∀ w', w'.heap[g]? = some (.cells (A ++ new ++ C).toArray T (0, 0)) → w.grownBy w' (some g) → wpList P ops Q rest (a.put op.dst undef) w') : wpList P ops Q (op :: rest) a w :=
  wpList_plain hgd fun _ hK => wp_store_part ty x y ho g o A old C new T v hx hy hv hA hlen hg hi h1 (fun w' a1 a2 => hK _ _ (h w' a1 a2))
end
theorem row_far {w w' : World} {g : Nat} {q : Option Nat} {o : Obj} (h : w.heap[g]? = some o) (hg : w.grownBy w' q) (hq : q ≠ some g) : w'.heap[g]? = some o := by
  rw [hg.block g (Array.getElem?_eq_some_iff.1 h).1 (fun e => hq e.symm)]
  exact h
section
variable {P : Program}
theorem wp_store_whole {op : Oper} {a : Act} {w : World} {K : Act → World → Prop} {Q : Exit → Act → World → Prop} (ty : TypeId) (x y : Operand) (ho : op.op = .store ty x y)
    (g : Nat) (old new : List Value) (T : TypeId) (hx : a.eval x = .pointer (some ⟨g, 0, none⟩)) (hy : a.eval y = .agg new.toArray) (hlen : old.length = new.length) (hrow : w.heap[g]? = some (.cells old.toArray T (0, 0)))
    (hi : (P.info? ty).map (·.size) = some new.length) (h1 : new.toArray.all (·.oneCell') = true)
    (h : ∀ w', w'.heap[g]? = some (.cells new.toArray T (0, 0)) → w.grownBy w' (some g) → K (a.put op.dst undef) w') : op.wp P a w K Q :=
  wp_store_row ty x y ho g new.toArray hx hy T old.toArray hrow (by simpa using hi) (by simpa using hlen) h1 (h _ (setRow_heap _ _ _ _ _ _ hrow) (setRow_grown _))
end
/-- Two boxes. -/
theorem boxes_two (w : World) (x y : Array Value) (T : TypeId) :
    Below w.heap.size w ((w.alloc (.cells x T (0, 0))).alloc (.cells y T (0, 0)))
    ∧ ((w.alloc (.cells x T (0, 0))).alloc (.cells y T (0, 0))).heap[w.heap.size]? = some (.cells x T (0, 0))
    ∧ ((w.alloc (.cells x T (0, 0))).alloc (.cells y T (0, 0))).heap[w.heap.size + 1]? = some (.cells y T (0, 0)) := by
  refine ⟨((Below.refl _ _).alloc (Nat.le_refl _) _).alloc (by simp) _, ?_, ?_⟩
  · have h1 := heap_alloc_new w (.cells x T (0, 0))
    exact row_below h1 ((Below.refl _ _).alloc (Nat.le_refl _) (.cells y T (0, 0)))
  · have h1 := heap_alloc_new (w.alloc (.cells x T (0, 0))) (.cells y T (0, 0))
    rw [World.size_alloc] at h1
    exact h1
end Go.Proofs.YtlpdgjneoahdeaaDoor.Sha

/-
  A chain's rules as nine numbers; whether they may be. No conditions.
-/
namespace Go.Proofs.YtlpdgjneoahdeaaDoor.Sha
open Go Go.RowKit
structure TRu where
  hal : Int
  mat : Int
  pool : Int
  redo : Int
  log : Int
  anc : Int
  ancB : Int
  des : Int
  desB : Int
def ruL (r : TRu) : List Value := [.int .i64 r.hal, .int .i64 r.mat, .int .i64 r.pool, .int .i64 r.redo, .int .i64 r.log, .int .i64 r.anc, .int .i64 r.ancB, .int .i64 r.des, .int .i64 r.desB]
def okI (n lo hi : Int) : Bool := decide (lo ≤ n) && decide (n ≤ hi)
def ruT (r : TRu) : List (Int × Int × Int) := [(r.hal, 1, 1048576), (r.mat, 0, 1000), (r.pool, 1, 16777216), (r.redo, 1, 16777216), (r.log, 1, 65536), (r.anc, 1, 1000), (r.ancB, 1, 16777216), (r.des, 1, 1000), (r.desB, 1, 16777216)]
def rulesB (r : TRu) : Bool := okI r.hal 1 1048576 && okI r.mat 0 1000 && okI r.pool 1 16777216 && okI r.redo 1 16777216 && okI r.log 1 65536 && okI r.anc 1 1000 && okI r.des 1 1000 && okI r.ancB 1 16777216 && okI r.desB 1 16777216
def RuOk (r : TRu) : Prop := (-9223372036854775808 ≤ r.hal ∧ r.hal ≤ 9223372036854775807) ∧ (-9223372036854775808 ≤ r.mat ∧ r.mat ≤ 9223372036854775807) ∧ (-9223372036854775808 ≤ r.pool ∧ r.pool ≤ 9223372036854775807) ∧ (-9223372036854775808 ≤ r.redo ∧ r.redo ≤ 9223372036854775807) ∧ (-9223372036854775808 ≤ r.log ∧ r.log ≤ 9223372036854775807) ∧ (-9223372036854775808 ≤ r.anc ∧ r.anc ≤ 9223372036854775807) ∧ (-9223372036854775808 ≤ r.ancB ∧ r.ancB ≤ 9223372036854775807) ∧ (-9223372036854775808 ≤ r.des ∧ r.des ≤ 9223372036854775807) ∧ (-9223372036854775808 ≤ r.desB ∧ r.desB ≤ 9223372036854775807)
theorem rulesB_all (r : TRu) : rulesB r = (ruT r).all fun e => okI e.1 e.2.1 e.2.2 := by
  simp only [rulesB, ruT, List.all_cons, List.all_nil, Bool.and_true, Bool.and_assoc]
  congr 6
  rw [← Bool.and_assoc, ← Bool.and_assoc]
  congr 1
  exact Bool.and_comm _ _
theorem ruL_all (r : TRu) : (ruL r).toArray.all (·.oneCell') = true := by kernel_rfl
theorem ruL_size (r : TRu) : (ruL r).toArray.size = 9 := rfl
end Go.Proofs.YtlpdgjneoahdeaaDoor.Sha

/-
  Rules that may be, of a number, as the statements' own make them. Nothing that was there turns. Condition: a number that an int holds.
-/
namespace Go.Proofs.YtlpdgjneoahdeaaDoor.Sha
open Go Go.RowKit
def ruN : Nat → TRu
  | 1 => ⟨5, 0, 700, 2000, 200, 5, 2000, 5, 2000⟩
  | 2 => ⟨5, 2, 3000, 300, 4, 5, 2000, 5, 2000⟩
  | 3 => ⟨5, 1, 3000, 2000, 200, 2, 2000, 3, 2000⟩
  | 4 => ⟨5, 1, 3000, 2000, 200, 5, 400, 5, 500⟩
  | 5 => ⟨5, 0, 1048576, 1048576, 200, 50, 1048576, 50, 1048576⟩
  | _ => ⟨5, 1, 3000, 2000, 200, 5, 2000, 5, 2000⟩
set_option maxHeartbeats 1000000 in
set_option maxRecDepth 100000 in
theorem mkrules_0 (n : Int) (hk : numb n 6 = 0) (hn : -9223372036854775808 ≤ n ∧ n ≤ 9223372036854775807) (w : World) :
    Calls Tryd.prog 20 #[.int .i64 n] w fun e w' => e = .returned (.agg (ruL (ruN 0)).toArray) ∧ Below w.heap.size w w' := by
  have NB : Hid (∀ W, Calls Tryd.prog 18 #[.int .i64 n, .int .i64 6] W fun e w' => e = .returned (.int .i64 0) ∧ W = w') := fun W => (numb_any n 6 (by omega) (by omega) hn W).mono (by rw [hk]; exact fun _ _ h => h)
  go_enter Tryd.func20, Tryd.ntmps20
  go_upto_region 2 with fail
  obtain ⟨b, f2, f3⟩ := boxes_two w #[.int .i64 0, .int .i64 0, .int .i64 0, .int .i64 0, .int .i64 0, .int .i64 0, .int .i64 0, .int .i64 0, .int .i64 0] ([.int .i64 5, .int .i64 1, .int .i64 3000, .int .i64 2000, .int .i64 200, .int .i64 5, .int .i64 2000, .int .i64 5, .int .i64 2000] : List Value).toArray 34
  generalize hq : World.alloc _ _ = w1
  have e1 : (w.alloc (.cells #[.int .i64 0, .int .i64 0, .int .i64 0, .int .i64 0, .int .i64 0, .int .i64 0, .int .i64 0, .int .i64 0, .int .i64 0] 34 (0, 0))).alloc (.cells ([.int .i64 5, .int .i64 1, .int .i64 3000, .int .i64 2000, .int .i64 200, .int .i64 5, .int .i64 2000, .int .i64 5, .int .i64 2000] : List Value).toArray 34 (0, 0)) = w1 := hq
  rw [e1] at b f2 f3
  obtain ⟨g2, hg2⟩ : ∃ g2, g2 = w.heap.size := ⟨_, rfl⟩
  obtain ⟨g3, hg3⟩ : ∃ g3, g3 = w.heap.size + 1 := ⟨_, rfl⟩
  rw [← hg3] at f3
  rw [← hg2] at f2
  rw [← hg3, ← hg2]
  have F2 := Lib.hid f2
  have F3 := Lib.hid f3
  have BB := Lib.hid b
  have G : Hid (w.heap.size ≤ g2 ∧ g2 < g3) := ⟨by omega, by omega⟩
  clear b f2 f3 hq e1 hg2 hg3
  go_wp2_with fail
  refine (NB.out _).mono ?_
  rintro e wx ⟨rfl, rfl⟩
  clear NB
  go_wp2_with ((with_reducible show wpList _ _ _ _ _ _); first | (refine wpList_load_row rfl 34 (.tmp 3) rfl g3 rfl 34 ([.int .i64 5, .int .i64 1, .int .i64 3000, .int .i64 2000, .int .i64 200, .int .i64 5, .int .i64 2000, .int .i64 5, .int .i64 2000] : List Value).toArray (0, 0) _ F3.out Tryd.underlying34 rfl (by kernel_rfl) ?_; go_frame) | (refine wpList_store_row rfl 34 (.tmp 2) (.tmp 33) rfl g2 ([.int .i64 5, .int .i64 1, .int .i64 3000, .int .i64 2000, .int .i64 200, .int .i64 5, .int .i64 2000, .int .i64 5, .int .i64 2000] : List Value).toArray rfl rfl 34 _ F2.out (by kernel_rfl) rfl (by kernel_rfl) ?_; go_frame))
  refine bodyPost_ret (results_cell_row rfl _ _ g2 34 ([.int .i64 5, .int .i64 1, .int .i64 3000, .int .i64 2000, .int .i64 200, .int .i64 5, .int .i64 2000, .int .i64 5, .int .i64 2000] : List Value).toArray (0, 0) _ rfl (setRow_heap _ _ _ _ _ _ F2.out) Tryd.underlying34 rfl (by kernel_rfl)) rfl ?_
  exact ⟨rfl, below_setRow BB.out G.out.1 _⟩
set_option maxHeartbeats 1000000 in
set_option maxRecDepth 100000 in
theorem mkrules_1 (n : Int) (hk : numb n 6 = 1) (hn : -9223372036854775808 ≤ n ∧ n ≤ 9223372036854775807) (w : World) :
    Calls Tryd.prog 20 #[.int .i64 n] w fun e w' => e = .returned (.agg (ruL (ruN 1)).toArray) ∧ Below w.heap.size w w' := by
  have NB : Hid (∀ W, Calls Tryd.prog 18 #[.int .i64 n, .int .i64 6] W fun e w' => e = .returned (.int .i64 1) ∧ W = w') := fun W => (numb_any n 6 (by omega) (by omega) hn W).mono (by rw [hk]; exact fun _ _ h => h)
  go_enter Tryd.func20, Tryd.ntmps20
  go_upto_region 2 with fail
  obtain ⟨b, f2, f3⟩ := boxes_two w #[.int .i64 0, .int .i64 0, .int .i64 0, .int .i64 0, .int .i64 0, .int .i64 0, .int .i64 0, .int .i64 0, .int .i64 0] ([.int .i64 5, .int .i64 1, .int .i64 3000, .int .i64 2000, .int .i64 200, .int .i64 5, .int .i64 2000, .int .i64 5, .int .i64 2000] : List Value).toArray 34
  generalize hq : World.alloc _ _ = w1
  have e1 : (w.alloc (.cells #[.int .i64 0, .int .i64 0, .int .i64 0, .int .i64 0, .int .i64 0, .int .i64 0, .int .i64 0, .int .i64 0, .int .i64 0] 34 (0, 0))).alloc (.cells ([.int .i64 5, .int .i64 1, .int .i64 3000, .int .i64 2000, .int .i64 200, .int .i64 5, .int .i64 2000, .int .i64 5, .int .i64 2000] : List Value).toArray 34 (0, 0)) = w1 := hq
  rw [e1] at b f2 f3
  obtain ⟨g2, hg2⟩ : ∃ g2, g2 = w.heap.size := ⟨_, rfl⟩
  obtain ⟨g3, hg3⟩ : ∃ g3, g3 = w.heap.size + 1 := ⟨_, rfl⟩
  rw [← hg3] at f3
  rw [← hg2] at f2
  rw [← hg3, ← hg2]
  have F2 := Lib.hid f2
  have F3 := Lib.hid f3
  have BB := Lib.hid b
  have G : Hid (w.heap.size ≤ g2 ∧ g2 < g3) := ⟨by omega, by omega⟩
  clear b f2 f3 hq e1 hg2 hg3
  go_wp2_with fail
  refine (NB.out _).mono ?_
  rintro e wx ⟨rfl, rfl⟩
  clear NB
  go_upto_region 5 with ((with_reducible show wpList _ _ _ _ _ _); (refine wpList_store_part rfl 3 (.tmp 9) (.const (.int .i64 0)) rfl g3 1 [.int .i64 5] [.int .i64 1] [.int .i64 3000, .int .i64 2000, .int .i64 200, .int .i64 5, .int .i64 2000, .int .i64 5, .int .i64 2000] [.int .i64 0] 34 (.int .i64 0) rfl rfl rfl rfl rfl F3.out (by kernel_rfl) (fun u hu => by obtain rfl := List.mem_singleton.1 hu; rfl) ?_; intro v0 q1 q2; have F3 : Hid (v0.heap[g3]? = some (.cells ([.int .i64 5, .int .i64 0, .int .i64 3000, .int .i64 2000, .int .i64 200, .int .i64 5, .int .i64 2000, .int .i64 5, .int .i64 2000] : List Value).toArray 34 (0, 0))) := q1; have F2 := Lib.hid (row_far F2.out q2 (by intro h; have := Option.some.inj h; have := G.out; omega)); have BB := Lib.hid (grownBy_below q2 BB.out (by have := G.out; omega) BB.out.size); clear q1 q2; go_frame))
  go_upto_region 24 with ((with_reducible show wpList _ _ _ _ _ _); (refine wpList_store_part rfl 3 (.tmp 10) (.const (.int .i64 700)) rfl g3 2 [.int .i64 5, .int .i64 0] [.int .i64 3000] [.int .i64 2000, .int .i64 200, .int .i64 5, .int .i64 2000, .int .i64 5, .int .i64 2000] [.int .i64 700] 34 (.int .i64 700) rfl rfl rfl rfl rfl F3.out (by kernel_rfl) (fun u hu => by obtain rfl := List.mem_singleton.1 hu; rfl) ?_; intro v1 q1 q2; have F3 : Hid (v1.heap[g3]? = some (.cells ([.int .i64 5, .int .i64 0, .int .i64 700, .int .i64 2000, .int .i64 200, .int .i64 5, .int .i64 2000, .int .i64 5, .int .i64 2000] : List Value).toArray 34 (0, 0))) := q1; have F2 := Lib.hid (row_far F2.out q2 (by intro h; have := Option.some.inj h; have := G.out; omega)); have BB := Lib.hid (grownBy_below q2 BB.out (by have := G.out; omega) BB.out.size); clear q1 q2; go_frame))
  go_wp2_with ((with_reducible show wpList _ _ _ _ _ _); first | (refine wpList_load_row rfl 34 (.tmp 3) rfl g3 rfl 34 ([.int .i64 5, .int .i64 0, .int .i64 700, .int .i64 2000, .int .i64 200, .int .i64 5, .int .i64 2000, .int .i64 5, .int .i64 2000] : List Value).toArray (0, 0) _ F3.out Tryd.underlying34 rfl (by kernel_rfl) ?_; go_frame) | (refine wpList_store_row rfl 34 (.tmp 2) (.tmp 33) rfl g2 ([.int .i64 5, .int .i64 0, .int .i64 700, .int .i64 2000, .int .i64 200, .int .i64 5, .int .i64 2000, .int .i64 5, .int .i64 2000] : List Value).toArray rfl rfl 34 _ F2.out (by kernel_rfl) rfl (by kernel_rfl) ?_; go_frame))
  refine bodyPost_ret (results_cell_row rfl _ _ g2 34 ([.int .i64 5, .int .i64 0, .int .i64 700, .int .i64 2000, .int .i64 200, .int .i64 5, .int .i64 2000, .int .i64 5, .int .i64 2000] : List Value).toArray (0, 0) _ rfl (setRow_heap _ _ _ _ _ _ F2.out) Tryd.underlying34 rfl (by kernel_rfl)) rfl ?_
  exact ⟨rfl, below_setRow BB.out G.out.1 _⟩
set_option maxHeartbeats 1000000 in
set_option maxRecDepth 100000 in
theorem mkrules_2 (n : Int) (hk : numb n 6 = 2) (hn : -9223372036854775808 ≤ n ∧ n ≤ 9223372036854775807) (w : World) :
    Calls Tryd.prog 20 #[.int .i64 n] w fun e w' => e = .returned (.agg (ruL (ruN 2)).toArray) ∧ Below w.heap.size w w' := by
  have NB : Hid (∀ W, Calls Tryd.prog 18 #[.int .i64 n, .int .i64 6] W fun e w' => e = .returned (.int .i64 2) ∧ W = w') := fun W => (numb_any n 6 (by omega) (by omega) hn W).mono (by rw [hk]; exact fun _ _ h => h)
  go_enter Tryd.func20, Tryd.ntmps20
  go_upto_region 2 with fail
  obtain ⟨b, f2, f3⟩ := boxes_two w #[.int .i64 0, .int .i64 0, .int .i64 0, .int .i64 0, .int .i64 0, .int .i64 0, .int .i64 0, .int .i64 0, .int .i64 0] ([.int .i64 5, .int .i64 1, .int .i64 3000, .int .i64 2000, .int .i64 200, .int .i64 5, .int .i64 2000, .int .i64 5, .int .i64 2000] : List Value).toArray 34
  generalize hq : World.alloc _ _ = w1
  have e1 : (w.alloc (.cells #[.int .i64 0, .int .i64 0, .int .i64 0, .int .i64 0, .int .i64 0, .int .i64 0, .int .i64 0, .int .i64 0, .int .i64 0] 34 (0, 0))).alloc (.cells ([.int .i64 5, .int .i64 1, .int .i64 3000, .int .i64 2000, .int .i64 200, .int .i64 5, .int .i64 2000, .int .i64 5, .int .i64 2000] : List Value).toArray 34 (0, 0)) = w1 := hq
  rw [e1] at b f2 f3
  obtain ⟨g2, hg2⟩ : ∃ g2, g2 = w.heap.size := ⟨_, rfl⟩
  obtain ⟨g3, hg3⟩ : ∃ g3, g3 = w.heap.size + 1 := ⟨_, rfl⟩
  rw [← hg3] at f3
  rw [← hg2] at f2
  rw [← hg3, ← hg2]
  have F2 := Lib.hid f2
  have F3 := Lib.hid f3
  have BB := Lib.hid b
  have G : Hid (w.heap.size ≤ g2 ∧ g2 < g3) := ⟨by omega, by omega⟩
  clear b f2 f3 hq e1 hg2 hg3
  go_wp2_with fail
  refine (NB.out _).mono ?_
  rintro e wx ⟨rfl, rfl⟩
  clear NB
  go_upto_region 8 with ((with_reducible show wpList _ _ _ _ _ _); (refine wpList_store_part rfl 3 (.tmp 13) (.const (.int .i64 2)) rfl g3 1 [.int .i64 5] [.int .i64 1] [.int .i64 3000, .int .i64 2000, .int .i64 200, .int .i64 5, .int .i64 2000, .int .i64 5, .int .i64 2000] [.int .i64 2] 34 (.int .i64 2) rfl rfl rfl rfl rfl F3.out (by kernel_rfl) (fun u hu => by obtain rfl := List.mem_singleton.1 hu; rfl) ?_; intro v0 q1 q2; have F3 : Hid (v0.heap[g3]? = some (.cells ([.int .i64 5, .int .i64 2, .int .i64 3000, .int .i64 2000, .int .i64 200, .int .i64 5, .int .i64 2000, .int .i64 5, .int .i64 2000] : List Value).toArray 34 (0, 0))) := q1; have F2 := Lib.hid (row_far F2.out q2 (by intro h; have := Option.some.inj h; have := G.out; omega)); have BB := Lib.hid (grownBy_below q2 BB.out (by have := G.out; omega) BB.out.size); clear q1 q2; go_frame))
  go_upto_region 9 with ((with_reducible show wpList _ _ _ _ _ _); (refine wpList_store_part rfl 3 (.tmp 14) (.const (.int .i64 300)) rfl g3 3 [.int .i64 5, .int .i64 2, .int .i64 3000] [.int .i64 2000] [.int .i64 200, .int .i64 5, .int .i64 2000, .int .i64 5, .int .i64 2000] [.int .i64 300] 34 (.int .i64 300) rfl rfl rfl rfl rfl F3.out (by kernel_rfl) (fun u hu => by obtain rfl := List.mem_singleton.1 hu; rfl) ?_; intro v1 q1 q2; have F3 : Hid (v1.heap[g3]? = some (.cells ([.int .i64 5, .int .i64 2, .int .i64 3000, .int .i64 300, .int .i64 200, .int .i64 5, .int .i64 2000, .int .i64 5, .int .i64 2000] : List Value).toArray 34 (0, 0))) := q1; have F2 := Lib.hid (row_far F2.out q2 (by intro h; have := Option.some.inj h; have := G.out; omega)); have BB := Lib.hid (grownBy_below q2 BB.out (by have := G.out; omega) BB.out.size); clear q1 q2; go_frame))
  go_upto_region 24 with ((with_reducible show wpList _ _ _ _ _ _); (refine wpList_store_part rfl 3 (.tmp 15) (.const (.int .i64 4)) rfl g3 4 [.int .i64 5, .int .i64 2, .int .i64 3000, .int .i64 300] [.int .i64 200] [.int .i64 5, .int .i64 2000, .int .i64 5, .int .i64 2000] [.int .i64 4] 34 (.int .i64 4) rfl rfl rfl rfl rfl F3.out (by kernel_rfl) (fun u hu => by obtain rfl := List.mem_singleton.1 hu; rfl) ?_; intro v2 q1 q2; have F3 : Hid (v2.heap[g3]? = some (.cells ([.int .i64 5, .int .i64 2, .int .i64 3000, .int .i64 300, .int .i64 4, .int .i64 5, .int .i64 2000, .int .i64 5, .int .i64 2000] : List Value).toArray 34 (0, 0))) := q1; have F2 := Lib.hid (row_far F2.out q2 (by intro h; have := Option.some.inj h; have := G.out; omega)); have BB := Lib.hid (grownBy_below q2 BB.out (by have := G.out; omega) BB.out.size); clear q1 q2; go_frame))
  go_wp2_with ((with_reducible show wpList _ _ _ _ _ _); first | (refine wpList_load_row rfl 34 (.tmp 3) rfl g3 rfl 34 ([.int .i64 5, .int .i64 2, .int .i64 3000, .int .i64 300, .int .i64 4, .int .i64 5, .int .i64 2000, .int .i64 5, .int .i64 2000] : List Value).toArray (0, 0) _ F3.out Tryd.underlying34 rfl (by kernel_rfl) ?_; go_frame) | (refine wpList_store_row rfl 34 (.tmp 2) (.tmp 33) rfl g2 ([.int .i64 5, .int .i64 2, .int .i64 3000, .int .i64 300, .int .i64 4, .int .i64 5, .int .i64 2000, .int .i64 5, .int .i64 2000] : List Value).toArray rfl rfl 34 _ F2.out (by kernel_rfl) rfl (by kernel_rfl) ?_; go_frame))
  refine bodyPost_ret (results_cell_row rfl _ _ g2 34 ([.int .i64 5, .int .i64 2, .int .i64 3000, .int .i64 300, .int .i64 4, .int .i64 5, .int .i64 2000, .int .i64 5, .int .i64 2000] : List Value).toArray (0, 0) _ rfl (setRow_heap _ _ _ _ _ _ F2.out) Tryd.underlying34 rfl (by kernel_rfl)) rfl ?_
  exact ⟨rfl, below_setRow BB.out G.out.1 _⟩
set_option maxHeartbeats 1000000 in
set_option maxRecDepth 100000 in
theorem mkrules_3 (n : Int) (hk : numb n 6 = 3) (hn : -9223372036854775808 ≤ n ∧ n ≤ 9223372036854775807) (w : World) :
    Calls Tryd.prog 20 #[.int .i64 n] w fun e w' => e = .returned (.agg (ruL (ruN 3)).toArray) ∧ Below w.heap.size w w' := by
  have NB : Hid (∀ W, Calls Tryd.prog 18 #[.int .i64 n, .int .i64 6] W fun e w' => e = .returned (.int .i64 3) ∧ W = w') := fun W => (numb_any n 6 (by omega) (by omega) hn W).mono (by rw [hk]; exact fun _ _ h => h)
  go_enter Tryd.func20, Tryd.ntmps20
  go_upto_region 2 with fail
  obtain ⟨b, f2, f3⟩ := boxes_two w #[.int .i64 0, .int .i64 0, .int .i64 0, .int .i64 0, .int .i64 0, .int .i64 0, .int .i64 0, .int .i64 0, .int .i64 0] ([.int .i64 5, .int .i64 1, .int .i64 3000, .int .i64 2000, .int .i64 200, .int .i64 5, .int .i64 2000, .int .i64 5, .int .i64 2000] : List Value).toArray 34
  generalize hq : World.alloc _ _ = w1
  have e1 : (w.alloc (.cells #[.int .i64 0, .int .i64 0, .int .i64 0, .int .i64 0, .int .i64 0, .int .i64 0, .int .i64 0, .int .i64 0, .int .i64 0] 34 (0, 0))).alloc (.cells ([.int .i64 5, .int .i64 1, .int .i64 3000, .int .i64 2000, .int .i64 200, .int .i64 5, .int .i64 2000, .int .i64 5, .int .i64 2000] : List Value).toArray 34 (0, 0)) = w1 := hq
  rw [e1] at b f2 f3
  obtain ⟨g2, hg2⟩ : ∃ g2, g2 = w.heap.size := ⟨_, rfl⟩
  obtain ⟨g3, hg3⟩ : ∃ g3, g3 = w.heap.size + 1 := ⟨_, rfl⟩
  rw [← hg3] at f3
  rw [← hg2] at f2
  rw [← hg3, ← hg2]
  have F2 := Lib.hid f2
  have F3 := Lib.hid f3
  have BB := Lib.hid b
  have G : Hid (w.heap.size ≤ g2 ∧ g2 < g3) := ⟨by omega, by omega⟩
  clear b f2 f3 hq e1 hg2 hg3
  go_wp2_with fail
  refine (NB.out _).mono ?_
  rintro e wx ⟨rfl, rfl⟩
  clear NB
  go_upto_region 12 with ((with_reducible show wpList _ _ _ _ _ _); (refine wpList_store_part rfl 3 (.tmp 18) (.const (.int .i64 2)) rfl g3 5 [.int .i64 5, .int .i64 1, .int .i64 3000, .int .i64 2000, .int .i64 200] [.int .i64 5] [.int .i64 2000, .int .i64 5, .int .i64 2000] [.int .i64 2] 34 (.int .i64 2) rfl rfl rfl rfl rfl F3.out (by kernel_rfl) (fun u hu => by obtain rfl := List.mem_singleton.1 hu; rfl) ?_; intro v0 q1 q2; have F3 : Hid (v0.heap[g3]? = some (.cells ([.int .i64 5, .int .i64 1, .int .i64 3000, .int .i64 2000, .int .i64 200, .int .i64 2, .int .i64 2000, .int .i64 5, .int .i64 2000] : List Value).toArray 34 (0, 0))) := q1; have F2 := Lib.hid (row_far F2.out q2 (by intro h; have := Option.some.inj h; have := G.out; omega)); have BB := Lib.hid (grownBy_below q2 BB.out (by have := G.out; omega) BB.out.size); clear q1 q2; go_frame))
  go_upto_region 24 with ((with_reducible show wpList _ _ _ _ _ _); (refine wpList_store_part rfl 3 (.tmp 19) (.const (.int .i64 3)) rfl g3 7 [.int .i64 5, .int .i64 1, .int .i64 3000, .int .i64 2000, .int .i64 200, .int .i64 2, .int .i64 2000] [.int .i64 5] [.int .i64 2000] [.int .i64 3] 34 (.int .i64 3) rfl rfl rfl rfl rfl F3.out (by kernel_rfl) (fun u hu => by obtain rfl := List.mem_singleton.1 hu; rfl) ?_; intro v1 q1 q2; have F3 : Hid (v1.heap[g3]? = some (.cells ([.int .i64 5, .int .i64 1, .int .i64 3000, .int .i64 2000, .int .i64 200, .int .i64 2, .int .i64 2000, .int .i64 3, .int .i64 2000] : List Value).toArray 34 (0, 0))) := q1; have F2 := Lib.hid (row_far F2.out q2 (by intro h; have := Option.some.inj h; have := G.out; omega)); have BB := Lib.hid (grownBy_below q2 BB.out (by have := G.out; omega) BB.out.size); clear q1 q2; go_frame))
  go_wp2_with ((with_reducible show wpList _ _ _ _ _ _); first | (refine wpList_load_row rfl 34 (.tmp 3) rfl g3 rfl 34 ([.int .i64 5, .int .i64 1, .int .i64 3000, .int .i64 2000, .int .i64 200, .int .i64 2, .int .i64 2000, .int .i64 3, .int .i64 2000] : List Value).toArray (0, 0) _ F3.out Tryd.underlying34 rfl (by kernel_rfl) ?_; go_frame) | (refine wpList_store_row rfl 34 (.tmp 2) (.tmp 33) rfl g2 ([.int .i64 5, .int .i64 1, .int .i64 3000, .int .i64 2000, .int .i64 200, .int .i64 2, .int .i64 2000, .int .i64 3, .int .i64 2000] : List Value).toArray rfl rfl 34 _ F2.out (by kernel_rfl) rfl (by kernel_rfl) ?_; go_frame))
  refine bodyPost_ret (results_cell_row rfl _ _ g2 34 ([.int .i64 5, .int .i64 1, .int .i64 3000, .int .i64 2000, .int .i64 200, .int .i64 2, .int .i64 2000, .int .i64 3, .int .i64 2000] : List Value).toArray (0, 0) _ rfl (setRow_heap _ _ _ _ _ _ F2.out) Tryd.underlying34 rfl (by kernel_rfl)) rfl ?_
  exact ⟨rfl, below_setRow BB.out G.out.1 _⟩
set_option maxHeartbeats 1000000 in
set_option maxRecDepth 100000 in
theorem mkrules_4 (n : Int) (hk : numb n 6 = 4) (hn : -9223372036854775808 ≤ n ∧ n ≤ 9223372036854775807) (w : World) :
    Calls Tryd.prog 20 #[.int .i64 n] w fun e w' => e = .returned (.agg (ruL (ruN 4)).toArray) ∧ Below w.heap.size w w' := by
  have NB : Hid (∀ W, Calls Tryd.prog 18 #[.int .i64 n, .int .i64 6] W fun e w' => e = .returned (.int .i64 4) ∧ W = w') := fun W => (numb_any n 6 (by omega) (by omega) hn W).mono (by rw [hk]; exact fun _ _ h => h)
  go_enter Tryd.func20, Tryd.ntmps20
  go_upto_region 2 with fail
  obtain ⟨b, f2, f3⟩ := boxes_two w #[.int .i64 0, .int .i64 0, .int .i64 0, .int .i64 0, .int .i64 0, .int .i64 0, .int .i64 0, .int .i64 0, .int .i64 0] ([.int .i64 5, .int .i64 1, .int .i64 3000, .int .i64 2000, .int .i64 200, .int .i64 5, .int .i64 2000, .int .i64 5, .int .i64 2000] : List Value).toArray 34
  generalize hq : World.alloc _ _ = w1
  have e1 : (w.alloc (.cells #[.int .i64 0, .int .i64 0, .int .i64 0, .int .i64 0, .int .i64 0, .int .i64 0, .int .i64 0, .int .i64 0, .int .i64 0] 34 (0, 0))).alloc (.cells ([.int .i64 5, .int .i64 1, .int .i64 3000, .int .i64 2000, .int .i64 200, .int .i64 5, .int .i64 2000, .int .i64 5, .int .i64 2000] : List Value).toArray 34 (0, 0)) = w1 := hq
  rw [e1] at b f2 f3
  obtain ⟨g2, hg2⟩ : ∃ g2, g2 = w.heap.size := ⟨_, rfl⟩
  obtain ⟨g3, hg3⟩ : ∃ g3, g3 = w.heap.size + 1 := ⟨_, rfl⟩
  rw [← hg3] at f3
  rw [← hg2] at f2
  rw [← hg3, ← hg2]
  have F2 := Lib.hid f2
  have F3 := Lib.hid f3
  have BB := Lib.hid b
  have G : Hid (w.heap.size ≤ g2 ∧ g2 < g3) := ⟨by omega, by omega⟩
  clear b f2 f3 hq e1 hg2 hg3
  go_wp2_with fail
  refine (NB.out _).mono ?_
  rintro e wx ⟨rfl, rfl⟩
  clear NB
  go_upto_region 15 with ((with_reducible show wpList _ _ _ _ _ _); (refine wpList_store_part rfl 3 (.tmp 22) (.const (.int .i64 400)) rfl g3 6 [.int .i64 5, .int .i64 1, .int .i64 3000, .int .i64 2000, .int .i64 200, .int .i64 5] [.int .i64 2000] [.int .i64 5, .int .i64 2000] [.int .i64 400] 34 (.int .i64 400) rfl rfl rfl rfl rfl F3.out (by kernel_rfl) (fun u hu => by obtain rfl := List.mem_singleton.1 hu; rfl) ?_; intro v0 q1 q2; have F3 : Hid (v0.heap[g3]? = some (.cells ([.int .i64 5, .int .i64 1, .int .i64 3000, .int .i64 2000, .int .i64 200, .int .i64 5, .int .i64 400, .int .i64 5, .int .i64 2000] : List Value).toArray 34 (0, 0))) := q1; have F2 := Lib.hid (row_far F2.out q2 (by intro h; have := Option.some.inj h; have := G.out; omega)); have BB := Lib.hid (grownBy_below q2 BB.out (by have := G.out; omega) BB.out.size); clear q1 q2; go_frame))
  go_upto_region 24 with ((with_reducible show wpList _ _ _ _ _ _); (refine wpList_store_part rfl 3 (.tmp 23) (.const (.int .i64 500)) rfl g3 8 [.int .i64 5, .int .i64 1, .int .i64 3000, .int .i64 2000, .int .i64 200, .int .i64 5, .int .i64 400, .int .i64 5] [.int .i64 2000] [] [.int .i64 500] 34 (.int .i64 500) rfl rfl rfl rfl rfl F3.out (by kernel_rfl) (fun u hu => by obtain rfl := List.mem_singleton.1 hu; rfl) ?_; intro v1 q1 q2; have F3 : Hid (v1.heap[g3]? = some (.cells ([.int .i64 5, .int .i64 1, .int .i64 3000, .int .i64 2000, .int .i64 200, .int .i64 5, .int .i64 400, .int .i64 5, .int .i64 500] : List Value).toArray 34 (0, 0))) := q1; have F2 := Lib.hid (row_far F2.out q2 (by intro h; have := Option.some.inj h; have := G.out; omega)); have BB := Lib.hid (grownBy_below q2 BB.out (by have := G.out; omega) BB.out.size); clear q1 q2; go_frame))
  go_wp2_with ((with_reducible show wpList _ _ _ _ _ _); first | (refine wpList_load_row rfl 34 (.tmp 3) rfl g3 rfl 34 ([.int .i64 5, .int .i64 1, .int .i64 3000, .int .i64 2000, .int .i64 200, .int .i64 5, .int .i64 400, .int .i64 5, .int .i64 500] : List Value).toArray (0, 0) _ F3.out Tryd.underlying34 rfl (by kernel_rfl) ?_; go_frame) | (refine wpList_store_row rfl 34 (.tmp 2) (.tmp 33) rfl g2 ([.int .i64 5, .int .i64 1, .int .i64 3000, .int .i64 2000, .int .i64 200, .int .i64 5, .int .i64 400, .int .i64 5, .int .i64 500] : List Value).toArray rfl rfl 34 _ F2.out (by kernel_rfl) rfl (by kernel_rfl) ?_; go_frame))
  refine bodyPost_ret (results_cell_row rfl _ _ g2 34 ([.int .i64 5, .int .i64 1, .int .i64 3000, .int .i64 2000, .int .i64 200, .int .i64 5, .int .i64 400, .int .i64 5, .int .i64 500] : List Value).toArray (0, 0) _ rfl (setRow_heap _ _ _ _ _ _ F2.out) Tryd.underlying34 rfl (by kernel_rfl)) rfl ?_
  exact ⟨rfl, below_setRow BB.out G.out.1 _⟩
set_option maxHeartbeats 1000000 in
set_option maxRecDepth 100000 in
theorem mkrules_5 (n : Int) (hk : numb n 6 = 5) (hn : -9223372036854775808 ≤ n ∧ n ≤ 9223372036854775807) (w : World) :
    Calls Tryd.prog 20 #[.int .i64 n] w fun e w' => e = .returned (.agg (ruL (ruN 5)).toArray) ∧ Below w.heap.size w w' := by
  have NB : Hid (∀ W, Calls Tryd.prog 18 #[.int .i64 n, .int .i64 6] W fun e w' => e = .returned (.int .i64 5) ∧ W = w') := fun W => (numb_any n 6 (by omega) (by omega) hn W).mono (by rw [hk]; exact fun _ _ h => h)
  go_enter Tryd.func20, Tryd.ntmps20
  go_upto_region 2 with fail
  obtain ⟨b, f2, f3⟩ := boxes_two w #[.int .i64 0, .int .i64 0, .int .i64 0, .int .i64 0, .int .i64 0, .int .i64 0, .int .i64 0, .int .i64 0, .int .i64 0] ([.int .i64 5, .int .i64 1, .int .i64 3000, .int .i64 2000, .int .i64 200, .int .i64 5, .int .i64 2000, .int .i64 5, .int .i64 2000] : List Value).toArray 34
  generalize hq : World.alloc _ _ = w1
  have e1 : (w.alloc (.cells #[.int .i64 0, .int .i64 0, .int .i64 0, .int .i64 0, .int .i64 0, .int .i64 0, .int .i64 0, .int .i64 0, .int .i64 0] 34 (0, 0))).alloc (.cells ([.int .i64 5, .int .i64 1, .int .i64 3000, .int .i64 2000, .int .i64 200, .int .i64 5, .int .i64 2000, .int .i64 5, .int .i64 2000] : List Value).toArray 34 (0, 0)) = w1 := hq
  rw [e1] at b f2 f3
  obtain ⟨g2, hg2⟩ : ∃ g2, g2 = w.heap.size := ⟨_, rfl⟩
  obtain ⟨g3, hg3⟩ : ∃ g3, g3 = w.heap.size + 1 := ⟨_, rfl⟩
  rw [← hg3] at f3
  rw [← hg2] at f2
  rw [← hg3, ← hg2]
  have F2 := Lib.hid f2
  have F3 := Lib.hid f3
  have BB := Lib.hid b
  have G : Hid (w.heap.size ≤ g2 ∧ g2 < g3) := ⟨by omega, by omega⟩
  clear b f2 f3 hq e1 hg2 hg3
  go_wp2_with fail
  refine (NB.out _).mono ?_
  rintro e wx ⟨rfl, rfl⟩
  clear NB
  go_upto_region 18 with ((with_reducible show wpList _ _ _ _ _ _); (refine wpList_store_part rfl 3 (.tmp 26) (.const (.int .i64 0)) rfl g3 1 [.int .i64 5] [.int .i64 1] [.int .i64 3000, .int .i64 2000, .int .i64 200, .int .i64 5, .int .i64 2000, .int .i64 5, .int .i64 2000] [.int .i64 0] 34 (.int .i64 0) rfl rfl rfl rfl rfl F3.out (by kernel_rfl) (fun u hu => by obtain rfl := List.mem_singleton.1 hu; rfl) ?_; intro v0 q1 q2; have F3 : Hid (v0.heap[g3]? = some (.cells ([.int .i64 5, .int .i64 0, .int .i64 3000, .int .i64 2000, .int .i64 200, .int .i64 5, .int .i64 2000, .int .i64 5, .int .i64 2000] : List Value).toArray 34 (0, 0))) := q1; have F2 := Lib.hid (row_far F2.out q2 (by intro h; have := Option.some.inj h; have := G.out; omega)); have BB := Lib.hid (grownBy_below q2 BB.out (by have := G.out; omega) BB.out.size); clear q1 q2; go_frame))
  go_upto_region 19 with ((with_reducible show wpList _ _ _ _ _ _); (refine wpList_store_part rfl 3 (.tmp 27) (.const (.int .i64 1048576)) rfl g3 2 [.int .i64 5, .int .i64 0] [.int .i64 3000] [.int .i64 2000, .int .i64 200, .int .i64 5, .int .i64 2000, .int .i64 5, .int .i64 2000] [.int .i64 1048576] 34 (.int .i64 1048576) rfl rfl rfl rfl rfl F3.out (by kernel_rfl) (fun u hu => by obtain rfl := List.mem_singleton.1 hu; rfl) ?_; intro v1 q1 q2; have F3 : Hid (v1.heap[g3]? = some (.cells ([.int .i64 5, .int .i64 0, .int .i64 1048576, .int .i64 2000, .int .i64 200, .int .i64 5, .int .i64 2000, .int .i64 5, .int .i64 2000] : List Value).toArray 34 (0, 0))) := q1; have F2 := Lib.hid (row_far F2.out q2 (by intro h; have := Option.some.inj h; have := G.out; omega)); have BB := Lib.hid (grownBy_below q2 BB.out (by have := G.out; omega) BB.out.size); clear q1 q2; go_frame))
  go_upto_region 20 with ((with_reducible show wpList _ _ _ _ _ _); (refine wpList_store_part rfl 3 (.tmp 28) (.const (.int .i64 50)) rfl g3 5 [.int .i64 5, .int .i64 0, .int .i64 1048576, .int .i64 2000, .int .i64 200] [.int .i64 5] [.int .i64 2000, .int .i64 5, .int .i64 2000] [.int .i64 50] 34 (.int .i64 50) rfl rfl rfl rfl rfl F3.out (by kernel_rfl) (fun u hu => by obtain rfl := List.mem_singleton.1 hu; rfl) ?_; intro v2 q1 q2; have F3 : Hid (v2.heap[g3]? = some (.cells ([.int .i64 5, .int .i64 0, .int .i64 1048576, .int .i64 2000, .int .i64 200, .int .i64 50, .int .i64 2000, .int .i64 5, .int .i64 2000] : List Value).toArray 34 (0, 0))) := q1; have F2 := Lib.hid (row_far F2.out q2 (by intro h; have := Option.some.inj h; have := G.out; omega)); have BB := Lib.hid (grownBy_below q2 BB.out (by have := G.out; omega) BB.out.size); clear q1 q2; go_frame))
  go_upto_region 21 with ((with_reducible show wpList _ _ _ _ _ _); (refine wpList_store_part rfl 3 (.tmp 29) (.const (.int .i64 50)) rfl g3 7 [.int .i64 5, .int .i64 0, .int .i64 1048576, .int .i64 2000, .int .i64 200, .int .i64 50, .int .i64 2000] [.int .i64 5] [.int .i64 2000] [.int .i64 50] 34 (.int .i64 50) rfl rfl rfl rfl rfl F3.out (by kernel_rfl) (fun u hu => by obtain rfl := List.mem_singleton.1 hu; rfl) ?_; intro v3 q1 q2; have F3 : Hid (v3.heap[g3]? = some (.cells ([.int .i64 5, .int .i64 0, .int .i64 1048576, .int .i64 2000, .int .i64 200, .int .i64 50, .int .i64 2000, .int .i64 50, .int .i64 2000] : List Value).toArray 34 (0, 0))) := q1; have F2 := Lib.hid (row_far F2.out q2 (by intro h; have := Option.some.inj h; have := G.out; omega)); have BB := Lib.hid (grownBy_below q2 BB.out (by have := G.out; omega) BB.out.size); clear q1 q2; go_frame))
  go_upto_region 22 with ((with_reducible show wpList _ _ _ _ _ _); (refine wpList_store_part rfl 3 (.tmp 30) (.const (.int .i64 1048576)) rfl g3 6 [.int .i64 5, .int .i64 0, .int .i64 1048576, .int .i64 2000, .int .i64 200, .int .i64 50] [.int .i64 2000] [.int .i64 50, .int .i64 2000] [.int .i64 1048576] 34 (.int .i64 1048576) rfl rfl rfl rfl rfl F3.out (by kernel_rfl) (fun u hu => by obtain rfl := List.mem_singleton.1 hu; rfl) ?_; intro v4 q1 q2; have F3 : Hid (v4.heap[g3]? = some (.cells ([.int .i64 5, .int .i64 0, .int .i64 1048576, .int .i64 2000, .int .i64 200, .int .i64 50, .int .i64 1048576, .int .i64 50, .int .i64 2000] : List Value).toArray 34 (0, 0))) := q1; have F2 := Lib.hid (row_far F2.out q2 (by intro h; have := Option.some.inj h; have := G.out; omega)); have BB := Lib.hid (grownBy_below q2 BB.out (by have := G.out; omega) BB.out.size); clear q1 q2; go_frame))
  go_upto_region 23 with ((with_reducible show wpList _ _ _ _ _ _); (refine wpList_store_part rfl 3 (.tmp 31) (.const (.int .i64 1048576)) rfl g3 8 [.int .i64 5, .int .i64 0, .int .i64 1048576, .int .i64 2000, .int .i64 200, .int .i64 50, .int .i64 1048576, .int .i64 50] [.int .i64 2000] [] [.int .i64 1048576] 34 (.int .i64 1048576) rfl rfl rfl rfl rfl F3.out (by kernel_rfl) (fun u hu => by obtain rfl := List.mem_singleton.1 hu; rfl) ?_; intro v5 q1 q2; have F3 : Hid (v5.heap[g3]? = some (.cells ([.int .i64 5, .int .i64 0, .int .i64 1048576, .int .i64 2000, .int .i64 200, .int .i64 50, .int .i64 1048576, .int .i64 50, .int .i64 1048576] : List Value).toArray 34 (0, 0))) := q1; have F2 := Lib.hid (row_far F2.out q2 (by intro h; have := Option.some.inj h; have := G.out; omega)); have BB := Lib.hid (grownBy_below q2 BB.out (by have := G.out; omega) BB.out.size); clear q1 q2; go_frame))
  go_upto_region 24 with ((with_reducible show wpList _ _ _ _ _ _); (refine wpList_store_part rfl 3 (.tmp 32) (.const (.int .i64 1048576)) rfl g3 3 [.int .i64 5, .int .i64 0, .int .i64 1048576] [.int .i64 2000] [.int .i64 200, .int .i64 50, .int .i64 1048576, .int .i64 50, .int .i64 1048576] [.int .i64 1048576] 34 (.int .i64 1048576) rfl rfl rfl rfl rfl F3.out (by kernel_rfl) (fun u hu => by obtain rfl := List.mem_singleton.1 hu; rfl) ?_; intro v6 q1 q2; have F3 : Hid (v6.heap[g3]? = some (.cells ([.int .i64 5, .int .i64 0, .int .i64 1048576, .int .i64 1048576, .int .i64 200, .int .i64 50, .int .i64 1048576, .int .i64 50, .int .i64 1048576] : List Value).toArray 34 (0, 0))) := q1; have F2 := Lib.hid (row_far F2.out q2 (by intro h; have := Option.some.inj h; have := G.out; omega)); have BB := Lib.hid (grownBy_below q2 BB.out (by have := G.out; omega) BB.out.size); clear q1 q2; go_frame))
  go_wp2_with ((with_reducible show wpList _ _ _ _ _ _); first | (refine wpList_load_row rfl 34 (.tmp 3) rfl g3 rfl 34 ([.int .i64 5, .int .i64 0, .int .i64 1048576, .int .i64 1048576, .int .i64 200, .int .i64 50, .int .i64 1048576, .int .i64 50, .int .i64 1048576] : List Value).toArray (0, 0) _ F3.out Tryd.underlying34 rfl (by kernel_rfl) ?_; go_frame) | (refine wpList_store_row rfl 34 (.tmp 2) (.tmp 33) rfl g2 ([.int .i64 5, .int .i64 0, .int .i64 1048576, .int .i64 1048576, .int .i64 200, .int .i64 50, .int .i64 1048576, .int .i64 50, .int .i64 1048576] : List Value).toArray rfl rfl 34 _ F2.out (by kernel_rfl) rfl (by kernel_rfl) ?_; go_frame))
  refine bodyPost_ret (results_cell_row rfl _ _ g2 34 ([.int .i64 5, .int .i64 0, .int .i64 1048576, .int .i64 1048576, .int .i64 200, .int .i64 50, .int .i64 1048576, .int .i64 50, .int .i64 1048576] : List Value).toArray (0, 0) _ rfl (setRow_heap _ _ _ _ _ _ F2.out) Tryd.underlying34 rfl (by kernel_rfl)) rfl ?_
  exact ⟨rfl, below_setRow BB.out G.out.1 _⟩
theorem mkrules_any (n : Int) (hn : -9223372036854775808 ≤ n ∧ n ≤ 9223372036854775807) (w : World) :
    Calls Tryd.prog 20 #[.int .i64 n] w fun e w' => e = .returned (.agg (ruL (ruN (numb n 6).toNat)).toArray) ∧ Below w.heap.size w w' := by
  obtain ⟨k, hk, h6⟩ := numb_nat n 6 (by omega)
  have hk : numb n 6 = (k : Int) := hk
  rw [hk, Int.toNat_natCast]
  match k, h6, hk with
  | 0, _, hk => exact mkrules_0 n hk hn w
  | 1, _, hk => exact mkrules_1 n hk hn w
  | 2, _, hk => exact mkrules_2 n hk hn w
  | 3, _, hk => exact mkrules_3 n hk hn w
  | 4, _, hk => exact mkrules_4 n hk hn w
  | 5, _, hk => exact mkrules_5 n hk hn w
end Go.Proofs.YtlpdgjneoahdeaaDoor.Sha
