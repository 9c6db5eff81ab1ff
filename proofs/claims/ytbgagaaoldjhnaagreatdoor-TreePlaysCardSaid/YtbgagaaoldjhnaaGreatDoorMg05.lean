/-
  Texts of this proof joined into one file: TxRow, StoreW, TxRead2, TxTakeM, TxC2, HdVal, ArgsHd, HdIdM, CnVal, Keep, CnMap, CnSet, CnSpend, RefTree. What each holds, and under which conditions, its own first sentence tells.
-/
import Derived.Great.BuildSlice
import Derived.Laws.ResultCell
import Derived.DeepKeys4
import Derived.Maps.RangeRun
import Derived.Test.YtbgagaaoldjhnaaGreatDoorMg04
import Derived.Test.YtbgagaaoldjhnaaGreatDoorMg01
import Derived.Test.YtbgagaaoldjhnaaGreatDoorMg03
import Derived.Test.YtbgagaaoldjhnaaGreatDoorMg02
/-
  Inputs and outputs in rows of one's own: a row of them grows, its keys lie apart from it; what such a row is as a slice. What a slice literal of one or two structures lays. No conditions beyond those that each states.
-/
namespace Go.Proofs.YtbgagaaoldjhnaaGreatDoor.Sha
open Go Go.RowKit
theorem info_in : (Tryz.prog.info? 130).map (fun i => (i.zero, i.size, i.bytes)) = some (some (.agg (List.replicate 32 (bV 0) ++ [nV 0, .slice none 0 0, nV 0]).toArray), 35, 72) := by kernel_rfl
theorem info_out : (Tryz.prog.info? 132).map (fun i => (i.zero, i.size, i.bytes)) = some (some (.agg (uV 0 :: List.replicate 32 (bV 0)).toArray), 33, 40) := by kernel_rfl
/-- The cells of so many inputs, their keys given. -/
def insL : List TIn → List Value → List Value
  | x :: l, kv :: ks => inL x kv ++ insL l ks
  | _, _ => []
def outsL (l : List TOut) : List Value := l.flatMap outL
theorem insL_snoc (x : TIn) (kv : Value) : ∀ (l : List TIn) (ks : List Value), l.length = ks.length → insL (l ++ [x]) (ks ++ [kv]) = insL l ks ++ inL x kv
  | [], [], _ => by simp [insL]
  | y :: l, k :: ks, h => by
    simp only [List.cons_append, insL, insL_snoc x kv l ks (by simpa using h), List.append_assoc]
theorem insL_get : ∀ (l : List TIn) (ks : List Value) (i : Nat) (x : TIn) (kv : Value), InsOk l → l[i]? = some x → ks[i]? = some kv → ∀ j, j < 35 → (insL l ks)[i * 35 + j]? = (inL x kv)[j]?
  | y :: l, k :: ks, 0, x, kv, ho, hx, hk, j, hj => by
    simp only [List.getElem?_cons_zero, Option.some.injEq] at hx hk
    subst hx hk
    rw [Nat.zero_mul, Nat.zero_add, insL, List.getElem?_append_left (by rw [inL_length y k (ho y List.mem_cons_self).1]; exact hj)]
  | y :: l, k :: ks, i + 1, x, kv, ho, hx, hk, j, hj => by
    have e := inL_length y k (ho y List.mem_cons_self).1
    rw [insL, List.getElem?_append_right (by omega), e, show (i + 1) * 35 + j - 35 = i * 35 + j by omega]
    exact insL_get l ks i x kv (fun z hz => ho z (List.mem_cons_of_mem _ hz)) (by simpa using hx) (by simpa using hk) j hj
  | [], _, _, _, _, _, hx, _, _, _ => by simp at hx
  | _ :: _, [], _, _, _, _, _, hk, _, _ => by simp at hk
theorem outsL_get : ∀ (l : List TOut) (i : Nat) (y : TOut), OutsOk l → l[i]? = some y → ∀ j, j < 33 → (outsL l)[i * 33 + j]? = (outL y)[j]?
  | z :: l, 0, y, ho, hy, j, hj => by
    simp only [List.getElem?_cons_zero, Option.some.injEq] at hy
    subst hy
    rw [Nat.zero_mul, Nat.zero_add, outsL, List.flatMap_cons, List.getElem?_append_left (by rw [outL_length z (ho z List.mem_cons_self).1]; exact hj)]
  | z :: l, i + 1, y, ho, hy, j, hj => by
    have e := outL_length z (ho z List.mem_cons_self).1
    rw [outsL, List.flatMap_cons, List.getElem?_append_right (by omega), e, show (i + 1) * 33 + j - 33 = i * 33 + j by omega]
    exact outsL_get l i y (fun z hz => ho z (List.mem_cons_of_mem _ hz)) (by simpa using hy) j hj
  | [], _, _, _, hy, _, _ => by simp at hy
/-- A slice of bytes that does not lie in this block. -/
def Off (kv : Value) (q : Option Nat) : Prop := ∀ sp n cap, kv = .slice (some sp) n cap → 0 < n → q ≠ some sp.block
theorem SrcB.off {w w' : World} {v : Value} {bs : List UInt8} {q : Option Nat} (h : SrcB w v bs) (ho : Off v q) (hg : w.grownBy w' q) : SrcB w' v bs := by
  rcases h with h | ⟨h0, bb, off, cap, hv, hc, hs⟩
  · exact .inl h
  · refine .inr ⟨h0, bb, off, cap, hv, hc, fun j hj => ?_⟩
    rw [World.cell?_of_block (hg.block bb (SrcB.block h0 hs) (fun e => ho _ _ _ hv h0 e.symm))]
    exact hs j hj
theorem KeyAt.off {w w' : World} {kv : Value} {key : List UInt8} {q : Option Nat} (h : KeyAt w kv key) (ho : Off kv q) (hg : w.grownBy w' q) : KeyAt w' kv key := ⟨h.1.off ho hg, h.2⟩
theorem KeyAt.fresh {w : World} {kv : Value} {key : List UInt8} {k : Nat} (h : KeyAt w kv key) (hk : w.heap.size ≤ k) : Off kv (some k) := fun sp n cap hv hn e => by
  rcases h.1 with ⟨sp', cap', hv', _⟩ | ⟨h0, bb, off, cap', hv', _, hs⟩
  · rw [hv'] at hv
    cases hv
    omega
  · have := SrcB.block h0 hs
    rw [hv'] at hv
    cases hv
    have e2 : k = bb := Option.some.inj e
    omega
/-- A row of inputs of one's own; its keys lie apart from it, and from all that was there before. -/
def InsOwn (base : Nat) (w : World) (v : Value) (l : List TIn) (ks : List Value) : Prop :=
  l.length = ks.length ∧ w.ownsRow base 130 35 v l.length (insL l ks) ∧ InsOk l ∧ ∀ (i : Nat) x kv, l[i]? = some x → ks[i]? = some kv → KeyAt w kv x.key ∧ (∀ q, q < base → Off kv (some q)) ∧ Off kv v.ownBlock
def OutsOwn (base : Nat) (w : World) (v : Value) (l : List TOut) : Prop := w.ownsRow base 132 33 v l.length (outsL l) ∧ OutsOk l
theorem InsOwn.nil (base : Nat) (w : World) : InsOwn base w (.slice none 0 0) [] [] := ⟨rfl, World.ownsRow_nil _ _ _ _, fun _ h => absurd h (by simp), fun i x kv h => absurd h (by simp)⟩
theorem OutsOwn.nil (base : Nat) (w : World) : OutsOwn base w (.slice none 0 0) [] := ⟨World.ownsRow_nil _ _ _ _, fun _ h => absurd h (by simp)⟩
section
variable {base : Nat} {w w' : World} {v v' : Value} {l : List TIn} {ks : List Value} {m : List TOut}
theorem own_far {size n q : Nat} {e : TypeId} {xs : List Value} (h : w.ownsRow base e size v n xs) (hq : q < base) : v.ownBlock = none ∨ v.ownBlock ≠ some q := by
  cases hv : v.ownBlock with
  | none => exact .inl rfl
  | some k => exact .inr (fun e => by have := (h.lt k hv).1; have := Option.some.inj e; omega)
theorem InsOwn.keep (h : InsOwn base w v l ks) (hb : Below w.heap.size w w') : InsOwn base w' v l ks :=
  ⟨h.1, own_kept h.2.1 hb, h.2.2.1, fun i x kv hx hk => ⟨(h.2.2.2 i x kv hx hk).1.below hb, (h.2.2.2 i x kv hx hk).2⟩⟩
theorem OutsOwn.kept (h : OutsOwn base w v m) {q : Option Nat} (hg : w.grownBy w' q) (hb : v.ownBlock = none ∨ v.ownBlock ≠ q) : OutsOwn base w' v m := ⟨h.1.kept hg hb, h.2⟩
theorem OutsOwn.keep (h : OutsOwn base w v m) (hb : Below w.heap.size w w') : OutsOwn base w' v m := ⟨own_kept h.1 hb, h.2⟩
theorem InsOwn.push (h : InsOwn base w v l ks) {x : TIn} {kv : Value} (hx : InOk x) (hk : KeyAt w kv x.key) (hr : ∀ q, q < base → Off kv (some q)) (ho : Off kv v.ownBlock)
    (hown : w'.ownsRow base 130 35 v' (l.length + 1) (insL l ks ++ inL x kv)) (hg : w.grownBy w' v.ownBlock) (hat : v'.ownBlock = v.ownBlock ∨ v'.ownBlock = some w.heap.size) : InsOwn base w' v' (l ++ [x]) (ks ++ [kv]) := by
  refine ⟨by simp [h.1], ?_, ?_, ?_⟩
  · rw [insL_snoc x kv l ks h.1, List.length_append]
    exact hown
  · intro z hz
    rcases List.mem_append.1 hz with hz | hz
    · exact h.2.2.1 z hz
    · rw [List.mem_singleton.1 hz]; exact hx
  · have move : ∀ {x : TIn} {kv : Value}, KeyAt w kv x.key → (∀ q, q < base → Off kv (some q)) → Off kv v.ownBlock → KeyAt w' kv x.key ∧ (∀ q, q < base → Off kv (some q)) ∧ Off kv v'.ownBlock := fun {x kv} a b c => by
      refine ⟨a.off c hg, b, ?_⟩
      rcases hat with e | e
      · rw [e]; exact c
      · rw [e]; exact a.fresh (Nat.le_refl _)
    intro i y kw hy hkw
    by_cases hi : i < l.length
    · rw [List.getElem?_append_left hi] at hy
      rw [List.getElem?_append_left (by rw [← h.1]; exact hi)] at hkw
      obtain ⟨a, b, c⟩ := h.2.2.2 i y kw hy hkw
      exact move a b c
    · have hil : i = l.length := by
        have := (List.getElem?_eq_some_iff.1 hy).1
        simp at this
        omega
      subst hil
      rw [List.getElem?_append_right (Nat.le_refl _), Nat.sub_self] at hy
      have h1 := h.1
      rw [List.getElem?_append_right (by omega), h1, Nat.sub_self] at hkw
      simp only [List.getElem?_cons_zero, Option.some.injEq] at hy hkw
      subst hy hkw
      exact move hk hr ho
theorem OutsOwn.push (h : OutsOwn base w v m) {y : TOut} (hy : OutOk y) (hown : w'.ownsRow base 132 33 v' (m.length + 1) (outsL m ++ outL y)) : OutsOwn base w' v' (m ++ [y]) := by
  refine ⟨?_, ?_⟩
  · have e : outsL (m ++ [y]) = outsL m ++ outL y := by simp [outsL, List.flatMap_append]
    rw [e, List.length_append]
    exact hown
  · intro z hz
    rcases List.mem_append.1 hz with hz | hz
    · exact h.2 z hz
    · rw [List.mem_singleton.1 hz]; exact hy
/-- Such a row as a slice of inputs. -/
theorem InsOwn.at (h : InsOwn base w v l ks) : InsAt w v l := by
  obtain ⟨h1, h2, h3, h4⟩ := h
  rcases h2.2 with ⟨hv, h0⟩ | ⟨g, cap, cur, hv, hb, hc, hn, hm, hs, ht⟩
  · exact ⟨none, 0, by rw [hv, h0], by omega, fun h => by omega⟩
  · subst hv
    refine ⟨_, cap, rfl, hn, fun h0 => ⟨g, 0, rfl, fun i x hx => ?_⟩⟩
    have hi := (List.getElem?_eq_some_iff.1 hx).1
    obtain ⟨kv, hkv⟩ : ∃ kv, ks[i]? = some kv := ⟨_, List.getElem?_eq_getElem (by omega)⟩
    have hxo := h3 x (List.mem_of_getElem? hx)
    refine ⟨hxo, kv, (h4 i x kv hx hkv).1, fun j u hj => ?_⟩
    have hj35 : j < 35 := by
      have := (List.getElem?_eq_some_iff.1 hj).1
      rwa [inL_length x kv hxo.1] at this
    rw [Nat.zero_add, h2.cellAt (i * 35 + j) (by omega), insL_get l ks i x kv h3 hx hkv j hj35]
    exact hj
theorem OutsOwn.at (h : OutsOwn base w v m) : OutsAt w v m := by
  obtain ⟨h2, h3⟩ := h
  rcases h2.2 with ⟨hv, h0⟩ | ⟨g, cap, cur, hv, hb, hc, hn, hm, hs, ht⟩
  · exact ⟨none, 0, by rw [hv, h0], by omega, fun h => by omega⟩
  · subst hv
    refine ⟨_, cap, rfl, hn, fun h0 => ⟨g, 0, rfl, fun i x hx => ?_⟩⟩
    have hi := (List.getElem?_eq_some_iff.1 hx).1
    have hxo := h3 x (List.mem_of_getElem? hx)
    refine ⟨hxo, fun j u hj => ?_⟩
    have hj35 : j < 33 := by
      have := (List.getElem?_eq_some_iff.1 hj).1
      rwa [outL_length x hxo.1] at this
    rw [Nat.zero_add, h2.cellAt (i * 33 + j) (by omega), outsL_get m i x h3 hx j hj35]
    exact hj
end
/-- A literal of one structure, of two. -/
theorem fill_one (size : Nat) (zs : List Value) (hz : zs.length = size) (cs : List Value) (hc : cs.length = size) : Instr.fill (fun i => some (i * size, size)) zs.toArray [(0, .agg cs.toArray)] = some cs.toArray := by
  have h := fill_part (fun i => some (i * size, size)) 0 0 (.agg cs.toArray) cs zs [] rfl (by simp [hc]) (by omega)
  rw [h]
  have e : zs.drop (0 + cs.length) = [] := List.drop_eq_nil_of_le (by omega)
  rw [List.take_zero, List.nil_append, e, List.append_nil]
  rfl
section
variable {P : Program}
theorem wp_slice_one {o : Oper} {a : Act} {w : World} {K : Act → World → Prop} {Q : Exit → Act → World → Prop} (t e : TypeId) (x : Operand) (ho : o.op = .buildSlice t 1 #[(0, x)]) (cs : List Value) (hx : a.eval x = .agg cs.toArray)
    (hu : P.underlying t = some (.slice e)) (i : TypeInfo) (z : Value) (hi : P.info? e = some i) (hz : i.zero = some z) (hs : i.size = cs.length) (hp : 0 < cs.length) (hm : cs.length ≤ 16777216)
    (h : K (a.put o.dst (.slice (some ⟨w.heap.size, 0, none⟩) 1 1)) (w.alloc (.cells cs.toArray e))) : o.wp P a w K Q := by
  refine wp_buildSlice t e 1 _ ho cs.toArray i z hu hi hz (by rw [hs]; omega) (by rw [hs]; omega) ?_ h
  have e1 : (Array.map (fun (q : Nat × Operand) => (q.1, a.eval q.2)) #[(0, x)]).toList = [(0, .agg cs.toArray)] := by simp [hx]
  rw [show (Array.map (fun (i, x) => (i, a.eval x)) #[(0, x)]).toList = [(0, .agg cs.toArray)] from e1, ← Array.toArray_toList (xs := Array.map _ _)]
  exact fill_one i.size _ (by simp) cs hs.symm
theorem wpList_slice_one {ops : Array Oper} {rest : List Oper} {o : Oper} {a : Act} {w : World} {Q : Exit → Act → World → Prop} (hg : o.guard = none) (t e : TypeId) (x : Operand) (ho : o.op = .buildSlice t 1 #[(0, x)]) (cs : List Value) (hx : a.eval x = .agg cs.toArray)
    (hu : P.underlying t = some (.slice e)) (i : TypeInfo) (z : Value) (hi : P.info? e = some i) (hz : i.zero = some z) (hs : i.size = cs.length) (hp : 0 < cs.length) (hm : cs.length ≤ 16777216)
    (h : wpList P ops Q rest (a.put o.dst (.slice (some ⟨w.heap.size, 0, none⟩) 1 1)) (w.alloc (.cells cs.toArray e))) : wpList P ops Q (o :: rest) a w :=
  wpList_plain hg fun _ hK => wp_slice_one t e x ho cs hx hu i z hi hz hs hp hm (hK _ _ h)
end
end Go.Proofs.YtbgagaaoldjhnaaGreatDoor.Sha

/-
  A value stored into a box, or into a part of a block of one's own, the new world hidden; two boxes; a box and a value as results. No conditions beyond those that each states.
-/
namespace Go.Proofs.YtbgagaaoldjhnaaGreatDoor.Sha
open Go Go.RowKit
section
variable {P : Program}
theorem setRow_grown {w : World} {g : Nat} (cs : Array Value) : w.grownBy (w.setRow g cs) (some g) := by
  refine ⟨rfl, rfl, rfl, by simp [World.setRow], fun k _ hk => ?_⟩
  simp only [World.setRow]
  rw [Array.getElem?_modify, if_neg (fun e => hk (by rw [e]))]
theorem run_store_part {w : World} (ty : TypeId) (g o : Nat) (A old C new : List Value) (T : TypeId) (v : Value) (hv : v.cells = new.toArray) (hA : A.length = o) (hlen : old.length = new.length)
    (hg : w.heap[g]? = some (.cells (A ++ old ++ C).toArray T (0, 0))) (hi : (P.info? ty).map (·.size) = some new.length) (h1 : ∀ u ∈ new, u.oneCell' = true) :
    (storeVar ty ⟨g, o, none⟩ v).run P w = .ok () (w.setRow g (A ++ new ++ C).toArray) := by
  have h := run_storeCells_at P g o T new 0 (A ++ old ++ C).toArray w hg (by simp; omega) h1
  have e : ((A ++ old ++ C).toArray.toList.take (o + 0) ++ new ++ (A ++ old ++ C).toArray.toList.drop (o + 0 + new.length)).toArray = (A ++ new ++ C).toArray := by
    congr 1
    subst hA
    simp only [Nat.add_zero]
    rw [List.append_assoc A old C, List.take_left, ← List.drop_drop, List.drop_left, ← hlen, List.drop_left]
  rw [e] at h
  cases hq : P.info? ty with
  | none => simp [hq] at hi
  | some i =>
    have hs : i.size = new.length := by simpa [hq] using hi
    simp [storeVar, sizeOf, typeInfo, hq, hv, hs]
    simpa using h
theorem wp_store_part {op : Oper} {a : Act} {w : World} {K : Act → World → Prop} {Q : Exit → Act → World → Prop} (ty : TypeId) (x y : Operand) (ho : op.op = .store ty x y)
    (g o : Nat) (A old C new : List Value) (T : TypeId) (v : Value) (hx : a.eval x = .pointer (some ⟨g, o, none⟩)) (hy : a.eval y = v) (hv : v.cells = new.toArray) (hA : A.length = o) (hlen : old.length = new.length)
    (hg : w.heap[g]? = some (.cells (A ++ old ++ C).toArray T (0, 0))) (hi : (P.info? ty).map (·.size) = some new.length) (h1 : ∀ u ∈ new, u.oneCell' = true)
    (h : ∀ w', w'.heap[g]? = some (.cells (A ++ new ++ C).toArray T (0, 0)) → w.grownBy w' (some g) → K (a.put op.dst undef) w') : op.wp P a w K Q := by
  unfold Oper.wp execOp
  simp only [ho, hx, hy, Instr.storeAt, Instr.sureAddr, Sem.run_bind, Sem.run_pure, Result.andThen_ok, run_store_part ty g o A old C new T v hv hA hlen hg hi h1]
  exact h _ (setRow_heap _ _ _ _ _ _ hg) (setRow_grown _)
theorem wpList_store_part {ops : Array Oper} {rest : List Oper} {op : Oper} {a : Act} {w : World} {Q : Exit → Act → World → Prop} (hgd : op.guard = none) (ty : TypeId) (x y : Operand) (ho : op.op = .store ty x y)
    (g o : Nat) (A old C new : List Value) (T : TypeId) (v : Value) (hx : a.eval x = .pointer (some ⟨g, o, none⟩)) (hy : a.eval y = v) (hv : v.cells = new.toArray) (hA : A.length = o) (hlen : old.length = new.length)
    (hg : w.heap[g]? = some (.cells (A ++ old ++ C).toArray T (0, 0))) (hi : (P.info? ty).map (·.size) = some new.length) (h1 : ∀ u ∈ new, u.oneCell' = true)
    (h : ∀ w', w'.heap[g]? = some (.cells (A ++ new ++ C).toArray T (0, 0)) → w.grownBy w' (some g) → wpList P ops Q rest (a.put op.dst undef) w') : wpList P ops Q (op :: rest) a w :=
  wpList_plain hgd fun _ hK => wp_store_part ty x y ho g o A old C new T v hx hy hv hA hlen hg hi h1 (fun w' a1 a2 => hK _ _ (h w' a1 a2))
end
theorem row_far {w w' : World} {g : Nat} {q : Option Nat} {o : Obj} (h : w.heap[g]? = some o) (hg : w.grownBy w' q) (hq : q ≠ some g) : w'.heap[g]? = some o := by
  rw [hg.block g (Array.getElem?_eq_some_iff.1 h).1 (fun e => hq e.symm)]
  exact h
section
variable {P : Program}
theorem wp_store_whole {op : Oper} {a : Act} {w : World} {K : Act → World → Prop} {Q : Exit → Act → World → Prop} (ty : TypeId) (x y : Operand) (ho : op.op = .store ty x y)
    (g : Nat) (old new : List Value) (T : TypeId) (hx : a.eval x = .pointer (some ⟨g, 0, none⟩)) (hy : a.eval y = .agg new.toArray) (hlen : old.length = new.length) (hrow : w.heap[g]? = some (.cells old.toArray T (0, 0)))
    (hi : (P.info? ty).map (·.size) = some new.length) (h1 : new.toArray.all (·.oneCell') = true)
    (h : ∀ w', w'.heap[g]? = some (.cells new.toArray T (0, 0)) → w.grownBy w' (some g) → K (a.put op.dst undef) w') : op.wp P a w K Q :=
  wp_store_row ty x y ho g new.toArray hx hy T old.toArray hrow (by simpa using hi) (by simpa using hlen) h1 (h _ (setRow_heap _ _ _ _ _ _ hrow) (setRow_grown _))
end
theorem results_row_tmp {P : Program} {fn : Func} {p u : Tmp} {ty : TypeId} (h : fn.results = #[.cell p ty, .tmp u]) (tmps : Array Value) (w : World) (g : Nat) (t : TypeId) (cs : Array Value) (fr : Nat × Nat) (d : TypeDesc)
    (hx : tmps.getD p undef = .pointer (some ⟨g, 0, none⟩)) (hg : w.heap[g]? = some (.cells cs t fr)) (hu : P.underlying ty = some d) (hd : (match d with | .struct _ | .array _ _ => true | _ => false) = true) (hi : (P.info? ty).map (·.size) = some cs.size) :
    (results fn tmps).run P w = .ok (.tuple #[.agg cs, tmps.getD u undef]) w := by
  rw [results_cell_tmp h, hx]
  simp [asAddr, Result.andThen, run_loadVar_row (P := P) w g t ty cs fr d hg hu hd hi]
end Go.Proofs.YtbgagaaoldjhnaaGreatDoor.Sha

/-
  Plain mathematics of a transaction read out of bytes: an input, an output, the whole; all that is in the bytes, and what is amiss. No conditions beyond those that each states.
-/
namespace Go.Proofs.YtbgagaaoldjhnaaGreatDoor.Sha
open Go Go.RowKit
def inP : Par TIn := thenP (takeL 32) fun h => thenP (leP 4) fun n => thenP (numL 80) fun k => thenP (takeL k) fun key => mapP (fun s => ⟨padH h, n, key, s⟩) (leP 4)
def outP : Par TOut := thenP (leP 8) fun v => mapP (fun h => ⟨v, padH h⟩) (takeL 32)
def txP : Par TTx := thenP (leP 4) fun v => thenP (numL 50) fun n => thenP (manyP inP n) fun is => thenP (numL 50) fun m => thenP (manyP outP m) fun os => mapP (fun t => ⟨v, is, os, t⟩) (leP 4)
def noTx : TTx := ⟨0, [], [], 0⟩
/-- A transaction out of a Reader: none where an error was met. -/
def takeTx (bs : List UInt8) (c : Nat) : TTx × List UInt8 × Nat := if (txP bs c).2.2 = 0 then txP bs c else (noTx, (txP bs c).2)
/-- Bytes as a transaction, or what is amiss. -/
def readTx (bs : List UInt8) : TTx × Nat := if (txP bs 0).2.2 ≠ 0 then (noTx, (txP bs 0).2.2) else if (txP bs 0).2.1 ≠ [] then (noTx, 2) else ((txP bs 0).1, 0)
end Go.Proofs.YtbgagaaoldjhnaaGreatDoor.Sha

/-
  Plain mathematics of so many things read one behind the other, whether or not an error was met between: they leave and meet what those do that stop at the first error. No conditions.
-/
namespace Go.Proofs.YtbgagaaoldjhnaaGreatDoor.Sha
open Go Go.RowKit
section
variable {α β : Type} {p q : Par α}
/-- Behind an error nothing is read. -/
def Still (p : Par α) : Prop := ∀ bs c, c ≠ 0 → (p bs c).2 = (bs, c)
theorem Still.andThen {f : α → Par β} (h1 : Still p) (h2 : ∀ a, Still (f a)) : Still (thenP p f) := fun bs c hc => by
  have e := h1 bs c hc
  unfold thenP
  rw [e]
  exact h2 _ bs c hc
theorem Still.map (f : α → β) (h : Still p) : Still (mapP f p) := fun bs c hc => h bs c hc
/-- Two that leave and meet the same, and are the same where nothing is met. -/
def Sim (p q : Par α) : Prop := ∀ bs c, (p bs c).2 = (q bs c).2 ∧ ((p bs c).2.2 = 0 → p bs c = q bs c)
theorem Sim.refl (p : Par α) : Sim p p := fun _ _ => ⟨rfl, fun _ => rfl⟩
theorem Sim.andThen {f g : α → Par β} (h1 : Sim p q) (h2 : ∀ a, Sim (f a) (g a)) (s1 : ∀ a, Still (f a)) (s2 : ∀ a, Still (g a)) : Sim (thenP p f) (thenP q g) := fun bs c => by
  obtain ⟨e1, e2⟩ := h1 bs c
  unfold thenP
  by_cases hd : (p bs c).2.2 = 0
  · have e := e2 hd
    rw [← e]
    exact h2 _ _ _
  · rw [← e1]
    have a1 := s1 (p bs c).1 (p bs c).2.1 (p bs c).2.2 hd
    have a2 := s2 (q bs c).1 (p bs c).2.1 (p bs c).2.2 hd
    exact ⟨a1.trans a2.symm, fun h0 => by rw [a1] at h0; exact absurd h0 hd⟩
theorem Sim.map (f : α → β) (h : Sim p q) : Sim (mapP f p) (mapP f q) := fun bs c => by
  obtain ⟨e1, e2⟩ := h bs c
  unfold mapP
  exact ⟨e1, fun h0 => by rw [e2 h0]⟩
end
/-- What is left is no longer than what was there. -/
def Less {α : Type} (p : Par α) : Prop := ∀ bs c, (p bs c).2.1.length ≤ bs.length
theorem Less.andThen {α β : Type} {p : Par α} {f : α → Par β} (h1 : Less p) (h2 : ∀ a, Less (f a)) : Less (thenP p f) := fun bs c => Nat.le_trans (h2 _ _ _) (h1 bs c)
theorem Less.map {α β : Type} {p : Par α} (f : α → β) (h : Less p) : Less (mapP f p) := h
end Go.Proofs.YtbgagaaoldjhnaaGreatDoor.Sha

/-
  What package tx is shown to answer of bytes as a transaction, as a hypothesis; what is read is small. No conditions.
-/
namespace Go.Proofs.YtbgagaaoldjhnaaGreatDoor.Sha
open Go Go.RowKit
/-- What bytes are as a transaction. -/
structure ReadIs (bs : List UInt8) (t : TTx) (c : Nat) : Prop where
  eq : readTx bs = (t, c)
end Go.Proofs.YtbgagaaoldjhnaaGreatDoor.Sha

/-
  A block's header as the model has it: 68 cells; where its parts lie. Conditions: digests of 32 bytes.
-/
namespace Go.Proofs.YtbgagaaoldjhnaaGreatDoor.Sha
open Go Go.RowKit
/-- A header's cells. -/
def hdL (h : THd) : List Value := nV h.ver :: (h.prev.map bV ++ (h.root.map bV ++ [nV h.time, nV h.work, nV h.nonce]))
theorem hdL_length {h : THd} (hh : HdOk h) : (hdL h).length = 68 := by simp [hdL, hh.2.1, hh.2.2.1]
theorem hdL_size {h : THd} (hh : HdOk h) : (hdL h).toArray.size = 68 := by rw [List.size_toArray]; exact hdL_length hh
theorem hdL_one' (h : THd) : ∀ v ∈ hdL h, v.oneCell' = true := by
  intro v hv
  rcases List.mem_cons.1 hv with rfl | h1
  · rfl
  rcases List.mem_append.1 h1 with h1 | h1
  · exact bV_one' _ v h1
  rcases List.mem_append.1 h1 with h1 | h1
  · exact bV_one' _ v h1
  · simp only [List.mem_cons, List.not_mem_nil, or_false] at h1
    rcases h1 with rfl | rfl | rfl <;> rfl
theorem hdL_one (h : THd) : (hdL h).toArray.all (·.oneCell') = true := all_oneCell_toArray (hdL_one' h)
/-- The parts' cells. -/
theorem hdL_at {h : THd} (hh : HdOk h) : (hdL h)[0]? = some (nV h.ver) ∧ (hdL h)[65]? = some (nV h.time) ∧ (hdL h)[66]? = some (nV h.work) ∧ (hdL h)[67]? = some (nV h.nonce) := by
  have h1 : (h.prev.map bV).length = 32 := by simp [hh.2.1]
  have h2 : (h.root.map bV).length = 32 := by simp [hh.2.2.1]
  have e : hdL h = [nV h.ver] ++ h.prev.map bV ++ h.root.map bV ++ [nV h.time, nV h.work, nV h.nonce] := by simp [hdL]
  refine ⟨rfl, ?_, ?_, ?_⟩ <;> (rw [e, List.getElem?_append_right (by simp only [List.length_append, h1, h2, List.length_cons, List.length_nil]; omega)]; simp only [List.length_append, h1, h2, List.length_cons, List.length_nil]; rfl)
theorem range_part {w : World} {b o : Nat} {xs ys zs : List Value} (h : w.rangeAt b o (xs ++ (ys ++ zs))) : w.rangeAt b (o + xs.length) ys := fun j v hj => by
  rw [Nat.add_assoc]
  refine h (xs.length + j) v ?_
  rw [List.getElem?_append_right (by omega), Nat.add_sub_cancel_left, List.getElem?_append_left (List.getElem?_eq_some_iff.1 hj).1]
  exact hj
theorem hd_prev {w : World} {b o : Nat} {h : THd} (hg : w.rangeAt b o (hdL h)) : w.rangeAt b (o + 1) (h.prev.map bV) :=
  range_part (xs := [nV h.ver]) (ys := h.prev.map bV) hg
theorem hd_root {w : World} {b o : Nat} {h : THd} (hh : HdOk h) (hg : w.rangeAt b o (hdL h)) : w.rangeAt b (o + 33) (h.root.map bV) := by
  have e : hdL h = (nV h.ver :: h.prev.map bV) ++ (h.root.map bV ++ [nV h.time, nV h.work, nV h.nonce]) := by simp [hdL]
  rw [e] at hg
  have h := range_part hg
  simpa [hh.2.1] using h
/-- What a box with a header in it holds. -/
structure HdBox (w : World) (g : Nat) (h : THd) : Prop where
  row : w.heap[g]? = some (.cells (hdL h).toArray 27 (0, 0))
theorem HdBox.below {w w' : World} {g : Nat} {h : THd} (k : HdBox w g h) (hb : Below w.heap.size w w') : HdBox w' g h := ⟨row_below k.row hb⟩
theorem HdBox.lt {w : World} {g : Nat} {h : THd} (k : HdBox w g h) : g < w.heap.size := (Array.getElem?_eq_some_iff.1 k.row).1
theorem HdBox.cells {w : World} {g : Nat} {h : THd} (k : HdBox w g h) (hh : HdOk h) : w.cell? ⟨g, 0, none⟩ = some (.int .u32 (h.ver : Int)) ∧ w.cell? ⟨g, 65, none⟩ = some (.int .u32 (h.time : Int)) ∧ w.cell? ⟨g, 66, none⟩ = some (.int .u32 (h.work : Int)) ∧ w.cell? ⟨g, 67, none⟩ = some (.int .u32 (h.nonce : Int)) := by
  obtain ⟨h1, h2, h3, h4⟩ := hdL_at hh
  refine ⟨?_, ?_, ?_, ?_⟩ <;> (rw [cell_of_row _ _ _ _ _ _ k.row, List.getElem?_toArray]; assumption)
theorem HdBox.prev {w : World} {g : Nat} {h : THd} (k : HdBox w g h) : w.rangeAt g 1 (h.prev.map bV) := by simpa using hd_prev (range_of_box k.row)
theorem HdBox.root {w : World} {g : Nat} {h : THd} (k : HdBox w g h) (hh : HdOk h) : w.rangeAt g 33 (h.root.map bV) := by simpa using hd_root hh (range_of_box k.row)
theorem hd_box (w : World) (h : THd) : Below w.heap.size w (w.alloc (.cells (hdL h).toArray 27)) ∧ HdBox (w.alloc (.cells (hdL h).toArray 27)) w.heap.size h :=
  ⟨(Below.refl _ _).alloc (Nat.le_refl _) _, ⟨heap_alloc_new _ _⟩⟩
end Go.Proofs.YtbgagaaoldjhnaaGreatDoor.Sha

/-
  How a header that came in by value reads. No conditions.
-/
namespace Go.Proofs.YtbgagaaoldjhnaaGreatDoor.Sha
open Go Go.ChangeShapes Go.WideShapes Go.ChangeAt Go.RowKit
theorem hd_fields : (Tryz.prog.fieldsOf 27).toList.map (fun f => (f.name, f.type, f.offset)) = [("Version", 23, 0), ("Prev", 25, 1), ("Root", 25, 33), ("Time", 23, 65), ("Work", 23, 66), ("Nonce", 23, 67)] := by kernel_rfl
theorem hd_under : Tryz.prog.underlying 27 = some (.struct (Tryz.prog.fieldsOf 27)) := by kernel_rfl
theorem cut_one {α : Type} {cs : List α} {i : Nat} {v : α} (h : (cs.drop i).take 1 = [v]) : cs.drop i = v :: cs.drop (i + 1) := by
  cases e : cs.drop i with
  | nil => rw [e] at h; simp at h
  | cons a r =>
    rw [e] at h
    simp only [List.take_succ_cons, List.take_zero, List.cons.injEq, and_true] at h
    rw [h, ← List.drop_drop, e]
    rfl
theorem cut_many {α : Type} {cs l : List α} {i k : Nat} (h : (cs.drop i).take k = l) : cs.drop i = l ++ cs.drop (i + k) := by
  rw [← h, ← List.drop_drop, List.take_append_drop]
set_option maxRecDepth 100000 in
/-- A header's cells. -/
theorem hd_cells {H : Type} {enc : TypeId × Value → H} {W : World} {fuel : Nat} {cs : List Value} {x : DataW H × List MemPlace} (hf : DataW.trod enc Tryz.prog W 0 (fun _ => true) true fuel 27 cs = some x) :
    ∃ h : THd, HdOk h ∧ cs = hdL h := by
  have c24 : Tryz.prog.cellsOf 25 = 32 := by kernel_rfl
  have c25 : Tryz.prog.cellsOf 23 = 1 := by kernel_rfl
  have c27 : Tryz.prog.cellsOf 27 = 68 := by kernel_rfl
  obtain ⟨hlen, m, hel⟩ := struct_field hd_under hf hd_fields
  rw [c27] at hlen
  obtain ⟨y0, g0⟩ := hel 0 _ _ _ rfl
  obtain ⟨y1, g1⟩ := hel 1 _ _ _ rfl
  obtain ⟨y2, g2⟩ := hel 2 _ _ _ rfl
  obtain ⟨y3, g3⟩ := hel 3 _ _ _ rfl
  obtain ⟨y4, g4⟩ := hel 4 _ _ _ rfl
  obtain ⟨y5, g5⟩ := hel 5 _ _ _ rfl
  rw [c25] at g0 g3 g4 g5
  rw [c24] at g1 g2
  obtain ⟨n0, b0, e0⟩ := num32_cells g0
  obtain ⟨l1, b1, e1⟩ := hash_cells g1
  obtain ⟨l2, b2, e2⟩ := hash_cells g2
  obtain ⟨n3, b3, e3⟩ := num32_cells g3
  obtain ⟨n4, b4, e4⟩ := num32_cells g4
  obtain ⟨n5, b5, e5⟩ := num32_cells g5
  refine ⟨⟨n0, l1, l2, n3, n4, n5⟩, ⟨b0, b1, b2, b3, b4, b5⟩, ?_⟩
  have q0 := cut_one e0
  have q1 := cut_many e1
  have q2 := cut_many e2
  have q3 := cut_one e3
  have q4 := cut_one e4
  have q5 := cut_one e5
  rw [List.drop_zero] at q0
  rw [q0, show 0 + 1 = 1 from rfl, q1, show 1 + 32 = 33 from rfl, q2, show 33 + 32 = 65 from rfl, q3, show 65 + 1 = 66 from rfl, q4, show 66 + 1 = 67 from rfl, q5, List.drop_of_length_le (by omega)]
  rfl
set_option maxRecDepth 100000 in
/-- A header by value. -/
theorem head_in {H : Type} {enc : TypeId × Value → H} {W : World} {base : Nat} {v : Value} {d : DataW H} {p : List MemPlace} (hok : Value.okWide Tryz.prog W .any base 27 v) (h : DataW.Trod enc Tryz.prog W 0 (fun _ => true) true 27 v d p) :
    ∃ h : THd, HdOk h ∧ v = .agg (hdL h).toArray := by
  simp only [Value.okWide, hd_under] at hok
  obtain ⟨cs, rfl, _, _⟩ := hok
  obtain ⟨fuel, hf⟩ := h
  have hcells : (Value.agg cs).cells.toList = cs.toList := rfl
  rw [hcells] at hf
  obtain ⟨k, hk, hcs⟩ := hd_cells hf
  exact ⟨k, hk, by rw [← hcs, Array.toArray_toList]⟩
end Go.Proofs.YtbgagaaoldjhnaaGreatDoor.Sha

/-
  A header's id, as plain mathematics. No conditions.
-/
namespace Go.Proofs.YtbgagaaoldjhnaaGreatDoor.Sha
open Go Go.RowKit
/-- A header's digest. -/
def hdId (h : THd) : List UInt8 := sha (sha (hdB h))
theorem hdId_length (h : THd) : (hdId h).length = 32 := sha_length _
end Go.Proofs.YtbgagaaoldjhnaaGreatDoor.Sha

/-
  Coins as the model has them: a coin's 35 cells, a place's 33, a coin with its place 68; rows of elements of so many cells behind a slice, whatever they hold. No conditions beyond those that each states.
-/
namespace Go.Proofs.YtbgagaaoldjhnaaGreatDoor.Sha
open Go Go.RowKit
/-- A place. -/
structure TPt where
  h : List UInt8
  n : Nat
/-- A coin: its value, lock, height, base. -/
structure TMn where
  val : Nat
  lock : List UInt8
  height : Int
  base : Bool
/-- A coin with its place. -/
structure TSp where
  at_ : TPt
  coin : TMn
instance : DecidableEq TPt := fun a b => if h : a.h = b.h ∧ a.n = b.n then isTrue (by cases a; cases b; obtain ⟨h1, h2⟩ := h; subst h1 h2; rfl) else isFalse (fun e => h (by rw [e]; exact ⟨rfl, rfl⟩))
def PtOk (p : TPt) : Prop := p.h.length = 32 ∧ p.n ≤ 4294967295
def MnOk (c : TMn) : Prop := c.lock.length = 32 ∧ c.val ≤ 18446744073709551615 ∧ -9223372036854775808 ≤ c.height ∧ c.height ≤ 9223372036854775807
def SpOk (x : TSp) : Prop := PtOk x.at_ ∧ MnOk x.coin
def ptC (p : TPt) : List Value := ptL p.h p.n
def mnL (c : TMn) : List Value := .int .u64 (c.val : Int) :: (c.lock.map bV ++ [.int .i64 c.height, .bool c.base])
theorem bV_list_inj : ∀ {l m : List UInt8}, l.map bV = m.map bV → l = m
  | [], [], _ => rfl
  | [], _ :: _, h => by simp at h
  | _ :: _, [], h => by simp at h
  | x :: l, y :: m, h => by
    simp only [List.map_cons, List.cons.injEq, bV, Value.int.injEq, true_and] at h
    rw [bv_inj h.1, bV_list_inj h.2]
/-! Rows of elements of k cells each. -/
/-- All of k cells. -/
def AllK (k : Nat) (L : List (List Value)) : Prop := ∀ x ∈ L, x.length = k
theorem AllK.snoc {k : Nat} {L : List (List Value)} {x : List Value} (h : AllK k L) (hx : x.length = k) : AllK k (L ++ [x]) := fun y hy => by
  rcases List.mem_append.1 hy with hy | hy
  · exact h y hy
  · rw [List.mem_singleton.1 hy]; exact hx
theorem AllK.take {k : Nat} {L : List (List Value)} (h : AllK k L) (n : Nat) : AllK k (L.take n) := fun x hx => h x (List.mem_of_mem_take hx)
theorem AllK.get {k : Nat} {L : List (List Value)} (h : AllK k L) {i : Nat} {x : List Value} (hx : L[i]? = some x) : x.length = k := h x (List.mem_of_getElem? hx)
theorem flatten_snoc (L : List (List Value)) (x : List Value) : (L ++ [x]).flatten = L.flatten ++ x := by simp
theorem flatten_length {k : Nat} : ∀ (L : List (List Value)), AllK k L → L.flatten.length = L.length * k
  | [], _ => by simp
  | y :: L, h => by
    rw [List.flatten_cons, List.length_append, flatten_length L (fun z hz => h z (List.mem_cons_of_mem _ hz)), h y List.mem_cons_self, List.length_cons, Nat.add_mul, Nat.one_mul, Nat.add_comm]
theorem flatten_get {k : Nat} : ∀ (L : List (List Value)) (i : Nat) (y : List Value), AllK k L → L[i]? = some y → ∀ j, j < k → L.flatten[i * k + j]? = y[j]?
  | z :: L, 0, y, h, hy, j, hj => by
    simp only [List.getElem?_cons_zero, Option.some.injEq] at hy
    subst hy
    rw [Nat.zero_mul, Nat.zero_add, List.flatten_cons, List.getElem?_append_left (by rw [h z List.mem_cons_self]; exact hj)]
  | z :: L, i + 1, y, h, hy, j, hj => by
    have e : z.length = k := h z List.mem_cons_self
    rw [List.flatten_cons, List.getElem?_append_right (by rw [e, Nat.add_mul, Nat.one_mul]; omega), e, show (i + 1) * k + j - k = i * k + j by rw [Nat.add_mul, Nat.one_mul]; omega]
    exact flatten_get L i y (fun z hz => h z (List.mem_cons_of_mem _ hz)) (by simpa using hy) j hj
  | [], _, _, _, hy, _, _ => by simp at hy
/-- The slice v reads as these elements. -/
def RwAt (k : Nat) (w : World) (v : Value) (L : List (List Value)) : Prop :=
  AllK k L ∧ ∃ sp cap, v = .slice sp L.length cap ∧ L.length ≤ cap ∧ (0 < L.length → ∃ b o, sp = some ⟨b, o, none⟩ ∧ ∀ i x, L[i]? = some x → w.rangeAt b (o + i * k) x)
theorem RwAt.below {k : Nat} {w w' : World} {v : Value} {L : List (List Value)} (h : RwAt k w v L) (hb : Below w.heap.size w w') : RwAt k w' v L := by
  obtain ⟨h0, sp, cap, h1, h2, h3⟩ := h
  refine ⟨h0, sp, cap, h1, h2, fun h0 => ?_⟩
  obtain ⟨b, o, h4, h5⟩ := h3 h0
  exact ⟨b, o, h4, fun i x hx => range_below (h5 i x hx) hb⟩
theorem RwAt.nil (k : Nat) (w : World) (sp : Option Addr) (cap : Nat) : RwAt k w (.slice sp 0 cap) [] := ⟨fun x hx => by simp at hx, sp, cap, rfl, by simp, fun h => by simp at h⟩
theorem RwAt.len {k : Nat} {w : World} {sp : Option Addr} {n cap : Nat} {L : List (List Value)} (h : RwAt k w (.slice sp n cap) L) : n = L.length ∧ n ≤ cap := by
  obtain ⟨_, sp', cap', hv, hc, _⟩ := h
  cases hv
  exact ⟨rfl, hc⟩
theorem RwAt.shape {k : Nat} {w : World} {v : Value} {L : List (List Value)} (h : RwAt k w v L) : ∃ sp cap, v = .slice sp L.length cap := by
  obtain ⟨_, sp, cap, hv, _⟩ := h
  exact ⟨sp, cap, hv⟩
/-- Where they lie. -/
theorem RwAt.get {k : Nat} {w : World} {sp : Option Addr} {n cap : Nat} {L : List (List Value)} (h : RwAt k w (.slice sp n cap) L) (h0 : 0 < n) : ∃ b o, sp = some ⟨b, o, none⟩ ∧ ∀ i x, L[i]? = some x → w.rangeAt b (o + i * k) x := by
  obtain ⟨ho, sp', cap', hv, hc, hr⟩ := h
  cases hv
  exact hr h0
/-- A row of one's own. -/
def RwOwn (k : Nat) (T : TypeId) (base : Nat) (w : World) (v : Value) (L : List (List Value)) : Prop := w.ownsRow base T k v L.length L.flatten ∧ AllK k L
theorem RwOwn.nil (k : Nat) (T : TypeId) (base : Nat) (w : World) : RwOwn k T base w (.slice none 0 0) [] := ⟨World.ownsRow_nil _ _ _ _, fun _ h => absurd h (by simp)⟩
section
variable {k : Nat} {T : TypeId} {base : Nat} {w w' : World} {v v' : Value} {L : List (List Value)}
theorem RwOwn.keep (h : RwOwn k T base w v L) (hb : Below w.heap.size w w') : RwOwn k T base w' v L := ⟨own_kept h.1 hb, h.2⟩
theorem RwOwn.kept (h : RwOwn k T base w v L) {q : Option Nat} (hg : w.grownBy w' q) (hb : v.ownBlock = none ∨ v.ownBlock ≠ q) : RwOwn k T base w' v L := ⟨h.1.kept hg hb, h.2⟩
theorem RwOwn.push {x : List Value} (ho : AllK k L) (hx : x.length = k) (hown : w'.ownsRow base T k v' (L.length + 1) (L.flatten ++ x)) : RwOwn k T base w' v' (L ++ [x]) := by
  refine ⟨?_, ho.snoc hx⟩
  rw [flatten_snoc, List.length_append]
  exact hown
/-- Such a row as a slice. -/
theorem RwOwn.at (h : RwOwn k T base w v L) (hk : 0 < k) : RwAt k w v L := by
  obtain ⟨h2, h3⟩ := h
  refine ⟨h3, ?_⟩
  rcases h2.2 with ⟨hv, h0⟩ | ⟨g, cap, cur, hv, hb, hc, hn, hm, hs, ht⟩
  · exact ⟨none, 0, by rw [hv, h0], by omega, fun h => by omega⟩
  · subst hv
    refine ⟨_, cap, rfl, hn, fun h0 => ⟨g, 0, rfl, fun i x hx => ?_⟩⟩
    have hi := (List.getElem?_eq_some_iff.1 hx).1
    have hxo := h3.get hx
    intro j u hj
    have hjk : j < k := by
      have := (List.getElem?_eq_some_iff.1 hj).1
      omega
    have hlt : i * k + j < L.length * k := by
      have : (i + 1) * k ≤ L.length * k := Nat.mul_le_mul_right _ hi
      rw [Nat.add_mul, Nat.one_mul] at this
      omega
    rw [Nat.zero_add, h2.cellAt (i * k + j) hlt, flatten_get L i x h3 hx j hjk]
    exact hj
end
/-- A part of such a slice. -/
theorem RwAt.cut {k : Nat} {w : World} {sp : Option Addr} {n cap : Nat} {L : List (List Value)} (h : RwAt k w (.slice sp n cap) L) (i r : Nat) (h1 : i ≤ r) (h2 : r ≤ n) : RwAt k w (sliced sp i r cap k) ((L.take r).drop i) := by
  have hn := h.len
  have hok := h.1
  have hl : ((L.take r).drop i).length = r - i := by rw [List.length_drop, List.length_take]; omega
  refine ⟨fun x hx => hok x (List.mem_of_mem_take (List.mem_of_mem_drop hx)), if cap = i then sp else sp.map (·.add (i * k)), cap - i, by rw [sliced, hl], by omega, fun h0 => ?_⟩
  obtain ⟨_, sp', cap', hv, hc, hr⟩ := h
  cases hv
  obtain ⟨b, o, hs, hx⟩ := hr (by omega)
  subst hs
  refine ⟨b, o + i * k, by rw [if_neg (by omega)]; simp [Addr.add_mid], fun j x hj => ?_⟩
  have hj2 : j < r - i := by have := (List.getElem?_eq_some_iff.1 hj).1; omega
  rw [List.getElem?_drop, List.getElem?_take_of_lt (by omega)] at hj
  have := hx (i + j) x hj
  rwa [show o + (i + j) * k = o + i * k + j * k by rw [Nat.add_mul]; omega] at this
end Go.Proofs.YtbgagaaoldjhnaaGreatDoor.Sha

/-
  What a fact stands on: 'Kps F w w'': w' is w in the blocks of F, and may have more; 'Sty F w P': P holds in each such world. No conditions.
-/
namespace Go.Proofs.YtbgagaaoldjhnaaGreatDoor.Sha
open Go Go.RowKit
/-- In the blocks of F the world w' is as w was; the streams too. -/
structure Kps (F : Nat → Prop) (w w' : World) : Prop where
  os : w'.os = w.os
  tape : w'.tape = w.tape
  output : w'.output = w.output
  size : w.heap.size ≤ w'.heap.size
  block : ∀ k, k < w.heap.size → F k → w'.heap[k]? = w.heap[k]?
theorem Kps.refl (F : Nat → Prop) (w : World) : Kps F w w := ⟨rfl, rfl, rfl, Nat.le_refl _, fun _ _ _ => rfl⟩
theorem Kps.trans {F : Nat → Prop} {a b c : World} (h : Kps F a b) (k : Kps F b c) : Kps F a c :=
  ⟨k.os.trans h.os, k.tape.trans h.tape, k.output.trans h.output, Nat.le_trans h.size k.size, fun i hi hf => (k.block i (Nat.lt_of_lt_of_le hi h.size) hf).trans (h.block i hi hf)⟩
theorem Kps.mono {F G : Nat → Prop} {w w' : World} (h : Kps F w w') (hs : ∀ k, k < w.heap.size → G k → F k) : Kps G w w' :=
  ⟨h.os, h.tape, h.output, h.size, fun k hk hg => h.block k hk (hs k hk hg)⟩
theorem Kps.below {F : Nat → Prop} {B : Nat} {w w' : World} (h : Below B w w') (hs : ∀ k, k < w.heap.size → F k → k < B) : Kps F w w' :=
  ⟨h.os, h.tape, h.output, h.size, fun k hk hf => h.block k (hs k hk hf)⟩
theorem Kps.new {F : Nat → Prop} {w w' : World} (h : Below w.heap.size w w') : Kps F w w' := Kps.below h fun _ hk _ => hk
theorem Kps.grown {F : Nat → Prop} {q : Option Nat} {w w' : World} (h : w.grownBy w' q) (hs : ∀ k, k < w.heap.size → F k → some k ≠ q) : Kps F w w' :=
  ⟨h.os, h.tape, h.output, h.size, fun k hk hf => h.block k hk (hs k hk hf)⟩
theorem Kps.toBelow {F : Nat → Prop} {w w' : World} (h : Kps F w w') (hs : ∀ k, k < w.heap.size → F k) : Below w.heap.size w w' :=
  ⟨h.os, h.tape, h.output, h.size, fun k hk => h.block k hk (hs k hk)⟩
/-- P holds in every world that is as w in the blocks of F. -/
def Sty (F : Nat → Prop) (w : World) (P : World → Prop) : Prop := ∀ w', Kps F w w' → P w'
theorem Sty.now {F : Nat → Prop} {w : World} {P : World → Prop} (h : Sty F w P) : P w := h w (Kps.refl _ _)
theorem Sty.on {F : Nat → Prop} {w w' : World} {P : World → Prop} (h : Sty F w P) (hk : Kps F w w') : Sty F w' P := fun w'' h2 => h w'' (hk.trans h2)
theorem Sty.imp {F G : Nat → Prop} {w : World} {P Q : World → Prop} (h : Sty F w P) (hs : ∀ k, k < w.heap.size → F k → G k) (hq : ∀ w', P w' → Q w') : Sty G w Q :=
  fun w' hk => hq _ (h w' (hk.mono hs))
/-- What stands while old blocks stand. -/
theorem Sty.all {w : World} {P : World → Prop} (h : ∀ w', Below w.heap.size w w' → P w') : Sty (fun k => k < w.heap.size) w P :=
  fun w' hk => h w' (hk.toBelow fun _ h => h)
theorem row_kps {F : Nat → Prop} {w w' : World} {g : Nat} {o : Obj} (h : w.heap[g]? = some o) (hk : Kps F w w') (hf : F g) : w'.heap[g]? = some o := by
  rw [hk.block g (Array.getElem?_eq_some_iff.1 h).1 hf]
  exact h
theorem SrcB.kps {F : Nat → Prop} {w w' : World} {v : Value} {bs : List UInt8} (h : SrcB w v bs) (ho : ∀ sp n cap, v = .slice (some sp) n cap → 0 < n → F sp.block) (hk : Kps F w w') : SrcB w' v bs := by
  rcases h with h | ⟨h0, bb, off, cap, hv, hc, hs⟩
  · exact .inl h
  · refine .inr ⟨h0, bb, off, cap, hv, hc, fun j hj => ?_⟩
    rw [World.cell?_of_block (hk.block bb (SrcB.block h0 hs) (ho _ _ _ hv h0))]
    exact hs j hj
theorem KeyAt.kps {F : Nat → Prop} {w w' : World} {kv : Value} {key : List UInt8} (h : KeyAt w kv key) (ho : ∀ sp n cap, kv = .slice (some sp) n cap → 0 < n → F sp.block) (hk : Kps F w w') : KeyAt w' kv key := ⟨h.1.kps ho hk, h.2⟩
theorem own_kps {F : Nat → Prop} {w w' : World} {base n size : Nat} {e : TypeId} {v : Value} {xs : List Value} (h : w.ownsRow base e size v n xs) (hk : Kps F w w') (hf : ∀ k, base ≤ k → F k) : w'.ownsRow base e size v n xs := by
  refine ⟨h.1, ?_⟩
  rcases h.2 with hn | ⟨g, cap, cur, rfl, hb, hg, rest⟩
  · exact .inl hn
  · exact .inr ⟨g, cap, cur, rfl, hb, row_kps hg hk (hf g hb), rest⟩
theorem InsOwn.kps {F : Nat → Prop} {w w' : World} {base : Nat} {v : Value} {l : List TIn} {ks : List Value} (h : InsOwn base w v l ks) (hk : Kps F w w') (hf : ∀ k, base ≤ k → F k) : InsOwn base w' v l ks :=
  ⟨h.1, own_kps h.2.1 hk hf, h.2.2.1, fun i x kv hx hkv => ⟨(h.2.2.2 i x kv hx hkv).1.kps (fun sp n cap hv h0 => hf _ (Nat.le_of_not_lt fun hlt => (h.2.2.2 i x kv hx hkv).2.1 sp.block hlt sp n cap hv h0 rfl)) hk, (h.2.2.2 i x kv hx hkv).2⟩⟩
theorem OutsOwn.kps {F : Nat → Prop} {w w' : World} {base : Nat} {v : Value} {m : List TOut} (h : OutsOwn base w v m) (hk : Kps F w w') (hf : ∀ k, base ≤ k → F k) : OutsOwn base w' v m := ⟨own_kps h.1 hk hf, h.2⟩
/-- A transaction in memory that was made since w. -/
def TxNew (w w' : World) (v : Value) (t : TTx) : Prop := Sty (fun k => w.heap.size ≤ k) w' (fun W => TxAt W v t)
theorem TxNew.at {w w' : World} {v : Value} {t : TTx} (h : TxNew w w' v t) : TxAt w' v t := h.now
end Go.Proofs.YtbgagaaoldjhnaaGreatDoor.Sha

/-
  A map of coins by their places: what is found, put, taken away, counted, ranged over. Conditions: places and coins as the model has them.
-/
namespace Go.Proofs.YtbgagaaoldjhnaaGreatDoor.Sha
open Go Go.RowKit Go.MapKept
open Go.ChangeMaps (setBlock heap_setBlock_same heap_setBlock_other)
theorem cn_laidOut : laidOutB Tryz.prog = true := by kernel_rfl
theorem types_two : 2 ≤ Tryz.prog.types.size := of_decide_eq_true (by kernel_rfl)
theorem mapM_some {α β : Type} {f : α → Option β} : ∀ (L : List α), (∀ i ∈ L, ∃ y, f i = some y) → ∃ ys, L.mapM f = some ys
  | [], _ => ⟨[], rfl⟩
  | a :: L, h => by
    obtain ⟨y, hy⟩ := h a List.mem_cons_self
    obtain ⟨ys, hys⟩ := mapM_some L (fun i hi => h i (List.mem_cons_of_mem _ hi))
    exact ⟨y :: ys, by simp [List.mapM_cons, hy, hys]⟩
theorem cm_lits_u8 (D : Nat) (x : UInt8) : Tryz.prog.keyLits (D + 1) 5 [bV x] = some [.int .u8 (bv x)] := by
  have hw : (Lit.int .u8 (bv x)).wf = true := by
    have := bv_bd x
    simp [Lit.wf, IntKind.min, IntKind.max, IntKind.signed, IntKind.bits]
    omega
  simp [Program.keyLits, Tryz.underlying5, bV, hw]
theorem keyLits_arr {P : Program} {D n : Nat} {e t : TypeId} (hu : P.underlying t = some (.array n e)) (cs : List Value) (hl : cs.length = P.cellsOf t) :
    P.keyLits (D + 1) t cs = ((List.range n).mapM fun i => P.keyLits D e ((cs.drop (i * P.cellsOf e)).take (P.cellsOf e))).map List.flatten := by
  conv => lhs; unfold Program.keyLits
  simp only [hu]
  rw [if_pos hl]
theorem cm_lits_hash (D : Nat) (h : List UInt8) (hh : h.length = 32) : ∃ l, Tryz.prog.keyLits (D + 2) 25 (h.map bV) = some l := by
  have c1 : Tryz.prog.cellsOf 25 = 32 := by kernel_rfl
  have c2 : Tryz.prog.cellsOf 5 = 1 := by kernel_rfl
  obtain ⟨ys, hys⟩ := mapM_some (f := fun i => Tryz.prog.keyLits (D + 1) 5 (((h.map bV).drop (i * 1)).take 1)) (List.range 32) (fun i hi => by
    have hi2 : i < h.length := by rw [hh]; exact List.mem_range.1 hi
    have e : ((h.map bV).drop (i * 1)).take 1 = [bV (h[i]'hi2)] := by
      rw [Nat.mul_one, ← List.map_drop, List.drop_eq_getElem_cons hi2]
      rfl
    exact ⟨_, by show Tryz.prog.keyLits (D + 1) _ _ = _; rw [e]; exact cm_lits_u8 D _⟩)
  refine ⟨ys.flatten, ?_⟩
  rw [keyLits_arr Tryz.underlying25 _ (by rw [List.length_map, hh, c1]), c2, hys]
  rfl
/-! The map. -/
def enE (x : TSp) : Value × Value := (.agg (ptC x.at_).toArray, .agg (mnL x.coin).toArray)
def kvE (e : MapEntry) : Value × Value := (e.key, e.val)
/-- Block b is a map of these coins. -/
def MapAt (w : World) (b : Nat) (l : List TSp) : Prop :=
  ∃ es clock, w.heap[b]? = some (.map es clock) ∧ Stamped es clock ∧ es.toList.map kvE = l.map enE ∧ ∀ x ∈ l, SpOk x
/-- A map's value: none, or a block. -/
def MapO (w : World) (m : Option Nat) (l : List TSp) : Prop :=
  match m with
  | none => l = []
  | some b => MapAt w b l
section
variable {w : World} {b : Nat} {l : List TSp}
/-- No place has two coins. -/
theorem MapAt.apart (h : MapAt w b l) : l.Pairwise (fun x y => x.at_ ≠ y.at_) := by
  obtain ⟨es, clock, _, hs, he, _⟩ := h
  have h1 := ((stamped_iff es clock).1 hs).2.2
  have h2 : (es.toList.map kvE).Pairwise (fun p q => p.1 ≠ q.1) := by
    rw [List.pairwise_map]
    exact h1
  rw [he, List.pairwise_map] at h2
  exact h2.imp (fun {x y} hne e => hne (by show Value.agg _ = .agg _; rw [e]))
theorem MapAt.ok (h : MapAt w b l) : ∀ x ∈ l, SpOk x := by
  obtain ⟨_, _, _, _, _, ho⟩ := h
  exact ho
theorem MapAt.lt (h : MapAt w b l) : b < w.heap.size := by
  obtain ⟨_, _, hb, _⟩ := h
  exact (Array.getElem?_eq_some_iff.1 hb).1
theorem MapAt.kps {F : Nat → Prop} {w' : World} (h : MapAt w b l) (hk : Kps F w w') (hf : F b) : MapAt w' b l := by
  obtain ⟨es, clock, hb, h2⟩ := h
  exact ⟨es, clock, row_kps hb hk hf, h2⟩
theorem MapO.apart {m : Option Nat} (h : MapO w m l) : l.Pairwise (fun x y => x.at_ ≠ y.at_) := by
  cases m with
  | none => rw [show l = [] from h]; exact List.Pairwise.nil
  | some b => exact MapAt.apart h
theorem MapO.ok {m : Option Nat} (h : MapO w m l) : ∀ x ∈ l, SpOk x := by
  cases m with
  | none => rw [show l = [] from h]; simp
  | some b => exact MapAt.ok h
theorem MapO.kps {F : Nat → Prop} {w' : World} {m : Option Nat} (h : MapO w m l) (hk : Kps F w w') (hf : ∀ b, m = some b → F b) : MapO w' m l := by
  cases m with
  | none => exact h
  | some b => exact MapAt.kps h hk (hf b rfl)
/-! Ranging. -/
/-- Block r goes over the map m; these are still to come. -/
def IterAt (w : World) (m : Option Nat) (r : Nat) (rest : List TSp) : Prop :=
  match m with
  | none => rest = [] ∧ w.heap[r]? = some (.mapIter none 0 #[] 0)
  | some b => ∃ es clock since seen c0, w.heap[b]? = some (.map es clock) ∧ Stamped es clock ∧ w.heap[r]? = some (.mapIter (some b) since seen c0) ∧ (∀ x ∈ es.toList, x.born < since) ∧ since ≤ c0 ∧ since ≤ clock ∧
    (leftOf es seen).toList.map kvE = rest.map enE ∧ ∀ x ∈ rest, SpOk x
theorem IterAt.kps {F : Nat → Prop} {w' : World} {m : Option Nat} {r : Nat} {rest : List TSp} (h : IterAt w m r rest) (hk : Kps F w w') (hf : ∀ b, m = some b → F b) (hr : F r) : IterAt w' m r rest := by
  cases m with
  | none => exact ⟨h.1, row_kps h.2 hk hr⟩
  | some b =>
    obtain ⟨es, clock, since, seen, c0, hb, h1, h2, h3⟩ := h
    exact ⟨es, clock, since, seen, c0, row_kps hb hk (hf b rfl), h1, row_kps h2 hk hr, h3⟩
theorem IterAt.below {w' : World} {m : Option Nat} {r : Nat} {rest : List TSp} (h : IterAt w m r rest) (hb : Below w.heap.size w w') : IterAt w' m r rest := by
  cases m with
  | none => exact ⟨h.1, row_below h.2 hb⟩
  | some b =>
    obtain ⟨es, clock, since, seen, c0, h0, h1, h2, h3⟩ := h
    exact ⟨es, clock, since, seen, c0, row_below h0 hb, h1, row_below h2 hb, h3⟩
end
end Go.Proofs.YtbgagaaoldjhnaaGreatDoor.Sha

/-
  A set of coins in memory: how many, what is at a place. Nothing that was there turns. Conditions: the set lies where the pointer says; a place as the model has it.
-/
namespace Go.Proofs.YtbgagaaoldjhnaaGreatDoor.Sha
open Go Go.RowKit
theorem yieldsIf_lookup {P : Program} {ops : Array Oper} {S : World → Prop} {op : Oper} {a : Act} (hw : Region.wanted op (yielded ops a.tmps) = true) (t : TypeId) (x y : Operand) (c : Bool) (ho : op.op = .lookup t x y c)
    (u v z : Value) (hx : a.eval x = u) (hy : a.eval y = v) (h : ∀ w, S w → (Instr.lookup t u v c).run P w = .ok z w) : YieldsIf P ops S op z a :=
  .inl ⟨hw, fun w hw' => by
    unfold execOp
    simp [ho, hx, hy, h w hw', Sem.run_bind, Result.andThen]⟩
section
variable {w w' : World} {a : Nat} {m : Option Nat} {l : List TSp}
theorem MapO.lt (h : MapO w m l) : ∀ b, m = some b → b < w.heap.size := fun b e => by
  subst e
  exact MapAt.lt h
end
end Go.Proofs.YtbgagaaoldjhnaaGreatDoor.Sha

/-
  A coin is spent, or added; the map alone turns, and the set's box where it had none. Conditions: the set lies where the pointer says; a place, a coin as the model has them; the errors are there.
-/
namespace Go.Proofs.YtbgagaaoldjhnaaGreatDoor.Sha
open Go Go.RowKit
theorem Kps.far {F : Nat → Prop} {w w1 w2 : World} {g : Nat} (h : Kps F w w1) (hg : w1.grownBy w2 (some g)) (hge : w.heap.size ≤ g) : Kps F w w2 :=
  ⟨hg.os.trans h.os, hg.tape.trans h.tape, hg.output.trans h.output, Nat.le_trans h.size hg.size, fun k hk hf => (hg.block k (Nat.lt_of_lt_of_le hk h.size) (fun e => by have := Option.some.inj e; omega)).trans (h.block k hk hf)⟩
/-- The errors that a set tells. -/
structure EC (w : World) (E : Nat → Addr) : Prop where
  value : w.cell? ⟨8, 0, none⟩ = some (errV E 5)
  twice : w.cell? ⟨9, 0, none⟩ = some (errV E 6)
  missing : w.cell? ⟨14, 0, none⟩ = some (errV E 13)
theorem cell_below {w w' : World} {p : Addr} {v : Value} (h : w.cell? p = some v) (hb : Below w.heap.size w w') : w'.cell? p = some v := by
  rw [hb.cell (World.block_lt_of_cell? w _ h)]
  exact h
theorem EC.below {w w' : World} {E : Nat → Addr} (h : EC w E) (hb : Below w.heap.size w w') : EC w' E := ⟨cell_below h.value hb, cell_below h.twice hb, cell_below h.missing hb⟩
end Go.Proofs.YtbgagaaoldjhnaaGreatDoor.Sha

/-
  The statements' own tree: a box with an own row of nodes; where a block is. Nothing that was there turns. Conditions: the tree lies where the pointer says, nodes as the model has them, at most 4096.
-/
namespace Go.Proofs.YtbgagaaoldjhnaaGreatDoor.Sha
open Go Go.RowKit
/-- A node. -/
structure TNd where
  id : List UInt8
  h : THd
  parent : Int
  height : Int
  work : Nat
  bad : Bool
def ndL (x : TNd) : List Value := x.id.map bV ++ (hdL x.h ++ [.int .i64 x.parent, .int .i64 x.height, .int .u64 (x.work : Int), .bool x.bad])
def NdOk (x : TNd) : Prop := x.id.length = 32 ∧ HdOk x.h ∧ -1 ≤ x.parent ∧ x.parent ≤ 4096 ∧ 0 ≤ x.height ∧ x.height ≤ 4096 ∧ x.work ≤ 18446744073709551615
theorem ndL_one (x : TNd) : ∀ v ∈ ndL x, v.oneCell' = true := by
  intro v hv
  rcases List.mem_append.1 hv with h | h
  · exact bV_one' _ v h
  rcases List.mem_append.1 h with h | h
  · exact hdL_one' _ v h
  · simp only [List.mem_cons, List.not_mem_nil, or_false] at h
    rcases h with rfl | rfl | rfl | rfl <;> rfl
def ndZ : TNd := ⟨List.replicate 32 0, ⟨0, List.replicate 32 0, List.replicate 32 0, 0, 0, 0⟩, 0, 0, 0, false⟩
theorem info_node : (Tryz.prog.info? 78).map (fun i => (i.zero, i.size, i.bytes)) = some (some (.agg (ndL ndZ).toArray), 104, 144) := by kernel_rfl
/-- What of it lies where. -/
theorem nd_id {w : World} {b o : Nat} {x : TNd} (h : w.rangeAt b o (ndL x)) : w.rangeAt b o (x.id.map bV) := fun j v hj => h j v (by
  rw [ndL, List.getElem?_append_left (List.getElem?_eq_some_iff.1 hj).1]
  exact hj)
theorem nd_tail {w : World} {b o : Nat} {x : TNd} (hx : NdOk x) (h : w.rangeAt b o (ndL x)) : w.rangeAt b (o + 32) (hdL x.h ++ [.int .i64 x.parent, .int .i64 x.height, .int .u64 (x.work : Int), .bool x.bad]) := fun j v hj => by
  have := h (32 + j) v (by
    rw [ndL, List.getElem?_append_right (by simp [hx.1]), List.length_map, hx.1, Nat.add_sub_cancel_left]
    exact hj)
  rwa [show o + (32 + j) = o + 32 + j by omega] at this
theorem nd_head {w : World} {b o : Nat} {x : TNd} (hx : NdOk x) (h : w.rangeAt b o (ndL x)) : w.rangeAt b (o + 32) (hdL x.h) := fun j v hj => nd_tail hx h j v (by
  rw [List.getElem?_append_left (List.getElem?_eq_some_iff.1 hj).1]
  exact hj)
theorem nd_nums {w : World} {b o : Nat} {x : TNd} (hx : NdOk x) (h : w.rangeAt b o (ndL x)) : w.cell? ⟨b, o + 100, none⟩ = some (.int .i64 x.parent) ∧ w.cell? ⟨b, o + 101, none⟩ = some (.int .i64 x.height) ∧ w.cell? ⟨b, o + 102, none⟩ = some (.int .u64 (x.work : Int)) ∧ w.cell? ⟨b, o + 103, none⟩ = some (.bool x.bad) := by
  have hl := hdL_length hx.2.1
  have ht := nd_tail hx h
  have g : ∀ (j : Nat) (v : Value), [Value.int .i64 x.parent, .int .i64 x.height, .int .u64 (x.work : Int), .bool x.bad][j]? = some v → w.cell? ⟨b, o + (100 + j), none⟩ = some v := fun j v hj => by
    have := ht (68 + j) v (by
      rw [List.getElem?_append_right (by rw [hl]; omega), hl, Nat.add_sub_cancel_left]
      exact hj)
    have e : (⟨b, o + 32 + (68 + j), none⟩ : Addr) = ⟨b, o + (100 + j), none⟩ := by congr 1; omega
    rwa [e] at this
  exact ⟨g 0 _ rfl, g 1 _ rfl, g 2 _ rfl, g 3 _ rfl⟩
/-- The tree: its row is one's own. -/
structure TreeAt (w : World) (base a : Nat) (v : Value) (L : List TNd) : Prop where
  box : w.heap[a]? = some (.cells #[v] 81 (0, 0))
  row : RwOwn 104 78 base w v (L.map ndL)
section
variable {w w' : World} {base a : Nat} {v : Value} {L : List TNd}
theorem TreeAt.below (h : TreeAt w base a v L) (hb : Below w.heap.size w w') : TreeAt w' base a v L := ⟨row_below h.box hb, h.row.keep hb⟩
theorem TreeAt.at (h : TreeAt w base a v L) : RwAt 104 w v (L.map ndL) := h.row.at (by omega)
theorem TreeAt.cell (h : TreeAt w base a v L) : w.cell? ⟨a, 0, none⟩ = some v := by
  rw [cell_of_row _ _ _ _ _ _ h.box]
  rfl
theorem TreeAt.kps {F : Nat → Prop} (h : TreeAt w base a v L) (hk : Kps F w w') (ha : F a) (hf : ∀ b, v.ownBlock = some b → F b) : TreeAt w' base a v L := by
  refine ⟨row_kps h.box hk ha, ?_, h.row.2⟩
  obtain ⟨h1, h2⟩ := h.row.1
  refine ⟨h1, ?_⟩
  rcases h2 with h2 | ⟨g, cap, cur, hv, hb, hc, h3⟩
  · exact .inl h2
  · exact .inr ⟨g, cap, cur, hv, hb, row_kps hc hk (hf g (by rw [hv]; rfl)), h3⟩
/-- Where its nodes lie. -/
theorem TreeAt.get {sp : Option Addr} {n cap : Nat} (h : TreeAt w base a (.slice sp n cap) L) (h0 : 0 < n) : ∃ b o, sp = some ⟨b, o, none⟩ ∧ ∀ i x, L[i]? = some x → w.rangeAt b (o + i * 104) (ndL x) := by
  obtain ⟨b, o, hs, hg⟩ := h.at.get h0
  exact ⟨b, o, hs, fun i x hx => hg i (ndL x) (by rw [List.getElem?_map, hx]; rfl)⟩
end
/-- Where a block is; -1. -/
def findT (L : List TNd) (id : List UInt8) : Int := match L.findIdx? (fun x => decide (x.id = id)) with | some k => (k : Int) | none => -1
theorem findT_some {L : List TNd} {id : List UInt8} {k : Nat} {x : TNd} (hx : L[k]? = some x) (hi : x.id = id) (hlt : ∀ (j : Nat) (y : TNd), j < k → L[j]? = some y → y.id ≠ id) : findT L id = (k : Int) := by
  have h : L.findIdx? (fun x => decide (x.id = id)) = some k := by
    rw [List.findIdx?_eq_some_iff_getElem]
    obtain ⟨hk, e⟩ := List.getElem?_eq_some_iff.1 hx
    exact ⟨hk, by rw [e]; simp [hi], fun j hj => by
      have := hlt j L[j] hj (List.getElem?_eq_getElem (by omega))
      simp [this]⟩
  unfold findT
  rw [h]
theorem findT_none {L : List TNd} {id : List UInt8} (h : ∀ (j : Nat) (y : TNd), L[j]? = some y → y.id ≠ id) : findT L id = -1 := by
  have h : L.findIdx? (fun x => decide (x.id = id)) = none := by
    rw [List.findIdx?_eq_none_iff]
    intro y hy
    obtain ⟨j, hj⟩ := List.getElem?_of_mem hy
    have := h j y hj
    simp [this]
  unfold findT
  rw [h]
theorem findT_cases (L : List TNd) (id : List UInt8) : (findT L id = -1 ∧ ∀ x ∈ L, x.id ≠ id) ∨ ∃ (k : Nat) (x : TNd), findT L id = (k : Int) ∧ L[k]? = some x ∧ x.id = id ∧ ∀ (j : Nat) (y : TNd), j < k → L[j]? = some y → y.id ≠ id := by
  cases h : L.findIdx? (fun x => decide (x.id = id)) with
  | none =>
    refine .inl ⟨by unfold findT; rw [h], fun x hx => ?_⟩
    have := List.findIdx?_eq_none_iff.1 h x hx
    simpa using this
  | some k =>
    obtain ⟨hk, h1, h2⟩ := List.findIdx?_eq_some_iff_getElem.1 h
    refine .inr ⟨k, L[k], by unfold findT; rw [h], List.getElem?_eq_getElem hk, by simpa using h1, fun j y hj hy => ?_⟩
    have := h2 j hj
    obtain ⟨hj2, e⟩ := List.getElem?_eq_some_iff.1 hy
    rw [← e]
    simpa using this
def FdInv (n : Nat) (L : List TNd) (id : List UInt8) (w1 : World) (vi : Value) (wr : World) : Prop :=
  ∃ k : Nat, k ≤ n ∧ vi = .int .i64 (k : Int) ∧ (∀ (j : Nat) (y : TNd), j < k → L[j]? = some y → y.id ≠ id) ∧ Below w1.heap.size w1 wr
set_option maxHeartbeats 2000000 in
set_option maxRecDepth 100000 in
theorem rfind_any (w : World) (base a : Nat) (v : Value) (L : List TNd) (id : List UInt8) (h : TreeAt w base a v L) (ho : ∀ x ∈ L, NdOk x) (hid : id.length = 32) (hn : L.length ≤ 4096) :
    Calls Tryz.prog 35 #[(.pointer (some ⟨a, 0, none⟩)), .agg (id.map bV).toArray] w fun e w' => e = .returned (.int .i64 (findT L id)) ∧ Below w.heap.size w w' := by
  obtain ⟨sp, cap, rfl⟩ := h.at.shape
  rw [List.length_map] at h
  obtain ⟨n, hnl⟩ : ∃ n, n = L.length := ⟨_, rfl⟩
  rw [← hnl] at h hn
  have N := Lib.hid hnl
  have HT := Lib.hid h
  have OK := Lib.hid ho
  have ID := Lib.hid hid
  have LI : Hid ((id.map bV).toArray.size = 32) := by show _ = _; simp [hid]
  obtain ⟨ci, hci⟩ : ∃ ci, ci = id.map bV := ⟨_, rfl⟩
  rw [← hci] at LI ⊢
  have CI := Lib.hid hci
  clear hnl h ho hid hci
  go_enter Tryz.func35, Tryz.ntmps35
  go_upto_region 1 with fail
  have f3 := heap_alloc_new w (.cells ci.toArray 25 (0, 0))
  have b1 := (Below.refl w.heap.size w).alloc (Nat.le_refl _) (.cells ci.toArray 25 (0, 0))
  generalize hw1 : World.alloc _ _ = w1
  have e1 : w.alloc (.cells ci.toArray 25 (0, 0)) = w1 := hw1
  rw [e1] at f3 b1
  obtain ⟨g3, hg3⟩ : ∃ g3, g3 = w.heap.size := ⟨_, rfl⟩
  rw [← hg3] at f3 ⊢
  have F3 := Lib.hid f3
  have B1 := Lib.hid b1
  have HT := Lib.hid (HT.out.below b1)
  clear f3 b1 hw1 e1 hg3
  go_wp2_with fail
  go_loopw [5] (fun vi wr => FdInv n L id w1 vi wr) (fun i _ => n - (intOf i).toNat)
  case atStart => exact ⟨0, Nat.zero_le _, rfl, fun j y hj => absurd hj (by omega), Below.refl _ _⟩
  case round =>
    obtain ⟨k, hk, rfl, hlow, hb⟩ := hrel
    have LOW := Lib.hid hlow
    have BB := Lib.hid hb
    have TC := (HT.out.below hb).cell
    clear hlow hb
    by_cases hlt : k < n
    · obtain ⟨b, o, rfl, hg⟩ := (HT.out.below BB.out).get (by omega)
      obtain ⟨x, hx⟩ : ∃ x, L[k]? = some x := ⟨_, List.getElem?_eq_getElem (by rw [← N.out]; exact hlt)⟩
      have ox := OK.out x (List.mem_of_getElem? hx)
      have RX := Lib.hid (nd_id (hg k x hx))
      have LX : Hid ((x.id.map bV).length = 32) := by show _ = _; rw [List.length_map]; exact ox.1
      have SA : Hid (∀ W, Calls Tryz.prog 20 #[.agg (x.id.map bV).toArray, .agg ci.toArray] W fun e w' => e = .returned (.bool (decide (x.id = id))) ∧ Below W.heap.size W w') := fun W => by rw [CI.out]; exact same_any x.id id ox.1 ID.out W
      obtain ⟨q, hq⟩ : ∃ q, q = decide (x.id = id) := ⟨_, rfl⟩
      rw [← hq] at SA
      have QE := Lib.hid hq
      have XK := Lib.hid hx
      have q0 : (k : Int) < (n : Int) := by omega
      obtain ⟨cx, hcx⟩ : ∃ cx, cx = x.id.map bV := ⟨_, rfl⟩
      rw [← hcx] at RX LX SA
      clear hg hx ox hq hcx
      have TCh := Lib.hid TC
      go_upto_region 4 with fail
      refine wp_region_held_drew (S := (fun w' => Below wr.heap.size wr w')) (by kernel_rfl) (Below.drew (Below.refl _ _)) (fun hHeld => ?_)
      generalize hwd : wr.drew = wd at  hHeld ⊢
      clear hwd
      refine held_take (i := 0) (v := (.pointer (some ⟨a, 0, none⟩))) rfl (by kernel_rfl) (by kernel_rfl) (by kernel_rfl) (fun _ _ _ h => h) (Or.inl ⟨by rfl, fun w' _ => by kernel_rfl⟩) hHeld ?_
      go_frame
      refine held_take (i := 1) (v := (.pointer (some ⟨a, 0, none⟩))) rfl (by kernel_rfl) (by kernel_rfl) (by kernel_rfl) (fun _ _ _ h => h) (Or.inl ⟨by rfl, fun w' _ => by kernel_rfl⟩) hHeld ?_
      go_frame
      refine held_take (i := 2) (v := (.pointer (some ⟨a, 0, none⟩))) rfl (by kernel_rfl) (by kernel_rfl) (by kernel_rfl) (fun _ _ _ h => h) (Or.inl ⟨by rfl, fun w' _ => by kernel_rfl⟩) hHeld ?_
      go_frame
      refine held_take (i := 3) (v := (.slice (some ⟨b, o, none⟩) n cap)) rfl (by kernel_rfl) (by kernel_rfl) (by kernel_rfl) (fun _ _ _ h => h) (yieldsIf_load_one (by rfl) 79 (.tmp 17) rfl a (0) rfl _ _ (fun w' hw' => cell_below TCh.out hw') Tryz.underlying79 rfl) hHeld ?_
      go_frame
      refine held_take (i := 4) (v := (.int .i64 (k : Int))) rfl (by kernel_rfl) (by kernel_rfl) (by kernel_rfl) (fun _ _ _ h => h) (Or.inl ⟨by rfl, fun w' _ => by kernel_rfl⟩) hHeld ?_
      go_frame
      refine held_take (i := 5) (v := (.pointer (some ⟨b, o + k * 104, none⟩))) rfl (by kernel_rfl) (by kernel_rfl) (by kernel_rfl) (fun _ _ _ h => h) (Or.inl ⟨by rfl, fun w' _ => by go_simp⟩) hHeld ?_
      go_frame
      refine held_take (i := 6) (v := (.pointer (some ⟨b, o + k * 104, none⟩))) rfl (by kernel_rfl) (by kernel_rfl) (by kernel_rfl) (fun _ _ _ h => h) (Or.inl ⟨by rfl, fun w' _ => by kernel_rfl⟩) hHeld ?_
      go_frame
      refine held_take (i := 7) (v := (.agg cx.toArray)) rfl (by kernel_rfl) (by kernel_rfl) (by kernel_rfl) (fun _ _ _ h => h) (Sha.yieldsIf_load_mid (by rfl) 25 (.tmp 21) rfl b (o + k * 104) rfl cx _ (fun w' hw' => range_below RX.out hw') Tryz.underlying25 rfl (by rw [LX.out]; kernel_rfl)) hHeld ?_
      go_frame
      refine held_take (i := 8) (v := (.agg ci.toArray)) rfl (by kernel_rfl) (by kernel_rfl) (by kernel_rfl) (fun _ _ _ h => h) (yieldsIf_load_row (by rfl) 25 (.tmp 3) rfl g3 rfl 25 ci.toArray (0, 0) _ (fun w' hw' => row_below (row_below F3.out BB.out) hw') Tryz.underlying25 rfl (by rw [LI.out]; kernel_rfl)) hHeld ?_
      go_frame
      refine wpAnyH_ready (rs := [9]) (by kernel_rfl) (by simp) (held_cons rfl (fun K hK => ?_) AllReadyH.nil)
      go_simp
      refine (SA.out _).mono ?_
      rintro e v1 ⟨rfl, bb⟩
      have hv1 := hHeld.trans (bb.mono hHeld.size)
      clear bb hHeld
      go_wp2_with fail
      refine hK.out _ _ hv1 (fun hHeld => ?_)
      clear hK K hv1
      refine wpAnyH_done (by kernel_rfl) ?_ _
      have BB := Lib.hid (BB.out.trans (hHeld.mono BB.out.size))
      clear hHeld
      cases q with
      | true =>
        go_wp2_with fail
        go_ret
        have he : x.id = id := of_decide_eq_true QE.out.symm
        exact ⟨by rw [findT_some XK.out he LOW.out]; rfl, B1.out.trans (BB.out.mono B1.out.size)⟩
      | false =>
        have he : ¬ x.id = id := of_decide_eq_false QE.out.symm
        have NE := Lib.hid he
        clear he
        go_wp2_with fail
        go_roundw
        case rel =>
          refine ⟨k + 1, by omega, by go_num, fun j y hj hy => ?_, BB.out⟩
          rcases Nat.lt_or_ge j k with h1 | h1
          · exact LOW.out j y h1 hy
          · have e : j = k := by omega
            rw [e, XK.out] at hy
            cases hy
            exact NE.out
        case measure => simp [intOf]; omega
    · have hkn : k = n := by omega
      subst hkn
      clear hlt
      go_wp2_with fail
      go_ret
      refine ⟨by rw [findT_none fun j y hy => LOW.out j y (by have := (List.getElem?_eq_some_iff.1 hy).1; rw [N.out]; exact this) hy]; rfl, B1.out.trans (BB.out.mono B1.out.size)⟩
end Go.Proofs.YtbgagaaoldjhnaaGreatDoor.Sha
