/-
  Texts of this proof joined into one file: TxRow, StoreW, TxRead2, TxTakeM, TxC2, HdVal, CnVal, Keep. What each holds, and under which conditions, its own first sentence tells.
-/
import Derived.Great.BuildSlice
import Derived.Laws.ResultCell
import Derived.Test.YtnhmjlljnckieaaDoorMg05
import Derived.Test.YtnhmjlljnckieaaDoorMg01
import Derived.Test.YtnhmjlljnckieaaDoorMg04
import Derived.Test.YtnhmjlljnckieaaDoorMg03
/-
  Inputs and outputs in rows of one's own: a row of them grows, its keys lie apart from it; what such a row is as a slice. What a slice literal of one or two structures lays. No conditions beyond those that each states.
-/
namespace Go.Proofs.YtnhmjlljnckieaaDoor.Sha
open Go Go.RowKit
theorem info_in : (Tryd.prog.info? 91).map (fun i => (i.zero, i.size, i.bytes)) = some (some (.agg (List.replicate 32 (bV 0) ++ [nV 0, .slice none 0 0, nV 0]).toArray), 35, 72) := by kernel_rfl
theorem info_out : (Tryd.prog.info? 93).map (fun i => (i.zero, i.size, i.bytes)) = some (some (.agg (uV 0 :: List.replicate 32 (bV 0)).toArray), 33, 40) := by kernel_rfl
/-- The cells of so many inputs, their keys given. -/
def insL : List TIn → List Value → List Value
  | x :: l, kv :: ks => inL x kv ++ insL l ks
  | _, _ => []
def outsL (l : List TOut) : List Value := l.flatMap outL
theorem insL_snoc (x : TIn) (kv : Value) : ∀ (l : List TIn) (ks : List Value), l.length = ks.length → insL (l ++ [x]) (ks ++ [kv]) = insL l ks ++ inL x kv
  | [], [], _ => by simp [insL]
  | y :: l, k :: ks, h => by
    simp only [List.cons_append, insL, insL_snoc x kv l ks (by simpa using h), List.append_assoc]
theorem insL_length : ∀ (l : List TIn) (ks : List Value), l.length = ks.length → InsOk l → (insL l ks).length = l.length * 35
  | [], [], _, _ => rfl
  | y :: l, k :: ks, h, ho => by
    rw [insL, List.length_append, inL_length y k (ho y List.mem_cons_self).1, insL_length l ks (by simpa using h) (fun z hz => ho z (List.mem_cons_of_mem _ hz)), List.length_cons]
    omega
theorem insL_get : ∀ (l : List TIn) (ks : List Value) (i : Nat) (x : TIn) (kv : Value), InsOk l → l[i]? = some x → ks[i]? = some kv → ∀ j, j < 35 → (insL l ks)[i * 35 + j]? = (inL x kv)[j]?
  | y :: l, k :: ks, 0, x, kv, ho, hx, hk, j, hj => by
    simp only [List.getElem?_cons_zero, Option.some.injEq] at hx hk
    subst hx hk
    rw [Nat.zero_mul, Nat.zero_add, insL, List.getElem?_append_left (by rw [inL_length y k (ho y List.mem_cons_self).1]; exact hj)]
  | y :: l, k :: ks, i + 1, x, kv, ho, hx, hk, j, hj => by
    have e := inL_length y k (ho y List.mem_cons_self).1
    rw [insL, List.getElem?_append_right (by omega), e, show (i + 1) * 35 + j - 35 = i * 35 + j by omega]
    exact insL_get l ks i x kv (fun z hz => ho z (List.mem_cons_of_mem _ hz)) (by simpa using hx) (by simpa using hk) j hj
  | [], _, _, _, _, _, hx, _, _, _ => by simp at hx
  | _ :: _, [], _, _, _, _, _, hk, _, _ => by simp at hk
theorem outsL_length : ∀ (l : List TOut), OutsOk l → (outsL l).length = l.length * 33
  | [], _ => rfl
  | y :: l, ho => by
    have ih := outsL_length l (fun z hz => ho z (List.mem_cons_of_mem _ hz))
    simp only [outsL] at ih
    simp only [outsL, List.flatMap_cons, List.length_append, ih, outL_length y (ho y List.mem_cons_self).1, List.length_cons]
    omega
theorem outsL_get : ∀ (l : List TOut) (i : Nat) (y : TOut), OutsOk l → l[i]? = some y → ∀ j, j < 33 → (outsL l)[i * 33 + j]? = (outL y)[j]?
  | z :: l, 0, y, ho, hy, j, hj => by
    simp only [List.getElem?_cons_zero, Option.some.injEq] at hy
    subst hy
    rw [Nat.zero_mul, Nat.zero_add, outsL, List.flatMap_cons, List.getElem?_append_left (by rw [outL_length z (ho z List.mem_cons_self).1]; exact hj)]
  | z :: l, i + 1, y, ho, hy, j, hj => by
    have e := outL_length z (ho z List.mem_cons_self).1
    rw [outsL, List.flatMap_cons, List.getElem?_append_right (by omega), e, show (i + 1) * 33 + j - 33 = i * 33 + j by omega]
    exact outsL_get l i y (fun z hz => ho z (List.mem_cons_of_mem _ hz)) (by simpa using hy) j hj
  | [], _, _, _, hy, _, _ => by simp at hy
/-- A slice of bytes that does not lie in this block. -/
def Off (kv : Value) (q : Option Nat) : Prop := ∀ sp n cap, kv = .slice (some sp) n cap → 0 < n → q ≠ some sp.block
theorem Off.none (kv : Value) : Off kv none := fun _ _ _ _ _ e => by cases e
theorem SrcB.off {w w' : World} {v : Value} {bs : List UInt8} {q : Option Nat} (h : SrcB w v bs) (ho : Off v q) (hg : w.grownBy w' q) : SrcB w' v bs := by
  rcases h with h | ⟨h0, bb, off, cap, hv, hc, hs⟩
  · exact .inl h
  · refine .inr ⟨h0, bb, off, cap, hv, hc, fun j hj => ?_⟩
    rw [World.cell?_of_block (hg.block bb (SrcB.block h0 hs) (fun e => ho _ _ _ hv h0 e.symm))]
    exact hs j hj
theorem KeyAt.off {w w' : World} {kv : Value} {key : List UInt8} {q : Option Nat} (h : KeyAt w kv key) (ho : Off kv q) (hg : w.grownBy w' q) : KeyAt w' kv key := ⟨h.1.off ho hg, h.2⟩
theorem KeyAt.fresh {w : World} {kv : Value} {key : List UInt8} {k : Nat} (h : KeyAt w kv key) (hk : w.heap.size ≤ k) : Off kv (some k) := fun sp n cap hv hn e => by
  rcases h.1 with ⟨sp', cap', hv', _⟩ | ⟨h0, bb, off, cap', hv', _, hs⟩
  · rw [hv'] at hv
    cases hv
    omega
  · have := SrcB.block h0 hs
    rw [hv'] at hv
    cases hv
    have e2 : k = bb := Option.some.inj e
    omega
/-- A row of inputs of one's own; its keys lie apart from it, and from all that was there before. -/
def InsOwn (base : Nat) (w : World) (v : Value) (l : List TIn) (ks : List Value) : Prop :=
  l.length = ks.length ∧ w.ownsRow base 91 35 v l.length (insL l ks) ∧ InsOk l ∧ ∀ (i : Nat) x kv, l[i]? = some x → ks[i]? = some kv → KeyAt w kv x.key ∧ (∀ q, q < base → Off kv (some q)) ∧ Off kv v.ownBlock
def OutsOwn (base : Nat) (w : World) (v : Value) (l : List TOut) : Prop := w.ownsRow base 93 33 v l.length (outsL l) ∧ OutsOk l
theorem InsOwn.nil (base : Nat) (w : World) : InsOwn base w (.slice none 0 0) [] [] := ⟨rfl, World.ownsRow_nil _ _ _ _, fun _ h => absurd h (by simp), fun i x kv h => absurd h (by simp)⟩
theorem OutsOwn.nil (base : Nat) (w : World) : OutsOwn base w (.slice none 0 0) [] := ⟨World.ownsRow_nil _ _ _ _, fun _ h => absurd h (by simp)⟩
section
variable {base : Nat} {w w' : World} {v v' : Value} {l : List TIn} {ks : List Value} {m : List TOut}
theorem own_far {size n q : Nat} {e : TypeId} {xs : List Value} (h : w.ownsRow base e size v n xs) (hq : q < base) : v.ownBlock = none ∨ v.ownBlock ≠ some q := by
  cases hv : v.ownBlock with
  | none => exact .inl rfl
  | some k => exact .inr (fun e => by have := (h.lt k hv).1; have := Option.some.inj e; omega)
theorem InsOwn.other {q : Nat} (h : InsOwn base w v l ks) (hg : w.grownBy w' (some q)) (hq : q < base) : InsOwn base w' v l ks :=
  ⟨h.1, h.2.1.kept hg (own_far h.2.1 hq), h.2.2.1, fun i x kv hx hk => ⟨(h.2.2.2 i x kv hx hk).1.off ((h.2.2.2 i x kv hx hk).2.1 q hq) hg, (h.2.2.2 i x kv hx hk).2⟩⟩
theorem OutsOwn.other {q : Nat} (h : OutsOwn base w v m) (hg : w.grownBy w' (some q)) (hq : q < base) : OutsOwn base w' v m := ⟨h.1.kept hg (own_far h.1 hq), h.2⟩
theorem InsOwn.keep (h : InsOwn base w v l ks) (hb : Below w.heap.size w w') : InsOwn base w' v l ks :=
  ⟨h.1, own_kept h.2.1 hb, h.2.2.1, fun i x kv hx hk => ⟨(h.2.2.2 i x kv hx hk).1.below hb, (h.2.2.2 i x kv hx hk).2⟩⟩
theorem OutsOwn.kept (h : OutsOwn base w v m) {q : Option Nat} (hg : w.grownBy w' q) (hb : v.ownBlock = none ∨ v.ownBlock ≠ q) : OutsOwn base w' v m := ⟨h.1.kept hg hb, h.2⟩
theorem OutsOwn.keep (h : OutsOwn base w v m) (hb : Below w.heap.size w w') : OutsOwn base w' v m := ⟨own_kept h.1 hb, h.2⟩
theorem InsOwn.push (h : InsOwn base w v l ks) {x : TIn} {kv : Value} (hx : InOk x) (hk : KeyAt w kv x.key) (hr : ∀ q, q < base → Off kv (some q)) (ho : Off kv v.ownBlock)
    (hown : w'.ownsRow base 91 35 v' (l.length + 1) (insL l ks ++ inL x kv)) (hg : w.grownBy w' v.ownBlock) (hat : v'.ownBlock = v.ownBlock ∨ v'.ownBlock = some w.heap.size) : InsOwn base w' v' (l ++ [x]) (ks ++ [kv]) := by
  refine ⟨by simp [h.1], ?_, ?_, ?_⟩
  · rw [insL_snoc x kv l ks h.1, List.length_append]
    exact hown
  · intro z hz
    rcases List.mem_append.1 hz with hz | hz
    · exact h.2.2.1 z hz
    · rw [List.mem_singleton.1 hz]; exact hx
  · have move : ∀ {x : TIn} {kv : Value}, KeyAt w kv x.key → (∀ q, q < base → Off kv (some q)) → Off kv v.ownBlock → KeyAt w' kv x.key ∧ (∀ q, q < base → Off kv (some q)) ∧ Off kv v'.ownBlock := fun {x kv} a b c => by
      refine ⟨a.off c hg, b, ?_⟩
      rcases hat with e | e
      · rw [e]; exact c
      · rw [e]; exact a.fresh (Nat.le_refl _)
    intro i y kw hy hkw
    by_cases hi : i < l.length
    · rw [List.getElem?_append_left hi] at hy
      rw [List.getElem?_append_left (by rw [← h.1]; exact hi)] at hkw
      obtain ⟨a, b, c⟩ := h.2.2.2 i y kw hy hkw
      exact move a b c
    · have hil : i = l.length := by
        have := (List.getElem?_eq_some_iff.1 hy).1
        simp at this
        omega
      subst hil
      rw [List.getElem?_append_right (Nat.le_refl _), Nat.sub_self] at hy
      have h1 := h.1
      rw [List.getElem?_append_right (by omega), h1, Nat.sub_self] at hkw
      simp only [List.getElem?_cons_zero, Option.some.injEq] at hy hkw
      subst hy hkw
      exact move hk hr ho
theorem OutsOwn.push (h : OutsOwn base w v m) {y : TOut} (hy : OutOk y) (hown : w'.ownsRow base 93 33 v' (m.length + 1) (outsL m ++ outL y)) : OutsOwn base w' v' (m ++ [y]) := by
  refine ⟨?_, ?_⟩
  · have e : outsL (m ++ [y]) = outsL m ++ outL y := by simp [outsL, List.flatMap_append]
    rw [e, List.length_append]
    exact hown
  · intro z hz
    rcases List.mem_append.1 hz with hz | hz
    · exact h.2 z hz
    · rw [List.mem_singleton.1 hz]; exact hy
/-- Such a row as a slice of inputs. -/
theorem InsOwn.at (h : InsOwn base w v l ks) : InsAt w v l := by
  obtain ⟨h1, h2, h3, h4⟩ := h
  rcases h2.2 with ⟨hv, h0⟩ | ⟨g, cap, cur, hv, hb, hc, hn, hm, hs, ht⟩
  · exact ⟨none, 0, by rw [hv, h0], by omega, fun h => by omega⟩
  · subst hv
    refine ⟨_, cap, rfl, hn, fun h0 => ⟨g, 0, rfl, fun i x hx => ?_⟩⟩
    have hi := (List.getElem?_eq_some_iff.1 hx).1
    obtain ⟨kv, hkv⟩ : ∃ kv, ks[i]? = some kv := ⟨_, List.getElem?_eq_getElem (by omega)⟩
    have hxo := h3 x (List.mem_of_getElem? hx)
    refine ⟨hxo, kv, (h4 i x kv hx hkv).1, fun j u hj => ?_⟩
    have hj35 : j < 35 := by
      have := (List.getElem?_eq_some_iff.1 hj).1
      rwa [inL_length x kv hxo.1] at this
    rw [Nat.zero_add, h2.cellAt (i * 35 + j) (by omega), insL_get l ks i x kv h3 hx hkv j hj35]
    exact hj
theorem OutsOwn.at (h : OutsOwn base w v m) : OutsAt w v m := by
  obtain ⟨h2, h3⟩ := h
  rcases h2.2 with ⟨hv, h0⟩ | ⟨g, cap, cur, hv, hb, hc, hn, hm, hs, ht⟩
  · exact ⟨none, 0, by rw [hv, h0], by omega, fun h => by omega⟩
  · subst hv
    refine ⟨_, cap, rfl, hn, fun h0 => ⟨g, 0, rfl, fun i x hx => ?_⟩⟩
    have hi := (List.getElem?_eq_some_iff.1 hx).1
    have hxo := h3 x (List.mem_of_getElem? hx)
    refine ⟨hxo, fun j u hj => ?_⟩
    have hj35 : j < 33 := by
      have := (List.getElem?_eq_some_iff.1 hj).1
      rwa [outL_length x hxo.1] at this
    rw [Nat.zero_add, h2.cellAt (i * 33 + j) (by omega), outsL_get m i x h3 hx j hj35]
    exact hj
end
/-- A literal of one structure, of two. -/
theorem fill_one (size : Nat) (zs : List Value) (hz : zs.length = size) (cs : List Value) (hc : cs.length = size) : Instr.fill (fun i => some (i * size, size)) zs.toArray [(0, .agg cs.toArray)] = some cs.toArray := by
  have h := fill_part (fun i => some (i * size, size)) 0 0 (.agg cs.toArray) cs zs [] rfl (by simp [hc]) (by omega)
  rw [h]
  have e : zs.drop (0 + cs.length) = [] := List.drop_eq_nil_of_le (by omega)
  rw [List.take_zero, List.nil_append, e, List.append_nil]
  rfl
theorem fill_two (size : Nat) (zs : List Value) (hz : zs.length = 2 * size) (cs ds : List Value) (hc : cs.length = size) (hd : ds.length = size) : Instr.fill (fun i => some (i * size, size)) zs.toArray [(0, .agg cs.toArray), (1, .agg ds.toArray)] = some (cs ++ ds).toArray := by
  have h := fill_part (fun i => some (i * size, size)) 0 0 (.agg cs.toArray) cs zs [(1, .agg ds.toArray)] rfl (by simp [hc]) (by omega)
  rw [h, List.take_zero, List.nil_append]
  have h2 := fill_part (fun i => some (i * size, size)) 1 size (.agg ds.toArray) ds (cs ++ zs.drop (0 + cs.length)) [] rfl (by simp [hd]) (by rw [List.length_append, List.length_drop]; omega)
  rw [h2]
  have e : (cs ++ zs.drop (0 + cs.length)).drop (size + ds.length) = [] := List.drop_eq_nil_of_le (by rw [List.length_append, List.length_drop]; omega)
  rw [e, List.append_nil, List.take_append_of_le_length (by omega), List.take_of_length_le (by omega)]
  rfl
section
variable {P : Program}
theorem wp_slice_one {o : Oper} {a : Act} {w : World} {K : Act → World → Prop} {Q : Exit → Act → World → Prop} (t e : TypeId) (x : Operand) (ho : o.op = .buildSlice t 1 #[(0, x)]) (cs : List Value) (hx : a.eval x = .agg cs.toArray)
    (hu : P.underlying t = some (.slice e)) (i : TypeInfo) (z : Value) (hi : P.info? e = some i) (hz : i.zero = some z) (hs : i.size = cs.length) (hp : 0 < cs.length) (hm : cs.length ≤ 16777216)
    (h : K (a.put o.dst (.slice (some ⟨w.heap.size, 0, none⟩) 1 1)) (w.alloc (.cells cs.toArray e))) : o.wp P a w K Q := by
  refine wp_buildSlice t e 1 _ ho cs.toArray i z hu hi hz (by rw [hs]; omega) (by rw [hs]; omega) ?_ h
  have e1 : (Array.map (fun (q : Nat × Operand) => (q.1, a.eval q.2)) #[(0, x)]).toList = [(0, .agg cs.toArray)] := by simp [hx]
  rw [show (Array.map (fun (i, x) => (i, a.eval x)) #[(0, x)]).toList = [(0, .agg cs.toArray)] from e1, ← Array.toArray_toList (xs := Array.map _ _)]
  exact fill_one i.size _ (by simp) cs hs.symm
theorem wpList_slice_one {ops : Array Oper} {rest : List Oper} {o : Oper} {a : Act} {w : World} {Q : Exit → Act → World → Prop} (hg : o.guard = none) (t e : TypeId) (x : Operand) (ho : o.op = .buildSlice t 1 #[(0, x)]) (cs : List Value) (hx : a.eval x = .agg cs.toArray)
    (hu : P.underlying t = some (.slice e)) (i : TypeInfo) (z : Value) (hi : P.info? e = some i) (hz : i.zero = some z) (hs : i.size = cs.length) (hp : 0 < cs.length) (hm : cs.length ≤ 16777216)
    (h : wpList P ops Q rest (a.put o.dst (.slice (some ⟨w.heap.size, 0, none⟩) 1 1)) (w.alloc (.cells cs.toArray e))) : wpList P ops Q (o :: rest) a w :=
  wpList_plain hg fun _ hK => wp_slice_one t e x ho cs hx hu i z hi hz hs hp hm (hK _ _ h)
theorem wpList_slice_two {ops : Array Oper} {rest : List Oper} {o : Oper} {a : Act} {w : World} {Q : Exit → Act → World → Prop} (hg : o.guard = none) (t e : TypeId) (x y : Operand) (ho : o.op = .buildSlice t 2 #[(0, x), (1, y)]) (cs ds : List Value) (hx : a.eval x = .agg cs.toArray) (hy : a.eval y = .agg ds.toArray)
    (hu : P.underlying t = some (.slice e)) (i : TypeInfo) (z : Value) (hi : P.info? e = some i) (hz : i.zero = some z) (hs : i.size = cs.length) (hs2 : i.size = ds.length) (hp : 0 < cs.length) (hm : cs.length ≤ 16777)
    (h : wpList P ops Q rest (a.put o.dst (.slice (some ⟨w.heap.size, 0, none⟩) 2 2)) (w.alloc (.cells (cs ++ ds).toArray e))) : wpList P ops Q (o :: rest) a w :=
  wpList_plain hg fun _ hK => by
    refine wp_buildSlice t e 2 _ ho (cs ++ ds).toArray i z hu hi hz (by rw [hs]; omega) (by rw [hs]; omega) ?_ (hK _ _ h)
    have e1 : (Array.map (fun (q : Nat × Operand) => (q.1, a.eval q.2)) #[(0, x), (1, y)]).toList = [(0, .agg cs.toArray), (1, .agg ds.toArray)] := by simp [hx, hy]
    rw [show (Array.map (fun (i, x) => (i, a.eval x)) #[(0, x), (1, y)]).toList = [(0, .agg cs.toArray), (1, .agg ds.toArray)] from e1, ← Array.toArray_toList (xs := Array.map _ _)]
    exact fill_two i.size _ (by simp) cs ds hs.symm hs2.symm
end
end Go.Proofs.YtnhmjlljnckieaaDoor.Sha

/-
  A value stored into a box, or into a part of a block of one's own, the new world hidden; two boxes; a box and a value as results. No conditions beyond those that each states.
-/
namespace Go.Proofs.YtnhmjlljnckieaaDoor.Sha
open Go Go.RowKit
section
variable {P : Program}
theorem setRow_grown {w : World} {g : Nat} (cs : Array Value) : w.grownBy (w.setRow g cs) (some g) := by
  refine ⟨rfl, rfl, rfl, by simp [World.setRow], fun k _ hk => ?_⟩
  simp only [World.setRow]
  rw [Array.getElem?_modify, if_neg (fun e => hk (by rw [e]))]
theorem run_store_part {w : World} (ty : TypeId) (g o : Nat) (A old C new : List Value) (T : TypeId) (v : Value) (hv : v.cells = new.toArray) (hA : A.length = o) (hlen : old.length = new.length)
    (hg : w.heap[g]? = some (.cells (A ++ old ++ C).toArray T (0, 0))) (hi : (P.info? ty).map (·.size) = some new.length) (h1 : ∀ u ∈ new, u.oneCell' = true) :
    (storeVar ty ⟨g, o, none⟩ v).run P w = .ok () (w.setRow g (A ++ new ++ C).toArray) := by
  have h := run_storeCells_at P g o T new 0 (A ++ old ++ C).toArray w hg (by simp; omega) h1
  have e : ((A ++ old ++ C).toArray.toList.take (o + 0) ++ new ++ (A ++ old ++ C).toArray.toList.drop (o + 0 + new.length)).toArray = (A ++ new ++ C).toArray := by
    congr 1
    subst hA
    simp only [Nat.add_zero]
    rw [List.append_assoc A old C, List.take_left, ← List.drop_drop, List.drop_left, ← hlen, List.drop_left]
  rw [e] at h
  cases hq : P.info? ty with
  | none => simp [hq] at hi
  | some i =>
    have hs : i.size = new.length := by simpa [hq] using hi
    simp [storeVar, sizeOf, typeInfo, hq, hv, hs]
    simpa using h
theorem wp_store_part {op : Oper} {a : Act} {w : World} {K : Act → World → Prop} {Q : Exit → Act → World → Prop} (ty : TypeId) (x y : Operand) (ho : op.op = .store ty x y)
    (g o : Nat) (A old C new : List Value) (T : TypeId) (v : Value) (hx : a.eval x = .pointer (some ⟨g, o, none⟩)) (hy : a.eval y = v) (hv : v.cells = new.toArray) (hA : A.length = o) (hlen : old.length = new.length)
    (hg : w.heap[g]? = some (.cells (A ++ old ++ C).toArray T (0, 0))) (hi : (P.info? ty).map (·.size) = some new.length) (h1 : ∀ u ∈ new, u.oneCell' = true)
    (h : ∀ w', w'.heap[g]? = some (.cells (A ++ new ++ C).toArray T (0, 0)) → w.grownBy w' (some g) → K (a.put op.dst undef) w') : op.wp P a w K Q := by
  unfold Oper.wp execOp
  simp only [ho, hx, hy, Instr.storeAt, Instr.sureAddr, Sem.run_bind, Sem.run_pure, Result.andThen_ok, run_store_part ty g o A old C new T v hv hA hlen hg hi h1]
  exact h _ (setRow_heap _ _ _ _ _ _ hg) (setRow_grown _)
theorem wpList_store_part {ops : Array Oper} {rest : List Oper} {op : Oper} {a : Act} {w : World} {Q : Exit → Act → World → Prop} (hgd : op.guard = none) (ty : TypeId) (x y : Operand) (ho : op.op = .store ty x y)
    (g o : Nat) (A old C new : List Value) (T : TypeId) (v : Value) (hx : a.eval x = .pointer (some ⟨g, o, none⟩)) (hy : a.eval y = v) (hv : v.cells = new.toArray) (hA : A.length = o) (hlen : old.length = new.length)
    (hg : w.heap[g]? = some (.cells (A ++ old ++ C).toArray T (0, 0))) (hi : (P.info? ty).map (·.size) = some new.length) (h1 : ∀ u ∈ new, u.oneCell' = true)
    (h : ∀ w', w'.heap[g]? = some (.cells (A ++ new ++ C).toArray T (0, 0)) → w.grownBy w' (some g) → wpList P ops Q rest (a.put op.dst undef) w') : wpList P ops Q (op :: rest) a w :=
  wpList_plain hgd fun _ hK => wp_store_part ty x y ho g o A old C new T v hx hy hv hA hlen hg hi h1 (fun w' a1 a2 => hK _ _ (h w' a1 a2))
end
theorem row_far {w w' : World} {g : Nat} {q : Option Nat} {o : Obj} (h : w.heap[g]? = some o) (hg : w.grownBy w' q) (hq : q ≠ some g) : w'.heap[g]? = some o := by
  rw [hg.block g (Array.getElem?_eq_some_iff.1 h).1 (fun e => hq e.symm)]
  exact h
theorem gr_low {w0 w w' : World} {r : Option Nat} {g : Nat} (h : w0.grownBy w r) (hg : w.grownBy w' (some g)) (hq : w0.heap.size ≤ g) : w0.grownBy w' r := grown_over h hg (.inr ⟨g, rfl, hq⟩)
theorem own_off {w : World} {base n k : Nat} {e : TypeId} {v : Value} {xs : List Value} {size : Nat} (h : w.ownsRow base e size v n xs) (hk : k < base) : Off v (some k) := fun sp m cap hv _ e => by
  have h1 := (h.lt sp.block (by rw [hv]; rfl)).1
  have := Option.some.inj e
  omega
section
variable {P : Program}
theorem wpList_store_whole {ops : Array Oper} {rest : List Oper} {op : Oper} {a : Act} {w : World} {Q : Exit → Act → World → Prop} (hgd : op.guard = none) (ty : TypeId) (x y : Operand) (ho : op.op = .store ty x y)
    (g : Nat) (old new : List Value) (T : TypeId) (hx : a.eval x = .pointer (some ⟨g, 0, none⟩)) (hy : a.eval y = .agg new.toArray) (hlen : old.length = new.length) (hrow : w.heap[g]? = some (.cells old.toArray T (0, 0)))
    (hi : (P.info? ty).map (·.size) = some new.length) (h1 : new.toArray.all (·.oneCell') = true)
    (h : ∀ w', w'.heap[g]? = some (.cells new.toArray T (0, 0)) → w.grownBy w' (some g) → wpList P ops Q rest (a.put op.dst undef) w') : wpList P ops Q (op :: rest) a w :=
  wpList_store_row hgd ty x y ho g new.toArray hx hy T old.toArray hrow (by simpa using hi) (by simpa using hlen) h1 (h _ (setRow_heap _ _ _ _ _ _ hrow) (setRow_grown _))
theorem wp_store_whole {op : Oper} {a : Act} {w : World} {K : Act → World → Prop} {Q : Exit → Act → World → Prop} (ty : TypeId) (x y : Operand) (ho : op.op = .store ty x y)
    (g : Nat) (old new : List Value) (T : TypeId) (hx : a.eval x = .pointer (some ⟨g, 0, none⟩)) (hy : a.eval y = .agg new.toArray) (hlen : old.length = new.length) (hrow : w.heap[g]? = some (.cells old.toArray T (0, 0)))
    (hi : (P.info? ty).map (·.size) = some new.length) (h1 : new.toArray.all (·.oneCell') = true)
    (h : ∀ w', w'.heap[g]? = some (.cells new.toArray T (0, 0)) → w.grownBy w' (some g) → K (a.put op.dst undef) w') : op.wp P a w K Q :=
  wp_store_row ty x y ho g new.toArray hx hy T old.toArray hrow (by simpa using hi) (by simpa using hlen) h1 (h _ (setRow_heap _ _ _ _ _ _ hrow) (setRow_grown _))
end
/-- Two boxes. -/
theorem boxes_two (w : World) (x y : Array Value) (T : TypeId) :
    Below w.heap.size w ((w.alloc (.cells x T (0, 0))).alloc (.cells y T (0, 0)))
    ∧ ((w.alloc (.cells x T (0, 0))).alloc (.cells y T (0, 0))).heap[w.heap.size]? = some (.cells x T (0, 0))
    ∧ ((w.alloc (.cells x T (0, 0))).alloc (.cells y T (0, 0))).heap[w.heap.size + 1]? = some (.cells y T (0, 0)) := by
  refine ⟨((Below.refl _ _).alloc (Nat.le_refl _) _).alloc (by simp) _, ?_, ?_⟩
  · have h1 := heap_alloc_new w (.cells x T (0, 0))
    exact row_below h1 ((Below.refl _ _).alloc (Nat.le_refl _) (.cells y T (0, 0)))
  · have h1 := heap_alloc_new (w.alloc (.cells x T (0, 0))) (.cells y T (0, 0))
    rw [World.size_alloc] at h1
    exact h1
theorem results_row_tmp {P : Program} {fn : Func} {p u : Tmp} {ty : TypeId} (h : fn.results = #[.cell p ty, .tmp u]) (tmps : Array Value) (w : World) (g : Nat) (t : TypeId) (cs : Array Value) (fr : Nat × Nat) (d : TypeDesc)
    (hx : tmps.getD p undef = .pointer (some ⟨g, 0, none⟩)) (hg : w.heap[g]? = some (.cells cs t fr)) (hu : P.underlying ty = some d) (hd : (match d with | .struct _ | .array _ _ => true | _ => false) = true) (hi : (P.info? ty).map (·.size) = some cs.size) :
    (results fn tmps).run P w = .ok (.tuple #[.agg cs, tmps.getD u undef]) w := by
  rw [results_cell_tmp h, hx]
  simp [asAddr, Result.andThen, run_loadVar_row (P := P) w g t ty cs fr d hg hu hd hi]
end Go.Proofs.YtnhmjlljnckieaaDoor.Sha

/-
  Plain mathematics of a transaction read out of bytes: an input, an output, the whole; all that is in the bytes, and what is amiss. No conditions beyond those that each states.
-/
namespace Go.Proofs.YtnhmjlljnckieaaDoor.Sha
open Go Go.RowKit
def inP : Par TIn := thenP (takeL 32) fun h => thenP (leP 4) fun n => thenP (numL 80) fun k => thenP (takeL k) fun key => mapP (fun s => ⟨padH h, n, key, s⟩) (leP 4)
def outP : Par TOut := thenP (leP 8) fun v => mapP (fun h => ⟨v, padH h⟩) (takeL 32)
def txP : Par TTx := thenP (leP 4) fun v => thenP (numL 50) fun n => thenP (manyP inP n) fun is => thenP (numL 50) fun m => thenP (manyP outP m) fun os => mapP (fun t => ⟨v, is, os, t⟩) (leP 4)
def noTx : TTx := ⟨0, [], [], 0⟩
/-- A transaction out of a Reader: none where an error was met. -/
def takeTx (bs : List UInt8) (c : Nat) : TTx × List UInt8 × Nat := if (txP bs c).2.2 = 0 then txP bs c else (noTx, (txP bs c).2)
/-- Bytes as a transaction, or what is amiss. -/
def readTx (bs : List UInt8) : TTx × Nat := if (txP bs 0).2.2 ≠ 0 then (noTx, (txP bs 0).2.2) else if (txP bs 0).2.1 ≠ [] then (noTx, 2) else ((txP bs 0).1, 0)
theorem padH_whole {x : List UInt8} (h : x.length = 32) : padH x = x := by unfold padH; rw [h]; simp
theorem stay_in : Stay inP := (stay_take 32).andThen fun _ => (stay_le 4).andThen fun _ => (stay_num 80).andThen fun k => (stay_take k).andThen fun _ => (stay_le 4).map _
theorem stay_out : Stay outP := (stay_le 8).andThen fun _ => (stay_take 32).map _
theorem stay_tx : Stay txP := (stay_le 4).andThen fun _ => (stay_num 50).andThen fun n => (stay_many n).andThen fun _ => (stay_num 50).andThen fun m => (stay_many m).andThen fun _ => (stay_le 4).map _
theorem good_in (x : TIn) (h : InOk x) (hk : x.key.length ≤ 80) : Good inP x (inB x) := by
  obtain ⟨h1, h2, h3⟩ := h
  obtain ⟨a, b, c, d⟩ := x
  simp only at h1 h2 h3 hk
  have g := (good_take a 32 h1).andThen (q := fun h => thenP (leP 4) fun n => thenP (numL 80) fun k => thenP (takeL k) fun key => mapP (fun s => (⟨padH h, n, key, s⟩ : TIn)) (leP 4))
    ((good_le b 4 (by omega)).andThen (q := fun n => thenP (numL 80) fun k => thenP (takeL k) fun key => mapP (fun s => (⟨padH a, n, key, s⟩ : TIn)) (leP 4))
      ((good_num 80 c.length hk (by omega)).andThen (q := fun k => thenP (takeL k) fun key => mapP (fun s => (⟨padH a, b, key, s⟩ : TIn)) (leP 4))
        ((good_take c c.length rfl).andThen (q := fun key => mapP (fun s => (⟨padH a, b, key, s⟩ : TIn)) (leP 4))
          ((good_le d 4 (by omega)).map _) (fun _ => (stay_le 4).map _)) (fun k => (stay_take k).andThen fun _ => (stay_le 4).map _)) (fun _ => (stay_num 80).andThen fun k => (stay_take k).andThen fun _ => (stay_le 4).map _))
      (fun _ => (stay_le 4).andThen fun _ => (stay_num 80).andThen fun k => (stay_take k).andThen fun _ => (stay_le 4).map _)
  rw [padH_whole h1] at g
  simp only [inB, List.append_assoc]
  exact g
theorem good_out (y : TOut) (h : OutOk y) : Good outP y (outB y) := by
  obtain ⟨h1, h2⟩ := h
  obtain ⟨a, b⟩ := y
  simp only at h1 h2
  have g := (good_le a 8 (by omega)).andThen (q := fun v => mapP (fun h => (⟨v, padH h⟩ : TOut)) (takeL 32)) ((good_take b 32 h1).map _) (fun _ => (stay_take 32).map _)
  rw [padH_whole h1] at g
  exact g
/-- What a transaction must be to be read again. -/
def TxRead (t : TTx) : Prop := TxOk t ∧ InsOk t.ins ∧ OutsOk t.outs ∧ KeysLe t.ins 80 ∧ t.ins.length ≤ 50 ∧ t.outs.length ≤ 50
theorem TxRead.fit {t : TTx} (h : TxRead t) : TxFit t := ⟨h.1, h.2.1, h.2.2.1, fun x hx => Nat.le_trans (h.2.2.2.1 x hx) (by omega), Nat.le_trans h.2.2.2.2.1 (by omega), Nat.le_trans h.2.2.2.2.2 (by omega)⟩
theorem good_tx (t : TTx) (h : TxRead t) : Good txP t (txB t) := by
  obtain ⟨⟨h1, h2⟩, h3, h4, h5, h6, h7⟩ := h
  obtain ⟨a, b, c, d⟩ := t
  simp only at h1 h2 h3 h4 h5 h6 h7
  have g := (good_le a 4 (by omega)).andThen (q := fun v => thenP (numL 50) fun n => thenP (manyP inP n) fun is => thenP (numL 50) fun m => thenP (manyP outP m) fun os => mapP (fun t => (⟨v, is, os, t⟩ : TTx)) (leP 4))
    ((good_num 50 b.length h6 (by omega)).andThen (q := fun n => thenP (manyP inP n) fun is => thenP (numL 50) fun m => thenP (manyP outP m) fun os => mapP (fun t => (⟨a, is, os, t⟩ : TTx)) (leP 4))
      ((good_many inB b (fun z hz => good_in z (h3 z hz) (h5 z hz))).andThen (q := fun is => thenP (numL 50) fun m => thenP (manyP outP m) fun os => mapP (fun t => (⟨a, is, os, t⟩ : TTx)) (leP 4))
        ((good_num 50 c.length h7 (by omega)).andThen (q := fun m => thenP (manyP outP m) fun os => mapP (fun t => (⟨a, b, os, t⟩ : TTx)) (leP 4))
          ((good_many outB c (fun z hz => good_out z (h4 z hz))).andThen (q := fun os => mapP (fun t => (⟨a, b, os, t⟩ : TTx)) (leP 4))
            ((good_le d 4 (by omega)).map _) (fun _ => (stay_le 4).map _)) (fun m => (stay_many m).andThen fun _ => (stay_le 4).map _)) (fun _ => (stay_num 50).andThen fun m => (stay_many m).andThen fun _ => (stay_le 4).map _))
        (fun n => (stay_many n).andThen fun _ => (stay_num 50).andThen fun m => (stay_many m).andThen fun _ => (stay_le 4).map _))
      (fun _ => (stay_num 50).andThen fun n => (stay_many n).andThen fun _ => (stay_num 50).andThen fun m => (stay_many m).andThen fun _ => (stay_le 4).map _)
  simp only [txB, insB, outsB, List.append_assoc]
  exact g
theorem back_in : BackR inP (fun a x => x = inB a ∧ InOk a ∧ a.key.length ≤ 80) := by
  refine BackR.weak ((back_take 32).andThen (fun h => (back_le 4).andThen (fun n => (back_num 80).andThen (fun k => (back_take k).andThen (fun key => (back_le 4).map _) (fun _ => (stay_le 4).map _)) (fun k => (stay_take k).andThen fun _ => (stay_le 4).map _)) (fun _ => (stay_num 80).andThen fun k => (stay_take k).andThen fun _ => (stay_le 4).map _)) (fun _ => (stay_le 4).andThen fun _ => (stay_num 80).andThen fun k => (stay_take k).andThen fun _ => (stay_le 4).map _)) ?_
  rintro a x ⟨h, x1, x2, rfl, ⟨rfl, hh⟩, n, x3, x4, rfl, ⟨rfl, hn⟩, k, x5, x6, rfl, ⟨rfl, hk⟩, key, x7, x8, rfl, ⟨rfl, hkey⟩, s, rfl, rfl, hs⟩
  subst hkey
  rw [padH_whole hh]
  exact ⟨by simp only [inB, List.append_assoc], ⟨hh, Nat.le_of_lt_succ hn, Nat.le_of_lt_succ hs⟩, hk⟩
theorem back_out : BackR outP (fun a x => x = outB a ∧ OutOk a) := by
  refine BackR.weak ((back_le 8).andThen (fun v => (back_take 32).map _) (fun _ => (stay_take 32).map _)) ?_
  rintro a x ⟨v, x1, x2, rfl, ⟨rfl, hv⟩, h, rfl, rfl, hh⟩
  rw [padH_whole hh]
  exact ⟨rfl, hh, Nat.le_of_lt_succ hv⟩
theorem back_tx : BackR txP (fun t x => x = txB t ∧ TxRead t) := by
  refine BackR.weak ((back_le 4).andThen (fun v => (back_num 50).andThen (fun n => (back_many inB _ back_in n).andThen (fun is => (back_num 50).andThen (fun m => (back_many outB _ back_out m).andThen (fun os => (back_le 4).map _) (fun _ => (stay_le 4).map _)) (fun m => (stay_many m).andThen fun _ => (stay_le 4).map _)) (fun _ => (stay_num 50).andThen fun m => (stay_many m).andThen fun _ => (stay_le 4).map _)) (fun n => (stay_many n).andThen fun _ => (stay_num 50).andThen fun m => (stay_many m).andThen fun _ => (stay_le 4).map _)) (fun _ => (stay_num 50).andThen fun n => (stay_many n).andThen fun _ => (stay_num 50).andThen fun m => (stay_many m).andThen fun _ => (stay_le 4).map _)) ?_
  rintro a x ⟨v, x1, x2, rfl, ⟨rfl, hv⟩, n, x3, x4, rfl, ⟨rfl, hn⟩, is, x5, x6, rfl, ⟨rfl, hi, hil⟩, m, x7, x8, rfl, ⟨rfl, hm⟩, os, x9, x10, rfl, ⟨rfl, ho, hol⟩, s, rfl, rfl, hs⟩
  subst hil hol
  exact ⟨by simp only [txB, insB, outsB, List.append_assoc], ⟨Nat.le_of_lt_succ hv, Nat.le_of_lt_succ hs⟩, fun z hz => (hi z hz).1, ho, fun z hz => (hi z hz).2, hn, hm⟩
/-- What was written is read again. -/
theorem read_own {t : TTx} (h : TxRead t) : readTx (txB t) = (t, 0) := by
  have g := (good_tx t h).1 []
  rw [List.append_nil] at g
  unfold readTx
  rw [g]
  rfl
theorem take_own {t : TTx} (h : TxRead t) (y : List UInt8) : takeTx (txB t ++ y) 0 = (t, y, 0) := by
  unfold takeTx
  rw [(good_tx t h).1 y, if_pos rfl]
/-- Cut off, it ends too early. -/
theorem read_cut {t : TTx} (h : TxRead t) {k : Nat} (hk : k < (txB t).length) : readTx ((txB t).take k) = (noTx, 1) := by
  have g := (good_tx t h).2 k hk
  unfold readTx
  rw [g, if_pos (by omega)]
/-- Longer, it has another shape. -/
theorem read_long {t : TTx} (h : TxRead t) {y : List UInt8} (hy : y ≠ []) : readTx (txB t ++ y) = (noTx, 2) := by
  unfold readTx
  rw [(good_tx t h).1 y, if_neg (by simp), if_pos hy]
/-- What is read has just these bytes. -/
theorem read_back {b : List UInt8} (h : (readTx b).2 = 0) : b = txB (readTx b).1 ∧ TxRead (readTx b).1 := by
  obtain ⟨p, hp⟩ : ∃ p, txP b 0 = p := ⟨_, rfl⟩
  unfold readTx at h ⊢
  rw [hp] at h ⊢
  obtain ⟨a, r, c⟩ := p
  by_cases h1 : c ≠ 0
  · rw [if_pos (show (a, r, c).2.2 ≠ 0 from h1)] at h
    exact absurd h h1
  · have h1 : c = 0 := by omega
    subst h1
    by_cases h2 : r ≠ []
    · rw [if_neg (show ¬ (a, r, 0).2.2 ≠ 0 from fun h => h rfl), if_pos (show (a, r, 0).2.1 ≠ [] from h2)] at h
      exact absurd h (by simp)
    · have h2 : r = [] := by simpa using h2
      subst h2
      obtain ⟨x, e, e2, hr⟩ := back_tx b a [] hp
      rw [List.append_nil] at e
      exact ⟨e.trans e2, hr⟩
/-- What may be is read again. -/
theorem read_fine {t : TTx} (h : TxFit t) (hc : checkN t = 0) : TxRead t := by
  unfold checkN at hc
  split at hc
  · omega
  rename_i h1
  split at hc
  · omega
  split at hc
  · omega
  rename_i h3
  refine ⟨h.1, h.2.1, h.2.2.1, fun x hx => ?_, by omega, by omega⟩
  simp only [List.any_eq_true, decide_eq_true_eq, not_exists, not_and] at h3
  have := h3 x hx
  omega
end Go.Proofs.YtnhmjlljnckieaaDoor.Sha

/-
  Plain mathematics of so many things read one behind the other, whether or not an error was met between: they leave and meet what those do that stop at the first error. No conditions.
-/
namespace Go.Proofs.YtnhmjlljnckieaaDoor.Sha
open Go Go.RowKit
section
variable {α β : Type} {p q : Par α}
/-- So many, whatever is met. -/
def manyS (p : Par α) : Nat → Par (List α)
  | 0, bs, c => ([], bs, c)
  | n + 1, bs, c => ((manyS p n bs c).1 ++ [(p (manyS p n bs c).2.1 (manyS p n bs c).2.2).1], (p (manyS p n bs c).2.1 (manyS p n bs c).2.2).2)
theorem manyS_cons (p : Par α) : ∀ (n : Nat) (bs : List UInt8) (c : Nat), manyS p (n + 1) bs c = thenP p (fun a => mapP (a :: ·) (manyS p n)) bs c
  | 0, bs, c => rfl
  | n + 1, bs, c => by
    have ih := manyS_cons p n bs c
    rw [manyS, ih]
    rfl
theorem manyS_length (p : Par α) : ∀ (n : Nat) (bs : List UInt8) (c : Nat), (manyS p n bs c).1.length = n
  | 0, _, _ => rfl
  | n + 1, bs, c => by
    rw [manyS]
    simp [manyS_length p n bs c]
/-- Behind an error nothing is read. -/
def Still (p : Par α) : Prop := ∀ bs c, c ≠ 0 → (p bs c).2 = (bs, c)
theorem Still.andThen {f : α → Par β} (h1 : Still p) (h2 : ∀ a, Still (f a)) : Still (thenP p f) := fun bs c hc => by
  have e := h1 bs c hc
  unfold thenP
  rw [e]
  exact h2 _ bs c hc
theorem Still.map (f : α → β) (h : Still p) : Still (mapP f p) := fun bs c hc => h bs c hc
theorem still_manyS (h : Still p) : ∀ n, Still (manyS p n)
  | 0 => fun _ _ _ => rfl
  | n + 1 => fun bs c hc => by
    have e := still_manyS h n bs c hc
    rw [manyS, e]
    exact h bs c hc
theorem still_manyP (_h : Still p) : ∀ n, Still (manyP p n)
  | 0 => fun _ _ _ => rfl
  | n + 1 => fun bs c hc => by
    rw [manyP, if_pos hc]
/-- Two that leave and meet the same, and are the same where nothing is met. -/
def Sim (p q : Par α) : Prop := ∀ bs c, (p bs c).2 = (q bs c).2 ∧ ((p bs c).2.2 = 0 → p bs c = q bs c)
theorem Sim.refl (p : Par α) : Sim p p := fun _ _ => ⟨rfl, fun _ => rfl⟩
theorem Sim.andThen {f g : α → Par β} (h1 : Sim p q) (h2 : ∀ a, Sim (f a) (g a)) (s1 : ∀ a, Still (f a)) (s2 : ∀ a, Still (g a)) : Sim (thenP p f) (thenP q g) := fun bs c => by
  obtain ⟨e1, e2⟩ := h1 bs c
  unfold thenP
  by_cases hd : (p bs c).2.2 = 0
  · have e := e2 hd
    rw [← e]
    exact h2 _ _ _
  · rw [← e1]
    have a1 := s1 (p bs c).1 (p bs c).2.1 (p bs c).2.2 hd
    have a2 := s2 (q bs c).1 (p bs c).2.1 (p bs c).2.2 hd
    exact ⟨a1.trans a2.symm, fun h0 => by rw [a1] at h0; exact absurd h0 hd⟩
theorem Sim.map (f : α → β) (h : Sim p q) : Sim (mapP f p) (mapP f q) := fun bs c => by
  obtain ⟨e1, e2⟩ := h bs c
  unfold mapP
  exact ⟨e1, fun h0 => by rw [e2 h0]⟩
theorem sim_many (h : Still p) : ∀ n, Sim (manyP p n) (manyS p n)
  | 0 => fun _ _ => ⟨rfl, fun _ => rfl⟩
  | n + 1 => fun bs c => by
    by_cases hc : c ≠ 0
    · have e := still_manyS h (n + 1) bs c hc
      rw [e, manyP, if_pos hc]
      exact ⟨rfl, fun h0 => absurd h0 hc⟩
    · rw [manyS_cons, manyP, if_neg hc]
      exact (Sim.refl p).andThen (fun a => (sim_many h n).map (a :: ·)) (fun a => (still_manyP h n).map _) (fun a => (still_manyS h n).map _) bs c
end
theorem still_take (k : Nat) : Still (takeL k) := fun bs c hc => by rw [takeL_err k bs c hc]
theorem still_num (most : Nat) : Still (numL most) := fun bs c hc => by rw [numL_err most bs c hc]
theorem still_le (k : Nat) : Still (leP k) := (still_take k).map _
theorem still_in : Still inP := (still_take 32).andThen fun _ => (still_le 4).andThen fun _ => (still_num 80).andThen fun k => (still_take k).andThen fun _ => (still_le 4).map _
theorem still_out : Still outP := (still_le 8).andThen fun _ => (still_take 32).map _
/-- A transaction, whatever is met between. -/
def txS : Par TTx := thenP (leP 4) fun v => thenP (numL 50) fun n => thenP (manyS inP n) fun is => thenP (numL 50) fun m => thenP (manyS outP m) fun os => mapP (fun t => ⟨v, is, os, t⟩) (leP 4)
theorem sim_tx : Sim txP txS :=
  (Sim.refl _).andThen (fun _ => (Sim.refl _).andThen (fun n => (sim_many still_in n).andThen (fun _ => (Sim.refl _).andThen (fun m => (sim_many still_out m).andThen (fun _ => Sim.refl _) (fun _ => (still_le 4).map _) (fun _ => (still_le 4).map _))
    (fun m => (still_manyP still_out m).andThen fun _ => (still_le 4).map _) (fun m => (still_manyS still_out m).andThen fun _ => (still_le 4).map _))
    (fun _ => (still_num 50).andThen fun m => (still_manyP still_out m).andThen fun _ => (still_le 4).map _) (fun _ => (still_num 50).andThen fun m => (still_manyS still_out m).andThen fun _ => (still_le 4).map _))
    (fun n => (still_manyP still_in n).andThen fun _ => (still_num 50).andThen fun m => (still_manyP still_out m).andThen fun _ => (still_le 4).map _) (fun n => (still_manyS still_in n).andThen fun _ => (still_num 50).andThen fun m => (still_manyS still_out m).andThen fun _ => (still_le 4).map _))
    (fun _ => (still_num 50).andThen fun n => (still_manyP still_in n).andThen fun _ => (still_num 50).andThen fun m => (still_manyP still_out m).andThen fun _ => (still_le 4).map _) (fun _ => (still_num 50).andThen fun n => (still_manyS still_in n).andThen fun _ => (still_num 50).andThen fun m => (still_manyS still_out m).andThen fun _ => (still_le 4).map _)
theorem takeTx_S (bs : List UInt8) (c : Nat) : takeTx bs c = if (txS bs c).2.2 = 0 then txS bs c else (noTx, (txS bs c).2) := by
  obtain ⟨e1, e2⟩ := sim_tx bs c
  unfold takeTx
  rw [← e1]
  split
  · rename_i h
    exact e2 h
  · rfl
/-- What is left is no longer than what was there. -/
def Less {α : Type} (p : Par α) : Prop := ∀ bs c, (p bs c).2.1.length ≤ bs.length
theorem less_take (k : Nat) : Less (takeL k) := fun bs c => by
  unfold takeL
  split
  · exact Nat.le_refl _
  · split
    · exact Nat.le_refl _
    · rw [List.length_drop]; omega
theorem Less.andThen {α β : Type} {p : Par α} {f : α → Par β} (h1 : Less p) (h2 : ∀ a, Less (f a)) : Less (thenP p f) := fun bs c => Nat.le_trans (h2 _ _ _) (h1 bs c)
theorem Less.map {α β : Type} {p : Par α} (f : α → β) (h : Less p) : Less (mapP f p) := h
theorem less_le (k : Nat) : Less (leP k) := (less_take k).map _
/-- What Num answers out of the bytes that it took. -/
def numEnd (most k : Nat) (u : List UInt8 × List UInt8 × Nat) : Nat × List UInt8 × Nat :=
  if u.2.2 ≠ 0 then (0, u.2.1, u.2.2) else if lenN (leN u.1) ≠ 1 + k then (0, u.2.1, 2) else if most < leN u.1 then (0, u.2.1, 4) else (leN u.1, u.2.1, 0)
theorem numL_end (most : Nat) (bs : List UInt8) (c : Nat) : numL most bs c = numEnd most (widN (leN (takeL 1 bs c).1)) (if widN (leN (takeL 1 bs c).1) = 0 then takeL 1 bs c else takeL (widN (leN (takeL 1 bs c).1)) (takeL 1 bs c).2.1 (takeL 1 bs c).2.2) := rfl
theorem numEnd_le (most k : Nat) (u : List UInt8 × List UInt8 × Nat) : (numEnd most k u).1 ≤ most ∧ (numEnd most k u).2.1 = u.2.1 := by
  unfold numEnd
  split
  · exact ⟨Nat.zero_le _, rfl⟩
  · split
    · exact ⟨Nat.zero_le _, rfl⟩
    · split
      · exact ⟨Nat.zero_le _, rfl⟩
      · rename_i h
        exact ⟨Nat.le_of_not_lt h, rfl⟩
theorem less_num (most : Nat) : Less (numL most) := fun bs c => by
  have h1 := less_take 1 bs c
  have h2 := less_take (widN (leN (takeL 1 bs c).1)) (takeL 1 bs c).2.1 (takeL 1 bs c).2.2
  rw [numL_end, (numEnd_le _ _ _).2]
  split
  · exact h1
  · exact Nat.le_trans h2 h1
theorem less_manyS {α : Type} {p : Par α} (h : Less p) : ∀ n, Less (manyS p n)
  | 0 => fun _ _ => Nat.le_refl _
  | n + 1 => fun bs c => Nat.le_trans (h _ _) (less_manyS h n bs c)
theorem less_in : Less inP := (less_take 32).andThen fun _ => (less_le 4).andThen fun _ => (less_num 80).andThen fun k => (less_take k).andThen fun _ => (less_le 4).map _
theorem less_out : Less outP := (less_le 8).andThen fun _ => (less_take 32).map _
theorem numL_most (most : Nat) (bs : List UInt8) (c : Nat) : (numL most bs c).1 ≤ most := by
  rw [numL_end]
  exact (numEnd_le _ _ _).1
theorem leP_lt (k : Nat) (bs : List UInt8) (c : Nat) : (leP k bs c).1 < 256 ^ k := by
  have h := takeL_le k bs c
  exact Nat.lt_of_lt_of_le (leN_lt _) (Nat.pow_le_pow_right (by omega) h)
theorem pow4 : (256 : Nat) ^ 4 = 4294967296 := by decide
theorem pow8 : (256 : Nat) ^ 8 = 18446744073709551616 := by decide
theorem le4 (bs : List UInt8) (c : Nat) : (leP 4 bs c).1 ≤ 4294967295 := by
  have := leP_lt 4 bs c
  rw [pow4] at this
  omega
theorem le8 (bs : List UInt8) (c : Nat) : (leP 8 bs c).1 ≤ 18446744073709551615 := by
  have := leP_lt 8 bs c
  rw [pow8] at this
  omega
theorem inP_laid (bs x1 b1 b2 b3 x3 b4 b5 : List UInt8) (c d1 d2 d3 d4 d5 n k s : Nat) (h1 : takeL 32 bs c = (x1, b1, d1)) (h2 : leP 4 b1 d1 = (n, b2, d2)) (h3 : numL 80 b2 d2 = (k, b3, d3)) (h4 : takeL k b3 d3 = (x3, b4, d4)) (h5 : leP 4 b4 d4 = (s, b5, d5)) :
    inP bs c = (⟨padH x1, n, x3, s⟩, b5, d5) := by
  simp only [inP, thenP, mapP, h1, h2, h3, h4, h5]
theorem inP_ok (bs : List UInt8) (c : Nat) : InOk (inP bs c).1 := by
  obtain ⟨x1, b1, d1, h1⟩ : ∃ x b d, takeL 32 bs c = (x, b, d) := ⟨_, _, _, rfl⟩
  obtain ⟨n, b2, d2, h2⟩ : ∃ x b d, leP 4 b1 d1 = (x, b, d) := ⟨_, _, _, rfl⟩
  obtain ⟨k, b3, d3, h3⟩ : ∃ x b d, numL 80 b2 d2 = (x, b, d) := ⟨_, _, _, rfl⟩
  obtain ⟨x3, b4, d4, h4⟩ : ∃ x b d, takeL k b3 d3 = (x, b, d) := ⟨_, _, _, rfl⟩
  obtain ⟨s, b5, d5, h5⟩ : ∃ x b d, leP 4 b4 d4 = (x, b, d) := ⟨_, _, _, rfl⟩
  rw [inP_laid bs x1 b1 b2 b3 x3 b4 b5 c d1 d2 d3 d4 d5 n k s h1 h2 h3 h4 h5]
  have a1 := takeL_le 32 bs c
  have a2 := le4 b1 d1
  have a3 := le4 b4 d4
  rw [h1] at a1
  rw [h2] at a2
  rw [h5] at a3
  exact ⟨padH_length a1, a2, a3⟩
theorem outP_laid (bs x2 b1 b2 : List UInt8) (c d1 d2 v : Nat) (h1 : leP 8 bs c = (v, b1, d1)) (h2 : takeL 32 b1 d1 = (x2, b2, d2)) : outP bs c = (⟨v, padH x2⟩, b2, d2) := by
  simp only [outP, thenP, mapP, h1, h2]
theorem outP_ok (bs : List UInt8) (c : Nat) : OutOk (outP bs c).1 := by
  obtain ⟨v, b1, d1, h1⟩ : ∃ x b d, leP 8 bs c = (x, b, d) := ⟨_, _, _, rfl⟩
  obtain ⟨x2, b2, d2, h2⟩ : ∃ x b d, takeL 32 b1 d1 = (x, b, d) := ⟨_, _, _, rfl⟩
  rw [outP_laid bs x2 b1 b2 c d1 d2 v h1 h2]
  have a1 := le8 bs c
  have a2 := takeL_le 32 b1 d1
  rw [h1] at a1
  rw [h2] at a2
  exact ⟨padH_length a2, a1⟩
end Go.Proofs.YtnhmjlljnckieaaDoor.Sha

/-
  What package tx is shown to answer of bytes as a transaction, as a hypothesis; what is read is small. No conditions.
-/
namespace Go.Proofs.YtnhmjlljnckieaaDoor.Sha
open Go Go.RowKit
/-- What bytes are as a transaction. -/
structure ReadIs (bs : List UInt8) (t : TTx) (c : Nat) : Prop where
  eq : readTx bs = (t, c)
theorem ReadIs.back {bs : List UInt8} {t : TTx} {c : Nat} (h : ReadIs bs t c) (hc : c = 0) : bs = txB t ∧ TxRead t := by
  have h2 := read_back (b := bs) ((congrArg Prod.snd h.eq).trans hc)
  rw [h.eq] at h2
  exact h2
theorem TxRead.small {t : TTx} (h : TxRead t) : TxSmall t :=
  ⟨⟨h.1, h.2.1, h.2.2.1, fun x hx => Nat.le_trans (h.2.2.2.1 x hx) (by omega), Nat.le_trans h.2.2.2.2.1 (by omega), Nat.le_trans h.2.2.2.2.2 (by omega)⟩, Nat.le_trans h.2.2.2.2.1 (by omega), Nat.le_trans h.2.2.2.2.2 (by omega), fun x hx => Nat.le_trans (h.2.2.2.1 x hx) (by omega)⟩
theorem tx_one {w : World} {t : TTx} {iv ov : Value} (h1 : InsAt w iv t.ins) (h2 : OutsAt w ov t.outs) : (txL t iv ov).toArray.all (·.oneCell') = true := by
  obtain ⟨_, _, rfl, _⟩ := h1
  obtain ⟨_, _, rfl, _⟩ := h2
  rw [Array.all_eq_true_iff_forall_mem]
  intro x hx
  simp [txL] at hx
  rcases hx with rfl | rfl | rfl | rfl <;> rfl
theorem box1 (w : World) (x : List Value) (T : TypeId) : Below w.heap.size w (w.alloc (.cells x.toArray T)) ∧ (w.alloc (.cells x.toArray T)).heap[w.heap.size]? = some (.cells x.toArray T (0, 0)) :=
  ⟨(Below.refl _ _).alloc (Nat.le_refl _) _, heap_alloc_new _ _⟩
theorem read_pair (bs : List UInt8) : ∃ u c, ReadIs bs u c := by
  obtain ⟨u, c, h⟩ : ∃ u c, readTx bs = (u, c) := by
    generalize readTx bs = p
    exact ⟨p.1, p.2, rfl⟩
  exact ⟨u, c, ⟨h⟩⟩
theorem txB_ten (t : TTx) : 10 ≤ (txB t).length := by
  have h1 := lenN_bd t.ins.length
  have h2 := lenN_bd t.outs.length
  simp only [txB, List.length_append, leB_length, putL_length]
  omega
/-- A transaction's zero cells. -/
def txZ : Array Value := #[.int .u32 0, .slice none 0 0, .slice none 0 0, .int .u32 0]
theorem fine_check {t : TTx} (h : checkC t = 0) : checkN t = 0 := by
  unfold checkC checkN at *
  split at h
  · omega
  rename_i h1
  rw [if_neg h1]
  split at h
  · omega
  rename_i h2
  rw [if_neg h2]
  split at h
  · omega
  rename_i h3
  rw [if_neg h3]
  split at h
  · omega
  rename_i h4
  rw [if_neg h4]
  split at h
  · omega
  rename_i h5
  rw [if_neg h5]
  split at h
  · rename_i h6
    rw [if_pos h6]
    split at h
    · omega
    · rename_i h7
      rw [if_neg h7]
  · rename_i h6
    rw [if_neg h6]
    split at h
    · omega
    · rename_i h7
      rw [if_neg h7]
end Go.Proofs.YtnhmjlljnckieaaDoor.Sha

/-
  A block's header as the model has it: 68 cells; where its parts lie. Conditions: digests of 32 bytes.
-/
namespace Go.Proofs.YtnhmjlljnckieaaDoor.Sha
open Go Go.RowKit
/-- A header's cells. -/
def hdL (h : THd) : List Value := nV h.ver :: (h.prev.map bV ++ (h.root.map bV ++ [nV h.time, nV h.work, nV h.nonce]))
theorem hdL_length {h : THd} (hh : HdOk h) : (hdL h).length = 68 := by simp [hdL, hh.2.1, hh.2.2.1]
theorem hdL_size {h : THd} (hh : HdOk h) : (hdL h).toArray.size = 68 := by rw [List.size_toArray]; exact hdL_length hh
theorem hdL_one' (h : THd) : ∀ v ∈ hdL h, v.oneCell' = true := by
  intro v hv
  rcases List.mem_cons.1 hv with rfl | h1
  · rfl
  rcases List.mem_append.1 h1 with h1 | h1
  · exact bV_one' _ v h1
  rcases List.mem_append.1 h1 with h1 | h1
  · exact bV_one' _ v h1
  · simp only [List.mem_cons, List.not_mem_nil, or_false] at h1
    rcases h1 with rfl | rfl | rfl <;> rfl
theorem hdL_one (h : THd) : (hdL h).toArray.all (·.oneCell') = true := all_oneCell_toArray (hdL_one' h)
/-- The parts' cells. -/
theorem hdL_at {h : THd} (hh : HdOk h) : (hdL h)[0]? = some (nV h.ver) ∧ (hdL h)[65]? = some (nV h.time) ∧ (hdL h)[66]? = some (nV h.work) ∧ (hdL h)[67]? = some (nV h.nonce) := by
  have h1 : (h.prev.map bV).length = 32 := by simp [hh.2.1]
  have h2 : (h.root.map bV).length = 32 := by simp [hh.2.2.1]
  have e : hdL h = [nV h.ver] ++ h.prev.map bV ++ h.root.map bV ++ [nV h.time, nV h.work, nV h.nonce] := by simp [hdL]
  refine ⟨rfl, ?_, ?_, ?_⟩ <;> (rw [e, List.getElem?_append_right (by simp only [List.length_append, h1, h2, List.length_cons, List.length_nil]; omega)]; simp only [List.length_append, h1, h2, List.length_cons, List.length_nil]; rfl)
theorem range_part {w : World} {b o : Nat} {xs ys zs : List Value} (h : w.rangeAt b o (xs ++ (ys ++ zs))) : w.rangeAt b (o + xs.length) ys := fun j v hj => by
  rw [Nat.add_assoc]
  refine h (xs.length + j) v ?_
  rw [List.getElem?_append_right (by omega), Nat.add_sub_cancel_left, List.getElem?_append_left (List.getElem?_eq_some_iff.1 hj).1]
  exact hj
theorem hd_prev {w : World} {b o : Nat} {h : THd} (hg : w.rangeAt b o (hdL h)) : w.rangeAt b (o + 1) (h.prev.map bV) :=
  range_part (xs := [nV h.ver]) (ys := h.prev.map bV) hg
theorem hd_root {w : World} {b o : Nat} {h : THd} (hh : HdOk h) (hg : w.rangeAt b o (hdL h)) : w.rangeAt b (o + 33) (h.root.map bV) := by
  have e : hdL h = (nV h.ver :: h.prev.map bV) ++ (h.root.map bV ++ [nV h.time, nV h.work, nV h.nonce]) := by simp [hdL]
  rw [e] at hg
  have h := range_part hg
  simpa [hh.2.1] using h
/-- What a box with a header in it holds. -/
structure HdBox (w : World) (g : Nat) (h : THd) : Prop where
  row : w.heap[g]? = some (.cells (hdL h).toArray 32 (0, 0))
theorem HdBox.below {w w' : World} {g : Nat} {h : THd} (k : HdBox w g h) (hb : Below w.heap.size w w') : HdBox w' g h := ⟨row_below k.row hb⟩
theorem HdBox.lt {w : World} {g : Nat} {h : THd} (k : HdBox w g h) : g < w.heap.size := (Array.getElem?_eq_some_iff.1 k.row).1
theorem HdBox.cells {w : World} {g : Nat} {h : THd} (k : HdBox w g h) (hh : HdOk h) : w.cell? ⟨g, 0, none⟩ = some (.int .u32 (h.ver : Int)) ∧ w.cell? ⟨g, 65, none⟩ = some (.int .u32 (h.time : Int)) ∧ w.cell? ⟨g, 66, none⟩ = some (.int .u32 (h.work : Int)) ∧ w.cell? ⟨g, 67, none⟩ = some (.int .u32 (h.nonce : Int)) := by
  obtain ⟨h1, h2, h3, h4⟩ := hdL_at hh
  refine ⟨?_, ?_, ?_, ?_⟩ <;> (rw [cell_of_row _ _ _ _ _ _ k.row, List.getElem?_toArray]; assumption)
theorem HdBox.prev {w : World} {g : Nat} {h : THd} (k : HdBox w g h) : w.rangeAt g 1 (h.prev.map bV) := by simpa using hd_prev (range_of_box k.row)
theorem HdBox.root {w : World} {g : Nat} {h : THd} (k : HdBox w g h) (hh : HdOk h) : w.rangeAt g 33 (h.root.map bV) := by simpa using hd_root hh (range_of_box k.row)
theorem hd_box (w : World) (h : THd) : Below w.heap.size w (w.alloc (.cells (hdL h).toArray 32)) ∧ HdBox (w.alloc (.cells (hdL h).toArray 32)) w.heap.size h :=
  ⟨(Below.refl _ _).alloc (Nat.le_refl _) _, ⟨heap_alloc_new _ _⟩⟩
end Go.Proofs.YtnhmjlljnckieaaDoor.Sha

/-
  Coins as the model has them: a coin's 35 cells, a place's 33, a coin with its place 68; rows of elements of so many cells behind a slice, whatever they hold. No conditions beyond those that each states.
-/
namespace Go.Proofs.YtnhmjlljnckieaaDoor.Sha
open Go Go.RowKit
/-- A place. -/
structure TPt where
  h : List UInt8
  n : Nat
/-- A coin: its value, lock, height, base. -/
structure TMn where
  val : Nat
  lock : List UInt8
  height : Int
  base : Bool
/-- A coin with its place. -/
structure TSp where
  at_ : TPt
  coin : TMn
instance : DecidableEq TPt := fun a b => if h : a.h = b.h ∧ a.n = b.n then isTrue (by cases a; cases b; obtain ⟨h1, h2⟩ := h; subst h1 h2; rfl) else isFalse (fun e => h (by rw [e]; exact ⟨rfl, rfl⟩))
def PtOk (p : TPt) : Prop := p.h.length = 32 ∧ p.n ≤ 4294967295
def MnOk (c : TMn) : Prop := c.lock.length = 32 ∧ c.val ≤ 18446744073709551615 ∧ -9223372036854775808 ≤ c.height ∧ c.height ≤ 9223372036854775807
def SpOk (x : TSp) : Prop := PtOk x.at_ ∧ MnOk x.coin
def ptC (p : TPt) : List Value := ptL p.h p.n
def mnL (c : TMn) : List Value := .int .u64 (c.val : Int) :: (c.lock.map bV ++ [.int .i64 c.height, .bool c.base])
def spL (x : TSp) : List Value := ptC x.at_ ++ mnL x.coin
theorem ptC_length {p : TPt} (h : PtOk p) : (ptC p).length = 33 := by simp [ptC, ptL, h.1]
theorem mnL_length {c : TMn} (h : MnOk c) : (mnL c).length = 35 := by simp [mnL, h.1]
theorem spL_length {x : TSp} (h : SpOk x) : (spL x).length = 68 := by simp [spL, ptC_length h.1, mnL_length h.2]
theorem ptC_size {p : TPt} (h : PtOk p) : (ptC p).toArray.size = 33 := by simp [ptC_length h]
theorem mnL_size {c : TMn} (h : MnOk c) : (mnL c).toArray.size = 35 := by simp [mnL_length h]
theorem spL_size {x : TSp} (h : SpOk x) : (spL x).toArray.size = 68 := by simp [spL_length h]
theorem ptC_one (p : TPt) : ∀ v ∈ ptC p, v.oneCell' = true := ptL_one' _ _
theorem mnL_one (c : TMn) : ∀ v ∈ mnL c, v.oneCell' = true := by
  intro v hv
  simp only [mnL, List.mem_cons, List.mem_append, List.not_mem_nil, or_false] at hv
  rcases hv with rfl | hv | rfl | rfl
  · rfl
  · exact bV_one' _ v hv
  · rfl
  · rfl
theorem spL_one (x : TSp) : ∀ v ∈ spL x, v.oneCell' = true := by
  intro v hv
  rcases List.mem_append.1 hv with h | h
  · exact ptC_one _ v h
  · exact mnL_one _ v h
theorem ptC_all (p : TPt) : (ptC p).toArray.all (·.oneCell') = true := all_oneCell_toArray (ptC_one p)
theorem mnL_all (c : TMn) : (mnL c).toArray.all (·.oneCell') = true := all_oneCell_toArray (mnL_one c)
theorem spL_all (x : TSp) : (spL x).toArray.all (·.oneCell') = true := all_oneCell_toArray (spL_one x)
theorem bV_list_inj : ∀ {l m : List UInt8}, l.map bV = m.map bV → l = m
  | [], [], _ => rfl
  | [], _ :: _, h => by simp at h
  | _ :: _, [], h => by simp at h
  | x :: l, y :: m, h => by
    simp only [List.map_cons, List.cons.injEq, bV, Value.int.injEq, true_and] at h
    rw [bv_inj h.1, bV_list_inj h.2]
theorem ptC_inj {p q : TPt} (h : ptC p = ptC q) : p = q := by
  have hl : p.h.length = q.h.length := by
    have := congrArg List.length h
    simpa [ptC, ptL] using this
  obtain ⟨h1, h2⟩ := List.append_inj h (by simp [hl])
  simp only [List.cons.injEq, and_true, nV, Value.int.injEq, true_and] at h2
  have e1 := bV_list_inj h1
  have e2 : p.n = q.n := by omega
  cases p
  cases q
  simp only at e1 e2
  rw [e1, e2]
theorem ptC_agg_inj {p q : TPt} (h : Value.agg (ptC p).toArray = .agg (ptC q).toArray) : p = q := ptC_inj (by
  have := Value.agg.inj h
  simpa using this)
/-- What of a coin in a box lies where. -/
theorem mn_lock {w : World} {b o : Nat} {c : TMn} (h : w.rangeAt b o (mnL c)) : w.rangeAt b (o + 1) (c.lock.map bV) := fun j v hj => by
  have := h (j + 1) v (by
    rw [mnL, List.getElem?_cons_succ, List.getElem?_append_left (List.getElem?_eq_some_iff.1 hj).1]
    exact hj)
  rwa [show o + (j + 1) = o + 1 + j by omega] at this
theorem mn_val {w : World} {b o : Nat} {c : TMn} (h : w.rangeAt b o (mnL c)) : w.cell? ⟨b, o, none⟩ = some (.int .u64 (c.val : Int)) := h 0 _ rfl
theorem mn_height {w : World} {b o : Nat} {c : TMn} (hl : c.lock.length = 32) (h : w.rangeAt b o (mnL c)) : w.cell? ⟨b, o + 33, none⟩ = some (.int .i64 c.height) := h 33 _ (by
  rw [mnL, List.getElem?_cons_succ, List.getElem?_append_right (by simp [hl])]
  simp [hl])
theorem mn_base {w : World} {b o : Nat} {c : TMn} (hl : c.lock.length = 32) (h : w.rangeAt b o (mnL c)) : w.cell? ⟨b, o + 34, none⟩ = some (.bool c.base) := h 34 _ (by
  rw [mnL, List.getElem?_cons_succ, List.getElem?_append_right (by simp [hl])]
  simp [hl])
theorem sp_pt {w : World} {b o : Nat} {x : TSp} (h : w.rangeAt b o (spL x)) : w.rangeAt b o (ptC x.at_) := fun j v hj => h j v (by
  rw [spL, List.getElem?_append_left (List.getElem?_eq_some_iff.1 hj).1]
  exact hj)
theorem sp_mn {w : World} {b o : Nat} {x : TSp} (hx : SpOk x) (h : w.rangeAt b o (spL x)) : w.rangeAt b (o + 33) (mnL x.coin) := fun j v hj => by
  have := h (33 + j) v (by
    rw [spL, List.getElem?_append_right (by rw [ptC_length hx.1]; omega), ptC_length hx.1, Nat.add_sub_cancel_left]
    exact hj)
  rwa [show o + (33 + j) = o + 33 + j by omega] at this
theorem pt_hash_r {w : World} {b o : Nat} {p : TPt} (h : w.rangeAt b o (ptC p)) : w.rangeAt b o (p.h.map bV) := fun j v hj => h j v (by
  rw [ptC, ptL, List.getElem?_append_left (List.getElem?_eq_some_iff.1 hj).1]
  exact hj)
theorem pt_num_r {w : World} {b o : Nat} {p : TPt} (hp : p.h.length = 32) (h : w.rangeAt b o (ptC p)) : w.cell? ⟨b, o + 32, none⟩ = some (.int .u32 (p.n : Int)) := h 32 _ (by
  rw [ptC, ptL, List.getElem?_append_right (by simp [hp])]
  simp [hp, nV])
/-! Rows of elements of k cells each. -/
/-- All of k cells. -/
def AllK (k : Nat) (L : List (List Value)) : Prop := ∀ x ∈ L, x.length = k
theorem AllK.snoc {k : Nat} {L : List (List Value)} {x : List Value} (h : AllK k L) (hx : x.length = k) : AllK k (L ++ [x]) := fun y hy => by
  rcases List.mem_append.1 hy with hy | hy
  · exact h y hy
  · rw [List.mem_singleton.1 hy]; exact hx
theorem AllK.take {k : Nat} {L : List (List Value)} (h : AllK k L) (n : Nat) : AllK k (L.take n) := fun x hx => h x (List.mem_of_mem_take hx)
theorem AllK.get {k : Nat} {L : List (List Value)} (h : AllK k L) {i : Nat} {x : List Value} (hx : L[i]? = some x) : x.length = k := h x (List.mem_of_getElem? hx)
theorem flatten_snoc (L : List (List Value)) (x : List Value) : (L ++ [x]).flatten = L.flatten ++ x := by simp
theorem flatten_length {k : Nat} : ∀ (L : List (List Value)), AllK k L → L.flatten.length = L.length * k
  | [], _ => by simp
  | y :: L, h => by
    rw [List.flatten_cons, List.length_append, flatten_length L (fun z hz => h z (List.mem_cons_of_mem _ hz)), h y List.mem_cons_self, List.length_cons, Nat.add_mul, Nat.one_mul, Nat.add_comm]
theorem flatten_get {k : Nat} : ∀ (L : List (List Value)) (i : Nat) (y : List Value), AllK k L → L[i]? = some y → ∀ j, j < k → L.flatten[i * k + j]? = y[j]?
  | z :: L, 0, y, h, hy, j, hj => by
    simp only [List.getElem?_cons_zero, Option.some.injEq] at hy
    subst hy
    rw [Nat.zero_mul, Nat.zero_add, List.flatten_cons, List.getElem?_append_left (by rw [h z List.mem_cons_self]; exact hj)]
  | z :: L, i + 1, y, h, hy, j, hj => by
    have e : z.length = k := h z List.mem_cons_self
    rw [List.flatten_cons, List.getElem?_append_right (by rw [e, Nat.add_mul, Nat.one_mul]; omega), e, show (i + 1) * k + j - k = i * k + j by rw [Nat.add_mul, Nat.one_mul]; omega]
    exact flatten_get L i y (fun z hz => h z (List.mem_cons_of_mem _ hz)) (by simpa using hy) j hj
  | [], _, _, _, hy, _, _ => by simp at hy
/-- The slice v reads as these elements. -/
def RwAt (k : Nat) (w : World) (v : Value) (L : List (List Value)) : Prop :=
  AllK k L ∧ ∃ sp cap, v = .slice sp L.length cap ∧ L.length ≤ cap ∧ (0 < L.length → ∃ b o, sp = some ⟨b, o, none⟩ ∧ ∀ i x, L[i]? = some x → w.rangeAt b (o + i * k) x)
theorem RwAt.below {k : Nat} {w w' : World} {v : Value} {L : List (List Value)} (h : RwAt k w v L) (hb : Below w.heap.size w w') : RwAt k w' v L := by
  obtain ⟨h0, sp, cap, h1, h2, h3⟩ := h
  refine ⟨h0, sp, cap, h1, h2, fun h0 => ?_⟩
  obtain ⟨b, o, h4, h5⟩ := h3 h0
  exact ⟨b, o, h4, fun i x hx => range_below (h5 i x hx) hb⟩
theorem RwAt.nil (k : Nat) (w : World) (sp : Option Addr) (cap : Nat) : RwAt k w (.slice sp 0 cap) [] := ⟨fun x hx => by simp at hx, sp, cap, rfl, by simp, fun h => by simp at h⟩
theorem RwAt.len {k : Nat} {w : World} {sp : Option Addr} {n cap : Nat} {L : List (List Value)} (h : RwAt k w (.slice sp n cap) L) : n = L.length ∧ n ≤ cap := by
  obtain ⟨_, sp', cap', hv, hc, _⟩ := h
  cases hv
  exact ⟨rfl, hc⟩
theorem RwAt.shape {k : Nat} {w : World} {v : Value} {L : List (List Value)} (h : RwAt k w v L) : ∃ sp cap, v = .slice sp L.length cap := by
  obtain ⟨_, sp, cap, hv, _⟩ := h
  exact ⟨sp, cap, hv⟩
/-- Where they lie. -/
theorem RwAt.get {k : Nat} {w : World} {sp : Option Addr} {n cap : Nat} {L : List (List Value)} (h : RwAt k w (.slice sp n cap) L) (h0 : 0 < n) : ∃ b o, sp = some ⟨b, o, none⟩ ∧ ∀ i x, L[i]? = some x → w.rangeAt b (o + i * k) x := by
  obtain ⟨ho, sp', cap', hv, hc, hr⟩ := h
  cases hv
  exact hr h0
/-- A row of one's own. -/
def RwOwn (k : Nat) (T : TypeId) (base : Nat) (w : World) (v : Value) (L : List (List Value)) : Prop := w.ownsRow base T k v L.length L.flatten ∧ AllK k L
theorem RwOwn.nil (k : Nat) (T : TypeId) (base : Nat) (w : World) : RwOwn k T base w (.slice none 0 0) [] := ⟨World.ownsRow_nil _ _ _ _, fun _ h => absurd h (by simp)⟩
section
variable {k : Nat} {T : TypeId} {base : Nat} {w w' : World} {v v' : Value} {L : List (List Value)}
theorem RwOwn.keep (h : RwOwn k T base w v L) (hb : Below w.heap.size w w') : RwOwn k T base w' v L := ⟨own_kept h.1 hb, h.2⟩
theorem RwOwn.kept (h : RwOwn k T base w v L) {q : Option Nat} (hg : w.grownBy w' q) (hb : v.ownBlock = none ∨ v.ownBlock ≠ q) : RwOwn k T base w' v L := ⟨h.1.kept hg hb, h.2⟩
theorem RwOwn.push {x : List Value} (ho : AllK k L) (hx : x.length = k) (hown : w'.ownsRow base T k v' (L.length + 1) (L.flatten ++ x)) : RwOwn k T base w' v' (L ++ [x]) := by
  refine ⟨?_, ho.snoc hx⟩
  rw [flatten_snoc, List.length_append]
  exact hown
/-- Such a row as a slice. -/
theorem RwOwn.at (h : RwOwn k T base w v L) (hk : 0 < k) : RwAt k w v L := by
  obtain ⟨h2, h3⟩ := h
  refine ⟨h3, ?_⟩
  rcases h2.2 with ⟨hv, h0⟩ | ⟨g, cap, cur, hv, hb, hc, hn, hm, hs, ht⟩
  · exact ⟨none, 0, by rw [hv, h0], by omega, fun h => by omega⟩
  · subst hv
    refine ⟨_, cap, rfl, hn, fun h0 => ⟨g, 0, rfl, fun i x hx => ?_⟩⟩
    have hi := (List.getElem?_eq_some_iff.1 hx).1
    have hxo := h3.get hx
    intro j u hj
    have hjk : j < k := by
      have := (List.getElem?_eq_some_iff.1 hj).1
      omega
    have hlt : i * k + j < L.length * k := by
      have : (i + 1) * k ≤ L.length * k := Nat.mul_le_mul_right _ hi
      rw [Nat.add_mul, Nat.one_mul] at this
      omega
    rw [Nat.zero_add, h2.cellAt (i * k + j) hlt, flatten_get L i x h3 hx j hjk]
    exact hj
end
/-- A part of such a slice. -/
theorem RwAt.cut {k : Nat} {w : World} {sp : Option Addr} {n cap : Nat} {L : List (List Value)} (h : RwAt k w (.slice sp n cap) L) (i r : Nat) (h1 : i ≤ r) (h2 : r ≤ n) : RwAt k w (sliced sp i r cap k) ((L.take r).drop i) := by
  have hn := h.len
  have hok := h.1
  have hl : ((L.take r).drop i).length = r - i := by rw [List.length_drop, List.length_take]; omega
  refine ⟨fun x hx => hok x (List.mem_of_mem_take (List.mem_of_mem_drop hx)), if cap = i then sp else sp.map (·.add (i * k)), cap - i, by rw [sliced, hl], by omega, fun h0 => ?_⟩
  obtain ⟨_, sp', cap', hv, hc, hr⟩ := h
  cases hv
  obtain ⟨b, o, hs, hx⟩ := hr (by omega)
  subst hs
  refine ⟨b, o + i * k, by rw [if_neg (by omega)]; simp [Addr.add_mid], fun j x hj => ?_⟩
  have hj2 : j < r - i := by have := (List.getElem?_eq_some_iff.1 hj).1; omega
  rw [List.getElem?_drop, List.getElem?_take_of_lt (by omega)] at hj
  have := hx (i + j) x hj
  rwa [show o + (i + j) * k = o + i * k + j * k by rw [Nat.add_mul]; omega] at this
end Go.Proofs.YtnhmjlljnckieaaDoor.Sha

/-
  What a fact stands on: 'Kps F w w'': w' is w in the blocks of F, and may have more; 'Sty F w P': P holds in each such world. No conditions.
-/
namespace Go.Proofs.YtnhmjlljnckieaaDoor.Sha
open Go Go.RowKit
/-- In the blocks of F the world w' is as w was; the streams too. -/
structure Kps (F : Nat → Prop) (w w' : World) : Prop where
  os : w'.os = w.os
  tape : w'.tape = w.tape
  output : w'.output = w.output
  size : w.heap.size ≤ w'.heap.size
  block : ∀ k, k < w.heap.size → F k → w'.heap[k]? = w.heap[k]?
theorem Kps.refl (F : Nat → Prop) (w : World) : Kps F w w := ⟨rfl, rfl, rfl, Nat.le_refl _, fun _ _ _ => rfl⟩
theorem Kps.trans {F : Nat → Prop} {a b c : World} (h : Kps F a b) (k : Kps F b c) : Kps F a c :=
  ⟨k.os.trans h.os, k.tape.trans h.tape, k.output.trans h.output, Nat.le_trans h.size k.size, fun i hi hf => (k.block i (Nat.lt_of_lt_of_le hi h.size) hf).trans (h.block i hi hf)⟩
theorem Kps.mono {F G : Nat → Prop} {w w' : World} (h : Kps F w w') (hs : ∀ k, k < w.heap.size → G k → F k) : Kps G w w' :=
  ⟨h.os, h.tape, h.output, h.size, fun k hk hg => h.block k hk (hs k hk hg)⟩
theorem Kps.below {F : Nat → Prop} {B : Nat} {w w' : World} (h : Below B w w') (hs : ∀ k, k < w.heap.size → F k → k < B) : Kps F w w' :=
  ⟨h.os, h.tape, h.output, h.size, fun k hk hf => h.block k (hs k hk hf)⟩
theorem Kps.new {F : Nat → Prop} {w w' : World} (h : Below w.heap.size w w') : Kps F w w' := Kps.below h fun _ hk _ => hk
theorem Kps.grown {F : Nat → Prop} {q : Option Nat} {w w' : World} (h : w.grownBy w' q) (hs : ∀ k, k < w.heap.size → F k → some k ≠ q) : Kps F w w' :=
  ⟨h.os, h.tape, h.output, h.size, fun k hk hf => h.block k hk (hs k hk hf)⟩
theorem Kps.toBelow {F : Nat → Prop} {w w' : World} (h : Kps F w w') (hs : ∀ k, k < w.heap.size → F k) : Below w.heap.size w w' :=
  ⟨h.os, h.tape, h.output, h.size, fun k hk => h.block k hk (hs k hk)⟩
/-- P holds in every world that is as w in the blocks of F. -/
def Sty (F : Nat → Prop) (w : World) (P : World → Prop) : Prop := ∀ w', Kps F w w' → P w'
theorem Sty.now {F : Nat → Prop} {w : World} {P : World → Prop} (h : Sty F w P) : P w := h w (Kps.refl _ _)
theorem Sty.on {F : Nat → Prop} {w w' : World} {P : World → Prop} (h : Sty F w P) (hk : Kps F w w') : Sty F w' P := fun w'' h2 => h w'' (hk.trans h2)
theorem Sty.imp {F G : Nat → Prop} {w : World} {P Q : World → Prop} (h : Sty F w P) (hs : ∀ k, k < w.heap.size → F k → G k) (hq : ∀ w', P w' → Q w') : Sty G w Q :=
  fun w' hk => hq _ (h w' (hk.mono hs))
/-- What stands while old blocks stand. -/
theorem Sty.all {w : World} {P : World → Prop} (h : ∀ w', Below w.heap.size w w' → P w') : Sty (fun k => k < w.heap.size) w P :=
  fun w' hk => h w' (hk.toBelow fun _ h => h)
theorem row_kps {F : Nat → Prop} {w w' : World} {g : Nat} {o : Obj} (h : w.heap[g]? = some o) (hk : Kps F w w') (hf : F g) : w'.heap[g]? = some o := by
  rw [hk.block g (Array.getElem?_eq_some_iff.1 h).1 hf]
  exact h
theorem SrcB.kps {F : Nat → Prop} {w w' : World} {v : Value} {bs : List UInt8} (h : SrcB w v bs) (ho : ∀ sp n cap, v = .slice (some sp) n cap → 0 < n → F sp.block) (hk : Kps F w w') : SrcB w' v bs := by
  rcases h with h | ⟨h0, bb, off, cap, hv, hc, hs⟩
  · exact .inl h
  · refine .inr ⟨h0, bb, off, cap, hv, hc, fun j hj => ?_⟩
    rw [World.cell?_of_block (hk.block bb (SrcB.block h0 hs) (ho _ _ _ hv h0))]
    exact hs j hj
theorem KeyAt.kps {F : Nat → Prop} {w w' : World} {kv : Value} {key : List UInt8} (h : KeyAt w kv key) (ho : ∀ sp n cap, kv = .slice (some sp) n cap → 0 < n → F sp.block) (hk : Kps F w w') : KeyAt w' kv key := ⟨h.1.kps ho hk, h.2⟩
theorem own_kps {F : Nat → Prop} {w w' : World} {base n size : Nat} {e : TypeId} {v : Value} {xs : List Value} (h : w.ownsRow base e size v n xs) (hk : Kps F w w') (hf : ∀ k, base ≤ k → F k) : w'.ownsRow base e size v n xs := by
  refine ⟨h.1, ?_⟩
  rcases h.2 with hn | ⟨g, cap, cur, rfl, hb, hg, rest⟩
  · exact .inl hn
  · exact .inr ⟨g, cap, cur, rfl, hb, row_kps hg hk (hf g hb), rest⟩
theorem InsOwn.kps {F : Nat → Prop} {w w' : World} {base : Nat} {v : Value} {l : List TIn} {ks : List Value} (h : InsOwn base w v l ks) (hk : Kps F w w') (hf : ∀ k, base ≤ k → F k) : InsOwn base w' v l ks :=
  ⟨h.1, own_kps h.2.1 hk hf, h.2.2.1, fun i x kv hx hkv => ⟨(h.2.2.2 i x kv hx hkv).1.kps (fun sp n cap hv h0 => hf _ (Nat.le_of_not_lt fun hlt => (h.2.2.2 i x kv hx hkv).2.1 sp.block hlt sp n cap hv h0 rfl)) hk, (h.2.2.2 i x kv hx hkv).2⟩⟩
theorem OutsOwn.kps {F : Nat → Prop} {w w' : World} {base : Nat} {v : Value} {m : List TOut} (h : OutsOwn base w v m) (hk : Kps F w w') (hf : ∀ k, base ≤ k → F k) : OutsOwn base w' v m := ⟨own_kps h.1 hk hf, h.2⟩
/-- What stands on new blocks stands while one old block turns. -/
theorem sty_old {w w' : World} {P : World → Prop} (h : Sty (fun k => w.heap.size ≤ k) w' P) : ∀ q, q < w.heap.size → ∀ w'', w'.grownBy w'' (some q) → P w'' := fun q hq w'' hw =>
  h w'' (Kps.grown hw fun k _ hk e => by have := Option.some.inj e; omega)
/-- A transaction in memory that was made since w. -/
def TxNew (w w' : World) (v : Value) (t : TTx) : Prop := Sty (fun k => w.heap.size ≤ k) w' (fun W => TxAt W v t)
theorem TxNew.at {w w' : World} {v : Value} {t : TTx} (h : TxNew w w' v t) : TxAt w' v t := h.now
end Go.Proofs.YtnhmjlljnckieaaDoor.Sha
