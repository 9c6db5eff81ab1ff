/-
  Texts of this proof joined into one file: TxRow, StoreW, TxRead2, TxTakeM, TxC2, HdVal, Keep, Txs, HdStore, TxTakeIn, TxTakeW0, BlStore, TxBuilds, TxLits, TxNew, Hs, RefSmall. What each holds, and under which conditions, its own first sentence tells.
-/
import Derived.Great.BuildSlice
import Derived.Laws.ResultCell
import Derived.LaidEql
import Derived.Deep.DeepFit
import Derived.Maps.AppendAt
import Derived.Maps.OwnSet
import Derived.DeepKeys4
import Derived.Deep.OwnRows
import Derived.Test.YtdhcjaflbfpalaaGreatDoorMh04
import Derived.Test.YtdhcjaflbfpalaaGreatDoorMh01
import Derived.Test.YtdhcjaflbfpalaaGreatDoorMh03
/-
  Inputs and outputs in rows of one's own: a row of them grows, its keys lie apart from it; what such a row is as a slice. What a slice literal of one or two structures lays. No conditions beyond those that each states.
-/
namespace Go.Proofs.YtdhcjaflbfpalaaGreatDoor.Sha
open Go Go.RowKit
theorem info_in : (Tryz.prog.info? 114).map (fun i => (i.zero, i.size, i.bytes)) = some (some (.agg (List.replicate 32 (bV 0) ++ [nV 0, .slice none 0 0, nV 0]).toArray), 35, 72) := by kernel_rfl
theorem info_out : (Tryz.prog.info? 116).map (fun i => (i.zero, i.size, i.bytes)) = some (some (.agg (uV 0 :: List.replicate 32 (bV 0)).toArray), 33, 40) := by kernel_rfl
/-- The cells of so many inputs, their keys given. -/
def insL : List TIn → List Value → List Value
  | x :: l, kv :: ks => inL x kv ++ insL l ks
  | _, _ => []
def outsL (l : List TOut) : List Value := l.flatMap outL
theorem insL_snoc (x : TIn) (kv : Value) : ∀ (l : List TIn) (ks : List Value), l.length = ks.length → insL (l ++ [x]) (ks ++ [kv]) = insL l ks ++ inL x kv
  | [], [], _ => by simp [insL]
  | y :: l, k :: ks, h => by
    simp only [List.cons_append, insL, insL_snoc x kv l ks (by simpa using h), List.append_assoc]
theorem insL_get : ∀ (l : List TIn) (ks : List Value) (i : Nat) (x : TIn) (kv : Value), InsOk l → l[i]? = some x → ks[i]? = some kv → ∀ j, j < 35 → (insL l ks)[i * 35 + j]? = (inL x kv)[j]?
  | y :: l, k :: ks, 0, x, kv, ho, hx, hk, j, hj => by
    simp only [List.getElem?_cons_zero, Option.some.injEq] at hx hk
    subst hx hk
    rw [Nat.zero_mul, Nat.zero_add, insL, List.getElem?_append_left (by rw [inL_length y k (ho y List.mem_cons_self).1]; exact hj)]
  | y :: l, k :: ks, i + 1, x, kv, ho, hx, hk, j, hj => by
    have e := inL_length y k (ho y List.mem_cons_self).1
    rw [insL, List.getElem?_append_right (by omega), e, show (i + 1) * 35 + j - 35 = i * 35 + j by omega]
    exact insL_get l ks i x kv (fun z hz => ho z (List.mem_cons_of_mem _ hz)) (by simpa using hx) (by simpa using hk) j hj
  | [], _, _, _, _, _, hx, _, _, _ => by simp at hx
  | _ :: _, [], _, _, _, _, _, hk, _, _ => by simp at hk
theorem outsL_get : ∀ (l : List TOut) (i : Nat) (y : TOut), OutsOk l → l[i]? = some y → ∀ j, j < 33 → (outsL l)[i * 33 + j]? = (outL y)[j]?
  | z :: l, 0, y, ho, hy, j, hj => by
    simp only [List.getElem?_cons_zero, Option.some.injEq] at hy
    subst hy
    rw [Nat.zero_mul, Nat.zero_add, outsL, List.flatMap_cons, List.getElem?_append_left (by rw [outL_length z (ho z List.mem_cons_self).1]; exact hj)]
  | z :: l, i + 1, y, ho, hy, j, hj => by
    have e := outL_length z (ho z List.mem_cons_self).1
    rw [outsL, List.flatMap_cons, List.getElem?_append_right (by omega), e, show (i + 1) * 33 + j - 33 = i * 33 + j by omega]
    exact outsL_get l i y (fun z hz => ho z (List.mem_cons_of_mem _ hz)) (by simpa using hy) j hj
  | [], _, _, _, hy, _, _ => by simp at hy
/-- A slice of bytes that does not lie in this block. -/
def Off (kv : Value) (q : Option Nat) : Prop := ∀ sp n cap, kv = .slice (some sp) n cap → 0 < n → q ≠ some sp.block
theorem Off.none (kv : Value) : Off kv none := fun _ _ _ _ _ e => by cases e
theorem SrcB.off {w w' : World} {v : Value} {bs : List UInt8} {q : Option Nat} (h : SrcB w v bs) (ho : Off v q) (hg : w.grownBy w' q) : SrcB w' v bs := by
  rcases h with h | ⟨h0, bb, off, cap, hv, hc, hs⟩
  · exact .inl h
  · refine .inr ⟨h0, bb, off, cap, hv, hc, fun j hj => ?_⟩
    rw [World.cell?_of_block (hg.block bb (SrcB.block h0 hs) (fun e => ho _ _ _ hv h0 e.symm))]
    exact hs j hj
theorem KeyAt.off {w w' : World} {kv : Value} {key : List UInt8} {q : Option Nat} (h : KeyAt w kv key) (ho : Off kv q) (hg : w.grownBy w' q) : KeyAt w' kv key := ⟨h.1.off ho hg, h.2⟩
theorem KeyAt.fresh {w : World} {kv : Value} {key : List UInt8} {k : Nat} (h : KeyAt w kv key) (hk : w.heap.size ≤ k) : Off kv (some k) := fun sp n cap hv hn e => by
  rcases h.1 with ⟨sp', cap', hv', _⟩ | ⟨h0, bb, off, cap', hv', _, hs⟩
  · rw [hv'] at hv
    cases hv
    omega
  · have := SrcB.block h0 hs
    rw [hv'] at hv
    cases hv
    have e2 : k = bb := Option.some.inj e
    omega
/-- A row of inputs of one's own; its keys lie apart from it, and from all that was there before. -/
def InsOwn (base : Nat) (w : World) (v : Value) (l : List TIn) (ks : List Value) : Prop :=
  l.length = ks.length ∧ w.ownsRow base 114 35 v l.length (insL l ks) ∧ InsOk l ∧ ∀ (i : Nat) x kv, l[i]? = some x → ks[i]? = some kv → KeyAt w kv x.key ∧ (∀ q, q < base → Off kv (some q)) ∧ Off kv v.ownBlock
def OutsOwn (base : Nat) (w : World) (v : Value) (l : List TOut) : Prop := w.ownsRow base 116 33 v l.length (outsL l) ∧ OutsOk l
theorem InsOwn.nil (base : Nat) (w : World) : InsOwn base w (.slice none 0 0) [] [] := ⟨rfl, World.ownsRow_nil _ _ _ _, fun _ h => absurd h (by simp), fun i x kv h => absurd h (by simp)⟩
theorem OutsOwn.nil (base : Nat) (w : World) : OutsOwn base w (.slice none 0 0) [] := ⟨World.ownsRow_nil _ _ _ _, fun _ h => absurd h (by simp)⟩
section
variable {base : Nat} {w w' : World} {v v' : Value} {l : List TIn} {ks : List Value} {m : List TOut}
theorem InsOwn.keep (h : InsOwn base w v l ks) (hb : Below w.heap.size w w') : InsOwn base w' v l ks :=
  ⟨h.1, own_kept h.2.1 hb, h.2.2.1, fun i x kv hx hk => ⟨(h.2.2.2 i x kv hx hk).1.below hb, (h.2.2.2 i x kv hx hk).2⟩⟩
theorem OutsOwn.kept (h : OutsOwn base w v m) {q : Option Nat} (hg : w.grownBy w' q) (hb : v.ownBlock = none ∨ v.ownBlock ≠ q) : OutsOwn base w' v m := ⟨h.1.kept hg hb, h.2⟩
theorem OutsOwn.keep (h : OutsOwn base w v m) (hb : Below w.heap.size w w') : OutsOwn base w' v m := ⟨own_kept h.1 hb, h.2⟩
theorem InsOwn.push (h : InsOwn base w v l ks) {x : TIn} {kv : Value} (hx : InOk x) (hk : KeyAt w kv x.key) (hr : ∀ q, q < base → Off kv (some q)) (ho : Off kv v.ownBlock)
    (hown : w'.ownsRow base 114 35 v' (l.length + 1) (insL l ks ++ inL x kv)) (hg : w.grownBy w' v.ownBlock) (hat : v'.ownBlock = v.ownBlock ∨ v'.ownBlock = some w.heap.size) : InsOwn base w' v' (l ++ [x]) (ks ++ [kv]) := by
  refine ⟨by simp [h.1], ?_, ?_, ?_⟩
  · rw [insL_snoc x kv l ks h.1, List.length_append]
    exact hown
  · intro z hz
    rcases List.mem_append.1 hz with hz | hz
    · exact h.2.2.1 z hz
    · rw [List.mem_singleton.1 hz]; exact hx
  · have move : ∀ {x : TIn} {kv : Value}, KeyAt w kv x.key → (∀ q, q < base → Off kv (some q)) → Off kv v.ownBlock → KeyAt w' kv x.key ∧ (∀ q, q < base → Off kv (some q)) ∧ Off kv v'.ownBlock := fun {x kv} a b c => by
      refine ⟨a.off c hg, b, ?_⟩
      rcases hat with e | e
      · rw [e]; exact c
      · rw [e]; exact a.fresh (Nat.le_refl _)
    intro i y kw hy hkw
    by_cases hi : i < l.length
    · rw [List.getElem?_append_left hi] at hy
      rw [List.getElem?_append_left (by rw [← h.1]; exact hi)] at hkw
      obtain ⟨a, b, c⟩ := h.2.2.2 i y kw hy hkw
      exact move a b c
    · have hil : i = l.length := by
        have := (List.getElem?_eq_some_iff.1 hy).1
        simp at this
        omega
      subst hil
      rw [List.getElem?_append_right (Nat.le_refl _), Nat.sub_self] at hy
      have h1 := h.1
      rw [List.getElem?_append_right (by omega), h1, Nat.sub_self] at hkw
      simp only [List.getElem?_cons_zero, Option.some.injEq] at hy hkw
      subst hy hkw
      exact move hk hr ho
theorem OutsOwn.push (h : OutsOwn base w v m) {y : TOut} (hy : OutOk y) (hown : w'.ownsRow base 116 33 v' (m.length + 1) (outsL m ++ outL y)) : OutsOwn base w' v' (m ++ [y]) := by
  refine ⟨?_, ?_⟩
  · have e : outsL (m ++ [y]) = outsL m ++ outL y := by simp [outsL, List.flatMap_append]
    rw [e, List.length_append]
    exact hown
  · intro z hz
    rcases List.mem_append.1 hz with hz | hz
    · exact h.2 z hz
    · rw [List.mem_singleton.1 hz]; exact hy
/-- Such a row as a slice of inputs. -/
theorem InsOwn.at (h : InsOwn base w v l ks) : InsAt w v l := by
  obtain ⟨h1, h2, h3, h4⟩ := h
  rcases h2.2 with ⟨hv, h0⟩ | ⟨g, cap, cur, hv, hb, hc, hn, hm, hs, ht⟩
  · exact ⟨none, 0, by rw [hv, h0], by omega, fun h => by omega⟩
  · subst hv
    refine ⟨_, cap, rfl, hn, fun h0 => ⟨g, 0, rfl, fun i x hx => ?_⟩⟩
    have hi := (List.getElem?_eq_some_iff.1 hx).1
    obtain ⟨kv, hkv⟩ : ∃ kv, ks[i]? = some kv := ⟨_, List.getElem?_eq_getElem (by omega)⟩
    have hxo := h3 x (List.mem_of_getElem? hx)
    refine ⟨hxo, kv, (h4 i x kv hx hkv).1, fun j u hj => ?_⟩
    have hj35 : j < 35 := by
      have := (List.getElem?_eq_some_iff.1 hj).1
      rwa [inL_length x kv hxo.1] at this
    rw [Nat.zero_add, h2.cellAt (i * 35 + j) (by omega), insL_get l ks i x kv h3 hx hkv j hj35]
    exact hj
theorem OutsOwn.at (h : OutsOwn base w v m) : OutsAt w v m := by
  obtain ⟨h2, h3⟩ := h
  rcases h2.2 with ⟨hv, h0⟩ | ⟨g, cap, cur, hv, hb, hc, hn, hm, hs, ht⟩
  · exact ⟨none, 0, by rw [hv, h0], by omega, fun h => by omega⟩
  · subst hv
    refine ⟨_, cap, rfl, hn, fun h0 => ⟨g, 0, rfl, fun i x hx => ?_⟩⟩
    have hi := (List.getElem?_eq_some_iff.1 hx).1
    have hxo := h3 x (List.mem_of_getElem? hx)
    refine ⟨hxo, fun j u hj => ?_⟩
    have hj35 : j < 33 := by
      have := (List.getElem?_eq_some_iff.1 hj).1
      rwa [outL_length x hxo.1] at this
    rw [Nat.zero_add, h2.cellAt (i * 33 + j) (by omega), outsL_get m i x h3 hx j hj35]
    exact hj
end
/-- A literal of one structure, of two. -/
theorem fill_one (size : Nat) (zs : List Value) (hz : zs.length = size) (cs : List Value) (hc : cs.length = size) : Instr.fill (fun i => some (i * size, size)) zs.toArray [(0, .agg cs.toArray)] = some cs.toArray := by
  have h := fill_part (fun i => some (i * size, size)) 0 0 (.agg cs.toArray) cs zs [] rfl (by simp [hc]) (by omega)
  rw [h]
  have e : zs.drop (0 + cs.length) = [] := List.drop_eq_nil_of_le (by omega)
  rw [List.take_zero, List.nil_append, e, List.append_nil]
  rfl
section
variable {P : Program}
theorem wp_slice_one {o : Oper} {a : Act} {w : World} {K : Act → World → Prop} {Q : Exit → Act → World → Prop} (t e : TypeId) (x : Operand) (ho : o.op = .buildSlice t 1 #[(0, x)]) (cs : List Value) (hx : a.eval x = .agg cs.toArray)
    (hu : P.underlying t = some (.slice e)) (i : TypeInfo) (z : Value) (hi : P.info? e = some i) (hz : i.zero = some z) (hs : i.size = cs.length) (hp : 0 < cs.length) (hm : cs.length ≤ 16777216)
    (h : K (a.put o.dst (.slice (some ⟨w.heap.size, 0, none⟩) 1 1)) (w.alloc (.cells cs.toArray e))) : o.wp P a w K Q := by
  refine wp_buildSlice t e 1 _ ho cs.toArray i z hu hi hz (by rw [hs]; omega) (by rw [hs]; omega) ?_ h
  have e1 : (Array.map (fun (q : Nat × Operand) => (q.1, a.eval q.2)) #[(0, x)]).toList = [(0, .agg cs.toArray)] := by simp [hx]
  rw [show (Array.map (fun (i, x) => (i, a.eval x)) #[(0, x)]).toList = [(0, .agg cs.toArray)] from e1, ← Array.toArray_toList (xs := Array.map _ _)]
  exact fill_one i.size _ (by simp) cs hs.symm
theorem wpList_slice_one {ops : Array Oper} {rest : List Oper} {o : Oper} {a : Act} {w : World} {Q : Exit → Act → World → Prop} (hg : o.guard = none) (t e : TypeId) (x : Operand) (ho : o.op = .buildSlice t 1 #[(0, x)]) (cs : List Value) (hx : a.eval x = .agg cs.toArray)
    (hu : P.underlying t = some (.slice e)) (i : TypeInfo) (z : Value) (hi : P.info? e = some i) (hz : i.zero = some z) (hs : i.size = cs.length) (hp : 0 < cs.length) (hm : cs.length ≤ 16777216)
    (h : wpList P ops Q rest (a.put o.dst (.slice (some ⟨w.heap.size, 0, none⟩) 1 1)) (w.alloc (.cells cs.toArray e))) : wpList P ops Q (o :: rest) a w :=
  wpList_plain hg fun _ hK => wp_slice_one t e x ho cs hx hu i z hi hz hs hp hm (hK _ _ h)
end
end Go.Proofs.YtdhcjaflbfpalaaGreatDoor.Sha

/-
  A value stored into a box, or into a part of a block of one's own, the new world hidden; two boxes; a box and a value as results. No conditions beyond those that each states.
-/
namespace Go.Proofs.YtdhcjaflbfpalaaGreatDoor.Sha
open Go Go.RowKit
section
variable {P : Program}
theorem setRow_grown {w : World} {g : Nat} (cs : Array Value) : w.grownBy (w.setRow g cs) (some g) := by
  refine ⟨rfl, rfl, rfl, by simp [World.setRow], fun k _ hk => ?_⟩
  simp only [World.setRow]
  rw [Array.getElem?_modify, if_neg (fun e => hk (by rw [e]))]
theorem run_store_part {w : World} (ty : TypeId) (g o : Nat) (A old C new : List Value) (T : TypeId) (v : Value) (hv : v.cells = new.toArray) (hA : A.length = o) (hlen : old.length = new.length)
    (hg : w.heap[g]? = some (.cells (A ++ old ++ C).toArray T (0, 0))) (hi : (P.info? ty).map (·.size) = some new.length) (h1 : ∀ u ∈ new, u.oneCell' = true) :
    (storeVar ty ⟨g, o, none⟩ v).run P w = .ok () (w.setRow g (A ++ new ++ C).toArray) := by
  have h := run_storeCells_at P g o T new 0 (A ++ old ++ C).toArray w hg (by simp; omega) h1
  have e : ((A ++ old ++ C).toArray.toList.take (o + 0) ++ new ++ (A ++ old ++ C).toArray.toList.drop (o + 0 + new.length)).toArray = (A ++ new ++ C).toArray := by
    congr 1
    subst hA
    simp only [Nat.add_zero]
    rw [List.append_assoc A old C, List.take_left, ← List.drop_drop, List.drop_left, ← hlen, List.drop_left]
  rw [e] at h
  cases hq : P.info? ty with
  | none => simp [hq] at hi
  | some i =>
    have hs : i.size = new.length := by simpa [hq] using hi
    simp [storeVar, sizeOf, typeInfo, hq, hv, hs]
    simpa using h
theorem wp_store_part {op : Oper} {a : Act} {w : World} {K : Act → World → Prop} {Q : Exit → Act → World → Prop} (ty : TypeId) (x y : Operand) (ho : op.op = .store ty x y)
    (g o : Nat) (A old C new : List Value) (T : TypeId) (v : Value) (hx : a.eval x = .pointer (some ⟨g, o, none⟩)) (hy : a.eval y = v) (hv : v.cells = new.toArray) (hA : A.length = o) (hlen : old.length = new.length)
    (hg : w.heap[g]? = some (.cells (A ++ old ++ C).toArray T (0, 0))) (hi : (P.info? ty).map (·.size) = some new.length) (h1 : ∀ u ∈ new, u.oneCell' = true)
    (h : ∀ w', w'.heap[g]? = some (.cells (A ++ new ++ C).toArray T (0, 0)) → w.grownBy w' (some g) → K (a.put op.dst undef) w') : op.wp P a w K Q := by
  unfold Oper.wp execOp
  simp only [ho, hx, hy, Instr.storeAt, Instr.sureAddr, Sem.run_bind, Sem.run_pure, Result.andThen_ok, run_store_part ty g o A old C new T v hv hA hlen hg hi h1]
  exact h _ (setRow_heap _ _ _ _ _ _ hg) (setRow_grown _)
theorem wpList_store_part {ops : Array Oper} {rest : List Oper} {op : Oper} {a : Act} {w : World} {Q : Exit → Act → World → Prop} (hgd : op.guard = none) (ty : TypeId) (x y : Operand) (ho : op.op = .store ty x y)
    (g o : Nat) (A old C new : List Value) (T : TypeId) (v : Value) (hx : a.eval x = .pointer (some ⟨g, o, none⟩)) (hy : a.eval y = v) (hv : v.cells = new.toArray) (hA : A.length = o) (hlen : old.length = new.length)
    (hg : w.heap[g]? = some (.cells (A ++ old ++ C).toArray T (0, 0))) (hi : (P.info? ty).map (·.size) = some new.length) (h1 : ∀ u ∈ new, u.oneCell' = true)
    (h : ∀ w', w'.heap[g]? = some (.cells (A ++ new ++ C).toArray T (0, 0)) → w.grownBy w' (some g) → wpList P ops Q rest (a.put op.dst undef) w') : wpList P ops Q (op :: rest) a w :=
  wpList_plain hgd fun _ hK => wp_store_part ty x y ho g o A old C new T v hx hy hv hA hlen hg hi h1 (fun w' a1 a2 => hK _ _ (h w' a1 a2))
end
theorem row_far {w w' : World} {g : Nat} {q : Option Nat} {o : Obj} (h : w.heap[g]? = some o) (hg : w.grownBy w' q) (hq : q ≠ some g) : w'.heap[g]? = some o := by
  rw [hg.block g (Array.getElem?_eq_some_iff.1 h).1 (fun e => hq e.symm)]
  exact h
section
variable {P : Program}
theorem wp_store_whole {op : Oper} {a : Act} {w : World} {K : Act → World → Prop} {Q : Exit → Act → World → Prop} (ty : TypeId) (x y : Operand) (ho : op.op = .store ty x y)
    (g : Nat) (old new : List Value) (T : TypeId) (hx : a.eval x = .pointer (some ⟨g, 0, none⟩)) (hy : a.eval y = .agg new.toArray) (hlen : old.length = new.length) (hrow : w.heap[g]? = some (.cells old.toArray T (0, 0)))
    (hi : (P.info? ty).map (·.size) = some new.length) (h1 : new.toArray.all (·.oneCell') = true)
    (h : ∀ w', w'.heap[g]? = some (.cells new.toArray T (0, 0)) → w.grownBy w' (some g) → K (a.put op.dst undef) w') : op.wp P a w K Q :=
  wp_store_row ty x y ho g new.toArray hx hy T old.toArray hrow (by simpa using hi) (by simpa using hlen) h1 (h _ (setRow_heap _ _ _ _ _ _ hrow) (setRow_grown _))
end
theorem results_row_tmp {P : Program} {fn : Func} {p u : Tmp} {ty : TypeId} (h : fn.results = #[.cell p ty, .tmp u]) (tmps : Array Value) (w : World) (g : Nat) (t : TypeId) (cs : Array Value) (fr : Nat × Nat) (d : TypeDesc)
    (hx : tmps.getD p undef = .pointer (some ⟨g, 0, none⟩)) (hg : w.heap[g]? = some (.cells cs t fr)) (hu : P.underlying ty = some d) (hd : (match d with | .struct _ | .array _ _ => true | _ => false) = true) (hi : (P.info? ty).map (·.size) = some cs.size) :
    (results fn tmps).run P w = .ok (.tuple #[.agg cs, tmps.getD u undef]) w := by
  rw [results_cell_tmp h, hx]
  simp [asAddr, Result.andThen, run_loadVar_row (P := P) w g t ty cs fr d hg hu hd hi]
end Go.Proofs.YtdhcjaflbfpalaaGreatDoor.Sha

/-
  Plain mathematics of a transaction read out of bytes: an input, an output, the whole; all that is in the bytes, and what is amiss. No conditions beyond those that each states.
-/
namespace Go.Proofs.YtdhcjaflbfpalaaGreatDoor.Sha
open Go Go.RowKit
def inP : Par TIn := thenP (takeL 32) fun h => thenP (leP 4) fun n => thenP (numL 80) fun k => thenP (takeL k) fun key => mapP (fun s => ⟨padH h, n, key, s⟩) (leP 4)
def outP : Par TOut := thenP (leP 8) fun v => mapP (fun h => ⟨v, padH h⟩) (takeL 32)
def txP : Par TTx := thenP (leP 4) fun v => thenP (numL 50) fun n => thenP (manyP inP n) fun is => thenP (numL 50) fun m => thenP (manyP outP m) fun os => mapP (fun t => ⟨v, is, os, t⟩) (leP 4)
def noTx : TTx := ⟨0, [], [], 0⟩
/-- A transaction out of a Reader: none where an error was met. -/
def takeTx (bs : List UInt8) (c : Nat) : TTx × List UInt8 × Nat := if (txP bs c).2.2 = 0 then txP bs c else (noTx, (txP bs c).2)
/-- Bytes as a transaction, or what is amiss. -/
def readTx (bs : List UInt8) : TTx × Nat := if (txP bs 0).2.2 ≠ 0 then (noTx, (txP bs 0).2.2) else if (txP bs 0).2.1 ≠ [] then (noTx, 2) else ((txP bs 0).1, 0)
end Go.Proofs.YtdhcjaflbfpalaaGreatDoor.Sha

/-
  Plain mathematics of so many things read one behind the other, whether or not an error was met between: they leave and meet what those do that stop at the first error. No conditions.
-/
namespace Go.Proofs.YtdhcjaflbfpalaaGreatDoor.Sha
open Go Go.RowKit
section
variable {α β : Type} {p q : Par α}
/-- Behind an error nothing is read. -/
def Still (p : Par α) : Prop := ∀ bs c, c ≠ 0 → (p bs c).2 = (bs, c)
theorem Still.andThen {f : α → Par β} (h1 : Still p) (h2 : ∀ a, Still (f a)) : Still (thenP p f) := fun bs c hc => by
  have e := h1 bs c hc
  unfold thenP
  rw [e]
  exact h2 _ bs c hc
theorem Still.map (f : α → β) (h : Still p) : Still (mapP f p) := fun bs c hc => h bs c hc
/-- Two that leave and meet the same, and are the same where nothing is met. -/
def Sim (p q : Par α) : Prop := ∀ bs c, (p bs c).2 = (q bs c).2 ∧ ((p bs c).2.2 = 0 → p bs c = q bs c)
theorem Sim.refl (p : Par α) : Sim p p := fun _ _ => ⟨rfl, fun _ => rfl⟩
theorem Sim.andThen {f g : α → Par β} (h1 : Sim p q) (h2 : ∀ a, Sim (f a) (g a)) (s1 : ∀ a, Still (f a)) (s2 : ∀ a, Still (g a)) : Sim (thenP p f) (thenP q g) := fun bs c => by
  obtain ⟨e1, e2⟩ := h1 bs c
  unfold thenP
  by_cases hd : (p bs c).2.2 = 0
  · have e := e2 hd
    rw [← e]
    exact h2 _ _ _
  · rw [← e1]
    have a1 := s1 (p bs c).1 (p bs c).2.1 (p bs c).2.2 hd
    have a2 := s2 (q bs c).1 (p bs c).2.1 (p bs c).2.2 hd
    exact ⟨a1.trans a2.symm, fun h0 => by rw [a1] at h0; exact absurd h0 hd⟩
theorem Sim.map (f : α → β) (h : Sim p q) : Sim (mapP f p) (mapP f q) := fun bs c => by
  obtain ⟨e1, e2⟩ := h bs c
  unfold mapP
  exact ⟨e1, fun h0 => by rw [e2 h0]⟩
end
/-- What is left is no longer than what was there. -/
def Less {α : Type} (p : Par α) : Prop := ∀ bs c, (p bs c).2.1.length ≤ bs.length
theorem Less.andThen {α β : Type} {p : Par α} {f : α → Par β} (h1 : Less p) (h2 : ∀ a, Less (f a)) : Less (thenP p f) := fun bs c => Nat.le_trans (h2 _ _ _) (h1 bs c)
theorem Less.map {α β : Type} {p : Par α} (f : α → β) (h : Less p) : Less (mapP f p) := h
end Go.Proofs.YtdhcjaflbfpalaaGreatDoor.Sha

/-
  What package tx is shown to answer of bytes as a transaction, as a hypothesis; what is read is small. No conditions.
-/
namespace Go.Proofs.YtdhcjaflbfpalaaGreatDoor.Sha
open Go Go.RowKit
/-- What bytes are as a transaction. -/
structure ReadIs (bs : List UInt8) (t : TTx) (c : Nat) : Prop where
  eq : readTx bs = (t, c)
end Go.Proofs.YtdhcjaflbfpalaaGreatDoor.Sha

/-
  A block's header as the model has it: 68 cells; where its parts lie. Conditions: digests of 32 bytes.
-/
namespace Go.Proofs.YtdhcjaflbfpalaaGreatDoor.Sha
open Go Go.RowKit
/-- A header's cells. -/
def hdL (h : THd) : List Value := nV h.ver :: (h.prev.map bV ++ (h.root.map bV ++ [nV h.time, nV h.work, nV h.nonce]))
theorem hdL_length {h : THd} (hh : HdOk h) : (hdL h).length = 68 := by simp [hdL, hh.2.1, hh.2.2.1]
theorem hdL_size {h : THd} (hh : HdOk h) : (hdL h).toArray.size = 68 := by rw [List.size_toArray]; exact hdL_length hh
theorem hdL_one' (h : THd) : ∀ v ∈ hdL h, v.oneCell' = true := by
  intro v hv
  rcases List.mem_cons.1 hv with rfl | h1
  · rfl
  rcases List.mem_append.1 h1 with h1 | h1
  · exact bV_one' _ v h1
  rcases List.mem_append.1 h1 with h1 | h1
  · exact bV_one' _ v h1
  · simp only [List.mem_cons, List.not_mem_nil, or_false] at h1
    rcases h1 with rfl | rfl | rfl <;> rfl
/-- The parts' cells. -/
theorem hdL_at {h : THd} (hh : HdOk h) : (hdL h)[0]? = some (nV h.ver) ∧ (hdL h)[65]? = some (nV h.time) ∧ (hdL h)[66]? = some (nV h.work) ∧ (hdL h)[67]? = some (nV h.nonce) := by
  have h1 : (h.prev.map bV).length = 32 := by simp [hh.2.1]
  have h2 : (h.root.map bV).length = 32 := by simp [hh.2.2.1]
  have e : hdL h = [nV h.ver] ++ h.prev.map bV ++ h.root.map bV ++ [nV h.time, nV h.work, nV h.nonce] := by simp [hdL]
  refine ⟨rfl, ?_, ?_, ?_⟩ <;> (rw [e, List.getElem?_append_right (by simp only [List.length_append, h1, h2, List.length_cons, List.length_nil]; omega)]; simp only [List.length_append, h1, h2, List.length_cons, List.length_nil]; rfl)
theorem range_part {w : World} {b o : Nat} {xs ys zs : List Value} (h : w.rangeAt b o (xs ++ (ys ++ zs))) : w.rangeAt b (o + xs.length) ys := fun j v hj => by
  rw [Nat.add_assoc]
  refine h (xs.length + j) v ?_
  rw [List.getElem?_append_right (by omega), Nat.add_sub_cancel_left, List.getElem?_append_left (List.getElem?_eq_some_iff.1 hj).1]
  exact hj
theorem hd_prev {w : World} {b o : Nat} {h : THd} (hg : w.rangeAt b o (hdL h)) : w.rangeAt b (o + 1) (h.prev.map bV) :=
  range_part (xs := [nV h.ver]) (ys := h.prev.map bV) hg
theorem hd_root {w : World} {b o : Nat} {h : THd} (hh : HdOk h) (hg : w.rangeAt b o (hdL h)) : w.rangeAt b (o + 33) (h.root.map bV) := by
  have e : hdL h = (nV h.ver :: h.prev.map bV) ++ (h.root.map bV ++ [nV h.time, nV h.work, nV h.nonce]) := by simp [hdL]
  rw [e] at hg
  have h := range_part hg
  simpa [hh.2.1] using h
/-- What a box with a header in it holds. -/
structure HdBox (w : World) (g : Nat) (h : THd) : Prop where
  row : w.heap[g]? = some (.cells (hdL h).toArray 28 (0, 0))
theorem HdBox.below {w w' : World} {g : Nat} {h : THd} (k : HdBox w g h) (hb : Below w.heap.size w w') : HdBox w' g h := ⟨row_below k.row hb⟩
theorem HdBox.lt {w : World} {g : Nat} {h : THd} (k : HdBox w g h) : g < w.heap.size := (Array.getElem?_eq_some_iff.1 k.row).1
theorem HdBox.cells {w : World} {g : Nat} {h : THd} (k : HdBox w g h) (hh : HdOk h) : w.cell? ⟨g, 0, none⟩ = some (.int .u32 (h.ver : Int)) ∧ w.cell? ⟨g, 65, none⟩ = some (.int .u32 (h.time : Int)) ∧ w.cell? ⟨g, 66, none⟩ = some (.int .u32 (h.work : Int)) ∧ w.cell? ⟨g, 67, none⟩ = some (.int .u32 (h.nonce : Int)) := by
  obtain ⟨h1, h2, h3, h4⟩ := hdL_at hh
  refine ⟨?_, ?_, ?_, ?_⟩ <;> (rw [cell_of_row _ _ _ _ _ _ k.row, List.getElem?_toArray]; assumption)
theorem HdBox.prev {w : World} {g : Nat} {h : THd} (k : HdBox w g h) : w.rangeAt g 1 (h.prev.map bV) := by simpa using hd_prev (range_of_box k.row)
theorem HdBox.root {w : World} {g : Nat} {h : THd} (k : HdBox w g h) (hh : HdOk h) : w.rangeAt g 33 (h.root.map bV) := by simpa using hd_root hh (range_of_box k.row)
end Go.Proofs.YtdhcjaflbfpalaaGreatDoor.Sha

/-
  What a fact stands on: 'Kps F w w'': w' is w in the blocks of F, and may have more; 'Sty F w P': P holds in each such world. No conditions.
-/
namespace Go.Proofs.YtdhcjaflbfpalaaGreatDoor.Sha
open Go Go.RowKit
/-- In the blocks of F the world w' is as w was; the streams too. -/
structure Kps (F : Nat → Prop) (w w' : World) : Prop where
  os : w'.os = w.os
  tape : w'.tape = w.tape
  output : w'.output = w.output
  size : w.heap.size ≤ w'.heap.size
  block : ∀ k, k < w.heap.size → F k → w'.heap[k]? = w.heap[k]?
theorem Kps.refl (F : Nat → Prop) (w : World) : Kps F w w := ⟨rfl, rfl, rfl, Nat.le_refl _, fun _ _ _ => rfl⟩
theorem Kps.trans {F : Nat → Prop} {a b c : World} (h : Kps F a b) (k : Kps F b c) : Kps F a c :=
  ⟨k.os.trans h.os, k.tape.trans h.tape, k.output.trans h.output, Nat.le_trans h.size k.size, fun i hi hf => (k.block i (Nat.lt_of_lt_of_le hi h.size) hf).trans (h.block i hi hf)⟩
theorem Kps.mono {F G : Nat → Prop} {w w' : World} (h : Kps F w w') (hs : ∀ k, k < w.heap.size → G k → F k) : Kps G w w' :=
  ⟨h.os, h.tape, h.output, h.size, fun k hk hg => h.block k hk (hs k hk hg)⟩
theorem Kps.below {F : Nat → Prop} {B : Nat} {w w' : World} (h : Below B w w') (hs : ∀ k, k < w.heap.size → F k → k < B) : Kps F w w' :=
  ⟨h.os, h.tape, h.output, h.size, fun k hk hf => h.block k (hs k hk hf)⟩
theorem Kps.new {F : Nat → Prop} {w w' : World} (h : Below w.heap.size w w') : Kps F w w' := Kps.below h fun _ hk _ => hk
theorem Kps.grown {F : Nat → Prop} {q : Option Nat} {w w' : World} (h : w.grownBy w' q) (hs : ∀ k, k < w.heap.size → F k → some k ≠ q) : Kps F w w' :=
  ⟨h.os, h.tape, h.output, h.size, fun k hk hf => h.block k hk (hs k hk hf)⟩
theorem Kps.toBelow {F : Nat → Prop} {w w' : World} (h : Kps F w w') (hs : ∀ k, k < w.heap.size → F k) : Below w.heap.size w w' :=
  ⟨h.os, h.tape, h.output, h.size, fun k hk => h.block k hk (hs k hk)⟩
/-- P holds in every world that is as w in the blocks of F. -/
def Sty (F : Nat → Prop) (w : World) (P : World → Prop) : Prop := ∀ w', Kps F w w' → P w'
theorem Sty.now {F : Nat → Prop} {w : World} {P : World → Prop} (h : Sty F w P) : P w := h w (Kps.refl _ _)
theorem Sty.on {F : Nat → Prop} {w w' : World} {P : World → Prop} (h : Sty F w P) (hk : Kps F w w') : Sty F w' P := fun w'' h2 => h w'' (hk.trans h2)
theorem Sty.imp {F G : Nat → Prop} {w : World} {P Q : World → Prop} (h : Sty F w P) (hs : ∀ k, k < w.heap.size → F k → G k) (hq : ∀ w', P w' → Q w') : Sty G w Q :=
  fun w' hk => hq _ (h w' (hk.mono hs))
/-- What stands while old blocks stand. -/
theorem Sty.all {w : World} {P : World → Prop} (h : ∀ w', Below w.heap.size w w' → P w') : Sty (fun k => k < w.heap.size) w P :=
  fun w' hk => h w' (hk.toBelow fun _ h => h)
theorem row_kps {F : Nat → Prop} {w w' : World} {g : Nat} {o : Obj} (h : w.heap[g]? = some o) (hk : Kps F w w') (hf : F g) : w'.heap[g]? = some o := by
  rw [hk.block g (Array.getElem?_eq_some_iff.1 h).1 hf]
  exact h
theorem SrcB.kps {F : Nat → Prop} {w w' : World} {v : Value} {bs : List UInt8} (h : SrcB w v bs) (ho : ∀ sp n cap, v = .slice (some sp) n cap → 0 < n → F sp.block) (hk : Kps F w w') : SrcB w' v bs := by
  rcases h with h | ⟨h0, bb, off, cap, hv, hc, hs⟩
  · exact .inl h
  · refine .inr ⟨h0, bb, off, cap, hv, hc, fun j hj => ?_⟩
    rw [World.cell?_of_block (hk.block bb (SrcB.block h0 hs) (ho _ _ _ hv h0))]
    exact hs j hj
theorem KeyAt.kps {F : Nat → Prop} {w w' : World} {kv : Value} {key : List UInt8} (h : KeyAt w kv key) (ho : ∀ sp n cap, kv = .slice (some sp) n cap → 0 < n → F sp.block) (hk : Kps F w w') : KeyAt w' kv key := ⟨h.1.kps ho hk, h.2⟩
theorem own_kps {F : Nat → Prop} {w w' : World} {base n size : Nat} {e : TypeId} {v : Value} {xs : List Value} (h : w.ownsRow base e size v n xs) (hk : Kps F w w') (hf : ∀ k, base ≤ k → F k) : w'.ownsRow base e size v n xs := by
  refine ⟨h.1, ?_⟩
  rcases h.2 with hn | ⟨g, cap, cur, rfl, hb, hg, rest⟩
  · exact .inl hn
  · exact .inr ⟨g, cap, cur, rfl, hb, row_kps hg hk (hf g hb), rest⟩
theorem InsOwn.kps {F : Nat → Prop} {w w' : World} {base : Nat} {v : Value} {l : List TIn} {ks : List Value} (h : InsOwn base w v l ks) (hk : Kps F w w') (hf : ∀ k, base ≤ k → F k) : InsOwn base w' v l ks :=
  ⟨h.1, own_kps h.2.1 hk hf, h.2.2.1, fun i x kv hx hkv => ⟨(h.2.2.2 i x kv hx hkv).1.kps (fun sp n cap hv h0 => hf _ (Nat.le_of_not_lt fun hlt => (h.2.2.2 i x kv hx hkv).2.1 sp.block hlt sp n cap hv h0 rfl)) hk, (h.2.2.2 i x kv hx hkv).2⟩⟩
theorem OutsOwn.kps {F : Nat → Prop} {w w' : World} {base : Nat} {v : Value} {m : List TOut} (h : OutsOwn base w v m) (hk : Kps F w w') (hf : ∀ k, base ≤ k → F k) : OutsOwn base w' v m := ⟨own_kps h.1 hk hf, h.2⟩
/-- A transaction in memory that was made since w. -/
def TxNew (w w' : World) (v : Value) (t : TTx) : Prop := Sty (fun k => w.heap.size ≤ k) w' (fun W => TxAt W v t)
theorem TxNew.at {w w' : World} {v : Value} {t : TTx} (h : TxNew w w' v t) : TxAt w' v t := h.now
end Go.Proofs.YtdhcjaflbfpalaaGreatDoor.Sha

/-
  Rows of transactions, and blocks, as the model has them: four cells each behind a slice; a header's cells and a slice. No conditions.
-/
namespace Go.Proofs.YtdhcjaflbfpalaaGreatDoor.Sha
open Go Go.RowKit
/-- A transaction stands in block b from o on. -/
def TxIn (w : World) (b o : Nat) (t : TTx) : Prop := TxOk t ∧ ∃ iv ov, w.rangeAt b o (txL t iv ov) ∧ InsAt w iv t.ins ∧ OutsAt w ov t.outs
theorem TxIn.below {w w' : World} {b o : Nat} {t : TTx} (h : TxIn w b o t) (hb : Below w.heap.size w w') : TxIn w' b o t := by
  obtain ⟨h0, iv, ov, h1, h2, h3⟩ := h
  exact ⟨h0, iv, ov, range_below h1 hb, h2.below hb, h3.below hb⟩
/-- A row of transactions behind a slice. -/
def TxsAt (w : World) (v : Value) (l : List TTx) : Prop :=
  ∃ sp cap, v = .slice sp l.length cap ∧ l.length ≤ cap ∧ (0 < l.length → ∃ b o, sp = some ⟨b, o, none⟩ ∧ ∀ i t, l[i]? = some t → TxIn w b (o + i * 4) t)
theorem TxsAt.below {w w' : World} {v : Value} {l : List TTx} (h : TxsAt w v l) (hb : Below w.heap.size w w') : TxsAt w' v l := by
  obtain ⟨sp, cap, h1, h2, h3⟩ := h
  refine ⟨sp, cap, h1, h2, fun h0 => ?_⟩
  obtain ⟨b, o, h4, h5⟩ := h3 h0
  exact ⟨b, o, h4, fun i x hx => (h5 i x hx).below hb⟩
theorem TxsAt.nil (w : World) (sp : Option Addr) (cap : Nat) : TxsAt w (.slice sp 0 cap) [] := ⟨sp, cap, rfl, Nat.zero_le _, fun h => absurd h (by simp)⟩
theorem TxsAt.shape {w : World} {v : Value} {l : List TTx} (h : TxsAt w v l) : ∃ sp cap, v = .slice sp l.length cap := by
  obtain ⟨sp, cap, h1, _⟩ := h
  exact ⟨sp, cap, h1⟩
theorem TxsAt.len {w : World} {sp : Option Addr} {n cap : Nat} {l : List TTx} (h : TxsAt w (.slice sp n cap) l) : n = l.length ∧ n ≤ cap := by
  obtain ⟨sp', cap', h1, h2, _⟩ := h
  cases h1
  exact ⟨rfl, h2⟩
/-- One of them, by its place. -/
theorem TxsAt.get {w : World} {sp : Option Addr} {n cap : Nat} {l : List TTx} (h : TxsAt w (.slice sp n cap) l) (h0 : 0 < n) :
    ∃ b o, sp = some ⟨b, o, none⟩ ∧ b < w.heap.size ∧ ∀ i t, l[i]? = some t → ∃ iv ov, w.rangeAt b (o + i * 4) (txL t iv ov) ∧ TxAt w (.agg (txL t iv ov).toArray) t := by
  obtain ⟨sp', cap', h1, h2, h3⟩ := h
  cases h1
  obtain ⟨b, o, rfl, h5⟩ := h3 h0
  refine ⟨b, o, rfl, ?_, fun i t ht => ?_⟩
  · obtain ⟨_, iv, ov, h6, _⟩ := h5 0 (l[0]) (List.getElem?_eq_getElem h0)
    exact World.block_lt_of_cell? w _ (h6 0 _ rfl)
  · obtain ⟨a, iv, ov, h6, h7, h8⟩ := h5 i t ht
    exact ⟨iv, ov, h6, a, iv, ov, rfl, h7, h8⟩
/-- A block: a header, and transactions. -/
structure TBlk where
  head : THd
  txs : List TTx
/-- A block's cells. -/
def blL (h : THd) (tv : Value) : List Value := hdL h ++ [tv]
theorem blL_size {h : THd} (hh : HdOk h) (tv : Value) : (blL h tv).toArray.size = 69 := by simp [blL, hdL_length hh]
/-- A block by value. -/
def BlkAt (w : World) (v : Value) (x : TBlk) : Prop := HdOk x.head ∧ ∃ tv, v = .agg (blL x.head tv).toArray ∧ TxsAt w tv x.txs
theorem BlkAt.below {w w' : World} {v : Value} {x : TBlk} (h : BlkAt w v x) (hb : Below w.heap.size w w') : BlkAt w' v x := by
  obtain ⟨h0, tv, h1, h2⟩ := h
  exact ⟨h0, tv, h1, h2.below hb⟩
/-- A block in a box. -/
structure BlBox (w : World) (g : Nat) (h : THd) (tv : Value) : Prop where
  row : w.heap[g]? = some (.cells (blL h tv).toArray 31 (0, 0))
theorem BlBox.below {w w' : World} {g : Nat} {h : THd} {tv : Value} (k : BlBox w g h tv) (hb : Below w.heap.size w w') : BlBox w' g h tv := ⟨row_below k.row hb⟩
theorem BlBox.range {w : World} {g : Nat} {h : THd} {tv : Value} (k : BlBox w g h tv) : w.rangeAt g 0 (blL h tv) := fun j v hj => by
  rw [Nat.zero_add, cell_of_row _ _ _ _ _ _ k.row]
  simpa using hj
theorem BlBox.lt {w : World} {g : Nat} {h : THd} {tv : Value} (k : BlBox w g h tv) : g < w.heap.size := (Array.getElem?_eq_some_iff.1 k.row).1
/-- The header's cells in a block's box. -/
theorem BlBox.head {w : World} {g : Nat} {h : THd} {tv : Value} (k : BlBox w g h tv) : w.rangeAt g 0 (hdL h) := fun j v hj => k.range j v (by
  rw [blL, List.getElem?_append_left (List.getElem?_eq_some_iff.1 hj).1]
  exact hj)
theorem BlBox.root {w : World} {g : Nat} {h : THd} {tv : Value} (k : BlBox w g h tv) (hh : HdOk h) : w.rangeAt g 33 (h.root.map bV) := by
  have := hd_root hh k.head
  rwa [Nat.zero_add] at this
theorem BlBox.txs {w : World} {g : Nat} {h : THd} {tv : Value} (k : BlBox w g h tv) (hh : HdOk h) : w.cell? ⟨g, 68, none⟩ = some tv := by
  have := k.range 68 tv (by rw [blL, List.getElem?_append_right (by rw [hdL_length hh]; exact Nat.le_refl _), hdL_length hh]; rfl)
  rwa [Nat.zero_add] at this
theorem blL_one {h : THd} {tv : Value} (ht : tv.oneCell' = true) : (blL h tv).toArray.all (·.oneCell') = true := by
  rw [Array.all_eq_true_iff_forall_mem]
  intro u hu
  rw [List.mem_toArray, blL, List.mem_append, List.mem_singleton] at hu
  rcases hu with hu | rfl
  · exact hdL_one' h u hu
  · exact ht
theorem TxsAt.one {w : World} {tv : Value} {l : List TTx} (h : TxsAt w tv l) : tv.oneCell' = true := by
  obtain ⟨sp, cap, rfl, _⟩ := h
  rfl
end Go.Proofs.YtdhcjaflbfpalaaGreatDoor.Sha

/-
  A store into a header's box turns just that part. Conditions: digests of 32 bytes.
-/
namespace Go.Proofs.YtdhcjaflbfpalaaGreatDoor.Sha
open Go Go.RowKit
/-- The header of zeros. -/
def hdZ : THd := ⟨0, List.replicate 32 0, List.replicate 32 0, 0, 0, 0⟩
theorem HdBox.far {w w' : World} {g q : Nat} {h : THd} (k : HdBox w g h) (hg : w.grownBy w' (some q)) (hq : q ≠ g) : HdBox w' g h := ⟨row_far k.row hg (fun e => hq (Option.some.inj e))⟩
section
variable {ops : Array Oper} {rest : List Oper} {op : Oper} {a : Act} {w : World} {Q : Exit → Act → World → Prop} {g : Nat} {h : THd}
end
end Go.Proofs.YtdhcjaflbfpalaaGreatDoor.Sha

/-
  Package tx takes an input, and an output, from a Reader. Nothing that was there turns but the Reader. Conditions: the Reader stands as it should; the errors are there.
-/
namespace Go.Proofs.YtdhcjaflbfpalaaGreatDoor.Sha
open Go Go.RowKit
theorem one_mem {v : Value} (h : v.oneCell' = true) : ∀ u ∈ [v], u.oneCell' = true := fun u hu => by rw [List.mem_singleton.1 hu]; exact h
end Go.Proofs.YtdhcjaflbfpalaaGreatDoor.Sha

/-
  Loads and appends of structures where a region draws its order; rows that stay where others grow. No conditions beyond those that each states.
-/
namespace Go.Proofs.YtdhcjaflbfpalaaGreatDoor.Sha
open Go Go.RowKit
section
variable {P : Program}
theorem wp_append_row (w : World) {o : Oper} {a : Act} {K : Act → World → Prop} {Q : Exit → Act → World → Prop} (s x : Operand) (t : TypeId)
    (ho : o.op = Op.call { callee := Callee.builtin Builtin.append, args := #[s, x], argTypes := #[t, t] })
    (base : Nat) (e : TypeId) (i : TypeInfo) (z : Value) (size bytes : Nat) (ht : P.underlying t = some (.slice e)) (hi : P.info? e = some i) (hz : i.zero = some z)
    (hsize : i.size = size) (hby : i.bytes = bytes) (hzs : z.cells.size = size) (hsz : 0 < size)
    (v : Value) (n : Nat) (xs : List Value) (hs : a.eval s = v) (hown : w.ownsRow base e size v n xs)
    (ad : Addr) (m c : Nat) (news : List Value) (hx : a.eval x = .slice (some ad) m c) (hl : news.length = m * size) (hnews : ∀ j u, news[j]? = some u → w.cell? (ad.add j) = some u) (h1 : ∀ u ∈ news, u.oneCell' = true)
    (h63 : n + m ≤ maxLen) (hbytes : (n + m) * bytes ≤ 140737488355328) (hbase : base ≤ w.heap.size)
    (h : ∀ v' w', w'.ownsRow base e size v' (n + m) (xs ++ news) → w.grownBy w' v.ownBlock → (v'.ownBlock = v.ownBlock ∨ v'.ownBlock = some w.heap.size) → K (a.put o.dst v') w') : o.wp P a w K Q := by
  obtain ⟨v', w', hr, h2, h3, _, h5⟩ := run_append_own_at (P := P) w base t o.type e i z size bytes ht hi hz hsize hby hzs hsz v n xs hown ad m c news hl hnews h1 h63 hbytes hbase
  unfold Oper.wp execOp
  simp only [ho, resolve, invoke, builtin, Sem.run_bind, Sem.run_pure, Result.andThen_ok, List.map_toArray, List.map_cons, List.map_nil, hs, hx, hr]
  exact h v' w' h2 h3 h5
end
theorem own_one {w : World} {base n size : Nat} {e : TypeId} {v : Value} {xs : List Value} (h : w.ownsRow base e size v n xs) : v.oneCell' = true := by
  rcases h.2 with ⟨rfl, _⟩ | ⟨g, cap, cur, rfl, _⟩ <;> rfl
theorem cells_one {v : Value} (h : v.oneCell' = true) : v.cells = [v].toArray := by cases v <;> first | rfl | cases h
theorem InsOwn.grow {base : Nat} {w w' : World} {v : Value} {l : List TIn} {ks : List Value} {q : Option Nat} (h : InsOwn base w v l ks) (hg : w.grownBy w' q) (hq : ∀ j, q = some j → v.ownBlock ≠ some j ∧ ∀ (i : Nat) kv, ks[i]? = some kv → Off kv (some j)) : InsOwn base w' v l ks := by
  cases q with
  | none => exact h.keep (below_made hg)
  | some j =>
    obtain ⟨a, b⟩ := hq j rfl
    exact ⟨h.1, h.2.1.kept hg (.inr a), h.2.2.1, fun i x kv hx hk => ⟨(h.2.2.2 i x kv hx hk).1.off (b i kv hk) hg, (h.2.2.2 i x kv hx hk).2⟩⟩
/-- All of a row's memory lies below. -/
def InsLow (B : Nat) (v : Value) (ks : List Value) : Prop := ∀ j, B ≤ j → v.ownBlock ≠ some j ∧ ∀ (i : Nat) kv, ks[i]? = some kv → Off kv (some j)
theorem InsOwn.low {base : Nat} {w : World} {v : Value} {l : List TIn} {ks : List Value} (h : InsOwn base w v l ks) : InsLow w.heap.size v ks := fun j hj => by
  refine ⟨fun e => ?_, fun i kv hk => ?_⟩
  · have := (h.2.1.lt j e).2
    omega
  · obtain ⟨x, hx⟩ : ∃ x, l[i]? = some x := ⟨_, List.getElem?_eq_getElem (by have := (List.getElem?_eq_some_iff.1 hk).1; have := h.1; omega)⟩
    exact (h.2.2.2 i x kv hx hk).1.fresh hj
end Go.Proofs.YtdhcjaflbfpalaaGreatDoor.Sha

/-
  Stores into one part of a block's box; the zero block; one transaction in a row. No conditions beyond those that each states.
-/
namespace Go.Proofs.YtdhcjaflbfpalaaGreatDoor.Sha
open Go Go.RowKit
theorem info_txc : (Tryz.prog.info? 63).map (fun i => (i.zero, i.size, i.bytes)) = some (some (.agg [nV 0, .slice none 0 0, .slice none 0 0, nV 0].toArray), 4, 64) := by kernel_rfl
section
variable {ops : Array Oper} {rest : List Oper} {op : Oper} {a : Act} {w : World} {Q : Exit → Act → World → Prop} {g : Nat} {h : THd} {tv : Value}
theorem st_blroot (hgd : op.guard = none) (x y : Operand) (ho : op.op = .store 26 x y) (hx : a.eval x = .pointer (some ⟨g, 33, none⟩)) (p : List UInt8) (hp : p.length = 32) (hy : a.eval y = .agg (p.map bV).toArray) (hh : HdOk h) (k : BlBox w g h tv)
    (hK : ∀ w', BlBox w' g { h with root := p } tv → w.grownBy w' (some g) → wpList Tryz.prog ops Q rest (a.put op.dst undef) w') : wpList Tryz.prog ops Q (op :: rest) a w := by
  refine wpList_store_part hgd 26 x y ho g 33 (nV h.ver :: h.prev.map bV) (h.root.map bV) [nV h.time, nV h.work, nV h.nonce, tv] (p.map bV) 31 (.agg (p.map bV).toArray) hx hy rfl (by simp [hh.2.1]) (by simp [hp, hh.2.2.1]) (by rw [k.row]; simp [blL, hdL]) (by rw [List.length_map, hp]; kernel_rfl) (bV_one' p) ?_
  intro w' q1 q2
  exact hK w' ⟨by rw [q1]; simp [blL, hdL]⟩ q2
end
theorem BlBox.far {w w' : World} {g : Nat} {h : THd} {tv : Value} {q : Option Nat} (k : BlBox w g h tv) (hg : w.grownBy w' q) (hq : q ≠ some g) : BlBox w' g h tv := ⟨row_far k.row hg hq⟩
/-- A row of one. -/
theorem txsAt_one {w : World} {g : Nat} {t : TTx} {iv ov : Value} {fr : Nat × Nat} (h : w.heap[g]? = some (.cells (txL t iv ov).toArray 63 fr)) (ht : TxAt w (.agg (txL t iv ov).toArray) t) : TxsAt w (.slice (some ⟨g, 0, none⟩) 1 1) [t] := by
  obtain ⟨h0, iv', ov', e, h1, h2⟩ := ht
  have e : txL t iv ov = txL t iv' ov' := by simpa using e
  refine ⟨_, _, rfl, Nat.le_refl _, fun _ => ⟨g, 0, rfl, fun i u hu => ?_⟩⟩
  obtain ⟨rfl, rfl⟩ : i = 0 ∧ t = u := by
    cases i with
    | zero => exact ⟨rfl, by simpa using hu⟩
    | succ i => simp at hu
  refine ⟨h0, iv', ov', fun j v hj => ?_, h1, h2⟩
  rw [cell_of_row _ _ _ _ _ _ h, List.getElem?_toArray, e]
  simpa using hj
end Go.Proofs.YtdhcjaflbfpalaaGreatDoor.Sha

/-
  What literals of transactions, inputs, outputs and places lay. No conditions beyond those that each states.
-/
namespace Go.Proofs.YtdhcjaflbfpalaaGreatDoor.Sha
open Go Go.RowKit
def zH : List UInt8 := List.replicate 32 0
theorem zH_length : zH.length = 32 := rfl
end Go.Proofs.YtdhcjaflbfpalaaGreatDoor.Sha

/-
  Rows of one or two inputs, or outputs, as slices; what is amiss with transactions of few inputs. Conditions: those that each states.
-/
namespace Go.Proofs.YtdhcjaflbfpalaaGreatDoor.Sha
open Go Go.RowKit
theorem insAt_one {w : World} {g : Nat} {x : TIn} {kv : Value} {fr : Nat × Nat} (h : w.heap[g]? = some (.cells (inL x kv).toArray 114 fr)) (hx : InOk x) (hk : KeyAt w kv x.key) : InsAt w (.slice (some ⟨g, 0, none⟩) 1 1) [x] :=
  ⟨_, 1, rfl, Nat.le_refl _, fun _ => ⟨g, 0, rfl, fun i y hy => by
    have hi := (List.getElem?_eq_some_iff.1 hy).1
    simp at hi
    subst hi
    simp only [List.getElem?_cons_zero, Option.some.injEq] at hy
    subst hy
    exact ⟨hx, kv, hk, range_of_box h⟩⟩⟩
theorem outsAt_one {w : World} {g : Nat} {y : TOut} {fr : Nat × Nat} (h : w.heap[g]? = some (.cells (outL y).toArray 116 fr)) (hy : OutOk y) : OutsAt w (.slice (some ⟨g, 0, none⟩) 1 1) [y] :=
  ⟨_, 1, rfl, Nat.le_refl _, fun _ => ⟨g, 0, rfl, fun i z hz => by
    have hi := (List.getElem?_eq_some_iff.1 hz).1
    simp at hi
    subst hi
    simp only [List.getElem?_cons_zero, Option.some.injEq] at hz
    subst hz
    exact ⟨hy, range_of_box h⟩⟩⟩
end Go.Proofs.YtdhcjaflbfpalaaGreatDoor.Sha

/-
  Numbers written by package compact as new memory; rows that are new grow. No conditions beyond those that each states.
-/
namespace Go.Proofs.YtdhcjaflbfpalaaGreatDoor.Sha
open Go Go.RowKit
/-- New memory that reads as bs is answered. -/
def NewPost (w : World) (bs : List UInt8) (e : Ending) (w' : World) : Prop := ∃ sp n cap, e = .returned (.slice sp n cap) ∧ n = bs.length ∧ CopyB w w' (.slice sp n cap) bs
theorem newB_copy {w w' : World} {k c : Nat} {bs : List UInt8} (h : NewB w w' k c bs) : k = bs.length ∧ CopyB w w' (.slice (some ⟨w.heap.size, 0, none⟩) k c) bs := by
  have hl := own_len h.1
  refine ⟨hl, ?_, h.2⟩
  rw [← hl]
  exact h.1
theorem four_new (bs : List UInt8) (v : Value) (x : Nat) (w : World) (hs : SrcB w v bs) (hn : bs.length ≤ 70368744177664) (hx : x ≤ 4294967295) :
    Calls Tryz.prog 75 #[v, .int .u32 (x : Int)] w (NewPost w (bs ++ leB x 4)) := by
  obtain ⟨sp, cap, rfl⟩ := hs.shape
  refine (four_any bs sp bs.length cap x w hs hn hx).mono ?_
  rintro e w' ⟨rfl, h⟩
  exact ⟨_, _, _, rfl, newB_copy h⟩
theorem CopyB.src {w w' : World} {v : Value} {bs : List UInt8} (h : CopyB w w' v bs) : SrcB w' v bs := src_own h.1
theorem CopyB.keep {w w1 w2 : World} {v : Value} {bs : List UInt8} (h : CopyB w w1 v bs) (hb : Below w1.heap.size w1 w2) : CopyB w w2 v bs := ⟨own_kept h.1 hb, h.2.trans (hb.mono h.2.size)⟩
theorem CopyB.app {w w1 w2 : World} {v v' : Value} {bs cs : List UInt8} (h : CopyB w w1 v bs) (ho : w2.ownsRow w.heap.size 5 1 v' (bs.length + cs.length) (bs.map bV ++ cs.map bV)) (hg : w1.grownBy w2 v.ownBlock) : CopyB w w2 v' (bs ++ cs) :=
  ⟨by rw [List.length_append, List.map_append]; exact ho, own_grown h.2 (Nat.le_refl _) h.2.size h.1 hg⟩
theorem CopyB.start {w0 w w' : World} {v : Value} {bs : List UInt8} (h : CopyB w w' v bs) (hb : Below w0.heap.size w0 w) : CopyB w0 w' v bs := ⟨own_base h.1 hb.size, hb.trans (h.2.mono hb.size)⟩
theorem nil_src (w : World) : SrcB w (.slice none 0 0) [] := .inl ⟨_, _, rfl, rfl⟩
end Go.Proofs.YtdhcjaflbfpalaaGreatDoor.Sha

/-
  Rows of digests: a slice that reads as a list of digests (32 cells each), a row of one's own that grows. No conditions beyond those that each states.
-/
namespace Go.Proofs.YtdhcjaflbfpalaaGreatDoor.Sha
open Go Go.RowKit
theorem info_hash : (Tryz.prog.info? 26).map (fun i => (i.zero, i.size, i.bytes)) = some (some (.agg (List.replicate 32 (bV 0)).toArray), 32, 32) := by kernel_rfl
/-- Digests of 32 bytes each. -/
def HsOk (l : List (List UInt8)) : Prop := ∀ x ∈ l, x.length = 32
theorem HsOk.get {l : List (List UInt8)} (h : HsOk l) {i : Nat} (hi : i < l.length) : (l.getD i []).length = 32 := by
  rw [List.getD_eq_getElem?_getD, List.getElem?_eq_getElem hi]
  exact h _ (List.getElem_mem _)
theorem HsOk.snoc {l : List (List UInt8)} (h : HsOk l) {x : List UInt8} (hx : x.length = 32) : HsOk (l ++ [x]) := fun y hy => by
  rcases List.mem_append.1 hy with hy | hy
  · exact h y hy
  · rw [List.mem_singleton.1 hy]; exact hx
/-- Their cells. -/
def hsL (l : List (List UInt8)) : List Value := l.flatMap fun x => x.map bV
theorem hsL_snoc (l : List (List UInt8)) (x : List UInt8) : hsL (l ++ [x]) = hsL l ++ x.map bV := by simp [hsL, List.flatMap_append]
theorem hsL_get : ∀ (l : List (List UInt8)) (i : Nat) (y : List UInt8), HsOk l → l[i]? = some y → ∀ j, j < 32 → (hsL l)[i * 32 + j]? = (y.map bV)[j]?
  | z :: l, 0, y, ho, hy, j, hj => by
    simp only [List.getElem?_cons_zero, Option.some.injEq] at hy
    subst hy
    rw [Nat.zero_mul, Nat.zero_add, hsL, List.flatMap_cons, List.getElem?_append_left (by rw [List.length_map, ho z List.mem_cons_self]; exact hj)]
  | z :: l, i + 1, y, ho, hy, j, hj => by
    have e : (z.map bV).length = 32 := by rw [List.length_map, ho z List.mem_cons_self]
    rw [hsL, List.flatMap_cons, List.getElem?_append_right (by omega), e, show (i + 1) * 32 + j - 32 = i * 32 + j by omega]
    exact hsL_get l i y (fun z hz => ho z (List.mem_cons_of_mem _ hz)) (by simpa using hy) j hj
  | [], _, _, _, hy, _, _ => by simp at hy
/-- The slice v reads as these digests. -/
def HsAt (w : World) (v : Value) (l : List (List UInt8)) : Prop :=
  HsOk l ∧ ∃ sp cap, v = .slice sp l.length cap ∧ l.length ≤ cap ∧ (0 < l.length → ∃ b o, sp = some ⟨b, o, none⟩ ∧ ∀ i x, l[i]? = some x → w.rangeAt b (o + i * 32) (x.map bV))
theorem HsAt.below {w w' : World} {v : Value} {l : List (List UInt8)} (h : HsAt w v l) (hb : Below w.heap.size w w') : HsAt w' v l := by
  obtain ⟨h0, sp, cap, h1, h2, h3⟩ := h
  refine ⟨h0, sp, cap, h1, h2, fun h0 => ?_⟩
  obtain ⟨b, o, h4, h5⟩ := h3 h0
  exact ⟨b, o, h4, fun i x hx => range_below (h5 i x hx) hb⟩
theorem HsAt.nil (w : World) (sp : Option Addr) (cap : Nat) : HsAt w (.slice sp 0 cap) [] := ⟨fun x hx => by simp at hx, sp, cap, rfl, by simp, fun h => by simp at h⟩
theorem HsAt.len {w : World} {sp : Option Addr} {n cap : Nat} {l : List (List UInt8)} (h : HsAt w (.slice sp n cap) l) : n = l.length ∧ n ≤ cap := by
  obtain ⟨_, sp', cap', hv, hc, _⟩ := h
  cases hv
  exact ⟨rfl, hc⟩
/-- Where one of them lies. -/
theorem HsAt.get {w : World} {sp : Option Addr} {n cap : Nat} {l : List (List UInt8)} (h : HsAt w (.slice sp n cap) l) (h0 : 0 < n) : ∃ b o, sp = some ⟨b, o, none⟩ ∧ b < w.heap.size ∧ ∀ i, i < n → w.rangeAt b (o + i * 32) ((l.getD i []).map bV) := by
  obtain ⟨ho, sp', cap', hv, hc, hr⟩ := h
  cases hv
  obtain ⟨b, o, hs, hx⟩ := hr h0
  have hg : ∀ i, i < l.length → w.rangeAt b (o + i * 32) ((l.getD i []).map bV) := fun i hi => hx i _ (by rw [List.getD_eq_getElem?_getD, List.getElem?_eq_getElem hi]; rfl)
  refine ⟨b, o, hs, ?_, hg⟩
  obtain ⟨x, hx0⟩ : ∃ x, (l.getD 0 [])[0]? = some x := ⟨_, List.getElem?_eq_getElem (by rw [HsOk.get ho h0]; omega)⟩
  exact World.block_lt_of_cell? w _ (hg 0 h0 0 (bV x) (by rw [List.getElem?_map, hx0]; rfl))
/-- A row of digests of one's own. -/
def HsOwn (base : Nat) (w : World) (v : Value) (l : List (List UInt8)) : Prop := w.ownsRow base 26 32 v l.length (hsL l) ∧ HsOk l
theorem HsOwn.nil (base : Nat) (w : World) : HsOwn base w (.slice none 0 0) [] := ⟨World.ownsRow_nil _ _ _ _, fun _ h => absurd h (by simp)⟩
section
variable {base : Nat} {w w' : World} {v v' : Value} {l : List (List UInt8)}
theorem HsOwn.keep (h : HsOwn base w v l) (hb : Below w.heap.size w w') : HsOwn base w' v l := ⟨own_kept h.1 hb, h.2⟩
theorem HsOwn.kept (h : HsOwn base w v l) {q : Option Nat} (hg : w.grownBy w' q) (hb : v.ownBlock = none ∨ v.ownBlock ≠ q) : HsOwn base w' v l := ⟨h.1.kept hg hb, h.2⟩
theorem HsOwn.push {x : List UInt8} (ho : HsOk l) (hx : x.length = 32) (hown : w'.ownsRow base 26 32 v' (l.length + 1) (hsL l ++ x.map bV)) : HsOwn base w' v' (l ++ [x]) := by
  refine ⟨?_, ho.snoc hx⟩
  rw [hsL_snoc, List.length_append]
  exact hown
/-- Such a row as a slice of digests. -/
theorem HsOwn.at (h : HsOwn base w v l) : HsAt w v l := by
  obtain ⟨h2, h3⟩ := h
  refine ⟨h3, ?_⟩
  rcases h2.2 with ⟨hv, h0⟩ | ⟨g, cap, cur, hv, hb, hc, hn, hm, hs, ht⟩
  · exact ⟨none, 0, by rw [hv, h0], by omega, fun h => by omega⟩
  · subst hv
    refine ⟨_, cap, rfl, hn, fun h0 => ⟨g, 0, rfl, fun i x hx => ?_⟩⟩
    have hi := (List.getElem?_eq_some_iff.1 hx).1
    have hxo := h3 x (List.mem_of_getElem? hx)
    intro j u hj
    have hj32 : j < 32 := by
      have := (List.getElem?_eq_some_iff.1 hj).1
      rwa [List.length_map, hxo] at this
    rw [Nat.zero_add, h2.cellAt (i * 32 + j) (by omega), hsL_get l i x h3 hx j hj32]
    exact hj
end
/-- One digest in a row of its own. -/
theorem hs_one {w : World} {g : Nat} {x : List UInt8} {T : TypeId} (h : w.heap[g]? = some (.cells (x.map bV).toArray T (0, 0))) : ∀ j u, (x.map bV)[j]? = some u → w.cell? ((⟨g, 0, none⟩ : Addr).add j) = some u := fun j u hj => by
  rw [Addr.add_mid]
  exact range_of_box h j u hj
end Go.Proofs.YtdhcjaflbfpalaaGreatDoor.Sha

/-
  Small functions of the statements' own SHA-256: a word turned right, the table of the rounds' words, as the chapter gives them. No conditions.
-/
namespace Go.Proofs.YtdhcjaflbfpalaaGreatDoor.Sha
open Go Go.RowKit
theorem right_fact (x : UInt32) (n : Nat) (h1 : 1 ≤ n) (h2 : n ≤ 31) : bits .or .u32 (wv x / 2 ^ n) (wv x * 2 ^ (32 - n) % 4294967296) = wv (rotr x n) := by
  rw [← IntKind.wrap_u32', wv_shl x _ (by omega), wv_shr x n (by omega), wv_or]
  rfl
set_option maxRecDepth 100000 in
theorem right_any (x : UInt32) (n : Nat) (k : Int) (hk : k = (n : Int)) (h1 : 1 ≤ n) (h2 : n ≤ 31) (w : World) :
    Calls Tryz.prog 55 #[.int .u32 (wv x), .int .u64 k] w fun e w' => e = .returned (.int .u32 (wv (rotr x n))) ∧ w = w' := by
  subst hk
  go_enter Tryz.func55, Tryz.ntmps55
  go_wp2
  go_ret
  exact ⟨ret_int (right_fact x n h1 h2), rfl⟩
theorem right_z (x : UInt32) (k : Int) (h1 : 1 ≤ k) (h2 : k ≤ 31) (w : World) :
    Calls Tryz.prog 55 #[.int .u32 (wv x), .int .u64 k] w fun e w' => e = .returned (.int .u32 (wv (rotr x k.toNat))) ∧ w = w' :=
  right_any x k.toNat k (by omega) (by omega) (by omega) w
theorem wv_sum3 (a b c : UInt32) : (wv a + wv b + wv c) % 4294967296 = wv (a + b + c) := by rw [← wv_sum, ← wv_sum]; omega
theorem wv_sum4 (a b c d : UInt32) : (wv a + wv b + wv c + wv d) % 4294967296 = wv (a + b + c + d) := by rw [← wv_sum, ← wv_sum3]; omega
theorem wv_not (x : UInt32) : bits .xor .u32 IntKind.u32.max (wv x) = wv (~~~x) := by
  rw [show IntKind.u32.max = wv 4294967295 from rfl, wv_xor, show (4294967295 : UInt32) = -1 from rfl, UInt32.neg_one_xor]
set_option maxRecDepth 100000 in
theorem k_any (w : World) : Calls Tryz.prog 54 #[] w fun e w' => e = .returned (.slice (some ⟨w.heap.size, 0, none⟩) 64 64) ∧ w'.heap[w.heap.size]? = some (.cells (kList.map wV).toArray 24 (0, 0)) ∧ Below w.heap.size w w' := by
  go_enter Tryz.func54, Tryz.ntmps54
  go_wp2
  go_ret
  exact ⟨rfl, by rw [heap_alloc_new]; rfl, (Below.refl _ _).alloc (Nat.le_refl _) _⟩
end Go.Proofs.YtdhcjaflbfpalaaGreatDoor.Sha
