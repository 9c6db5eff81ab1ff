/-
  Inputs and outputs in rows of one's own: a row of them grows, its keys lie apart from it; what such a row is as a slice. What a slice literal of one or two structures lays. No conditions beyond those that each states.
-/
import Derived.Test.YtkabpbclmhmgfaaTxBox
import Derived.Test.YtkabpbclmhmgfaaFill
import Derived.Great.BuildSlice
namespace Go.Proofs.Ytkabpbclmhmgfaa.Sha
open Go Go.RowKit

theorem info_in : (Try.prog.info? 36).map (fun i => (i.zero, i.size, i.bytes)) = some (some (.agg (List.replicate 32 (bV 0) ++ [nV 0, .slice none 0 0, nV 0]).toArray), 35, 72) := by kernel_rfl
theorem info_out : (Try.prog.info? 39).map (fun i => (i.zero, i.size, i.bytes)) = some (some (.agg (uV 0 :: List.replicate 32 (bV 0)).toArray), 33, 40) := by kernel_rfl
/-- The cells of so many inputs, their keys given. -/
def insL : List TIn → List Value → List Value
  | x :: l, kv :: ks => inL x kv ++ insL l ks
  | _, _ => []
def outsL (l : List TOut) : List Value := l.flatMap outL
theorem insL_snoc (x : TIn) (kv : Value) : ∀ (l : List TIn) (ks : List Value), l.length = ks.length → insL (l ++ [x]) (ks ++ [kv]) = insL l ks ++ inL x kv
  | [], [], _ => by simp [insL]
  | y :: l, k :: ks, h => by
    simp only [List.cons_append, insL, insL_snoc x kv l ks (by simpa using h), List.append_assoc]
theorem insL_length : ∀ (l : List TIn) (ks : List Value), l.length = ks.length → InsOk l → (insL l ks).length = l.length * 35
  | [], [], _, _ => rfl
  | y :: l, k :: ks, h, ho => by
    rw [insL, List.length_append, inL_length y k (ho y List.mem_cons_self).1, insL_length l ks (by simpa using h) (fun z hz => ho z (List.mem_cons_of_mem _ hz)), List.length_cons]
    omega
theorem insL_get : ∀ (l : List TIn) (ks : List Value) (i : Nat) (x : TIn) (kv : Value), InsOk l → l[i]? = some x → ks[i]? = some kv → ∀ j, j < 35 → (insL l ks)[i * 35 + j]? = (inL x kv)[j]?
  | y :: l, k :: ks, 0, x, kv, ho, hx, hk, j, hj => by
    simp only [List.getElem?_cons_zero, Option.some.injEq] at hx hk
    subst hx hk
    rw [Nat.zero_mul, Nat.zero_add, insL, List.getElem?_append_left (by rw [inL_length y k (ho y List.mem_cons_self).1]; exact hj)]
  | y :: l, k :: ks, i + 1, x, kv, ho, hx, hk, j, hj => by
    have e := inL_length y k (ho y List.mem_cons_self).1
    rw [insL, List.getElem?_append_right (by omega), e, show (i + 1) * 35 + j - 35 = i * 35 + j by omega]
    exact insL_get l ks i x kv (fun z hz => ho z (List.mem_cons_of_mem _ hz)) (by simpa using hx) (by simpa using hk) j hj
  | [], _, _, _, _, _, hx, _, _, _ => by simp at hx
  | _ :: _, [], _, _, _, _, _, hk, _, _ => by simp at hk
theorem outsL_length : ∀ (l : List TOut), OutsOk l → (outsL l).length = l.length * 33
  | [], _ => rfl
  | y :: l, ho => by
    have ih := outsL_length l (fun z hz => ho z (List.mem_cons_of_mem _ hz))
    simp only [outsL] at ih
    simp only [outsL, List.flatMap_cons, List.length_append, ih, outL_length y (ho y List.mem_cons_self).1, List.length_cons]
    omega
theorem outsL_get : ∀ (l : List TOut) (i : Nat) (y : TOut), OutsOk l → l[i]? = some y → ∀ j, j < 33 → (outsL l)[i * 33 + j]? = (outL y)[j]?
  | z :: l, 0, y, ho, hy, j, hj => by
    simp only [List.getElem?_cons_zero, Option.some.injEq] at hy
    subst hy
    rw [Nat.zero_mul, Nat.zero_add, outsL, List.flatMap_cons, List.getElem?_append_left (by rw [outL_length z (ho z List.mem_cons_self).1]; exact hj)]
  | z :: l, i + 1, y, ho, hy, j, hj => by
    have e := outL_length z (ho z List.mem_cons_self).1
    rw [outsL, List.flatMap_cons, List.getElem?_append_right (by omega), e, show (i + 1) * 33 + j - 33 = i * 33 + j by omega]
    exact outsL_get l i y (fun z hz => ho z (List.mem_cons_of_mem _ hz)) (by simpa using hy) j hj
  | [], _, _, _, hy, _, _ => by simp at hy
/-- A slice of bytes that does not lie in this block. -/
def Off (kv : Value) (q : Option Nat) : Prop := ∀ sp n cap, kv = .slice (some sp) n cap → 0 < n → q ≠ some sp.block
theorem Off.none (kv : Value) : Off kv none := fun _ _ _ _ _ e => by cases e
theorem SrcB.off {w w' : World} {v : Value} {bs : List UInt8} {q : Option Nat} (h : SrcB w v bs) (ho : Off v q) (hg : w.grownBy w' q) : SrcB w' v bs := by
  rcases h with h | ⟨h0, bb, off, cap, hv, hc, hs⟩
  · exact .inl h
  · refine .inr ⟨h0, bb, off, cap, hv, hc, fun j hj => ?_⟩
    rw [World.cell?_of_block (hg.block bb (SrcB.block h0 hs) (fun e => ho _ _ _ hv h0 e.symm))]
    exact hs j hj
theorem KeyAt.off {w w' : World} {kv : Value} {key : List UInt8} {q : Option Nat} (h : KeyAt w kv key) (ho : Off kv q) (hg : w.grownBy w' q) : KeyAt w' kv key := ⟨h.1.off ho hg, h.2⟩
theorem KeyAt.fresh {w : World} {kv : Value} {key : List UInt8} {k : Nat} (h : KeyAt w kv key) (hk : w.heap.size ≤ k) : Off kv (some k) := fun sp n cap hv hn e => by
  rcases h.1 with ⟨sp', cap', hv', _⟩ | ⟨h0, bb, off, cap', hv', _, hs⟩
  · rw [hv'] at hv
    cases hv
    omega
  · have := SrcB.block h0 hs
    rw [hv'] at hv
    cases hv
    have e2 : k = bb := Option.some.inj e
    omega
/-- A row of inputs of one's own; its keys lie apart from it, and from all that was there before. -/
def InsOwn (base : Nat) (w : World) (v : Value) (l : List TIn) (ks : List Value) : Prop :=
  l.length = ks.length ∧ w.ownsRow base 36 35 v l.length (insL l ks) ∧ InsOk l ∧ ∀ (i : Nat) x kv, l[i]? = some x → ks[i]? = some kv → KeyAt w kv x.key ∧ (∀ q, q < base → Off kv (some q)) ∧ Off kv v.ownBlock
def OutsOwn (base : Nat) (w : World) (v : Value) (l : List TOut) : Prop := w.ownsRow base 39 33 v l.length (outsL l) ∧ OutsOk l
theorem InsOwn.nil (base : Nat) (w : World) : InsOwn base w (.slice none 0 0) [] [] := ⟨rfl, World.ownsRow_nil _ _ _ _, fun _ h => absurd h (by simp), fun i x kv h => absurd h (by simp)⟩
theorem OutsOwn.nil (base : Nat) (w : World) : OutsOwn base w (.slice none 0 0) [] := ⟨World.ownsRow_nil _ _ _ _, fun _ h => absurd h (by simp)⟩
section
variable {base : Nat} {w w' : World} {v v' : Value} {l : List TIn} {ks : List Value} {m : List TOut}
theorem own_far {size n q : Nat} {e : TypeId} {xs : List Value} (h : w.ownsRow base e size v n xs) (hq : q < base) : v.ownBlock = none ∨ v.ownBlock ≠ some q := by
  cases hv : v.ownBlock with
  | none => exact .inl rfl
  | some k => exact .inr (fun e => by have := (h.lt k hv).1; have := Option.some.inj e; omega)
theorem InsOwn.other {q : Nat} (h : InsOwn base w v l ks) (hg : w.grownBy w' (some q)) (hq : q < base) : InsOwn base w' v l ks :=
  ⟨h.1, h.2.1.kept hg (own_far h.2.1 hq), h.2.2.1, fun i x kv hx hk => ⟨(h.2.2.2 i x kv hx hk).1.off ((h.2.2.2 i x kv hx hk).2.1 q hq) hg, (h.2.2.2 i x kv hx hk).2⟩⟩
theorem OutsOwn.other {q : Nat} (h : OutsOwn base w v m) (hg : w.grownBy w' (some q)) (hq : q < base) : OutsOwn base w' v m := ⟨h.1.kept hg (own_far h.1 hq), h.2⟩
theorem InsOwn.keep (h : InsOwn base w v l ks) (hb : Below w.heap.size w w') : InsOwn base w' v l ks :=
  ⟨h.1, own_kept h.2.1 hb, h.2.2.1, fun i x kv hx hk => ⟨(h.2.2.2 i x kv hx hk).1.below hb, (h.2.2.2 i x kv hx hk).2⟩⟩
theorem OutsOwn.kept (h : OutsOwn base w v m) {q : Option Nat} (hg : w.grownBy w' q) (hb : v.ownBlock = none ∨ v.ownBlock ≠ q) : OutsOwn base w' v m := ⟨h.1.kept hg hb, h.2⟩
theorem OutsOwn.keep (h : OutsOwn base w v m) (hb : Below w.heap.size w w') : OutsOwn base w' v m := ⟨own_kept h.1 hb, h.2⟩
theorem InsOwn.push (h : InsOwn base w v l ks) {x : TIn} {kv : Value} (hx : InOk x) (hk : KeyAt w kv x.key) (hr : ∀ q, q < base → Off kv (some q)) (ho : Off kv v.ownBlock)
    (hown : w'.ownsRow base 36 35 v' (l.length + 1) (insL l ks ++ inL x kv)) (hg : w.grownBy w' v.ownBlock) (hat : v'.ownBlock = v.ownBlock ∨ v'.ownBlock = some w.heap.size) : InsOwn base w' v' (l ++ [x]) (ks ++ [kv]) := by
  refine ⟨by simp [h.1], ?_, ?_, ?_⟩
  · rw [insL_snoc x kv l ks h.1, List.length_append]
    exact hown
  · intro z hz
    rcases List.mem_append.1 hz with hz | hz
    · exact h.2.2.1 z hz
    · rw [List.mem_singleton.1 hz]; exact hx
  · have move : ∀ {x : TIn} {kv : Value}, KeyAt w kv x.key → (∀ q, q < base → Off kv (some q)) → Off kv v.ownBlock → KeyAt w' kv x.key ∧ (∀ q, q < base → Off kv (some q)) ∧ Off kv v'.ownBlock := fun {x kv} a b c => by
      refine ⟨a.off c hg, b, ?_⟩
      rcases hat with e | e
      · rw [e]; exact c
      · rw [e]; exact a.fresh (Nat.le_refl _)
    intro i y kw hy hkw
    by_cases hi : i < l.length
    · rw [List.getElem?_append_left hi] at hy
      rw [List.getElem?_append_left (by rw [← h.1]; exact hi)] at hkw
      obtain ⟨a, b, c⟩ := h.2.2.2 i y kw hy hkw
      exact move a b c
    · have hil : i = l.length := by
        have := (List.getElem?_eq_some_iff.1 hy).1
        simp at this
        omega
      subst hil
      rw [List.getElem?_append_right (Nat.le_refl _), Nat.sub_self] at hy
      have h1 := h.1
      rw [List.getElem?_append_right (by omega), h1, Nat.sub_self] at hkw
      simp only [List.getElem?_cons_zero, Option.some.injEq] at hy hkw
      subst hy hkw
      exact move hk hr ho
theorem OutsOwn.push (h : OutsOwn base w v m) {y : TOut} (hy : OutOk y) (hown : w'.ownsRow base 39 33 v' (m.length + 1) (outsL m ++ outL y)) : OutsOwn base w' v' (m ++ [y]) := by
  refine ⟨?_, ?_⟩
  · have e : outsL (m ++ [y]) = outsL m ++ outL y := by simp [outsL, List.flatMap_append]
    rw [e, List.length_append]
    exact hown
  · intro z hz
    rcases List.mem_append.1 hz with hz | hz
    · exact h.2 z hz
    · rw [List.mem_singleton.1 hz]; exact hy
/-- Such a row as a slice of inputs. -/
theorem InsOwn.at (h : InsOwn base w v l ks) : InsAt w v l := by
  obtain ⟨h1, h2, h3, h4⟩ := h
  rcases h2.2 with ⟨hv, h0⟩ | ⟨g, cap, cur, hv, hb, hc, hn, hm, hs, ht⟩
  · exact ⟨none, 0, by rw [hv, h0], by omega, fun h => by omega⟩
  · subst hv
    refine ⟨_, cap, rfl, hn, fun h0 => ⟨g, 0, rfl, fun i x hx => ?_⟩⟩
    have hi := (List.getElem?_eq_some_iff.1 hx).1
    obtain ⟨kv, hkv⟩ : ∃ kv, ks[i]? = some kv := ⟨_, List.getElem?_eq_getElem (by omega)⟩
    have hxo := h3 x (List.mem_of_getElem? hx)
    refine ⟨hxo, kv, (h4 i x kv hx hkv).1, fun j u hj => ?_⟩
    have hj35 : j < 35 := by
      have := (List.getElem?_eq_some_iff.1 hj).1
      rwa [inL_length x kv hxo.1] at this
    rw [Nat.zero_add, h2.cellAt (i * 35 + j) (by omega), insL_get l ks i x kv h3 hx hkv j hj35]
    exact hj
theorem OutsOwn.at (h : OutsOwn base w v m) : OutsAt w v m := by
  obtain ⟨h2, h3⟩ := h
  rcases h2.2 with ⟨hv, h0⟩ | ⟨g, cap, cur, hv, hb, hc, hn, hm, hs, ht⟩
  · exact ⟨none, 0, by rw [hv, h0], by omega, fun h => by omega⟩
  · subst hv
    refine ⟨_, cap, rfl, hn, fun h0 => ⟨g, 0, rfl, fun i x hx => ?_⟩⟩
    have hi := (List.getElem?_eq_some_iff.1 hx).1
    have hxo := h3 x (List.mem_of_getElem? hx)
    refine ⟨hxo, fun j u hj => ?_⟩
    have hj35 : j < 33 := by
      have := (List.getElem?_eq_some_iff.1 hj).1
      rwa [outL_length x hxo.1] at this
    rw [Nat.zero_add, h2.cellAt (i * 33 + j) (by omega), outsL_get m i x h3 hx j hj35]
    exact hj
end
/-- A literal of one structure, of two. -/
theorem fill_one (size : Nat) (zs : List Value) (hz : zs.length = size) (cs : List Value) (hc : cs.length = size) : Instr.fill (fun i => some (i * size, size)) zs.toArray [(0, .agg cs.toArray)] = some cs.toArray := by
  have h := fill_part (fun i => some (i * size, size)) 0 0 (.agg cs.toArray) cs zs [] rfl (by simp [hc]) (by omega)
  rw [h]
  have e : zs.drop (0 + cs.length) = [] := List.drop_eq_nil_of_le (by omega)
  rw [List.take_zero, List.nil_append, e, List.append_nil]
  rfl
theorem fill_two (size : Nat) (zs : List Value) (hz : zs.length = 2 * size) (cs ds : List Value) (hc : cs.length = size) (hd : ds.length = size) : Instr.fill (fun i => some (i * size, size)) zs.toArray [(0, .agg cs.toArray), (1, .agg ds.toArray)] = some (cs ++ ds).toArray := by
  have h := fill_part (fun i => some (i * size, size)) 0 0 (.agg cs.toArray) cs zs [(1, .agg ds.toArray)] rfl (by simp [hc]) (by omega)
  rw [h, List.take_zero, List.nil_append]
  have h2 := fill_part (fun i => some (i * size, size)) 1 size (.agg ds.toArray) ds (cs ++ zs.drop (0 + cs.length)) [] rfl (by simp [hd]) (by rw [List.length_append, List.length_drop]; omega)
  rw [h2]
  have e : (cs ++ zs.drop (0 + cs.length)).drop (size + ds.length) = [] := List.drop_eq_nil_of_le (by rw [List.length_append, List.length_drop]; omega)
  rw [e, List.append_nil, List.take_append_of_le_length (by omega), List.take_of_length_le (by omega)]
  rfl
section
variable {P : Program}
theorem wp_slice_one {o : Oper} {a : Act} {w : World} {K : Act → World → Prop} {Q : Exit → Act → World → Prop} (t e : TypeId) (x : Operand) (ho : o.op = .buildSlice t 1 #[(0, x)]) (cs : List Value) (hx : a.eval x = .agg cs.toArray)
    (hu : P.underlying t = some (.slice e)) (i : TypeInfo) (z : Value) (hi : P.info? e = some i) (hz : i.zero = some z) (hs : i.size = cs.length) (hp : 0 < cs.length) (hm : cs.length ≤ 16777216)
    (h : K (a.put o.dst (.slice (some ⟨w.heap.size, 0, none⟩) 1 1)) (w.alloc (.cells cs.toArray e))) : o.wp P a w K Q := by
  refine wp_buildSlice t e 1 _ ho cs.toArray i z hu hi hz (by rw [hs]; omega) (by rw [hs]; omega) ?_ h
  have e1 : (Array.map (fun (q : Nat × Operand) => (q.1, a.eval q.2)) #[(0, x)]).toList = [(0, .agg cs.toArray)] := by simp [hx]
  rw [show (Array.map (fun (i, x) => (i, a.eval x)) #[(0, x)]).toList = [(0, .agg cs.toArray)] from e1, ← Array.toArray_toList (xs := Array.map _ _)]
  exact fill_one i.size _ (by simp) cs hs.symm
theorem wpList_slice_one {ops : Array Oper} {rest : List Oper} {o : Oper} {a : Act} {w : World} {Q : Exit → Act → World → Prop} (hg : o.guard = none) (t e : TypeId) (x : Operand) (ho : o.op = .buildSlice t 1 #[(0, x)]) (cs : List Value) (hx : a.eval x = .agg cs.toArray)
    (hu : P.underlying t = some (.slice e)) (i : TypeInfo) (z : Value) (hi : P.info? e = some i) (hz : i.zero = some z) (hs : i.size = cs.length) (hp : 0 < cs.length) (hm : cs.length ≤ 16777216)
    (h : wpList P ops Q rest (a.put o.dst (.slice (some ⟨w.heap.size, 0, none⟩) 1 1)) (w.alloc (.cells cs.toArray e))) : wpList P ops Q (o :: rest) a w :=
  wpList_plain hg fun _ hK => wp_slice_one t e x ho cs hx hu i z hi hz hs hp hm (hK _ _ h)
theorem wpList_slice_two {ops : Array Oper} {rest : List Oper} {o : Oper} {a : Act} {w : World} {Q : Exit → Act → World → Prop} (hg : o.guard = none) (t e : TypeId) (x y : Operand) (ho : o.op = .buildSlice t 2 #[(0, x), (1, y)]) (cs ds : List Value) (hx : a.eval x = .agg cs.toArray) (hy : a.eval y = .agg ds.toArray)
    (hu : P.underlying t = some (.slice e)) (i : TypeInfo) (z : Value) (hi : P.info? e = some i) (hz : i.zero = some z) (hs : i.size = cs.length) (hs2 : i.size = ds.length) (hp : 0 < cs.length) (hm : cs.length ≤ 16777)
    (h : wpList P ops Q rest (a.put o.dst (.slice (some ⟨w.heap.size, 0, none⟩) 2 2)) (w.alloc (.cells (cs ++ ds).toArray e))) : wpList P ops Q (o :: rest) a w :=
  wpList_plain hg fun _ hK => by
    refine wp_buildSlice t e 2 _ ho (cs ++ ds).toArray i z hu hi hz (by rw [hs]; omega) (by rw [hs]; omega) ?_ (hK _ _ h)
    have e1 : (Array.map (fun (q : Nat × Operand) => (q.1, a.eval q.2)) #[(0, x), (1, y)]).toList = [(0, .agg cs.toArray), (1, .agg ds.toArray)] := by simp [hx, hy]
    rw [show (Array.map (fun (i, x) => (i, a.eval x)) #[(0, x), (1, y)]).toList = [(0, .agg cs.toArray), (1, .agg ds.toArray)] from e1, ← Array.toArray_toList (xs := Array.map _ _)]
    exact fill_two i.size _ (by simp) cs ds hs.symm hs2.symm
end
end Go.Proofs.Ytkabpbclmhmgfaa.Sha
