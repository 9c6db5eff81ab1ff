/-
  Laws for walks, of no program: a slice cut from its lower bound on; a copy into a block that is known whole; many cells stored into such a block. No conditions beyond those that each states.
-/
import Derived.WalkKit
import Derived.Laws.CopyOwn
import Derived.Deep.MidRow
import Derived.Lib.Hide
namespace Go.Proofs.Ytkabpbclmhmgfaa.Sha
open Go Go.RowKit

theorem splice_cons {α : Type} (L : List α) (o : Nat) (v : α) (r : List α) (h : o < L.length) : splice L o (v :: r) = splice (L.set o v) (o + 1) r := by
  have hA : (L.take o).length = o := by rw [List.length_take]; omega
  have e : L.set o v = L.take o ++ v :: L.drop (o + 1) := by rw [List.set_eq_take_append_cons_drop, if_pos h]
  have e1 : (L.take o ++ v :: L.drop (o + 1)).take (o + 1) = L.take o ++ [v] := by
    rw [List.take_append, hA, List.take_of_length_le (show (L.take o).length ≤ o + 1 by omega), show o + 1 - o = 1 by omega]
    rfl
  have e2 : (L.take o ++ v :: L.drop (o + 1)).drop (o + 1 + r.length) = L.drop (o + (v :: r).length) := by
    rw [List.drop_append, hA, List.drop_of_length_le (show (L.take o).length ≤ o + 1 + r.length by omega), show o + 1 + r.length - o = r.length + 1 by omega, List.drop_succ_cons, List.drop_drop, List.nil_append]
    congr 1
    simp
    omega
  unfold splice
  rw [e, e1, e2]
  simp
theorem splice_nil {α : Type} (L : List α) (o : Nat) : splice L o [] = L := by simp [splice]
theorem setCells_heap (B T : Nat) : ∀ (vs : List Value) (o : Nat) (cur : List Value) (w : World), w.heap[B]? = some (.cells cur.toArray T (0, 0)) → o + vs.length ≤ cur.length →
    (w.setCells B o vs).heap[B]? = some (.cells (splice cur o vs).toArray T (0, 0))
  | [], o, cur, w, h, _ => by rw [splice_nil]; exact h
  | v :: r, o, cur, w, h, hl => by
    have hl' : o + (r.length + 1) ≤ cur.length := hl
    rw [splice_cons cur o v r (by omega)]
    refine setCells_heap B T r (o + 1) (cur.set o v) _ ?_ (by rw [List.length_set]; omega)
    rw [heap_setCell_same w B o _ _ _ h, List.setIfInBounds_toArray]
theorem setCells_other (B : Nat) : ∀ (vs : List Value) (o : Nat) (w : World) (k : Nat), k ≠ B → (w.setCells B o vs).heap[k]? = w.heap[k]?
  | [], _, _, _, _ => rfl
  | v :: r, o, w, k, h => by
    show ((w.setCell ⟨B, o, none⟩ v).setCells B (o + 1) r).heap[k]? = _
    rw [setCells_other B r (o + 1) _ k h, heap_setCell_other _ _ _ _ h]
theorem setCells_rest (B : Nat) : ∀ (vs : List Value) (o : Nat) (w : World), (w.setCells B o vs).heap.size = w.heap.size ∧ (w.setCells B o vs).os = w.os ∧ (w.setCells B o vs).tape = w.tape ∧ (w.setCells B o vs).output = w.output
  | [], _, _ => ⟨rfl, rfl, rfl, rfl⟩
  | v :: r, o, w => by
    obtain ⟨a, b, c, d⟩ := setCells_rest B r (o + 1) (w.setCell ⟨B, o, none⟩ v)
    exact ⟨a.trans (by simp [World.setCell]), b, c, d⟩
theorem grownBy_setCells (B : Nat) (vs : List Value) (o : Nat) (w : World) : w.grownBy (w.setCells B o vs) (some B) := by
  obtain ⟨a, b, c, d⟩ := setCells_rest B vs o w
  exact ⟨b, c, d, Nat.le_of_eq a.symm, fun k _ hne => setCells_other B vs o w k (fun e => hne (by rw [e]))⟩
theorem grownBy_setRow (B : Nat) (cs : Array Value) (w : World) : w.grownBy (w.setRow B cs) (some B) :=
  ⟨rfl, rfl, rfl, by simp, fun k _ hne => setRow_other w B k cs (fun e => hne (by rw [e]))⟩
theorem grownBy_refl (w : World) (row : Option Nat) : w.grownBy w row := ⟨rfl, rfl, rfl, Nat.le_refl _, fun _ _ _ => rfl⟩

theorem wpList_copy_into {P : Program} {w : World} {ops : Array Oper} {rest : List Oper} {o : Oper} {a : Act} {Q : Exit → Act → World → Prop} (hgd : o.guard = none) (d s : Operand) (dT sT : TypeId)
    (ho : o.op = .call { callee := .builtin .copy, args := #[d, s], argTypes := #[dT, sT] }) (elem : TypeId) (hu : P.underlying dT = some (.slice elem)) (hsz : (P.info? elem).map (·.size) = some 1)
    (dp sp : Option Addr) (dLen dCap sLen sCap : Nat) (hd : a.eval d = .slice dp dLen dCap) (hs : a.eval s = .slice sp sLen sCap)
    (g off : Nat) (cur : List Value) (t : TypeId) (hg : w.heap[g]? = some (.cells cur.toArray t (0, 0))) (cs : List Value) (hn : cs.length = Nat.min sLen dLen)
    (hpos : 0 < cs.length → dp = some ⟨g, off, none⟩ ∧ ∃ ad, sp = some ad ∧ ∀ j v, cs[j]? = some v → w.cell? (ad.add j) = some v)
    (hfit : off + cs.length ≤ cur.length) (h1 : ∀ v ∈ cs, v.oneCell' = true)
    (h : ∀ w', Hid (w'.heap[g]? = some (.cells (splice cur off cs).toArray t (0, 0))) → Hid (w.grownBy w' (some g)) → wpList P ops Q rest (a.put o.dst (goInt cs.length)) w') :
    wpList P ops Q (o :: rest) a w := by
  by_cases h0 : cs.length = 0
  · obtain rfl : cs = [] := List.eq_nil_of_length_eq_zero h0
    refine wpList_copy_nothing hgd d s dT sT ho elem hu hsz dp sp dLen dCap sLen sCap hd hs (by simpa using hn.symm) ?_
    exact h w (show _ = _ by rw [splice_nil]; exact hg) (grownBy_refl _ _)
  · obtain ⟨rfl, ad, rfl, hsrc⟩ := hpos (by omega)
    refine wpList_copy_own hgd d s dT sT ho elem hu hsz g off dLen dCap ad sLen sCap hd hs cur.toArray t hg cs hn hsrc (by simpa using hfit) h1 ?_
    exact h _ (show _ = _ by simpa [splice] using setRow_heap w g _ _ t _ hg) (grownBy_setRow _ _ _)

theorem run_slice_lo {P : Program} {w : World} (t e : TypeId) (ad : Addr) (len cap n : Nat) (hu : P.underlying t = some (.slice e)) (hsz : (P.info? e).map (·.size) = some 1) (hn : n ≤ len) :
    ∃ ad', (n < cap → ad' = ad.add n) ∧ (Instr.sliceAt t (.slice (some ad) len cap) (some (.int .i64 n)) none none).run P w = .ok (.slice (some ad') (len - n) (cap - n)) w := by
  obtain ⟨i, hi, h1⟩ := Option.map_eq_some_iff.1 hsz
  have hel : P.elem t = e := by simp [Program.elem, hu]
  have hu' : P.underlying t = some (.slice (P.elem t)) := by rw [hel]; exact hu
  refine ⟨if cap = n then ad else ad.add n, fun h => by rw [if_neg (by omega)], ?_⟩
  rw [run_sliceAt_slice _ _ _ _ _ _ hu', run_slice_l _ _ _ _ _ hu' _ _ (by omega) (by omega)]
  rw [hel]
  simp [sizeOf, typeInfo, hi, h1, sliced, go_sem]
  split <;> rfl
theorem wpList_slice_lo {P : Program} {w : World} {ops : Array Oper} {rest : List Oper} {o : Oper} {a : Act} {Q : Exit → Act → World → Prop} (hgd : o.guard = none) (t : TypeId) (x l : Operand)
    (ho : o.op = .slice t x (some l) none none) (e : TypeId) (hu : P.underlying t = some (.slice e)) (hsz : (P.info? e).map (·.size) = some 1)
    (ad : Addr) (len cap n : Nat) (hx : a.eval x = .slice (some ad) len cap) (hl : a.eval l = .int .i64 n) (hn : n ≤ len)
    (h : ∀ ad', Hid (n < cap → ad' = ad.add n) → wpList P ops Q rest (a.put o.dst (.slice (some ad') (len - n) (cap - n))) w) : wpList P ops Q (o :: rest) a w := by
  refine wpList_plain hgd fun K hK => ?_
  obtain ⟨ad', h1, h2⟩ := run_slice_lo (P := P) (w := w) t e ad len cap n hu hsz hn
  unfold Oper.wp
  simp [execOp, ho, hx, hl, h2, Result.andThen]
  exact hK _ _ (h ad' h1)
theorem run_slice_arr {P : Program} {w : World} (t e N : Nat) (ad : Addr) (n : Nat) (hu : P.underlying t = some (.array N e)) (hsz : (P.info? e).map (·.size) = some 1) (hn : n < N) :
    (Instr.sliceAt t (.pointer (some ad)) (some (.int .i64 n)) none none).run P w = .ok (.slice (some (ad.add n)) (N - n) (N - n)) w := by
  obtain ⟨i, hi, h1⟩ := Option.map_eq_some_iff.1 hsz
  have hel : P.elem t = e := by simp [Program.elem, hu]
  have hal : P.arrayLen t = N := by simp [Program.arrayLen, hu]
  have hu' : P.underlying t = some (.array (P.arrayLen t) (P.elem t)) := by rw [hel, hal]; exact hu
  rw [run_sliceAt_array_l _ _ _ hu' _ _ (by omega) (by omega), hel, hal]
  simp [sizeOf, typeInfo, hi, h1, slicedAt, go_sem]
  omega
theorem wpList_slice_arr {P : Program} {w : World} {ops : Array Oper} {rest : List Oper} {o : Oper} {a : Act} {Q : Exit → Act → World → Prop} (hgd : o.guard = none) (t : TypeId) (x l : Operand)
    (ho : o.op = .slice t x (some l) none none) (e N : Nat) (hu : P.underlying t = some (.array N e)) (hsz : (P.info? e).map (·.size) = some 1)
    (ad : Addr) (n : Nat) (hx : a.eval x = .pointer (some ad)) (hl : a.eval l = .int .i64 n) (hn : n < N)
    (h : wpList P ops Q rest (a.put o.dst (.slice (some (ad.add n)) (N - n) (N - n))) w) : wpList P ops Q (o :: rest) a w := by
  refine wpList_plain hgd fun K hK => ?_
  unfold Oper.wp
  simp [execOp, ho, hx, hl, run_slice_arr (w := w) t e N ad n hu hsz hn, Result.andThen]
  exact hK _ _ h
end Go.Proofs.Ytkabpbclmhmgfaa.Sha
