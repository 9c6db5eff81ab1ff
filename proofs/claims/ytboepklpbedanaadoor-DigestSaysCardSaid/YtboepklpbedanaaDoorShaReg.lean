/-
  A region that draws its order, whose operations only read and whose callees make memory but turn none that was there: one walk in the text's order serves every order. A slice cut from one that reads as bytes reads as those bytes' part. No conditions beyond those that each states.
-/
import Derived.Test.YtboepklpbedanaaDoorShaSame
namespace Go.Proofs.YtboepklpbedanaaDoor.Sha
open Go Go.RowKit

theorem wp_region_below {P : Program} {id : Nat} {Q : Exit → Act → World → Prop} {a : Act} {w : World} {l : List Oper} (hm : P.follows .mixedOrders = true) (hB : Region.lexB .any l.toArray = true) (w0 : World) (hb : Below w0.heap.size w0 w)
    (h : wpQuiet P l.toArray (fun w' => Below w0.heap.size w0 w') (fun a' => ∀ w', Below w0.heap.size w0 w' → Q .normal a' w') l a) : (Code.region id l.toArray true).wp P Q a w :=
  wp_region_quiet (C := fun w' => Below w0.heap.size w0 w') hm hB hb.drew (by simpa using h)
theorem cls {P : Program} {f : FuncId} {args : Array Value} {w0 w : World} {v : Value} (hw : Below w0.heap.size w0 w) (h : Calls P f args w fun e w' => e = .returned v ∧ Below w.heap.size w w') :
    Calls P f args w fun e w' => e = .returned v ∧ Below w0.heap.size w0 w' := h.mono fun _ _ ⟨a, b⟩ => ⟨a, hw.trans (b.mono hw.size)⟩
theorem cls0 {P : Program} {f : FuncId} {args : Array Value} {w0 w : World} {v : Value} (hw : Below w0.heap.size w0 w) (h : Calls P f args w fun e w' => e = .returned v ∧ w = w') :
    Calls P f args w fun e w' => e = .returned v ∧ Below w0.heap.size w0 w' := h.mono fun _ _ ⟨a, b⟩ => ⟨a, by rw [← b]; exact hw⟩

theorem same_true (x y : List UInt8) (hxy : x = y) (hx : x.length = 32) (w : World) :
    Calls Tryd.prog 11 #[.agg (x.map bV).toArray, .agg (y.map bV).toArray] w fun e w' => e = .returned (.bool true) ∧ Below w.heap.size w w' := by
  subst hxy
  have := same_any x x hx hx w
  rw [decide_eq_true rfl] at this
  exact this

theorem src_sliced {w : World} {sp : Option Addr} {n cap : Nat} {bs : List UInt8} (h : SrcB w (.slice sp n cap) bs) (l r : Nat) (h1 : l ≤ r) (h2 : r ≤ n) : SrcB w (sliced sp l r cap 1) ((bs.take r).drop l) := by
  rcases h with ⟨sp', cap', hv, rfl⟩ | ⟨h0, bb, off, cap', hv, hc, hs⟩
  · cases hv
    refine .inl ⟨if cap = l then sp else sp.map (·.add (l * 1)), cap - l, ?_, by simp⟩
    rw [sliced, show r - l = 0 by omega]
  · cases hv
    by_cases hlr : l = r
    · subst hlr
      refine .inl ⟨if cap = l then some ⟨bb, off, none⟩ else (some (⟨bb, off, none⟩ : Addr)).map (·.add (l * 1)), cap - l, ?_, ?_⟩
      · rw [sliced, Nat.sub_self]
      · rw [List.drop_of_length_le]
        rw [List.length_take]; omega
    · have hl : ((bs.take r).drop l).length = r - l := by rw [List.length_drop, List.length_take]; omega
      refine .inr ⟨by omega, bb, off + l, cap - l, ?_, by omega, fun j hj => ?_⟩
      · rw [sliced, if_neg (by omega), hl]
        simp [Addr.add_mid]
      · rw [hl] at hj
        rw [Nat.add_assoc, hs (l + j) (by omega)]
        congr 3
        simp only [List.getD, List.getElem?_drop]
        rw [List.getElem?_take_of_lt (by omega)]
theorem SrcB.le {w : World} {sp : Option Addr} {n cap : Nat} {bs : List UInt8} (h : SrcB w (.slice sp n cap) bs) : n = bs.length ∧ n ≤ cap := by
  rcases h with ⟨sp', cap', hv, rfl⟩ | ⟨h0, bb, off, cap', hv, hc, hs⟩
  · cases hv; exact ⟨rfl, Nat.zero_le _⟩
  · cases hv; exact ⟨rfl, hc⟩

theorem elem_of {P : Program} {t e : TypeId} (hu : P.underlying t = some (.slice e)) : P.elem t = e := by simp [Program.elem, hu]
theorem run_cut_lh {P : Program} {w : World} (t e : TypeId) (sp : Option Addr) (n cap l r : Nat) (hu : P.underlying t = some (.slice e)) (hsz : (P.info? e).map (·.size) = some 1) (h1 : l ≤ r) (h2 : r ≤ cap) :
    (Instr.sliceAt t (.slice sp n cap) (some (.int .i64 l)) (some (.int .i64 r)) none).run P w = .ok (sliced sp l r cap 1) w := by
  obtain ⟨i, hi, hs⟩ := Option.map_eq_some_iff.1 hsz
  have hu' : P.underlying t = some (.slice (P.elem t)) := by rw [elem_of hu]; exact hu
  rw [run_sliceAt_slice _ _ _ _ _ _ hu', run_slice_lh _ _ _ _ _ hu' _ _ _ _ (by omega) (by omega) (by omega), elem_of hu]
  simp [sizeOf, typeInfo, hi, hs, sliced, go_sem]
theorem run_cut_h {P : Program} {w : World} (t e : TypeId) (sp : Option Addr) (n cap r : Nat) (hu : P.underlying t = some (.slice e)) (hsz : (P.info? e).map (·.size) = some 1) (h2 : r ≤ cap) :
    (Instr.sliceAt t (.slice sp n cap) none (some (.int .i64 r)) none).run P w = .ok (sliced sp 0 r cap 1) w := by
  obtain ⟨i, hi, hs⟩ := Option.map_eq_some_iff.1 hsz
  have hu' : P.underlying t = some (.slice (P.elem t)) := by rw [elem_of hu]; exact hu
  rw [run_sliceAt_slice _ _ _ _ _ _ hu', run_slice_h _ _ _ _ _ hu' _ _ (by omega) (by omega), elem_of hu]
  simp [sizeOf, typeInfo, hi, hs, sliced, go_sem]
theorem run_cut_l {P : Program} {w : World} (t e : TypeId) (sp : Option Addr) (n cap l : Nat) (hu : P.underlying t = some (.slice e)) (hsz : (P.info? e).map (·.size) = some 1) (h1 : l ≤ n) :
    (Instr.sliceAt t (.slice sp n cap) (some (.int .i64 l)) none none).run P w = .ok (sliced sp l n cap 1) w := by
  obtain ⟨i, hi, hs⟩ := Option.map_eq_some_iff.1 hsz
  have hu' : P.underlying t = some (.slice (P.elem t)) := by rw [elem_of hu]; exact hu
  rw [run_sliceAt_slice _ _ _ _ _ _ hu', run_slice_l _ _ _ _ _ hu' _ _ (by omega) (by omega), elem_of hu]
  simp [sizeOf, typeInfo, hi, hs, sliced, go_sem]
section
variable {P : Program} {w : World} {ops : Array Oper} {rest : List Oper} {o : Oper} {a : Act} {Q : Exit → Act → World → Prop}
theorem wpList_cut_lh (hgd : o.guard = none) (t : TypeId) (x lo hi : Operand) (ho : o.op = .slice t x (some lo) (some hi) none) (e : TypeId) (hu : P.underlying t = some (.slice e)) (hsz : (P.info? e).map (·.size) = some 1)
    (sp : Option Addr) (n cap : Nat) (l r : Nat) (hx : a.eval x = .slice sp n cap) (hl : a.eval lo = .int .i64 l) (hr : a.eval hi = .int .i64 r) (h1 : l ≤ r) (h2 : r ≤ cap)
    (h : ∀ v, Hid (v = sliced sp l r cap 1) → wpList P ops Q rest (a.put o.dst v) w) : wpList P ops Q (o :: rest) a w := by
  refine wpList_plain hgd fun K hK => ?_
  unfold Oper.wp
  simp [execOp, ho, hx, hl, hr, run_cut_lh (w := w) t e sp n cap l r hu hsz h1 h2, Result.andThen]
  exact hK _ _ (h _ rfl)
theorem wpList_cut_l (hgd : o.guard = none) (t : TypeId) (x lo : Operand) (ho : o.op = .slice t x (some lo) none none) (e : TypeId) (hu : P.underlying t = some (.slice e)) (hsz : (P.info? e).map (·.size) = some 1)
    (sp : Option Addr) (n cap : Nat) (l : Nat) (hx : a.eval x = .slice sp n cap) (hl : a.eval lo = .int .i64 l) (h1 : l ≤ n)
    (h : ∀ v, Hid (v = sliced sp l n cap 1) → wpList P ops Q rest (a.put o.dst v) w) : wpList P ops Q (o :: rest) a w := by
  refine wpList_plain hgd fun K hK => ?_
  unfold Oper.wp
  simp [execOp, ho, hx, hl, run_cut_l (w := w) t e sp n cap l hu hsz h1, Result.andThen]
  exact hK _ _ (h _ rfl)
end
theorem quiet_run {P : Program} {C : World → Prop} {a : Act} {o : Oper} {K : Act → Prop} (v : Value) (h : ∀ w, (execOp a.eval o).run P w = .ok (.value v) w) (hk : K (a.put o.dst v)) : o.quiet P a C K :=
  ⟨v, fun w _ => by unfold Oper.quietAt; rw [h w]; exact ⟨rfl, rfl⟩, hk⟩
theorem quiet_cut_h {P : Program} {C : World → Prop} {a : Act} {o : Oper} {K : Act → Prop} (t : TypeId) (x hi : Operand) (ho : o.op = .slice t x none (some hi) none) (e : TypeId) (hu : P.underlying t = some (.slice e)) (hsz : (P.info? e).map (·.size) = some 1)
    (sp : Option Addr) (n cap r : Nat) (hx : a.eval x = .slice sp n cap) (hr : a.eval hi = .int .i64 r) (h2 : r ≤ cap) (v : Value) (hv : sliced sp 0 r cap 1 = v) (hk : K (a.put o.dst v)) : o.quiet P a C K := by
  refine quiet_run v (fun w => ?_) hk
  simp [execOp, ho, hx, hr, run_cut_h (w := w) t e sp n cap r hu hsz h2, Result.andThen, hv]
end Go.Proofs.YtboepklpbedanaaDoor.Sha
