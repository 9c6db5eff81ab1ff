/-
  Texts of this proof joined into one file: ShaLib, Base, CmpMath, CmpLib, Args, CmpNum, CmpRdr, Errs, ErrVlr, ErrIs, ArgsHash, Pt, ArgsPt. What each holds, and under which conditions, its own first sentence tells.
-/
import Derived.WalkKit
import Derived.Laws.CopyOwn
import Derived.Deep.MidRow
import Derived.Lib.Hide
import Derived.Deep.Light
import Derived.StillTailTactics
import Derived.LoopTactic
import Derived.LoopN
import Derived.RegionTactic
import Derived.Deep.QuietTactic
import Derived.BigQuiet
import Derived.Laws.OwnMore
import Derived.WalkSmall
import Derived.Maps.RangeWalk
import Derived.Maps.AppendAt
import Derived.Deep.DeepFit
import Derived.ProofKit
import Derived.OpenShut
import Derived.ShutString
import Derived.ChangeOld
import Derived.Deep.DeepHandedRow
import Derived.Lib.LaidTab
import Derived.Laws.Bits64
import Derived.Laws.Bits64b
import Derived.Laws.BitsAllLaws
import Derived.Stop.IfaceNil
import Derived.LaidEql
import Derived.Stop.LaidErr
import Derived.Stop.BytesEq
import Derived.Test.YtlpdgjneoahdeaaDoorProg
import Derived.Test.YtlpdgjneoahdeaaDoorRows
/-
  Laws for walks, of no program: a slice cut from its lower bound on; a copy into a block that is known whole; many cells stored into such a block. No conditions beyond those that each states.
-/
namespace Go.Proofs.YtlpdgjneoahdeaaDoor.Sha
open Go Go.RowKit
theorem splice_cons {α : Type} (L : List α) (o : Nat) (v : α) (r : List α) (h : o < L.length) : splice L o (v :: r) = splice (L.set o v) (o + 1) r := by
  have hA : (L.take o).length = o := by rw [List.length_take]; omega
  have e : L.set o v = L.take o ++ v :: L.drop (o + 1) := by rw [List.set_eq_take_append_cons_drop, if_pos h]
  have e1 : (L.take o ++ v :: L.drop (o + 1)).take (o + 1) = L.take o ++ [v] := by
    rw [List.take_append, hA, List.take_of_length_le (show (L.take o).length ≤ o + 1 by omega), show o + 1 - o = 1 by omega]
    rfl
  have e2 : (L.take o ++ v :: L.drop (o + 1)).drop (o + 1 + r.length) = L.drop (o + (v :: r).length) := by
    rw [List.drop_append, hA, List.drop_of_length_le (show (L.take o).length ≤ o + 1 + r.length by omega), show o + 1 + r.length - o = r.length + 1 by omega, List.drop_succ_cons, List.drop_drop, List.nil_append]
    congr 1
    simp
    omega
  unfold splice
  rw [e, e1, e2]
  simp
theorem splice_nil {α : Type} (L : List α) (o : Nat) : splice L o [] = L := by simp [splice]
theorem setCells_heap (B T : Nat) : ∀ (vs : List Value) (o : Nat) (cur : List Value) (w : World), w.heap[B]? = some (.cells cur.toArray T (0, 0)) → o + vs.length ≤ cur.length →
    (w.setCells B o vs).heap[B]? = some (.cells (splice cur o vs).toArray T (0, 0))
  | [], o, cur, w, h, _ => by rw [splice_nil]; exact h
  | v :: r, o, cur, w, h, hl => by
    have hl' : o + (r.length + 1) ≤ cur.length := hl
    rw [splice_cons cur o v r (by omega)]
    refine setCells_heap B T r (o + 1) (cur.set o v) _ ?_ (by rw [List.length_set]; omega)
    rw [heap_setCell_same w B o _ _ _ h, List.setIfInBounds_toArray]
theorem setCells_other (B : Nat) : ∀ (vs : List Value) (o : Nat) (w : World) (k : Nat), k ≠ B → (w.setCells B o vs).heap[k]? = w.heap[k]?
  | [], _, _, _, _ => rfl
  | v :: r, o, w, k, h => by
    show ((w.setCell ⟨B, o, none⟩ v).setCells B (o + 1) r).heap[k]? = _
    rw [setCells_other B r (o + 1) _ k h, heap_setCell_other _ _ _ _ h]
theorem setCells_rest (B : Nat) : ∀ (vs : List Value) (o : Nat) (w : World), (w.setCells B o vs).heap.size = w.heap.size ∧ (w.setCells B o vs).os = w.os ∧ (w.setCells B o vs).tape = w.tape ∧ (w.setCells B o vs).output = w.output
  | [], _, _ => ⟨rfl, rfl, rfl, rfl⟩
  | v :: r, o, w => by
    obtain ⟨a, b, c, d⟩ := setCells_rest B r (o + 1) (w.setCell ⟨B, o, none⟩ v)
    exact ⟨a.trans (by simp [World.setCell]), b, c, d⟩
theorem grownBy_setCells (B : Nat) (vs : List Value) (o : Nat) (w : World) : w.grownBy (w.setCells B o vs) (some B) := by
  obtain ⟨a, b, c, d⟩ := setCells_rest B vs o w
  exact ⟨b, c, d, Nat.le_of_eq a.symm, fun k _ hne => setCells_other B vs o w k (fun e => hne (by rw [e]))⟩
theorem grownBy_setRow (B : Nat) (cs : Array Value) (w : World) : w.grownBy (w.setRow B cs) (some B) :=
  ⟨rfl, rfl, rfl, by simp, fun k _ hne => setRow_other w B k cs (fun e => hne (by rw [e]))⟩
theorem grownBy_refl (w : World) (row : Option Nat) : w.grownBy w row := ⟨rfl, rfl, rfl, Nat.le_refl _, fun _ _ _ => rfl⟩
theorem wpList_copy_into {P : Program} {w : World} {ops : Array Oper} {rest : List Oper} {o : Oper} {a : Act} {Q : Exit → Act → World → Prop} (hgd : o.guard = none) (d s : Operand) (dT sT : TypeId)
    (ho : o.op = .call { callee := .builtin .copy, args := #[d, s], argTypes := #[dT, sT] }) (elem : TypeId) (hu : P.underlying dT = some (.slice elem)) (hsz : (P.info? elem).map (·.size) = some 1)
    (dp sp : Option Addr) (dLen dCap sLen sCap : Nat) (hd : a.eval d = .slice dp dLen dCap) (hs : a.eval s = .slice sp sLen sCap)
    (g off : Nat) (cur : List Value) (t : TypeId) (hg : w.heap[g]? = some (.cells cur.toArray t (0, 0))) (cs : List Value) (hn : cs.length = Nat.min sLen dLen)
    (hpos : 0 < cs.length → dp = some ⟨g, off, none⟩ ∧ ∃ ad, sp = some ad ∧ ∀ j v, cs[j]? = some v → w.cell? (ad.add j) = some v)
    (hfit : off + cs.length ≤ cur.length) (h1 : ∀ v ∈ cs, v.oneCell' = true)
    (h : ∀ w', Hid (w'.heap[g]? = some (.cells (splice cur off cs).toArray t (0, 0))) → Hid (w.grownBy w' (some g)) → wpList P ops Q rest (a.put o.dst (goInt cs.length)) w') :
    wpList P ops Q (o :: rest) a w := by
  by_cases h0 : cs.length = 0
  · obtain rfl : cs = [] := List.eq_nil_of_length_eq_zero h0
    refine wpList_copy_nothing hgd d s dT sT ho elem hu hsz dp sp dLen dCap sLen sCap hd hs (by simpa using hn.symm) ?_
    exact h w (show _ = _ by rw [splice_nil]; exact hg) (grownBy_refl _ _)
  · obtain ⟨rfl, ad, rfl, hsrc⟩ := hpos (by omega)
    refine wpList_copy_own hgd d s dT sT ho elem hu hsz g off dLen dCap ad sLen sCap hd hs cur.toArray t hg cs hn hsrc (by simpa using hfit) h1 ?_
    exact h _ (show _ = _ by simpa [splice] using setRow_heap w g _ _ t _ hg) (grownBy_setRow _ _ _)
theorem run_slice_lo {P : Program} {w : World} (t e : TypeId) (ad : Addr) (len cap n : Nat) (hu : P.underlying t = some (.slice e)) (hsz : (P.info? e).map (·.size) = some 1) (hn : n ≤ len) :
    ∃ ad', (n < cap → ad' = ad.add n) ∧ (Instr.sliceAt t (.slice (some ad) len cap) (some (.int .i64 n)) none none).run P w = .ok (.slice (some ad') (len - n) (cap - n)) w := by
  obtain ⟨i, hi, h1⟩ := Option.map_eq_some_iff.1 hsz
  have hel : P.elem t = e := by simp [Program.elem, hu]
  have hu' : P.underlying t = some (.slice (P.elem t)) := by rw [hel]; exact hu
  refine ⟨if cap = n then ad else ad.add n, fun h => by rw [if_neg (by omega)], ?_⟩
  rw [run_sliceAt_slice _ _ _ _ _ _ hu', run_slice_l _ _ _ _ _ hu' _ _ (by omega) (by omega)]
  rw [hel]
  simp [sizeOf, typeInfo, hi, h1, sliced, go_sem]
  split <;> rfl
theorem wpList_slice_lo {P : Program} {w : World} {ops : Array Oper} {rest : List Oper} {o : Oper} {a : Act} {Q : Exit → Act → World → Prop} (hgd : o.guard = none) (t : TypeId) (x l : Operand)
    (ho : o.op = .slice t x (some l) none none) (e : TypeId) (hu : P.underlying t = some (.slice e)) (hsz : (P.info? e).map (·.size) = some 1)
    (ad : Addr) (len cap n : Nat) (hx : a.eval x = .slice (some ad) len cap) (hl : a.eval l = .int .i64 n) (hn : n ≤ len)
    (h : ∀ ad', Hid (n < cap → ad' = ad.add n) → wpList P ops Q rest (a.put o.dst (.slice (some ad') (len - n) (cap - n))) w) : wpList P ops Q (o :: rest) a w := by
  refine wpList_plain hgd fun K hK => ?_
  obtain ⟨ad', h1, h2⟩ := run_slice_lo (P := P) (w := w) t e ad len cap n hu hsz hn
  unfold Oper.wp
  simp [execOp, ho, hx, hl, h2, Result.andThen]
  exact hK _ _ (h ad' h1)
theorem run_slice_arr {P : Program} {w : World} (t e N : Nat) (ad : Addr) (n : Nat) (hu : P.underlying t = some (.array N e)) (hsz : (P.info? e).map (·.size) = some 1) (hn : n < N) :
    (Instr.sliceAt t (.pointer (some ad)) (some (.int .i64 n)) none none).run P w = .ok (.slice (some (ad.add n)) (N - n) (N - n)) w := by
  obtain ⟨i, hi, h1⟩ := Option.map_eq_some_iff.1 hsz
  have hel : P.elem t = e := by simp [Program.elem, hu]
  have hal : P.arrayLen t = N := by simp [Program.arrayLen, hu]
  have hu' : P.underlying t = some (.array (P.arrayLen t) (P.elem t)) := by rw [hel, hal]; exact hu
  rw [run_sliceAt_array_l _ _ _ hu' _ _ (by omega) (by omega), hel, hal]
  simp [sizeOf, typeInfo, hi, h1, slicedAt, go_sem]
  omega
theorem wpList_slice_arr {P : Program} {w : World} {ops : Array Oper} {rest : List Oper} {o : Oper} {a : Act} {Q : Exit → Act → World → Prop} (hgd : o.guard = none) (t : TypeId) (x l : Operand)
    (ho : o.op = .slice t x (some l) none none) (e N : Nat) (hu : P.underlying t = some (.array N e)) (hsz : (P.info? e).map (·.size) = some 1)
    (ad : Addr) (n : Nat) (hx : a.eval x = .pointer (some ad)) (hl : a.eval l = .int .i64 n) (hn : n < N)
    (h : wpList P ops Q rest (a.put o.dst (.slice (some (ad.add n)) (N - n) (N - n))) w) : wpList P ops Q (o :: rest) a w := by
  refine wpList_plain hgd fun K hK => ?_
  unfold Oper.wp
  simp [execOp, ho, hx, hl, run_slice_arr (w := w) t e N ad n hu hsz hn, Result.andThen]
  exact hK _ _ h
end Go.Proofs.YtlpdgjneoahdeaaDoor.Sha

/-
  What every seat's texts stand on: bytes as the model's integers, slices that read as bytes, cuts of them, memory that is new or the caller's, laws for walks of no program. No conditions beyond those that each states.
-/
namespace Go.Proofs.YtlpdgjneoahdeaaDoor.Sha
open Go Go.RowKit
/-- A byte as the model's integer. -/
def bv (x : UInt8) : Int := x.toNat
theorem bv_bd (x : UInt8) : 0 ≤ bv x ∧ bv x ≤ 255 := by
  have := x.toNat_lt
  unfold bv
  omega
def bV (x : UInt8) : Value := .int .u8 (bv x)
theorem bV_one (l : List UInt8) : (l.map bV).toArray.all (·.oneCell') = true := by
  rw [Array.all_eq_true_iff_forall_mem]
  intro x hx
  simp at hx
  obtain ⟨a, _, rfl⟩ := hx
  rfl
theorem bV_one' (l : List UInt8) : ∀ v ∈ l.map bV, v.oneCell' = true := by
  intro v hv
  simp at hv
  obtain ⟨a, _, rfl⟩ := hv
  rfl
theorem bv_of {n : Nat} : IntKind.u8.wrap (n : Int) = bv (UInt8.ofNat n) := by
  unfold bv
  rw [IntKind.wrap_u8', UInt8.toNat_ofNat']
  simp
theorem set_mid {α : Type} (A : List α) (n j : Nat) (l : List α) (v : α) (h : A.length = n) : (A ++ l).set (n + j) v = A ++ l.set j v := by
  subst h
  rw [List.set_append_right _ _ (by omega)]
  congr 2
  omega
theorem get_mid {α : Type} (A : List α) (n j : Nat) (l : List α) (h : A.length = n) : (A ++ l).toArray[n + j]? = l[j]? := by
  subst h
  rw [List.getElem?_toArray, List.getElem?_append_right (by omega)]
  congr 1
  omega
theorem ret_int {k : IntKind} {a b : Int} (h : a = b) : Ending.returned (.int k a) = .returned (.int k b) := by rw [h]
theorem same_of {P : Program} {f : FuncId} {args : Array Value} {w : World} {v : Value} (h : Calls P f args w fun e w' => e = .returned v ∧ w = w') : Calls P f args w fun e w' => e = .returned v ∧ w' = w :=
  h.mono fun _ _ ⟨a, b⟩ => ⟨a, b.symm⟩
theorem run_index_array {P : Program} {w : World} (t e n : Nat) (kk : IntKind) (cs : Array Value) (k : Nat) (v : Value) (h : P.underlying t = some (.array n e)) (he : P.underlying e = some (.int kk)) (hs : (P.info? e).map (·.size) = some 1)
    (hk : k < n) (hv : cs[k]? = some v) : (Instr.index t (.agg cs) (.int .i64 k)).run P w = .ok v w := by
  obtain ⟨i, hi, h1⟩ := Option.map_eq_some_iff.1 hs
  simp [Instr.index, run_underlying h, asIntOf, part, isAgg, run_underlying he, sizeOf, typeInfo, hi, h1, hv, go_sem]
  intro h'
  omega
theorem grownBy_of_below {w wr : World} (h : Below w.heap.size w wr) (row : Option Nat) : w.grownBy wr row := ⟨h.os, h.tape, h.output, h.size, fun k hk _ => h.block k hk⟩
theorem grownBy_trans {a b c : World} {row : Option Nat} (h : a.grownBy b row) (k : b.grownBy c row) : a.grownBy c row :=
  ⟨k.os.trans h.os, k.tape.trans h.tape, k.output.trans h.output, Nat.le_trans h.size k.size, fun i hi hne => (k.block i (Nat.lt_of_lt_of_le hi h.size) hne).trans (h.block i hi hne)⟩
theorem one_u8 (x : Int) : ∀ u ∈ [Value.int .u8 x], u.oneCell' = true := by
  intro u hu
  simp at hu
  subst hu
  rfl
theorem info_u8 : (Tryd.prog.info? 5).map (fun i => (i.zero, i.size, i.bytes)) = some (some (.int .u8 0), 1, 1) := by kernel_rfl
theorem bv_inj {x y : UInt8} (h : bv x = bv y) : x = y := by
  unfold bv at h
  exact UInt8.toNat_inj.1 (by omega)
theorem bv_beq (x y : UInt8) : (bv x == bv y) = decide (x = y) := by
  by_cases h : x = y
  · subst h; simp
  · rw [decide_eq_false h, beq_eq_false_iff_ne]
    exact fun e => h (bv_inj e)
theorem bV_get (l : List UInt8) (j : Nat) (h : j < l.length) : (l.map bV).toArray[j]? = some (.int .u8 (bv (l.getD j 0))) := by
  simp [bV, List.getD, List.getElem?_eq_getElem h]
theorem tmod_bd (x n : Int) (h : 1 ≤ n) : -n < x.tmod n ∧ x.tmod n < n := by
  have h1 := Int.tmod_lt_of_pos x (show 0 < n by omega)
  refine ⟨?_, h1⟩
  by_cases hx : 0 ≤ x
  · have := Int.tmod_nonneg n hx
    omega
  · have h2 := Int.tmod_lt_of_pos (-x) (show 0 < n by omega)
    rw [Int.neg_tmod] at h2
    omega
/-- A number brought into its bound. -/
def numb (x n : Int) : Int := if x.tmod n < 0 then x.tmod n + n else x.tmod n
theorem numb_bd (x n : Int) (h : 1 ≤ n) : 0 ≤ numb x n ∧ numb x n < n := by
  have := tmod_bd x n h
  unfold numb
  split <;> omega
theorem numb_nat (x : Int) (n : Nat) (h : 1 ≤ n) : ∃ r : Nat, numb x n = r ∧ r < n := by
  have := numb_bd x n (by omega)
  exact ⟨(numb x n).toNat, by omega, by omega⟩
/-- The slice v reads as the bytes bs. -/
def SrcB (w : World) (v : Value) (bs : List UInt8) : Prop :=
  (∃ sp cap, v = .slice sp 0 cap ∧ bs = []) ∨
  (0 < bs.length ∧ ∃ bb off cap, v = .slice (some ⟨bb, off, none⟩) bs.length cap ∧ bs.length ≤ cap ∧ ∀ j, j < bs.length → w.cell? ⟨bb, off + j, none⟩ = some (.int .u8 (bv (bs.getD j 0))))
theorem SrcB.block {w : World} {bs : List UInt8} {bb off : Nat} (h0 : 0 < bs.length) (h : ∀ j, j < bs.length → w.cell? ⟨bb, off + j, none⟩ = some (.int .u8 (bv (bs.getD j 0)))) : bb < w.heap.size :=
  World.block_lt_of_cell? w _ (h 0 h0)
theorem SrcB.below {w w' : World} {v : Value} {bs : List UInt8} (h : SrcB w v bs) (hb : Below w.heap.size w w') : SrcB w' v bs := by
  rcases h with h | ⟨h0, bb, off, cap, hv, hc, hs⟩
  · exact .inl h
  · exact .inr ⟨h0, bb, off, cap, hv, hc, fun j hj => by
      rw [hb.cell (p := ⟨bb, off + j, none⟩) (SrcB.block h0 hs)]
      exact hs j hj⟩
theorem SrcB.ne {w : World} {v : Value} {bs : List UInt8} (h : SrcB w v bs) {B : Nat} (hB : w.heap.size ≤ B) : ∀ sp n cap, v = .slice (some sp) n cap → 0 < n → sp.block ≠ B := by
  intro sp n cap hv hn e
  rcases h with ⟨sp', cap', hv', _⟩ | ⟨h0, bb, off, cap', hv', _, hs⟩
  · rw [hv] at hv'
    cases hv'
    omega
  · have := SrcB.block h0 hs
    rw [hv] at hv'
    cases hv'
    simp at e
    omega
theorem SrcB.le {w : World} {sp : Option Addr} {n cap : Nat} {bs : List UInt8} (h : SrcB w (.slice sp n cap) bs) : n = bs.length ∧ n ≤ cap := by
  rcases h with ⟨sp', cap', hv, rfl⟩ | ⟨h0, bb, off, cap', hv, hc, hs⟩
  · cases hv; exact ⟨rfl, Nat.zero_le _⟩
  · cases hv; exact ⟨rfl, hc⟩
theorem wp_region_below {P : Program} {id : Nat} {Q : Exit → Act → World → Prop} {a : Act} {w : World} {l : List Oper} (hm : P.follows .mixedOrders = true) (hB : Region.lexB .any l.toArray = true) (w0 : World) (hb : Below w0.heap.size w0 w)
    (h : wpQuiet P l.toArray (fun w' => Below w0.heap.size w0 w') (fun a' => ∀ w', Below w0.heap.size w0 w' → Q .normal a' w') l a) : (Code.region id l.toArray true).wp P Q a w :=
  wp_region_quiet (C := fun w' => Below w0.heap.size w0 w') hm hB hb.drew (by simpa using h)
theorem cls {P : Program} {f : FuncId} {args : Array Value} {w0 w : World} {v : Value} (hw : Below w0.heap.size w0 w) (h : Calls P f args w fun e w' => e = .returned v ∧ Below w.heap.size w w') :
    Calls P f args w fun e w' => e = .returned v ∧ Below w0.heap.size w0 w' := h.mono fun _ _ ⟨a, b⟩ => ⟨a, hw.trans (b.mono hw.size)⟩
theorem elem_of {P : Program} {t e : TypeId} (hu : P.underlying t = some (.slice e)) : P.elem t = e := by simp [Program.elem, hu]
theorem twice_setup {w w1 : World} {z : Array Value} {T : TypeId} (hb : Below (w.alloc (.cells z T)).heap.size (w.alloc (.cells z T)) w1) : Below w.heap.size w w1 ∧ w1.heap[w.heap.size]? = some (.cells z T (0, 0)) ∧ w.heap.size < w1.heap.size :=
  ⟨((Below.refl _ _).alloc (Nat.le_refl _) _).trans (hb.mono (by simp)), by rw [hb.block _ (by simp)]; exact heap_alloc_new _ _, by have := hb.size; simp at this; omega⟩
theorem src_row {w : World} {B m : Nat} {l : List UInt8} {T : TypeId} (hm : m = l.length) (h0 : 0 < m) (h : w.heap[B]? = some (.cells (l.map bV).toArray T (0, 0))) : SrcB w (.slice (some ⟨B, 0, none⟩) m m) l :=
  .inr ⟨by omega, B, 0, m, by rw [hm], by omega, fun j hj => by rw [Nat.zero_add, cell_of_row _ _ _ _ _ _ h, bV_get _ _ hj]⟩
/-- A block of bytes that has just been laid and filled. -/
theorem fill_setup {w w1 : World} (hb : Below w.heap.size w w1) (z cs : Array Value) (T : TypeId) : Below w.heap.size w ((w1.alloc (.cells z T)).setRow w1.heap.size cs)
    ∧ ((w1.alloc (.cells z T)).setRow w1.heap.size cs).heap[w1.heap.size]? = some (.cells cs T (0, 0)) ∧ ((w1.alloc (.cells z T)).setRow w1.heap.size cs).heap.size = w1.heap.size + 1
    ∧ Below w1.heap.size w1 ((w1.alloc (.cells z T)).setRow w1.heap.size cs) :=
  ⟨below_setRow (hb.alloc hb.size _) hb.size _, setRow_heap _ _ _ _ _ _ (heap_alloc_new _ _), by simp, below_setRow ((Below.refl _ _).alloc (Nat.le_refl _) _) (Nat.le_refl _) _⟩
theorem row_below {w w' : World} {g : Nat} {o : Obj} (h : w.heap[g]? = some o) (hb : Below w.heap.size w w') : w'.heap[g]? = some o := by
  rw [hb.block g (Array.getElem?_eq_some_iff.1 h).1]
  exact h
theorem quiet_load_row {P : Program} {C : World → Prop} {a : Act} {o : Oper} {K : Act → Prop} (ty : TypeId) (x : Operand) (ho : o.op = .load ty x) (g : Nat) (hx : a.eval x = .pointer (some ⟨g, 0, none⟩)) (t : TypeId) (cs : Array Value) (fr : Nat × Nat) (d : TypeDesc)
    (hg : ∀ w, C w → w.heap[g]? = some (.cells cs t fr)) (hu : P.underlying ty = some d) (hd : (match d with | .struct _ | .array _ _ => true | _ => false) = true) (hi : (P.info? ty).map (·.size) = some cs.size)
    (hk : K (a.put o.dst (.agg cs))) : o.quiet P a C K :=
  ⟨_, fun w hw => by
    unfold Oper.quietAt execOp
    simp only [ho, hx, Instr.loadAt, Instr.sureAddr, Sem.run_bind, Sem.run_pure, Result.andThen_ok, run_loadVar_row w g t ty cs fr d (hg w hw) hu hd hi]
    exact ⟨rfl, rfl⟩, hk⟩
theorem grownBy_below {w w4 : World} {g : Nat} {a b : World} (h : w.grownBy w4 (some g)) (hb : Below a.heap.size b w) (ha : a.heap.size ≤ g) (hs : a.heap.size ≤ w.heap.size) : Below a.heap.size b w4 :=
  hb.trans ⟨h.os, h.tape, h.output, h.size, fun k hk => h.block k (by omega) (fun e => by have := Option.some.inj e; omega)⟩
theorem own_shape {w : World} {base m : Nat} {v : Value} {xs : List Value} {e : TypeId} (h : w.ownsRow base e 1 v m xs) (h0 : 0 < m) : ∃ g cap, v = .slice (some ⟨g, 0, none⟩) m cap ∧ base ≤ g ∧ m ≤ cap := by
  rcases h.2 with ⟨_, e⟩ | ⟨g, cap, cur, hv, hb, _, hc, _⟩
  · omega
  · exact ⟨g, cap, hv, hb, hc⟩
section
variable {P : Program} {w : World} {ops : Array Oper} {rest : List Oper} {o : Oper} {a : Act} {Q : Exit → Act → World → Prop}
end
theorem quiet_run {P : Program} {C : World → Prop} {a : Act} {o : Oper} {K : Act → Prop} (v : Value) (h : ∀ w, (execOp a.eval o).run P w = .ok (.value v) w) (hk : K (a.put o.dst v)) : o.quiet P a C K :=
  ⟨v, fun w _ => by unfold Oper.quietAt; rw [h w]; exact ⟨rfl, rfl⟩, hk⟩
theorem SrcB.shape {w : World} {v : Value} {bs : List UInt8} (h : SrcB w v bs) : ∃ sp cap, v = .slice sp bs.length cap := by
  rcases h with ⟨sp, cap, rfl, rfl⟩ | ⟨_, bb, off, cap, rfl, _⟩
  · exact ⟨_, _, rfl⟩
  · exact ⟨_, _, rfl⟩
end Go.Proofs.YtlpdgjneoahdeaaDoor.Sha

/-
  Plain mathematics of chapter 2: a number's lowest bytes, the lowest first, what bytes are as a number, a number in the fewest bytes, sums of amounts. No program is imported. No conditions.
-/
namespace Go.Proofs.YtlpdgjneoahdeaaDoor.Sha
open Go
/-- The lowest k bytes of n, the lowest first. -/
def leB (n : Nat) : Nat → List UInt8
  | 0 => []
  | k + 1 => leB n k ++ [UInt8.ofNat (n / 256 ^ k)]
theorem leB_length (n : Nat) : ∀ k, (leB n k).length = k
  | 0 => rfl
  | k + 1 => by simp [leB, leB_length n k]
/-- What bytes are as a number. -/
def leN : List UInt8 → Nat
  | [] => 0
  | x :: l => x.toNat + 256 * leN l
/-- How many bytes Put writes. -/
def lenN (n : Nat) : Nat := if n < 253 then 1 else if n ≤ 65535 then 3 else if n ≤ 4294967295 then 5 else 9
/-- The number in the fewest bytes. -/
def putL (n : Nat) : List UInt8 := if n < 253 then [UInt8.ofNat n] else if n ≤ 65535 then 253 :: leB n 2 else if n ≤ 4294967295 then 254 :: leB n 4 else 255 :: leB n 8
theorem putL_length (n : Nat) : (putL n).length = lenN n := by
  unfold putL lenN
  split
  · rfl
  · split
    · simp [leB_length]
    · split <;> simp [leB_length]
theorem lenN_bd (n : Nat) : 1 ≤ lenN n ∧ lenN n ≤ 9 := by unfold lenN; split <;> (try split) <;> (try split) <;> omega
/-- The greatest sum of amounts. -/
def most : Nat := 2100000000000000
/-- All amounts added: how much, and whether that may be. -/
def sumL (l : List Nat) : Nat := if l.sum ≤ most then l.sum else 0
def sumIs (l : List Nat) : Bool := decide (l.sum ≤ most)
theorem sum_take_succ {l : List Nat} {k : Nat} (h : k < l.length) : (l.take (k + 1)).sum = (l.take k).sum + l.getD k 0 := by
  rw [List.take_succ_eq_append_getElem h, List.sum_append]
  simp [List.getD, List.getElem?_eq_getElem h]
theorem sum_take_le (l : List Nat) (k : Nat) : (l.take k).sum ≤ l.sum := by
  have e : l.sum = (l.take k).sum + (l.drop k).sum := by rw [← List.sum_append, List.take_append_drop]
  omega
theorem sum_over {l : List Nat} {k : Nat} (h : k < l.length) (h2 : most < (l.take k).sum + l.getD k 0) : ¬ l.sum ≤ most := by
  have := sum_take_le l (k + 1)
  rw [sum_take_succ h] at this
  omega
end Go.Proofs.YtlpdgjneoahdeaaDoor.Sha

/-
  Laws for walks: bytes that are read somewhere put behind an own row that has room, or that grows; slices that read as numbers of 64 bits. No conditions beyond those that each states.
-/
namespace Go.Proofs.YtlpdgjneoahdeaaDoor.Sha
open Go Go.RowKit
/-- What is new stays new when its own row grows. -/
theorem own_grown {B : Nat} {w0 w w' : World} {base size n : Nat} {e : TypeId} {v : Value} {xs : List Value} (hb : Below B w0 w) (hB : B ≤ base) (hs : B ≤ w.heap.size) (h : w.ownsRow base e size v n xs) (hg : w.grownBy w' v.ownBlock) : Below B w0 w' := by
  refine hb.grown hg hs ?_
  intro k hk
  rcases h.2 with ⟨rfl, _⟩ | ⟨g, cap, cur, rfl, hbg, _⟩
  · cases hk
  · simp [Value.ownBlock] at hk
    omega
theorem own_kept {w w' : World} {base n size : Nat} {e : TypeId} {v : Value} {xs : List Value} (h : w.ownsRow base e size v n xs) (hb : Below w.heap.size w w') : w'.ownsRow base e size v n xs := by
  refine h.kept (row := none) ⟨hb.os, hb.tape, hb.output, hb.size, fun k hk _ => hb.block k hk⟩ ?_
  cases hv : v.ownBlock with
  | none => exact .inl rfl
  | some b => exact .inr (by simp)
theorem own_base {w : World} {base base' n size : Nat} {e : TypeId} {v : Value} {xs : List Value} (h : w.ownsRow base e size v n xs) (hb : base' ≤ base) : w.ownsRow base' e size v n xs := by
  refine ⟨h.1, ?_⟩
  rcases h.2 with h' | ⟨g, cap, cur, hv, hbg, r⟩
  · exact .inl h'
  · exact .inr ⟨g, cap, cur, hv, Nat.le_trans hb hbg, r⟩
/-- The slice v reads as these numbers of 64 bits. -/
def SrcU (w : World) (v : Value) (l : List Nat) : Prop :=
  (∃ sp cap, v = .slice sp 0 cap ∧ l = []) ∨
  (0 < l.length ∧ ∃ bb off cap, v = .slice (some ⟨bb, off, none⟩) l.length cap ∧ l.length ≤ cap ∧ ∀ j, j < l.length → w.cell? ⟨bb, off + j, none⟩ = some (.int .u64 (l.getD j 0 : Nat)))
theorem SrcU.below {w w' : World} {v : Value} {l : List Nat} (h : SrcU w v l) (hb : Below w.heap.size w w') : SrcU w' v l := by
  rcases h with h | ⟨h0, bb, off, cap, hv, hc, hs⟩
  · exact .inl h
  · exact .inr ⟨h0, bb, off, cap, hv, hc, fun j hj => by
      rw [hb.cell (p := ⟨bb, off + j, none⟩) (World.block_lt_of_cell? w _ (hs j hj))]
      exact hs j hj⟩
theorem SrcU.len {w : World} {sp : Option Addr} {n cap : Nat} {l : List Nat} (h : SrcU w (.slice sp n cap) l) : n = l.length := by
  rcases h with ⟨sp', cap', hv, rfl⟩ | ⟨_, _, _, _, hv, _, _⟩
  · cases hv; rfl
  · cases hv; rfl
end Go.Proofs.YtlpdgjneoahdeaaDoor.Sha

/-
  How the statements' arguments read: a slice of bytes or numbers that came in; a start that fits. No conditions.
-/
namespace Go.Proofs.YtlpdgjneoahdeaaDoor.Sha
open Go Go.ChangeShapes Go.WideShapes Go.ChangeAt Go.RowKit
theorem own : ownKnob Tryd.prog.godebug = none := by kernel_rfl
theorem laidOut : laidOutB Tryd.prog = true := by kernel_rfl
/-- A slice of integers that came in. -/
def IsRow (k : IntKind) (w : World) (a : Option Addr) (len cap : Nat) (zs : List Int) : Prop :=
  (a = none ∧ len = 0 ∧ cap = 0 ∧ zs = []) ∨
  ∃ x, a = some x ∧ len ≤ cap ∧ cap ≤ maxLen ∧ zs.length = cap ∧ (∀ i, i < zs.length → w.cell? (x.add i) = some (.int k (zs.getD i 0))) ∧ ∀ n ∈ zs, (Lit.int k n).wf = true
theorem byte_of {z : Int} (h : (Lit.int .u8 z).wf = true) : bv (UInt8.ofNat z.toNat) = z := by
  have hb := bounds_u8 h
  unfold bv
  rw [UInt8.toNat_ofNat']
  omega
theorem src_of_row {w : World} {a : Option Addr} {len cap : Nat} {zs : List Int} (h : IsRow .u8 w a len cap zs) : ∃ bs, SrcB w (.slice a len cap) bs := by
  rcases h with ⟨rfl, rfl, rfl, rfl⟩ | ⟨x, rfl, hl, hm, hz, hc, hw⟩
  · exact ⟨[], .inl ⟨_, _, rfl, rfl⟩⟩
  · by_cases h0 : len = 0
    · subst h0
      exact ⟨[], .inl ⟨_, _, rfl, rfl⟩⟩
    · obtain ⟨b, off, rfl, hcell⟩ := ints_at hc (by omega)
      have hlen : ((zs.take len).map fun z => UInt8.ofNat z.toNat).length = len := by rw [List.length_map, List.length_take]; omega
      refine ⟨(zs.take len).map fun z => UInt8.ofNat z.toNat, .inr ⟨by omega, b, off, cap, by rw [hlen], by omega, fun j hj => ?_⟩⟩
      rw [hlen] at hj
      have hj2 : j < zs.length := by omega
      rw [hcell j hj2]
      have e1 : zs.getD j 0 = zs[j] := by simp [List.getD, List.getElem?_eq_getElem hj2]
      have e2 : ((zs.take len).map fun z => UInt8.ofNat z.toNat).getD j 0 = UInt8.ofNat (zs[j]).toNat := by
        simp only [List.getD, List.getElem?_map]
        rw [List.getElem?_take_of_lt hj, List.getElem?_eq_getElem hj2]
        rfl
      rw [e1, e2, byte_of (hw _ (List.getElem_mem hj2))]
theorem IsRow.len {k : IntKind} {w : World} {a : Option Addr} {len cap : Nat} {zs : List Int} (h : IsRow k w a len cap zs) : len ≤ 9223372036854775807 := by
  rcases h with ⟨rfl, rfl, rfl, rfl⟩ | ⟨x, rfl, hl, hm, _⟩
  · omega
  · unfold maxLen at hm; omega
theorem srcU_of_row {w : World} {a : Option Addr} {len cap : Nat} {zs : List Int} (h : IsRow .u64 w a len cap zs) : ∃ l, SrcU w (.slice a len cap) l ∧ ∀ j, l.getD j 0 ≤ 18446744073709551615 := by
  rcases h with ⟨rfl, rfl, rfl, rfl⟩ | ⟨x, rfl, hl, hm, hz, hc, hw⟩
  · exact ⟨[], .inl ⟨_, _, rfl, rfl⟩, fun j => by simp⟩
  · by_cases h0 : len = 0
    · subst h0
      exact ⟨[], .inl ⟨_, _, rfl, rfl⟩, fun j => by simp⟩
    · obtain ⟨b, off, rfl, hcell⟩ := ints_at hc (by omega)
      have hlen : ((zs.take len).map fun z => z.toNat).length = len := by rw [List.length_map, List.length_take]; omega
      have get (j : Nat) (hj : j < len) : (((((zs.take len).map fun z => z.toNat).getD j 0 : Nat)) : Int) = zs.getD j 0 ∧ ((zs.take len).map fun z => z.toNat).getD j 0 ≤ 18446744073709551615 := by
        have hj2 : j < zs.length := by omega
        have e1 : zs.getD j 0 = zs[j] := by simp [List.getD, List.getElem?_eq_getElem hj2]
        have e2 : ((zs.take len).map fun z => z.toNat).getD j 0 = (zs[j]).toNat := by
          simp only [List.getD, List.getElem?_map]
          rw [List.getElem?_take_of_lt hj, List.getElem?_eq_getElem hj2]
          rfl
        have := bounds_u64 (hw _ (List.getElem_mem hj2))
        rw [e1, e2]
        omega
      refine ⟨(zs.take len).map fun z => z.toNat, .inr ⟨by omega, b, off, cap, by rw [hlen], by omega, fun j hj => ?_⟩, fun j => ?_⟩
      · rw [hlen] at hj
        rw [hcell j (by omega), (get j hj).1]
      · by_cases hj : j < len
        · exact (get j hj).2
        · rw [List.getD, List.getElem?_eq_none (by rw [hlen]; omega)]
          simp
end Go.Proofs.YtlpdgjneoahdeaaDoor.Sha

/-
  compact.number answers what bytes are as a number, the lowest first; widthBehind how many bytes stand behind a first one; bytes.Clone copies; nothing that was there turns. Conditions: at most eight bytes (number); the bytes lie where the slice says.
-/
namespace Go.Proofs.YtlpdgjneoahdeaaDoor.Sha
open Go Go.RowKit
/-- How many bytes stand behind a first one. -/
def widN (n : Nat) : Nat := if n = 253 then 2 else if n = 254 then 4 else if n = 255 then 8 else 0
/-- A copy in memory that is new, or none. -/
def CopyB (w w' : World) (v : Value) (bs : List UInt8) : Prop := w'.ownsRow w.heap.size 5 1 v bs.length (bs.map bV) ∧ Below w.heap.size w w'
end Go.Proofs.YtlpdgjneoahdeaaDoor.Sha

/-
  compact.Read makes a Reader on a copy of the bytes; its inner call takes so many bytes, or tells that there are too few; Left and Err tell what is left and the first error. Conditions: the Reader stands as it should; the three errors are there.
-/
namespace Go.Proofs.YtlpdgjneoahdeaaDoor.Sha
open Go Go.RowKit
/-- The error number 100 + c of package api; none at 0. -/
def errV (E : Nat → Addr) : Nat → Value
  | 0 => .nilIface
  | i + 1 => .iface 114 (.pointer (some (E i)))
/-- The three errors that a Reader answers are there. -/
def Er (w : World) (E : Nat → Addr) : Prop :=
  w.cell? ⟨5, 0, none⟩ = some (errV E 1) ∧ w.cell? ⟨0, 0, none⟩ = some (errV E 2) ∧ w.cell? ⟨7, 0, none⟩ = some (errV E 4)
theorem Er.below {w w' : World} {E : Nat → Addr} (h : Er w E) (hb : Below w.heap.size w w') : Er w' E := by
  obtain ⟨a, b, c⟩ := h
  exact ⟨by rw [hb.cell (p := ⟨5, 0, none⟩) (World.block_lt_of_cell? w _ a)]; exact a, by rw [hb.cell (p := ⟨0, 0, none⟩) (World.block_lt_of_cell? w _ b)]; exact b, by rw [hb.cell (p := ⟨7, 0, none⟩) (World.block_lt_of_cell? w _ c)]; exact c⟩
/-- What lies behind a slice lies in this block. -/
def AtB (v : Value) (m : Nat) : Prop := ∀ sp n cap, v = .slice (some sp) n cap → 0 < n → sp.block = m
theorem SrcB.grown {w w' : World} {v : Value} {bs : List UInt8} {m r : Nat} (h : SrcB w v bs) (ha : AtB v m) (hm : m ≠ r) (hg : w.grownBy w' (some r)) : SrcB w' v bs := by
  rcases h with h | ⟨h0, bb, off, cap, hv, hc, hs⟩
  · exact .inl h
  · refine .inr ⟨h0, bb, off, cap, hv, hc, fun j hj => hg.cell (hs j hj) (fun e => ?_)⟩
    have e1 := ha ⟨bb, off, none⟩ _ _ hv h0
    have e2 := Option.some.inj e
    exact hm (by rw [← e1, ← e2])
/-- Taking k bytes: what is taken, what is left, the error. -/
def takeL (k : Nat) (bs : List UInt8) (c : Nat) : List UInt8 × List UInt8 × Nat := if c ≠ 0 then ([], bs, c) else if bs.length < k then ([], bs, 1) else (bs.take k, bs.drop k, 0)
section
variable {P : Program} {w : World} {ops : Array Oper} {rest : List Oper} {o : Oper} {a : Act} {Q : Exit → Act → World → Prop}
end
end Go.Proofs.YtlpdgjneoahdeaaDoor.Sha

/-
  The statements' own sight of errors: package api's errors are told apart; an error as plain data; whether an error is the one of a number. Conditions: the errors are there, each its own.
-/
namespace Go.Proofs.YtlpdgjneoahdeaaDoor.Sha
open Go Go.RowKit
/-- Where package api's errors stand, in their order. -/
def errG : List Nat := [5, 0, 6, 7, 2, 8, 9, 10, 11, 12, 13, 14, 15, 1, 16, 17, 3, 18, 19, 20, 21, 4, 22, 23, 24]
/-- All errors of package api are there, each its own. -/
def Errs (w : World) (E : Nat → Addr) : Prop :=
  (∀ i, i < 25 → w.cell? ⟨errG.getD i 0, 0, none⟩ = some (errV E (i + 1)) ∧ ∃ c t, w.heap[(E i).block]? = some (.cells c t (0, 0))) ∧ ∀ i j, i < 25 → j < 25 → E i = E j → i = j
theorem Errs.below {w w' : World} {E : Nat → Addr} (h : Errs w E) (hb : Below w.heap.size w w') : Errs w' E := by
  refine ⟨fun i hi => ?_, h.2⟩
  obtain ⟨h1, c, t, h2⟩ := h.1 i hi
  refine ⟨?_, c, t, ?_⟩
  · rw [hb.cell (p := ⟨errG.getD i 0, 0, none⟩) (World.block_lt_of_cell? w _ h1)]
    exact h1
  · rw [hb.block _ (Array.getElem?_eq_some_iff.1 h2).1]
    exact h2
theorem Er.lt {w : World} {E : Nat → Addr} {r : Nat} (h : Er w E) (hr : w.heap.size ≤ r) : 5 ≠ r ∧ 0 ≠ r ∧ 7 ≠ r := by
  have h1 : 5 < w.heap.size := World.block_lt_of_cell? w _ h.1
  have h2 : 0 < w.heap.size := World.block_lt_of_cell? w _ h.2.1
  have h3 : 7 < w.heap.size := World.block_lt_of_cell? w _ h.2.2
  exact ⟨by omega, by omega, by omega⟩
theorem info_err : (Tryd.prog.info? 114).map (·.comparable) = some true := by kernel_rfl
theorem eql_same (a : Addr) (W : World) : (binOp .eql 37 (.iface 114 (.pointer (some a))) (.iface 114 (.pointer (some a)))).run Tryd.prog W = .ok (.bool true) W := by
  obtain ⟨i, hi, hc⟩ := Option.map_eq_some_iff.1 info_err
  obtain ⟨j, hj, hs⟩ := Option.map_eq_some_iff.1 (show (Tryd.prog.info? 132).map (·.size) = some 1 by kernel_rfl)
  exact run_eql_iface_ptr_same W a Tryd.underlying37 Tryd.underlying114 hi hc hj
theorem eql_other {a b : Addr} {W : World} (hne : a ≠ b) (ha : ∃ c t, W.heap[a.block]? = some (.cells c t (0, 0))) (hb : ∃ c t, W.heap[b.block]? = some (.cells c t (0, 0))) :
    (binOp .eql 37 (.iface 114 (.pointer (some a))) (.iface 114 (.pointer (some b)))).run Tryd.prog W = .ok (.bool false) W := by
  obtain ⟨i, hi, hc⟩ := Option.map_eq_some_iff.1 info_err
  obtain ⟨j, hj, hs⟩ := Option.map_eq_some_iff.1 (show (Tryd.prog.info? 132).map (·.size) = some 1 by kernel_rfl)
  obtain ⟨ca, ta, ha⟩ := ha
  obtain ⟨cb, tb, hb⟩ := hb
  exact run_eql_iface_ptr_other W Tryd.underlying37 Tryd.underlying114 hi hc hj (by omega) hne ha hb
set_option maxRecDepth 100000 in
/-- Two of the errors: the same only if they are one. -/
theorem alike_err (E : Nat → Addr) (i j : Nat) (b : Bool) (w : World) (hE : Errs w E) (hi : i < 25) (hj : j < 25) (hb : b = decide (i = j)) :
    Calls Tryd.prog 43 #[errV E (i + 1), errV E (j + 1)] w fun e w' => e = .returned (.bool b) ∧ w = w' := by
  have hq : (binOp .eql 37 (.iface 114 (.pointer (some (E i)))) (.iface 114 (.pointer (some (E j))))).run Tryd.prog w = .ok (.bool b) w := by
    by_cases h : i = j
    · subst h
      rw [hb, decide_eq_true rfl]
      exact eql_same _ _
    · rw [hb, decide_eq_false h]
      exact eql_other (fun e => h (hE.2 i j hi hj e)) (hE.1 i hi).2 (hE.1 j hj).2
  show Calls Tryd.prog 43 #[.iface 114 (.pointer (some (E i))), .iface 114 (.pointer (some (E j)))] w _
  obtain ⟨a1, h1⟩ : ∃ a1, a1 = E i := ⟨_, rfl⟩
  obtain ⟨a2, h2⟩ : ∃ a2, a2 = E j := ⟨_, rfl⟩
  rw [← h1, ← h2] at hq ⊢
  clear h1 h2 hE hi hj hb
  go_enter Tryd.func43, Tryd.ntmps43
  go_wp2
  go_ret
  exact ⟨rfl, rfl⟩
/-- The list of the errors. -/
def errL (E : Nat → Addr) : List Value := [.iface 114 (.pointer (some (E 0))), .iface 114 (.pointer (some (E 1))), .iface 114 (.pointer (some (E 2))), .iface 114 (.pointer (some (E 3))), .iface 114 (.pointer (some (E 4))), .iface 114 (.pointer (some (E 5))), .iface 114 (.pointer (some (E 6))), .iface 114 (.pointer (some (E 7))), .iface 114 (.pointer (some (E 8))), .iface 114 (.pointer (some (E 9))), .iface 114 (.pointer (some (E 10))), .iface 114 (.pointer (some (E 11))), .iface 114 (.pointer (some (E 12))), .iface 114 (.pointer (some (E 13))), .iface 114 (.pointer (some (E 14))), .iface 114 (.pointer (some (E 15))), .iface 114 (.pointer (some (E 16))), .iface 114 (.pointer (some (E 17))), .iface 114 (.pointer (some (E 18))), .iface 114 (.pointer (some (E 19))), .iface 114 (.pointer (some (E 20))), .iface 114 (.pointer (some (E 21))), .iface 114 (.pointer (some (E 22))), .iface 114 (.pointer (some (E 23))), .iface 114 (.pointer (some (E 24)))]
theorem errL_get (E : Nat → Addr) : ∀ i, i < 25 → (errL E).toArray[i]? = some (errV E (i + 1)) := by
  intro i hi
  have h : i = 0 ∨ i = 1 ∨ i = 2 ∨ i = 3 ∨ i = 4 ∨ i = 5 ∨ i = 6 ∨ i = 7 ∨ i = 8 ∨ i = 9 ∨ i = 10 ∨ i = 11 ∨ i = 12 ∨ i = 13 ∨ i = 14 ∨ i = 15 ∨ i = 16 ∨ i = 17 ∨ i = 18 ∨ i = 19 ∨ i = 20 ∨ i = 21 ∨ i = 22 ∨ i = 23 ∨ i = 24 := by omega
  rcases h with rfl | rfl | rfl | rfl | rfl | rfl | rfl | rfl | rfl | rfl | rfl | rfl | rfl | rfl | rfl | rfl | rfl | rfl | rfl | rfl | rfl | rfl | rfl | rfl | rfl <;> rfl
set_option maxRecDepth 100000 in
set_option maxHeartbeats 1000000 in
theorem sentinels_any (E : Nat → Addr) (w : World) (hE : Errs w E) :
    Calls Tryd.prog 42 #[] w fun e w' => e = .returned (.slice (some ⟨w.heap.size, 0, none⟩) 25 25) ∧ w'.heap[w.heap.size]? = some (.cells (errL E).toArray 37 (0, 0)) ∧ Below w.heap.size w w' := by
  have c0 : w.cell? ⟨5, 0, none⟩ = some (.iface 114 (.pointer (some (E 0)))) := (hE.1 0 (by omega)).1
  have c1 : w.cell? ⟨0, 0, none⟩ = some (.iface 114 (.pointer (some (E 1)))) := (hE.1 1 (by omega)).1
  have c2 : w.cell? ⟨6, 0, none⟩ = some (.iface 114 (.pointer (some (E 2)))) := (hE.1 2 (by omega)).1
  have c3 : w.cell? ⟨7, 0, none⟩ = some (.iface 114 (.pointer (some (E 3)))) := (hE.1 3 (by omega)).1
  have c4 : w.cell? ⟨2, 0, none⟩ = some (.iface 114 (.pointer (some (E 4)))) := (hE.1 4 (by omega)).1
  have c5 : w.cell? ⟨8, 0, none⟩ = some (.iface 114 (.pointer (some (E 5)))) := (hE.1 5 (by omega)).1
  have c6 : w.cell? ⟨9, 0, none⟩ = some (.iface 114 (.pointer (some (E 6)))) := (hE.1 6 (by omega)).1
  have c7 : w.cell? ⟨10, 0, none⟩ = some (.iface 114 (.pointer (some (E 7)))) := (hE.1 7 (by omega)).1
  have c8 : w.cell? ⟨11, 0, none⟩ = some (.iface 114 (.pointer (some (E 8)))) := (hE.1 8 (by omega)).1
  have c9 : w.cell? ⟨12, 0, none⟩ = some (.iface 114 (.pointer (some (E 9)))) := (hE.1 9 (by omega)).1
  have c10 : w.cell? ⟨13, 0, none⟩ = some (.iface 114 (.pointer (some (E 10)))) := (hE.1 10 (by omega)).1
  have c11 : w.cell? ⟨14, 0, none⟩ = some (.iface 114 (.pointer (some (E 11)))) := (hE.1 11 (by omega)).1
  have c12 : w.cell? ⟨15, 0, none⟩ = some (.iface 114 (.pointer (some (E 12)))) := (hE.1 12 (by omega)).1
  have c13 : w.cell? ⟨1, 0, none⟩ = some (.iface 114 (.pointer (some (E 13)))) := (hE.1 13 (by omega)).1
  have c14 : w.cell? ⟨16, 0, none⟩ = some (.iface 114 (.pointer (some (E 14)))) := (hE.1 14 (by omega)).1
  have c15 : w.cell? ⟨17, 0, none⟩ = some (.iface 114 (.pointer (some (E 15)))) := (hE.1 15 (by omega)).1
  have c16 : w.cell? ⟨3, 0, none⟩ = some (.iface 114 (.pointer (some (E 16)))) := (hE.1 16 (by omega)).1
  have c17 : w.cell? ⟨18, 0, none⟩ = some (.iface 114 (.pointer (some (E 17)))) := (hE.1 17 (by omega)).1
  have c18 : w.cell? ⟨19, 0, none⟩ = some (.iface 114 (.pointer (some (E 18)))) := (hE.1 18 (by omega)).1
  have c19 : w.cell? ⟨20, 0, none⟩ = some (.iface 114 (.pointer (some (E 19)))) := (hE.1 19 (by omega)).1
  have c20 : w.cell? ⟨21, 0, none⟩ = some (.iface 114 (.pointer (some (E 20)))) := (hE.1 20 (by omega)).1
  have c21 : w.cell? ⟨4, 0, none⟩ = some (.iface 114 (.pointer (some (E 21)))) := (hE.1 21 (by omega)).1
  have c22 : w.cell? ⟨22, 0, none⟩ = some (.iface 114 (.pointer (some (E 22)))) := (hE.1 22 (by omega)).1
  have c23 : w.cell? ⟨23, 0, none⟩ = some (.iface 114 (.pointer (some (E 23)))) := (hE.1 23 (by omega)).1
  have c24 : w.cell? ⟨24, 0, none⟩ = some (.iface 114 (.pointer (some (E 24)))) := (hE.1 24 (by omega)).1
  clear hE
  go_enter Tryd.func42, Tryd.ntmps42
  go_wp2
  go_ret
  exact ⟨rfl, by rw [heap_alloc_new]; rfl, (Below.refl _ _).alloc (Nat.le_refl _) _⟩
def SnInv (E : Nat → Addr) (q : Nat) (w : World) (vi : Value) (wr : World) : Prop := ∃ k : Nat, k ≤ q ∧ vi = .int .i64 k ∧ wr.heap[w.heap.size]? = some (.cells (errL E).toArray 37 (0, 0)) ∧ Below w.heap.size w wr
set_option maxRecDepth 100000 in
/-- The number of an error. -/
theorem sentinel_any (E : Nat → Addr) (q : Nat) (kk : Int) (hkk : kk = ((101 + q : Nat) : Int)) (w : World) (hE : Errs w E) (hq : q < 25) :
    Calls Tryd.prog 39 #[errV E (q + 1)] w fun e w' => e = .returned (.int .i64 kk) ∧ Below w.heap.size w w' := by
  have HE := Lib.hid hE
  have HKK := Lib.hid hkk
  clear hE hkk
  show Calls Tryd.prog 39 #[.iface 114 (.pointer (some (E q)))] w _
  go_enter Tryd.func39, Tryd.ntmps39
  go_wp2_with fail
  refine (sentinels_any E _ HE.out).mono ?_
  rintro e w1 ⟨rfl, h1, hb1⟩
  have H1 := Lib.hid h1
  have B1 := Lib.hid hb1
  clear h1 hb1
  go_wp2_with fail
  go_loopw [4] (fun vi wr => SnInv E q w vi wr) (fun vi _ => 25 - (intOf vi).toNat)
  case atStart => exact ⟨0, by omega, rfl, H1.out, B1.out⟩
  case round =>
    clear H1 B1
    obtain ⟨k, hk, rfl, h1, hb⟩ := hrel
    have ck : wr.cell? ⟨w.heap.size, k, none⟩ = some (errV E (k + 1)) := by rw [cell_of_row _ _ _ _ _ _ h1]; exact errL_get E k (by omega)
    have H1 := Lib.hid h1
    have HB := Lib.hid hb
    clear h1 hb
    have hlt : (k : Int) < 25 := by omega
    by_cases hkq : k = q
    · have hb : true = decide (q = k) := (decide_eq_true hkq.symm).symm
      have HA := Lib.hid (alike_err E q k true wr (HE.out.below HB.out) hq (by omega) hb)
      have HQ : Hid (101 + (k : Int) = kk) := by show _ = _; rw [HKK.out]; omega
      clear hkq hb
      go_wp2_with fail
      refine HA.out.mono ?_
      rintro e w' ⟨rfl, rfl⟩
      go_wp2_with fail
      go_ret
      exact ⟨ret_int HQ.out, HB.out⟩
    · have hb : false = decide (q = k) := (decide_eq_false (fun e => hkq e.symm)).symm
      have HA := Lib.hid (alike_err E q k false wr (HE.out.below HB.out) hq (by omega) hb)
      have hk2 : k + 1 ≤ q := by omega
      clear hkq hb
      go_wp2_with fail
      refine HA.out.mono ?_
      rintro e w' ⟨rfl, rfl⟩
      go_wp2_with fail
      go_roundw
      case rel => exact ⟨k + 1, hk2, by go_num, H1.out, HB.out⟩
      case measure => simp [intOf]; omega
end Go.Proofs.YtlpdgjneoahdeaaDoor.Sha

/-
  What a row that lists 25 errors of package api gives: each is there, each its own; a start that fits. No conditions.
-/
namespace Go.Proofs.YtlpdgjneoahdeaaDoor.Sha
open Go Go.ChangeShapes Go.WideShapes Go.ChangeAt Go.RowKit
/-- The listed errors: name, place, text. -/
def errVlrList : List (String × Nat × List UInt8) := [("sargasso/api.ErrEnd", 5, [105, 116, 32, 101, 110, 100, 115, 32, 116, 111, 111, 32, 101, 97, 114, 108, 121]), ("sargasso/api.ErrShape", 0, [110, 111, 116, 32, 97, 115, 32, 105, 116, 32, 104, 97, 115, 32, 116, 111, 32, 98, 101]), ("sargasso/api.ErrLong", 6, [116, 111, 111, 32, 108, 111, 110, 103]), ("sargasso/api.ErrMany", 7, [116, 111, 111, 32, 109, 97, 110, 121, 44, 32, 111, 114, 32, 116, 111, 111, 32, 102, 101, 119]), ("sargasso/api.ErrValue", 2, [97, 110, 32, 97, 109, 111, 117, 110, 116, 32, 116, 104, 97, 116, 32, 99, 97, 110, 39, 116, 32, 98, 101]), ("sargasso/api.ErrTwice", 8, [111, 110, 101, 32, 116, 104, 105, 110, 103, 32, 116, 119, 105, 99, 101]), ("sargasso/api.ErrBase", 9, [110, 111, 32, 102, 105, 114, 115, 116, 32, 116, 114, 97, 110, 115, 97, 99, 116, 105, 111, 110, 32, 119, 104, 101, 114, 101, 32, 116, 104, 101, 114, 101, 32, 104, 97, 115, 32, 116, 111, 32, 98, 101, 32, 111, 110, 101, 44, 32, 111, 114, 32, 111, 110, 101, 32, 119, 104, 101, 114, 101, 32, 116, 104, 101, 114, 101, 32, 109, 97, 121, 32, 98, 101, 32, 110, 111, 110, 101]), ("sargasso/api.ErrRoot", 10, [97, 32, 114, 111, 111, 116, 32, 116, 104, 97, 116, 32, 100, 111, 101, 115, 32, 110, 111, 116, 32, 102, 105, 116]), ("sargasso/api.ErrKnown", 11, [107, 110, 111, 119, 110, 32, 97, 108, 114, 101, 97, 100, 121]), ("sargasso/api.ErrParent", 12, [110, 111, 32, 115, 117, 99, 104, 32, 112, 97, 114, 101, 110, 116]), ("sargasso/api.ErrInvalid", 13, [98, 101, 104, 105, 110, 100, 32, 119, 104, 97, 116, 32, 105, 115, 32, 110, 111, 116, 32, 118, 97, 108, 105, 100]), ("sargasso/api.ErrTime", 14, [97, 32, 116, 105, 109, 101, 32, 116, 104, 97, 116, 32, 105, 115, 32, 116, 111, 111, 32, 101, 97, 114, 108, 121]), ("sargasso/api.ErrMissing", 15, [97, 32, 99, 111, 105, 110, 32, 116, 104, 97, 116, 32, 105, 115, 32, 110, 111, 116, 32, 116, 104, 101, 114, 101]), ("sargasso/api.ErrKey", 1, [97, 32, 107, 101, 121, 32, 116, 104, 97, 116, 32, 100, 111, 101, 115, 32, 110, 111, 116, 32, 102, 105, 116]), ("sargasso/api.ErrYoung", 16, [97, 32, 99, 111, 105, 110, 32, 116, 104, 97, 116, 32, 105, 115, 32, 116, 111, 111, 32, 121, 111, 117, 110, 103]), ("sargasso/api.ErrEarly", 17, [116, 111, 111, 32, 101, 97, 114, 108, 121, 32, 116, 111, 32, 98, 101, 32, 116, 97, 107, 101, 110]), ("sargasso/api.ErrLess", 3, [108, 101, 115, 115, 32, 99, 111, 109, 101, 115, 32, 105, 110, 32, 116, 104, 97, 110, 32, 103, 111, 101, 115, 32, 111, 117, 116]), ("sargasso/api.ErrReward", 18, [109, 111, 114, 101, 32, 116, 104, 97, 110, 32, 116, 104, 101, 32, 114, 101, 119, 97, 114, 100]), ("sargasso/api.ErrClash", 19, [97, 32, 99, 111, 105, 110, 32, 116, 104, 97, 116, 32, 105, 115, 32, 115, 112, 101, 110, 116, 32, 105, 110, 32, 116, 104, 101, 32, 112, 111, 111, 108]), ("sargasso/api.ErrLimit", 20, [116, 111, 111, 32, 109, 97, 110, 121, 32, 116, 104, 97, 116, 32, 104, 97, 110, 103, 32, 116, 111, 103, 101, 116, 104, 101, 114]), ("sargasso/api.ErrFull", 21, [116, 104, 101, 114, 101, 32, 105, 115, 32, 110, 111, 32, 114, 111, 111, 109]), ("sargasso/api.ErrRange", 4, [97, 32, 110, 117, 109, 98, 101, 114, 32, 111, 117, 116, 32, 111, 102, 32, 105, 116, 115, 32, 114, 97, 110, 103, 101]), ("sargasso/api.ErrNone", 22, [116, 104, 101, 114, 101, 32, 105, 115, 32, 110, 111, 110, 101]), ("sargasso/api.ErrWord", 23, [110, 111, 32, 115, 117, 99, 104, 32, 119, 111, 114, 100]), ("sargasso/api.ErrNumber", 24, [110, 111, 116, 32, 97, 32, 110, 117, 109, 98, 101, 114])]
def errVlrRow (x : String × Nat × List UInt8) : String × DataW Unit := (x.1, .iface "*errors.errorString" (.ptr (.agg [.lit (.string x.2.2)])))
theorem errVlr_globals : (errVlrList.all fun x => decide (Tryd.prog.globalNamed x.1 = some x.2.1) && decide ((Tryd.prog.globals[x.2.1]?).map (·.type) = some 37)) = true := by kernel_rfl
theorem errVlr_star : "*" ++ "errors.errorString" = "*errors.errorString" := by decide
theorem errVlr_ptr (u : TypeId) (h : Tryd.prog.typeName? 3 u = some "*errors.errorString") : u = 114 :=
  typeName_ptr_named (nm := "errors.errorString") (by rw [errVlr_star]; kernel_rfl) (by kernel_rfl) (by decide) u (by rw [errVlr_star]; exact h)
theorem errVlr_cells : Tryd.prog.cellsOf 132 = 1 := by kernel_rfl
theorem errVlr_cellsStr : Tryd.prog.cellsOf 9 = 1 := by kernel_rfl
def errVlrIs (W : World) (x : String × Nat × List UInt8) (a : Addr) : Prop :=
  W.cell? ⟨x.2.1, 0, none⟩ = some (.iface 114 (.pointer (some a))) ∧ (∃ s, W.cell? a = some (.string s) ∧ s.data.toList = x.2.2) ∧ ∃ c t, W.heap[a.block]? = some (.cells c t (0, 0))
set_option maxRecDepth 100000 in
theorem errVlr_head {W : World} {x : String × Nat × List UInt8} {r : List (String × DataW Unit)} (hg : Tryd.prog.globalNamed x.1 = some x.2.1) (ht : (Tryd.prog.globals[x.2.1]?).map (·.type) = some 37) (h : laidMet Tryd.prog (errVlrRow x :: r) W) : ∃ a, errVlrIs W x a := by
  obtain ⟨a, s, h1, h2, h3, _⟩ := laid_sentinel h hg ht Tryd.underlying37 errVlr_ptr Tryd.underlying114 Tryd.underlying132 rfl rfl Tryd.underlying9 errVlr_cells errVlr_cellsStr
  refine ⟨a, by simpa using World.var?_cell hg h1 0, ⟨s, h2, h3⟩, ?_⟩
  obtain ⟨ps, ⟨g0, t0, cs0, f0, p0, q0, hg0, ht0, hv0, hd0, _, e0⟩, _, hrows⟩ := h
  obtain rfl := Option.some.inj (hg.symm.trans hg0)
  obtain rfl := Option.some.inj (ht.symm.trans ht0)
  subst e0
  obtain ⟨l0⟩ := cs0
  have ok0 : ∀ u v, l0 = [.iface u v] → Value.okWide Tryd.prog W .any 0 u v := fun u v e => by
    subst e
    exact (hrows x.2.1 0 (by simp [MemPlace.row])).2 u v (by simpa using World.var?_cell hg hv0 0)
  obtain ⟨a0, s0, rfl, hc0, hs0, hz0, rfl⟩ := errorString_of_trod Tryd.underlying37 errVlr_ptr Tryd.underlying114 Tryd.underlying132 rfl rfl Tryd.underlying9 errVlr_cells errVlr_cellsStr hd0 ok0
  have ea : a0 = a := by
    have := h1.symm.trans hv0
    simp at this
    exact this.symm
  rw [← ea]
  exact (hrows a0.block a0.off (by simp [MemPlace.row])).1
theorem errVlr_all {W : World} (rest : List (String × DataW Unit)) : ∀ l : List (String × Nat × List UInt8), (∀ x ∈ l, Tryd.prog.globalNamed x.1 = some x.2.1 ∧ (Tryd.prog.globals[x.2.1]?).map (·.type) = some 37) → laidMet Tryd.prog (l.map errVlrRow ++ rest) W → (∃ E : Nat → Addr, ∀ i x, l[i]? = some x → errVlrIs W x (E i)) ∧ laidMet Tryd.prog rest W
  | [], _, h => ⟨⟨fun _ => ⟨0, 0, none⟩, fun i x h => by simp at h⟩, h⟩
  | x :: l, hg, h => by
    obtain ⟨⟨E, hE⟩, hrest⟩ := errVlr_all rest l (fun y hy => hg y (List.mem_cons_of_mem _ hy)) (laidMet.tail h)
    obtain ⟨a, ha⟩ := errVlr_head (hg x List.mem_cons_self).1 (hg x List.mem_cons_self).2 h
    refine ⟨⟨fun i => match i with | 0 => a | k + 1 => E k, fun i y hy => ?_⟩, hrest⟩
    cases i with
    | zero => simp at hy; subst hy; exact ha
    | succ k => exact hE k y (by simpa using hy)
theorem errVlr_inj : ∀ i j : Fin 25, (errVlrList.map (·.2.2)).getD i.val [] = (errVlrList.map (·.2.2)).getD j.val [] → i = j := by decide +kernel
set_option maxRecDepth 100000 in
theorem errVlr_errs {W : World} (h : laidMetH Tryd.prog Rows.valueRulesRow.laid W) : ∃ E, Errs W E := by
  have h' : laidMet Tryd.prog (errVlrList.map errVlrRow ++ []) W := h
  obtain ⟨⟨E, hE⟩, _⟩ := errVlr_all _ errVlrList (fun x hx => by
    have := List.all_eq_true.1 errVlr_globals x hx
    simp only [Bool.and_eq_true, decide_eq_true_eq] at this
    exact this) h'
  have hl : errVlrList.length = 25 := rfl
  have get : ∀ i (hi : i < 25), errVlrIs W (errVlrList[i]'(by rw [hl]; exact hi)) (E i) := fun i hi => hE i _ (List.getElem?_eq_getElem (by rw [hl]; exact hi))
  refine ⟨E, fun i hi => ?_, fun i j hi hj e => ?_⟩
  · obtain ⟨h1, _, h3⟩ := get i hi
    refine ⟨?_, h3⟩
    have eg : errG.getD i 0 = (errVlrList[i]'(by rw [hl]; exact hi)).2.1 := by
      have : errG = errVlrList.map (·.2.1) := rfl
      rw [this]
      simp [List.getD, List.getElem?_eq_getElem (show i < errVlrList.length by rw [hl]; exact hi)]
    rw [eg]
    exact h1
  · obtain ⟨_, ⟨s, hs, ht⟩, _⟩ := get i hi
    obtain ⟨_, ⟨s', hs', ht'⟩, _⟩ := get j hj
    rw [e] at hs
    have es := Option.some.inj (hs.symm.trans hs')
    simp at es
    rw [es] at ht
    have := errVlr_inj ⟨i, hi⟩ ⟨j, hj⟩ (by
      simp only [List.getD, List.getElem?_map]
      rw [List.getElem?_eq_getElem (show i < errVlrList.length by rw [hl]; exact hi), List.getElem?_eq_getElem (show j < errVlrList.length by rw [hl]; exact hj)]
      exact ht.symm.trans ht')
    exact congrArg Fin.val this
/-- A WORLD FOR THE WITNESS: the settled one, each listed error as its initialiser lays it. -/
noncomputable def errVlrLow : Nat := (World.holding Tryd.prog default ⟨#[], #[], []⟩).heap.size
noncomputable def errVlrWorld (os : Os) : World :=
  let w0 := World.holding Tryd.prog os ⟨(errVlrList.map fun x => Obj.cells #[.string ⟨x.2.2.toArray⟩] 132).toArray, #[], []⟩
  { w0 with heap := (errVlrList.zipIdx).foldl (fun h x => h.modify x.1.2.1 fun
      | .cells _ t frozen => .cells #[.iface 114 (.pointer (some ⟨errVlrLow + x.2, 0, none⟩))] t frozen
      | o => o) w0.heap }
end Go.Proofs.YtlpdgjneoahdeaaDoor.Sha

/-
  The statements' own Fault, Same and Is: an error of package api, or none, is told by its number. Conditions: the errors are there, each its own.
-/
namespace Go.Proofs.YtlpdgjneoahdeaaDoor.Sha
open Go Go.RowKit
/-- A fault with nothing around it. -/
def fC (c : Int) : List Value := [.int .i64 c, .bool false, .int .i64 0, .bool false, .int .i64 0]
/-- The number of an error. -/
def numE : Nat → Int
  | 0 => 0
  | q + 1 => ((101 + q : Nat) : Int)
set_option maxRecDepth 100000 in
theorem none_any (w : World) : Calls Tryd.prog 30 #[] w fun e w' => e = .returned (.agg (fC 0).toArray) ∧ Below w.heap.size w w' := by
  go_enter Tryd.func30, Tryd.ntmps30
  go_wp2
  refine bodyPost_ret (v := .agg (fC 0).toArray) (by simp [results, Tryd.results30, go_sem]; rfl) rfl ⟨rfl, ?_⟩
  exact (Below.refl _ _).alloc (Nat.le_refl _) _
set_option maxRecDepth 100000 in
theorem bare_any (c : Int) (w : World) : Calls Tryd.prog 26 #[.int .i64 c] w fun e w' => e = .returned (.agg (fC c).toArray) ∧ Below w.heap.size w w' := by
  go_enter Tryd.func26, Tryd.ntmps26
  go_wp2
  refine bodyPost_ret (v := .agg (fC c).toArray) (by simp [results, Tryd.results26, go_sem]; rfl) rfl ⟨rfl, ?_⟩
  exact (Below.refl _ _).alloc (Nat.le_refl _) _
theorem fault_all (c : Int) : (fC c).toArray.all (·.oneCell') = true := by
  rw [Array.all_eq_true_iff_forall_mem]
  intro x hx
  simp [fC] at hx
  rcases hx with rfl | rfl | rfl | rfl | rfl <;> rfl
set_option maxRecDepth 100000 in
theorem fault_nil (w : World) : Calls Tryd.prog 33 #[.nilIface] w fun e w' => e = .returned (.agg (fC 0).toArray) ∧ Below w.heap.size w w' := by
  go_enter Tryd.func33, Tryd.ntmps33
  go_wp2_with fail
  refine (none_any _).mono ?_
  rintro e w1 ⟨rfl, hb1⟩
  obtain ⟨hb2, hr, hlt⟩ := twice_setup hb1
  have HB1 := Lib.hid hb2
  have HR := Lib.hid hr
  clear hb1 hb2 hr
  go_wp2_with ((with_reducible show wpList _ _ _ _ _ _); refine wpList_store_row rfl 41 (.tmp 2) (.tmp 9) rfl w.heap.size (fC 0).toArray rfl rfl 41 _ HR.out (by kernel_rfl) rfl (fault_all _) ?_; go_frame)
  refine bodyPost_ret (results_cell_row rfl _ _ w.heap.size 41 (fC 0).toArray (0, 0) _ rfl (setRow_heap _ _ _ _ _ _ HR.out) Tryd.underlying41 rfl (by kernel_rfl)) rfl ⟨rfl, below_setRow HB1.out (Nat.le_refl _) _⟩
set_option maxRecDepth 100000 in
theorem fault_err (E : Nat → Addr) (q : Nat) (w : World) (hE : Errs w E) (hq : q < 25) : Calls Tryd.prog 33 #[errV E (q + 1)] w fun e w' => e = .returned (.agg (fC ((101 + q : Nat) : Int)).toArray) ∧ Below w.heap.size w w' := by
  obtain ⟨kk, hkk⟩ : ∃ kk : Int, kk = ((101 + q : Nat) : Int) := ⟨_, rfl⟩
  rw [← hkk]
  have hta : ∀ W, (Instr.typeAssert (.iface 114 (.pointer (some (E q)))) 37 68 true).run Tryd.prog W = .ok (.tuple #[.pointer none, .bool false]) W := fun W => by kernel_rfl
  have hb0 : ∀ o, Below w.heap.size w (w.alloc o) := fun o => (Below.refl _ _).alloc (Nat.le_refl _) o
  have HS : Hid (∀ o, Calls Tryd.prog 39 #[errV E (q + 1)] (w.alloc o) fun e w' => e = .returned (.int .i64 kk) ∧ Below (w.alloc o).heap.size (w.alloc o) w') := fun o => sentinel_any E q kk hkk _ (hE.below (hb0 o)) hq
  clear hb0 hkk hE
  show Calls Tryd.prog 33 #[.iface 114 (.pointer (some (E q)))] w _
  go_enter Tryd.func33, Tryd.ntmps33
  go_wp2_with fail
  refine (HS.out _).mono ?_
  rintro e w1 ⟨rfl, hb1⟩
  obtain ⟨hb2, hr, hlt⟩ := twice_setup hb1
  have HB0 := Lib.hid hb2
  have HR0 := Lib.hid hr
  clear hb1 hb2 hr hta
  go_wp2_with fail
  refine (bare_any kk _).mono ?_
  rintro e w2 ⟨rfl, hb2⟩
  have HR := Lib.hid ((hb2.block _ hlt).trans HR0.out)
  have HB1 := Lib.hid (HB0.out.trans (hb2.mono HB0.out.size))
  clear hb2 HB0 HR0
  go_wp2_with ((with_reducible show wpList _ _ _ _ _ _); refine wpList_store_row rfl 41 (.tmp 2) (.tmp 19) rfl w.heap.size (fC kk).toArray rfl rfl 41 _ HR.out (by kernel_rfl) rfl (fault_all _) ?_; go_frame)
  refine bodyPost_ret (results_cell_row rfl _ _ w.heap.size 41 (fC kk).toArray (0, 0) _ rfl (setRow_heap _ _ _ _ _ _ HR.out) Tryd.underlying41 rfl (by kernel_rfl)) rfl ⟨rfl, below_setRow HB1.out (Nat.le_refl _) _⟩
set_option maxRecDepth 100000 in
theorem samefault_any (a c : Int) (b : Bool) (hb : b = (a == c)) (w : World) : Calls Tryd.prog 32 #[.agg (fC a).toArray, .agg (fC c).toArray] w fun e w' => e = .returned (.bool b) ∧ Below w.heap.size w w' := by
  show Calls Tryd.prog 32 #[.agg #[.int .i64 a, .bool false, .int .i64 0, .bool false, .int .i64 0], .agg #[.int .i64 c, .bool false, .int .i64 0, .bool false, .int .i64 0]] w _
  cases b with
  | true =>
    have hq : (a == c) = true := hb.symm
    clear hb
    go_enter Tryd.func32, Tryd.ntmps32
    go_wp2
    go_ret
    exact ⟨rfl, ((Below.refl _ _).alloc (Nat.le_refl _) _).alloc (by simp) _⟩
  | false =>
    have hq : (a == c) = false := hb.symm
    clear hb
    go_enter Tryd.func32, Tryd.ntmps32
    go_wp2
    go_ret
    exact ⟨rfl, ((Below.refl _ _).alloc (Nat.le_refl _) _).alloc (by simp) _⟩
theorem fault_any (E : Nat → Addr) (c : Nat) (w : World) (hE : Errs w E) (hc : c ≤ 25) : Calls Tryd.prog 33 #[errV E c] w fun e w' => e = .returned (.agg (fC (numE c)).toArray) ∧ Below w.heap.size w w' := by
  cases c with
  | zero => exact fault_nil w
  | succ q => exact fault_err E q w hE (by omega)
set_option maxRecDepth 100000 in
theorem same_err (E : Nat → Addr) (c : Nat) (k : Int) (b : Bool) (hb : b = (numE c == k)) (w : World) (hE : Errs w E) (hc : c ≤ 25) :
    Calls Tryd.prog 14 #[errV E c, .agg (fC k).toArray] w fun e w' => e = .returned (.bool b) ∧ Below w.heap.size w w' := by
  obtain ⟨x, hx⟩ : ∃ x, x = errV E c := ⟨_, rfl⟩
  obtain ⟨n, hn⟩ : ∃ n, n = numE c := ⟨_, rfl⟩
  have HF : Hid (∀ W, Below w.heap.size w W → Calls Tryd.prog 33 #[x] W fun e w' => e = .returned (.agg (fC n).toArray) ∧ Below W.heap.size W w') := fun W hW => by rw [hx, hn]; exact fault_any E c W (hE.below hW) hc
  have HBB : Hid (b = (n == k)) := by show _ = _; rw [hn]; exact hb
  rw [← hx]
  clear hx hn hb hE hc
  go_enter Tryd.func14, Tryd.ntmps14
  go_wp2_with fail
  have e1 := heap_alloc_new w (.cells (fC k).toArray 41)
  have b1 : Below w.heap.size w (w.alloc (.cells (fC k).toArray 41)) := (Below.refl _ _).alloc (Nat.le_refl _) _
  generalize hw1 : World.alloc _ _ = w1
  have e0 : w.alloc (.cells (fC k).toArray 41) = w1 := hw1
  rw [e0] at e1 b1
  have E1 := Lib.hid e1
  have B1 := Lib.hid b1
  clear e0 hw1 e1 b1
  refine wp_region_below (by kernel_rfl) (by kernel_rfl) w1 (Below.refl _ _) ?_
  go_big_quiet_step ((intro _; rfl))
  go_big_quiet_step ((intro hw'; exact cls hw' (HF.out _ (B1.out.trans (hw'.mono B1.out.size)))))
  go_big_quiet_want
  refine quiet_load_row 41 (.tmp 3) rfl w.heap.size rfl 41 (fC k).toArray (0, 0) _ (fun w' hw' => row_below E1.out hw') Tryd.underlying41 rfl (by kernel_rfl) ?_
  go_frame
  go_big_quiet_on
  go_big_quiet_step ((intro hw'; exact cls hw' (samefault_any n k b HBB.out _)))
  go_big_quiet_step ((intro _; rfl))
  refine wpQuiet_nil ?_
  intro w2 hw2
  have B2 := Lib.hid (B1.out.trans (hw2.mono B1.out.size))
  clear hw2
  go_wp2_with fail
  go_ret
  exact ⟨rfl, B2.out⟩
set_option maxRecDepth 100000 in
/-- Is the error the one of this number? -/
theorem is_any (E : Nat → Addr) (c : Nat) (k : Int) (b : Bool) (hb : b = (numE c == k)) (w : World) (hE : Errs w E) (hc : c ≤ 25) :
    Calls Tryd.prog 15 #[errV E c, .int .i64 k] w fun e w' => e = .returned (.bool b) ∧ Below w.heap.size w w' := by
  obtain ⟨x, hx⟩ : ∃ x, x = errV E c := ⟨_, rfl⟩
  have HF : Hid (∀ W, Below w.heap.size w W → Calls Tryd.prog 14 #[x, .agg (fC k).toArray] W fun e w' => e = .returned (.bool b) ∧ Below W.heap.size W w') := fun W hW => by rw [hx]; exact same_err E c k b hb W (hE.below hW) hc
  rw [← hx]
  clear hx hb hE hc
  go_enter Tryd.func15, Tryd.ntmps15
  go_wp2_with fail
  refine (bare_any k _).mono ?_
  rintro e w1 ⟨rfl, hb1⟩
  have B1 := Lib.hid hb1
  clear hb1
  go_wp2_with fail
  refine (HF.out _ B1.out).mono ?_
  rintro e w2 ⟨rfl, hb2⟩
  have B2 := Lib.hid (B1.out.trans (hb2.mono B1.out.size))
  clear hb2
  go_wp2_with fail
  go_ret
  exact ⟨rfl, B2.out⟩
end Go.Proofs.YtlpdgjneoahdeaaDoor.Sha

/-
  How a digest that came in by value reads. No conditions.
-/
namespace Go.Proofs.YtlpdgjneoahdeaaDoor.Sha
open Go Go.ChangeShapes Go.WideShapes Go.ChangeAt Go.RowKit
/-- A digest's cells. -/
theorem hash_cells {H : Type} {enc : TypeId × Value → H} {W : World} {fuel : Nat} {cs : List Value} {x : DataW H × List MemPlace} (hf : DataW.trod enc Tryd.prog W 0 (fun _ => true) true fuel 24 cs = some x) :
    ∃ bs : List UInt8, bs.length = 32 ∧ cs = bs.map bV := by
  have c5 : Tryd.prog.cellsOf 5 = 1 := by kernel_rfl
  have c25 : Tryd.prog.cellsOf 24 = 32 := by kernel_rfl
  obtain ⟨xs, m, _, _, hlen, hxl, hel⟩ := DataW.trod_array Tryd.underlying24 hf
  rw [c25] at hlen
  have each : ∀ i (hi : i < cs.length), bV (UInt8.ofNat (intOf (cs[i])).toNat) = cs[i] := by
    intro i hi
    have h1 := hel i (by omega)
    rw [c5, Nat.mul_one, List.getElem?_eq_getElem (show i < xs.length by omega)] at h1
    obtain ⟨n, hn, _, hw⟩ := DataW.trod_int Tryd.underlying5 h1
    have h2 : cs[i]? = some (.int .u8 n) := by
      have := congrArg (·[0]?) hn
      simpa [List.getElem?_take, List.getElem?_drop] using this
    rw [List.getElem?_eq_getElem hi] at h2
    rw [Option.some.inj h2]
    show Value.int .u8 (bv (UInt8.ofNat n.toNat)) = _
    rw [byte_of hw]
  refine ⟨cs.map fun v => UInt8.ofNat (intOf v).toNat, by rw [List.length_map, hlen], ?_⟩
  rw [List.map_map]
  apply List.ext_getElem (by simp)
  intro i h1 h2
  simp only [List.getElem_map, Function.comp]
  exact (each i h1).symm
end Go.Proofs.YtlpdgjneoahdeaaDoor.Sha

/-
  A place (api.Point) as the model has it: 32 bytes and a number, 33 cells; how two are held against each other. Conditions: digests of 32 bytes.
-/
namespace Go.Proofs.YtlpdgjneoahdeaaDoor.Sha
open Go Go.RowKit
/-- A number of 32 bits as a cell. -/
def nV (n : Nat) : Value := .int .u32 (n : Int)
/-- A place: its transaction's digest, its number. -/
def ptL (h : List UInt8) (n : Nat) : List Value := h.map bV ++ [nV n]
theorem ptL_length (h : List UInt8) (n : Nat) : (ptL h n).length = h.length + 1 := by simp [ptL]
theorem ptL_one' (h : List UInt8) (n : Nat) : ∀ v ∈ ptL h n, v.oneCell' = true := by
  intro v hv
  rcases List.mem_append.1 hv with h1 | h1
  · exact bV_one' h v h1
  · obtain rfl : v = nV n := by simpa using h1
    rfl
theorem size_u8 (w : World) : (Go.sizeOf 5).run Tryd.prog w = .ok 1 w := by kernel_rfl
theorem eq_hash (d : Nat) (h h' : List UInt8) (hh : h.length = 32) (hh' : h'.length = 32) (w : World) : (Op.equalIn (d + 2) 24 (.agg (h.map bV).toArray) (.agg (h'.map bV).toArray)).run Tryd.prog w = .ok (decide (h = h')) w := by
  have := run_equalIn_bytes (P := Tryd.prog) w d 24 5 32 Tryd.underlying24 Tryd.underlying5 size_u8 h h' hh hh'
  rw [show (h == h') = decide (h = h') by by_cases e : h = h' <;> simp [e]] at this
  exact this
theorem run_eql_hash (h h' : List UInt8) (hh : h.length = 32) (hh' : h'.length = 32) (w : World) : (binOp .eql 24 (.agg (h.map bV).toArray) (.agg (h'.map bV).toArray)).run Tryd.prog w = .ok (.bool (decide (h = h'))) w := by
  rw [run_eql_struct, eq_hash 9998 h h' hh hh']
  rfl
theorem pt_fields : (Tryd.prog.fieldsOf 54).toList.map (fun f => (f.name, f.type, f.offset)) = [("Tx", 24, 0), ("N", 27, 32)] := by kernel_rfl
theorem pt_under : Tryd.prog.underlying 54 = some (.struct (Tryd.prog.fieldsOf 54)) := by kernel_rfl
/-- In a quiet walk: an operation on two values, its answer laid ahead. -/
theorem quiet_bin {P : Program} {C : World → Prop} {a : Act} {o : Oper} {K : Act → Prop} (op : BinOp) (t : TypeId) (x y : Operand) (r : TypeId) (ho : o.op = .binOp op t x y r) (u v z : Value) (hx : a.eval x = u) (hy : a.eval y = v)
    (hg : ∀ w, (eqGuard op t x y u v).run P w = .ok () w) (h : ∀ w, (binOp op t u v).run P w = .ok z w) (hk : K (a.put o.dst z)) : o.quiet P a C K := by
  refine quiet_run z (fun w => ?_) hk
  simp only [execOp, ho, hx, hy, Sem.run_bind, hg, h, Result.andThen_ok, Sem.run_pure]
theorem quiet_eql_hash {C : World → Prop} {a : Act} {o : Oper} {K : Act → Prop} (x y : Operand) (r : TypeId) (ho : o.op = .binOp .eql 24 x y r) (h h' : List UInt8) (hh : h.length = 32) (hh' : h'.length = 32)
    (hx : a.eval x = .agg (h.map bV).toArray) (hy : a.eval y = .agg (h'.map bV).toArray) (b : Bool) (hb : b = decide (h = h')) (hk : K (a.put o.dst (.bool b))) : o.quiet Tryd.prog a C K := by
  subst hb
  exact quiet_bin .eql 24 x y r ho _ _ _ hx hy (fun w => run_eqGuard_agg w .eql 24 x y _ _ (by kernel_rfl)) (fun w => run_eql_hash h h' hh hh' w) hk
end Go.Proofs.YtlpdgjneoahdeaaDoor.Sha

/-
  How a place that came in by value reads; a struct's fields. No conditions.
-/
namespace Go.Proofs.YtlpdgjneoahdeaaDoor.Sha
open Go Go.ChangeShapes Go.WideShapes Go.ChangeAt Go.RowKit
/-- A struct's fields, each read. -/
theorem struct_field {H : Type} {enc : TypeId × Value → H} {P : Program} {W : World} {fuel : Nat} {T : TypeId} {cs : List Value} {x : DataW H × List MemPlace} (hu : P.underlying T = some (.struct (P.fieldsOf T)))
    (hf : DataW.trod enc P W 0 (fun _ => true) true fuel T cs = some x) {names : List (String × TypeId × Nat)} (hm : (P.fieldsOf T).toList.map (fun f => (f.name, f.type, f.offset)) = names) :
    cs.length = P.cellsOf T ∧ ∃ m : Nat, ∀ (i : Nat) (n : String) (ty : TypeId) (off : Nat), names[i]? = some (n, ty, off) → ∃ y, DataW.trod enc P W 0 (fun _ => true) true m ty ((cs.drop off).take (P.cellsOf ty)) = some y := by
  obtain ⟨xs, m, _, _, hlen, hxl, hel⟩ := DataW.trod_struct hu hf
  refine ⟨hlen, m, fun i n ty off hi => ?_⟩
  rw [← hm, List.getElem?_map] at hi
  obtain ⟨f, hf1, hf2⟩ := Option.map_eq_some_iff.1 hi
  simp only [Prod.mk.injEq] at hf2
  obtain ⟨_, h2, h3⟩ := hf2
  have hil : i < (P.fieldsOf T).size := by have := (List.getElem?_eq_some_iff.1 hf1).1; simpa using this
  have g := hel i f (by rw [← Array.getElem?_toList]; exact hf1)
  rw [h2, h3, List.getElem?_eq_getElem (by omega)] at g
  exact ⟨_, g⟩
theorem num32_cells {H : Type} {enc : TypeId × Value → H} {W : World} {fuel : Nat} {cs : List Value} {x : DataW H × List MemPlace} (hf : DataW.trod enc Tryd.prog W 0 (fun _ => true) true fuel 27 cs = some x) :
    ∃ n : Nat, n ≤ 4294967295 ∧ cs = [nV n] := by
  obtain ⟨z, hz, _, hw⟩ := DataW.trod_int Tryd.underlying27 hf
  have hbd := bounds_u32 hw
  exact ⟨z.toNat, by omega, by rw [hz, nV, Int.toNat_of_nonneg (by omega)]⟩
set_option maxRecDepth 100000 in
/-- A place's cells. -/
theorem pt_cells {H : Type} {enc : TypeId × Value → H} {W : World} {fuel : Nat} {cs : List Value} {x : DataW H × List MemPlace} (hf : DataW.trod enc Tryd.prog W 0 (fun _ => true) true fuel 54 cs = some x) :
    ∃ (bs : List UInt8) (n : Nat), (bs.length = 32 ∧ n ≤ 4294967295) ∧ cs = ptL bs n := by
  have c24 : Tryd.prog.cellsOf 24 = 32 := by kernel_rfl
  have c25 : Tryd.prog.cellsOf 27 = 1 := by kernel_rfl
  have c27 : Tryd.prog.cellsOf 54 = 33 := by kernel_rfl
  obtain ⟨hlen, m, hel⟩ := struct_field pt_under hf pt_fields
  rw [c27] at hlen
  obtain ⟨y0, g0⟩ := hel 0 _ _ _ rfl
  obtain ⟨y1, g1⟩ := hel 1 _ _ _ rfl
  rw [c24, List.drop_zero] at g0
  rw [c25] at g1
  obtain ⟨bs, hb, hcs⟩ := hash_cells g0
  obtain ⟨n, hn, hcn⟩ := num32_cells g1
  rw [List.take_of_length_le (by rw [List.length_drop]; omega)] at hcn
  exact ⟨bs, n, ⟨hb, hn⟩, by rw [ptL, ← hcs, ← hcn, List.take_append_drop]⟩
end Go.Proofs.YtlpdgjneoahdeaaDoor.Sha
