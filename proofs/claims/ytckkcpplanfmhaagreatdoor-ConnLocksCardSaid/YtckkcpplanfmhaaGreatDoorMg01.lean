/-
  Texts of this proof joined into one file: ShaLib, Base, CmpMath, CmpLib, Args, CmpNum, CmpRdr, Errs, RefNumb, ShaSame, ShaMath, ShaSig. What each holds, and under which conditions, its own first sentence tells.
-/
import Derived.WalkKit
import Derived.Laws.CopyOwn
import Derived.Deep.MidRow
import Derived.Lib.Hide
import Derived.Deep.Light
import Derived.StillTailTactics
import Derived.LoopTactic
import Derived.LoopN
import Derived.RegionTactic
import Derived.Deep.QuietTactic
import Derived.BigQuiet
import Derived.Laws.OwnMore
import Derived.WalkSmall
import Derived.Maps.RangeWalk
import Derived.Maps.AppendAt
import Derived.Deep.DeepFit
import Derived.ProofKit
import Derived.OpenShut
import Derived.ShutString
import Derived.ChangeOld
import Derived.Deep.DeepHandedRow
import Derived.Lib.LaidTab
import Derived.Laws.Bits64
import Derived.Laws.Bits64b
import Derived.Laws.BitsAllLaws
import Derived.Stop.IfaceNil
import Derived.LaidEql
import Derived.Test.YtckkcpplanfmhaaGreatDoorProg
/-
  Laws for walks, of no program: a slice cut from its lower bound on; a copy into a block that is known whole; many cells stored into such a block. No conditions beyond those that each states.
-/
namespace Go.Proofs.YtckkcpplanfmhaaGreatDoor.Sha
open Go Go.RowKit
theorem splice_cons {α : Type} (L : List α) (o : Nat) (v : α) (r : List α) (h : o < L.length) : splice L o (v :: r) = splice (L.set o v) (o + 1) r := by
  have hA : (L.take o).length = o := by rw [List.length_take]; omega
  have e : L.set o v = L.take o ++ v :: L.drop (o + 1) := by rw [List.set_eq_take_append_cons_drop, if_pos h]
  have e1 : (L.take o ++ v :: L.drop (o + 1)).take (o + 1) = L.take o ++ [v] := by
    rw [List.take_append, hA, List.take_of_length_le (show (L.take o).length ≤ o + 1 by omega), show o + 1 - o = 1 by omega]
    rfl
  have e2 : (L.take o ++ v :: L.drop (o + 1)).drop (o + 1 + r.length) = L.drop (o + (v :: r).length) := by
    rw [List.drop_append, hA, List.drop_of_length_le (show (L.take o).length ≤ o + 1 + r.length by omega), show o + 1 + r.length - o = r.length + 1 by omega, List.drop_succ_cons, List.drop_drop, List.nil_append]
    congr 1
    simp
    omega
  unfold splice
  rw [e, e1, e2]
  simp
theorem splice_nil {α : Type} (L : List α) (o : Nat) : splice L o [] = L := by simp [splice]
theorem setCells_heap (B T : Nat) : ∀ (vs : List Value) (o : Nat) (cur : List Value) (w : World), w.heap[B]? = some (.cells cur.toArray T (0, 0)) → o + vs.length ≤ cur.length →
    (w.setCells B o vs).heap[B]? = some (.cells (splice cur o vs).toArray T (0, 0))
  | [], o, cur, w, h, _ => by rw [splice_nil]; exact h
  | v :: r, o, cur, w, h, hl => by
    have hl' : o + (r.length + 1) ≤ cur.length := hl
    rw [splice_cons cur o v r (by omega)]
    refine setCells_heap B T r (o + 1) (cur.set o v) _ ?_ (by rw [List.length_set]; omega)
    rw [heap_setCell_same w B o _ _ _ h, List.setIfInBounds_toArray]
theorem setCells_other (B : Nat) : ∀ (vs : List Value) (o : Nat) (w : World) (k : Nat), k ≠ B → (w.setCells B o vs).heap[k]? = w.heap[k]?
  | [], _, _, _, _ => rfl
  | v :: r, o, w, k, h => by
    show ((w.setCell ⟨B, o, none⟩ v).setCells B (o + 1) r).heap[k]? = _
    rw [setCells_other B r (o + 1) _ k h, heap_setCell_other _ _ _ _ h]
theorem setCells_rest (B : Nat) : ∀ (vs : List Value) (o : Nat) (w : World), (w.setCells B o vs).heap.size = w.heap.size ∧ (w.setCells B o vs).os = w.os ∧ (w.setCells B o vs).tape = w.tape ∧ (w.setCells B o vs).output = w.output
  | [], _, _ => ⟨rfl, rfl, rfl, rfl⟩
  | v :: r, o, w => by
    obtain ⟨a, b, c, d⟩ := setCells_rest B r (o + 1) (w.setCell ⟨B, o, none⟩ v)
    exact ⟨a.trans (by simp [World.setCell]), b, c, d⟩
theorem grownBy_setCells (B : Nat) (vs : List Value) (o : Nat) (w : World) : w.grownBy (w.setCells B o vs) (some B) := by
  obtain ⟨a, b, c, d⟩ := setCells_rest B vs o w
  exact ⟨b, c, d, Nat.le_of_eq a.symm, fun k _ hne => setCells_other B vs o w k (fun e => hne (by rw [e]))⟩
theorem grownBy_setRow (B : Nat) (cs : Array Value) (w : World) : w.grownBy (w.setRow B cs) (some B) :=
  ⟨rfl, rfl, rfl, by simp, fun k _ hne => setRow_other w B k cs (fun e => hne (by rw [e]))⟩
theorem grownBy_refl (w : World) (row : Option Nat) : w.grownBy w row := ⟨rfl, rfl, rfl, Nat.le_refl _, fun _ _ _ => rfl⟩
theorem wpList_copy_into {P : Program} {w : World} {ops : Array Oper} {rest : List Oper} {o : Oper} {a : Act} {Q : Exit → Act → World → Prop} (hgd : o.guard = none) (d s : Operand) (dT sT : TypeId)
    (ho : o.op = .call { callee := .builtin .copy, args := #[d, s], argTypes := #[dT, sT] }) (elem : TypeId) (hu : P.underlying dT = some (.slice elem)) (hsz : (P.info? elem).map (·.size) = some 1)
    (dp sp : Option Addr) (dLen dCap sLen sCap : Nat) (hd : a.eval d = .slice dp dLen dCap) (hs : a.eval s = .slice sp sLen sCap)
    (g off : Nat) (cur : List Value) (t : TypeId) (hg : w.heap[g]? = some (.cells cur.toArray t (0, 0))) (cs : List Value) (hn : cs.length = Nat.min sLen dLen)
    (hpos : 0 < cs.length → dp = some ⟨g, off, none⟩ ∧ ∃ ad, sp = some ad ∧ ∀ j v, cs[j]? = some v → w.cell? (ad.add j) = some v)
    (hfit : off + cs.length ≤ cur.length) (h1 : ∀ v ∈ cs, v.oneCell' = true)
    (h : ∀ w', Hid (w'.heap[g]? = some (.cells (splice cur off cs).toArray t (0, 0))) → Hid (w.grownBy w' (some g)) → wpList P ops Q rest (a.put o.dst (goInt cs.length)) w') :
    wpList P ops Q (o :: rest) a w := by
  by_cases h0 : cs.length = 0
  · obtain rfl : cs = [] := List.eq_nil_of_length_eq_zero h0
    refine wpList_copy_nothing hgd d s dT sT ho elem hu hsz dp sp dLen dCap sLen sCap hd hs (by simpa using hn.symm) ?_
    exact h w (show _ = _ by rw [splice_nil]; exact hg) (grownBy_refl _ _)
  · obtain ⟨rfl, ad, rfl, hsrc⟩ := hpos (by omega)
    refine wpList_copy_own hgd d s dT sT ho elem hu hsz g off dLen dCap ad sLen sCap hd hs cur.toArray t hg cs hn hsrc (by simpa using hfit) h1 ?_
    exact h _ (show _ = _ by simpa [splice] using setRow_heap w g _ _ t _ hg) (grownBy_setRow _ _ _)
theorem run_slice_lo {P : Program} {w : World} (t e : TypeId) (ad : Addr) (len cap n : Nat) (hu : P.underlying t = some (.slice e)) (hsz : (P.info? e).map (·.size) = some 1) (hn : n ≤ len) :
    ∃ ad', (n < cap → ad' = ad.add n) ∧ (Instr.sliceAt t (.slice (some ad) len cap) (some (.int .i64 n)) none none).run P w = .ok (.slice (some ad') (len - n) (cap - n)) w := by
  obtain ⟨i, hi, h1⟩ := Option.map_eq_some_iff.1 hsz
  have hel : P.elem t = e := by simp [Program.elem, hu]
  have hu' : P.underlying t = some (.slice (P.elem t)) := by rw [hel]; exact hu
  refine ⟨if cap = n then ad else ad.add n, fun h => by rw [if_neg (by omega)], ?_⟩
  rw [run_sliceAt_slice _ _ _ _ _ _ hu', run_slice_l _ _ _ _ _ hu' _ _ (by omega) (by omega)]
  rw [hel]
  simp [sizeOf, typeInfo, hi, h1, sliced, go_sem]
  split <;> rfl
theorem wpList_slice_lo {P : Program} {w : World} {ops : Array Oper} {rest : List Oper} {o : Oper} {a : Act} {Q : Exit → Act → World → Prop} (hgd : o.guard = none) (t : TypeId) (x l : Operand)
    (ho : o.op = .slice t x (some l) none none) (e : TypeId) (hu : P.underlying t = some (.slice e)) (hsz : (P.info? e).map (·.size) = some 1)
    (ad : Addr) (len cap n : Nat) (hx : a.eval x = .slice (some ad) len cap) (hl : a.eval l = .int .i64 n) (hn : n ≤ len)
    (h : ∀ ad', Hid (n < cap → ad' = ad.add n) → wpList P ops Q rest (a.put o.dst (.slice (some ad') (len - n) (cap - n))) w) : wpList P ops Q (o :: rest) a w := by
  refine wpList_plain hgd fun K hK => ?_
  obtain ⟨ad', h1, h2⟩ := run_slice_lo (P := P) (w := w) t e ad len cap n hu hsz hn
  unfold Oper.wp
  simp [execOp, ho, hx, hl, h2, Result.andThen]
  exact hK _ _ (h ad' h1)
theorem run_slice_arr {P : Program} {w : World} (t e N : Nat) (ad : Addr) (n : Nat) (hu : P.underlying t = some (.array N e)) (hsz : (P.info? e).map (·.size) = some 1) (hn : n < N) :
    (Instr.sliceAt t (.pointer (some ad)) (some (.int .i64 n)) none none).run P w = .ok (.slice (some (ad.add n)) (N - n) (N - n)) w := by
  obtain ⟨i, hi, h1⟩ := Option.map_eq_some_iff.1 hsz
  have hel : P.elem t = e := by simp [Program.elem, hu]
  have hal : P.arrayLen t = N := by simp [Program.arrayLen, hu]
  have hu' : P.underlying t = some (.array (P.arrayLen t) (P.elem t)) := by rw [hel, hal]; exact hu
  rw [run_sliceAt_array_l _ _ _ hu' _ _ (by omega) (by omega), hel, hal]
  simp [sizeOf, typeInfo, hi, h1, slicedAt, go_sem]
  omega
theorem wpList_slice_arr {P : Program} {w : World} {ops : Array Oper} {rest : List Oper} {o : Oper} {a : Act} {Q : Exit → Act → World → Prop} (hgd : o.guard = none) (t : TypeId) (x l : Operand)
    (ho : o.op = .slice t x (some l) none none) (e N : Nat) (hu : P.underlying t = some (.array N e)) (hsz : (P.info? e).map (·.size) = some 1)
    (ad : Addr) (n : Nat) (hx : a.eval x = .pointer (some ad)) (hl : a.eval l = .int .i64 n) (hn : n < N)
    (h : wpList P ops Q rest (a.put o.dst (.slice (some (ad.add n)) (N - n) (N - n))) w) : wpList P ops Q (o :: rest) a w := by
  refine wpList_plain hgd fun K hK => ?_
  unfold Oper.wp
  simp [execOp, ho, hx, hl, run_slice_arr (w := w) t e N ad n hu hsz hn, Result.andThen]
  exact hK _ _ h
end Go.Proofs.YtckkcpplanfmhaaGreatDoor.Sha

/-
  What every seat's texts stand on: bytes as the model's integers, slices that read as bytes, cuts of them, memory that is new or the caller's, laws for walks of no program. No conditions beyond those that each states.
-/
namespace Go.Proofs.YtckkcpplanfmhaaGreatDoor.Sha
open Go Go.RowKit
/-- A byte as the model's integer. -/
def bv (x : UInt8) : Int := x.toNat
theorem bv_bd (x : UInt8) : 0 ≤ bv x ∧ bv x ≤ 255 := by
  have := x.toNat_lt
  unfold bv
  omega
def bV (x : UInt8) : Value := .int .u8 (bv x)
theorem bV_one (l : List UInt8) : (l.map bV).toArray.all (·.oneCell') = true := by
  rw [Array.all_eq_true_iff_forall_mem]
  intro x hx
  simp at hx
  obtain ⟨a, _, rfl⟩ := hx
  rfl
theorem bV_one' (l : List UInt8) : ∀ v ∈ l.map bV, v.oneCell' = true := by
  intro v hv
  simp at hv
  obtain ⟨a, _, rfl⟩ := hv
  rfl
theorem bv_of {n : Nat} : IntKind.u8.wrap (n : Int) = bv (UInt8.ofNat n) := by
  unfold bv
  rw [IntKind.wrap_u8', UInt8.toNat_ofNat']
  simp
theorem set_mid {α : Type} (A : List α) (n j : Nat) (l : List α) (v : α) (h : A.length = n) : (A ++ l).set (n + j) v = A ++ l.set j v := by
  subst h
  rw [List.set_append_right _ _ (by omega)]
  congr 2
  omega
theorem get_mid {α : Type} (A : List α) (n j : Nat) (l : List α) (h : A.length = n) : (A ++ l).toArray[n + j]? = l[j]? := by
  subst h
  rw [List.getElem?_toArray, List.getElem?_append_right (by omega)]
  congr 1
  omega
theorem ret_int {k : IntKind} {a b : Int} (h : a = b) : Ending.returned (.int k a) = .returned (.int k b) := by rw [h]
theorem same_of {P : Program} {f : FuncId} {args : Array Value} {w : World} {v : Value} (h : Calls P f args w fun e w' => e = .returned v ∧ w = w') : Calls P f args w fun e w' => e = .returned v ∧ w' = w :=
  h.mono fun _ _ ⟨a, b⟩ => ⟨a, b.symm⟩
theorem run_index_array {P : Program} {w : World} (t e n : Nat) (kk : IntKind) (cs : Array Value) (k : Nat) (v : Value) (h : P.underlying t = some (.array n e)) (he : P.underlying e = some (.int kk)) (hs : (P.info? e).map (·.size) = some 1)
    (hk : k < n) (hv : cs[k]? = some v) : (Instr.index t (.agg cs) (.int .i64 k)).run P w = .ok v w := by
  obtain ⟨i, hi, h1⟩ := Option.map_eq_some_iff.1 hs
  simp [Instr.index, run_underlying h, asIntOf, part, isAgg, run_underlying he, sizeOf, typeInfo, hi, h1, hv, go_sem]
  intro h'
  omega
theorem grownBy_of_below {w wr : World} (h : Below w.heap.size w wr) (row : Option Nat) : w.grownBy wr row := ⟨h.os, h.tape, h.output, h.size, fun k hk _ => h.block k hk⟩
theorem grownBy_trans {a b c : World} {row : Option Nat} (h : a.grownBy b row) (k : b.grownBy c row) : a.grownBy c row :=
  ⟨k.os.trans h.os, k.tape.trans h.tape, k.output.trans h.output, Nat.le_trans h.size k.size, fun i hi hne => (k.block i (Nat.lt_of_lt_of_le hi h.size) hne).trans (h.block i hi hne)⟩
theorem one_u8 (x : Int) : ∀ u ∈ [Value.int .u8 x], u.oneCell' = true := by
  intro u hu
  simp at hu
  subst hu
  rfl
theorem info_u8 : (Tryz.prog.info? 5).map (fun i => (i.zero, i.size, i.bytes)) = some (some (.int .u8 0), 1, 1) := by kernel_rfl
theorem bv_inj {x y : UInt8} (h : bv x = bv y) : x = y := by
  unfold bv at h
  exact UInt8.toNat_inj.1 (by omega)
theorem bv_beq (x y : UInt8) : (bv x == bv y) = decide (x = y) := by
  by_cases h : x = y
  · subst h; simp
  · rw [decide_eq_false h, beq_eq_false_iff_ne]
    exact fun e => h (bv_inj e)
theorem bV_get (l : List UInt8) (j : Nat) (h : j < l.length) : (l.map bV).toArray[j]? = some (.int .u8 (bv (l.getD j 0))) := by
  simp [bV, List.getD, List.getElem?_eq_getElem h]
theorem tmod_bd (x n : Int) (h : 1 ≤ n) : -n < x.tmod n ∧ x.tmod n < n := by
  have h1 := Int.tmod_lt_of_pos x (show 0 < n by omega)
  refine ⟨?_, h1⟩
  by_cases hx : 0 ≤ x
  · have := Int.tmod_nonneg n hx
    omega
  · have h2 := Int.tmod_lt_of_pos (-x) (show 0 < n by omega)
    rw [Int.neg_tmod] at h2
    omega
/-- A number brought into its bound. -/
def numb (x n : Int) : Int := if x.tmod n < 0 then x.tmod n + n else x.tmod n
theorem numb_bd (x n : Int) (h : 1 ≤ n) : 0 ≤ numb x n ∧ numb x n < n := by
  have := tmod_bd x n h
  unfold numb
  split <;> omega
theorem numb_nat (x : Int) (n : Nat) (h : 1 ≤ n) : ∃ r : Nat, numb x n = r ∧ r < n := by
  have := numb_bd x n (by omega)
  exact ⟨(numb x n).toNat, by omega, by omega⟩
/-- The slice v reads as the bytes bs. -/
def SrcB (w : World) (v : Value) (bs : List UInt8) : Prop :=
  (∃ sp cap, v = .slice sp 0 cap ∧ bs = []) ∨
  (0 < bs.length ∧ ∃ bb off cap, v = .slice (some ⟨bb, off, none⟩) bs.length cap ∧ bs.length ≤ cap ∧ ∀ j, j < bs.length → w.cell? ⟨bb, off + j, none⟩ = some (.int .u8 (bv (bs.getD j 0))))
theorem SrcB.block {w : World} {bs : List UInt8} {bb off : Nat} (h0 : 0 < bs.length) (h : ∀ j, j < bs.length → w.cell? ⟨bb, off + j, none⟩ = some (.int .u8 (bv (bs.getD j 0)))) : bb < w.heap.size :=
  World.block_lt_of_cell? w _ (h 0 h0)
theorem SrcB.below {w w' : World} {v : Value} {bs : List UInt8} (h : SrcB w v bs) (hb : Below w.heap.size w w') : SrcB w' v bs := by
  rcases h with h | ⟨h0, bb, off, cap, hv, hc, hs⟩
  · exact .inl h
  · exact .inr ⟨h0, bb, off, cap, hv, hc, fun j hj => by
      rw [hb.cell (p := ⟨bb, off + j, none⟩) (SrcB.block h0 hs)]
      exact hs j hj⟩
theorem SrcB.ne {w : World} {v : Value} {bs : List UInt8} (h : SrcB w v bs) {B : Nat} (hB : w.heap.size ≤ B) : ∀ sp n cap, v = .slice (some sp) n cap → 0 < n → sp.block ≠ B := by
  intro sp n cap hv hn e
  rcases h with ⟨sp', cap', hv', _⟩ | ⟨h0, bb, off, cap', hv', _, hs⟩
  · rw [hv] at hv'
    cases hv'
    omega
  · have := SrcB.block h0 hs
    rw [hv] at hv'
    cases hv'
    simp at e
    omega
theorem SrcB.le {w : World} {sp : Option Addr} {n cap : Nat} {bs : List UInt8} (h : SrcB w (.slice sp n cap) bs) : n = bs.length ∧ n ≤ cap := by
  rcases h with ⟨sp', cap', hv, rfl⟩ | ⟨h0, bb, off, cap', hv, hc, hs⟩
  · cases hv; exact ⟨rfl, Nat.zero_le _⟩
  · cases hv; exact ⟨rfl, hc⟩
theorem wp_region_below {P : Program} {id : Nat} {Q : Exit → Act → World → Prop} {a : Act} {w : World} {l : List Oper} (hm : P.follows .mixedOrders = true) (hB : Region.lexB .any l.toArray = true) (w0 : World) (hb : Below w0.heap.size w0 w)
    (h : wpQuiet P l.toArray (fun w' => Below w0.heap.size w0 w') (fun a' => ∀ w', Below w0.heap.size w0 w' → Q .normal a' w') l a) : (Code.region id l.toArray true).wp P Q a w :=
  wp_region_quiet (C := fun w' => Below w0.heap.size w0 w') hm hB hb.drew (by simpa using h)
theorem cls {P : Program} {f : FuncId} {args : Array Value} {w0 w : World} {v : Value} (hw : Below w0.heap.size w0 w) (h : Calls P f args w fun e w' => e = .returned v ∧ Below w.heap.size w w') :
    Calls P f args w fun e w' => e = .returned v ∧ Below w0.heap.size w0 w' := h.mono fun _ _ ⟨a, b⟩ => ⟨a, hw.trans (b.mono hw.size)⟩
theorem elem_of {P : Program} {t e : TypeId} (hu : P.underlying t = some (.slice e)) : P.elem t = e := by simp [Program.elem, hu]
/-- A block of 32 bytes reads as them. -/
theorem src_block {w : World} {g : Nat} {l : List UInt8} {T : TypeId} (hl : l.length = 32) (h : w.heap[g]? = some (.cells (l.map bV).toArray T (0, 0))) : SrcB w (.slice (some ⟨g, 0, none⟩) 32 32) l :=
  .inr ⟨by omega, g, 0, 32, by rw [hl], by omega, fun j hj => by rw [Nat.zero_add, cell_of_row _ _ _ _ _ _ h, bV_get _ _ hj]⟩
theorem twice_setup {w w1 : World} {z : Array Value} {T : TypeId} (hb : Below (w.alloc (.cells z T)).heap.size (w.alloc (.cells z T)) w1) : Below w.heap.size w w1 ∧ w1.heap[w.heap.size]? = some (.cells z T (0, 0)) ∧ w.heap.size < w1.heap.size :=
  ⟨((Below.refl _ _).alloc (Nat.le_refl _) _).trans (hb.mono (by simp)), by rw [hb.block _ (by simp)]; exact heap_alloc_new _ _, by have := hb.size; simp at this; omega⟩
theorem src_row {w : World} {B m : Nat} {l : List UInt8} {T : TypeId} (hm : m = l.length) (h0 : 0 < m) (h : w.heap[B]? = some (.cells (l.map bV).toArray T (0, 0))) : SrcB w (.slice (some ⟨B, 0, none⟩) m m) l :=
  .inr ⟨by omega, B, 0, m, by rw [hm], by omega, fun j hj => by rw [Nat.zero_add, cell_of_row _ _ _ _ _ _ h, bV_get _ _ hj]⟩
/-- A block of bytes that has just been laid and filled. -/
theorem fill_setup {w w1 : World} (hb : Below w.heap.size w w1) (z cs : Array Value) (T : TypeId) : Below w.heap.size w ((w1.alloc (.cells z T)).setRow w1.heap.size cs)
    ∧ ((w1.alloc (.cells z T)).setRow w1.heap.size cs).heap[w1.heap.size]? = some (.cells cs T (0, 0)) ∧ ((w1.alloc (.cells z T)).setRow w1.heap.size cs).heap.size = w1.heap.size + 1
    ∧ Below w1.heap.size w1 ((w1.alloc (.cells z T)).setRow w1.heap.size cs) :=
  ⟨below_setRow (hb.alloc hb.size _) hb.size _, setRow_heap _ _ _ _ _ _ (heap_alloc_new _ _), by simp, below_setRow ((Below.refl _ _).alloc (Nat.le_refl _) _) (Nat.le_refl _) _⟩
theorem row_below {w w' : World} {g : Nat} {o : Obj} (h : w.heap[g]? = some o) (hb : Below w.heap.size w w') : w'.heap[g]? = some o := by
  rw [hb.block g (Array.getElem?_eq_some_iff.1 h).1]
  exact h
theorem quiet_load_row {P : Program} {C : World → Prop} {a : Act} {o : Oper} {K : Act → Prop} (ty : TypeId) (x : Operand) (ho : o.op = .load ty x) (g : Nat) (hx : a.eval x = .pointer (some ⟨g, 0, none⟩)) (t : TypeId) (cs : Array Value) (fr : Nat × Nat) (d : TypeDesc)
    (hg : ∀ w, C w → w.heap[g]? = some (.cells cs t fr)) (hu : P.underlying ty = some d) (hd : (match d with | .struct _ | .array _ _ => true | _ => false) = true) (hi : (P.info? ty).map (·.size) = some cs.size)
    (hk : K (a.put o.dst (.agg cs))) : o.quiet P a C K :=
  ⟨_, fun w hw => by
    unfold Oper.quietAt execOp
    simp only [ho, hx, Instr.loadAt, Instr.sureAddr, Sem.run_bind, Sem.run_pure, Result.andThen_ok, run_loadVar_row w g t ty cs fr d (hg w hw) hu hd hi]
    exact ⟨rfl, rfl⟩, hk⟩
theorem src_of_own {w : World} {base g n cap : Nat} {bs : List UInt8} (hn : 0 < n) (hc : n ≤ cap) (h : w.ownsRow base 5 1 (.slice (some ⟨g, 0, none⟩) n cap) n (bs.map bV)) : SrcB w (.slice (some ⟨g, 0, none⟩) n cap) bs := by
  have hl : bs.length = n := by have := h.1; rw [List.length_map] at this; omega
  refine .inr ⟨by omega, g, 0, cap, by rw [hl], by omega, fun j hj => ?_⟩
  rw [Nat.zero_add, h.cellAt j (by omega), List.getElem?_map, List.getElem?_eq_getElem hj]
  simp [bV, List.getD, List.getElem?_eq_getElem hj]
theorem src_of_own_any {w : World} {base n : Nat} {v : Value} {bs : List UInt8} (hn : 0 < n) (h : w.ownsRow base 5 1 v n (bs.map bV)) : SrcB w v bs := by
  rcases h.2 with ⟨_, h0⟩ | ⟨g, cap, cur, rfl, _, _, hc, _⟩
  · omega
  · exact src_of_own hn hc h
theorem grownBy_below {w w4 : World} {g : Nat} {a b : World} (h : w.grownBy w4 (some g)) (hb : Below a.heap.size b w) (ha : a.heap.size ≤ g) (hs : a.heap.size ≤ w.heap.size) : Below a.heap.size b w4 :=
  hb.trans ⟨h.os, h.tape, h.output, h.size, fun k hk => h.block k (by omega) (fun e => by have := Option.some.inj e; omega)⟩
theorem own_shape {w : World} {base m : Nat} {v : Value} {xs : List Value} {e : TypeId} (h : w.ownsRow base e 1 v m xs) (h0 : 0 < m) : ∃ g cap, v = .slice (some ⟨g, 0, none⟩) m cap ∧ base ≤ g ∧ m ≤ cap := by
  rcases h.2 with ⟨_, e⟩ | ⟨g, cap, cur, hv, hb, _, hc, _⟩
  · omega
  · exact ⟨g, cap, hv, hb, hc⟩
section
variable {P : Program} {w : World} {ops : Array Oper} {rest : List Oper} {o : Oper} {a : Act} {Q : Exit → Act → World → Prop}
end
theorem quiet_run {P : Program} {C : World → Prop} {a : Act} {o : Oper} {K : Act → Prop} (v : Value) (h : ∀ w, (execOp a.eval o).run P w = .ok (.value v) w) (hk : K (a.put o.dst v)) : o.quiet P a C K :=
  ⟨v, fun w _ => by unfold Oper.quietAt; rw [h w]; exact ⟨rfl, rfl⟩, hk⟩
theorem SrcB.shape {w : World} {v : Value} {bs : List UInt8} (h : SrcB w v bs) : ∃ sp cap, v = .slice sp bs.length cap := by
  rcases h with ⟨sp, cap, rfl, rfl⟩ | ⟨_, bb, off, cap, rfl, _⟩
  · exact ⟨_, _, rfl⟩
  · exact ⟨_, _, rfl⟩
end Go.Proofs.YtckkcpplanfmhaaGreatDoor.Sha

/-
  Plain mathematics of chapter 2: a number's lowest bytes, the lowest first, what bytes are as a number, a number in the fewest bytes, sums of amounts. No program is imported. No conditions.
-/
namespace Go.Proofs.YtckkcpplanfmhaaGreatDoor.Sha
open Go
/-- The lowest k bytes of n, the lowest first. -/
def leB (n : Nat) : Nat → List UInt8
  | 0 => []
  | k + 1 => leB n k ++ [UInt8.ofNat (n / 256 ^ k)]
theorem leB_length (n : Nat) : ∀ k, (leB n k).length = k
  | 0 => rfl
  | k + 1 => by simp [leB, leB_length n k]
/-- What bytes are as a number. -/
def leN : List UInt8 → Nat
  | [] => 0
  | x :: l => x.toNat + 256 * leN l
/-- How many bytes Put writes. -/
def lenN (n : Nat) : Nat := if n < 253 then 1 else if n ≤ 65535 then 3 else if n ≤ 4294967295 then 5 else 9
/-- The number in the fewest bytes. -/
def putL (n : Nat) : List UInt8 := if n < 253 then [UInt8.ofNat n] else if n ≤ 65535 then 253 :: leB n 2 else if n ≤ 4294967295 then 254 :: leB n 4 else 255 :: leB n 8
theorem putL_length (n : Nat) : (putL n).length = lenN n := by
  unfold putL lenN
  split
  · rfl
  · split
    · simp [leB_length]
    · split <;> simp [leB_length]
theorem lenN_bd (n : Nat) : 1 ≤ lenN n ∧ lenN n ≤ 9 := by unfold lenN; split <;> (try split) <;> (try split) <;> omega
theorem lenN_eq (n : Nat) : (lenN n = 1 ∧ putL n = [UInt8.ofNat n]) ∨ (lenN n = 3 ∧ putL n = 253 :: leB n 2) ∨ (lenN n = 5 ∧ putL n = 254 :: leB n 4) ∨ (lenN n = 9 ∧ putL n = 255 :: leB n 8) := by
  unfold lenN putL
  by_cases h1 : n < 253
  · rw [if_pos h1, if_pos h1]; exact .inl ⟨rfl, rfl⟩
  by_cases h2 : n ≤ 65535
  · rw [if_neg h1, if_neg h1, if_pos h2, if_pos h2]; exact .inr (.inl ⟨rfl, rfl⟩)
  by_cases h3 : n ≤ 4294967295
  · rw [if_neg h1, if_neg h1, if_neg h2, if_neg h2, if_pos h3, if_pos h3]; exact .inr (.inr (.inl ⟨rfl, rfl⟩))
  · rw [if_neg h1, if_neg h1, if_neg h2, if_neg h2, if_neg h3, if_neg h3]; exact .inr (.inr (.inr ⟨rfl, rfl⟩))
/-- The greatest sum of amounts. -/
def most : Nat := 2100000000000000
/-- All amounts added: how much, and whether that may be. -/
def sumL (l : List Nat) : Nat := if l.sum ≤ most then l.sum else 0
def sumIs (l : List Nat) : Bool := decide (l.sum ≤ most)
theorem sum_take_succ {l : List Nat} {k : Nat} (h : k < l.length) : (l.take (k + 1)).sum = (l.take k).sum + l.getD k 0 := by
  rw [List.take_succ_eq_append_getElem h, List.sum_append]
  simp [List.getD, List.getElem?_eq_getElem h]
theorem sum_take_le (l : List Nat) (k : Nat) : (l.take k).sum ≤ l.sum := by
  have e : l.sum = (l.take k).sum + (l.drop k).sum := by rw [← List.sum_append, List.take_append_drop]
  omega
theorem sum_over {l : List Nat} {k : Nat} (h : k < l.length) (h2 : most < (l.take k).sum + l.getD k 0) : ¬ l.sum ≤ most := by
  have := sum_take_le l (k + 1)
  rw [sum_take_succ h] at this
  omega
end Go.Proofs.YtckkcpplanfmhaaGreatDoor.Sha

/-
  Laws for walks: bytes that are read somewhere put behind an own row that has room, or that grows; slices that read as numbers of 64 bits. No conditions beyond those that each states.
-/
namespace Go.Proofs.YtckkcpplanfmhaaGreatDoor.Sha
open Go Go.RowKit
theorem run_append_src0 {P : Program} {w : World} (base : Nat) (t ty e : TypeId) (i : TypeInfo) (ht : P.underlying t = some (.slice e)) (hi : P.info? e = some i)
    (g n cap : Nat) (xs : List Value) (hown : w.ownsRow base e i.size (.slice (some ⟨g, 0, none⟩) n cap) n xs) (sp : Option Addr) (c : Nat) :
    (Builtin.append_ #[t, t] ty #[.slice (some ⟨g, 0, none⟩) n cap, .slice sp 0 c]).run P w = .ok (.slice (some ⟨g, 0, none⟩) n cap) w := by
  rcases hown.2 with ⟨h, _⟩ | ⟨g', cap', cur, h, _, _, hnc, _⟩
  · simp at h
  · simp only [Value.slice.injEq, Option.some.injEq, Addr.mk.injEq, and_true, true_and] at h
    obtain ⟨rfl, rfl⟩ := h
    cases sp with
    | none => simp [Builtin.append_, run_underlying ht, sizeOf, typeInfo, hi, Builtin.lenOf, Builtin.firstCells, hnc, storeCells]
    | some ad => simp [Builtin.append_, run_underlying ht, sizeOf, typeInfo, hi, Builtin.lenOf, Builtin.firstCells, hnc, storeCells, loadCells, loadCellsFrom]
theorem run_append_any0 {P : Program} {w : World} (base : Nat) (t ty e : TypeId) (i : TypeInfo) (ht : P.underlying t = some (.slice e)) (hi : P.info? e = some i)
    (v : Value) (n : Nat) (xs : List Value) (hown : w.ownsRow base e i.size v n xs) (sp : Option Addr) (c : Nat) :
    (Builtin.append_ #[t, t] ty #[v, .slice sp 0 c]).run P w = .ok v w := by
  rcases hown.2 with ⟨rfl, _⟩ | ⟨g, cap, cur, rfl, hr⟩
  · cases sp with
    | none => simp [Builtin.append_, run_underlying ht, sizeOf, typeInfo, hi, Builtin.lenOf, Builtin.firstCells]
    | some ad => simp [Builtin.append_, run_underlying ht, sizeOf, typeInfo, hi, Builtin.lenOf, Builtin.firstCells, loadCells, loadCellsFrom]
  · exact run_append_src0 base t ty e i ht hi g n cap xs hown sp c
/-- What is new stays new when its own row grows. -/
theorem own_grown {B : Nat} {w0 w w' : World} {base size n : Nat} {e : TypeId} {v : Value} {xs : List Value} (hb : Below B w0 w) (hB : B ≤ base) (hs : B ≤ w.heap.size) (h : w.ownsRow base e size v n xs) (hg : w.grownBy w' v.ownBlock) : Below B w0 w' := by
  refine hb.grown hg hs ?_
  intro k hk
  rcases h.2 with ⟨rfl, _⟩ | ⟨g, cap, cur, rfl, hbg, _⟩
  · cases hk
  · simp [Value.ownBlock] at hk
    omega
theorem own_len {w : World} {base n : Nat} {e : TypeId} {v : Value} {bs : List UInt8} (h : w.ownsRow base e 1 v n (bs.map bV)) : n = bs.length := by
  have := h.1
  rw [List.length_map] at this
  omega
/-- An own row, nil too, as a source. -/
theorem src_own {w : World} {base n : Nat} {v : Value} {bs : List UInt8} (h : w.ownsRow base 5 1 v n (bs.map bV)) : SrcB w v bs := by
  by_cases hn : 0 < n
  · exact src_of_own_any hn h
  · have hl := own_len h
    have hb : bs = [] := List.eq_nil_of_length_eq_zero (by omega)
    rcases h.2 with ⟨rfl, _⟩ | ⟨g, cap, cur, rfl, _⟩
    · exact .inl ⟨_, _, rfl, hb⟩
    · exact .inl ⟨_, _, by rw [show n = 0 by omega], hb⟩
theorem own_kept {w w' : World} {base n size : Nat} {e : TypeId} {v : Value} {xs : List Value} (h : w.ownsRow base e size v n xs) (hb : Below w.heap.size w w') : w'.ownsRow base e size v n xs := by
  refine h.kept (row := none) ⟨hb.os, hb.tape, hb.output, hb.size, fun k hk _ => hb.block k hk⟩ ?_
  cases hv : v.ownBlock with
  | none => exact .inl rfl
  | some b => exact .inr (by simp)
theorem own_base {w : World} {base base' n size : Nat} {e : TypeId} {v : Value} {xs : List Value} (h : w.ownsRow base e size v n xs) (hb : base' ≤ base) : w.ownsRow base' e size v n xs := by
  refine ⟨h.1, ?_⟩
  rcases h.2 with h' | ⟨g, cap, cur, hv, hbg, r⟩
  · exact .inl h'
  · exact .inr ⟨g, cap, cur, hv, Nat.le_trans hb hbg, r⟩
/-- The slice v reads as these numbers of 64 bits. -/
def SrcU (w : World) (v : Value) (l : List Nat) : Prop :=
  (∃ sp cap, v = .slice sp 0 cap ∧ l = []) ∨
  (0 < l.length ∧ ∃ bb off cap, v = .slice (some ⟨bb, off, none⟩) l.length cap ∧ l.length ≤ cap ∧ ∀ j, j < l.length → w.cell? ⟨bb, off + j, none⟩ = some (.int .u64 (l.getD j 0 : Nat)))
theorem SrcU.below {w w' : World} {v : Value} {l : List Nat} (h : SrcU w v l) (hb : Below w.heap.size w w') : SrcU w' v l := by
  rcases h with h | ⟨h0, bb, off, cap, hv, hc, hs⟩
  · exact .inl h
  · exact .inr ⟨h0, bb, off, cap, hv, hc, fun j hj => by
      rw [hb.cell (p := ⟨bb, off + j, none⟩) (World.block_lt_of_cell? w _ (hs j hj))]
      exact hs j hj⟩
theorem SrcU.len {w : World} {sp : Option Addr} {n cap : Nat} {l : List Nat} (h : SrcU w (.slice sp n cap) l) : n = l.length := by
  rcases h with ⟨sp', cap', hv, rfl⟩ | ⟨_, _, _, _, hv, _, _⟩
  · cases hv; rfl
  · cases hv; rfl
end Go.Proofs.YtckkcpplanfmhaaGreatDoor.Sha

/-
  How the statements' arguments read: a slice of bytes or numbers that came in; a start that fits. No conditions.
-/
namespace Go.Proofs.YtckkcpplanfmhaaGreatDoor.Sha
open Go Go.ChangeShapes Go.WideShapes Go.ChangeAt Go.RowKit
theorem own : ownKnob Tryz.prog.godebug = none := by kernel_rfl
theorem laidOut : laidOutB Tryz.prog = true := by kernel_rfl
/-- A slice of integers that came in. -/
def IsRow (k : IntKind) (w : World) (a : Option Addr) (len cap : Nat) (zs : List Int) : Prop :=
  (a = none ∧ len = 0 ∧ cap = 0 ∧ zs = []) ∨
  ∃ x, a = some x ∧ len ≤ cap ∧ cap ≤ maxLen ∧ zs.length = cap ∧ (∀ i, i < zs.length → w.cell? (x.add i) = some (.int k (zs.getD i 0))) ∧ ∀ n ∈ zs, (Lit.int k n).wf = true
theorem byte_of {z : Int} (h : (Lit.int .u8 z).wf = true) : bv (UInt8.ofNat z.toNat) = z := by
  have hb := bounds_u8 h
  unfold bv
  rw [UInt8.toNat_ofNat']
  omega
theorem src_of_row {w : World} {a : Option Addr} {len cap : Nat} {zs : List Int} (h : IsRow .u8 w a len cap zs) : ∃ bs, SrcB w (.slice a len cap) bs := by
  rcases h with ⟨rfl, rfl, rfl, rfl⟩ | ⟨x, rfl, hl, hm, hz, hc, hw⟩
  · exact ⟨[], .inl ⟨_, _, rfl, rfl⟩⟩
  · by_cases h0 : len = 0
    · subst h0
      exact ⟨[], .inl ⟨_, _, rfl, rfl⟩⟩
    · obtain ⟨b, off, rfl, hcell⟩ := ints_at hc (by omega)
      have hlen : ((zs.take len).map fun z => UInt8.ofNat z.toNat).length = len := by rw [List.length_map, List.length_take]; omega
      refine ⟨(zs.take len).map fun z => UInt8.ofNat z.toNat, .inr ⟨by omega, b, off, cap, by rw [hlen], by omega, fun j hj => ?_⟩⟩
      rw [hlen] at hj
      have hj2 : j < zs.length := by omega
      rw [hcell j hj2]
      have e1 : zs.getD j 0 = zs[j] := by simp [List.getD, List.getElem?_eq_getElem hj2]
      have e2 : ((zs.take len).map fun z => UInt8.ofNat z.toNat).getD j 0 = UInt8.ofNat (zs[j]).toNat := by
        simp only [List.getD, List.getElem?_map]
        rw [List.getElem?_take_of_lt hj, List.getElem?_eq_getElem hj2]
        rfl
      rw [e1, e2, byte_of (hw _ (List.getElem_mem hj2))]
theorem IsRow.len {k : IntKind} {w : World} {a : Option Addr} {len cap : Nat} {zs : List Int} (h : IsRow k w a len cap zs) : len ≤ 9223372036854775807 := by
  rcases h with ⟨rfl, rfl, rfl, rfl⟩ | ⟨x, rfl, hl, hm, _⟩
  · omega
  · unfold maxLen at hm; omega
end Go.Proofs.YtckkcpplanfmhaaGreatDoor.Sha

/-
  compact.number answers what bytes are as a number, the lowest first; widthBehind how many bytes stand behind a first one; bytes.Clone copies; nothing that was there turns. Conditions: at most eight bytes (number); the bytes lie where the slice says.
-/
namespace Go.Proofs.YtckkcpplanfmhaaGreatDoor.Sha
open Go Go.RowKit
/-- How many bytes stand behind a first one. -/
def widN (n : Nat) : Nat := if n = 253 then 2 else if n = 254 then 4 else if n = 255 then 8 else 0
/-- A copy in memory that is new, or none. -/
def CopyB (w w' : World) (v : Value) (bs : List UInt8) : Prop := w'.ownsRow w.heap.size 5 1 v bs.length (bs.map bV) ∧ Below w.heap.size w w'
end Go.Proofs.YtckkcpplanfmhaaGreatDoor.Sha

/-
  compact.Read makes a Reader on a copy of the bytes; its inner call takes so many bytes, or tells that there are too few; Left and Err tell what is left and the first error. Conditions: the Reader stands as it should; the three errors are there.
-/
namespace Go.Proofs.YtckkcpplanfmhaaGreatDoor.Sha
open Go Go.RowKit
/-- The error number 100 + c of package api; none at 0. -/
def errV (E : Nat → Addr) : Nat → Value
  | 0 => .nilIface
  | i + 1 => .iface 250 (.pointer (some (E i)))
/-- The three errors that a Reader answers are there. -/
def Er (w : World) (E : Nat → Addr) : Prop :=
  w.cell? ⟨15, 0, none⟩ = some (errV E 1) ∧ w.cell? ⟨0, 0, none⟩ = some (errV E 2) ∧ w.cell? ⟨11, 0, none⟩ = some (errV E 4)
theorem Er.below {w w' : World} {E : Nat → Addr} (h : Er w E) (hb : Below w.heap.size w w') : Er w' E := by
  obtain ⟨a, b, c⟩ := h
  exact ⟨by rw [hb.cell (p := ⟨15, 0, none⟩) (World.block_lt_of_cell? w _ a)]; exact a, by rw [hb.cell (p := ⟨0, 0, none⟩) (World.block_lt_of_cell? w _ b)]; exact b, by rw [hb.cell (p := ⟨11, 0, none⟩) (World.block_lt_of_cell? w _ c)]; exact c⟩
/-- What lies behind a slice lies in this block. -/
def AtB (v : Value) (m : Nat) : Prop := ∀ sp n cap, v = .slice (some sp) n cap → 0 < n → sp.block = m
theorem SrcB.grown {w w' : World} {v : Value} {bs : List UInt8} {m r : Nat} (h : SrcB w v bs) (ha : AtB v m) (hm : m ≠ r) (hg : w.grownBy w' (some r)) : SrcB w' v bs := by
  rcases h with h | ⟨h0, bb, off, cap, hv, hc, hs⟩
  · exact .inl h
  · refine .inr ⟨h0, bb, off, cap, hv, hc, fun j hj => hg.cell (hs j hj) (fun e => ?_)⟩
    have e1 := ha ⟨bb, off, none⟩ _ _ hv h0
    have e2 := Option.some.inj e
    exact hm (by rw [← e1, ← e2])
/-- Taking k bytes: what is taken, what is left, the error. -/
def takeL (k : Nat) (bs : List UInt8) (c : Nat) : List UInt8 × List UInt8 × Nat := if c ≠ 0 then ([], bs, c) else if bs.length < k then ([], bs, 1) else (bs.take k, bs.drop k, 0)
section
variable {P : Program} {w : World} {ops : Array Oper} {rest : List Oper} {o : Oper} {a : Act} {Q : Exit → Act → World → Prop}
end
theorem SrcB.shape' {w : World} {v : Value} {bs : List UInt8} (h : SrcB w v bs) : ∃ sp n cap, v = .slice sp n cap ∧ n = bs.length ∧ n ≤ cap := by
  rcases h with ⟨sp, cap, rfl, rfl⟩ | ⟨_, bb, off, cap, rfl, hc, _⟩
  · exact ⟨_, _, _, rfl, rfl, Nat.zero_le _⟩
  · exact ⟨_, _, _, rfl, rfl, hc⟩
end Go.Proofs.YtckkcpplanfmhaaGreatDoor.Sha

/-
  The statements' own sight of errors: package api's errors are told apart; an error as plain data; whether an error is the one of a number. Conditions: the errors are there, each its own.
-/
namespace Go.Proofs.YtckkcpplanfmhaaGreatDoor.Sha
open Go Go.RowKit
/-- Where package api's errors stand, in their order. -/
def errG : List Nat := [15, 0, 12, 11, 2, 3, 10, 13, 16, 17, 18, 9, 5, 7, 6, 1, 8, 4, 19, 20, 21, 22, 23, 24, 25]
/-- All errors of package api are there, each its own. -/
def Errs (w : World) (E : Nat → Addr) : Prop :=
  (∀ i, i < 25 → w.cell? ⟨errG.getD i 0, 0, none⟩ = some (errV E (i + 1)) ∧ ∃ c t, w.heap[(E i).block]? = some (.cells c t (0, 0))) ∧ ∀ i j, i < 25 → j < 25 → E i = E j → i = j
theorem Errs.below {w w' : World} {E : Nat → Addr} (h : Errs w E) (hb : Below w.heap.size w w') : Errs w' E := by
  refine ⟨fun i hi => ?_, h.2⟩
  obtain ⟨h1, c, t, h2⟩ := h.1 i hi
  refine ⟨?_, c, t, ?_⟩
  · rw [hb.cell (p := ⟨errG.getD i 0, 0, none⟩) (World.block_lt_of_cell? w _ h1)]
    exact h1
  · rw [hb.block _ (Array.getElem?_eq_some_iff.1 h2).1]
    exact h2
theorem Er.lt {w : World} {E : Nat → Addr} {r : Nat} (h : Er w E) (hr : w.heap.size ≤ r) : 15 ≠ r ∧ 0 ≠ r ∧ 11 ≠ r := by
  have h1 : 15 < w.heap.size := World.block_lt_of_cell? w _ h.1
  have h2 : 0 < w.heap.size := World.block_lt_of_cell? w _ h.2.1
  have h3 : 11 < w.heap.size := World.block_lt_of_cell? w _ h.2.2
  exact ⟨by omega, by omega, by omega⟩
theorem info_err : (Tryz.prog.info? 250).map (·.comparable) = some true := by kernel_rfl
theorem eql_same (a : Addr) (W : World) : (binOp .eql 37 (.iface 250 (.pointer (some a))) (.iface 250 (.pointer (some a)))).run Tryz.prog W = .ok (.bool true) W := by
  obtain ⟨i, hi, hc⟩ := Option.map_eq_some_iff.1 info_err
  obtain ⟨j, hj, hs⟩ := Option.map_eq_some_iff.1 (show (Tryz.prog.info? 267).map (·.size) = some 1 by kernel_rfl)
  exact run_eql_iface_ptr_same W a Tryz.underlying37 Tryz.underlying250 hi hc hj
theorem eql_other {a b : Addr} {W : World} (hne : a ≠ b) (ha : ∃ c t, W.heap[a.block]? = some (.cells c t (0, 0))) (hb : ∃ c t, W.heap[b.block]? = some (.cells c t (0, 0))) :
    (binOp .eql 37 (.iface 250 (.pointer (some a))) (.iface 250 (.pointer (some b)))).run Tryz.prog W = .ok (.bool false) W := by
  obtain ⟨i, hi, hc⟩ := Option.map_eq_some_iff.1 info_err
  obtain ⟨j, hj, hs⟩ := Option.map_eq_some_iff.1 (show (Tryz.prog.info? 267).map (·.size) = some 1 by kernel_rfl)
  obtain ⟨ca, ta, ha⟩ := ha
  obtain ⟨cb, tb, hb⟩ := hb
  exact run_eql_iface_ptr_other W Tryz.underlying37 Tryz.underlying250 hi hc hj (by omega) hne ha hb
set_option maxRecDepth 100000 in
/-- Two of the errors: the same only if they are one. -/
theorem alike_err (E : Nat → Addr) (i j : Nat) (b : Bool) (w : World) (hE : Errs w E) (hi : i < 25) (hj : j < 25) (hb : b = decide (i = j)) :
    Calls Tryz.prog 107 #[errV E (i + 1), errV E (j + 1)] w fun e w' => e = .returned (.bool b) ∧ w = w' := by
  have hq : (binOp .eql 37 (.iface 250 (.pointer (some (E i)))) (.iface 250 (.pointer (some (E j))))).run Tryz.prog w = .ok (.bool b) w := by
    by_cases h : i = j
    · subst h
      rw [hb, decide_eq_true rfl]
      exact eql_same _ _
    · rw [hb, decide_eq_false h]
      exact eql_other (fun e => h (hE.2 i j hi hj e)) (hE.1 i hi).2 (hE.1 j hj).2
  show Calls Tryz.prog 107 #[.iface 250 (.pointer (some (E i))), .iface 250 (.pointer (some (E j)))] w _
  obtain ⟨a1, h1⟩ : ∃ a1, a1 = E i := ⟨_, rfl⟩
  obtain ⟨a2, h2⟩ : ∃ a2, a2 = E j := ⟨_, rfl⟩
  rw [← h1, ← h2] at hq ⊢
  clear h1 h2 hE hi hj hb
  go_enter Tryz.func107, Tryz.ntmps107
  go_wp2
  go_ret
  exact ⟨rfl, rfl⟩
/-- The list of the errors. -/
def errL (E : Nat → Addr) : List Value := [.iface 250 (.pointer (some (E 0))), .iface 250 (.pointer (some (E 1))), .iface 250 (.pointer (some (E 2))), .iface 250 (.pointer (some (E 3))), .iface 250 (.pointer (some (E 4))), .iface 250 (.pointer (some (E 5))), .iface 250 (.pointer (some (E 6))), .iface 250 (.pointer (some (E 7))), .iface 250 (.pointer (some (E 8))), .iface 250 (.pointer (some (E 9))), .iface 250 (.pointer (some (E 10))), .iface 250 (.pointer (some (E 11))), .iface 250 (.pointer (some (E 12))), .iface 250 (.pointer (some (E 13))), .iface 250 (.pointer (some (E 14))), .iface 250 (.pointer (some (E 15))), .iface 250 (.pointer (some (E 16))), .iface 250 (.pointer (some (E 17))), .iface 250 (.pointer (some (E 18))), .iface 250 (.pointer (some (E 19))), .iface 250 (.pointer (some (E 20))), .iface 250 (.pointer (some (E 21))), .iface 250 (.pointer (some (E 22))), .iface 250 (.pointer (some (E 23))), .iface 250 (.pointer (some (E 24)))]
theorem errL_get (E : Nat → Addr) : ∀ i, i < 25 → (errL E).toArray[i]? = some (errV E (i + 1)) := by
  intro i hi
  have h : i = 0 ∨ i = 1 ∨ i = 2 ∨ i = 3 ∨ i = 4 ∨ i = 5 ∨ i = 6 ∨ i = 7 ∨ i = 8 ∨ i = 9 ∨ i = 10 ∨ i = 11 ∨ i = 12 ∨ i = 13 ∨ i = 14 ∨ i = 15 ∨ i = 16 ∨ i = 17 ∨ i = 18 ∨ i = 19 ∨ i = 20 ∨ i = 21 ∨ i = 22 ∨ i = 23 ∨ i = 24 := by omega
  rcases h with rfl | rfl | rfl | rfl | rfl | rfl | rfl | rfl | rfl | rfl | rfl | rfl | rfl | rfl | rfl | rfl | rfl | rfl | rfl | rfl | rfl | rfl | rfl | rfl | rfl <;> rfl
set_option maxRecDepth 100000 in
set_option maxHeartbeats 1000000 in
theorem sentinels_any (E : Nat → Addr) (w : World) (hE : Errs w E) :
    Calls Tryz.prog 106 #[] w fun e w' => e = .returned (.slice (some ⟨w.heap.size, 0, none⟩) 25 25) ∧ w'.heap[w.heap.size]? = some (.cells (errL E).toArray 37 (0, 0)) ∧ Below w.heap.size w w' := by
  have c0 : w.cell? ⟨15, 0, none⟩ = some (.iface 250 (.pointer (some (E 0)))) := (hE.1 0 (by omega)).1
  have c1 : w.cell? ⟨0, 0, none⟩ = some (.iface 250 (.pointer (some (E 1)))) := (hE.1 1 (by omega)).1
  have c2 : w.cell? ⟨12, 0, none⟩ = some (.iface 250 (.pointer (some (E 2)))) := (hE.1 2 (by omega)).1
  have c3 : w.cell? ⟨11, 0, none⟩ = some (.iface 250 (.pointer (some (E 3)))) := (hE.1 3 (by omega)).1
  have c4 : w.cell? ⟨2, 0, none⟩ = some (.iface 250 (.pointer (some (E 4)))) := (hE.1 4 (by omega)).1
  have c5 : w.cell? ⟨3, 0, none⟩ = some (.iface 250 (.pointer (some (E 5)))) := (hE.1 5 (by omega)).1
  have c6 : w.cell? ⟨10, 0, none⟩ = some (.iface 250 (.pointer (some (E 6)))) := (hE.1 6 (by omega)).1
  have c7 : w.cell? ⟨13, 0, none⟩ = some (.iface 250 (.pointer (some (E 7)))) := (hE.1 7 (by omega)).1
  have c8 : w.cell? ⟨16, 0, none⟩ = some (.iface 250 (.pointer (some (E 8)))) := (hE.1 8 (by omega)).1
  have c9 : w.cell? ⟨17, 0, none⟩ = some (.iface 250 (.pointer (some (E 9)))) := (hE.1 9 (by omega)).1
  have c10 : w.cell? ⟨18, 0, none⟩ = some (.iface 250 (.pointer (some (E 10)))) := (hE.1 10 (by omega)).1
  have c11 : w.cell? ⟨9, 0, none⟩ = some (.iface 250 (.pointer (some (E 11)))) := (hE.1 11 (by omega)).1
  have c12 : w.cell? ⟨5, 0, none⟩ = some (.iface 250 (.pointer (some (E 12)))) := (hE.1 12 (by omega)).1
  have c13 : w.cell? ⟨7, 0, none⟩ = some (.iface 250 (.pointer (some (E 13)))) := (hE.1 13 (by omega)).1
  have c14 : w.cell? ⟨6, 0, none⟩ = some (.iface 250 (.pointer (some (E 14)))) := (hE.1 14 (by omega)).1
  have c15 : w.cell? ⟨1, 0, none⟩ = some (.iface 250 (.pointer (some (E 15)))) := (hE.1 15 (by omega)).1
  have c16 : w.cell? ⟨8, 0, none⟩ = some (.iface 250 (.pointer (some (E 16)))) := (hE.1 16 (by omega)).1
  have c17 : w.cell? ⟨4, 0, none⟩ = some (.iface 250 (.pointer (some (E 17)))) := (hE.1 17 (by omega)).1
  have c18 : w.cell? ⟨19, 0, none⟩ = some (.iface 250 (.pointer (some (E 18)))) := (hE.1 18 (by omega)).1
  have c19 : w.cell? ⟨20, 0, none⟩ = some (.iface 250 (.pointer (some (E 19)))) := (hE.1 19 (by omega)).1
  have c20 : w.cell? ⟨21, 0, none⟩ = some (.iface 250 (.pointer (some (E 20)))) := (hE.1 20 (by omega)).1
  have c21 : w.cell? ⟨22, 0, none⟩ = some (.iface 250 (.pointer (some (E 21)))) := (hE.1 21 (by omega)).1
  have c22 : w.cell? ⟨23, 0, none⟩ = some (.iface 250 (.pointer (some (E 22)))) := (hE.1 22 (by omega)).1
  have c23 : w.cell? ⟨24, 0, none⟩ = some (.iface 250 (.pointer (some (E 23)))) := (hE.1 23 (by omega)).1
  have c24 : w.cell? ⟨25, 0, none⟩ = some (.iface 250 (.pointer (some (E 24)))) := (hE.1 24 (by omega)).1
  clear hE
  go_enter Tryz.func106, Tryz.ntmps106
  go_wp2
  go_ret
  exact ⟨rfl, by rw [heap_alloc_new]; rfl, (Below.refl _ _).alloc (Nat.le_refl _) _⟩
def SnInv (E : Nat → Addr) (q : Nat) (w : World) (vi : Value) (wr : World) : Prop := ∃ k : Nat, k ≤ q ∧ vi = .int .i64 k ∧ wr.heap[w.heap.size]? = some (.cells (errL E).toArray 37 (0, 0)) ∧ Below w.heap.size w wr
set_option maxRecDepth 100000 in
/-- The number of an error. -/
theorem sentinel_any (E : Nat → Addr) (q : Nat) (kk : Int) (hkk : kk = ((101 + q : Nat) : Int)) (w : World) (hE : Errs w E) (hq : q < 25) :
    Calls Tryz.prog 80 #[errV E (q + 1)] w fun e w' => e = .returned (.int .i64 kk) ∧ Below w.heap.size w w' := by
  have HE := Lib.hid hE
  have HKK := Lib.hid hkk
  clear hE hkk
  show Calls Tryz.prog 80 #[.iface 250 (.pointer (some (E q)))] w _
  go_enter Tryz.func80, Tryz.ntmps80
  go_wp2_with fail
  refine (sentinels_any E _ HE.out).mono ?_
  rintro e w1 ⟨rfl, h1, hb1⟩
  have H1 := Lib.hid h1
  have B1 := Lib.hid hb1
  clear h1 hb1
  go_wp2_with fail
  go_loopw [4] (fun vi wr => SnInv E q w vi wr) (fun vi _ => 25 - (intOf vi).toNat)
  case atStart => exact ⟨0, by omega, rfl, H1.out, B1.out⟩
  case round =>
    clear H1 B1
    obtain ⟨k, hk, rfl, h1, hb⟩ := hrel
    have ck : wr.cell? ⟨w.heap.size, k, none⟩ = some (errV E (k + 1)) := by rw [cell_of_row _ _ _ _ _ _ h1]; exact errL_get E k (by omega)
    have H1 := Lib.hid h1
    have HB := Lib.hid hb
    clear h1 hb
    have hlt : (k : Int) < 25 := by omega
    by_cases hkq : k = q
    · have hb : true = decide (q = k) := (decide_eq_true hkq.symm).symm
      have HA := Lib.hid (alike_err E q k true wr (HE.out.below HB.out) hq (by omega) hb)
      have HQ : Hid (101 + (k : Int) = kk) := by show _ = _; rw [HKK.out]; omega
      clear hkq hb
      go_wp2_with fail
      refine HA.out.mono ?_
      rintro e w' ⟨rfl, rfl⟩
      go_wp2_with fail
      go_ret
      exact ⟨ret_int HQ.out, HB.out⟩
    · have hb : false = decide (q = k) := (decide_eq_false (fun e => hkq e.symm)).symm
      have HA := Lib.hid (alike_err E q k false wr (HE.out.below HB.out) hq (by omega) hb)
      have hk2 : k + 1 ≤ q := by omega
      clear hkq hb
      go_wp2_with fail
      refine HA.out.mono ?_
      rintro e w' ⟨rfl, rfl⟩
      go_wp2_with fail
      go_roundw
      case rel => exact ⟨k + 1, hk2, by go_num, H1.out, HB.out⟩
      case measure => simp [intOf]; omega
end Go.Proofs.YtckkcpplanfmhaaGreatDoor.Sha

/-
  The statements' own Number brings any number into its bound; nothing that was there turns. Condition: a bound from 1 on.
-/
namespace Go.Proofs.YtckkcpplanfmhaaGreatDoor.Sha
open Go Go.RowKit
set_option maxRecDepth 100000 in
theorem numb_any (x n : Int) (hn : 1 ≤ n) (hn2 : n ≤ 4611686018427387904) (hx : -9223372036854775808 ≤ x ∧ x ≤ 9223372036854775807) (w : World) :
    Calls Tryz.prog 15 #[.int .i64 x, .int .i64 n] w fun e w' => e = .returned (.int .i64 (numb x n)) ∧ w = w' := by
  have hb := tmod_bd x n hn
  obtain ⟨hb1, hb2⟩ := hb
  have hnz : (n == 0) = false := by rw [beq_eq_false_iff_ne]; omega
  have hnz' : ¬ n = 0 := by omega
  obtain ⟨hx1, hx2⟩ := hx
  obtain ⟨m, hm⟩ : ∃ m, x.tmod n = m := ⟨_, rfl⟩
  have hq : numb x n = if m < 0 then m + n else m := by unfold numb; rw [hm]
  rw [hm] at hb1 hb2
  have HQ := Lib.hid hq
  clear hq
  by_cases h : m < 0
  · go_enter Tryz.func15, Tryz.ntmps15
    go_wp2
    go_ret
    exact ⟨by rw [HQ.out, if_pos h]; rfl, rfl⟩
  · go_enter Tryz.func15, Tryz.ntmps15
    go_wp2
    go_ret
    exact ⟨by rw [HQ.out, if_neg (by omega)]; rfl, rfl⟩
end Go.Proofs.YtckkcpplanfmhaaGreatDoor.Sha

/-
  The statements' own SameHash tells whether two digests are the same; Number brings any number into its bound; nothing that was there turns. Conditions: digests of 32 bytes; a bound from 1 on.
-/
namespace Go.Proofs.YtckkcpplanfmhaaGreatDoor.Sha
open Go Go.RowKit
theorem list_eq_of {x y : List UInt8} (hx : x.length = 32) (hy : y.length = 32) (h : ∀ j, j < 32 → x.getD j 0 = y.getD j 0) : x = y := by
  apply List.ext_getElem (by omega)
  intro i h1 h2
  have := h i (by omega)
  simpa [List.getD, List.getElem?_eq_getElem h1, List.getElem?_eq_getElem h2] using this
def SmInv (x y : List UInt8) (w : World) (i : Value) (wr : World) : Prop :=
  ∃ k : Nat, k ≤ 32 ∧ i = .int .i64 k ∧ (∀ j, j < k → x.getD j 0 = y.getD j 0) ∧ wr.heap[w.heap.size]? = some (.cells (x.map bV).toArray 44 (0, 0)) ∧ wr.heap[w.heap.size + 1]? = some (.cells (y.map bV).toArray 44 (0, 0)) ∧ Below w.heap.size w wr
def SmPost (b : Bool) (w : World) (e : Ending) (w' : World) : Prop := e = .returned (.bool b) ∧ Below w.heap.size w w'
set_option maxRecDepth 100000 in
theorem same_any (x y : List UInt8) (hx : x.length = 32) (hy : y.length = 32) (w : World) :
    Calls Tryz.prog 27 #[.agg (x.map bV).toArray, .agg (y.map bV).toArray] w (SmPost (decide (x = y)) w) := by
  have HX := Lib.hid hx
  have HY := Lib.hid hy
  clear hx hy
  go_enter Tryz.func27, Tryz.ntmps27
  go_wp2_with fail
  go_loopw [5] (fun i wr => SmInv x y w i wr) (fun i _ => 32 - (intOf i).toNat)
  case atStart => exact ⟨0, by omega, rfl, fun j hj => by omega, heap_alloc2_old _ _ _, heap_alloc2_new _ _ _, ((Below.refl _ _).alloc (Nat.le_refl _) _).alloc (by simp) _⟩
  case round =>
    obtain ⟨k, hk, rfl, he, h1, h2, hb⟩ := hrel
    have H1 := Lib.hid h1
    have H2 := Lib.hid h2
    have HE := Lib.hid he
    have HB := Lib.hid hb
    by_cases hlt : k < 32
    · obtain ⟨a, ha⟩ : ∃ a, a = x.getD k 0 := ⟨_, rfl⟩
      obtain ⟨b, hb2⟩ : ∃ b, b = y.getD k 0 := ⟨_, rfl⟩
      have c1 : wr.cell? ⟨w.heap.size, k, none⟩ = some (.int .u8 (bv a)) := by rw [cell_of_row _ _ _ _ _ _ h1, bV_get _ _ (by rw [HX.out]; exact hlt), ha]
      have c2 : wr.cell? ⟨w.heap.size + 1, k, none⟩ = some (.int .u8 (bv b)) := by rw [cell_of_row _ _ _ _ _ _ h2, bV_get _ _ (by rw [HY.out]; exact hlt), hb2]
      have p0 : 0 ≤ (k : Int) := by omega
      have q0 : (k : Int) < 32 := by omega
      have HA := Lib.hid ha
      have HB2 := Lib.hid hb2
      clear h1 h2 he hb ha hb2
      by_cases hab : a = b
      · have ht : (bv a == bv b) = true := by rw [bv_beq, decide_eq_true hab]
        have ht' : (bv a != bv b) = false := by simp [bne, ht]
        have HAB := Lib.hid hab
        clear hab
        go_wp2_with fail
        go_quiet (fail)
        go_wp2_with fail
        go_roundw
        case rel =>
          refine ⟨k + 1, by omega, by go_num, fun j hj => ?_, H1.out, H2.out, below_drewN HB.out _⟩
          by_cases hj2 : j < k
          · exact HE.out j hj2
          · obtain rfl : j = k := by omega
            rw [← HA.out, ← HB2.out, HAB.out]
        case measure => simp [intOf]; omega
      · have ht : (bv a == bv b) = false := by rw [bv_beq, decide_eq_false hab]
        have ht' : (bv a != bv b) = true := by simp [bne, ht]
        have HAB := Lib.hid hab
        clear hab
        go_wp2_with fail
        go_quiet (fail)
        go_wp2_with fail
        go_ret
        have hne : x ≠ y := fun e => HAB.out (by rw [HA.out, HB2.out, e])
        exact ⟨by rw [decide_eq_false hne]; rfl, below_drewN HB.out _⟩
    · have hge : ¬ (k : Int) < 32 := by omega
      have hxy : x = y := list_eq_of HX.out HY.out (fun j hj => he j (by omega))
      have HXY := Lib.hid hxy
      clear h1 h2 he hb hxy
      go_wp2_with fail
      go_ret
      exact ⟨by rw [decide_eq_true HXY.out]; rfl, HB.out⟩
end Go.Proofs.YtckkcpplanfmhaaGreatDoor.Sha

/-
  Plain mathematics of SHA-256 on 32-bit words, as the chapter gives it, and how the model's integers of kind u32 compute with such words. No program is imported. No conditions.
-/
namespace Go.Proofs.YtckkcpplanfmhaaGreatDoor.Sha
open Go
/-- A word as the model's integer. -/
def wv (x : UInt32) : Int := x.toNat
theorem wv_add (x y : UInt32) : IntKind.u32.wrap (wv x + wv y) = wv (x + y) := by
  unfold wv
  rw [IntKind.wrap_u32', UInt32.toNat_add]
  omega
theorem wv_sum (x y : UInt32) : (wv x + wv y) % 4294967296 = wv (x + y) := by
  rw [← wv_add, IntKind.wrap_u32']
theorem wv_xor (x y : UInt32) : bits .xor .u32 (wv x) (wv y) = wv (x ^^^ y) := by
  unfold wv
  rw [u32_xor_nat _ _ x.toNat_lt y.toNat_lt, UInt32.toNat_xor]
theorem wv_or (x y : UInt32) : bits .or .u32 (wv x) (wv y) = wv (x ||| y) := by
  unfold wv
  rw [u32_or_nat _ _ x.toNat_lt y.toNat_lt, UInt32.toNat_or]
theorem wv_and (x y : UInt32) : bits .and .u32 (wv x) (wv y) = wv (x &&& y) := by
  unfold wv
  rw [u32_and_nat _ _ x.toNat_lt y.toNat_lt, UInt32.toNat_and]
theorem wv_andNot (x y : UInt32) : bits .andNot .u32 (wv x) (wv y) = wv (x &&& ~~~y) := by
  unfold wv
  rw [u32_andNot_nat _ _ x.toNat_lt y.toNat_lt, UInt32.toNat_and, UInt32.toNat_not]
  rfl
/-- A word turned right by n bits. -/
def rotr (x : UInt32) (n : Nat) : UInt32 := (x >>> UInt32.ofNat n) ||| (x <<< UInt32.ofNat (32 - n))
theorem wv_shr (x : UInt32) (n : Nat) (h : n < 32) : wv x / 2 ^ n = wv (x >>> UInt32.ofNat n) := by
  unfold wv
  rw [UInt32.toNat_shiftRight, UInt32.toNat_ofNat_of_lt' (by show n < 2 ^ 32; omega), Nat.mod_eq_of_lt h, Nat.shiftRight_eq_div_pow]
  simp
theorem wv_shl (x : UInt32) (n : Nat) (h : n < 32) : IntKind.u32.wrap (wv x * 2 ^ n) = wv (x <<< UInt32.ofNat n) := by
  unfold wv
  rw [IntKind.wrap_u32', UInt32.toNat_shiftLeft, UInt32.toNat_ofNat_of_lt' (by show n < 2 ^ 32; omega), Nat.mod_eq_of_lt h, Nat.shiftLeft_eq]
  simp
theorem low5 (n : Nat) (h1 : 1 ≤ n) (h2 : n ≤ 31) : bits .and .u64 (IntKind.u64.wrap (-(n : Int))) 31 = 32 - (n : Int) := by
  have e : IntKind.u64.wrap (-(n : Int)) = ((18446744073709551616 - n : Nat) : Int) := by rw [IntKind.wrap_u64]; omega
  rw [e, show (31 : Int) = ((31 : Nat) : Int) from rfl, u64_and_nat _ _ (by omega) (by omega), show (31 : Nat) = 2 ^ 5 - 1 from rfl, Nat.and_two_pow_sub_one_eq_mod]
  omega
theorem rot_fact (x : UInt32) (n : Nat) (h1 : 1 ≤ n) (h2 : n ≤ 31) : bits .or .u32 (wv x * 2 ^ (32 - n) % 4294967296) (wv x / 2 ^ (32 - (32 - n))) = wv (rotr x n) := by
  rw [show 32 - (32 - n) = n by omega, ← IntKind.wrap_u32', wv_shl x _ (by omega), wv_shr x n (by omega), wv_or]
  unfold rotr
  rw [UInt32.or_comm]
def sS0 (x : UInt32) : UInt32 := rotr x 7 ^^^ rotr x 18 ^^^ (x >>> UInt32.ofNat 3)
def sS1 (x : UInt32) : UInt32 := rotr x 17 ^^^ rotr x 19 ^^^ (x >>> UInt32.ofNat 10)
def bS0 (x : UInt32) : UInt32 := rotr x 2 ^^^ rotr x 13 ^^^ rotr x 22
def bS1 (x : UInt32) : UInt32 := rotr x 6 ^^^ rotr x 11 ^^^ rotr x 25
theorem wv_shr3 (x : UInt32) : wv x / 8 = wv (x >>> UInt32.ofNat 3) := wv_shr x 3 (by omega)
theorem wv_shr10 (x : UInt32) : wv x / 1024 = wv (x >>> UInt32.ofNat 10) := wv_shr x 10 (by omega)
def wV (x : UInt32) : Value := .int .u32 (wv x)
/-- Four bytes read as a word, the highest first. -/
def rd (b : Nat → UInt8) (t : Nat) : UInt32 := ((b (4 * t)).toUInt32 <<< UInt32.ofNat 24) ||| ((b (4 * t + 1)).toUInt32 <<< UInt32.ofNat 16) ||| ((b (4 * t + 2)).toUInt32 <<< UInt32.ofNat 8) ||| (b (4 * t + 3)).toUInt32
def nextW (b : Nat → UInt8) (t : Nat) (l : List UInt32) : UInt32 :=
  if t < 16 then rd b t else sS1 (l.getD (t - 2) 0) + l.getD (t - 7) 0 + sS0 (l.getD (t - 15) 0) + l.getD (t - 16) 0
/-- The schedule's first t words. -/
def row (b : Nat → UInt8) : Nat → List UInt32
  | 0 => []
  | t + 1 => row b t ++ [nextW b t (row b t)]
theorem row_length (b : Nat → UInt8) : ∀ t, (row b t).length = t
  | 0 => rfl
  | t + 1 => by simp [row, row_length b t]
/-- The schedule's cells when t words stand. -/
def rowV (b : Nat → UInt8) (t : Nat) : List Value := (row b t).map wV ++ List.replicate (64 - t) (wV 0)
theorem rowV_set (b : Nat → UInt8) (t : Nat) (h : t < 64) : (rowV b t).toArray.setIfInBounds t (wV (nextW b t (row b t))) = (rowV b (t + 1)).toArray := by
  rw [List.setIfInBounds_toArray]
  congr 1
  unfold rowV
  rw [List.set_append_right _ _ (by simp [row_length])]
  simp only [List.length_map, row_length, Nat.sub_self]
  rw [show 64 - t = (64 - (t + 1)) + 1 by omega, List.replicate_succ, List.set_cons_zero]
  simp [row]
theorem rowV_get (b : Nat → UInt8) (t j : Nat) (h : j < t) : (rowV b t).toArray[j]? = some (.int .u32 (wv ((row b t).getD j 0))) := by
  unfold rowV
  rw [List.getElem?_toArray, List.getElem?_append_left (by simp [row_length]; omega), List.getElem?_map, List.getElem?_eq_getElem (by rw [row_length]; exact h)]
  simp [wV, List.getD, List.getElem?_eq_getElem (show j < (row b t).length by rw [row_length]; exact h)]
theorem wv_byte (x : UInt8) : bv x = wv x.toUInt32 := by
  unfold bv wv
  simp
theorem wv_shl24 (x : UInt32) : wv x * 16777216 % 4294967296 = wv (x <<< UInt32.ofNat 24) := by
  rw [← wv_shl x 24 (by omega), IntKind.wrap_u32']; rfl
theorem wv_shl16 (x : UInt32) : wv x * 65536 % 4294967296 = wv (x <<< UInt32.ofNat 16) := by
  rw [← wv_shl x 16 (by omega), IntKind.wrap_u32']; rfl
theorem wv_shl8 (x : UInt32) : wv x * 256 % 4294967296 = wv (x <<< UInt32.ofNat 8) := by
  rw [← wv_shl x 8 (by omega), IntKind.wrap_u32']; rfl
theorem bv_u32 (x : UInt8) : bv x % 4294967296 = wv x.toUInt32 := by
  have := bv_bd x
  rw [← wv_byte]
  omega
theorem bv_u32' (x : UInt8) : IntKind.u32.wrap (bv x) = wv x.toUInt32 := by rw [IntKind.wrap_u32', bv_u32]
theorem wr_shl24 (x : UInt32) : IntKind.u32.wrap (wv x * 16777216) = wv (x <<< UInt32.ofNat 24) := by rw [IntKind.wrap_u32', wv_shl24]
theorem wr_shl16 (x : UInt32) : IntKind.u32.wrap (wv x * 65536) = wv (x <<< UInt32.ofNat 16) := by rw [IntKind.wrap_u32', wv_shl16]
theorem wr_shl8 (x : UInt32) : IntKind.u32.wrap (wv x * 256) = wv (x <<< UInt32.ofNat 8) := by rw [IntKind.wrap_u32', wv_shl8]
theorem rowV_zero (b : Nat → UInt8) (t j : Nat) (h1 : t ≤ j) (h2 : j < 64) : (rowV b t).toArray[j]? = some (wV 0) := by
  unfold rowV
  rw [List.getElem?_toArray, List.getElem?_append_right (by simp [row_length]; omega), List.length_map, row_length, List.getElem?_replicate, if_pos (by omega)]
theorem nextW_low (b : Nat → UInt8) (t : Nat) (l : List UInt32) (h : t < 16) : nextW b t l = rd b t := by unfold nextW; rw [if_pos h]
theorem nextW_high (b : Nat → UInt8) (t : Nat) (l : List UInt32) (h : 16 ≤ t) : nextW b t l = sS1 (l.getD (t - 2) 0) + l.getD (t - 7) 0 + sS0 (l.getD (t - 15) 0) + l.getD (t - 16) 0 := by
  unfold nextW; rw [if_neg (by omega)]
theorem wV_one (l : List UInt32) : (l.map wV).toArray.all (·.oneCell') = true := by
  rw [Array.all_eq_true_iff_forall_mem]
  intro x hx
  simp at hx
  obtain ⟨a, _, rfl⟩ := hx
  rfl
theorem rowV_all (b : Nat → UInt8) : rowV b 64 = (row b 64).map wV := by simp [rowV]
/-- The eight words while a block is worked in. -/
structure St where
  a : UInt32
  b : UInt32
  c : UInt32
  d : UInt32
  e : UInt32
  f : UInt32
  g : UInt32
  h : UInt32
def St.cells (s : St) : List Value := [wV s.a, wV s.b, wV s.c, wV s.d, wV s.e, wV s.f, wV s.g, wV s.h]
def T1 (s : St) (k w : UInt32) : UInt32 := s.h + bS1 s.e + ((s.e &&& s.f) ^^^ (s.g &&& ~~~s.e)) + k + w
def T2 (s : St) : UInt32 := bS0 s.a + ((s.a &&& s.b) ^^^ (s.a &&& s.c) ^^^ (s.b &&& s.c))
def St.round (s : St) (k w : UInt32) : St := ⟨T1 s k w + T2 s, s.a, s.b, s.c, s.d + T1 s k w, s.e, s.f, s.g⟩
def kList : List UInt32 := [
  1116352408, 1899447441, 3049323471, 3921009573, 961987163, 1508970993, 2453635748, 2870763221,
  3624381080, 310598401, 607225278, 1426881987, 1925078388, 2162078206, 2614888103, 3248222580,
  3835390401, 4022224774, 264347078, 604807628, 770255983, 1249150122, 1555081692, 1996064986,
  2554220882, 2821834349, 2952996808, 3210313671, 3336571891, 3584528711, 113926993, 338241895,
  666307205, 773529912, 1294757372, 1396182291, 1695183700, 1986661051, 2177026350, 2456956037,
  2730485921, 2820302411, 3259730800, 3345764771, 3516065817, 3600352804, 4094571909, 275423344,
  430227734, 506948616, 659060556, 883997877, 958139571, 1322822218, 1537002063, 1747873779,
  1955562222, 2024104815, 2227730452, 2361852424, 2428436474, 2756734187, 3204031479, 3329325298]
def kW (t : Nat) : UInt32 := kList.getD t 0
/-- t rounds over a schedule. -/
def rounds (l : List UInt32) (s : St) : Nat → St
  | 0 => s
  | t + 1 => (rounds l s t).round (kW t) (l.getD t 0)
def St.plus (s r : St) : St := ⟨s.a + r.a, s.b + r.b, s.c + r.c, s.d + r.d, s.e + r.e, s.f + r.f, s.g + r.g, s.h + r.h⟩
/-- One block of 64 bytes worked in. -/
def compress (s : St) (b : Nat → UInt8) : St := s.plus (rounds (row b 64) s 64)
def start : St := ⟨0x6a09e667, 0xbb67ae85, 0x3c6ef372, 0xa54ff53a, 0x510e527f, 0x9b05688c, 0x1f83d9ab, 0x5be0cd19⟩
theorem St.cells_length (s : St) : s.cells.length = 8 := rfl
theorem wV_get (l : List UInt32) (j : Nat) (h : j < l.length) : (l.map wV).toArray[j]? = some (.int .u32 (wv (l.getD j 0))) := by
  simp [wV, List.getD, List.getElem?_eq_getElem h]
end Go.Proofs.YtckkcpplanfmhaaGreatDoor.Sha

/-
  The small turning functions of package digest answer what the chapter says of them, for every word. No conditions.
-/
namespace Go.Proofs.YtckkcpplanfmhaaGreatDoor.Sha
open Go Go.RowKit
set_option maxRecDepth 100000 in
theorem rot_any (x : UInt32) (n : Nat) (k : Int) (hk : k = -(n : Int)) (h1 : 1 ≤ n) (h2 : n ≤ 31) (w : World) :
    Calls Tryz.prog 176 #[.int .u32 (wv x), .int .i64 k] w fun e w' => e = .returned (.int .u32 (wv (rotr x n))) ∧ w = w' := by
  subst hk
  have hl := low5 n h1 h2
  go_enter Tryz.func176, Tryz.ntmps176
  go_wp2
  go_ret
  exact ⟨ret_int (rot_fact x n h1 h2), rfl⟩
set_option maxRecDepth 100000 in
theorem turn_any (x : UInt32) (n : Nat) (k : Int) (hk : k = (n : Int)) (h1 : 1 ≤ n) (h2 : n ≤ 31) (w : World) :
    Calls Tryz.prog 157 #[.int .u32 (wv x), .int .i64 k] w fun e w' => e = .returned (.int .u32 (wv (rotr x n))) ∧ w = w' := by
  subst hk
  go_enter Tryz.func157, Tryz.ntmps157
  go_wp2_with fail
  refine (rot_any x n _ rfl h1 h2 _).mono ?_
  rintro e w' ⟨rfl, rfl⟩
  go_wp2_with fail
  go_ret
  exact ⟨rfl, rfl⟩
section
set_option maxRecDepth 100000 in
attribute [local go_sem] wv_xor wv_shr3 wv_shr10
theorem sS0_any (x : UInt32) (w : World) :
    Calls Tryz.prog 156 #[.int .u32 (wv x)] w fun e w' => e = .returned (.int .u32 (wv (sS0 x))) ∧ w = w' := by
  go_enter Tryz.func156, Tryz.ntmps156
  go_wp2_with fail
  refine (turn_any x 7 _ rfl (by omega) (by omega) _).mono ?_
  rintro e w' ⟨rfl, rfl⟩
  go_wp2_with fail
  refine (turn_any x 18 _ rfl (by omega) (by omega) _).mono ?_
  rintro e w' ⟨rfl, rfl⟩
  go_wp2_with fail
  go_ret
  exact ⟨rfl, rfl⟩
set_option maxRecDepth 100000 in
theorem sS1_any (x : UInt32) (w : World) :
    Calls Tryz.prog 155 #[.int .u32 (wv x)] w fun e w' => e = .returned (.int .u32 (wv (sS1 x))) ∧ w = w' := by
  go_enter Tryz.func155, Tryz.ntmps155
  go_wp2_with fail
  refine (turn_any x 17 _ rfl (by omega) (by omega) _).mono ?_
  rintro e w' ⟨rfl, rfl⟩
  go_wp2_with fail
  refine (turn_any x 19 _ rfl (by omega) (by omega) _).mono ?_
  rintro e w' ⟨rfl, rfl⟩
  go_wp2_with fail
  go_ret
  exact ⟨rfl, rfl⟩
set_option maxRecDepth 100000 in
theorem bS0_any (x : UInt32) (w : World) :
    Calls Tryz.prog 129 #[.int .u32 (wv x)] w fun e w' => e = .returned (.int .u32 (wv (bS0 x))) ∧ w = w' := by
  go_enter Tryz.func129, Tryz.ntmps129
  go_wp2_with fail
  refine (turn_any x 2 _ rfl (by omega) (by omega) _).mono ?_
  rintro e w' ⟨rfl, rfl⟩
  go_wp2_with fail
  refine (turn_any x 13 _ rfl (by omega) (by omega) _).mono ?_
  rintro e w' ⟨rfl, rfl⟩
  go_wp2_with fail
  refine (turn_any x 22 _ rfl (by omega) (by omega) _).mono ?_
  rintro e w' ⟨rfl, rfl⟩
  go_wp2_with fail
  go_ret
  exact ⟨rfl, rfl⟩
set_option maxRecDepth 100000 in
theorem bS1_any (x : UInt32) (w : World) :
    Calls Tryz.prog 128 #[.int .u32 (wv x)] w fun e w' => e = .returned (.int .u32 (wv (bS1 x))) ∧ w = w' := by
  go_enter Tryz.func128, Tryz.ntmps128
  go_wp2_with fail
  refine (turn_any x 6 _ rfl (by omega) (by omega) _).mono ?_
  rintro e w' ⟨rfl, rfl⟩
  go_wp2_with fail
  refine (turn_any x 11 _ rfl (by omega) (by omega) _).mono ?_
  rintro e w' ⟨rfl, rfl⟩
  go_wp2_with fail
  refine (turn_any x 25 _ rfl (by omega) (by omega) _).mono ?_
  rintro e w' ⟨rfl, rfl⟩
  go_wp2_with fail
  go_ret
  exact ⟨rfl, rfl⟩
end
end Go.Proofs.YtckkcpplanfmhaaGreatDoor.Sha
