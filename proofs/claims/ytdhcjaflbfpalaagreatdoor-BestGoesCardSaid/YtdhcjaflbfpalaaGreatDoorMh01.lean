/-
  Texts of this proof joined into one file: ShaLib, Base, CmpMath, CmpLib, Args, CmpNum, CmpRdr, ShaSame, ShaMath, ShaSig, ShaSpread. What each holds, and under which conditions, its own first sentence tells.
-/
import Derived.WalkKit
import Derived.Laws.CopyOwn
import Derived.Deep.MidRow
import Derived.Lib.Hide
import Derived.Deep.Light
import Derived.StillTailTactics
import Derived.LoopTactic
import Derived.LoopN
import Derived.RegionTactic
import Derived.Deep.QuietTactic
import Derived.BigQuiet
import Derived.Laws.OwnMore
import Derived.WalkSmall
import Derived.Maps.RangeWalk
import Derived.Maps.AppendAt
import Derived.Deep.DeepFit
import Derived.ProofKit
import Derived.OpenShut
import Derived.ShutString
import Derived.ChangeOld
import Derived.Deep.DeepHandedRow
import Derived.Lib.LaidTab
import Derived.Laws.Bits64
import Derived.Laws.Bits64b
import Derived.Laws.BitsAllLaws
import Derived.Stop.IfaceNil
import Derived.Test.YtdhcjaflbfpalaaGreatDoorProg
/-
  Laws for walks, of no program: a slice cut from its lower bound on; a copy into a block that is known whole; many cells stored into such a block. No conditions beyond those that each states.
-/
namespace Go.Proofs.YtdhcjaflbfpalaaGreatDoor.Sha
open Go Go.RowKit
theorem splice_cons {α : Type} (L : List α) (o : Nat) (v : α) (r : List α) (h : o < L.length) : splice L o (v :: r) = splice (L.set o v) (o + 1) r := by
  have hA : (L.take o).length = o := by rw [List.length_take]; omega
  have e : L.set o v = L.take o ++ v :: L.drop (o + 1) := by rw [List.set_eq_take_append_cons_drop, if_pos h]
  have e1 : (L.take o ++ v :: L.drop (o + 1)).take (o + 1) = L.take o ++ [v] := by
    rw [List.take_append, hA, List.take_of_length_le (show (L.take o).length ≤ o + 1 by omega), show o + 1 - o = 1 by omega]
    rfl
  have e2 : (L.take o ++ v :: L.drop (o + 1)).drop (o + 1 + r.length) = L.drop (o + (v :: r).length) := by
    rw [List.drop_append, hA, List.drop_of_length_le (show (L.take o).length ≤ o + 1 + r.length by omega), show o + 1 + r.length - o = r.length + 1 by omega, List.drop_succ_cons, List.drop_drop, List.nil_append]
    congr 1
    simp
    omega
  unfold splice
  rw [e, e1, e2]
  simp
theorem splice_nil {α : Type} (L : List α) (o : Nat) : splice L o [] = L := by simp [splice]
theorem setCells_heap (B T : Nat) : ∀ (vs : List Value) (o : Nat) (cur : List Value) (w : World), w.heap[B]? = some (.cells cur.toArray T (0, 0)) → o + vs.length ≤ cur.length →
    (w.setCells B o vs).heap[B]? = some (.cells (splice cur o vs).toArray T (0, 0))
  | [], o, cur, w, h, _ => by rw [splice_nil]; exact h
  | v :: r, o, cur, w, h, hl => by
    have hl' : o + (r.length + 1) ≤ cur.length := hl
    rw [splice_cons cur o v r (by omega)]
    refine setCells_heap B T r (o + 1) (cur.set o v) _ ?_ (by rw [List.length_set]; omega)
    rw [heap_setCell_same w B o _ _ _ h, List.setIfInBounds_toArray]
theorem setCells_other (B : Nat) : ∀ (vs : List Value) (o : Nat) (w : World) (k : Nat), k ≠ B → (w.setCells B o vs).heap[k]? = w.heap[k]?
  | [], _, _, _, _ => rfl
  | v :: r, o, w, k, h => by
    show ((w.setCell ⟨B, o, none⟩ v).setCells B (o + 1) r).heap[k]? = _
    rw [setCells_other B r (o + 1) _ k h, heap_setCell_other _ _ _ _ h]
theorem setCells_rest (B : Nat) : ∀ (vs : List Value) (o : Nat) (w : World), (w.setCells B o vs).heap.size = w.heap.size ∧ (w.setCells B o vs).os = w.os ∧ (w.setCells B o vs).tape = w.tape ∧ (w.setCells B o vs).output = w.output
  | [], _, _ => ⟨rfl, rfl, rfl, rfl⟩
  | v :: r, o, w => by
    obtain ⟨a, b, c, d⟩ := setCells_rest B r (o + 1) (w.setCell ⟨B, o, none⟩ v)
    exact ⟨a.trans (by simp [World.setCell]), b, c, d⟩
theorem grownBy_setCells (B : Nat) (vs : List Value) (o : Nat) (w : World) : w.grownBy (w.setCells B o vs) (some B) := by
  obtain ⟨a, b, c, d⟩ := setCells_rest B vs o w
  exact ⟨b, c, d, Nat.le_of_eq a.symm, fun k _ hne => setCells_other B vs o w k (fun e => hne (by rw [e]))⟩
theorem grownBy_setRow (B : Nat) (cs : Array Value) (w : World) : w.grownBy (w.setRow B cs) (some B) :=
  ⟨rfl, rfl, rfl, by simp, fun k _ hne => setRow_other w B k cs (fun e => hne (by rw [e]))⟩
theorem grownBy_refl (w : World) (row : Option Nat) : w.grownBy w row := ⟨rfl, rfl, rfl, Nat.le_refl _, fun _ _ _ => rfl⟩
theorem wpList_copy_into {P : Program} {w : World} {ops : Array Oper} {rest : List Oper} {o : Oper} {a : Act} {Q : Exit → Act → World → Prop} (hgd : o.guard = none) (d s : Operand) (dT sT : TypeId)
    (ho : o.op = .call { callee := .builtin .copy, args := #[d, s], argTypes := #[dT, sT] }) (elem : TypeId) (hu : P.underlying dT = some (.slice elem)) (hsz : (P.info? elem).map (·.size) = some 1)
    (dp sp : Option Addr) (dLen dCap sLen sCap : Nat) (hd : a.eval d = .slice dp dLen dCap) (hs : a.eval s = .slice sp sLen sCap)
    (g off : Nat) (cur : List Value) (t : TypeId) (hg : w.heap[g]? = some (.cells cur.toArray t (0, 0))) (cs : List Value) (hn : cs.length = Nat.min sLen dLen)
    (hpos : 0 < cs.length → dp = some ⟨g, off, none⟩ ∧ ∃ ad, sp = some ad ∧ ∀ j v, cs[j]? = some v → w.cell? (ad.add j) = some v)
    (hfit : off + cs.length ≤ cur.length) (h1 : ∀ v ∈ cs, v.oneCell' = true)
    (h : ∀ w', Hid (w'.heap[g]? = some (.cells (splice cur off cs).toArray t (0, 0))) → Hid (w.grownBy w' (some g)) → wpList P ops Q rest (a.put o.dst (goInt cs.length)) w') :
    wpList P ops Q (o :: rest) a w := by
  by_cases h0 : cs.length = 0
  · obtain rfl : cs = [] := List.eq_nil_of_length_eq_zero h0
    refine wpList_copy_nothing hgd d s dT sT ho elem hu hsz dp sp dLen dCap sLen sCap hd hs (by simpa using hn.symm) ?_
    exact h w (show _ = _ by rw [splice_nil]; exact hg) (grownBy_refl _ _)
  · obtain ⟨rfl, ad, rfl, hsrc⟩ := hpos (by omega)
    refine wpList_copy_own hgd d s dT sT ho elem hu hsz g off dLen dCap ad sLen sCap hd hs cur.toArray t hg cs hn hsrc (by simpa using hfit) h1 ?_
    exact h _ (show _ = _ by simpa [splice] using setRow_heap w g _ _ t _ hg) (grownBy_setRow _ _ _)
theorem run_slice_lo {P : Program} {w : World} (t e : TypeId) (ad : Addr) (len cap n : Nat) (hu : P.underlying t = some (.slice e)) (hsz : (P.info? e).map (·.size) = some 1) (hn : n ≤ len) :
    ∃ ad', (n < cap → ad' = ad.add n) ∧ (Instr.sliceAt t (.slice (some ad) len cap) (some (.int .i64 n)) none none).run P w = .ok (.slice (some ad') (len - n) (cap - n)) w := by
  obtain ⟨i, hi, h1⟩ := Option.map_eq_some_iff.1 hsz
  have hel : P.elem t = e := by simp [Program.elem, hu]
  have hu' : P.underlying t = some (.slice (P.elem t)) := by rw [hel]; exact hu
  refine ⟨if cap = n then ad else ad.add n, fun h => by rw [if_neg (by omega)], ?_⟩
  rw [run_sliceAt_slice _ _ _ _ _ _ hu', run_slice_l _ _ _ _ _ hu' _ _ (by omega) (by omega)]
  rw [hel]
  simp [sizeOf, typeInfo, hi, h1, sliced, go_sem]
  split <;> rfl
theorem wpList_slice_lo {P : Program} {w : World} {ops : Array Oper} {rest : List Oper} {o : Oper} {a : Act} {Q : Exit → Act → World → Prop} (hgd : o.guard = none) (t : TypeId) (x l : Operand)
    (ho : o.op = .slice t x (some l) none none) (e : TypeId) (hu : P.underlying t = some (.slice e)) (hsz : (P.info? e).map (·.size) = some 1)
    (ad : Addr) (len cap n : Nat) (hx : a.eval x = .slice (some ad) len cap) (hl : a.eval l = .int .i64 n) (hn : n ≤ len)
    (h : ∀ ad', Hid (n < cap → ad' = ad.add n) → wpList P ops Q rest (a.put o.dst (.slice (some ad') (len - n) (cap - n))) w) : wpList P ops Q (o :: rest) a w := by
  refine wpList_plain hgd fun K hK => ?_
  obtain ⟨ad', h1, h2⟩ := run_slice_lo (P := P) (w := w) t e ad len cap n hu hsz hn
  unfold Oper.wp
  simp [execOp, ho, hx, hl, h2, Result.andThen]
  exact hK _ _ (h ad' h1)
theorem run_slice_arr {P : Program} {w : World} (t e N : Nat) (ad : Addr) (n : Nat) (hu : P.underlying t = some (.array N e)) (hsz : (P.info? e).map (·.size) = some 1) (hn : n < N) :
    (Instr.sliceAt t (.pointer (some ad)) (some (.int .i64 n)) none none).run P w = .ok (.slice (some (ad.add n)) (N - n) (N - n)) w := by
  obtain ⟨i, hi, h1⟩ := Option.map_eq_some_iff.1 hsz
  have hel : P.elem t = e := by simp [Program.elem, hu]
  have hal : P.arrayLen t = N := by simp [Program.arrayLen, hu]
  have hu' : P.underlying t = some (.array (P.arrayLen t) (P.elem t)) := by rw [hel, hal]; exact hu
  rw [run_sliceAt_array_l _ _ _ hu' _ _ (by omega) (by omega), hel, hal]
  simp [sizeOf, typeInfo, hi, h1, slicedAt, go_sem]
  omega
theorem wpList_slice_arr {P : Program} {w : World} {ops : Array Oper} {rest : List Oper} {o : Oper} {a : Act} {Q : Exit → Act → World → Prop} (hgd : o.guard = none) (t : TypeId) (x l : Operand)
    (ho : o.op = .slice t x (some l) none none) (e N : Nat) (hu : P.underlying t = some (.array N e)) (hsz : (P.info? e).map (·.size) = some 1)
    (ad : Addr) (n : Nat) (hx : a.eval x = .pointer (some ad)) (hl : a.eval l = .int .i64 n) (hn : n < N)
    (h : wpList P ops Q rest (a.put o.dst (.slice (some (ad.add n)) (N - n) (N - n))) w) : wpList P ops Q (o :: rest) a w := by
  refine wpList_plain hgd fun K hK => ?_
  unfold Oper.wp
  simp [execOp, ho, hx, hl, run_slice_arr (w := w) t e N ad n hu hsz hn, Result.andThen]
  exact hK _ _ h
end Go.Proofs.YtdhcjaflbfpalaaGreatDoor.Sha

/-
  What every seat's texts stand on: bytes as the model's integers, slices that read as bytes, cuts of them, memory that is new or the caller's, laws for walks of no program. No conditions beyond those that each states.
-/
namespace Go.Proofs.YtdhcjaflbfpalaaGreatDoor.Sha
open Go Go.RowKit
/-- A byte as the model's integer. -/
def bv (x : UInt8) : Int := x.toNat
theorem bv_bd (x : UInt8) : 0 ≤ bv x ∧ bv x ≤ 255 := by
  have := x.toNat_lt
  unfold bv
  omega
def bV (x : UInt8) : Value := .int .u8 (bv x)
theorem bV_one (l : List UInt8) : (l.map bV).toArray.all (·.oneCell') = true := by
  rw [Array.all_eq_true_iff_forall_mem]
  intro x hx
  simp at hx
  obtain ⟨a, _, rfl⟩ := hx
  rfl
theorem bV_one' (l : List UInt8) : ∀ v ∈ l.map bV, v.oneCell' = true := by
  intro v hv
  simp at hv
  obtain ⟨a, _, rfl⟩ := hv
  rfl
theorem bv_of {n : Nat} : IntKind.u8.wrap (n : Int) = bv (UInt8.ofNat n) := by
  unfold bv
  rw [IntKind.wrap_u8', UInt8.toNat_ofNat']
  simp
theorem set_mid {α : Type} (A : List α) (n j : Nat) (l : List α) (v : α) (h : A.length = n) : (A ++ l).set (n + j) v = A ++ l.set j v := by
  subst h
  rw [List.set_append_right _ _ (by omega)]
  congr 2
  omega
theorem get_mid {α : Type} (A : List α) (n j : Nat) (l : List α) (h : A.length = n) : (A ++ l).toArray[n + j]? = l[j]? := by
  subst h
  rw [List.getElem?_toArray, List.getElem?_append_right (by omega)]
  congr 1
  omega
theorem ret_int {k : IntKind} {a b : Int} (h : a = b) : Ending.returned (.int k a) = .returned (.int k b) := by rw [h]
theorem same_of {P : Program} {f : FuncId} {args : Array Value} {w : World} {v : Value} (h : Calls P f args w fun e w' => e = .returned v ∧ w = w') : Calls P f args w fun e w' => e = .returned v ∧ w' = w :=
  h.mono fun _ _ ⟨a, b⟩ => ⟨a, b.symm⟩
theorem run_index_array {P : Program} {w : World} (t e n : Nat) (kk : IntKind) (cs : Array Value) (k : Nat) (v : Value) (h : P.underlying t = some (.array n e)) (he : P.underlying e = some (.int kk)) (hs : (P.info? e).map (·.size) = some 1)
    (hk : k < n) (hv : cs[k]? = some v) : (Instr.index t (.agg cs) (.int .i64 k)).run P w = .ok v w := by
  obtain ⟨i, hi, h1⟩ := Option.map_eq_some_iff.1 hs
  simp [Instr.index, run_underlying h, asIntOf, part, isAgg, run_underlying he, sizeOf, typeInfo, hi, h1, hv, go_sem]
  intro h'
  omega
theorem grownBy_of_below {w wr : World} (h : Below w.heap.size w wr) (row : Option Nat) : w.grownBy wr row := ⟨h.os, h.tape, h.output, h.size, fun k hk _ => h.block k hk⟩
theorem grownBy_trans {a b c : World} {row : Option Nat} (h : a.grownBy b row) (k : b.grownBy c row) : a.grownBy c row :=
  ⟨k.os.trans h.os, k.tape.trans h.tape, k.output.trans h.output, Nat.le_trans h.size k.size, fun i hi hne => (k.block i (Nat.lt_of_lt_of_le hi h.size) hne).trans (h.block i hi hne)⟩
theorem one_u8 (x : Int) : ∀ u ∈ [Value.int .u8 x], u.oneCell' = true := by
  intro u hu
  simp at hu
  subst hu
  rfl
theorem info_u8 : (Tryz.prog.info? 5).map (fun i => (i.zero, i.size, i.bytes)) = some (some (.int .u8 0), 1, 1) := by kernel_rfl
theorem bv_inj {x y : UInt8} (h : bv x = bv y) : x = y := by
  unfold bv at h
  exact UInt8.toNat_inj.1 (by omega)
theorem bv_beq (x y : UInt8) : (bv x == bv y) = decide (x = y) := by
  by_cases h : x = y
  · subst h; simp
  · rw [decide_eq_false h, beq_eq_false_iff_ne]
    exact fun e => h (bv_inj e)
theorem bV_get (l : List UInt8) (j : Nat) (h : j < l.length) : (l.map bV).toArray[j]? = some (.int .u8 (bv (l.getD j 0))) := by
  simp [bV, List.getD, List.getElem?_eq_getElem h]
theorem tmod_bd (x n : Int) (h : 1 ≤ n) : -n < x.tmod n ∧ x.tmod n < n := by
  have h1 := Int.tmod_lt_of_pos x (show 0 < n by omega)
  refine ⟨?_, h1⟩
  by_cases hx : 0 ≤ x
  · have := Int.tmod_nonneg n hx
    omega
  · have h2 := Int.tmod_lt_of_pos (-x) (show 0 < n by omega)
    rw [Int.neg_tmod] at h2
    omega
/-- A number brought into its bound. -/
def numb (x n : Int) : Int := if x.tmod n < 0 then x.tmod n + n else x.tmod n
theorem numb_bd (x n : Int) (h : 1 ≤ n) : 0 ≤ numb x n ∧ numb x n < n := by
  have := tmod_bd x n h
  unfold numb
  split <;> omega
/-- The slice v reads as the bytes bs. -/
def SrcB (w : World) (v : Value) (bs : List UInt8) : Prop :=
  (∃ sp cap, v = .slice sp 0 cap ∧ bs = []) ∨
  (0 < bs.length ∧ ∃ bb off cap, v = .slice (some ⟨bb, off, none⟩) bs.length cap ∧ bs.length ≤ cap ∧ ∀ j, j < bs.length → w.cell? ⟨bb, off + j, none⟩ = some (.int .u8 (bv (bs.getD j 0))))
theorem SrcB.block {w : World} {bs : List UInt8} {bb off : Nat} (h0 : 0 < bs.length) (h : ∀ j, j < bs.length → w.cell? ⟨bb, off + j, none⟩ = some (.int .u8 (bv (bs.getD j 0)))) : bb < w.heap.size :=
  World.block_lt_of_cell? w _ (h 0 h0)
theorem SrcB.below {w w' : World} {v : Value} {bs : List UInt8} (h : SrcB w v bs) (hb : Below w.heap.size w w') : SrcB w' v bs := by
  rcases h with h | ⟨h0, bb, off, cap, hv, hc, hs⟩
  · exact .inl h
  · exact .inr ⟨h0, bb, off, cap, hv, hc, fun j hj => by
      rw [hb.cell (p := ⟨bb, off + j, none⟩) (SrcB.block h0 hs)]
      exact hs j hj⟩
theorem SrcB.ne {w : World} {v : Value} {bs : List UInt8} (h : SrcB w v bs) {B : Nat} (hB : w.heap.size ≤ B) : ∀ sp n cap, v = .slice (some sp) n cap → 0 < n → sp.block ≠ B := by
  intro sp n cap hv hn e
  rcases h with ⟨sp', cap', hv', _⟩ | ⟨h0, bb, off, cap', hv', _, hs⟩
  · rw [hv] at hv'
    cases hv'
    omega
  · have := SrcB.block h0 hs
    rw [hv] at hv'
    cases hv'
    simp at e
    omega
theorem SrcB.le {w : World} {sp : Option Addr} {n cap : Nat} {bs : List UInt8} (h : SrcB w (.slice sp n cap) bs) : n = bs.length ∧ n ≤ cap := by
  rcases h with ⟨sp', cap', hv, rfl⟩ | ⟨h0, bb, off, cap', hv, hc, hs⟩
  · cases hv; exact ⟨rfl, Nat.zero_le _⟩
  · cases hv; exact ⟨rfl, hc⟩
theorem elem_of {P : Program} {t e : TypeId} (hu : P.underlying t = some (.slice e)) : P.elem t = e := by simp [Program.elem, hu]
/-- A block of 32 bytes reads as them. -/
theorem src_block {w : World} {g : Nat} {l : List UInt8} {T : TypeId} (hl : l.length = 32) (h : w.heap[g]? = some (.cells (l.map bV).toArray T (0, 0))) : SrcB w (.slice (some ⟨g, 0, none⟩) 32 32) l :=
  .inr ⟨by omega, g, 0, 32, by rw [hl], by omega, fun j hj => by rw [Nat.zero_add, cell_of_row _ _ _ _ _ _ h, bV_get _ _ hj]⟩
/-- A block of bytes that has just been laid and filled. -/
theorem fill_setup {w w1 : World} (hb : Below w.heap.size w w1) (z cs : Array Value) (T : TypeId) : Below w.heap.size w ((w1.alloc (.cells z T)).setRow w1.heap.size cs)
    ∧ ((w1.alloc (.cells z T)).setRow w1.heap.size cs).heap[w1.heap.size]? = some (.cells cs T (0, 0)) ∧ ((w1.alloc (.cells z T)).setRow w1.heap.size cs).heap.size = w1.heap.size + 1
    ∧ Below w1.heap.size w1 ((w1.alloc (.cells z T)).setRow w1.heap.size cs) :=
  ⟨below_setRow (hb.alloc hb.size _) hb.size _, setRow_heap _ _ _ _ _ _ (heap_alloc_new _ _), by simp, below_setRow ((Below.refl _ _).alloc (Nat.le_refl _) _) (Nat.le_refl _) _⟩
theorem row_below {w w' : World} {g : Nat} {o : Obj} (h : w.heap[g]? = some o) (hb : Below w.heap.size w w') : w'.heap[g]? = some o := by
  rw [hb.block g (Array.getElem?_eq_some_iff.1 h).1]
  exact h
theorem src_of_own {w : World} {base g n cap : Nat} {bs : List UInt8} (hn : 0 < n) (hc : n ≤ cap) (h : w.ownsRow base 5 1 (.slice (some ⟨g, 0, none⟩) n cap) n (bs.map bV)) : SrcB w (.slice (some ⟨g, 0, none⟩) n cap) bs := by
  have hl : bs.length = n := by have := h.1; rw [List.length_map] at this; omega
  refine .inr ⟨by omega, g, 0, cap, by rw [hl], by omega, fun j hj => ?_⟩
  rw [Nat.zero_add, h.cellAt j (by omega), List.getElem?_map, List.getElem?_eq_getElem hj]
  simp [bV, List.getD, List.getElem?_eq_getElem hj]
theorem src_of_own_any {w : World} {base n : Nat} {v : Value} {bs : List UInt8} (hn : 0 < n) (h : w.ownsRow base 5 1 v n (bs.map bV)) : SrcB w v bs := by
  rcases h.2 with ⟨_, h0⟩ | ⟨g, cap, cur, rfl, _, _, hc, _⟩
  · omega
  · exact src_of_own hn hc h
theorem grownBy_below {w w4 : World} {g : Nat} {a b : World} (h : w.grownBy w4 (some g)) (hb : Below a.heap.size b w) (ha : a.heap.size ≤ g) (hs : a.heap.size ≤ w.heap.size) : Below a.heap.size b w4 :=
  hb.trans ⟨h.os, h.tape, h.output, h.size, fun k hk => h.block k (by omega) (fun e => by have := Option.some.inj e; omega)⟩
theorem own_shape {w : World} {base m : Nat} {v : Value} {xs : List Value} {e : TypeId} (h : w.ownsRow base e 1 v m xs) (h0 : 0 < m) : ∃ g cap, v = .slice (some ⟨g, 0, none⟩) m cap ∧ base ≤ g ∧ m ≤ cap := by
  rcases h.2 with ⟨_, e⟩ | ⟨g, cap, cur, hv, hb, _, hc, _⟩
  · omega
  · exact ⟨g, cap, hv, hb, hc⟩
section
variable {P : Program} {w : World} {ops : Array Oper} {rest : List Oper} {o : Oper} {a : Act} {Q : Exit → Act → World → Prop}
end
theorem SrcB.shape {w : World} {v : Value} {bs : List UInt8} (h : SrcB w v bs) : ∃ sp cap, v = .slice sp bs.length cap := by
  rcases h with ⟨sp, cap, rfl, rfl⟩ | ⟨_, bb, off, cap, rfl, _⟩
  · exact ⟨_, _, rfl⟩
  · exact ⟨_, _, rfl⟩
end Go.Proofs.YtdhcjaflbfpalaaGreatDoor.Sha

/-
  Plain mathematics of chapter 2: a number's lowest bytes, the lowest first, what bytes are as a number, a number in the fewest bytes, sums of amounts. No program is imported. No conditions.
-/
namespace Go.Proofs.YtdhcjaflbfpalaaGreatDoor.Sha
open Go
/-- The lowest k bytes of n, the lowest first. -/
def leB (n : Nat) : Nat → List UInt8
  | 0 => []
  | k + 1 => leB n k ++ [UInt8.ofNat (n / 256 ^ k)]
theorem leB_length (n : Nat) : ∀ k, (leB n k).length = k
  | 0 => rfl
  | k + 1 => by simp [leB, leB_length n k]
/-- What bytes are as a number. -/
def leN : List UInt8 → Nat
  | [] => 0
  | x :: l => x.toNat + 256 * leN l
theorem pow_next (k : Nat) : 256 ^ (k + 1) = 256 ^ k * 256 := Nat.pow_succ ..
/-- How many bytes Put writes. -/
def lenN (n : Nat) : Nat := if n < 253 then 1 else if n ≤ 65535 then 3 else if n ≤ 4294967295 then 5 else 9
/-- The number in the fewest bytes. -/
def putL (n : Nat) : List UInt8 := if n < 253 then [UInt8.ofNat n] else if n ≤ 65535 then 253 :: leB n 2 else if n ≤ 4294967295 then 254 :: leB n 4 else 255 :: leB n 8
theorem putL_length (n : Nat) : (putL n).length = lenN n := by
  unfold putL lenN
  split
  · rfl
  · split
    · simp [leB_length]
    · split <;> simp [leB_length]
theorem lenN_bd (n : Nat) : 1 ≤ lenN n ∧ lenN n ≤ 9 := by unfold lenN; split <;> (try split) <;> (try split) <;> omega
theorem lenN_eq (n : Nat) : (lenN n = 1 ∧ putL n = [UInt8.ofNat n]) ∨ (lenN n = 3 ∧ putL n = 253 :: leB n 2) ∨ (lenN n = 5 ∧ putL n = 254 :: leB n 4) ∨ (lenN n = 9 ∧ putL n = 255 :: leB n 8) := by
  unfold lenN putL
  by_cases h1 : n < 253
  · rw [if_pos h1, if_pos h1]; exact .inl ⟨rfl, rfl⟩
  by_cases h2 : n ≤ 65535
  · rw [if_neg h1, if_neg h1, if_pos h2, if_pos h2]; exact .inr (.inl ⟨rfl, rfl⟩)
  by_cases h3 : n ≤ 4294967295
  · rw [if_neg h1, if_neg h1, if_neg h2, if_neg h2, if_pos h3, if_pos h3]; exact .inr (.inr (.inl ⟨rfl, rfl⟩))
  · rw [if_neg h1, if_neg h1, if_neg h2, if_neg h2, if_neg h3, if_neg h3]; exact .inr (.inr (.inr ⟨rfl, rfl⟩))
/-- The greatest sum of amounts. -/
def most : Nat := 2100000000000000
end Go.Proofs.YtdhcjaflbfpalaaGreatDoor.Sha

/-
  Laws for walks: bytes that are read somewhere put behind an own row that has room, or that grows; slices that read as numbers of 64 bits. No conditions beyond those that each states.
-/
namespace Go.Proofs.YtdhcjaflbfpalaaGreatDoor.Sha
open Go Go.RowKit
theorem run_append_src0 {P : Program} {w : World} (base : Nat) (t ty e : TypeId) (i : TypeInfo) (ht : P.underlying t = some (.slice e)) (hi : P.info? e = some i)
    (g n cap : Nat) (xs : List Value) (hown : w.ownsRow base e i.size (.slice (some ⟨g, 0, none⟩) n cap) n xs) (sp : Option Addr) (c : Nat) :
    (Builtin.append_ #[t, t] ty #[.slice (some ⟨g, 0, none⟩) n cap, .slice sp 0 c]).run P w = .ok (.slice (some ⟨g, 0, none⟩) n cap) w := by
  rcases hown.2 with ⟨h, _⟩ | ⟨g', cap', cur, h, _, _, hnc, _⟩
  · simp at h
  · simp only [Value.slice.injEq, Option.some.injEq, Addr.mk.injEq, and_true, true_and] at h
    obtain ⟨rfl, rfl⟩ := h
    cases sp with
    | none => simp [Builtin.append_, run_underlying ht, sizeOf, typeInfo, hi, Builtin.lenOf, Builtin.firstCells, hnc, storeCells]
    | some ad => simp [Builtin.append_, run_underlying ht, sizeOf, typeInfo, hi, Builtin.lenOf, Builtin.firstCells, hnc, storeCells, loadCells, loadCellsFrom]
/-- 'append(own, bs...)', with room. -/
theorem wpList_append_src {P : Program} (w : World) {ops : Array Oper} {rest : List Oper} {o : Oper} {a : Act} {Q : Exit → Act → World → Prop}
    (hg : o.guard = none) (s x : Operand) (t : TypeId) (hop : o.op = Op.call { callee := Callee.builtin Builtin.append, args := #[s, x], argTypes := #[t, t] })
    (base : Nat) (e : TypeId) (i : TypeInfo) (h1 : P.underlying t = some (.slice e)) (h2 : P.info? e = some i) (h4 : i.size = 1)
    (g k cap : Nat) (xs : List Value) (hs : a.eval s = .slice (some ⟨g, 0, none⟩) k cap) (hown : w.ownsRow base e 1 (.slice (some ⟨g, 0, none⟩) k cap) k xs) (v : Value) (bs : List UInt8) (hx : a.eval x = v) (hsrc : SrcB w v bs) (b1 : k + bs.length ≤ cap)
    (hK : ∀ w', Hid (w'.ownsRow base e 1 (.slice (some ⟨g, 0, none⟩) (k + bs.length) cap) (k + bs.length) (xs ++ bs.map bV)) → Hid (w.grownBy w' (some g)) → wpList P ops Q rest (a.put o.dst (.slice (some ⟨g, 0, none⟩) (k + bs.length) cap)) w') :
    wpList P ops Q (o :: rest) a w := by
  rcases hsrc with ⟨sp, c, rfl, rfl⟩ | ⟨h0, bb, off, c, rfl, hc, hcell⟩
  · refine wpList_plain hg fun K hK' => ?_
    have hrun := run_append_src0 (P := P) (w := w) base t o.type e i h1 h2 g k cap xs (by rw [h4]; exact hown) sp c
    unfold Oper.wp
    simp [execOp, hop, resolve, invoke, builtin, hs, hx, hrun, Result.andThen]
    refine hK' _ _ (hK w ?_ (grownBy_refl _ _))
    show w.ownsRow _ _ _ _ _ _
    simpa using hown
  · exact wpList_append_fits w hg s x t hop base e i 1 h1 h2 h4 g k cap xs hs hown ⟨bb, off, none⟩ bs.length c (bs.map bV) hx (by simp)
      (fun j u hu => by
        rw [List.getElem?_map] at hu
        obtain ⟨b, hb, rfl⟩ := Option.map_eq_some_iff.1 hu
        have hj := (List.getElem?_eq_some_iff.1 hb).1
        rw [Addr.add_mid, hcell j hj]
        simp [bV, List.getD, hb])
      (bV_one' bs) b1 hK
theorem run_append_any0 {P : Program} {w : World} (base : Nat) (t ty e : TypeId) (i : TypeInfo) (ht : P.underlying t = some (.slice e)) (hi : P.info? e = some i)
    (v : Value) (n : Nat) (xs : List Value) (hown : w.ownsRow base e i.size v n xs) (sp : Option Addr) (c : Nat) :
    (Builtin.append_ #[t, t] ty #[v, .slice sp 0 c]).run P w = .ok v w := by
  rcases hown.2 with ⟨rfl, _⟩ | ⟨g, cap, cur, rfl, hr⟩
  · cases sp with
    | none => simp [Builtin.append_, run_underlying ht, sizeOf, typeInfo, hi, Builtin.lenOf, Builtin.firstCells]
    | some ad => simp [Builtin.append_, run_underlying ht, sizeOf, typeInfo, hi, Builtin.lenOf, Builtin.firstCells, loadCells, loadCellsFrom]
  · exact run_append_src0 base t ty e i ht hi g n cap xs hown sp c
/-- What is new stays new when its own row grows. -/
theorem own_grown {B : Nat} {w0 w w' : World} {base size n : Nat} {e : TypeId} {v : Value} {xs : List Value} (hb : Below B w0 w) (hB : B ≤ base) (hs : B ≤ w.heap.size) (h : w.ownsRow base e size v n xs) (hg : w.grownBy w' v.ownBlock) : Below B w0 w' := by
  refine hb.grown hg hs ?_
  intro k hk
  rcases h.2 with ⟨rfl, _⟩ | ⟨g, cap, cur, rfl, hbg, _⟩
  · cases hk
  · simp [Value.ownBlock] at hk
    omega
theorem own_len {w : World} {base n : Nat} {e : TypeId} {v : Value} {bs : List UInt8} (h : w.ownsRow base e 1 v n (bs.map bV)) : n = bs.length := by
  have := h.1
  rw [List.length_map] at this
  omega
/-- An own row, nil too, as a source. -/
theorem src_own {w : World} {base n : Nat} {v : Value} {bs : List UInt8} (h : w.ownsRow base 5 1 v n (bs.map bV)) : SrcB w v bs := by
  by_cases hn : 0 < n
  · exact src_of_own_any hn h
  · have hl := own_len h
    have hb : bs = [] := List.eq_nil_of_length_eq_zero (by omega)
    rcases h.2 with ⟨rfl, _⟩ | ⟨g, cap, cur, rfl, _⟩
    · exact .inl ⟨_, _, rfl, hb⟩
    · exact .inl ⟨_, _, by rw [show n = 0 by omega], hb⟩
theorem own_kept {w w' : World} {base n size : Nat} {e : TypeId} {v : Value} {xs : List Value} (h : w.ownsRow base e size v n xs) (hb : Below w.heap.size w w') : w'.ownsRow base e size v n xs := by
  refine h.kept (row := none) ⟨hb.os, hb.tape, hb.output, hb.size, fun k hk _ => hb.block k hk⟩ ?_
  cases hv : v.ownBlock with
  | none => exact .inl rfl
  | some b => exact .inr (by simp)
theorem own_base {w : World} {base base' n size : Nat} {e : TypeId} {v : Value} {xs : List Value} (h : w.ownsRow base e size v n xs) (hb : base' ≤ base) : w.ownsRow base' e size v n xs := by
  refine ⟨h.1, ?_⟩
  rcases h.2 with h' | ⟨g, cap, cur, hv, hbg, r⟩
  · exact .inl h'
  · exact .inr ⟨g, cap, cur, hv, Nat.le_trans hb hbg, r⟩
/-- The slice v reads as these numbers of 64 bits. -/
def SrcU (w : World) (v : Value) (l : List Nat) : Prop :=
  (∃ sp cap, v = .slice sp 0 cap ∧ l = []) ∨
  (0 < l.length ∧ ∃ bb off cap, v = .slice (some ⟨bb, off, none⟩) l.length cap ∧ l.length ≤ cap ∧ ∀ j, j < l.length → w.cell? ⟨bb, off + j, none⟩ = some (.int .u64 (l.getD j 0 : Nat)))
theorem SrcU.below {w w' : World} {v : Value} {l : List Nat} (h : SrcU w v l) (hb : Below w.heap.size w w') : SrcU w' v l := by
  rcases h with h | ⟨h0, bb, off, cap, hv, hc, hs⟩
  · exact .inl h
  · exact .inr ⟨h0, bb, off, cap, hv, hc, fun j hj => by
      rw [hb.cell (p := ⟨bb, off + j, none⟩) (World.block_lt_of_cell? w _ (hs j hj))]
      exact hs j hj⟩
theorem SrcU.len {w : World} {sp : Option Addr} {n cap : Nat} {l : List Nat} (h : SrcU w (.slice sp n cap) l) : n = l.length := by
  rcases h with ⟨sp', cap', hv, rfl⟩ | ⟨_, _, _, _, hv, _, _⟩
  · cases hv; rfl
  · cases hv; rfl
end Go.Proofs.YtdhcjaflbfpalaaGreatDoor.Sha

/-
  How the statements' arguments read: a slice of bytes or numbers that came in; a start that fits. No conditions.
-/
namespace Go.Proofs.YtdhcjaflbfpalaaGreatDoor.Sha
open Go Go.ChangeShapes Go.WideShapes Go.ChangeAt Go.RowKit
theorem own : ownKnob Tryz.prog.godebug = none := by kernel_rfl
theorem laidOut : laidOutB Tryz.prog = true := by kernel_rfl
/-- A slice of integers that came in. -/
def IsRow (k : IntKind) (w : World) (a : Option Addr) (len cap : Nat) (zs : List Int) : Prop :=
  (a = none ∧ len = 0 ∧ cap = 0 ∧ zs = []) ∨
  ∃ x, a = some x ∧ len ≤ cap ∧ cap ≤ maxLen ∧ zs.length = cap ∧ (∀ i, i < zs.length → w.cell? (x.add i) = some (.int k (zs.getD i 0))) ∧ ∀ n ∈ zs, (Lit.int k n).wf = true
theorem cuts_of_row {w : World} {a : Option Addr} {len cap : Nat} {zs : List Int} (h : IsRow .i64 w a len cap zs) :
    0 < len → ∃ cb coff, a = some ⟨cb, coff, none⟩ ∧ ∀ i, i < len → w.cell? ⟨cb, coff + i, none⟩ = some (.int .i64 (zs.getD i 0)) ∧ -9223372036854775808 ≤ zs.getD i 0 ∧ zs.getD i 0 ≤ 9223372036854775807 := by
  intro h0
  rcases h with ⟨rfl, rfl, rfl, rfl⟩ | ⟨x, rfl, hl, hm, hz, hc, hw⟩
  · omega
  · obtain ⟨b, off, rfl, hcell⟩ := ints_at hc (by omega)
    refine ⟨b, off, rfl, fun i hi => ⟨hcell i (by omega), ?_⟩⟩
    have hi2 : i < zs.length := by omega
    have e1 : zs.getD i 0 = zs[i] := by simp [List.getD, List.getElem?_eq_getElem hi2]
    rw [e1]
    have hb := bounds_i64 (hw _ (List.getElem_mem hi2))
    omega
theorem IsRow.len {k : IntKind} {w : World} {a : Option Addr} {len cap : Nat} {zs : List Int} (h : IsRow k w a len cap zs) : len ≤ 9223372036854775807 := by
  rcases h with ⟨rfl, rfl, rfl, rfl⟩ | ⟨x, rfl, hl, hm, _⟩
  · omega
  · unfold maxLen at hm; omega
end Go.Proofs.YtdhcjaflbfpalaaGreatDoor.Sha

/-
  compact.number answers what bytes are as a number, the lowest first; widthBehind how many bytes stand behind a first one; bytes.Clone copies; nothing that was there turns. Conditions: at most eight bytes (number); the bytes lie where the slice says.
-/
namespace Go.Proofs.YtdhcjaflbfpalaaGreatDoor.Sha
open Go Go.RowKit
/-- How many bytes stand behind a first one. -/
def widN (n : Nat) : Nat := if n = 253 then 2 else if n = 254 then 4 else if n = 255 then 8 else 0
/-- A copy in memory that is new, or none. -/
def CopyB (w w' : World) (v : Value) (bs : List UInt8) : Prop := w'.ownsRow w.heap.size 5 1 v bs.length (bs.map bV) ∧ Below w.heap.size w w'
end Go.Proofs.YtdhcjaflbfpalaaGreatDoor.Sha

/-
  compact.Read makes a Reader on a copy of the bytes; its inner call takes so many bytes, or tells that there are too few; Left and Err tell what is left and the first error. Conditions: the Reader stands as it should; the three errors are there.
-/
namespace Go.Proofs.YtdhcjaflbfpalaaGreatDoor.Sha
open Go Go.RowKit
/-- The error number 100 + c of package api; none at 0. -/
def errV (E : Nat → Addr) : Nat → Value
  | 0 => .nilIface
  | i + 1 => .iface 188 (.pointer (some (E i)))
/-- What lies behind a slice lies in this block. -/
def AtB (v : Value) (m : Nat) : Prop := ∀ sp n cap, v = .slice (some sp) n cap → 0 < n → sp.block = m
theorem SrcB.grown {w w' : World} {v : Value} {bs : List UInt8} {m r : Nat} (h : SrcB w v bs) (ha : AtB v m) (hm : m ≠ r) (hg : w.grownBy w' (some r)) : SrcB w' v bs := by
  rcases h with h | ⟨h0, bb, off, cap, hv, hc, hs⟩
  · exact .inl h
  · refine .inr ⟨h0, bb, off, cap, hv, hc, fun j hj => hg.cell (hs j hj) (fun e => ?_)⟩
    have e1 := ha ⟨bb, off, none⟩ _ _ hv h0
    have e2 := Option.some.inj e
    exact hm (by rw [← e1, ← e2])
/-- Taking k bytes: what is taken, what is left, the error. -/
def takeL (k : Nat) (bs : List UInt8) (c : Nat) : List UInt8 × List UInt8 × Nat := if c ≠ 0 then ([], bs, c) else if bs.length < k then ([], bs, 1) else (bs.take k, bs.drop k, 0)
section
variable {P : Program} {w : World} {ops : Array Oper} {rest : List Oper} {o : Oper} {a : Act} {Q : Exit → Act → World → Prop}
end
theorem SrcB.shape' {w : World} {v : Value} {bs : List UInt8} (h : SrcB w v bs) : ∃ sp n cap, v = .slice sp n cap ∧ n = bs.length ∧ n ≤ cap := by
  rcases h with ⟨sp, cap, rfl, rfl⟩ | ⟨_, bb, off, cap, rfl, hc, _⟩
  · exact ⟨_, _, _, rfl, rfl, Nat.zero_le _⟩
  · exact ⟨_, _, _, rfl, rfl, hc⟩
end Go.Proofs.YtdhcjaflbfpalaaGreatDoor.Sha

/-
  The statements' own SameHash tells whether two digests are the same; Number brings any number into its bound; nothing that was there turns. Conditions: digests of 32 bytes; a bound from 1 on.
-/
namespace Go.Proofs.YtdhcjaflbfpalaaGreatDoor.Sha
open Go Go.RowKit
theorem list_eq_of {x y : List UInt8} (hx : x.length = 32) (hy : y.length = 32) (h : ∀ j, j < 32 → x.getD j 0 = y.getD j 0) : x = y := by
  apply List.ext_getElem (by omega)
  intro i h1 h2
  have := h i (by omega)
  simpa [List.getD, List.getElem?_eq_getElem h1, List.getElem?_eq_getElem h2] using this
def SmInv (x y : List UInt8) (w : World) (i : Value) (wr : World) : Prop :=
  ∃ k : Nat, k ≤ 32 ∧ i = .int .i64 k ∧ (∀ j, j < k → x.getD j 0 = y.getD j 0) ∧ wr.heap[w.heap.size]? = some (.cells (x.map bV).toArray 26 (0, 0)) ∧ wr.heap[w.heap.size + 1]? = some (.cells (y.map bV).toArray 26 (0, 0)) ∧ Below w.heap.size w wr
def SmPost (b : Bool) (w : World) (e : Ending) (w' : World) : Prop := e = .returned (.bool b) ∧ Below w.heap.size w w'
set_option maxRecDepth 100000 in
theorem same_any (x y : List UInt8) (hx : x.length = 32) (hy : y.length = 32) (w : World) :
    Calls Tryz.prog 17 #[.agg (x.map bV).toArray, .agg (y.map bV).toArray] w (SmPost (decide (x = y)) w) := by
  have HX := Lib.hid hx
  have HY := Lib.hid hy
  clear hx hy
  go_enter Tryz.func17, Tryz.ntmps17
  go_wp2_with fail
  go_loopw [5] (fun i wr => SmInv x y w i wr) (fun i _ => 32 - (intOf i).toNat)
  case atStart => exact ⟨0, by omega, rfl, fun j hj => by omega, heap_alloc2_old _ _ _, heap_alloc2_new _ _ _, ((Below.refl _ _).alloc (Nat.le_refl _) _).alloc (by simp) _⟩
  case round =>
    obtain ⟨k, hk, rfl, he, h1, h2, hb⟩ := hrel
    have H1 := Lib.hid h1
    have H2 := Lib.hid h2
    have HE := Lib.hid he
    have HB := Lib.hid hb
    by_cases hlt : k < 32
    · obtain ⟨a, ha⟩ : ∃ a, a = x.getD k 0 := ⟨_, rfl⟩
      obtain ⟨b, hb2⟩ : ∃ b, b = y.getD k 0 := ⟨_, rfl⟩
      have c1 : wr.cell? ⟨w.heap.size, k, none⟩ = some (.int .u8 (bv a)) := by rw [cell_of_row _ _ _ _ _ _ h1, bV_get _ _ (by rw [HX.out]; exact hlt), ha]
      have c2 : wr.cell? ⟨w.heap.size + 1, k, none⟩ = some (.int .u8 (bv b)) := by rw [cell_of_row _ _ _ _ _ _ h2, bV_get _ _ (by rw [HY.out]; exact hlt), hb2]
      have p0 : 0 ≤ (k : Int) := by omega
      have q0 : (k : Int) < 32 := by omega
      have HA := Lib.hid ha
      have HB2 := Lib.hid hb2
      clear h1 h2 he hb ha hb2
      by_cases hab : a = b
      · have ht : (bv a == bv b) = true := by rw [bv_beq, decide_eq_true hab]
        have ht' : (bv a != bv b) = false := by simp [bne, ht]
        have HAB := Lib.hid hab
        clear hab
        go_wp2_with fail
        go_quiet (fail)
        go_wp2_with fail
        go_roundw
        case rel =>
          refine ⟨k + 1, by omega, by go_num, fun j hj => ?_, H1.out, H2.out, below_drewN HB.out _⟩
          by_cases hj2 : j < k
          · exact HE.out j hj2
          · obtain rfl : j = k := by omega
            rw [← HA.out, ← HB2.out, HAB.out]
        case measure => simp [intOf]; omega
      · have ht : (bv a == bv b) = false := by rw [bv_beq, decide_eq_false hab]
        have ht' : (bv a != bv b) = true := by simp [bne, ht]
        have HAB := Lib.hid hab
        clear hab
        go_wp2_with fail
        go_quiet (fail)
        go_wp2_with fail
        go_ret
        have hne : x ≠ y := fun e => HAB.out (by rw [HA.out, HB2.out, e])
        exact ⟨by rw [decide_eq_false hne]; rfl, below_drewN HB.out _⟩
    · have hge : ¬ (k : Int) < 32 := by omega
      have hxy : x = y := list_eq_of HX.out HY.out (fun j hj => he j (by omega))
      have HXY := Lib.hid hxy
      clear h1 h2 he hb hxy
      go_wp2_with fail
      go_ret
      exact ⟨by rw [decide_eq_true HXY.out]; rfl, HB.out⟩
end Go.Proofs.YtdhcjaflbfpalaaGreatDoor.Sha

/-
  Plain mathematics of SHA-256 on 32-bit words, as the chapter gives it, and how the model's integers of kind u32 compute with such words. No program is imported. No conditions.
-/
namespace Go.Proofs.YtdhcjaflbfpalaaGreatDoor.Sha
open Go
/-- A word as the model's integer. -/
def wv (x : UInt32) : Int := x.toNat
theorem wv_add (x y : UInt32) : IntKind.u32.wrap (wv x + wv y) = wv (x + y) := by
  unfold wv
  rw [IntKind.wrap_u32', UInt32.toNat_add]
  omega
theorem wv_sum (x y : UInt32) : (wv x + wv y) % 4294967296 = wv (x + y) := by
  rw [← wv_add, IntKind.wrap_u32']
theorem wv_xor (x y : UInt32) : bits .xor .u32 (wv x) (wv y) = wv (x ^^^ y) := by
  unfold wv
  rw [u32_xor_nat _ _ x.toNat_lt y.toNat_lt, UInt32.toNat_xor]
theorem wv_or (x y : UInt32) : bits .or .u32 (wv x) (wv y) = wv (x ||| y) := by
  unfold wv
  rw [u32_or_nat _ _ x.toNat_lt y.toNat_lt, UInt32.toNat_or]
theorem wv_and (x y : UInt32) : bits .and .u32 (wv x) (wv y) = wv (x &&& y) := by
  unfold wv
  rw [u32_and_nat _ _ x.toNat_lt y.toNat_lt, UInt32.toNat_and]
theorem wv_andNot (x y : UInt32) : bits .andNot .u32 (wv x) (wv y) = wv (x &&& ~~~y) := by
  unfold wv
  rw [u32_andNot_nat _ _ x.toNat_lt y.toNat_lt, UInt32.toNat_and, UInt32.toNat_not]
  rfl
/-- A word turned right by n bits. -/
def rotr (x : UInt32) (n : Nat) : UInt32 := (x >>> UInt32.ofNat n) ||| (x <<< UInt32.ofNat (32 - n))
theorem wv_shr (x : UInt32) (n : Nat) (h : n < 32) : wv x / 2 ^ n = wv (x >>> UInt32.ofNat n) := by
  unfold wv
  rw [UInt32.toNat_shiftRight, UInt32.toNat_ofNat_of_lt' (by show n < 2 ^ 32; omega), Nat.mod_eq_of_lt h, Nat.shiftRight_eq_div_pow]
  simp
theorem wv_shl (x : UInt32) (n : Nat) (h : n < 32) : IntKind.u32.wrap (wv x * 2 ^ n) = wv (x <<< UInt32.ofNat n) := by
  unfold wv
  rw [IntKind.wrap_u32', UInt32.toNat_shiftLeft, UInt32.toNat_ofNat_of_lt' (by show n < 2 ^ 32; omega), Nat.mod_eq_of_lt h, Nat.shiftLeft_eq]
  simp
theorem low5 (n : Nat) (h1 : 1 ≤ n) (h2 : n ≤ 31) : bits .and .u64 (IntKind.u64.wrap (-(n : Int))) 31 = 32 - (n : Int) := by
  have e : IntKind.u64.wrap (-(n : Int)) = ((18446744073709551616 - n : Nat) : Int) := by rw [IntKind.wrap_u64]; omega
  rw [e, show (31 : Int) = ((31 : Nat) : Int) from rfl, u64_and_nat _ _ (by omega) (by omega), show (31 : Nat) = 2 ^ 5 - 1 from rfl, Nat.and_two_pow_sub_one_eq_mod]
  omega
theorem rot_fact (x : UInt32) (n : Nat) (h1 : 1 ≤ n) (h2 : n ≤ 31) : bits .or .u32 (wv x * 2 ^ (32 - n) % 4294967296) (wv x / 2 ^ (32 - (32 - n))) = wv (rotr x n) := by
  rw [show 32 - (32 - n) = n by omega, ← IntKind.wrap_u32', wv_shl x _ (by omega), wv_shr x n (by omega), wv_or]
  unfold rotr
  rw [UInt32.or_comm]
def sS0 (x : UInt32) : UInt32 := rotr x 7 ^^^ rotr x 18 ^^^ (x >>> UInt32.ofNat 3)
def sS1 (x : UInt32) : UInt32 := rotr x 17 ^^^ rotr x 19 ^^^ (x >>> UInt32.ofNat 10)
def bS0 (x : UInt32) : UInt32 := rotr x 2 ^^^ rotr x 13 ^^^ rotr x 22
def bS1 (x : UInt32) : UInt32 := rotr x 6 ^^^ rotr x 11 ^^^ rotr x 25
theorem wv_shr3 (x : UInt32) : wv x / 8 = wv (x >>> UInt32.ofNat 3) := wv_shr x 3 (by omega)
theorem wv_shr10 (x : UInt32) : wv x / 1024 = wv (x >>> UInt32.ofNat 10) := wv_shr x 10 (by omega)
def wV (x : UInt32) : Value := .int .u32 (wv x)
/-- Four bytes read as a word, the highest first. -/
def rd (b : Nat → UInt8) (t : Nat) : UInt32 := ((b (4 * t)).toUInt32 <<< UInt32.ofNat 24) ||| ((b (4 * t + 1)).toUInt32 <<< UInt32.ofNat 16) ||| ((b (4 * t + 2)).toUInt32 <<< UInt32.ofNat 8) ||| (b (4 * t + 3)).toUInt32
def nextW (b : Nat → UInt8) (t : Nat) (l : List UInt32) : UInt32 :=
  if t < 16 then rd b t else sS1 (l.getD (t - 2) 0) + l.getD (t - 7) 0 + sS0 (l.getD (t - 15) 0) + l.getD (t - 16) 0
/-- The schedule's first t words. -/
def row (b : Nat → UInt8) : Nat → List UInt32
  | 0 => []
  | t + 1 => row b t ++ [nextW b t (row b t)]
theorem row_length (b : Nat → UInt8) : ∀ t, (row b t).length = t
  | 0 => rfl
  | t + 1 => by simp [row, row_length b t]
/-- The schedule's cells when t words stand. -/
def rowV (b : Nat → UInt8) (t : Nat) : List Value := (row b t).map wV ++ List.replicate (64 - t) (wV 0)
theorem rowV_set (b : Nat → UInt8) (t : Nat) (h : t < 64) : (rowV b t).toArray.setIfInBounds t (wV (nextW b t (row b t))) = (rowV b (t + 1)).toArray := by
  rw [List.setIfInBounds_toArray]
  congr 1
  unfold rowV
  rw [List.set_append_right _ _ (by simp [row_length])]
  simp only [List.length_map, row_length, Nat.sub_self]
  rw [show 64 - t = (64 - (t + 1)) + 1 by omega, List.replicate_succ, List.set_cons_zero]
  simp [row]
theorem rowV_get (b : Nat → UInt8) (t j : Nat) (h : j < t) : (rowV b t).toArray[j]? = some (.int .u32 (wv ((row b t).getD j 0))) := by
  unfold rowV
  rw [List.getElem?_toArray, List.getElem?_append_left (by simp [row_length]; omega), List.getElem?_map, List.getElem?_eq_getElem (by rw [row_length]; exact h)]
  simp [wV, List.getD, List.getElem?_eq_getElem (show j < (row b t).length by rw [row_length]; exact h)]
theorem wv_byte (x : UInt8) : bv x = wv x.toUInt32 := by
  unfold bv wv
  simp
theorem wv_shl24 (x : UInt32) : wv x * 16777216 % 4294967296 = wv (x <<< UInt32.ofNat 24) := by
  rw [← wv_shl x 24 (by omega), IntKind.wrap_u32']; rfl
theorem wv_shl16 (x : UInt32) : wv x * 65536 % 4294967296 = wv (x <<< UInt32.ofNat 16) := by
  rw [← wv_shl x 16 (by omega), IntKind.wrap_u32']; rfl
theorem wv_shl8 (x : UInt32) : wv x * 256 % 4294967296 = wv (x <<< UInt32.ofNat 8) := by
  rw [← wv_shl x 8 (by omega), IntKind.wrap_u32']; rfl
theorem bv_u32 (x : UInt8) : bv x % 4294967296 = wv x.toUInt32 := by
  have := bv_bd x
  rw [← wv_byte]
  omega
theorem bv_u32' (x : UInt8) : IntKind.u32.wrap (bv x) = wv x.toUInt32 := by rw [IntKind.wrap_u32', bv_u32]
theorem wr_shl24 (x : UInt32) : IntKind.u32.wrap (wv x * 16777216) = wv (x <<< UInt32.ofNat 24) := by rw [IntKind.wrap_u32', wv_shl24]
theorem wr_shl16 (x : UInt32) : IntKind.u32.wrap (wv x * 65536) = wv (x <<< UInt32.ofNat 16) := by rw [IntKind.wrap_u32', wv_shl16]
theorem wr_shl8 (x : UInt32) : IntKind.u32.wrap (wv x * 256) = wv (x <<< UInt32.ofNat 8) := by rw [IntKind.wrap_u32', wv_shl8]
theorem rowV_zero (b : Nat → UInt8) (t j : Nat) (h1 : t ≤ j) (h2 : j < 64) : (rowV b t).toArray[j]? = some (wV 0) := by
  unfold rowV
  rw [List.getElem?_toArray, List.getElem?_append_right (by simp [row_length]; omega), List.length_map, row_length, List.getElem?_replicate, if_pos (by omega)]
theorem nextW_low (b : Nat → UInt8) (t : Nat) (l : List UInt32) (h : t < 16) : nextW b t l = rd b t := by unfold nextW; rw [if_pos h]
theorem nextW_high (b : Nat → UInt8) (t : Nat) (l : List UInt32) (h : 16 ≤ t) : nextW b t l = sS1 (l.getD (t - 2) 0) + l.getD (t - 7) 0 + sS0 (l.getD (t - 15) 0) + l.getD (t - 16) 0 := by
  unfold nextW; rw [if_neg (by omega)]
theorem wV_one (l : List UInt32) : (l.map wV).toArray.all (·.oneCell') = true := by
  rw [Array.all_eq_true_iff_forall_mem]
  intro x hx
  simp at hx
  obtain ⟨a, _, rfl⟩ := hx
  rfl
theorem rowV_all (b : Nat → UInt8) : rowV b 64 = (row b 64).map wV := by simp [rowV]
/-- The eight words while a block is worked in. -/
structure St where
  a : UInt32
  b : UInt32
  c : UInt32
  d : UInt32
  e : UInt32
  f : UInt32
  g : UInt32
  h : UInt32
def St.cells (s : St) : List Value := [wV s.a, wV s.b, wV s.c, wV s.d, wV s.e, wV s.f, wV s.g, wV s.h]
def T1 (s : St) (k w : UInt32) : UInt32 := s.h + bS1 s.e + ((s.e &&& s.f) ^^^ (s.g &&& ~~~s.e)) + k + w
def T2 (s : St) : UInt32 := bS0 s.a + ((s.a &&& s.b) ^^^ (s.a &&& s.c) ^^^ (s.b &&& s.c))
def St.round (s : St) (k w : UInt32) : St := ⟨T1 s k w + T2 s, s.a, s.b, s.c, s.d + T1 s k w, s.e, s.f, s.g⟩
def kList : List UInt32 := [
  1116352408, 1899447441, 3049323471, 3921009573, 961987163, 1508970993, 2453635748, 2870763221,
  3624381080, 310598401, 607225278, 1426881987, 1925078388, 2162078206, 2614888103, 3248222580,
  3835390401, 4022224774, 264347078, 604807628, 770255983, 1249150122, 1555081692, 1996064986,
  2554220882, 2821834349, 2952996808, 3210313671, 3336571891, 3584528711, 113926993, 338241895,
  666307205, 773529912, 1294757372, 1396182291, 1695183700, 1986661051, 2177026350, 2456956037,
  2730485921, 2820302411, 3259730800, 3345764771, 3516065817, 3600352804, 4094571909, 275423344,
  430227734, 506948616, 659060556, 883997877, 958139571, 1322822218, 1537002063, 1747873779,
  1955562222, 2024104815, 2227730452, 2361852424, 2428436474, 2756734187, 3204031479, 3329325298]
def kW (t : Nat) : UInt32 := kList.getD t 0
/-- t rounds over a schedule. -/
def rounds (l : List UInt32) (s : St) : Nat → St
  | 0 => s
  | t + 1 => (rounds l s t).round (kW t) (l.getD t 0)
def St.plus (s r : St) : St := ⟨s.a + r.a, s.b + r.b, s.c + r.c, s.d + r.d, s.e + r.e, s.f + r.f, s.g + r.g, s.h + r.h⟩
/-- One block of 64 bytes worked in. -/
def compress (s : St) (b : Nat → UInt8) : St := s.plus (rounds (row b 64) s 64)
def start : St := ⟨0x6a09e667, 0xbb67ae85, 0x3c6ef372, 0xa54ff53a, 0x510e527f, 0x9b05688c, 0x1f83d9ab, 0x5be0cd19⟩
theorem St.cells_length (s : St) : s.cells.length = 8 := rfl
theorem wV_get (l : List UInt32) (j : Nat) (h : j < l.length) : (l.map wV).toArray[j]? = some (.int .u32 (wv (l.getD j 0))) := by
  simp [wV, List.getD, List.getElem?_eq_getElem h]
end Go.Proofs.YtdhcjaflbfpalaaGreatDoor.Sha

/-
  The small turning functions of package digest answer what the chapter says of them, for every word. No conditions.
-/
namespace Go.Proofs.YtdhcjaflbfpalaaGreatDoor.Sha
open Go Go.RowKit
set_option maxRecDepth 100000 in
theorem rot_any (x : UInt32) (n : Nat) (k : Int) (hk : k = -(n : Int)) (h1 : 1 ≤ n) (h2 : n ≤ 31) (w : World) :
    Calls Tryz.prog 123 #[.int .u32 (wv x), .int .i64 k] w fun e w' => e = .returned (.int .u32 (wv (rotr x n))) ∧ w = w' := by
  subst hk
  have hl := low5 n h1 h2
  go_enter Tryz.func123, Tryz.ntmps123
  go_wp2
  go_ret
  exact ⟨ret_int (rot_fact x n h1 h2), rfl⟩
set_option maxRecDepth 100000 in
theorem turn_any (x : UInt32) (n : Nat) (k : Int) (hk : k = (n : Int)) (h1 : 1 ≤ n) (h2 : n ≤ 31) (w : World) :
    Calls Tryz.prog 122 #[.int .u32 (wv x), .int .i64 k] w fun e w' => e = .returned (.int .u32 (wv (rotr x n))) ∧ w = w' := by
  subst hk
  go_enter Tryz.func122, Tryz.ntmps122
  go_wp2_with fail
  refine (rot_any x n _ rfl h1 h2 _).mono ?_
  rintro e w' ⟨rfl, rfl⟩
  go_wp2_with fail
  go_ret
  exact ⟨rfl, rfl⟩
section
set_option maxRecDepth 100000 in
attribute [local go_sem] wv_xor wv_shr3 wv_shr10
theorem sS0_any (x : UInt32) (w : World) :
    Calls Tryz.prog 121 #[.int .u32 (wv x)] w fun e w' => e = .returned (.int .u32 (wv (sS0 x))) ∧ w = w' := by
  go_enter Tryz.func121, Tryz.ntmps121
  go_wp2_with fail
  refine (turn_any x 7 _ rfl (by omega) (by omega) _).mono ?_
  rintro e w' ⟨rfl, rfl⟩
  go_wp2_with fail
  refine (turn_any x 18 _ rfl (by omega) (by omega) _).mono ?_
  rintro e w' ⟨rfl, rfl⟩
  go_wp2_with fail
  go_ret
  exact ⟨rfl, rfl⟩
set_option maxRecDepth 100000 in
theorem sS1_any (x : UInt32) (w : World) :
    Calls Tryz.prog 120 #[.int .u32 (wv x)] w fun e w' => e = .returned (.int .u32 (wv (sS1 x))) ∧ w = w' := by
  go_enter Tryz.func120, Tryz.ntmps120
  go_wp2_with fail
  refine (turn_any x 17 _ rfl (by omega) (by omega) _).mono ?_
  rintro e w' ⟨rfl, rfl⟩
  go_wp2_with fail
  refine (turn_any x 19 _ rfl (by omega) (by omega) _).mono ?_
  rintro e w' ⟨rfl, rfl⟩
  go_wp2_with fail
  go_ret
  exact ⟨rfl, rfl⟩
set_option maxRecDepth 100000 in
theorem bS0_any (x : UInt32) (w : World) :
    Calls Tryz.prog 119 #[.int .u32 (wv x)] w fun e w' => e = .returned (.int .u32 (wv (bS0 x))) ∧ w = w' := by
  go_enter Tryz.func119, Tryz.ntmps119
  go_wp2_with fail
  refine (turn_any x 2 _ rfl (by omega) (by omega) _).mono ?_
  rintro e w' ⟨rfl, rfl⟩
  go_wp2_with fail
  refine (turn_any x 13 _ rfl (by omega) (by omega) _).mono ?_
  rintro e w' ⟨rfl, rfl⟩
  go_wp2_with fail
  refine (turn_any x 22 _ rfl (by omega) (by omega) _).mono ?_
  rintro e w' ⟨rfl, rfl⟩
  go_wp2_with fail
  go_ret
  exact ⟨rfl, rfl⟩
set_option maxRecDepth 100000 in
theorem bS1_any (x : UInt32) (w : World) :
    Calls Tryz.prog 118 #[.int .u32 (wv x)] w fun e w' => e = .returned (.int .u32 (wv (bS1 x))) ∧ w = w' := by
  go_enter Tryz.func118, Tryz.ntmps118
  go_wp2_with fail
  refine (turn_any x 6 _ rfl (by omega) (by omega) _).mono ?_
  rintro e w' ⟨rfl, rfl⟩
  go_wp2_with fail
  refine (turn_any x 11 _ rfl (by omega) (by omega) _).mono ?_
  rintro e w' ⟨rfl, rfl⟩
  go_wp2_with fail
  refine (turn_any x 25 _ rfl (by omega) (by omega) _).mono ?_
  rintro e w' ⟨rfl, rfl⟩
  go_wp2_with fail
  go_ret
  exact ⟨rfl, rfl⟩
end
end Go.Proofs.YtdhcjaflbfpalaaGreatDoor.Sha

/-
  digest.spread makes the schedule of a block of 64 bytes, as the chapter gives it; nothing that was there turns. Conditions: the 64 bytes lie where the slice says.
-/
namespace Go.Proofs.YtdhcjaflbfpalaaGreatDoor.Sha
open Go Go.RowKit
/-- What stands at the head of each round: k words of the schedule. -/
def SpInv (b : Nat → UInt8) (B : Nat) (w : World) (top : Nat) (i : Value) (wr : World) : Prop :=
  ∃ k : Nat, k ≤ top ∧ i = .int .i64 k ∧ wr.heap[B]? = some (.cells (rowV b k).toArray 184 (0, 0)) ∧ Below B w wr
def SpInv2 (b : Nat → UInt8) (B : Nat) (w : World) (i : Value) (wr : World) : Prop :=
  ∃ k : Nat, 16 ≤ k ∧ k ≤ 64 ∧ i = .int .i64 k ∧ wr.heap[B]? = some (.cells (rowV b k).toArray 184 (0, 0)) ∧ Below B w wr
theorem sp_step {b : Nat → UInt8} {B k : Nat} {w wr : World} (hr : wr.heap[B]? = some (.cells (rowV b k).toArray 184 (0, 0))) (hb : Below B w wr) (hk : k < 64) (x : UInt32) (hx : nextW b k (row b k) = x) :
    (wr.setCell ⟨B, k, none⟩ (.int .u32 (wv x))).drew.heap[B]? = some (.cells (rowV b (k + 1)).toArray 184 (0, 0)) ∧ Below B w (wr.setCell ⟨B, k, none⟩ (.int .u32 (wv x))).drew := by
  subst hx
  refine ⟨?_, (hb.setCell (Nat.le_refl _) _).drew⟩
  rw [heap_drew, heap_setCell_same wr B k _ _ _ hr, ← rowV_set b k hk]
  rfl
attribute [local go_sem] bv_u32 bv_u32' wv_shl24 wv_shl16 wv_shl8 wr_shl24 wr_shl16 wr_shl8 wv_or wv_sum wv_add
set_option maxRecDepth 100000 in
theorem spread_any (b : Nat → UInt8) (bb boff cap : Nat) (w : World) (hb : ∀ j, j < 64 → w.cell? ⟨bb, boff + j, none⟩ = some (.int .u8 (bv (b j)))) :
    Calls Tryz.prog 117 #[.slice (some ⟨bb, boff, none⟩) 64 cap] w fun e w' => e = .returned (.agg ((row b 64).map wV).toArray) ∧ Below w.heap.size w w' := by
  have HB : Hid _ := hb
  have hbb : bb < w.heap.size := World.block_lt_of_cell? w _ (hb 0 (by omega))
  clear hb
  go_enter Tryz.func117, Tryz.ntmps117
  go_wp2_with fail
  go_loopw [5] (fun i wr => SpInv b w.heap.size w 16 i wr) (fun i _ => 16 - (intOf i).toNat)
  case atStart => exact ⟨0, by omega, rfl, by rw [heap_alloc_new]; rfl, (Below.refl _ _).alloc (Nat.le_refl _) _⟩
  case round =>
    obtain ⟨k, hk, rfl, hrow, hbel⟩ := hrel
    by_cases hlt : k < 16
    · have c0 : wr.cell? ⟨bb, boff + 4 * k, none⟩ = some (.int .u8 (bv (b (4 * k)))) := by rw [hbel.cell hbb]; exact HB.out _ (by omega)
      have c1 : wr.cell? ⟨bb, boff + (4 * k + 1), none⟩ = some (.int .u8 (bv (b (4 * k + 1)))) := by rw [hbel.cell hbb]; exact HB.out _ (by omega)
      have c2 : wr.cell? ⟨bb, boff + (4 * k + 2), none⟩ = some (.int .u8 (bv (b (4 * k + 2)))) := by rw [hbel.cell hbb]; exact HB.out _ (by omega)
      have c3 : wr.cell? ⟨bb, boff + (4 * k + 3), none⟩ = some (.int .u8 (bv (b (4 * k + 3)))) := by rw [hbel.cell hbb]; exact HB.out _ (by omega)
      have HR : Hid _ := hrow
      have HW : Hid _ := hbel
      clear hrow hbel
      go_wp2_with fail
      have g0 : IntKind.i64.wrap (4 * (k : Int)) = 4 * (k : Int) := IntWalk.i64_in _ (by omega)
      have g1 : IntKind.i64.wrap (4 * (k : Int) + 1) = 4 * (k : Int) + 1 := IntWalk.i64_in _ (by omega)
      have g2 : IntKind.i64.wrap (4 * (k : Int) + 2) = 4 * (k : Int) + 2 := IntWalk.i64_in _ (by omega)
      have g3 : IntKind.i64.wrap (4 * (k : Int) + 3) = 4 * (k : Int) + 3 := IntWalk.i64_in _ (by omega)
      have p0 : 0 ≤ 4 * (k : Int) := by omega
      have p1 : 0 ≤ 4 * (k : Int) + 1 := by omega
      have p2 : 0 ≤ 4 * (k : Int) + 2 := by omega
      have p3 : 0 ≤ 4 * (k : Int) + 3 := by omega
      have q0 : 4 * (k : Int) < 64 := by omega
      have q1 : 4 * (k : Int) + 1 < 64 := by omega
      have q2 : 4 * (k : Int) + 2 < 64 := by omega
      have q3 : 4 * (k : Int) + 3 < 64 := by omega
      have n0 : (4 * (k : Int)).toNat = 4 * k := by omega
      have n1 : (4 * (k : Int) + 1).toNat = 4 * k + 1 := by omega
      have n2 : (4 * (k : Int) + 2).toNat = 4 * k + 2 := by omega
      have n3 : (4 * (k : Int) + 3).toNat = 4 * k + 3 := by omega
      have q4 : (k : Int) < 64 := by omega
      have p4 : 0 ≤ (k : Int) := by omega
      go_still_tail 35, (by kernel_rfl)
      change wpList _ _ _ _ _ wr.drew
      clear g0 g1 g2 g3 n0 n1 n2 n3 q0 q1 q2 q3 p0 p1 p2 p3 c0 c1 c2 c3
      have s0 : wr.cell? ⟨w.heap.size, k, none⟩ = some (wV 0) := by rw [cell_of_row wr _ k _ _ _ HR.out]; exact rowV_zero b k k (Nat.le_refl _) (by omega)
      have s1 : wr.frozen? ⟨w.heap.size, k, none⟩ = false := frozen_of_row wr _ k _ _ HR.out
      go_wp2
      go_roundw
      case rel =>
        obtain ⟨r1, r2⟩ := sp_step HR.out HW.out (by omega) _ (nextW_low b k _ hlt)
        exact ⟨k + 1, by omega, by go_num, r1, r2⟩
      case measure => simp [intOf]; omega
    · have hk16 : k = 16 := by omega
      rw [hk16] at hrow
      have hge : ¬ (k : Int) < 16 := by omega
      clear hk16
      have HR : Hid _ := hrow
      have HW : Hid _ := hbel
      clear hrow hbel HB hk hlt
      obtain ⟨wo, rfl⟩ : ∃ wo : World, wo = wr := ⟨_, rfl⟩
      go_wp2_with fail
      go_loopw [4] (fun i wr => SpInv2 b w.heap.size w i wr) (fun i _ => 64 - (intOf i).toNat)
      case atStart => exact ⟨16, by omega, by omega, rfl, HR.out, HW.out⟩
      case round =>
        clear HR HW
        clear hge
        obtain ⟨k, hk1, hk, rfl, hrow, hbel⟩ := hrel
        by_cases hlt : k < 64
        · obtain ⟨x2, hx2⟩ : ∃ x : UInt32, (row b k).getD (k - 2) 0 = x := ⟨_, rfl⟩
          obtain ⟨x7, hx7⟩ : ∃ x : UInt32, (row b k).getD (k - 7) 0 = x := ⟨_, rfl⟩
          obtain ⟨x15, hx15⟩ : ∃ x : UInt32, (row b k).getD (k - 15) 0 = x := ⟨_, rfl⟩
          obtain ⟨x16, hx16⟩ : ∃ x : UInt32, (row b k).getD (k - 16) 0 = x := ⟨_, rfl⟩
          have HX : Hid (nextW b k (row b k) = sS1 x2 + x7 + sS0 x15 + x16) := by
            show _ = _
            rw [nextW_high b k _ hk1, hx2, hx7, hx15, hx16]
          have c2 : wr.cell? ⟨w.heap.size, k - 2, none⟩ = some (.int .u32 (wv x2)) := by rw [cell_of_row wr _ _ _ _ _ hrow, rowV_get b k _ (by omega), hx2]
          have c7 : wr.cell? ⟨w.heap.size, k - 7, none⟩ = some (.int .u32 (wv x7)) := by rw [cell_of_row wr _ _ _ _ _ hrow, rowV_get b k _ (by omega), hx7]
          have c15 : wr.cell? ⟨w.heap.size, k - 15, none⟩ = some (.int .u32 (wv x15)) := by rw [cell_of_row wr _ _ _ _ _ hrow, rowV_get b k _ (by omega), hx15]
          have c16 : wr.cell? ⟨w.heap.size, k - 16, none⟩ = some (.int .u32 (wv x16)) := by rw [cell_of_row wr _ _ _ _ _ hrow, rowV_get b k _ (by omega), hx16]
          clear hx2 hx7 hx15 hx16
          have HR : Hid _ := hrow
          have HW : Hid _ := hbel
          clear hrow hbel
          go_wp2_with fail
          have g2 : IntKind.i64.wrap ((k : Int) - 2) = (k : Int) - 2 := IntWalk.i64_in _ (by omega)
          have g7 : IntKind.i64.wrap ((k : Int) - 7) = (k : Int) - 7 := IntWalk.i64_in _ (by omega)
          have g15 : IntKind.i64.wrap ((k : Int) - 15) = (k : Int) - 15 := IntWalk.i64_in _ (by omega)
          have g16 : IntKind.i64.wrap ((k : Int) - 16) = (k : Int) - 16 := IntWalk.i64_in _ (by omega)
          have p2 : 0 ≤ (k : Int) - 2 := by omega
          have p7 : 0 ≤ (k : Int) - 7 := by omega
          have p15 : 0 ≤ (k : Int) - 15 := by omega
          have p16 : 0 ≤ (k : Int) - 16 := by omega
          have r2 : 2 ≤ (k : Int) := by omega
          have r7 : 7 ≤ (k : Int) := by omega
          have r15 : 15 ≤ (k : Int) := by omega
          have r16 : 16 ≤ (k : Int) := by omega
          have q2 : (k : Int) - 2 < 64 := by omega
          have q7 : (k : Int) - 7 < 64 := by omega
          have q15 : (k : Int) - 15 < 64 := by omega
          have q16 : (k : Int) - 16 < 64 := by omega
          have n2 : ((k : Int) - 2).toNat = k - 2 := by omega
          have n7 : ((k : Int) - 7).toNat = k - 7 := by omega
          have n15 : ((k : Int) - 15).toNat = k - 15 := by omega
          have n16 : ((k : Int) - 16).toNat = k - 16 := by omega
          have q0 : (k : Int) < 64 := by omega
          have p0 : 0 ≤ (k : Int) := by omega
          refine wp_region_still_tail 23 (by kernel_rfl) (by kernel_rfl) ?_
          simp only [List.take_succ_cons, List.take_zero, List.drop_succ_cons, List.drop_zero]
          repeat still_step
          still_call (same_of (sS1_any _ _))
          repeat still_step
          still_call (same_of (sS0_any _ _))
          repeat still_step
          refine wpStill_nil ?_
          change wpList _ _ _ _ _ wr.drew
          clear g2 g7 g15 g16 p2 p7 p15 p16 r2 r7 r15 r16 q2 q7 q15 q16 n2 n7 n15 n16 c2 c7 c15 c16
          have s0 : wr.cell? ⟨w.heap.size, k, none⟩ = some (wV 0) := by rw [cell_of_row wr _ k _ _ _ HR.out]; exact rowV_zero b k k (Nat.le_refl _) (by omega)
          have s1 : wr.frozen? ⟨w.heap.size, k, none⟩ = false := frozen_of_row wr _ k _ _ HR.out
          go_wp2
          go_roundw
          case rel =>
            obtain ⟨t1, t2⟩ := sp_step HR.out HW.out hlt _ HX.out
            exact ⟨k + 1, by omega, by omega, by go_num, t1, t2⟩
          case measure => simp [intOf]; omega
        · have hk64 : k = 64 := by omega
          rw [hk64, rowV_all] at hrow
          have hge : ¬ (k : Int) < 64 := by omega
          clear hk64
          have HR : Hid _ := hrow
          have HW : Hid _ := hbel
          clear hrow hbel hk hk1 hlt
          have hl : ((row b 64).map wV).toArray.size = 64 := by simp [row_length]
          have HL : Hid _ := hl
          clear hl
          go_wp2_with (first | (refine wpList_load_row rfl 184 (.tmp 2) rfl w.heap.size rfl 184 ((row b 64).map wV).toArray (0, 0) (.array 64 24) HR.out Tryz.underlying184 rfl (by rw [HL.out]; kernel_rfl) ?_) | (refine wpList_store_row rfl 184 (.tmp 2) (.tmp 71) rfl w.heap.size ((row b 64).map wV).toArray rfl rfl 184 ((row b 64).map wV).toArray HR.out (by rw [HL.out]; kernel_rfl) rfl (wV_one _) ?_))
          refine bodyPost_ret (results_cell_row rfl _ _ w.heap.size 184 ((row b 64).map wV).toArray (0, 0) (.array 64 24) rfl (setRow_heap _ _ _ _ _ _ HR.out) Tryz.underlying184 rfl (by rw [HL.out]; kernel_rfl)) rfl ⟨rfl, below_setRow HW.out (Nat.le_refl _) _⟩
end Go.Proofs.YtdhcjaflbfpalaaGreatDoor.Sha
