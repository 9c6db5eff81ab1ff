/-
  What every seat's texts stand on: bytes as the model's integers, slices that read as bytes, cuts of them, memory that is new or the caller's, laws for walks of no program. No conditions beyond those that each states.
-/
import Derived.WalkKit
import Derived.Deep.Light
import Derived.StillTailTactics
import Derived.LoopTactic
import Derived.LoopN
import Derived.RegionTactic
import Derived.Deep.QuietTactic
import Derived.BigQuiet
import Derived.Laws.CopyOwn
import Derived.Laws.OwnMore
import Derived.Lib.Hide
import Derived.WalkSmall
import Derived.Maps.RangeWalk
import Derived.Maps.AppendAt
import Derived.Deep.DeepFit
import Derived.Test.YtlfpjfhpleociaaDoorProg
import Derived.Test.YtlfpjfhpleociaaDoorShaLib
namespace Go.Proofs.YtlfpjfhpleociaaDoor.Sha
open Go Go.RowKit
/-- A byte as the model's integer. -/
def bv (x : UInt8) : Int := x.toNat
theorem bv_bd (x : UInt8) : 0 ≤ bv x ∧ bv x ≤ 255 := by
  have := x.toNat_lt
  unfold bv
  omega
def bV (x : UInt8) : Value := .int .u8 (bv x)
theorem bV_one (l : List UInt8) : (l.map bV).toArray.all (·.oneCell') = true := by
  rw [Array.all_eq_true_iff_forall_mem]
  intro x hx
  simp at hx
  obtain ⟨a, _, rfl⟩ := hx
  rfl
theorem bV_one' (l : List UInt8) : ∀ v ∈ l.map bV, v.oneCell' = true := by
  intro v hv
  simp at hv
  obtain ⟨a, _, rfl⟩ := hv
  rfl
theorem bv_of {n : Nat} : IntKind.u8.wrap (n : Int) = bv (UInt8.ofNat n) := by
  unfold bv
  rw [IntKind.wrap_u8', UInt8.toNat_ofNat']
  simp
theorem ret_int {k : IntKind} {a b : Int} (h : a = b) : Ending.returned (.int k a) = .returned (.int k b) := by rw [h]
theorem grownBy_of_below {w wr : World} (h : Below w.heap.size w wr) (row : Option Nat) : w.grownBy wr row := ⟨h.os, h.tape, h.output, h.size, fun k hk _ => h.block k hk⟩
theorem grownBy_trans {a b c : World} {row : Option Nat} (h : a.grownBy b row) (k : b.grownBy c row) : a.grownBy c row :=
  ⟨k.os.trans h.os, k.tape.trans h.tape, k.output.trans h.output, Nat.le_trans h.size k.size, fun i hi hne => (k.block i (Nat.lt_of_lt_of_le hi h.size) hne).trans (h.block i hi hne)⟩
theorem one_u8 (x : Int) : ∀ u ∈ [Value.int .u8 x], u.oneCell' = true := by
  intro u hu
  simp at hu
  subst hu
  rfl
theorem info_u8 : (Tryd.prog.info? 5).map (fun i => (i.zero, i.size, i.bytes)) = some (some (.int .u8 0), 1, 1) := by kernel_rfl
theorem bv_inj {x y : UInt8} (h : bv x = bv y) : x = y := by
  unfold bv at h
  exact UInt8.toNat_inj.1 (by omega)
theorem bv_beq (x y : UInt8) : (bv x == bv y) = decide (x = y) := by
  by_cases h : x = y
  · subst h; simp
  · rw [decide_eq_false h, beq_eq_false_iff_ne]
    exact fun e => h (bv_inj e)
theorem bV_get (l : List UInt8) (j : Nat) (h : j < l.length) : (l.map bV).toArray[j]? = some (.int .u8 (bv (l.getD j 0))) := by
  simp [bV, List.getD, List.getElem?_eq_getElem h]
/-- The slice v reads as the bytes bs. -/
def SrcB (w : World) (v : Value) (bs : List UInt8) : Prop :=
  (∃ sp cap, v = .slice sp 0 cap ∧ bs = []) ∨
  (0 < bs.length ∧ ∃ bb off cap, v = .slice (some ⟨bb, off, none⟩) bs.length cap ∧ bs.length ≤ cap ∧ ∀ j, j < bs.length → w.cell? ⟨bb, off + j, none⟩ = some (.int .u8 (bv (bs.getD j 0))))
theorem SrcB.block {w : World} {bs : List UInt8} {bb off : Nat} (h0 : 0 < bs.length) (h : ∀ j, j < bs.length → w.cell? ⟨bb, off + j, none⟩ = some (.int .u8 (bv (bs.getD j 0)))) : bb < w.heap.size :=
  World.block_lt_of_cell? w _ (h 0 h0)
theorem SrcB.below {w w' : World} {v : Value} {bs : List UInt8} (h : SrcB w v bs) (hb : Below w.heap.size w w') : SrcB w' v bs := by
  rcases h with h | ⟨h0, bb, off, cap, hv, hc, hs⟩
  · exact .inl h
  · exact .inr ⟨h0, bb, off, cap, hv, hc, fun j hj => by
      rw [hb.cell (p := ⟨bb, off + j, none⟩) (SrcB.block h0 hs)]
      exact hs j hj⟩
theorem SrcB.le {w : World} {sp : Option Addr} {n cap : Nat} {bs : List UInt8} (h : SrcB w (.slice sp n cap) bs) : n = bs.length ∧ n ≤ cap := by
  rcases h with ⟨sp', cap', hv, rfl⟩ | ⟨h0, bb, off, cap', hv, hc, hs⟩
  · cases hv; exact ⟨rfl, Nat.zero_le _⟩
  · cases hv; exact ⟨rfl, hc⟩
theorem src_sliced {w : World} {sp : Option Addr} {n cap : Nat} {bs : List UInt8} (h : SrcB w (.slice sp n cap) bs) (l r : Nat) (h1 : l ≤ r) (h2 : r ≤ n) : SrcB w (sliced sp l r cap 1) ((bs.take r).drop l) := by
  rcases h with ⟨sp', cap', hv, rfl⟩ | ⟨h0, bb, off, cap', hv, hc, hs⟩
  · cases hv
    refine .inl ⟨if cap = l then sp else sp.map (·.add (l * 1)), cap - l, ?_, by simp⟩
    rw [sliced, show r - l = 0 by omega]
  · cases hv
    by_cases hlr : l = r
    · subst hlr
      refine .inl ⟨if cap = l then some ⟨bb, off, none⟩ else (some (⟨bb, off, none⟩ : Addr)).map (·.add (l * 1)), cap - l, ?_, ?_⟩
      · rw [sliced, Nat.sub_self]
      · rw [List.drop_of_length_le]
        rw [List.length_take]; omega
    · have hl : ((bs.take r).drop l).length = r - l := by rw [List.length_drop, List.length_take]; omega
      refine .inr ⟨by omega, bb, off + l, cap - l, ?_, by omega, fun j hj => ?_⟩
      · rw [sliced, if_neg (by omega), hl]
        simp [Addr.add_mid]
      · rw [hl] at hj
        rw [Nat.add_assoc, hs (l + j) (by omega)]
        congr 3
        simp only [List.getD, List.getElem?_drop]
        rw [List.getElem?_take_of_lt (by omega)]
theorem elem_of {P : Program} {t e : TypeId} (hu : P.underlying t = some (.slice e)) : P.elem t = e := by simp [Program.elem, hu]
theorem run_cut_h {P : Program} {w : World} (t e : TypeId) (sp : Option Addr) (n cap r : Nat) (hu : P.underlying t = some (.slice e)) (hsz : (P.info? e).map (·.size) = some 1) (h2 : r ≤ cap) :
    (Instr.sliceAt t (.slice sp n cap) none (some (.int .i64 r)) none).run P w = .ok (sliced sp 0 r cap 1) w := by
  obtain ⟨i, hi, hs⟩ := Option.map_eq_some_iff.1 hsz
  have hu' : P.underlying t = some (.slice (P.elem t)) := by rw [elem_of hu]; exact hu
  rw [run_sliceAt_slice _ _ _ _ _ _ hu', run_slice_h _ _ _ _ _ hu' _ _ (by omega) (by omega), elem_of hu]
  simp [sizeOf, typeInfo, hi, hs, sliced, go_sem]
theorem run_cut_l {P : Program} {w : World} (t e : TypeId) (sp : Option Addr) (n cap l : Nat) (hu : P.underlying t = some (.slice e)) (hsz : (P.info? e).map (·.size) = some 1) (h1 : l ≤ n) :
    (Instr.sliceAt t (.slice sp n cap) (some (.int .i64 l)) none none).run P w = .ok (sliced sp l n cap 1) w := by
  obtain ⟨i, hi, hs⟩ := Option.map_eq_some_iff.1 hsz
  have hu' : P.underlying t = some (.slice (P.elem t)) := by rw [elem_of hu]; exact hu
  rw [run_sliceAt_slice _ _ _ _ _ _ hu', run_slice_l _ _ _ _ _ hu' _ _ (by omega) (by omega), elem_of hu]
  simp [sizeOf, typeInfo, hi, hs, sliced, go_sem]
/-- A block of bytes that has just been laid and filled. -/
theorem fill_setup {w w1 : World} (hb : Below w.heap.size w w1) (z cs : Array Value) (T : TypeId) : Below w.heap.size w ((w1.alloc (.cells z T)).setRow w1.heap.size cs)
    ∧ ((w1.alloc (.cells z T)).setRow w1.heap.size cs).heap[w1.heap.size]? = some (.cells cs T (0, 0)) ∧ ((w1.alloc (.cells z T)).setRow w1.heap.size cs).heap.size = w1.heap.size + 1
    ∧ Below w1.heap.size w1 ((w1.alloc (.cells z T)).setRow w1.heap.size cs) :=
  ⟨below_setRow (hb.alloc hb.size _) hb.size _, setRow_heap _ _ _ _ _ _ (heap_alloc_new _ _), by simp, below_setRow ((Below.refl _ _).alloc (Nat.le_refl _) _) (Nat.le_refl _) _⟩
theorem row_below {w w' : World} {g : Nat} {o : Obj} (h : w.heap[g]? = some o) (hb : Below w.heap.size w w') : w'.heap[g]? = some o := by
  rw [hb.block g (Array.getElem?_eq_some_iff.1 h).1]
  exact h
theorem src_of_own {w : World} {base g n cap : Nat} {bs : List UInt8} (hn : 0 < n) (hc : n ≤ cap) (h : w.ownsRow base 5 1 (.slice (some ⟨g, 0, none⟩) n cap) n (bs.map bV)) : SrcB w (.slice (some ⟨g, 0, none⟩) n cap) bs := by
  have hl : bs.length = n := by have := h.1; rw [List.length_map] at this; omega
  refine .inr ⟨by omega, g, 0, cap, by rw [hl], by omega, fun j hj => ?_⟩
  rw [Nat.zero_add, h.cellAt j (by omega), List.getElem?_map, List.getElem?_eq_getElem hj]
  simp [bV, List.getD, List.getElem?_eq_getElem hj]
theorem src_of_own_any {w : World} {base n : Nat} {v : Value} {bs : List UInt8} (hn : 0 < n) (h : w.ownsRow base 5 1 v n (bs.map bV)) : SrcB w v bs := by
  rcases h.2 with ⟨_, h0⟩ | ⟨g, cap, cur, rfl, _, _, hc, _⟩
  · omega
  · exact src_of_own hn hc h
section
variable {P : Program} {w : World} {ops : Array Oper} {rest : List Oper} {o : Oper} {a : Act} {Q : Exit → Act → World → Prop}
theorem wpList_cut_l (hgd : o.guard = none) (t : TypeId) (x lo : Operand) (ho : o.op = .slice t x (some lo) none none) (e : TypeId) (hu : P.underlying t = some (.slice e)) (hsz : (P.info? e).map (·.size) = some 1)
    (sp : Option Addr) (n cap : Nat) (l : Nat) (hx : a.eval x = .slice sp n cap) (hl : a.eval lo = .int .i64 l) (h1 : l ≤ n)
    (h : ∀ v, Hid (v = sliced sp l n cap 1) → wpList P ops Q rest (a.put o.dst v) w) : wpList P ops Q (o :: rest) a w := by
  refine wpList_plain hgd fun K hK => ?_
  unfold Oper.wp
  simp [execOp, ho, hx, hl, run_cut_l (w := w) t e sp n cap l hu hsz h1, Result.andThen]
  exact hK _ _ (h _ rfl)
end
theorem SrcB.shape {w : World} {v : Value} {bs : List UInt8} (h : SrcB w v bs) : ∃ sp cap, v = .slice sp bs.length cap := by
  rcases h with ⟨sp, cap, rfl, rfl⟩ | ⟨_, bb, off, cap, rfl, _⟩
  · exact ⟨_, _, rfl⟩
  · exact ⟨_, _, rfl⟩
end Go.Proofs.YtlfpjfhpleociaaDoor.Sha
