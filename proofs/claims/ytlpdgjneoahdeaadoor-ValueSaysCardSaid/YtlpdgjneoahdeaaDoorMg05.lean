/-
  Texts of this proof joined into one file: ShaSmall, ShaBytes, ShaWrite, ShaNone, ShaSum, ShaArgs, ErrVls. What each holds, and under which conditions, its own first sentence tells.
-/
import Derived.WalkKit
import Derived.Deep.Light
import Derived.LoopTactic
import Derived.Laws.CopyOwn
import Derived.Lib.Hide
import Derived.WalkSmall
import Derived.Maps.RangeWalk
import Derived.Maps.AppendAt
import Derived.Deep.DeepCutAuto
import Derived.StillTailTactics
import Derived.LoopN
import Derived.ProofKit
import Derived.OpenShut
import Derived.ShutString
import Derived.ChangeOld
import Derived.Deep.DeepHandedRow
import Derived.Lib.LaidTab
import Derived.Stop.LaidErr
import Derived.Test.YtlpdgjneoahdeaaDoorMg04
import Derived.Test.YtlpdgjneoahdeaaDoorMg01
import Derived.Test.YtlpdgjneoahdeaaDoorCards
import Derived.Test.YtlpdgjneoahdeaaDoorTie
import Derived.Test.YtlpdgjneoahdeaaDoorMg02
import Derived.Test.YtlpdgjneoahdeaaDoorRows
/-
  The small functions of digest's Writer: how long the padding is, the length in eight bytes, the words written down, how much was written. Conditions: sizes of messages that lie in memory.
-/
namespace Go.Proofs.YtlpdgjneoahdeaaDoor.Sha
open Go Go.RowKit
set_option maxRecDepth 100000 in
theorem pad_any (n : Nat) (w : World) (h : n ≤ 1152921504606846975) :
    Calls Tryd.prog 48 #[.int .i64 n] w fun e w' => e = .returned (.int .i64 (padLen n)) ∧ w = w' := by
  have hp : ((padLen n : Nat) : Int) = if (n : Int) % 64 < 56 then 56 - (n : Int) % 64 else 120 - (n : Int) % 64 := by
    unfold padLen
    split <;> split <;> omega
  by_cases hc : (n : Int) % 64 < 56
  · rw [if_pos hc] at hp
    have HP := Lib.hid hp
    clear hp
    go_enter Tryd.func48, Tryd.ntmps48
    go_wp2
    go_ret
    exact ⟨ret_int HP.out.symm, rfl⟩
  · rw [if_neg hc] at hp
    have HP := Lib.hid hp
    clear hp
    go_enter Tryd.func48, Tryd.ntmps48
    go_wp2
    go_ret
    exact ⟨ret_int HP.out.symm, rfl⟩
/-- k bytes of the length stand. -/
def LbInv (n B g : Nat) (w : World) (v i : Value) (wr : World) : Prop :=
  ∃ k : Nat, k ≤ 8 ∧ i = .int .i64 (56 - 8 * (k : Int)) ∧ v = .slice (some ⟨g, 0, none⟩) k 8 ∧ wr.ownsRow B 5 1 v k (((len8 n).take k).map bV) ∧ Below B w wr
theorem len8_snoc (n k : Nat) (h : k < 8) : (len8 n).take (k + 1) = (len8 n).take k ++ [lenByte n k] := by
  match k, h with
  | 0, _ => rfl
  | 1, _ => rfl
  | 2, _ => rfl
  | 3, _ => rfl
  | 4, _ => rfl
  | 5, _ => rfl
  | 6, _ => rfl
  | 7, _ => rfl
theorem lb_value (n k : Nat) : IntKind.u8.wrap (((n : Int) * 8) / 2 ^ (56 - 8 * k)) = bv (lenByte n k) := by
  unfold lenByte
  rw [← bv_of, Nat.mul_comm 8 n]
  congr 1
set_option maxRecDepth 100000 in
theorem bits_any (n : Nat) (w : World) (h : n ≤ 1152921504606846975) :
    Calls Tryd.prog 49 #[.int .i64 n] w fun e w' =>
      e = .returned (.slice (some ⟨w.heap.size, 0, none⟩) 8 8) ∧ w'.ownsRow w.heap.size 5 1 (.slice (some ⟨w.heap.size, 0, none⟩) 8 8) 8 ((len8 n).map bV) ∧ Below w.heap.size w w' := by
  obtain ⟨i0, hi, hz0, hz1, hz2⟩ := info_parts info_u8
  have hmk : ∀ w, (Instr.makeSlice 52 (.int .i64 0) (.int .i64 8)).run Tryd.prog w = .ok (.slice (some ⟨w.heap.size, 0, none⟩) 0 8) (w.alloc (.cells #[.int .u8 0, .int .u8 0, .int .u8 0, .int .u8 0, .int .u8 0, .int .u8 0, .int .u8 0, .int .u8 0] 5)) := fun _ => by kernel_rfl
  go_enter Tryd.func49, Tryd.ntmps49
  go_wp2_with fail
  clear hmk
  go_loopw [4, 5] (fun v i wr => LbInv n w.heap.size w.heap.size w v i wr) (fun _ i _ => (8 + intOf i).toNat)
  case atStart => exact ⟨0, by omega, rfl, rfl, World.ownsRow_made w _ 8 (Nat.le_refl _) (by decide) rfl, (Below.refl _ _).alloc (Nat.le_refl _) _⟩
  case round =>
    obtain ⟨k, hk, rfl, rfl, hown, hbel⟩ := hrel
    by_cases hlt : k < 8
    · have hv := lb_value n k
      have hv' : ((n : Int) * 8) / 2 ^ (56 - 8 * k) % 256 = bv (lenByte n k) := by rw [← hv, IntKind.wrap_u8']
      have hown1 := Lib.hid hown
      have hbel1 := Lib.hid hbel
      clear hown hbel
      go_wp2_with (at_builtin; refine wpList_append_fits _ rfl _ _ 52 rfl w.heap.size 5 i0 1 Tryd.underlying52 hi hz1 w.heap.size k 8 _ rfl (hown1.out.alloc _) ⟨wr.heap.size, 0, none⟩ 1 1 [.int .u8 (bv (lenByte n k))] rfl rfl (cell_one_new _ _ _) (one_u8 _) (by omega) ?_; intro w2 hown2 hgrow; have hown3 := Lib.hid hown2; have hgrow3 := Lib.hid hgrow; clear hown2 hgrow)
      go_roundw
      case rel =>
        refine ⟨k + 1, by omega, ?_, rfl, ?_, ?_⟩
        · exact congrArg (Value.int .i64) (by omega)
        · rw [len8_snoc n k hlt, List.map_append]
          exact hown3.out
        · have h1 : w.heap.size ≤ wr.heap.size := hbel1.out.size
          exact (hbel1.out.alloc h1 _).grown hgrow3.out (by simp; omega) (fun j hj => by cases hj; exact Nat.le_refl _)
      case measure => simp [intOf]; omega
    · have hk8 : k = 8 := by omega
      subst hk8
      have hown1 := Lib.hid hown
      have hbel1 := Lib.hid hbel
      clear hown hbel hk hlt
      go_wp2_with fail
      go_ret
      exact ⟨rfl, hown1.out, hbel1.out⟩
end Go.Proofs.YtlpdgjneoahdeaaDoor.Sha

/-
  digest.bytesOf writes the eight words down, the highest byte of each first; nothing that was there turns. No conditions.
-/
namespace Go.Proofs.YtlpdgjneoahdeaaDoor.Sha
open Go Go.RowKit
theorem set4 {w : World} {g T n : Nat} {A Z : List Value} (z0 z1 z2 z3 a b c d : Value) (hA : A.length = n) (h : w.heap[g]? = some (.cells (A ++ (z0 :: z1 :: z2 :: z3 :: Z)).toArray T (0, 0))) :
    ((((w.setCell ⟨g, n, none⟩ a).setCell ⟨g, n + 1, none⟩ b).setCell ⟨g, n + 2, none⟩ c).setCell ⟨g, n + 3, none⟩ d).heap[g]? = some (.cells (A ++ ([a, b, c, d] ++ Z)).toArray T (0, 0)) := by
  have h1 := heap_setCell_same w g n _ _ a h
  have e0 := set_mid A n 0 (z0 :: z1 :: z2 :: z3 :: Z) a hA
  rw [Nat.add_zero] at e0
  rw [List.setIfInBounds_toArray, e0] at h1
  have h2 := heap_setCell_same _ g (n + 1) _ _ b h1
  rw [List.setIfInBounds_toArray, set_mid A n 1 _ _ hA] at h2
  have h3 := heap_setCell_same _ g (n + 2) _ _ c h2
  rw [List.setIfInBounds_toArray, set_mid A n 2 _ _ hA] at h3
  have h4 := heap_setCell_same _ g (n + 3) _ _ d h3
  rw [List.setIfInBounds_toArray, set_mid A n 3 _ _ hA] at h4
  exact h4
def ByInv (s : St) (w : World) (i : Value) (wr : World) : Prop :=
  ∃ k : Nat, k ≤ 8 ∧ i = .int .i64 k ∧ wr.heap[w.heap.size + 1]? = some (.cells (outV s k).toArray 24 (0, 0)) ∧ Below w.heap.size w wr
attribute [local go_sem] wv_shr24 wv_shr16 wv_shr8 bv_wv bv_wv'
set_option maxRecDepth 100000 in
theorem bytes_any (s : St) (w : World) : Calls Tryd.prog 50 #[.agg s.cells.toArray] w fun e w' => e = .returned (.agg (s.bytes.map bV).toArray) ∧ Below w.heap.size w w' := by
  go_enter Tryd.func50, Tryd.ntmps50
  go_wp2_with (refine wpList_load_row rfl 97 (.tmp 1) rfl w.heap.size rfl 97 s.cells.toArray (0, 0) (.array 8 27) (heap_alloc2_old w _ _) Tryd.underlying97 rfl (by kernel_rfl) ?_; go_frame)
  go_loopw [6] (fun i wr => ByInv s w i wr) (fun i _ => 8 - (intOf i).toNat)
  case atStart => exact ⟨0, by omega, rfl, by rw [heap_alloc2_new]; rfl, ((Below.refl _ _).alloc (Nat.le_refl _) _).alloc (by simp) _⟩
  case round =>
    obtain ⟨k, hk, rfl, hrow, hbel⟩ := hrel
    by_cases hlt : k < 8
    · obtain ⟨x, hx⟩ : ∃ x, s.list.getD k 0 = x := ⟨_, rfl⟩
      have hn := outV_next s k hlt x hx
      have hix : ∀ W, (Instr.index 97 (.agg s.cells.toArray) (.int .i64 k)).run Tryd.prog W = .ok (.int .u32 (wv x)) W := fun W =>
        run_index_array 97 27 8 .u32 _ k _ Tryd.underlying97 Tryd.underlying27 (by kernel_rfl) hlt (by rw [St.cells_list, wV_get _ _ (by rw [St.list_length]; exact hlt), hx])
      rw [outV_split s k hlt] at hrow
      have hl : ((bytesTo s k).map bV).length = 4 * k := by rw [List.length_map, bytesTo_length s k hk]
      have g0 : wr.cell? ⟨w.heap.size + 1, 4 * k, none⟩ = some (bV 0) := by rw [cell_of_row _ _ _ _ _ _ hrow]; exact get_mid _ _ 0 _ hl
      have g1 : wr.cell? ⟨w.heap.size + 1, 4 * k + 1, none⟩ = some (bV 0) := by rw [cell_of_row _ _ _ _ _ _ hrow]; exact get_mid _ _ 1 _ hl
      have g2 : wr.cell? ⟨w.heap.size + 1, 4 * k + 2, none⟩ = some (bV 0) := by rw [cell_of_row _ _ _ _ _ _ hrow]; exact get_mid _ _ 2 _ hl
      have g3 : wr.cell? ⟨w.heap.size + 1, 4 * k + 3, none⟩ = some (bV 0) := by rw [cell_of_row _ _ _ _ _ _ hrow]; exact get_mid _ _ 3 _ hl
      have f0 := frozen_of_row wr (w.heap.size + 1) (4 * k) _ _ hrow
      have f1 := frozen_of_row wr (w.heap.size + 1) (4 * k + 1) _ _ hrow
      have f2 := frozen_of_row wr (w.heap.size + 1) (4 * k + 2) _ _ hrow
      have f3 := frozen_of_row wr (w.heap.size + 1) (4 * k + 3) _ _ hrow
      have HR := Lib.hid hrow
      have HW := Lib.hid hbel
      have HN := Lib.hid hn
      have HL := Lib.hid hl
      clear hrow hbel hn hl hx
      go_wp2_with fail
      go_roundw
      case rel =>
        refine ⟨k + 1, by omega, by go_num, ?_, ?_⟩
        · rw [← HN.out]
          exact set4 _ _ _ _ _ _ _ _ HL.out HR.out
        · exact (((HW.out.setCell (Nat.le_succ _) _).setCell (Nat.le_succ _) _).setCell (Nat.le_succ _) _).setCell (Nat.le_succ _) _
      case measure => simp [intOf]; omega
    · have hk8 : k = 8 := by omega
      rw [hk8, outV_all] at hrow
      have hge : ¬ (k : Int) < 8 := by omega
      have HR := Lib.hid hrow
      have HW := Lib.hid hbel
      have hl : (s.bytes.map bV).toArray.size = 32 := by simp [bytes_length]
      have HL := Lib.hid hl
      clear hrow hbel hk8 hk hlt hl
      go_wp2_with (first | (refine wpList_load_row rfl 24 (.tmp 2) rfl (w.heap.size + 1) rfl 24 (s.bytes.map bV).toArray (0, 0) (.array 32 5) HR.out Tryd.underlying24 rfl (by rw [HL.out]; kernel_rfl) ?_; go_frame) | (refine wpList_store_row rfl 24 (.tmp 2) (.tmp 37) rfl (w.heap.size + 1) (s.bytes.map bV).toArray rfl rfl 24 (s.bytes.map bV).toArray HR.out (by rw [HL.out]; kernel_rfl) rfl (bV_one _) ?_; go_frame))
      refine bodyPost_ret (results_cell_row rfl _ _ (w.heap.size + 1) 24 (s.bytes.map bV).toArray (0, 0) (.array 32 5) rfl (setRow_heap _ _ _ _ _ _ HR.out) Tryd.underlying24 rfl (by rw [HL.out]; kernel_rfl)) rfl ⟨rfl, below_setRow HW.out (Nat.le_succ _) _⟩
end Go.Proofs.YtlpdgjneoahdeaaDoor.Sha

/-
  digest's Writer.Write takes bytes behind those that came before: what the whole blocks came to, what is left over and how much was written stand as they should; nothing else that was there turns. Conditions: the bytes lie where the slice says, in another block of memory than the Writer; the table is there; all bytes together are fewer than 2^60.
-/
namespace Go.Proofs.YtlpdgjneoahdeaaDoor.Sha
open Go Go.RowKit
/-- A Writer's cells: eight words, 64 bytes, how much was written. -/
def WCells (w : World) (B : Nat) (s : St) (p : List UInt8) (n : Nat) : Prop :=
  p.length = 64 ∧ w.heap[B]? = some (.cells (s.cells ++ (p.map bV ++ [Value.int .i64 n])).toArray 100 (0, 0))
/-- A Writer that took the bytes l. -/
def WInv (w : World) (B : Nat) (l : List UInt8) : Prop :=
  ∃ s p, WCells w B s p l.length ∧ (l ≠ [] → s = blocks l (l.length / 64)) ∧ p.take (l.length % 64) = l.drop (64 * (l.length / 64))
theorem WCells.size {w : World} {B : Nat} {s : St} {p : List UInt8} {n : Nat} (h : WCells w B s p n) : w.cell? ⟨B, 72, none⟩ = some (.int .i64 n) := by
  rw [cell_of_row _ _ _ _ _ _ h.2, List.getElem?_toArray, List.getElem?_append_right (by rw [St.cells_length]; omega), List.getElem?_append_right (by rw [St.cells_length, List.length_map, h.1]; omega), St.cells_length, List.length_map, h.1]
  rfl
theorem WCells.byte {w : World} {B : Nat} {s : St} {p : List UInt8} {n : Nat} (h : WCells w B s p n) (j : Nat) (hj : j < 64) : w.cell? ⟨B, 8 + j, none⟩ = some (.int .u8 (bv (p.getD j 0))) := by
  rw [cell_of_row _ _ _ _ _ _ h.2, List.getElem?_toArray, List.getElem?_append_right (by rw [St.cells_length]; omega), St.cells_length, List.getElem?_append_left (by rw [List.length_map, h.1]; omega), List.getElem?_map, show 8 + j - 8 = j by omega,
    List.getElem?_eq_getElem (by rw [h.1]; exact hj)]
  simp [bV, List.getD, List.getElem?_eq_getElem (show j < p.length by rw [h.1]; exact hj)]
theorem WCells.frozen {w : World} {B : Nat} {s : St} {p : List UInt8} {n : Nat} (h : WCells w B s p n) (j : Nat) : w.frozen? ⟨B, j, none⟩ = false := frozen_of_row _ _ _ _ _ h.2
theorem WCells.there {w : World} {B : Nat} {s : St} {p : List UInt8} {n : Nat} (h : WCells w B s p n) : w.there B 0 8 := fun j hj =>
  ⟨by rw [cell_of_row _ _ _ _ _ _ h.2, List.getElem?_toArray, List.getElem?_append_left (by rw [St.cells_length]; omega), List.getElem?_eq_getElem (by rw [St.cells_length]; omega)]; rfl, h.frozen _⟩
theorem WCells.setSize {w : World} {B : Nat} {s : St} {p : List UInt8} {n : Nat} (h : WCells w B s p n) (m : Nat) : WCells (w.setCell ⟨B, 72, none⟩ (.int .i64 m)) B s p m := by
  refine ⟨h.1, ?_⟩
  rw [heap_setCell_same _ _ _ _ _ _ h.2, List.setIfInBounds_toArray, set_mid s.cells 8 64 _ _ (St.cells_length s), set_mid (p.map bV) 64 0 _ _ (by rw [List.length_map, h.1])]
  rfl
theorem WCells.words {w : World} {B : Nat} {s : St} {p : List UInt8} {n : Nat} (h : WCells w B s p n) (s' : St) : WCells (w.setCells B 0 s'.cells) B s' p n := by
  refine ⟨h.1, ?_⟩
  rw [setCells_heap B _ _ 0 _ _ h.2 (by simp [St.cells_length])]
  simp [splice, St.cells_length]
  rfl
theorem WCells.kept {w w' : World} {B : Nat} {s : St} {p : List UInt8} {n : Nat} (h : WCells w B s p n) (hb : Below w.heap.size w w') : WCells w' B s p n :=
  ⟨h.1, by rw [hb.block B (Array.getElem?_eq_some_iff.1 h.2).1]; exact h.2⟩
theorem splice_part (s : St) (p : List UInt8) (x : Value) (o : Nat) (cs : List UInt8) (hp : p.length = 64) (h : o + cs.length ≤ 64) :
    splice (s.cells ++ (p.map bV ++ [x])) (8 + o) (cs.map bV) = s.cells ++ ((splice p o cs).map bV ++ [x]) := by
  have e1 : (s.cells ++ (p.map bV ++ [x])).take (8 + o) = s.cells ++ (p.take o).map bV := by
    rw [List.take_append, List.take_of_length_le (by rw [St.cells_length]; omega), St.cells_length, show 8 + o - 8 = o by omega, List.take_append, List.length_map, hp, show o - 64 = 0 by omega]
    simp
  have e2 : (s.cells ++ (p.map bV ++ [x])).drop (8 + o + (cs.map bV).length) = (p.drop (o + cs.length)).map bV ++ [x] := by
    rw [List.length_map, List.drop_append, List.drop_of_length_le (by rw [St.cells_length]; omega), St.cells_length, show 8 + o + cs.length - 8 = o + cs.length by omega, List.drop_append, List.length_map, hp, show o + cs.length - 64 = 0 by omega]
    simp
  unfold splice
  rw [e1, e2]
  simp
theorem splice_take {p cs : List UInt8} {o : Nat} (h : o + cs.length ≤ p.length) : (splice p o cs).take (o + cs.length) = p.take o ++ cs := by
  have hl : (p.take o).length = o := by rw [List.length_take]; omega
  unfold splice
  rw [← List.append_assoc, List.take_append_of_le_length (by rw [List.length_append, hl]; omega), List.take_of_length_le (by rw [List.length_append, hl]; omega)]
theorem winv_short {w : World} {B : Nat} {s : St} {p l bs : List UInt8} (hs : s = blocks l (l.length / 64)) (hp : p.take (l.length % 64) = l.drop (64 * (l.length / 64))) (h : l.length % 64 + bs.length < 64)
    (hw : WCells w B s (splice p (l.length % 64) bs) (l.length + bs.length)) (h64 : p.length = 64) : WInv w B (l ++ bs) := by
  have e1 : (l ++ bs).length / 64 = l.length / 64 := by rw [List.length_append]; omega
  have e2 : (l ++ bs).length % 64 = l.length % 64 + bs.length := by rw [List.length_append]; omega
  refine ⟨s, _, by rw [List.length_append]; exact hw, fun _ => ?_, ?_⟩
  · rw [e1, blocks_append l bs _ (by omega)]; exact hs
  · rw [e2, e1, splice_take (by omega), hp, List.drop_append_of_le_length (by omega)]
theorem full_get {p l bs : List UInt8} (hp : p.take (l.length % 64) = l.drop (64 * (l.length / 64))) (h64 : p.length = 64) (h : 64 ≤ l.length % 64 + bs.length) (j : Nat) (hj : j < 64) :
    (splice p (l.length % 64) (bs.take (64 - l.length % 64))).getD j 0 = (l ++ bs).getD (64 * (l.length / 64) + j) 0 := by
  have hl : (bs.take (64 - l.length % 64)).length = 64 - l.length % 64 := by rw [List.length_take]; omega
  have e : splice p (l.length % 64) (bs.take (64 - l.length % 64)) = l.drop (64 * (l.length / 64)) ++ bs.take (64 - l.length % 64) := by
    have e0 := splice_take (p := p) (cs := bs.take (64 - l.length % 64)) (o := l.length % 64) (by rw [hl]; omega)
    rw [hl, List.take_of_length_le (by rw [length_splice _ _ _ (by rw [hl]; omega)]; omega)] at e0
    rw [e0, hp]
  have hd : (l.drop (64 * (l.length / 64))).length = l.length % 64 := by rw [List.length_drop]; omega
  rw [e]
  simp only [List.getD, List.getElem?_append, hd]
  by_cases h1 : j < l.length % 64
  · rw [if_pos h1, if_pos (by omega), List.getElem?_drop]
  · rw [if_neg h1, if_neg (by omega), List.getElem?_take_of_lt (by omega)]
    congr 2
    omega
theorem winv_end {w : World} {B m : Nat} {p L rem : List UInt8} (hm : m = L.length / 64) (hr : rem = L.drop (64 * m)) (h64 : p.length = 64) (hw : WCells w B (blocks L m) (splice p 0 rem) L.length) : WInv w B L := by
  subst hm hr
  have hl : (L.drop (64 * (L.length / 64))).length = L.length % 64 := by rw [List.length_drop]; omega
  refine ⟨_, _, hw, fun _ => rfl, ?_⟩
  have := splice_take (p := p) (cs := L.drop (64 * (L.length / 64))) (o := 0) (by omega)
  rw [Nat.zero_add, hl] at this
  rw [this]
  simp
theorem KTab.kept {w w' : World} {B : Nat} (h : KTab w) (hg : w.grownBy w' (some B)) (hB : B ≠ 25) : KTab w' := fun t ht =>
  hg.cell (h t ht) (fun e => hB (Option.some.inj e).symm)
/-- What stands when c bytes of bs are worked in, at a block's end. -/
def WrInv (l bs : List UInt8) (bb off cap B N : Nat) (w : World) (v : Value) (wr : World) : Prop :=
  ∃ c ad p', c ≤ bs.length ∧ (l.length + c) % 64 = 0 ∧ v = .slice (some ad) (bs.length - c) (cap - c) ∧ (c < bs.length → ad = ⟨bb, off + c, none⟩) ∧ WCells wr B (blocks (l ++ bs) ((l.length + c) / 64)) p' N ∧ w.grownBy wr (some B)
theorem WCells.mk' {w' : World} {B : Nat} {s' : St} {p' : List UInt8} {n : Nat} (hp : p'.length = 64)
    (h : w'.heap[B]? = some (.cells (s'.cells ++ (p'.map bV ++ [Value.int .i64 n])).toArray 100 (0, 0))) : WCells w' B s' p' n := ⟨hp, h⟩
/-- Behind the copy into what is left over. -/
theorem part_cells {w : World} {B u N : Nat} {s : St} {p X : List UInt8} (hp : p.length = 64) (hl : u + X.length ≤ 64)
    (h : w.heap[B]? = some (.cells (splice (s.cells ++ (p.map bV ++ [Value.int .i64 N])) (8 + u) (X.map bV)).toArray 100 (0, 0))) : WCells w B s (splice p u X) N := by
  refine ⟨by rw [length_splice _ _ _ (by omega)]; exact hp, ?_⟩
  rw [h, splice_part s p _ u X hp hl]
theorem short_end {w : World} {B u n0 n1 N : Nat} {s : St} {p l bs X : List UInt8} (h0 : n0 = l.length) (h1 : n1 = bs.length) (hu : u = n0 % 64) (hN : N = n0 + n1) (hX : X = bs.take (64 - u)) (hsh : u + n1 < 64)
    (hs : s = blocks l (n0 / 64)) (hp : p.take (l.length % 64) = l.drop (64 * (l.length / 64))) (h64 : p.length = 64) (hw : WCells w B s (splice p u X) N) : WInv w B (l ++ bs) := by
  subst h0 h1 hu hN
  rw [List.take_of_length_le (by omega)] at hX
  subst hX
  exact winv_short hs hp hsh hw h64
theorem full_step {u n0 n1 tk : Nat} {s : St} {p l bs X : List UInt8} (h0 : n0 = l.length) (h1 : n1 = bs.length) (hu : u = n0 % 64) (hX : X = bs.take (64 - u)) (htk : tk = 64 - u) (hge : 64 ≤ u + n1) (hu0 : 0 < u)
    (hs : s = blocks l (n0 / 64)) (hp : p.take (l.length % 64) = l.drop (64 * (l.length / 64))) (h64 : p.length = 64) :
    compress s (fun j => (splice p u X).getD j 0) = blocks (l ++ bs) ((l.length + tk) / 64) := by
  subst h0 h1 hu hX htk hs
  rw [show (l.length + (64 - l.length % 64)) / 64 = l.length / 64 + 1 by omega, ← blocks_append l bs _ (by omega)]
  exact blocks_next _ _ _ (fun j hj => full_get hp h64 hge j hj)
theorem grownBy_of_drew {a w w' : World} {row : Option Nat} (h : a.grownBy w row) (k : w.drew.grownBy w' row) : a.grownBy w' row := grownBy_trans h ⟨k.os, k.tape, k.output, k.size, k.block⟩
def lenOf : Value → Nat
  | .slice _ n _ => n
  | _ => 0
theorem round_src {l bs : List UInt8} {c m j : Nat} (hm : m = (l.length + c) / 64) (h64 : (l.length + c) % 64 = 0) (_h : c + j < bs.length) : (l ++ bs).getD (64 * m + j) 0 = bs.getD (c + j) 0 := by
  simp only [List.getD]
  rw [List.getElem?_append_right (by omega)]
  congr 2
  omega
set_option maxHeartbeats 1000000 in
set_option maxRecDepth 100000 in
theorem write_some (l bs : List UInt8) (bb off cap B : Nat) (w : World) (hk : KTab w) (hB0 : B ≠ 25) (hbb : bb ≠ B) (hcap : bs.length ≤ cap) (hlen : l.length + bs.length ≤ 1152921504606846975)
    (hinv : WInv w B l) (hsrc : ∀ j, j < bs.length → w.cell? ⟨bb, off + j, none⟩ = some (.int .u8 (bv (bs.getD j 0)))) :
    Calls Tryd.prog 44 #[.pointer (some ⟨B, 0, none⟩), .slice (some ⟨bb, off, none⟩) bs.length cap] w fun e w' =>
      e = .returned (.tuple #[]) ∧ WInv w' B (l ++ bs) ∧ w.grownBy w' (some B) := by
  obtain ⟨s, p, hc, hs, hp⟩ := hinv
  have c72 := hc.size
  have HK := Lib.hid hk
  have HC := Lib.hid hc
  have HS := Lib.hid hs
  have HP := Lib.hid hp
  have HSRC := Lib.hid hsrc
  clear hk hc hs hp hsrc
  obtain ⟨n0, hn0⟩ : ∃ n0, n0 = l.length := ⟨_, rfl⟩
  obtain ⟨n1, hn1⟩ : ∃ n1, n1 = bs.length := ⟨_, rfl⟩
  rw [← hn0] at hlen c72
  rw [← hn1] at hlen hcap ⊢
  have HN0 := Lib.hid hn0
  have HN1 := Lib.hid hn1
  clear hn0 hn1
  go_enter Tryd.func44, Tryd.ntmps44
  go_upto_if 10 with (fail)
  go_cut [] (fun wc => ∃ s', WCells wc B s' p n0 ∧ s' = blocks l (n0 / 64) ∧ w.grownBy wc (some B))
  case first =>
    by_cases h0 : n0 = 0
    · have hz : ((n0 : Int) == 0) = true := by rw [beq_iff_eq]; omega
      clear h0
      go_wp2_with fail
      refine (start_any _).mono ?_
      rintro e w1 ⟨rfl, hb1⟩
      have HC1 : Hid (WCells w1 B s p n0) := by rw [HN0.out]; exact HC.out.kept hb1
      have HB1 := Lib.hid hb1
      clear hb1 c72
      go_wp2_with (refine wpList_store_mid rfl 97 (.tmp 14) (.tmp 12) rfl B 0 start.cells.toArray rfl rfl HC1.out.there (by kernel_rfl) (by kernel_rfl) ?_; go_frame)
      go_meet
      refine ⟨start, HC1.out.words start, ?_, grownBy_trans (grownBy_of_below HB1.out _) (grownBy_setCells B _ 0 w1)⟩
      have : n0 / 64 = 0 := by have := beq_iff_eq.1 hz; omega
      rw [this]
      rfl
    · have hz : ((n0 : Int) == 0) = false := by rw [beq_eq_false_iff_ne]; omega
      go_wp2_with fail
      go_meet
      refine ⟨s, by rw [HN0.out]; exact HC.out, ?_, grownBy_refl _ _⟩
      rw [HN0.out]
      exact HS.out (fun e => h0 (by rw [HN0.out, e]; rfl))
  case rest =>
    obtain ⟨s', hc, hs', hg⟩ := hcut
    obtain ⟨u, hu⟩ : ∃ u, u = n0 % 64 := ⟨_, rfl⟩
    obtain ⟨N, hN⟩ : ∃ N, N = n0 + n1 := ⟨_, rfl⟩
    have hmod : (n0 : Int).tmod 64 = (u : Int) := by rw [Int.tmod_eq_emod_of_nonneg (by omega)]; omega
    have hsum : (n0 : Int) + (n1 : Int) = (N : Int) := by omega
    have hu64 : u < 64 := by omega
    have c72' := hc.size
    have z72 := hc.frozen 72
    have HC1 := Lib.hid hc
    have HS1 := Lib.hid hs'
    have HG := Lib.hid hg
    have HU := Lib.hid hu
    have HN := Lib.hid hN
    clear hc hs' hg hu hN c72
    go_upto_if 30 with (fail)
    clear c72' z72
    go_cut [1] (fun v wx => WrInv l bs bb off cap B N w v wx)
    case first =>
      have HC2 : Hid (WCells (wc.setCell ⟨B, 72, none⟩ (.int .i64 N)) B s' p N) := HC1.out.setSize N
      have HG2 : Hid (w.grownBy (wc.setCell ⟨B, 72, none⟩ (.int .i64 N)) (some B)) := grownBy_trans HG.out (grownBy_setCells B [.int .i64 N] 72 wc)
      generalize wc.setCell ⟨B, 72, none⟩ (.int .i64 N) = w2 at HC2 HG2 ⊢
      clear HC1 HG hmod hsum
      by_cases h0 : u = 0
      · have hz : ¬ (0 : Int) < u := by omega
        clear h0
        go_wp2_with fail
        go_meet
        have hn0 := HN0.out
        have hn1 := HN1.out
        have hu1 := HU.out
        refine ⟨0, ⟨bb, off, none⟩, p, by omega, by omega, by rw [← hn1]; rfl, fun _ => rfl, ?_, HG2.out⟩
        rw [Nat.add_zero, ← hn0, blocks_append l bs _ (by omega), ← HS1.out]
        exact HC2.out
      · have hz : (0 : Int) < u := by omega
        clear h0
        obtain ⟨tk, htk⟩ : ∃ tk, tk = Nat.min n1 (64 - u) := ⟨_, rfl⟩
        obtain ⟨X, hX⟩ : ∃ X, X = bs.take (64 - u) := ⟨_, rfl⟩
        have hXl : (X.map bV).length = tk := by
          rw [hX, htk, HN1.out, List.length_map, List.length_take, Nat.min_comm]
        have HX := Lib.hid hX
        have HXL := Lib.hid hXl
        have HTK := Lib.hid htk
        have htk1 : tk ≤ n1 := by rw [htk]; exact Nat.min_le_left _ _
        have htk2 : tk ≤ 64 - u := by rw [htk]; exact Nat.min_le_right _ _
        have HSRC2 : Hid (∀ j v, (X.map bV)[j]? = some v → w2.cell? ((⟨bb, off, none⟩ : Addr).add j) = some v) := by
          intro j v hj
          have hj1 : j < (X.map bV).length := (List.getElem?_eq_some_iff.1 hj).1
          have hj2 : j < bs.length := by rw [hXl] at hj1; have := HN1.out; omega
          have hj3 : j < (bs.take (64 - u)).length := by rw [← hX]; rw [List.length_map] at hj1; exact hj1
          rw [Addr.add_mid, HG2.out.cell (HSRC.out j hj2) (fun e => hbb (Option.some.inj e)), ← hj, hX, List.getElem?_map, List.getElem?_eq_getElem hj3]
          simp [bV, List.getD, List.getElem?_eq_getElem hj2]
        have HFIT : Hid (8 + u + (X.map bV).length ≤ (s'.cells ++ (p.map bV ++ [Value.int .i64 N])).length) := by
          show _ ≤ _
          rw [hXl, List.length_append, List.length_append, List.length_map, HC2.out.1, St.cells_length]
          simp
          omega
        clear hX hXl htk
        by_cases hsh : u + n1 < 64
        · go_wp2_with ((with_reducible show wpList _ _ _ _ _ _); first | (refine wpList_slice_arr rfl 98 (.tmp 33) (.tmp 34) rfl 5 64 Tryd.underlying98 (by kernel_rfl) ⟨B, 8, none⟩ u rfl rfl hu64 ?_; rw [Addr.add_mid]; go_frame) | (refine wpList_copy_into rfl (.tmp 35) (.tmp 36) 52 52 rfl 5 Tryd.underlying52 (by kernel_rfl) (some ⟨B, 8 + u, none⟩) (some ⟨bb, off, none⟩) (64 - u) (64 - u) n1 cap rfl rfl B (8 + u) _ 100 HC2.out.2 (X.map bV) (HXL.out.trans HTK.out) (fun _ => ⟨rfl, _, rfl, HSRC2.out⟩) HFIT.out (bV_one' X) ?_; rw [HXL.out]; intro w3 hrow hgrow; go_frame))
          refine bodyPost_ret (results_none rfl _ _ _) rfl ?_
          have hXb : u + X.length ≤ 64 := by have := HXL.out; rw [List.length_map] at this; omega
          exact ⟨rfl, short_end HN0.out HN1.out HU.out HN.out HX.out hsh HS1.out HP.out HC2.out.1 (part_cells HC2.out.1 hXb hrow.out), grownBy_trans HG2.out hgrow.out⟩
        · have htk3 : tk = 64 - u := by
            have e := HTK.out
            rw [e]
            exact Nat.min_eq_right (by omega)
          have hge : ¬ (u : Int) + (tk : Int) < 64 := by omega
          have HTK3 := Lib.hid htk3
          clear hsh htk3
          go_upto_region 7 with ((with_reducible show wpList _ _ _ _ _ _); first | (refine wpList_slice_arr rfl 98 (.tmp 33) (.tmp 34) rfl 5 64 Tryd.underlying98 (by kernel_rfl) ⟨B, 8, none⟩ u rfl rfl hu64 ?_; rw [Addr.add_mid]; go_frame) | (refine wpList_copy_into rfl (.tmp 35) (.tmp 36) 52 52 rfl 5 Tryd.underlying52 (by kernel_rfl) (some ⟨B, 8 + u, none⟩) (some ⟨bb, off, none⟩) (64 - u) (64 - u) n1 cap rfl rfl B (8 + u) _ 100 HC2.out.2 (X.map bV) (HXL.out.trans HTK.out) (fun _ => ⟨rfl, _, rfl, HSRC2.out⟩) HFIT.out (bV_one' X) ?_; rw [HXL.out]; intro w3 hrow hgrow; go_frame))
          have hXb : u + X.length ≤ 64 := by have := HXL.out; rw [List.length_map] at this; omega
          have HC3 := Lib.hid (part_cells HC2.out.1 hXb hrow.out)
          have HG3 := Lib.hid (grownBy_trans HG2.out hgrow.out)
          have hK3 : KTab w3 := HK.out.kept HG3.out hB0
          have HK3 : Hid (KTab w3.drew) := hK3
          clear hK3
          have HC4 : Hid (WCells w3.drew B s' (splice p u X) N) := HC3.out
          clear hrow hgrow
          go_still_tail 7, (by kernel_rfl)
          change wpList _ _ _ _ _ (World.drew _)
          go_wp2_with fail
          refine (mix_any s' (fun j => (splice p u X).getD j 0) B 8 _ B 100 _ w3.drew HK3.out HC4.out.2 (fun j hj => HC4.out.byte j hj)).mono ?_
          rintro e w4 ⟨rfl, hB4, hg4⟩
          have HB4 := Lib.hid hB4
          have HG4 := Lib.hid hg4
          clear hB4 hg4
          go_wp2_with ((with_reducible show wpList _ _ _ _ _ _); refine wpList_slice_lo rfl 52 (.tmp 50) (.tmp 51) rfl 5 Tryd.underlying52 (by kernel_rfl) ⟨bb, off, none⟩ n1 cap tk rfl rfl htk1 ?_; intro ad had; go_frame)
          go_meet
          have e := full_step HN0.out HN1.out HU.out HX.out HTK3.out (by have := HTK3.out; omega) (by omega) HS1.out HP.out HC2.out.1
          have hn0 := HN0.out
          have hn1 := HN1.out
          have hu1 := HU.out
          have htk3 := HTK3.out
          refine ⟨tk, ad, splice p u X, by omega, by omega, by rw [← hn1], fun hlt => ?_, ?_, grownBy_of_drew HG3.out HG4.out⟩
          · rw [had.out (by omega), Addr.add_mid]
          · rw [← e]
            exact WCells.mk' HC3.out.1 HB4.out
    case rest =>
      have HCUT := Lib.hid hcut
      clear hcut HC1 HG HS1 HC HS HP HU hmod hsum hu64
      go_wp2_with fail
      go_loopw [1] (fun v wr => WrInv l bs bb off cap B N w v wr) (fun v _ => lenOf v)
      case atStart => exact HCUT.out
      case round =>
        clear HCUT
        obtain ⟨c, ad, p', hc1, hc2, rfl, hc3, hc4, hc5⟩ := hrel
        obtain ⟨r, hr⟩ : ∃ r, r = bs.length - c := ⟨_, rfl⟩
        obtain ⟨cp, hcp⟩ : ∃ cp, cp = cap - c := ⟨_, rfl⟩
        obtain ⟨m, hm⟩ : ∃ m, m = (l.length + c) / 64 := ⟨_, rfl⟩
        rw [← hr, ← hcp]
        rw [← hm] at hc4
        have hcp' : r ≤ cp := by have := HN1.out; omega
        have HR := Lib.hid hr
        have HCP := Lib.hid hcp
        have HM := Lib.hid hm
        have HC64 := Lib.hid hc2
        have HAD := Lib.hid hc3
        have HC := Lib.hid hc4
        have HG := Lib.hid hc5
        clear hr hcp hm hc2 hc3 hc4 hc5
        by_cases hlt : 64 ≤ r
        · have hcb : c < bs.length := by have := HR.out; omega
          obtain rfl := HAD.out hcb
          have hcp0 : ¬ cp = 0 := by omega
          have hcp64 : (64 : Int) ≤ cp := by omega
          have hlt' : (64 : Int) ≤ r := by omega
          go_wp2_with fail
          go_still_tail 5, (by kernel_rfl)
          change wpList _ _ _ _ _ (World.drew _)
          go_wp2_with fail
          have hK : KTab wr := HK.out.kept HG.out hB0
          have HKr : Hid (KTab wr.drew) := hK
          have HCr : Hid (WCells wr.drew B (blocks (l ++ bs) m) p' N) := HC.out
          have hS : ∀ j, j < 64 → wr.cell? ⟨bb, off + c + j, none⟩ = some (.int .u8 (bv ((l ++ bs).getD (64 * m + j) 0))) := fun j hj => by
            have hr := HR.out
            rw [round_src HM.out HC64.out (by omega), Nat.add_assoc]
            exact HG.out.cell (HSRC.out (c + j) (by omega)) (fun e => hbb (Option.some.inj e))
          have HS : Hid (∀ j, j < 64 → wr.drew.cell? ⟨bb, off + c + j, none⟩ = some (.int .u8 (bv ((l ++ bs).getD (64 * m + j) 0)))) := hS
          clear hK hS
          refine (mix_any (blocks (l ++ bs) m) (fun j => (l ++ bs).getD (64 * m + j) 0) bb (off + c) _ B 100 _ wr.drew HKr.out HCr.out.2 HS.out).mono ?_
          rintro e w4 ⟨rfl, hB4, hg4⟩
          have HB4 := Lib.hid hB4
          have HG4 := Lib.hid hg4
          clear hB4 hg4
          go_wp2_with ((with_reducible show wpList _ _ _ _ _ _); refine wpList_slice_lo rfl 52 (.tmp 62) (.const (.int .i64 64)) rfl 5 Tryd.underlying52 (by kernel_rfl) ⟨bb, off + c, none⟩ r cp 64 rfl rfl hlt ?_; intro ad had; go_frame)
          go_roundw
          case rel =>
            have hr := HR.out
            have hcp := HCP.out
            have hm := HM.out
            have h64 := HC64.out
            refine ⟨c + 64, ad, p', by omega, by omega, by rw [hr, hcp, Nat.sub_sub, Nat.sub_sub], fun hlt2 => ?_, ?_, grownBy_of_drew HG.out HG4.out⟩
            · rw [had.out (by omega), Addr.add_mid, Nat.add_assoc]
            · have e : (l.length + (c + 64)) / 64 = m + 1 := by omega
              rw [e, ← blocks_next (l ++ bs) m _ (fun j _ => rfl)]
              exact WCells.mk' HC.out.1 HB4.out
          case measure => simp [lenOf]; omega
        · have hge : ¬ (64 : Int) ≤ r := by omega
          obtain ⟨X, hX⟩ : ∃ X, X = bs.drop c := ⟨_, rfl⟩
          have hXl : (X.map bV).length = r := by rw [hX, HR.out, List.length_map, List.length_drop]
          have HX := Lib.hid hX
          have HXL := Lib.hid hXl
          have HSRC2 : Hid (0 < (X.map bV).length → ∃ a2, some ad = some a2 ∧ ∀ j v, (X.map bV)[j]? = some v → wr.cell? (a2.add j) = some v) := by
            intro h0
            have hr := HR.out
            obtain rfl := HAD.out (by omega)
            refine ⟨_, rfl, fun j v hj => ?_⟩
            have hj1 : j < (X.map bV).length := (List.getElem?_eq_some_iff.1 hj).1
            have hj2 : c + j < bs.length := by omega
            rw [Addr.add_mid, Nat.add_assoc, HG.out.cell (HSRC.out (c + j) hj2) (fun e => hbb (Option.some.inj e)), ← hj, hX, List.getElem?_map, List.getElem?_drop, List.getElem?_eq_getElem hj2]
            simp [bV, List.getD, List.getElem?_eq_getElem hj2]
          have HFIT : Hid (8 + (X.map bV).length ≤ ((blocks (l ++ bs) m).cells ++ (p'.map bV ++ [Value.int .i64 N])).length) := by
            show _ ≤ _
            rw [hXl, List.length_append, List.length_append, List.length_map, HC.out.1, St.cells_length]
            simp
            omega
          have HMIN : Hid (r = Nat.min r 64) := (Nat.min_eq_left (by omega)).symm
          clear hX hXl
          go_wp2_with ((with_reducible show wpList _ _ _ _ _ _); refine wpList_copy_into rfl (.tmp 67) (.tmp 68) 52 52 rfl 5 Tryd.underlying52 (by kernel_rfl) (some ⟨B, 8, none⟩) (some ad) 64 64 r cp rfl rfl B 8 _ 100 HC.out.2 (X.map bV) (HXL.out.trans HMIN.out) (fun h => ⟨rfl, HSRC2.out h⟩) HFIT.out (bV_one' X) ?_; rw [HXL.out]; intro w3 hrow hgrow; go_frame)
          go_end0
          have hr := HR.out
          have hm := HM.out
          have h64 := HC64.out
          have hn0 := HN0.out
          have hn1 := HN1.out
          have hN := HN.out
          have hXb : 0 + X.length ≤ 64 := by have := HXL.out; rw [List.length_map] at this; omega
          have hW := part_cells (u := 0) HC.out.1 hXb hrow.out
          have hL : (l ++ bs).length = N := by rw [List.length_append]; omega
          rw [← hL] at hW
          refine ⟨rfl, winv_end (m := m) (by rw [hL]; omega) ?_ HC.out.1 hW, grownBy_trans HG.out hgrow.out⟩
          have e1 : l.drop (64 * m) = [] := List.drop_of_length_le (by omega)
          rw [HX.out, List.drop_append, e1, List.nil_append]
          congr 1
          omega
end Go.Proofs.YtlpdgjneoahdeaaDoor.Sha

/-
  digest's Writer.Write of no bytes leaves what was taken as it is. Conditions: the Writer stands as it should; fewer than 2^60 bytes were taken.
-/
namespace Go.Proofs.YtlpdgjneoahdeaaDoor.Sha
open Go Go.RowKit
theorem write_nil_end {w wc : World} {B n0 u : Nat} {s' : St} {p l : List UInt8} (h0 : n0 = l.length) (hs : s' = blocks l (n0 / 64)) (hp : p.take (l.length % 64) = l.drop (64 * (l.length / 64))) (_hu : u = n0 % 64)
    (hw : WCells wc B s' p n0) (hg : w.grownBy wc (some B)) : WInv (wc.setCell ⟨B, 72, none⟩ (.int .i64 n0)) B l ∧ w.grownBy (wc.setCell ⟨B, 72, none⟩ (.int .i64 n0)) (some B) := by
  subst h0
  exact ⟨⟨s', p, hw.setSize _, fun _ => hs, hp⟩, grownBy_trans hg (grownBy_setCells B [.int .i64 l.length] 72 wc)⟩
set_option maxHeartbeats 1000000 in
set_option maxRecDepth 100000 in
theorem write_none (l : List UInt8) (sp : Option Addr) (cap B : Nat) (w : World) (hlen : l.length ≤ 1152921504606846975) (hinv : WInv w B l) :
    Calls Tryd.prog 44 #[.pointer (some ⟨B, 0, none⟩), .slice sp 0 cap] w fun e w' =>
      e = .returned (.tuple #[]) ∧ WInv w' B l ∧ w.grownBy w' (some B) := by
  obtain ⟨s, p, hc, hs, hp⟩ := hinv
  have c72 := hc.size
  have HC := Lib.hid hc
  have HS := Lib.hid hs
  have HP := Lib.hid hp
  clear hc hs hp
  obtain ⟨n0, hn0⟩ : ∃ n0, n0 = l.length := ⟨_, rfl⟩
  rw [← hn0] at hlen c72
  have HN0 := Lib.hid hn0
  clear hn0
  go_enter Tryd.func44, Tryd.ntmps44
  go_upto_if 10 with (fail)
  go_cut [] (fun wc => ∃ s', WCells wc B s' p n0 ∧ s' = blocks l (n0 / 64) ∧ w.grownBy wc (some B))
  case first =>
    by_cases h0 : n0 = 0
    · have hz : ((n0 : Int) == 0) = true := by rw [beq_iff_eq]; omega
      clear h0
      go_wp2_with fail
      refine (start_any _).mono ?_
      rintro e w1 ⟨rfl, hb1⟩
      have HC1 : Hid (WCells w1 B s p n0) := by rw [HN0.out]; exact HC.out.kept hb1
      have HB1 := Lib.hid hb1
      clear hb1 c72
      go_wp2_with ((with_reducible show wpList _ _ _ _ _ _); refine wpList_store_mid rfl 97 (.tmp 14) (.tmp 12) rfl B 0 start.cells.toArray rfl rfl HC1.out.there (by kernel_rfl) (by kernel_rfl) ?_; go_frame)
      go_meet
      refine ⟨start, HC1.out.words start, ?_, grownBy_trans (grownBy_of_below HB1.out _) (grownBy_setCells B _ 0 w1)⟩
      have : n0 / 64 = 0 := by have := beq_iff_eq.1 hz; omega
      rw [this]
      rfl
    · have hz : ((n0 : Int) == 0) = false := by rw [beq_eq_false_iff_ne]; omega
      go_wp2_with fail
      go_meet
      refine ⟨s, by rw [HN0.out]; exact HC.out, ?_, grownBy_refl _ _⟩
      rw [HN0.out]
      exact HS.out (fun e => h0 (by rw [HN0.out, e]; rfl))
  case rest =>
    obtain ⟨s', hc, hs', hg⟩ := hcut
    obtain ⟨u, hu⟩ : ∃ u, u = n0 % 64 := ⟨_, rfl⟩
    have hmod : (n0 : Int).tmod 64 = (u : Int) := by rw [Int.tmod_eq_emod_of_nonneg (by omega)]; omega
    have hu64 : u < 64 := by omega
    have c72' := hc.size
    have z72 := hc.frozen 72
    have HE := Lib.hid (write_nil_end HN0.out hs' HP.out hu hc hg)
    clear hc hs' hg hu c72
    go_upto_if 30 with (fail)
    clear c72' z72
    by_cases h0 : u = 0
    · have hz : ¬ (0 : Int) < u := by omega
      clear h0
      go_wp2_with fail
      refine wp_loop_rounds 1 ?_
      rw [rounds_succ]
      go_wp2_with ((with_reducible show wpList _ _ _ _ _ _); refine wpList_copy_nothing rfl (.tmp 67) (.tmp 68) 52 52 rfl 5 Tryd.underlying52 (by kernel_rfl) (some ⟨B, 8, none⟩) sp 64 64 0 cap rfl rfl (Nat.zero_min _) ?_; go_frame)
      go_end0
      exact ⟨rfl, HE.out⟩
    · have hz : (0 : Int) < u := by omega
      clear h0
      go_wp2_with ((with_reducible show wpList _ _ _ _ _ _); first | (refine wpList_slice_arr rfl 98 (.tmp 33) (.tmp 34) rfl 5 64 Tryd.underlying98 (by kernel_rfl) ⟨B, 8, none⟩ u rfl rfl hu64 ?_; rw [Addr.add_mid]; go_frame) | (refine wpList_copy_nothing rfl (.tmp 35) (.tmp 36) 52 52 rfl 5 Tryd.underlying52 (by kernel_rfl) (some ⟨B, 8 + u, none⟩) sp (64 - u) (64 - u) 0 cap rfl rfl (Nat.zero_min _) ?_; go_frame))
      refine bodyPost_ret (results_none rfl _ _ _) rfl ?_
      exact ⟨rfl, HE.out⟩
end Go.Proofs.YtlpdgjneoahdeaaDoor.Sha

/-
  digest's Writer.Sum answers the SHA-256 of all that was written, and turns nothing that was there. Conditions: the Writer stands as it should, the table is there, fewer than 2^59 bytes were written.
-/
namespace Go.Proofs.YtlpdgjneoahdeaaDoor.Sha
open Go Go.RowKit
theorem write_some' (l bs : List UInt8) (bb off n1 cap B : Nat) (w : World) (h1 : n1 = bs.length) (hk : KTab w) (hB0 : B ≠ 25) (hbb : bb ≠ B) (hcap : n1 ≤ cap) (hlen : l.length + n1 ≤ 1152921504606846975)
    (hinv : WInv w B l) (hsrc : ∀ j, j < n1 → w.cell? ⟨bb, off + j, none⟩ = some (.int .u8 (bv (bs.getD j 0)))) :
    Calls Tryd.prog 44 #[.pointer (some ⟨B, 0, none⟩), .slice (some ⟨bb, off, none⟩) n1 cap] w fun e w' =>
      e = .returned (.tuple #[]) ∧ WInv w' B (l ++ bs) ∧ w.grownBy w' (some B) := by
  subst h1
  exact write_some l bs bb off cap B w hk hB0 hbb hcap hlen hinv hsrc
def zeroSt : St := ⟨0, 0, 0, 0, 0, 0, 0, 0⟩
/-- A new Writer's cells. -/
def zeroW : Array Value := (zeroSt.cells ++ ((List.replicate 64 0).map bV ++ [Value.int .i64 (0 : Nat)])).toArray
theorem zero_writer (W : World) : (zeroValue 100).run Tryd.prog W = .ok (.agg zeroW) W := by kernel_rfl
theorem zero_inv {w : World} {B : Nat} (h : w.heap[B]? = some (.cells zeroW 100 (0, 0))) : WInv w B [] :=
  ⟨zeroSt, List.replicate 64 0, ⟨by simp, h⟩, fun e => absurd rfl e, rfl⟩
theorem sum_setup (w : World) (z cs : Array Value) (T : TypeId) : Below w.heap.size w (((w.alloc (.cells z T)).alloc (.cells zeroW 100)).setRow (w.heap.size + 1) cs)
    ∧ (((w.alloc (.cells z T)).alloc (.cells zeroW 100)).setRow (w.heap.size + 1) cs).heap.size = w.heap.size + 2
    ∧ (((w.alloc (.cells z T)).alloc (.cells zeroW 100)).setRow (w.heap.size + 1) cs).heap[w.heap.size + 1]? = some (.cells cs 100 (0, 0))
    ∧ (((w.alloc (.cells z T)).alloc (.cells zeroW 100)).setRow (w.heap.size + 1) cs).heap[w.heap.size]? = some (.cells z T (0, 0)) := by
  refine ⟨below_setRow (((Below.refl _ _).alloc (Nat.le_refl _) _).alloc (by simp) _) (Nat.le_succ _) _, by simp, setRow_heap _ _ _ _ _ _ (heap_alloc2_new _ _ _), ?_⟩
  rw [setRow_other _ _ _ _ (by omega)]
  exact heap_alloc2_old _ _ _
/-- The padding's cells, as they stand. -/
def padV : List Value := bV 0x80 :: List.replicate 63 (bV 0)
theorem padV_get (n j : Nat) (h : j < padLen n) : padV[j]? = some (.int .u8 (bv ((pad n).getD j 0))) := by
  have hb := padLen_bd n
  cases j with
  | zero => rfl
  | succ j =>
    have e1 : padV[j + 1]? = (List.replicate 63 (bV 0))[j]? := rfl
    have e2 : (pad n).getD (j + 1) 0 = 0 := by
      show (0x80 :: List.replicate (padLen n - 1) (0 : UInt8)).getD (j + 1) 0 = 0
      simp [List.getD, List.getElem?_replicate]
      split <;> rfl
    rw [e1, e2, List.getElem?_replicate, if_pos (by omega)]
    rfl
theorem KTab.below {w w' : World} (h : KTab w) (hb : Below w.heap.size w w') : KTab w' := fun t ht => by
  rw [hb.cell (p := ⟨25, t, none⟩) (World.block_lt_of_cell? w _ (h t ht))]
  exact h t ht
theorem KTab.pos {w : World} (h : KTab w) : 25 < w.heap.size := World.block_lt_of_cell? w _ (h 0 (by omega))
theorem sum_setup2 {w w2 : World} (o : Obj) (f1 : Below w.heap.size w w2) (f2 : w2.heap.size = w.heap.size + 2) {x y : Obj} (f3 : w2.heap[w.heap.size + 1]? = some x) (f4 : w2.heap[w.heap.size]? = some y) :
    Below w.heap.size w (w2.alloc o) ∧ (w2.alloc o).heap.size = w.heap.size + 3 ∧ (w2.alloc o).heap[w.heap.size + 1]? = some x ∧ (w2.alloc o).heap[w.heap.size]? = some y ∧ (w2.alloc o).heap[w.heap.size + 2]? = some o := by
  refine ⟨f1.alloc (by omega) _, by simp [f2], ?_, ?_, ?_⟩
  · rw [Below.heap_alloc _ _ _ (by omega)]; exact f3
  · rw [Below.heap_alloc _ _ _ (by omega)]; exact f4
  · rw [← f2]; exact heap_alloc_new _ _
theorem WInv.below {w w' : World} {B : Nat} {l : List UInt8} (h : WInv w B l) (hb : Below w.heap.size w w') : WInv w' B l := by
  obtain ⟨s, p, hc, hs, hp⟩ := h
  exact ⟨s, p, hc.kept hb, hs, hp⟩
/-- A whole message's words, ready to be written down. -/
theorem WInv.final {w : World} {B : Nat} {l : List UInt8} (h : WInv w B (l ++ pad l.length ++ len8 l.length)) :
    w.rangeAt B 0 (blocks (padded l) ((padded l).length / 64)).cells := by
  obtain ⟨s, p, hc, hs, _⟩ := h
  have e := hs (by simp [len8])
  intro j v hj
  have hj8 : j < s.cells.length := by rw [St.cells_length]; exact (List.getElem?_eq_some_iff.1 hj).1
  rw [Nat.zero_add, cell_of_row _ _ _ _ _ _ hc.2, List.getElem?_toArray, List.getElem?_append_left hj8, e]
  exact hj
set_option maxHeartbeats 1000000 in
set_option maxRecDepth 100000 in
theorem sum_any (l : List UInt8) (B : Nat) (w : World) (hk : KTab w) (hlen : l.length ≤ 576460752303423487) (hinv : WInv w B l) :
    Calls Tryd.prog 45 #[.pointer (some ⟨B, 0, none⟩)] w fun e w' =>
      e = .returned (.agg ((sha l).map bV).toArray) ∧ Below w.heap.size w w' := by
  obtain ⟨s, p, hc, hs, hp⟩ := hinv
  obtain ⟨n, hn⟩ : ∃ n, n = l.length := ⟨_, rfl⟩
  rw [← hn] at hc hlen
  have hB : B < w.heap.size := (Array.getElem?_eq_some_iff.1 hc.2).1
  obtain ⟨cs, hcs⟩ : ∃ cs, cs = s.cells ++ (p.map bV ++ [Value.int .i64 n]) := ⟨_, rfl⟩
  have hrow := hc.2
  rw [← hcs] at hrow
  have hl : cs.toArray.size = 73 := by simp [hcs, St.cells_length, hc.1]
  have HONE : Hid (cs.toArray.all (·.oneCell') = true) := by
    show _ = _
    rw [Array.all_eq_true_iff_forall_mem]
    intro v hv
    simp only [List.mem_toArray, hcs, List.mem_append, St.cells_list, List.mem_singleton] at hv
    rcases hv with hv | hv | rfl
    · exact (Array.all_eq_true_iff_forall_mem.1 (wV_one s.list)) v (by simpa using hv)
    · exact bV_one' p v hv
    · rfl
  have HL := Lib.hid hl
  have HROW := Lib.hid hrow
  have HCS := Lib.hid hcs
  have c72 := hc.size
  have HC := Lib.hid hc
  have HS := Lib.hid hs
  have HP := Lib.hid hp
  have HK := Lib.hid hk
  have HN := Lib.hid hn
  clear hl hrow hcs hc hs hp hk hn
  have hzw := zero_writer
  go_enter Tryd.func45, Tryd.ntmps45
  go_upto_region 2 with ((with_reducible show wpList _ _ _ _ _ _); first | (refine wpList_load_row rfl 100 (.tmp 6) rfl B rfl 100 cs.toArray (0, 0) _ ((Below.heap_alloc _ _ B hB).trans HROW.out) Tryd.underlying100 rfl (by rw [HL.out]; kernel_rfl) ?_; go_frame) | (refine wpList_store_row rfl 100 (.tmp 3) (.tmp 7) rfl (w.heap.size + 1) cs.toArray rfl rfl 100 _ (heap_alloc2_new _ _ _) (by rw [HL.out]; kernel_rfl) (by rw [HL.out]; rfl) HONE.out ?_; go_frame))
  obtain ⟨f1, f2, f3, f4⟩ := sum_setup w (List.replicate 32 (bV 0)).toArray cs.toArray 24
  generalize hw2 : World.setRow _ _ _ = w2
  have e2 : (((w.alloc (.cells (List.replicate 32 (bV 0)).toArray 24)).alloc (.cells zeroW 100)).setRow (w.heap.size + 1) cs.toArray) = w2 := hw2
  rw [e2] at f1 f2 f3 f4
  clear hw2 e2 c72 hzw
  have F1 := Lib.hid f1
  have F3 := Lib.hid f3
  have F4 := Lib.hid f4
  clear f1 f3 f4
  go_upto_region 4 with (fail)
  obtain ⟨g1, g2, g3, g4, g5⟩ := sum_setup2 (.cells padV.toArray 98) F1.out f2 F3.out F4.out
  generalize hw3 : World.alloc _ _ = w3
  have e3 : w2.alloc (.cells padV.toArray 98) = w3 := hw3
  rw [e3] at g1 g2 g3 g4 g5
  clear hw3 e3 f2 F1 F3 F4
  have c72 : w3.cell? ⟨B, 72, none⟩ = some (.int .i64 n) := by rw [g1.cell (p := ⟨B, 72, none⟩) hB]; exact HC.out.size
  have hI : WInv w3 (w.heap.size + 1) l := by
    refine ⟨s, p, ?_, HS.out, HP.out⟩
    rw [← HN.out]
    exact ⟨HC.out.1, by rw [g3, HCS.out]⟩
  have hK : KTab w3 := HK.out.below g1
  have hS : ∀ j, j < padLen n → w3.cell? ⟨w.heap.size + 2, 0 + j, none⟩ = some (.int .u8 (bv ((pad n).getD j 0))) := fun j hj => by
    rw [cell_of_row _ _ _ _ _ _ g5, Nat.zero_add, List.getElem?_toArray]
    exact padV_get n j hj
  have hb := padLen_bd n
  have hb1 : ((padLen n : Nat) : Int) ≤ 64 := by omega
  have HB := Lib.hid hb
  have HI := Lib.hid hI
  have HK3 := Lib.hid hK
  have HS3 := Lib.hid hS
  have G1 := Lib.hid g1
  have G2 := Lib.hid g2
  have G4 := Lib.hid g4
  clear hI hK hS g1 g2 g3 g4 g5 hb
  go_wp2_with (go_at_call 48; refine (pad_any n _ (by omega)).mono ?_; rintro e w' ⟨rfl, rfl⟩)
  refine (write_some' l (pad n) (w.heap.size + 2) 0 (padLen n) 64 (w.heap.size + 1) w3 (pad_length n).symm HK3.out (by have := HK.out.pos; omega) (by omega) HB.out.2.1 (by have := HB.out; have := HN.out; omega) HI.out HS3.out).mono ?_
  rintro e w4 ⟨rfl, hI4, hG4⟩
  have c72' : w4.cell? ⟨B, 72, none⟩ = some (.int .i64 n) := hG4.cell c72 (fun e => by have := Option.some.inj e; simp at this; omega)
  have HI4 := Lib.hid hI4
  have HG4 := Lib.hid hG4
  clear hI4 hG4 c72 hb1 HI HS3
  go_wp2_with (go_at_call 49; refine (bits_any n _ (by omega)).mono ?_; rintro e w5 ⟨rfl, ho5, hb5⟩; have HO5 := Lib.hid ho5; have HB5 := Lib.hid hb5; clear ho5 hb5)
  have hS : ∀ j, j < 8 → w5.cell? ⟨w4.heap.size, 0 + j, none⟩ = some (.int .u8 (bv ((len8 n).getD j 0))) := fun j hj => by
    rw [← Addr.add_mid]
    refine HO5.out.cells (g := w4.heap.size) rfl j _ ?_
    rw [List.getElem?_map, List.getElem?_eq_getElem (show j < (len8 n).length from hj)]
    simp [bV, List.getD, List.getElem?_eq_getElem (show j < (len8 n).length from hj)]
  have hz4 : w.heap.size + 3 ≤ w4.heap.size := by have := HG4.out.size; have := G2.out; omega
  have B4 := Lib.hid (grownBy_below HG4.out G1.out (Nat.le_succ _) (by have := G2.out; omega))
  have B5 := Lib.hid (B4.out.trans (HB5.out.mono (by omega)))
  have HS5 := Lib.hid hS
  clear hS
  refine (write_some' (l ++ pad n) (len8 n) w4.heap.size 0 8 8 (w.heap.size + 1) w5 rfl (HK.out.below B5.out) (by have := HK.out.pos; omega) (by omega) (Nat.le_refl _)
    (by have := HB.out; have := HN.out; rw [List.length_append, pad_length]; omega) (HI4.out.below HB5.out) HS5.out).mono ?_
  rintro e w6 ⟨rfl, hI6, hG6⟩
  rw [HN.out] at hI6
  have HR6 := Lib.hid hI6.final
  have hz5 : w.heap.size + 3 ≤ w5.heap.size := by have := HB5.out.size; omega
  have B6 := Lib.hid (grownBy_below hG6 B5.out (Nat.le_succ _) (by omega))
  have HG6 := Lib.hid hG6
  clear hI6 hG6 c72'
  have hH6 : w6.heap[w.heap.size]? = some (.cells (List.replicate 32 (bV 0)).toArray 24 (0, 0)) := by
    rw [HG6.out.block _ (by omega) (fun e => by have := Option.some.inj e; omega), HB5.out.block _ (by omega), HG4.out.block _ (by have := G2.out; omega) (fun e => by have := Option.some.inj e; omega)]
    exact G4.out
  have HH6 := Lib.hid hH6
  have hz6 : w.heap.size < w6.heap.size := by have := HG6.out.size; omega
  clear hH6 hz4 hz5
  obtain ⟨sf, hsf⟩ : ∃ sf, sf = blocks (padded l) ((padded l).length / 64) := ⟨_, rfl⟩
  have HSF := Lib.hid hsf
  rw [← hsf] at HR6
  clear hsf
  go_wp2_with ((with_reducible show wpList _ _ _ _ _ _); refine wpList_load_mid rfl 97 (.tmp 22) rfl (w.heap.size + 1) 0 rfl sf.cells (.array 8 27) HR6.out Tryd.underlying97 rfl (by kernel_rfl) ?_; go_frame)
  refine (bytes_any sf _).mono ?_
  rintro e w7 ⟨rfl, hb7⟩
  have hH7 : w7.heap[w.heap.size]? = some (.cells (List.replicate 32 (bV 0)).toArray 24 (0, 0)) := by rw [hb7.block _ hz6]; exact HH6.out
  have HH7 := Lib.hid hH7
  have B7 := Lib.hid (B6.out.trans (hb7.mono (by omega)))
  have hl : (sf.bytes.map bV).toArray.size = 32 := by simp [bytes_length]
  have HL2 := Lib.hid hl
  clear hH7 hb7 hl
  go_wp2_with ((with_reducible show wpList _ _ _ _ _ _); refine wpList_store_row rfl 24 (.tmp 2) (.tmp 24) rfl w.heap.size (sf.bytes.map bV).toArray rfl rfl 24 _ HH7.out (by rw [HL2.out]; kernel_rfl) (by rw [HL2.out]; rfl) (bV_one _) ?_; go_frame)
  refine bodyPost_ret (results_cell_row rfl _ _ w.heap.size 24 (sf.bytes.map bV).toArray (0, 0) (.array 32 5) rfl (setRow_heap _ _ _ _ _ _ HH7.out) Tryd.underlying24 rfl (by rw [HL2.out]; kernel_rfl)) rfl ⟨?_, below_setRow B7.out (Nat.le_refl _) _⟩
  rw [HSF.out]
  rfl
end Go.Proofs.YtlpdgjneoahdeaaDoor.Sha

/-
  How the statements' arguments and the listed table read: a slice of bytes or numbers that came in, the table of the rounds' words, a start that fits. No conditions.
-/
namespace Go.Proofs.YtlpdgjneoahdeaaDoor.Sha
open Go Go.ChangeShapes Go.WideShapes Go.ChangeAt Go.RowKit
theorem gTab : Tryd.prog.globalNamed "sargasso/digest.roundWords" = some 25 := by kernel_rfl
theorem gTabType : (Tryd.prog.globals[25]?).map (·.type) = some 110 := by kernel_rfl
theorem cellsTab : Tryd.prog.cellsOf 110 = 64 := by kernel_rfl
theorem cellsU32 : Tryd.prog.cellsOf 27 = 1 := by kernel_rfl
def kInts : List Int := kList.map wv
theorem kInts_get (t : Nat) (h : t < 64) : kInts.getD t 0 = wv (kW t) := by
  unfold kInts kW
  simp only [List.getD, List.getElem?_map]
  rw [List.getElem?_eq_getElem (show t < kList.length from h)]
  rfl
theorem laid_list {H : Type} : (Rows.laid_sargasso_digest_roundWords : DataW H) = Lib.tabData .u32 kInts := rfl
/-- WHAT THE ROW's LIST GIVES: the table's cells. -/
theorem table {W : World} (h : laidMetH Tryd.prog [("sargasso/digest.roundWords", Rows.laid_sargasso_digest_roundWords)] W) : KTab W := by
  rw [laid_list] at h
  have hT := Lib.tabIs_of_head (rest := []) gTab gTabType Tryd.underlying110 Tryd.underlying27 cellsU32 cellsTab h
  intro t ht
  rw [hT.cell gTab t (show t < 64 from ht), kInts_get t ht]
end Go.Proofs.YtlpdgjneoahdeaaDoor.Sha

/-
  What a row that lists 25 errors of package api gives: each is there, each its own; a start that fits. No conditions.
-/
namespace Go.Proofs.YtlpdgjneoahdeaaDoor.Sha
open Go Go.ChangeShapes Go.WideShapes Go.ChangeAt Go.RowKit
/-- The listed errors: name, place, text. -/
def errVlsList : List (String × Nat × List UInt8) := [("sargasso/api.ErrEnd", 5, [105, 116, 32, 101, 110, 100, 115, 32, 116, 111, 111, 32, 101, 97, 114, 108, 121]), ("sargasso/api.ErrShape", 0, [110, 111, 116, 32, 97, 115, 32, 105, 116, 32, 104, 97, 115, 32, 116, 111, 32, 98, 101]), ("sargasso/api.ErrLong", 6, [116, 111, 111, 32, 108, 111, 110, 103]), ("sargasso/api.ErrMany", 7, [116, 111, 111, 32, 109, 97, 110, 121, 44, 32, 111, 114, 32, 116, 111, 111, 32, 102, 101, 119]), ("sargasso/api.ErrValue", 2, [97, 110, 32, 97, 109, 111, 117, 110, 116, 32, 116, 104, 97, 116, 32, 99, 97, 110, 39, 116, 32, 98, 101]), ("sargasso/api.ErrTwice", 8, [111, 110, 101, 32, 116, 104, 105, 110, 103, 32, 116, 119, 105, 99, 101]), ("sargasso/api.ErrBase", 9, [110, 111, 32, 102, 105, 114, 115, 116, 32, 116, 114, 97, 110, 115, 97, 99, 116, 105, 111, 110, 32, 119, 104, 101, 114, 101, 32, 116, 104, 101, 114, 101, 32, 104, 97, 115, 32, 116, 111, 32, 98, 101, 32, 111, 110, 101, 44, 32, 111, 114, 32, 111, 110, 101, 32, 119, 104, 101, 114, 101, 32, 116, 104, 101, 114, 101, 32, 109, 97, 121, 32, 98, 101, 32, 110, 111, 110, 101]), ("sargasso/api.ErrRoot", 10, [97, 32, 114, 111, 111, 116, 32, 116, 104, 97, 116, 32, 100, 111, 101, 115, 32, 110, 111, 116, 32, 102, 105, 116]), ("sargasso/api.ErrKnown", 11, [107, 110, 111, 119, 110, 32, 97, 108, 114, 101, 97, 100, 121]), ("sargasso/api.ErrParent", 12, [110, 111, 32, 115, 117, 99, 104, 32, 112, 97, 114, 101, 110, 116]), ("sargasso/api.ErrInvalid", 13, [98, 101, 104, 105, 110, 100, 32, 119, 104, 97, 116, 32, 105, 115, 32, 110, 111, 116, 32, 118, 97, 108, 105, 100]), ("sargasso/api.ErrTime", 14, [97, 32, 116, 105, 109, 101, 32, 116, 104, 97, 116, 32, 105, 115, 32, 116, 111, 111, 32, 101, 97, 114, 108, 121]), ("sargasso/api.ErrMissing", 15, [97, 32, 99, 111, 105, 110, 32, 116, 104, 97, 116, 32, 105, 115, 32, 110, 111, 116, 32, 116, 104, 101, 114, 101]), ("sargasso/api.ErrKey", 1, [97, 32, 107, 101, 121, 32, 116, 104, 97, 116, 32, 100, 111, 101, 115, 32, 110, 111, 116, 32, 102, 105, 116]), ("sargasso/api.ErrYoung", 16, [97, 32, 99, 111, 105, 110, 32, 116, 104, 97, 116, 32, 105, 115, 32, 116, 111, 111, 32, 121, 111, 117, 110, 103]), ("sargasso/api.ErrEarly", 17, [116, 111, 111, 32, 101, 97, 114, 108, 121, 32, 116, 111, 32, 98, 101, 32, 116, 97, 107, 101, 110]), ("sargasso/api.ErrLess", 3, [108, 101, 115, 115, 32, 99, 111, 109, 101, 115, 32, 105, 110, 32, 116, 104, 97, 110, 32, 103, 111, 101, 115, 32, 111, 117, 116]), ("sargasso/api.ErrReward", 18, [109, 111, 114, 101, 32, 116, 104, 97, 110, 32, 116, 104, 101, 32, 114, 101, 119, 97, 114, 100]), ("sargasso/api.ErrClash", 19, [97, 32, 99, 111, 105, 110, 32, 116, 104, 97, 116, 32, 105, 115, 32, 115, 112, 101, 110, 116, 32, 105, 110, 32, 116, 104, 101, 32, 112, 111, 111, 108]), ("sargasso/api.ErrLimit", 20, [116, 111, 111, 32, 109, 97, 110, 121, 32, 116, 104, 97, 116, 32, 104, 97, 110, 103, 32, 116, 111, 103, 101, 116, 104, 101, 114]), ("sargasso/api.ErrFull", 21, [116, 104, 101, 114, 101, 32, 105, 115, 32, 110, 111, 32, 114, 111, 111, 109]), ("sargasso/api.ErrRange", 4, [97, 32, 110, 117, 109, 98, 101, 114, 32, 111, 117, 116, 32, 111, 102, 32, 105, 116, 115, 32, 114, 97, 110, 103, 101]), ("sargasso/api.ErrNone", 22, [116, 104, 101, 114, 101, 32, 105, 115, 32, 110, 111, 110, 101]), ("sargasso/api.ErrWord", 23, [110, 111, 32, 115, 117, 99, 104, 32, 119, 111, 114, 100]), ("sargasso/api.ErrNumber", 24, [110, 111, 116, 32, 97, 32, 110, 117, 109, 98, 101, 114])]
def errVlsRow (x : String × Nat × List UInt8) : String × DataW Unit := (x.1, .iface "*errors.errorString" (.ptr (.agg [.lit (.string x.2.2)])))
theorem errVls_globals : (errVlsList.all fun x => decide (Tryd.prog.globalNamed x.1 = some x.2.1) && decide ((Tryd.prog.globals[x.2.1]?).map (·.type) = some 37)) = true := by kernel_rfl
theorem errVls_star : "*" ++ "errors.errorString" = "*errors.errorString" := by decide
theorem errVls_ptr (u : TypeId) (h : Tryd.prog.typeName? 3 u = some "*errors.errorString") : u = 114 :=
  typeName_ptr_named (nm := "errors.errorString") (by rw [errVls_star]; kernel_rfl) (by kernel_rfl) (by decide) u (by rw [errVls_star]; exact h)
theorem errVls_cells : Tryd.prog.cellsOf 132 = 1 := by kernel_rfl
theorem errVls_cellsStr : Tryd.prog.cellsOf 9 = 1 := by kernel_rfl
def errVlsIs (W : World) (x : String × Nat × List UInt8) (a : Addr) : Prop :=
  W.cell? ⟨x.2.1, 0, none⟩ = some (.iface 114 (.pointer (some a))) ∧ (∃ s, W.cell? a = some (.string s) ∧ s.data.toList = x.2.2) ∧ ∃ c t, W.heap[a.block]? = some (.cells c t (0, 0))
set_option maxRecDepth 100000 in
theorem errVls_head {W : World} {x : String × Nat × List UInt8} {r : List (String × DataW Unit)} (hg : Tryd.prog.globalNamed x.1 = some x.2.1) (ht : (Tryd.prog.globals[x.2.1]?).map (·.type) = some 37) (h : laidMet Tryd.prog (errVlsRow x :: r) W) : ∃ a, errVlsIs W x a := by
  obtain ⟨a, s, h1, h2, h3, _⟩ := laid_sentinel h hg ht Tryd.underlying37 errVls_ptr Tryd.underlying114 Tryd.underlying132 rfl rfl Tryd.underlying9 errVls_cells errVls_cellsStr
  refine ⟨a, by simpa using World.var?_cell hg h1 0, ⟨s, h2, h3⟩, ?_⟩
  obtain ⟨ps, ⟨g0, t0, cs0, f0, p0, q0, hg0, ht0, hv0, hd0, _, e0⟩, _, hrows⟩ := h
  obtain rfl := Option.some.inj (hg.symm.trans hg0)
  obtain rfl := Option.some.inj (ht.symm.trans ht0)
  subst e0
  obtain ⟨l0⟩ := cs0
  have ok0 : ∀ u v, l0 = [.iface u v] → Value.okWide Tryd.prog W .any 0 u v := fun u v e => by
    subst e
    exact (hrows x.2.1 0 (by simp [MemPlace.row])).2 u v (by simpa using World.var?_cell hg hv0 0)
  obtain ⟨a0, s0, rfl, hc0, hs0, hz0, rfl⟩ := errorString_of_trod Tryd.underlying37 errVls_ptr Tryd.underlying114 Tryd.underlying132 rfl rfl Tryd.underlying9 errVls_cells errVls_cellsStr hd0 ok0
  have ea : a0 = a := by
    have := h1.symm.trans hv0
    simp at this
    exact this.symm
  rw [← ea]
  exact (hrows a0.block a0.off (by simp [MemPlace.row])).1
theorem errVls_all {W : World} (rest : List (String × DataW Unit)) : ∀ l : List (String × Nat × List UInt8), (∀ x ∈ l, Tryd.prog.globalNamed x.1 = some x.2.1 ∧ (Tryd.prog.globals[x.2.1]?).map (·.type) = some 37) → laidMet Tryd.prog (l.map errVlsRow ++ rest) W → (∃ E : Nat → Addr, ∀ i x, l[i]? = some x → errVlsIs W x (E i)) ∧ laidMet Tryd.prog rest W
  | [], _, h => ⟨⟨fun _ => ⟨0, 0, none⟩, fun i x h => by simp at h⟩, h⟩
  | x :: l, hg, h => by
    obtain ⟨⟨E, hE⟩, hrest⟩ := errVls_all rest l (fun y hy => hg y (List.mem_cons_of_mem _ hy)) (laidMet.tail h)
    obtain ⟨a, ha⟩ := errVls_head (hg x List.mem_cons_self).1 (hg x List.mem_cons_self).2 h
    refine ⟨⟨fun i => match i with | 0 => a | k + 1 => E k, fun i y hy => ?_⟩, hrest⟩
    cases i with
    | zero => simp at hy; subst hy; exact ha
    | succ k => exact hE k y (by simpa using hy)
theorem errVls_inj : ∀ i j : Fin 25, (errVlsList.map (·.2.2)).getD i.val [] = (errVlsList.map (·.2.2)).getD j.val [] → i = j := by decide +kernel
set_option maxRecDepth 100000 in
theorem errVls_errs {W : World} (h : laidMetH Tryd.prog Rows.valueSaysRow.laid W) : (∃ E, Errs W E) ∧ KTab W := by
  have h' : laidMet Tryd.prog (errVlsList.map errVlsRow ++ [("sargasso/digest.roundWords", Rows.laid_sargasso_digest_roundWords)]) W := h
  obtain ⟨⟨E, hE⟩, hrest⟩ := errVls_all _ errVlsList (fun x hx => by
    have := List.all_eq_true.1 errVls_globals x hx
    simp only [Bool.and_eq_true, decide_eq_true_eq] at this
    exact this) h'
  have hl : errVlsList.length = 25 := rfl
  have get : ∀ i (hi : i < 25), errVlsIs W (errVlsList[i]'(by rw [hl]; exact hi)) (E i) := fun i hi => hE i _ (List.getElem?_eq_getElem (by rw [hl]; exact hi))
  refine ⟨⟨E, fun i hi => ?_, fun i j hi hj e => ?_⟩, table hrest⟩
  · obtain ⟨h1, _, h3⟩ := get i hi
    refine ⟨?_, h3⟩
    have eg : errG.getD i 0 = (errVlsList[i]'(by rw [hl]; exact hi)).2.1 := by
      have : errG = errVlsList.map (·.2.1) := rfl
      rw [this]
      simp [List.getD, List.getElem?_eq_getElem (show i < errVlsList.length by rw [hl]; exact hi)]
    rw [eg]
    exact h1
  · obtain ⟨_, ⟨s, hs, ht⟩, _⟩ := get i hi
    obtain ⟨_, ⟨s', hs', ht'⟩, _⟩ := get j hj
    rw [e] at hs
    have es := Option.some.inj (hs.symm.trans hs')
    simp at es
    rw [es] at ht
    have := errVls_inj ⟨i, hi⟩ ⟨j, hj⟩ (by
      simp only [List.getD, List.getElem?_map]
      rw [List.getElem?_eq_getElem (show i < errVlsList.length by rw [hl]; exact hi), List.getElem?_eq_getElem (show j < errVlsList.length by rw [hl]; exact hj)]
      exact ht.symm.trans ht')
    exact congrArg Fin.val this
/-- A WORLD FOR THE WITNESS: the settled one, each listed error as its initialiser lays it. -/
noncomputable def errVlsLow : Nat := (World.holding Tryd.prog default ⟨#[], #[], []⟩).heap.size
noncomputable def errVlsWorld (os : Os) : World :=
  let w0 := World.holding Tryd.prog os ⟨(errVlsList.map fun x => Obj.cells #[.string ⟨x.2.2.toArray⟩] 132).toArray, #[], []⟩
  { w0 with heap := (errVlsList.zipIdx).foldl (fun h x => h.modify x.1.2.1 fun
      | .cells _ t frozen => .cells #[.iface 114 (.pointer (some ⟨errVlsLow + x.2, 0, none⟩))] t frozen
      | o => o) (w0.heap.modify 25 fun
      | .cells _ t frozen => .cells (kList.map wV).toArray t frozen
      | o => o) }
end Go.Proofs.YtlpdgjneoahdeaaDoor.Sha
