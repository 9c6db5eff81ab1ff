/-
  Texts of this proof joined into one file: ShaSha, RefTwice, MkJoin, MkMath, MkSmall, MkHs, TxReadW, MkClimb0, CutS, BlFirst, BlMath, BlSm, HdBytes, HdId, MkRow0, MkPath0, MkCalls, BlIds, BlStart. What each holds, and under which conditions, its own first sentence tells.
-/
import Derived.Lib.AppendZerosOnto
import Derived.Lib.Walk
import Derived.LaidEql
import Derived.Deep.DeepFit
import Derived.Deep.Light
import Derived.IntWalk
import Derived.Laws.ResultCell
import Derived.Maps.AppendAt
import Derived.Lib.BufferRead
import Derived.Test.YtdhcjaflbfpalaaGreatDoorMh03
import Derived.Test.YtdhcjaflbfpalaaGreatDoorMh07
import Derived.Test.YtdhcjaflbfpalaaGreatDoorMh01
import Derived.Test.YtdhcjaflbfpalaaGreatDoorMh04
import Derived.Test.YtdhcjaflbfpalaaGreatDoorMh05
/-
  digest.Sha answers the SHA-256 of the bytes that it is given, digest.Twice that of that, and turn nothing that was there. Conditions: the bytes lie where the slice says, the table is there, fewer than 2^59 bytes.
-/
namespace Go.Proofs.YtdhcjaflbfpalaaGreatDoor.Sha
open Go Go.RowKit
/-- Write, whatever the slice. -/
theorem write_any (l bs : List UInt8) (v : Value) (B : Nat) (w : World) (hk : KTab w) (hB0 : B ≠ 4) (hsrc : SrcB w v bs) (hne : ∀ sp n cap, v = .slice (some sp) n cap → 0 < n → sp.block ≠ B)
    (hlen : l.length + bs.length ≤ 1152921504606846975) (hinv : WInv w B l) :
    Calls Tryz.prog 99 #[.pointer (some ⟨B, 0, none⟩), v] w fun e w' =>
      e = .returned (.tuple #[]) ∧ WInv w' B (l ++ bs) ∧ w.grownBy w' (some B) := by
  rcases hsrc with ⟨sp, cap, rfl, rfl⟩ | ⟨h0, bb, off, cap, rfl, hc, hs⟩
  · rw [List.append_nil]
    exact write_none l sp cap B w (by simpa using hlen) hinv
  · exact write_some l bs bb off cap B w hk hB0 (hne _ _ _ rfl h0) hc hlen hinv hs
theorem sha_setup (w : World) (z : Array Value) (T : TypeId) : Below w.heap.size w ((w.alloc (.cells z T)).alloc (.cells zeroW 164))
    ∧ ((w.alloc (.cells z T)).alloc (.cells zeroW 164)).heap.size = w.heap.size + 2
    ∧ ((w.alloc (.cells z T)).alloc (.cells zeroW 164)).heap[w.heap.size + 1]? = some (.cells zeroW 164 (0, 0))
    ∧ ((w.alloc (.cells z T)).alloc (.cells zeroW 164)).heap[w.heap.size]? = some (.cells z T (0, 0)) :=
  ⟨((Below.refl _ _).alloc (Nat.le_refl _) _).alloc (by simp) _, by simp, heap_alloc2_new _ _ _, heap_alloc2_old _ _ _⟩
set_option maxHeartbeats 1000000 in
set_option maxRecDepth 100000 in
theorem sha_any (bs : List UInt8) (v : Value) (w : World) (hk : KTab w) (hsrc : SrcB w v bs) (hlen : bs.length ≤ 576460752303423487) :
    Calls Tryz.prog 74 #[v] w fun e w' => e = .returned (.agg ((sha bs).map bV).toArray) ∧ Below w.heap.size w w' := by
  have hzw := zero_writer
  have HK := Lib.hid hk
  have HS := Lib.hid hsrc
  clear hk hsrc
  go_enter Tryz.func74, Tryz.ntmps74
  go_wp2_with fail
  obtain ⟨f1, f2, f3, f4⟩ := sha_setup w (List.replicate 32 (bV 0)).toArray 26
  generalize hw1 : World.alloc _ _ = w1
  have e1 : ((w.alloc (.cells (List.replicate 32 (bV 0)).toArray 26)).alloc (.cells zeroW 164)) = w1 := hw1
  rw [e1] at f1 f2 f3 f4
  have hK1 := HK.out.below f1
  have hp := HK.out.pos
  clear hw1 e1 hzw
  refine (write_any [] bs v (w.heap.size + 1) w1 hK1 (by omega) (HS.out.below f1) (HS.out.ne (Nat.le_succ _)) (by simpa using Nat.le_trans hlen (by omega)) (zero_inv f3)).mono ?_
  rintro e w2 ⟨rfl, hI, hG⟩
  rw [List.nil_append] at hI
  have B2 := grownBy_below hG f1 (Nat.le_succ _) (by omega)
  have h2 : w2.heap[w.heap.size]? = some (.cells (List.replicate 32 (bV 0)).toArray 26 (0, 0)) := by
    rw [hG.block _ (by omega) (fun e => by have := Option.some.inj e; omega)]
    exact f4
  have hs2 : w.heap.size < w2.heap.size := by have := hG.size; omega
  have HI := Lib.hid hI
  have HB2 := Lib.hid B2
  have HH2 := Lib.hid h2
  clear f1 f2 f3 f4 hK1 hI hG B2 h2
  go_wp2_with fail
  refine (sum_any bs (w.heap.size + 1) w2 (HK.out.below HB2.out) hlen HI.out).mono ?_
  rintro e w3 ⟨rfl, hb3⟩
  have h3 : w3.heap[w.heap.size]? = some (.cells (List.replicate 32 (bV 0)).toArray 26 (0, 0)) := by rw [hb3.block _ hs2]; exact HH2.out
  have HH3 := Lib.hid h3
  have B3 := Lib.hid (HB2.out.trans (hb3.mono (by omega)))
  have hl : ((sha bs).map bV).toArray.size = 32 := by simp [sha_length]
  have HL := Lib.hid hl
  clear h3 hb3 hl
  go_wp2_with ((with_reducible show wpList _ _ _ _ _ _); refine wpList_store_row rfl 26 (.tmp 2) (.tmp 6) rfl w.heap.size ((sha bs).map bV).toArray rfl rfl 26 _ HH3.out (by rw [HL.out]; kernel_rfl) (by rw [HL.out]; rfl) (bV_one _) ?_; go_frame)
  refine bodyPost_ret (results_cell_row rfl _ _ w.heap.size 26 ((sha bs).map bV).toArray (0, 0) (.array 32 5) rfl (setRow_heap _ _ _ _ _ _ HH3.out) Tryz.underlying26 rfl (by rw [HL.out]; kernel_rfl)) rfl ⟨rfl, below_setRow B3.out (Nat.le_refl _) _⟩
end Go.Proofs.YtdhcjaflbfpalaaGreatDoor.Sha

/-
  digest.Twice and the statements' own Twice answer the SHA-256 of the SHA-256 of the bytes; nothing that was there turns. Conditions: the bytes lie where the slice says, fewer than 2^45; for digest.Twice the table is there.
-/
namespace Go.Proofs.YtdhcjaflbfpalaaGreatDoor.Sha
open Go Go.RowKit
set_option maxHeartbeats 1000000 in
set_option maxRecDepth 100000 in
theorem twice_any (bs : List UInt8) (v : Value) (w : World) (hk : KTab w) (hsrc : SrcB w v bs) (hlen : bs.length ≤ 576460752303423487) :
    Calls Tryz.prog 56 #[v] w fun e w' => e = .returned (.agg ((sha (sha bs)).map bV).toArray) ∧ Below w.heap.size w w' := by
  have HK := Lib.hid hk
  have HS := Lib.hid hsrc
  have hl : ∀ l : List UInt8, l.length = 32 → (l.map bV).toArray.size = 32 := fun l h => by simp [h]
  have HL := Lib.hid hl
  clear hk hsrc hl
  go_enter Tryz.func56, Tryz.ntmps56
  go_wp2_with fail
  have b0 : Below w.heap.size w (w.alloc (.cells (List.replicate 32 (bV 0)).toArray 26)) := (Below.refl _ _).alloc (Nat.le_refl _) _
  have f0 : (w.alloc (.cells (List.replicate 32 (bV 0)).toArray 26)).heap[w.heap.size]? = some (.cells (List.replicate 32 (bV 0)).toArray 26 (0, 0)) := heap_alloc_new _ _
  have z0 : w.heap.size < (w.alloc (.cells (List.replicate 32 (bV 0)).toArray 26)).heap.size := by simp
  generalize hw0 : World.alloc _ _ = w0
  have q0 : w.alloc (.cells (List.replicate 32 (bV 0)).toArray 26) = w0 := hw0
  rw [q0] at b0 f0 z0
  clear hw0 q0
  refine (sha_any bs v w0 (HK.out.below b0) (HS.out.below b0) hlen).mono ?_
  rintro e w1 ⟨rfl, hb1⟩
  have e1 : Below w.heap.size w w1 := b0.trans (hb1.mono b0.size)
  have e2 : w1.heap[w.heap.size]? = some (.cells (List.replicate 32 (bV 0)).toArray 26 (0, 0)) := row_below f0 hb1
  have e3 : w.heap.size < w1.heap.size := Nat.lt_of_lt_of_le z0 hb1.size
  have E1 := Lib.hid e1
  have E2 := Lib.hid e2
  clear b0 f0 z0 hb1 e1 e2
  go_upto_region 2 with ((with_reducible show wpList _ _ _ _ _ _); refine wpList_store_row rfl 26 (.tmp 3) (.tmp 5) rfl w1.heap.size ((sha bs).map bV).toArray rfl rfl 26 _ (heap_alloc_new _ _) (by rw [HL.out _ (sha_length _)]; kernel_rfl) (by rw [HL.out _ (sha_length _)]; rfl) (bV_one _) ?_; go_frame)
  have e1 := E1.out
  have e2 := E2.out
  clear E1 E2
  obtain ⟨f1, f2, f3, f4⟩ := fill_setup e1 (List.replicate 32 (bV 0)).toArray ((sha bs).map bV).toArray 26
  have e4 : ((w1.alloc (.cells (List.replicate 32 (bV 0)).toArray 26)).setRow w1.heap.size ((sha bs).map bV).toArray).heap[w.heap.size]? = some (.cells (List.replicate 32 (bV 0)).toArray 26 (0, 0)) := by rw [f4.block _ e3]; exact e2
  obtain ⟨g, hg⟩ : ∃ g, g = w1.heap.size := ⟨_, rfl⟩
  generalize hw2 : World.setRow _ _ _ = w2
  have e5 : ((w1.alloc (.cells (List.replicate 32 (bV 0)).toArray 26)).setRow w1.heap.size ((sha bs).map bV).toArray) = w2 := hw2
  rw [e5] at f1 f2 f3 f4 e4
  rw [← hg] at f2 f3 ⊢
  have HK2 := Lib.hid (HK.out.below f1)
  have HS2 := Lib.hid (src_block (sha_length bs) f2)
  have F1 := Lib.hid f1
  have E4 := Lib.hid e4
  have hlt : w.heap.size < w2.heap.size := by omega
  clear f1 f2 f3 f4 e1 e2 e3 e4 e5 hw2 hg
  go_wp2_with fail
  refine (sha_any (sha bs) _ _ HK2.out HS2.out (by rw [sha_length]; omega)).mono ?_
  rintro e w3 ⟨rfl, hb3⟩
  have h3 : w3.heap[w.heap.size]? = some (.cells (List.replicate 32 (bV 0)).toArray 26 (0, 0)) := by rw [hb3.block _ hlt]; exact E4.out
  have H3 := Lib.hid h3
  have B3 := Lib.hid (F1.out.trans (hb3.mono (by omega)))
  clear h3 hb3
  go_wp2_with ((with_reducible show wpList _ _ _ _ _ _); refine wpList_store_row rfl 26 (.tmp 2) (.tmp 7) rfl w.heap.size ((sha (sha bs)).map bV).toArray rfl rfl 26 _ H3.out (by rw [HL.out _ (sha_length _)]; kernel_rfl) (by rw [HL.out _ (sha_length _)]; rfl) (bV_one _) ?_; go_frame)
  refine bodyPost_ret (results_cell_row rfl _ _ w.heap.size 26 ((sha (sha bs)).map bV).toArray (0, 0) (.array 32 5) rfl (setRow_heap _ _ _ _ _ _ H3.out) Tryz.underlying26 rfl (by rw [HL.out _ (sha_length _)]; kernel_rfl)) rfl ⟨rfl, below_setRow B3.out (Nat.le_refl _) _⟩
set_option maxHeartbeats 1000000 in
set_option maxRecDepth 100000 in
theorem ref_twice (bs : List UInt8) (sp : Option Addr) (n cap : Nat) (w : World) (hsrc : SrcB w (.slice sp n cap) bs) (hn : n ≤ 35184372088832) :
    Calls Tryz.prog 34 #[.slice sp n cap] w fun e w' => e = .returned (.agg ((sha (sha bs)).map bV).toArray) ∧ Below w.heap.size w w' := by
  have HS := Lib.hid hsrc
  have hl : ∀ l : List UInt8, l.length = 32 → (l.map bV).toArray.size = 32 := fun l h => by simp [h]
  have HL := Lib.hid hl
  clear hsrc hl
  go_enter Tryz.func34, Tryz.ntmps34
  go_wp2_with fail
  have b0 : Below w.heap.size w (w.alloc (.cells (List.replicate 32 (bV 0)).toArray 26)) := (Below.refl _ _).alloc (Nat.le_refl _) _
  have f0 : (w.alloc (.cells (List.replicate 32 (bV 0)).toArray 26)).heap[w.heap.size]? = some (.cells (List.replicate 32 (bV 0)).toArray 26 (0, 0)) := heap_alloc_new _ _
  have z0 : w.heap.size < (w.alloc (.cells (List.replicate 32 (bV 0)).toArray 26)).heap.size := by simp
  generalize hw0 : World.alloc _ _ = w0
  have q0 : w.alloc (.cells (List.replicate 32 (bV 0)).toArray 26) = w0 := hw0
  rw [q0] at b0 f0 z0
  clear hw0 q0
  refine (ref_any bs sp n cap w0 (HS.out.below b0) hn).mono ?_
  rintro e w1 ⟨rfl, hb1⟩
  have e1 : Below w.heap.size w w1 := b0.trans (hb1.mono b0.size)
  have e2 : w1.heap[w.heap.size]? = some (.cells (List.replicate 32 (bV 0)).toArray 26 (0, 0)) := row_below f0 hb1
  have e3 : w.heap.size < w1.heap.size := Nat.lt_of_lt_of_le z0 hb1.size
  have E1 := Lib.hid e1
  have E2 := Lib.hid e2
  clear b0 f0 z0 hb1 e1 e2
  go_upto_region 2 with ((with_reducible show wpList _ _ _ _ _ _); refine wpList_store_row rfl 26 (.tmp 3) (.tmp 5) rfl w1.heap.size ((sha bs).map bV).toArray rfl rfl 26 _ (heap_alloc_new _ _) (by rw [HL.out _ (sha_length _)]; kernel_rfl) (by rw [HL.out _ (sha_length _)]; rfl) (bV_one _) ?_; go_frame)
  have e1 := E1.out
  have e2 := E2.out
  clear E1 E2
  obtain ⟨f1, f2, f3, f4⟩ := fill_setup e1 (List.replicate 32 (bV 0)).toArray ((sha bs).map bV).toArray 26
  have e4 : ((w1.alloc (.cells (List.replicate 32 (bV 0)).toArray 26)).setRow w1.heap.size ((sha bs).map bV).toArray).heap[w.heap.size]? = some (.cells (List.replicate 32 (bV 0)).toArray 26 (0, 0)) := by rw [f4.block _ e3]; exact e2
  obtain ⟨g, hg⟩ : ∃ g, g = w1.heap.size := ⟨_, rfl⟩
  generalize hw2 : World.setRow _ _ _ = w2
  have e5 : ((w1.alloc (.cells (List.replicate 32 (bV 0)).toArray 26)).setRow w1.heap.size ((sha bs).map bV).toArray) = w2 := hw2
  rw [e5] at f1 f2 f3 f4 e4
  rw [← hg] at f2 f3 ⊢
  have HS2 := Lib.hid (src_block (sha_length bs) f2)
  have F1 := Lib.hid f1
  have E4 := Lib.hid e4
  have hlt : w.heap.size < w2.heap.size := by omega
  clear f1 f2 f3 f4 e1 e2 e3 e4 e5 hw2 hg
  go_wp2_with fail
  refine (ref_any (sha bs) _ _ _ _ HS2.out (by omega)).mono ?_
  rintro e w3 ⟨rfl, hb3⟩
  have h3 : w3.heap[w.heap.size]? = some (.cells (List.replicate 32 (bV 0)).toArray 26 (0, 0)) := by rw [hb3.block _ hlt]; exact E4.out
  have H3 := Lib.hid h3
  have B3 := Lib.hid (F1.out.trans (hb3.mono (by omega)))
  clear h3 hb3
  go_wp2_with ((with_reducible show wpList _ _ _ _ _ _); refine wpList_store_row rfl 26 (.tmp 2) (.tmp 7) rfl w.heap.size ((sha (sha bs)).map bV).toArray rfl rfl 26 _ H3.out (by rw [HL.out _ (sha_length _)]; kernel_rfl) (by rw [HL.out _ (sha_length _)]; rfl) (bV_one _) ?_; go_frame)
  refine bodyPost_ret (results_cell_row rfl _ _ w.heap.size 26 ((sha (sha bs)).map bV).toArray (0, 0) (.array 32 5) rfl (setRow_heap _ _ _ _ _ _ H3.out) Tryz.underlying26 rfl (by rw [HL.out _ (sha_length _)]; kernel_rfl)) rfl ⟨rfl, below_setRow B3.out (Nat.le_refl _) _⟩
end Go.Proofs.YtdhcjaflbfpalaaGreatDoor.Sha

/-
  Package merkle's join: the digest above two. Nothing that was there turns. Condition: the table is there.
-/
namespace Go.Proofs.YtdhcjaflbfpalaaGreatDoor.Sha
open Go Go.RowKit
/-- The digest above two. -/
def prH (a b : List UInt8) : List UInt8 := sha (sha (a ++ b))
theorem prH_length (a b : List UInt8) : (prH a b).length = 32 := sha_length _
/-- Two boxes and an empty one. -/
theorem boxes_two_zero (w : World) (x y z : Array Value) (T : TypeId) :
    Below w.heap.size w (((w.alloc (.cells x T (0, 0))).alloc (.cells y T (0, 0))).alloc (.cells z T (0, 0)))
    ∧ (((w.alloc (.cells x T (0, 0))).alloc (.cells y T (0, 0))).alloc (.cells z T (0, 0))).heap[w.heap.size]? = some (.cells x T (0, 0))
    ∧ (((w.alloc (.cells x T (0, 0))).alloc (.cells y T (0, 0))).alloc (.cells z T (0, 0))).heap[w.heap.size + 1]? = some (.cells y T (0, 0))
    ∧ (((w.alloc (.cells x T (0, 0))).alloc (.cells y T (0, 0))).alloc (.cells z T (0, 0))).heap[w.heap.size + 2]? = some (.cells z T (0, 0)) := by
  refine ⟨(((Below.refl _ _).alloc (Nat.le_refl _) _).alloc (by simp) _).alloc (by simp; omega) _, ?_, ?_, ?_⟩
  · have h1 := heap_alloc_new w (.cells x T (0, 0))
    have h2 := row_below h1 ((Below.refl _ _).alloc (Nat.le_refl _) (.cells y T (0, 0)))
    exact row_below h2 ((Below.refl _ _).alloc (Nat.le_refl _) (.cells z T (0, 0)))
  · have h1 := heap_alloc_new (w.alloc (.cells x T (0, 0))) (.cells y T (0, 0))
    rw [World.size_alloc] at h1
    exact row_below h1 ((Below.refl _ _).alloc (Nat.le_refl _) (.cells z T (0, 0)))
  · have h1 := heap_alloc_new ((w.alloc (.cells x T (0, 0))).alloc (.cells y T (0, 0))) (.cells z T (0, 0))
    rw [World.size_alloc, World.size_alloc] at h1
    exact h1
theorem one_list {dg : Array Value} (h : dg.all (·.oneCell') = true) : ∀ u ∈ dg.toList, u.oneCell' = true := fun u hu => by
  rw [Array.all_eq_true_iff_forall_mem] at h
  exact h u (by simpa using hu)
end Go.Proofs.YtdhcjaflbfpalaaGreatDoor.Sha

/-
  Plain mathematics of rows of digests: the next row, the root, the way from below, what a leaf and a way make. Nothing of the program. No conditions beyond those that each states.
-/
namespace Go.Proofs.YtdhcjaflbfpalaaGreatDoor.Sha
section
variable {α : Type} (pr : α → α → α) (z : α)
/-- The next row: each two, the last of an odd row with itself. -/
def rowL : List α → List α
  | [] => []
  | [a] => [pr a a]
  | a :: b :: l => pr a b :: rowL l
theorem rowL_length : ∀ l : List α, (rowL pr l).length = (l.length + 1) / 2
  | [] => by simp [rowL]
  | [_] => by simp [rowL]
  | _ :: _ :: l => by
    rw [rowL, List.length_cons, rowL_length l]
    simp only [List.length_cons]
    omega
/-- One of the next row. -/
theorem rowL_get : ∀ (l : List α) (i : Nat), 2 * i < l.length → (rowL pr l).getD i z = pr (l.getD (2 * i) z) (l.getD (if 2 * i + 1 < l.length then 2 * i + 1 else 2 * i) z)
  | [], i, h => by simp at h
  | [a], i, h => by
    obtain rfl : i = 0 := by simp at h; omega
    simp [rowL]
  | a :: b :: l, 0, _ => by simp [rowL]
  | a :: b :: l, i + 1, h => by
    have ih := rowL_get l i (by simp at h; omega)
    rw [rowL, List.getD_cons_succ, ih, show 2 * (i + 1) = 2 * i + 1 + 1 by omega]
    simp only [List.length_cons]
    by_cases h2 : 2 * i + 1 < l.length
    · rw [if_pos h2, if_pos (by omega)]
      simp only [List.getD_cons_succ]
    · rw [if_neg h2, if_neg (by omega)]
      simp only [List.getD_cons_succ]
/-- The root: row by row. -/
def rootL (l : List α) : α := if _h : l.length ≤ 1 then l.getD 0 z else rootL (rowL pr l)
  termination_by l.length
  decreasing_by rw [rowL_length]; omega
theorem rootL_one {l : List α} (h : l.length ≤ 1) : rootL pr z l = l.getD 0 z := by rw [rootL, dif_pos h]
theorem rootL_more {l : List α} (h : 1 < l.length) : rootL pr z l = rootL pr z (rowL pr l) := by rw [rootL, dif_neg (by omega)]
/-- The other one of two. -/
def otherN (i n : Nat) : Nat := if i % 2 = 1 then i - 1 else if i + 1 < n then i + 1 else i
end
end Go.Proofs.YtdhcjaflbfpalaaGreatDoor.Sha

/-
  Package merkle's small functions: half, partner, rowsAbove. No conditions beyond bounds.
-/
namespace Go.Proofs.YtdhcjaflbfpalaaGreatDoor.Sha
open Go Go.RowKit
theorem otherN_lt {i n : Nat} (h : i < n) : otherN i n < n := by unfold otherN; split <;> (try split) <;> omega
end Go.Proofs.YtdhcjaflbfpalaaGreatDoor.Sha

/-
  Rows of digests, roots and ways: lengths, what is kept when another block turns. No conditions beyond those that each states.
-/
namespace Go.Proofs.YtdhcjaflbfpalaaGreatDoor.Sha
open Go Go.RowKit
/-- 32 bytes of 0. -/
def zM : List UInt8 := List.replicate 32 0
theorem zM_length : zM.length = 32 := by simp [zM]
def slLen : Value → Nat
  | .slice _ n _ => n
  | _ => 0
theorem rowL_ok : ∀ l : List (List UInt8), HsOk (rowL prH l)
  | [] => fun x hx => by simp [rowL] at hx
  | [a] => fun x hx => by
    simp only [rowL, List.mem_singleton] at hx
    rw [hx]; exact prH_length _ _
  | a :: b :: l => fun x hx => by
    simp only [rowL, List.mem_cons] at hx
    rcases hx with rfl | hx
    · exact prH_length _ _
    · exact rowL_ok l x hx
theorem hsD_ok {l : List (List UInt8)} (h : HsOk l) (i : Nat) : (l.getD i zM).length = 32 := by
  by_cases hi : i < l.length
  · rw [List.getD_eq_getElem?_getD, List.getElem?_eq_getElem hi]
    exact h _ (List.getElem_mem _)
  · rw [List.getD_eq_getElem?_getD, List.getElem?_eq_none (by omega)]
    exact zM_length
theorem getD_any {l : List (List UInt8)} {i : Nat} (hi : i < l.length) : l.getD i [] = l.getD i zM := by
  rw [List.getD_eq_getElem?_getD, List.getD_eq_getElem?_getD, List.getElem?_eq_getElem hi]
  rfl
theorem rootL_len : ∀ (n : Nat) (l : List (List UInt8)), l.length = n → HsOk l → (rootL prH zM l).length = 32 := by
  intro n
  induction n using Nat.strongRecOn with
  | ind n ih =>
    intro l hl ho
    by_cases h : n ≤ 1
    · rw [rootL_one prH zM (by omega)]
      exact hsD_ok ho 0
    · rw [rootL_more prH zM (by omega)]
      exact ih ((n + 1) / 2) (by omega) _ (by rw [rowL_length, hl]) (rowL_ok l)
theorem HsAt.shape {w : World} {v : Value} {l : List (List UInt8)} (h : HsAt w v l) : ∃ sp cap, v = .slice sp l.length cap := by
  obtain ⟨_, sp, cap, h1, _, _⟩ := h
  exact ⟨sp, cap, h1⟩
theorem HsAt.off {w w' : World} {v : Value} {l : List (List UInt8)} {q : Option Nat} (h : HsAt w v l) (ho : Off v q) (hg : w.grownBy w' q) : HsAt w' v l := by
  obtain ⟨h0, sp, cap, rfl, h2, h3⟩ := h
  refine ⟨h0, sp, cap, rfl, h2, fun h0 => ?_⟩
  obtain ⟨b, o, rfl, h5⟩ := h3 h0
  refine ⟨b, o, rfl, fun i x hx j u hj => ?_⟩
  have h6 := h5 i x hx j u hj
  have hlt := World.block_lt_of_cell? w _ h6
  simp only at hlt
  rw [World.cell?_of_block (hg.block b hlt (fun e => ho _ _ _ rfl h0 e.symm))]
  exact h6
theorem HsAt.fresh {w : World} {v : Value} {l : List (List UInt8)} {k : Nat} (h : HsAt w v l) (hk : w.heap.size ≤ k) : Off v (some k) := fun sp n cap hv hn e => by
  obtain ⟨h0, sp', cap', h1, h2, h3⟩ := h
  rw [h1] at hv
  cases hv
  obtain ⟨b, o, hs, h5⟩ := h3 hn
  obtain ⟨x, hx⟩ : ∃ x, l[0]? = some x := ⟨_, List.getElem?_eq_getElem hn⟩
  have hx32 := h0 x (List.mem_of_getElem? hx)
  obtain ⟨u, hu⟩ : ∃ u, (x.map bV)[0]? = some u := ⟨_, List.getElem?_eq_getElem (by rw [List.length_map]; omega)⟩
  have hlt := World.block_lt_of_cell? w _ (h5 0 x hx 0 u hu)
  simp only at hlt
  have e1 := Option.some.inj e
  rw [Option.some.inj hs] at e1
  simp only at e1
  omega
end Go.Proofs.YtdhcjaflbfpalaaGreatDoor.Sha

/-
  Package tx reads a transaction out of bytes. Nothing that was there turns. Conditions: the bytes lie where the slice says; the errors are there.
-/
namespace Go.Proofs.YtdhcjaflbfpalaaGreatDoor.Sha
open Go Go.RowKit
/-- What a Reader's bytes are as a transaction. -/
structure TakeIs (bs : List UInt8) (t : TTx) (b : List UInt8) (d : Nat) : Prop where
  eq : takeTx bs 0 = (t, b, d)
end Go.Proofs.YtdhcjaflbfpalaaGreatDoor.Sha

/-
  A whole box written, the new world hidden; what a loop that climbs keeps. No conditions.
-/
namespace Go.Proofs.YtdhcjaflbfpalaaGreatDoor.Sha
open Go Go.RowKit
/-- Where the leaf, the answer lie. -/
structure ClAt (w : World) (g : Nat) (lf : List UInt8) (wr : World) : Prop where
  leaf : wr.heap[g]? = some (.cells (lf.map bV).toArray 26 (0, 0))
  zero : wr.heap[g + 1]? = some (.cells (zM.map bV).toArray 26 (0, 0))
  low : Below w.heap.size w wr
  lo : w.heap.size ≤ g
theorem ClAt.below {w : World} {g : Nat} {lf : List UInt8} {wr w' : World} (h : ClAt w g lf wr) (hb : Below wr.heap.size wr w') : ClAt w g lf w' :=
  ⟨row_below h.leaf hb, row_below h.zero hb, h.low.trans (hb.mono h.low.size), h.lo⟩
theorem ClAt.turn {w : World} {g : Nat} {lf lf' : List UInt8} {wr w' : World} (h : ClAt w g lf wr) (hn : w'.heap[g]? = some (.cells (lf'.map bV).toArray 26 (0, 0))) (hg : wr.grownBy w' (some g)) : ClAt w g lf' w' :=
  ⟨hn, row_far h.zero hg (fun e => by have := Option.some.inj e; omega), h.low.grown hg h.low.size (fun k hk => by cases hk; exact h.lo), h.lo⟩
end Go.Proofs.YtdhcjaflbfpalaaGreatDoor.Sha

/-
  Parts of a slice of elements of any size; a literal in a region that draws its order. No conditions beyond those that each states.
-/
namespace Go.Proofs.YtdhcjaflbfpalaaGreatDoor.Sha
open Go Go.RowKit
theorem run_cutS_h {P : Program} {w : World} (t e : TypeId) (s : Nat) (sp : Option Addr) (n cap r : Nat) (hu : P.underlying t = some (.slice e)) (hsz : (P.info? e).map (·.size) = some s) (h2 : r ≤ cap) :
    (Instr.sliceAt t (.slice sp n cap) none (some (.int .i64 r)) none).run P w = .ok (sliced sp 0 r cap s) w := by
  obtain ⟨i, hi, hs⟩ := Option.map_eq_some_iff.1 hsz
  have hu' : P.underlying t = some (.slice (P.elem t)) := by rw [elem_of hu]; exact hu
  rw [run_sliceAt_slice _ _ _ _ _ _ hu', run_slice_h _ _ _ _ _ hu' _ _ (by omega) (by omega), elem_of hu]
  simp [sizeOf, typeInfo, hi, hs, sliced, go_sem]
section
variable {P : Program} {w : World} {ops : Array Oper} {rest : List Oper} {o : Oper} {a : Act} {Q : Exit → Act → World → Prop}
theorem wpList_cutS_h (hgd : o.guard = none) (t : TypeId) (x hi : Operand) (ho : o.op = .slice t x none (some hi) none) (e : TypeId) (s : Nat) (hu : P.underlying t = some (.slice e)) (hsz : (P.info? e).map (·.size) = some s)
    (sp : Option Addr) (n cap : Nat) (r : Nat) (hx : a.eval x = .slice sp n cap) (hr : a.eval hi = .int .i64 r) (h2 : r ≤ cap)
    (h : ∀ v, Hid (v = sliced sp 0 r cap s) → wpList P ops Q rest (a.put o.dst v) w) : wpList P ops Q (o :: rest) a w := by
  refine wpList_plain hgd fun K hK => ?_
  unfold Oper.wp
  simp [execOp, ho, hx, hr, run_cutS_h (w := w) t e s sp n cap r hu hsz h2, Result.andThen]
  exact hK _ _ (h _ rfl)
end
theorem yieldsIf_build {P : Program} {ops : Array Oper} {S : World → Prop} {op : Oper} {a : Act} (hw : Region.wanted op (yielded ops a.tmps) = true) (t : TypeId) (parts : Array (Nat × Operand)) (ho : op.op = .build t parts) (ps : List (Nat × Value)) (hps : (parts.map fun (i, x) => (i, a.eval x)).toList = ps) (cs : Array Value)
    (hf : P.built t ps = some cs) : YieldsIf P ops S op (.agg cs) a :=
  .inl ⟨hw, fun w _ => by
    unfold execOp
    subst hps
    simp only [ho, Sem.run_bind, run_build w t _ _ hf, Result.andThen_ok, Sem.run_pure]⟩
end Go.Proofs.YtdhcjaflbfpalaaGreatDoor.Sha

/-
  Package block makes the first transaction of a block. New memory; nothing that was there turns. Condition: the bytes that are added lie where the slice says.
-/
namespace Go.Proofs.YtdhcjaflbfpalaaGreatDoor.Sha
open Go Go.RowKit
theorem built_outl (v : Nat) (l : List UInt8) (hl : l.length = 32) : Tryz.prog.built 116 [(0, .int .u64 (v : Int)), (1, .agg (l.map bV).toArray)] = some (outL ⟨v, l⟩).toArray := by
  have hz : ∀ parts, Tryz.prog.built 116 parts = Instr.fill ([(0, 1), (1, 32)].toArray[·]?) (uV 0 :: List.replicate 32 (bV 0)).toArray parts := fun parts => by kernel_rfl
  have hm : (l.map bV).length = 32 := by simp [hl]
  rw [hz, fill_part _ 0 0 (.int .u64 (v : Int)) [uV v] _ _ rfl rfl (by simp), fill_part _ 1 1 (.agg (l.map bV).toArray) (l.map bV) _ _ rfl (by rw [hm]; rfl) (by rw [hm]; simp)]
  have e : ∀ A : List Value, A.length ≤ 33 → A.drop (1 + (l.map bV).length) = [] := fun A hA => List.drop_of_length_le (by rw [hm]; omega)
  rw [e _ (by simp), List.append_nil]
  rfl
/-- The first transaction of a block. -/
def firstX (h32 : Nat) (ex : List UInt8) : TIn := ⟨zH, 4294967295, leB h32 4 ++ ex, 4294967295⟩
def firstT (h32 val : Nat) (lock ex : List UInt8) : TTx := ⟨1, [firstX h32 ex], [⟨val, lock⟩], 0⟩
theorem firstX_ok {h32 : Nat} (ex : List UInt8) (_ : h32 ≤ 4294967295) : InOk (firstX h32 ex) := ⟨zH_length, by show 4294967295 ≤ _; omega, by show 4294967295 ≤ _; omega⟩
end Go.Proofs.YtdhcjaflbfpalaaGreatDoor.Sha

/-
  Plain mathematics of a block's bytes: what was written is read again; cut off it ends too early; longer it is none; what is read has just these bytes. No conditions beyond those that each states.
-/
namespace Go.Proofs.YtdhcjaflbfpalaaGreatDoor.Sha
open Go Go.RowKit
def txsB (l : List TTx) : List UInt8 := l.flatMap txB
def blkB (x : TBlk) : List UInt8 := hdB x.head ++ putL x.txs.length ++ txsB x.txs
theorem txsB_cons (t : TTx) (l : List TTx) : txsB (t :: l) = txB t ++ txsB l := rfl
section
variable {α : Type} {z a : α} {p : Par α} {x : List UInt8}
end
end Go.Proofs.YtdhcjaflbfpalaaGreatDoor.Sha

/-
  What of a block is small enough for the walks. No conditions.
-/
namespace Go.Proofs.YtdhcjaflbfpalaaGreatDoor.Sha
open Go Go.RowKit
/-- A block of a few transactions, each of a few inputs and outputs. -/
def BlkSmall (x : TBlk) : Prop := (∀ t ∈ x.txs, TxSmall t) ∧ x.txs.length ≤ 1000
theorem txB_le {t : TTx} (h : TxSmall t) : (txB t).length ≤ 200100000 := by
  have h1 := h.bytes
  have h2 := h.ins0
  have h3 := h.2.2.1
  have h4 := lenN_bd t.ins.length
  have h5 := lenN_bd t.outs.length
  omega
theorem txsB_le : ∀ (l : List TTx), (∀ t ∈ l, TxSmall t) → (txsB l).length ≤ 200100000 * l.length
  | [], _ => by simp [txsB]
  | t :: l, h => by
    have ih := txsB_le l (fun u hu => h u (List.mem_cons_of_mem _ hu))
    have h1 := txB_le (h t List.mem_cons_self)
    rw [txsB_cons, List.length_append, List.length_cons]
    omega
theorem BlkSmall.txs {x : TBlk} (h : BlkSmall x) : (txsB x.txs).length ≤ 200100000000 := by
  have h1 := txsB_le x.txs h.1
  have h2 := h.2
  omega
theorem blkB_len {x : TBlk} (hh : HdOk x.head) : (blkB x).length = 80 + lenN x.txs.length + (txsB x.txs).length := by
  simp only [blkB, List.length_append, hdB_length hh, putL_length]
theorem BlkSmall.len {x : TBlk} (h : BlkSmall x) (hh : HdOk x.head) : (blkB x).length ≤ 200200000000 := by
  have h1 := h.txs
  have h2 := lenN_bd x.txs.length
  rw [blkB_len hh]
  omega
end Go.Proofs.YtdhcjaflbfpalaaGreatDoor.Sha

/-
  Package head writes a header down, in new memory. Nothing that was there turns. Condition: digests of 32 bytes, numbers of 32 bits.
-/
namespace Go.Proofs.YtdhcjaflbfpalaaGreatDoor.Sha
open Go Go.RowKit
set_option maxHeartbeats 1000000 in
set_option maxRecDepth 100000 in
theorem hdbytes_any (h : THd) (hh : HdOk h) (w : World) :
    Calls Tryz.prog 57 #[.agg (hdL h).toArray] w fun e w' => ∃ v, e = .returned v ∧ CopyB w w' v (hdB h) := by
  obtain ⟨i0, hi, hz0, hz1, hz2⟩ := info_parts info_u8
  have HH := Lib.hid hh
  obtain ⟨cs, hcs⟩ : ∃ cs, cs = hdL h := ⟨_, rfl⟩
  rw [← hcs]
  have CS := Lib.hid hcs
  obtain ⟨vv, hvv⟩ : ∃ n, n = h.ver := ⟨_, rfl⟩
  obtain ⟨vt, hvt⟩ : ∃ n, n = h.time := ⟨_, rfl⟩
  obtain ⟨vw, hvw⟩ : ∃ n, n = h.work := ⟨_, rfl⟩
  obtain ⟨vn, hvn⟩ : ∃ n, n = h.nonce := ⟨_, rfl⟩
  have BV : Hid (vv ≤ 4294967295) := by show _ ≤ _; rw [hvv]; exact hh.1
  have BT : Hid (vt ≤ 4294967295) := by show _ ≤ _; rw [hvt]; exact hh.2.2.2.1
  have BW : Hid (vw ≤ 4294967295) := by show _ ≤ _; rw [hvw]; exact hh.2.2.2.2.1
  have BN : Hid (vn ≤ 4294967295) := by show _ ≤ _; rw [hvn]; exact hh.2.2.2.2.2
  have EE : Hid (hdB h = leB vv 4 ++ h.prev ++ h.root ++ leB vt 4 ++ leB vw 4 ++ leB vn 4) := by show _ = _; rw [hvv, hvt, hvw, hvn]; rfl
  have LP : Hid (h.prev.length = 32) := hh.2.1
  have LR : Hid (h.root.length = 32) := hh.2.2.1
  have VV := Lib.hid hvv
  have VT := Lib.hid hvt
  have VW := Lib.hid hvw
  have VN := Lib.hid hvn
  clear hcs hh hvv hvt hvw hvn
  go_enter Tryz.func57, Tryz.ntmps57
  go_upto_region 1 with fail
  have F0 := heap_alloc_new w (.cells cs.toArray 28 (0, 0))
  have B0 := Lib.hid ((Below.refl w.heap.size w).alloc (Nat.le_refl _) (.cells cs.toArray 28 (0, 0)))
  generalize hw1 : World.alloc _ _ = w1
  have e1 : w.alloc (.cells cs.toArray 28 (0, 0)) = w1 := hw1
  rw [e1] at F0 B0
  rw [CS.out] at F0
  have K : HdBox w1 w.heap.size h := ⟨F0⟩
  have K := Lib.hid K
  clear hw1 e1 F0
  have C0 : Hid (∀ w', Below w1.heap.size w1 w' → w'.cell? ⟨w.heap.size, 0, none⟩ = some (.int .u32 (vv : Int))) := fun w' hw' => by rw [VV.out]; exact ((K.out.below hw').cells HH.out).1
  have C65 : Hid (∀ w', Below w1.heap.size w1 w' → w'.cell? ⟨w.heap.size, 65, none⟩ = some (.int .u32 (vt : Int))) := fun w' hw' => by rw [VT.out]; exact ((K.out.below hw').cells HH.out).2.1
  have C66 : Hid (∀ w', Below w1.heap.size w1 w' → w'.cell? ⟨w.heap.size, 66, none⟩ = some (.int .u32 (vw : Int))) := fun w' hw' => by rw [VW.out]; exact ((K.out.below hw').cells HH.out).2.2.1
  have C67 : Hid (∀ w', Below w1.heap.size w1 w' → w'.cell? ⟨w.heap.size, 67, none⟩ = some (.int .u32 (vn : Int))) := fun w' hw' => by rw [VN.out]; exact ((K.out.below hw').cells HH.out).2.2.2
  have SP : Hid (∀ w', Below w1.heap.size w1 w' → SrcB w' (.slice (some ⟨w.heap.size, 1, none⟩) 32 32) h.prev) := fun w' hw' => src_range (K.out.below hw').prev LP.out.symm (by omega) (Nat.le_refl _)
  have SR : Hid (∀ w', Below w1.heap.size w1 w' → SrcB w' (.slice (some ⟨w.heap.size, 33, none⟩) 32 32) h.root) := fun w' hw' => src_range ((K.out.below hw').root HH.out) LR.out.symm (by omega) (Nat.le_refl _)
  go_upto_region 2 with (at_make; refine wpList_make_own _ rfl _ _ 89 rfl w1.heap.size 5 i0 (.int .u8 0) 1 Tryz.underlying89 hi hz0 hz1 _ _ _ 80 rfl rfl (by omega) (by rw [hz2]; omega) (by unfold maxLen; omega) (Nat.le_refl _) ?_; intro w3 hown hgrow; have C3 : Hid (CopyB w1 w3 (.slice (some ⟨w1.heap.size, 0, none⟩) 0 80) []) := (⟨hown, below_made hgrow⟩ : CopyB w1 w3 (.slice (some ⟨w1.heap.size, 0, none⟩) 0 80) []); clear hown hgrow; go_frame)
  have c0 := C0.out w3 C3.out.2
  go_wp2_with fail
  refine (four_new [] _ vv w3 (nil_src _) (by simp) BV.out).mono ?_
  rintro e w4 ⟨s4, n4, c4, rfl, hn4, hc4⟩
  have P4 := Lib.hid hc4
  have C4 := Lib.hid (C3.out.keep hc4.2)
  clear hn4 hc4 c0 C3
  rw [List.nil_append] at P4
  go_upto_region 3 with ((with_reducible show wpList _ _ _ _ _ _); refine wpList_append_g _ rfl (.tmp 5) (.tmp 8) 89 rfl w1.heap.size 5 i0 Tryz.underlying89 hi hz0 hz1 hz2 _ _ _ (by rfl) C4.out.1 (.slice s4 n4 c4) (leB vv 4) (by rfl) P4.out.src (by simp only [leB_length, List.length_nil]; omega) C4.out.2.size ?_; intro v5 w5 a1 a2 a3; have C5 := Lib.hid (C4.out.app a1 a2); clear a1 a2 a3; go_frame)
  obtain ⟨A5, hA5⟩ : ∃ A, A = leB vv 4 := ⟨_, rfl⟩
  rw [List.nil_append, ← hA5] at C5
  have LA5 : Hid (A5.length = 4) := by show _ = _; rw [hA5, leB_length]
  have HA5 := Lib.hid hA5
  clear hA5 P4 C4
  go_upto_region 4 with ((with_reducible show wpList _ _ _ _ _ _); refine wpList_append_g _ rfl (.tmp 10) (.tmp 12) 89 rfl w1.heap.size 5 i0 Tryz.underlying89 hi hz0 hz1 hz2 _ _ _ (by rfl) C5.out.1 (.slice (some ⟨w.heap.size, 1, none⟩) 32 32) h.prev (by rfl) (SP.out _ C5.out.2) (by rw [LA5.out, LP.out]; omega) C5.out.2.size ?_; intro v6 w6 a1 a2 a3; have C6 := Lib.hid (C5.out.app a1 a2); clear a1 a2 a3; go_frame)
  have LA6 : Hid ((A5 ++ h.prev).length = 36) := by show _ = _; rw [List.length_append, LA5.out, LP.out]
  clear C5 LA5
  go_upto_region 5 with ((with_reducible show wpList _ _ _ _ _ _); refine wpList_append_g _ rfl (.tmp 14) (.tmp 16) 89 rfl w1.heap.size 5 i0 Tryz.underlying89 hi hz0 hz1 hz2 _ _ _ (by rfl) C6.out.1 (.slice (some ⟨w.heap.size, 33, none⟩) 32 32) h.root (by rfl) (SR.out _ C6.out.2) (by rw [LA6.out, LR.out]; omega) C6.out.2.size ?_; intro v7 w7 a1 a2 a3; have C7 := Lib.hid (C6.out.app a1 a2); clear a1 a2 a3; go_frame)
  have LA7 : Hid ((A5 ++ h.prev ++ h.root).length = 68) := by show _ = _; rw [List.length_append, LA6.out, LR.out]
  clear C6 LA6
  have c65 := C65.out w7 C7.out.2
  go_wp2_with fail
  refine (four_new [] _ vt w7 (nil_src _) (by simp) BT.out).mono ?_
  rintro e w8 ⟨s8, n8, c8, rfl, hn8, hc8⟩
  have P8 := Lib.hid hc8
  have C8 := Lib.hid (C7.out.keep hc8.2)
  clear hn8 hc8 c65 C7
  rw [List.nil_append] at P8
  go_upto_region 6 with ((with_reducible show wpList _ _ _ _ _ _); refine wpList_append_g _ rfl (.tmp 18) (.tmp 21) 89 rfl w1.heap.size 5 i0 Tryz.underlying89 hi hz0 hz1 hz2 _ _ _ (by rfl) C8.out.1 (.slice s8 n8 c8) (leB vt 4) (by rfl) P8.out.src (by rw [LA7.out, leB_length]; omega) C8.out.2.size ?_; intro v9 w9 a1 a2 a3; have C9 := Lib.hid (C8.out.app a1 a2); clear a1 a2 a3; go_frame)
  have LA9 : Hid ((A5 ++ h.prev ++ h.root ++ leB vt 4).length = 72) := by show _ = _; rw [List.length_append, LA7.out, leB_length]
  clear P8 C8 LA7
  have c66 := C66.out w9 C9.out.2
  go_wp2_with fail
  refine (four_new [] _ vw w9 (nil_src _) (by simp) BW.out).mono ?_
  rintro e w10 ⟨s10, n10, c10, rfl, hn10, hc10⟩
  have P10 := Lib.hid hc10
  have C10 := Lib.hid (C9.out.keep hc10.2)
  clear hn10 hc10 c66 C9
  rw [List.nil_append] at P10
  go_upto_region 7 with ((with_reducible show wpList _ _ _ _ _ _); refine wpList_append_g _ rfl (.tmp 23) (.tmp 26) 89 rfl w1.heap.size 5 i0 Tryz.underlying89 hi hz0 hz1 hz2 _ _ _ (by rfl) C10.out.1 (.slice s10 n10 c10) (leB vw 4) (by rfl) P10.out.src (by rw [LA9.out, leB_length]; omega) C10.out.2.size ?_; intro v11 w11 a1 a2 a3; have C11 := Lib.hid (C10.out.app a1 a2); clear a1 a2 a3; go_frame)
  have LA11 : Hid ((A5 ++ h.prev ++ h.root ++ leB vt 4 ++ leB vw 4).length = 76) := by show _ = _; rw [List.length_append, LA9.out, leB_length]
  clear P10 C10 LA9
  have c67 := C67.out w11 C11.out.2
  go_wp2_with fail
  refine (four_new [] _ vn w11 (nil_src _) (by simp) BN.out).mono ?_
  rintro e w12 ⟨s12, n12, c12, rfl, hn12, hc12⟩
  have P12 := Lib.hid hc12
  have C12 := Lib.hid (C11.out.keep hc12.2)
  clear hn12 hc12 c67 C11
  rw [List.nil_append] at P12
  go_wp2_with ((with_reducible show wpList _ _ _ _ _ _); refine wpList_append_g _ rfl (.tmp 28) (.tmp 31) 89 rfl w1.heap.size 5 i0 Tryz.underlying89 hi hz0 hz1 hz2 _ _ _ (by rfl) C12.out.1 (.slice s12 n12 c12) (leB vn 4) (by rfl) P12.out.src (by rw [LA11.out, leB_length]; omega) C12.out.2.size ?_; intro v13 w13 a1 a2 a3; have C13 := Lib.hid (C12.out.app a1 a2); clear a1 a2 a3; go_frame)
  go_ret
  refine ⟨_, rfl, ?_⟩
  rw [EE.out, ← HA5.out]
  exact C13.out.start B0.out
end Go.Proofs.YtdhcjaflbfpalaaGreatDoor.Sha

/-
  Package head answers the digest that a header goes by. Nothing that was there turns. Conditions: a header of digests of 32 bytes, the table is there.
-/
namespace Go.Proofs.YtdhcjaflbfpalaaGreatDoor.Sha
open Go Go.RowKit
set_option maxHeartbeats 1000000 in
set_option maxRecDepth 100000 in
theorem id_hd (h : THd) (hh : HdOk h) (w : World) (hk : KTab w) :
    Calls Tryz.prog 32 #[.agg (hdL h).toArray] w fun e w' => e = .returned (.agg ((hdId h).map bV).toArray) ∧ Below w.heap.size w w' := by
  have HH := Lib.hid hh
  have HK := Lib.hid hk
  have HOne := Lib.hid (bV_one (hdId h))
  have HLen : Hid ((((hdId h).map bV).toArray).size = 32) := by show _ = _; simp [hdId_length]
  obtain ⟨dg, hdg⟩ : ∃ dg, dg = ((hdId h).map bV).toArray := ⟨_, rfl⟩
  rw [← hdg] at HOne HLen ⊢
  have HD := Lib.hid hdg
  obtain ⟨l0, hl0⟩ : ∃ l, l = hdL h := ⟨_, rfl⟩
  have LN0 : Hid (l0.length = 68) := by show _ = _; rw [hl0]; exact hdL_length hh
  have BY : Hid (∀ W, Calls Tryz.prog 57 #[.agg l0.toArray] W fun e w' => ∃ v, e = .returned v ∧ CopyB W w' v (hdB h)) := fun W => by rw [hl0]; exact hdbytes_any h HH.out W
  rw [← hl0]
  clear hdg hk hh hl0
  go_enter Tryz.func32, Tryz.ntmps32
  go_upto_region 1 with fail
  have f1 := row_below (heap_alloc_new w (.cells l0.toArray 28 (0, 0))) ((Below.refl _ _).alloc (Nat.le_refl _) (.cells (List.replicate 32 (bV 0)).toArray 26))
  have f2 := heap_alloc_new (w.alloc (.cells l0.toArray 28 (0, 0))) (.cells (List.replicate 32 (bV 0)).toArray 26)
  have b1 := ((Below.refl w.heap.size w).alloc (Nat.le_refl _) (.cells l0.toArray 28 (0, 0))).alloc (by simp) (.cells (List.replicate 32 (bV 0)).toArray 26)
  rw [World.size_alloc] at f2
  generalize hw1 : World.alloc _ _ = w1
  have e1 : (w.alloc (.cells l0.toArray 28 (0, 0))).alloc (.cells (List.replicate 32 (bV 0)).toArray 26) = w1 := hw1
  rw [e1] at f1 f2 b1
  have F1 := Lib.hid f1
  have F2 := Lib.hid f2
  have B1 := Lib.hid b1
  clear f1 f2 b1 hw1 e1
  go_wp2_with ((with_reducible show wpList _ _ _ _ _ _); refine wpList_load_row rfl 28 (.tmp 1) rfl w.heap.size rfl 28 l0.toArray (0, 0) _ F1.out Tryz.underlying28 rfl (by show _ = some l0.length; rw [LN0.out] <;> kernel_rfl) ?_; go_frame)
  refine (BY.out w1).mono ?_
  rintro e w2 ⟨v2, rfl, hc⟩
  have S2 := Lib.hid hc.src
  have B2 := Lib.hid (B1.out.trans (hc.2.mono B1.out.size))
  have F2 := Lib.hid (row_below F2.out hc.2)
  have HLn : Hid ((hdB h).length ≤ 576460752303423487) := by show _ ≤ _; rw [hdB_length HH.out]; omega
  clear hc
  go_wp2_with fail
  have TW := twice_any (hdB h) v2 w2 (HK.out.below B2.out) S2.out HLn.out
  change Calls _ _ _ _ (fun e w' => e = .returned (.agg ((hdId h).map bV).toArray) ∧ Below w2.heap.size w2 w') at TW
  rw [← HD.out] at TW
  refine TW.mono ?_
  rintro e w3 ⟨rfl, hb3⟩
  clear TW
  have B3 := Lib.hid (B2.out.trans (hb3.mono B2.out.size))
  have F3 := Lib.hid (row_below F2.out hb3)
  clear hb3
  go_wp2_with ((with_reducible show wpList _ _ _ _ _ _); refine wpList_store_row rfl 26 (.tmp 2) (.tmp 5) rfl (w.heap.size + 1) dg rfl rfl 26 _ F3.out (by rw [HLen.out]; kernel_rfl) (by rw [HLen.out]; rfl) HOne.out ?_; go_frame)
  refine bodyPost_ret (results_cell_row rfl _ _ (w.heap.size + 1) 26 dg (0, 0) (.array 32 5) rfl (setRow_heap _ _ _ _ _ _ F3.out) Tryz.underlying26 rfl (by rw [HLen.out]; kernel_rfl)) rfl ⟨rfl, below_setRow B3.out (Nat.le_succ _) _⟩
end Go.Proofs.YtdhcjaflbfpalaaGreatDoor.Sha

/-
  What a loop over a row of digests keeps; a load that may come first. No conditions.
-/
namespace Go.Proofs.YtdhcjaflbfpalaaGreatDoor.Sha
open Go Go.RowKit
def RaInv (l : List (List UInt8)) (n : Nat) (w : World) (vs vi : Value) (wr : World) : Prop :=
  ∃ (k j : Nat) (vb : Value), vb = vs ∧ j ≤ n + 1 ∧ j = 2 * k ∧ vi = .int .i64 j ∧ HsOwn w.heap.size wr vb ((rowL prH l).take k) ∧ Below w.heap.size w wr
end Go.Proofs.YtdhcjaflbfpalaaGreatDoor.Sha

/-
  What a loop that makes a way keeps. No conditions.
-/
namespace Go.Proofs.YtdhcjaflbfpalaaGreatDoor.Sha
open Go Go.RowKit
theorem HsOwn.lt {base : Nat} {w : World} {v : Value} {l : List (List UInt8)} (h : HsOwn base w v l) : ∀ g, v.ownBlock = some g → g < w.heap.size := fun g hg => (h.1.lt g hg).2
end Go.Proofs.YtdhcjaflbfpalaaGreatDoor.Sha

/-
  The calls on rows of digests, for any value that reads so. Nothing that was there turns. Conditions: as told; for package merkle's the table is there.
-/
namespace Go.Proofs.YtdhcjaflbfpalaaGreatDoor.Sha
open Go Go.RowKit
theorem HsOwn.base {b b' : Nat} {w : World} {v : Value} {l : List (List UInt8)} (h : HsOwn b w v l) (hb : b' ≤ b) : HsOwn b' w v l := ⟨own_base h.1 hb, h.2⟩
end Go.Proofs.YtdhcjaflbfpalaaGreatDoor.Sha

/-
  Package block answers the digests that a block's transactions go by, their root, its own. New memory; nothing that was there turns. Conditions: a block of a few transactions that lies in memory; the table is there.
-/
namespace Go.Proofs.YtdhcjaflbfpalaaGreatDoor.Sha
open Go Go.RowKit
/-- The digests that transactions go by. -/
def idsL (l : List TTx) : List (List UInt8) := l.map fun t => sha (sha (txB t))
theorem idsL_ok (l : List TTx) : HsOk (idsL l) := fun y hy => by
  obtain ⟨t, _, rfl⟩ := List.mem_map.1 hy
  exact sha_length _
theorem idsL_snoc {l : List TTx} {k : Nat} {t : TTx} (h : l[k]? = some t) : idsL (l.take (k + 1)) = idsL (l.take k) ++ [sha (sha (txB t))] := by
  unfold idsL
  rw [List.take_add_one, h, List.map_append]
  rfl
theorem idsL_length (l : List TTx) : (idsL l).length = l.length := by simp [idsL]
/-- The root of a block's transactions. -/
def blRoot (x : TBlk) : List UInt8 := rootL prH zM (idsL x.txs)
theorem blRoot_length (x : TBlk) : (blRoot x).length = 32 := rootL_len _ _ rfl (idsL_ok _)
end Go.Proofs.YtdhcjaflbfpalaaGreatDoor.Sha

/-
  Package block makes the block that each chain begins with. New memory; nothing that was there turns. Condition: the table is there.
-/
namespace Go.Proofs.YtdhcjaflbfpalaaGreatDoor.Sha
open Go Go.RowKit
def startH : THd := ⟨1, zH, zH, 1000, 1, 0⟩
def startT : TTx := firstT 0 0 (sha []) []
/-- The block that each chain begins with, its root not yet set. -/
def startX0 : TBlk := ⟨startH, [startT]⟩
def startX : TBlk := ⟨{ startH with root := blRoot startX0 }, [startT]⟩
theorem startH_ok : HdOk startH := ⟨by decide, rfl, rfl, by decide, by decide, by decide⟩
theorem startX_ok : HdOk startX.head := ⟨by decide, rfl, blRoot_length startX0, by decide, by decide, by decide⟩
theorem firstT_came {h32 val : Nat} {lock ex : List UInt8} (h1 : h32 ≤ 4294967295) (hv : val ≤ 18446744073709551615) (hl : lock.length = 32) (he : ex.length ≤ 99000) : TxSmall (firstT h32 val lock ex) := by
  refine ⟨⟨⟨by show 1 ≤ _; omega, by show 0 ≤ _; omega⟩, ?_, ?_, ?_, by simp [firstT], by simp [firstT]⟩, by simp [firstT], by simp [firstT], ?_⟩
  · intro y hy
    simp only [firstT, List.mem_singleton] at hy
    rw [hy]
    exact firstX_ok ex h1
  · intro y hy
    simp only [firstT, List.mem_singleton] at hy
    rw [hy]
    exact ⟨hl, hv⟩
  · intro y hy
    simp only [firstT, List.mem_singleton] at hy
    rw [hy]
    simp only [firstX, List.length_append, leB_length]
    omega
  · intro y hy
    simp only [firstT, List.mem_singleton] at hy
    rw [hy]
    simp only [firstX, List.length_append, leB_length]
    omega
theorem startT_small : TxSmall startT := firstT_came (by omega) (by omega) (sha_length _) (by simp)
theorem startX0_small : BlkSmall startX0 := ⟨fun t ht => by simp only [startX0, List.mem_singleton] at ht; rw [ht]; exact startT_small, by simp [startX0]⟩
end Go.Proofs.YtdhcjaflbfpalaaGreatDoor.Sha
