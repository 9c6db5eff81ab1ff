/-
  digest.Twice and the statements' own Twice answer the SHA-256 of the SHA-256 of the bytes; nothing that was there turns. Conditions: the bytes lie where the slice says, fewer than 2^45; for digest.Twice the table is there.
-/
import Derived.Test.YtboepklpbedanaaDoorRefSha
namespace Go.Proofs.YtboepklpbedanaaDoor.Sha
open Go Go.RowKit

/-- A block of 32 bytes reads as them. -/
theorem src_block {w : World} {g : Nat} {l : List UInt8} {T : TypeId} (hl : l.length = 32) (h : w.heap[g]? = some (.cells (l.map bV).toArray T (0, 0))) : SrcB w (.slice (some ⟨g, 0, none⟩) 32 32) l :=
  .inr ⟨by omega, g, 0, 32, by rw [hl], by omega, fun j hj => by rw [Nat.zero_add, cell_of_row _ _ _ _ _ _ h, bV_get _ _ hj]⟩
theorem twice_setup {w w1 : World} {z : Array Value} {T : TypeId} (hb : Below (w.alloc (.cells z T)).heap.size (w.alloc (.cells z T)) w1) : Below w.heap.size w w1 ∧ w1.heap[w.heap.size]? = some (.cells z T (0, 0)) ∧ w.heap.size < w1.heap.size :=
  ⟨((Below.refl _ _).alloc (Nat.le_refl _) _).trans (hb.mono (by simp)), by rw [hb.block _ (by simp)]; exact heap_alloc_new _ _, by have := hb.size; simp at this; omega⟩
set_option maxHeartbeats 1000000 in
set_option maxRecDepth 100000 in
theorem twice_any (bs : List UInt8) (v : Value) (w : World) (hk : KTab w) (hsrc : SrcB w v bs) (hlen : bs.length ≤ 576460752303423487) :
    Calls Tryd.prog 10 #[v] w fun e w' => e = .returned (.agg ((sha (sha bs)).map bV).toArray) ∧ Below w.heap.size w w' := by
  have hb0 : Below w.heap.size w (w.alloc (.cells (List.replicate 32 (bV 0)).toArray 25)) := (Below.refl _ _).alloc (Nat.le_refl _) _
  have HK := Lib.hid hk
  have HK0 := Lib.hid (hk.below hb0)
  have HS0 := Lib.hid (hsrc.below hb0)
  have hl : ∀ l : List UInt8, l.length = 32 → (l.map bV).toArray.size = 32 := fun l h => by simp [h]
  have HL := Lib.hid hl
  clear hk hsrc hb0 hl
  go_enter Tryd.func10, Tryd.ntmps10
  go_upto_region 2 with (first | (go_at_call 9; refine (sha_any bs v _ HK0.out HS0.out hlen).mono ?_; rintro e w1 ⟨rfl, hb1⟩; have HB1 := Lib.hid hb1; clear hb1) | ((with_reducible show wpList _ _ _ _ _ _); refine wpList_store_row rfl 25 (.tmp 3) (.tmp 5) rfl w1.heap.size ((sha bs).map bV).toArray rfl rfl 25 _ (heap_alloc_new _ _) (by rw [HL.out _ (sha_length _)]; kernel_rfl) (by rw [HL.out _ (sha_length _)]; rfl) (bV_one _) ?_; go_frame))
  obtain ⟨e1, e2, e3⟩ := twice_setup HB1.out
  obtain ⟨f1, f2, f3, f4⟩ := fill_setup e1 (List.replicate 32 (bV 0)).toArray ((sha bs).map bV).toArray 25
  have e4 : ((w1.alloc (.cells (List.replicate 32 (bV 0)).toArray 25)).setRow w1.heap.size ((sha bs).map bV).toArray).heap[w.heap.size]? = some (.cells (List.replicate 32 (bV 0)).toArray 25 (0, 0)) := by rw [f4.block _ e3]; exact e2
  obtain ⟨g, hg⟩ : ∃ g, g = w1.heap.size := ⟨_, rfl⟩
  generalize hw2 : World.setRow _ _ _ = w2
  have e5 : ((w1.alloc (.cells (List.replicate 32 (bV 0)).toArray 25)).setRow w1.heap.size ((sha bs).map bV).toArray) = w2 := hw2
  rw [e5] at f1 f2 f3 f4 e4
  rw [← hg] at f2 f3 ⊢
  have HK2 := Lib.hid (HK.out.below f1)
  have HS2 := Lib.hid (src_block (sha_length bs) f2)
  have F1 := Lib.hid f1
  have E4 := Lib.hid e4
  have hlt : w.heap.size < w2.heap.size := by omega
  clear f1 f2 f3 f4 e1 e2 e3 e4 e5 hw2 hg HB1 HK0 HS0
  go_wp2_with fail
  refine (sha_any (sha bs) _ _ HK2.out HS2.out (by rw [sha_length]; omega)).mono ?_
  rintro e w3 ⟨rfl, hb3⟩
  have h3 : w3.heap[w.heap.size]? = some (.cells (List.replicate 32 (bV 0)).toArray 25 (0, 0)) := by rw [hb3.block _ hlt]; exact E4.out
  have H3 := Lib.hid h3
  have B3 := Lib.hid (F1.out.trans (hb3.mono (by omega)))
  clear h3 hb3
  go_wp2_with ((with_reducible show wpList _ _ _ _ _ _); refine wpList_store_row rfl 25 (.tmp 2) (.tmp 7) rfl w.heap.size ((sha (sha bs)).map bV).toArray rfl rfl 25 _ H3.out (by rw [HL.out _ (sha_length _)]; kernel_rfl) (by rw [HL.out _ (sha_length _)]; rfl) (bV_one _) ?_; go_frame)
  refine bodyPost_ret (results_cell_row rfl _ _ w.heap.size 25 ((sha (sha bs)).map bV).toArray (0, 0) (.array 32 5) rfl (setRow_heap _ _ _ _ _ _ H3.out) Tryd.underlying25 rfl (by rw [HL.out _ (sha_length _)]; kernel_rfl)) rfl ⟨rfl, below_setRow B3.out (Nat.le_refl _) _⟩
set_option maxHeartbeats 1000000 in
set_option maxRecDepth 100000 in
theorem ref_twice (bs : List UInt8) (sp : Option Addr) (n cap : Nat) (w : World) (hsrc : SrcB w (.slice sp n cap) bs) (hn : n ≤ 35184372088832) :
    Calls Tryd.prog 13 #[.slice sp n cap] w fun e w' => e = .returned (.agg ((sha (sha bs)).map bV).toArray) ∧ Below w.heap.size w w' := by
  have hb0 : Below w.heap.size w (w.alloc (.cells (List.replicate 32 (bV 0)).toArray 25)) := (Below.refl _ _).alloc (Nat.le_refl _) _
  have HS0 := Lib.hid (hsrc.below hb0)
  have hl : ∀ l : List UInt8, l.length = 32 → (l.map bV).toArray.size = 32 := fun l h => by simp [h]
  have HL := Lib.hid hl
  clear hsrc hb0 hl
  go_enter Tryd.func13, Tryd.ntmps13
  go_upto_region 2 with (first | (go_at_call 12; refine (ref_any bs sp n cap _ HS0.out hn).mono ?_; rintro e w1 ⟨rfl, hb1⟩; have HB1 := Lib.hid hb1; clear hb1) | ((with_reducible show wpList _ _ _ _ _ _); refine wpList_store_row rfl 25 (.tmp 3) (.tmp 5) rfl w1.heap.size ((sha bs).map bV).toArray rfl rfl 25 _ (heap_alloc_new _ _) (by rw [HL.out _ (sha_length _)]; kernel_rfl) (by rw [HL.out _ (sha_length _)]; rfl) (bV_one _) ?_; go_frame))
  obtain ⟨e1, e2, e3⟩ := twice_setup HB1.out
  obtain ⟨f1, f2, f3, f4⟩ := fill_setup e1 (List.replicate 32 (bV 0)).toArray ((sha bs).map bV).toArray 25
  have e4 : ((w1.alloc (.cells (List.replicate 32 (bV 0)).toArray 25)).setRow w1.heap.size ((sha bs).map bV).toArray).heap[w.heap.size]? = some (.cells (List.replicate 32 (bV 0)).toArray 25 (0, 0)) := by rw [f4.block _ e3]; exact e2
  obtain ⟨g, hg⟩ : ∃ g, g = w1.heap.size := ⟨_, rfl⟩
  generalize hw2 : World.setRow _ _ _ = w2
  have e5 : ((w1.alloc (.cells (List.replicate 32 (bV 0)).toArray 25)).setRow w1.heap.size ((sha bs).map bV).toArray) = w2 := hw2
  rw [e5] at f1 f2 f3 f4 e4
  rw [← hg] at f2 f3 ⊢
  have HS2 := Lib.hid (src_block (sha_length bs) f2)
  have F1 := Lib.hid f1
  have E4 := Lib.hid e4
  have hlt : w.heap.size < w2.heap.size := by omega
  clear f1 f2 f3 f4 e1 e2 e3 e4 e5 hw2 hg HB1 HS0
  go_wp2_with fail
  refine (ref_any (sha bs) _ _ _ _ HS2.out (by omega)).mono ?_
  rintro e w3 ⟨rfl, hb3⟩
  have h3 : w3.heap[w.heap.size]? = some (.cells (List.replicate 32 (bV 0)).toArray 25 (0, 0)) := by rw [hb3.block _ hlt]; exact E4.out
  have H3 := Lib.hid h3
  have B3 := Lib.hid (F1.out.trans (hb3.mono (by omega)))
  clear h3 hb3
  go_wp2_with ((with_reducible show wpList _ _ _ _ _ _); refine wpList_store_row rfl 25 (.tmp 2) (.tmp 7) rfl w.heap.size ((sha (sha bs)).map bV).toArray rfl rfl 25 _ H3.out (by rw [HL.out _ (sha_length _)]; kernel_rfl) (by rw [HL.out _ (sha_length _)]; rfl) (bV_one _) ?_; go_frame)
  refine bodyPost_ret (results_cell_row rfl _ _ w.heap.size 25 ((sha (sha bs)).map bV).toArray (0, 0) (.array 32 5) rfl (setRow_heap _ _ _ _ _ _ H3.out) Tryd.underlying25 rfl (by rw [HL.out _ (sha_length _)]; kernel_rfl)) rfl ⟨rfl, below_setRow B3.out (Nat.le_refl _) _⟩
end Go.Proofs.YtboepklpbedanaaDoor.Sha
