/-
  Texts of this proof joined into one file: ShaSha, RefTwice, MkJoin, MkMath, MkSmall, MkHs, MkRow0, MkRow, MkRoot, MkPath0, HsCopy, MkCalls, MkFirst. What each holds, and under which conditions, its own first sentence tells.
-/
import Derived.Deep.Light
import Derived.IntWalk
import Derived.Maps.AppendAt
import Derived.Test.YtaeebcedobkopaaDoorMg03
import Derived.Test.YtaeebcedobkopaaDoorMg06
import Derived.Test.YtaeebcedobkopaaDoorMg04
import Derived.Test.YtaeebcedobkopaaDoorMg01
/-
  digest.Sha answers the SHA-256 of the bytes that it is given, digest.Twice that of that, and turn nothing that was there. Conditions: the bytes lie where the slice says, the table is there, fewer than 2^59 bytes.
-/
namespace Go.Proofs.YtaeebcedobkopaaDoor.Sha
open Go Go.RowKit
/-- Write, whatever the slice. -/
theorem write_any (l bs : List UInt8) (v : Value) (B : Nat) (w : World) (hk : KTab w) (hB0 : B ≠ 0) (hsrc : SrcB w v bs) (hne : ∀ sp n cap, v = .slice (some sp) n cap → 0 < n → sp.block ≠ B)
    (hlen : l.length + bs.length ≤ 1152921504606846975) (hinv : WInv w B l) :
    Calls Tryd.prog 33 #[.pointer (some ⟨B, 0, none⟩), v] w fun e w' =>
      e = .returned (.tuple #[]) ∧ WInv w' B (l ++ bs) ∧ w.grownBy w' (some B) := by
  rcases hsrc with ⟨sp, cap, rfl, rfl⟩ | ⟨h0, bb, off, cap, rfl, hc, hs⟩
  · rw [List.append_nil]
    exact write_none l sp cap B w (by simpa using hlen) hinv
  · exact write_some l bs bb off cap B w hk hB0 (hne _ _ _ rfl h0) hc hlen hinv hs
theorem sha_setup (w : World) (z : Array Value) (T : TypeId) : Below w.heap.size w ((w.alloc (.cells z T)).alloc (.cells zeroW 54))
    ∧ ((w.alloc (.cells z T)).alloc (.cells zeroW 54)).heap.size = w.heap.size + 2
    ∧ ((w.alloc (.cells z T)).alloc (.cells zeroW 54)).heap[w.heap.size + 1]? = some (.cells zeroW 54 (0, 0))
    ∧ ((w.alloc (.cells z T)).alloc (.cells zeroW 54)).heap[w.heap.size]? = some (.cells z T (0, 0)) :=
  ⟨((Below.refl _ _).alloc (Nat.le_refl _) _).alloc (by simp) _, by simp, heap_alloc2_new _ _ _, heap_alloc2_old _ _ _⟩
set_option maxHeartbeats 1000000 in
set_option maxRecDepth 100000 in
theorem sha_any (bs : List UInt8) (v : Value) (w : World) (hk : KTab w) (hsrc : SrcB w v bs) (hlen : bs.length ≤ 576460752303423487) :
    Calls Tryd.prog 30 #[v] w fun e w' => e = .returned (.agg ((sha bs).map bV).toArray) ∧ Below w.heap.size w w' := by
  have hzw := zero_writer
  have HK := Lib.hid hk
  have HS := Lib.hid hsrc
  clear hk hsrc
  go_enter Tryd.func30, Tryd.ntmps30
  go_wp2_with fail
  obtain ⟨f1, f2, f3, f4⟩ := sha_setup w (List.replicate 32 (bV 0)).toArray 24
  generalize hw1 : World.alloc _ _ = w1
  have e1 : ((w.alloc (.cells (List.replicate 32 (bV 0)).toArray 24)).alloc (.cells zeroW 54)) = w1 := hw1
  rw [e1] at f1 f2 f3 f4
  have hK1 := HK.out.below f1
  have hp := HK.out.pos
  clear hw1 e1 hzw
  refine (write_any [] bs v (w.heap.size + 1) w1 hK1 (by omega) (HS.out.below f1) (HS.out.ne (Nat.le_succ _)) (by simpa using Nat.le_trans hlen (by omega)) (zero_inv f3)).mono ?_
  rintro e w2 ⟨rfl, hI, hG⟩
  rw [List.nil_append] at hI
  have B2 := grownBy_below hG f1 (Nat.le_succ _) (by omega)
  have h2 : w2.heap[w.heap.size]? = some (.cells (List.replicate 32 (bV 0)).toArray 24 (0, 0)) := by
    rw [hG.block _ (by omega) (fun e => by have := Option.some.inj e; omega)]
    exact f4
  have hs2 : w.heap.size < w2.heap.size := by have := hG.size; omega
  have HI := Lib.hid hI
  have HB2 := Lib.hid B2
  have HH2 := Lib.hid h2
  clear f1 f2 f3 f4 hK1 hI hG B2 h2
  go_wp2_with fail
  refine (sum_any bs (w.heap.size + 1) w2 (HK.out.below HB2.out) hlen HI.out).mono ?_
  rintro e w3 ⟨rfl, hb3⟩
  have h3 : w3.heap[w.heap.size]? = some (.cells (List.replicate 32 (bV 0)).toArray 24 (0, 0)) := by rw [hb3.block _ hs2]; exact HH2.out
  have HH3 := Lib.hid h3
  have B3 := Lib.hid (HB2.out.trans (hb3.mono (by omega)))
  have hl : ((sha bs).map bV).toArray.size = 32 := by simp [sha_length]
  have HL := Lib.hid hl
  clear h3 hb3 hl
  go_wp2_with ((with_reducible show wpList _ _ _ _ _ _); refine wpList_store_row rfl 24 (.tmp 2) (.tmp 6) rfl w.heap.size ((sha bs).map bV).toArray rfl rfl 24 _ HH3.out (by rw [HL.out]; kernel_rfl) (by rw [HL.out]; rfl) (bV_one _) ?_; go_frame)
  refine bodyPost_ret (results_cell_row rfl _ _ w.heap.size 24 ((sha bs).map bV).toArray (0, 0) (.array 32 5) rfl (setRow_heap _ _ _ _ _ _ HH3.out) Tryd.underlying24 rfl (by rw [HL.out]; kernel_rfl)) rfl ⟨rfl, below_setRow B3.out (Nat.le_refl _) _⟩
end Go.Proofs.YtaeebcedobkopaaDoor.Sha

/-
  digest.Twice and the statements' own Twice answer the SHA-256 of the SHA-256 of the bytes; nothing that was there turns. Conditions: the bytes lie where the slice says, fewer than 2^45; for digest.Twice the table is there.
-/
namespace Go.Proofs.YtaeebcedobkopaaDoor.Sha
open Go Go.RowKit
set_option maxHeartbeats 1000000 in
set_option maxRecDepth 100000 in
theorem twice_any (bs : List UInt8) (v : Value) (w : World) (hk : KTab w) (hsrc : SrcB w v bs) (hlen : bs.length ≤ 576460752303423487) :
    Calls Tryd.prog 26 #[v] w fun e w' => e = .returned (.agg ((sha (sha bs)).map bV).toArray) ∧ Below w.heap.size w w' := by
  have HK := Lib.hid hk
  have HS := Lib.hid hsrc
  have hl : ∀ l : List UInt8, l.length = 32 → (l.map bV).toArray.size = 32 := fun l h => by simp [h]
  have HL := Lib.hid hl
  clear hk hsrc hl
  go_enter Tryd.func26, Tryd.ntmps26
  go_wp2_with fail
  have b0 : Below w.heap.size w (w.alloc (.cells (List.replicate 32 (bV 0)).toArray 24)) := (Below.refl _ _).alloc (Nat.le_refl _) _
  have f0 : (w.alloc (.cells (List.replicate 32 (bV 0)).toArray 24)).heap[w.heap.size]? = some (.cells (List.replicate 32 (bV 0)).toArray 24 (0, 0)) := heap_alloc_new _ _
  have z0 : w.heap.size < (w.alloc (.cells (List.replicate 32 (bV 0)).toArray 24)).heap.size := by simp
  generalize hw0 : World.alloc _ _ = w0
  have q0 : w.alloc (.cells (List.replicate 32 (bV 0)).toArray 24) = w0 := hw0
  rw [q0] at b0 f0 z0
  clear hw0 q0
  refine (sha_any bs v w0 (HK.out.below b0) (HS.out.below b0) hlen).mono ?_
  rintro e w1 ⟨rfl, hb1⟩
  have e1 : Below w.heap.size w w1 := b0.trans (hb1.mono b0.size)
  have e2 : w1.heap[w.heap.size]? = some (.cells (List.replicate 32 (bV 0)).toArray 24 (0, 0)) := row_below f0 hb1
  have e3 : w.heap.size < w1.heap.size := Nat.lt_of_lt_of_le z0 hb1.size
  have E1 := Lib.hid e1
  have E2 := Lib.hid e2
  clear b0 f0 z0 hb1 e1 e2
  go_upto_region 2 with ((with_reducible show wpList _ _ _ _ _ _); refine wpList_store_row rfl 24 (.tmp 3) (.tmp 5) rfl w1.heap.size ((sha bs).map bV).toArray rfl rfl 24 _ (heap_alloc_new _ _) (by rw [HL.out _ (sha_length _)]; kernel_rfl) (by rw [HL.out _ (sha_length _)]; rfl) (bV_one _) ?_; go_frame)
  have e1 := E1.out
  have e2 := E2.out
  clear E1 E2
  obtain ⟨f1, f2, f3, f4⟩ := fill_setup e1 (List.replicate 32 (bV 0)).toArray ((sha bs).map bV).toArray 24
  have e4 : ((w1.alloc (.cells (List.replicate 32 (bV 0)).toArray 24)).setRow w1.heap.size ((sha bs).map bV).toArray).heap[w.heap.size]? = some (.cells (List.replicate 32 (bV 0)).toArray 24 (0, 0)) := by rw [f4.block _ e3]; exact e2
  obtain ⟨g, hg⟩ : ∃ g, g = w1.heap.size := ⟨_, rfl⟩
  generalize hw2 : World.setRow _ _ _ = w2
  have e5 : ((w1.alloc (.cells (List.replicate 32 (bV 0)).toArray 24)).setRow w1.heap.size ((sha bs).map bV).toArray) = w2 := hw2
  rw [e5] at f1 f2 f3 f4 e4
  rw [← hg] at f2 f3 ⊢
  have HK2 := Lib.hid (HK.out.below f1)
  have HS2 := Lib.hid (src_block (sha_length bs) f2)
  have F1 := Lib.hid f1
  have E4 := Lib.hid e4
  have hlt : w.heap.size < w2.heap.size := by omega
  clear f1 f2 f3 f4 e1 e2 e3 e4 e5 hw2 hg
  go_wp2_with fail
  refine (sha_any (sha bs) _ _ HK2.out HS2.out (by rw [sha_length]; omega)).mono ?_
  rintro e w3 ⟨rfl, hb3⟩
  have h3 : w3.heap[w.heap.size]? = some (.cells (List.replicate 32 (bV 0)).toArray 24 (0, 0)) := by rw [hb3.block _ hlt]; exact E4.out
  have H3 := Lib.hid h3
  have B3 := Lib.hid (F1.out.trans (hb3.mono (by omega)))
  clear h3 hb3
  go_wp2_with ((with_reducible show wpList _ _ _ _ _ _); refine wpList_store_row rfl 24 (.tmp 2) (.tmp 7) rfl w.heap.size ((sha (sha bs)).map bV).toArray rfl rfl 24 _ H3.out (by rw [HL.out _ (sha_length _)]; kernel_rfl) (by rw [HL.out _ (sha_length _)]; rfl) (bV_one _) ?_; go_frame)
  refine bodyPost_ret (results_cell_row rfl _ _ w.heap.size 24 ((sha (sha bs)).map bV).toArray (0, 0) (.array 32 5) rfl (setRow_heap _ _ _ _ _ _ H3.out) Tryd.underlying24 rfl (by rw [HL.out _ (sha_length _)]; kernel_rfl)) rfl ⟨rfl, below_setRow B3.out (Nat.le_refl _) _⟩
set_option maxHeartbeats 1000000 in
set_option maxRecDepth 100000 in
theorem ref_twice (bs : List UInt8) (sp : Option Addr) (n cap : Nat) (w : World) (hsrc : SrcB w (.slice sp n cap) bs) (hn : n ≤ 35184372088832) :
    Calls Tryd.prog 28 #[.slice sp n cap] w fun e w' => e = .returned (.agg ((sha (sha bs)).map bV).toArray) ∧ Below w.heap.size w w' := by
  have HS := Lib.hid hsrc
  have hl : ∀ l : List UInt8, l.length = 32 → (l.map bV).toArray.size = 32 := fun l h => by simp [h]
  have HL := Lib.hid hl
  clear hsrc hl
  go_enter Tryd.func28, Tryd.ntmps28
  go_wp2_with fail
  have b0 : Below w.heap.size w (w.alloc (.cells (List.replicate 32 (bV 0)).toArray 24)) := (Below.refl _ _).alloc (Nat.le_refl _) _
  have f0 : (w.alloc (.cells (List.replicate 32 (bV 0)).toArray 24)).heap[w.heap.size]? = some (.cells (List.replicate 32 (bV 0)).toArray 24 (0, 0)) := heap_alloc_new _ _
  have z0 : w.heap.size < (w.alloc (.cells (List.replicate 32 (bV 0)).toArray 24)).heap.size := by simp
  generalize hw0 : World.alloc _ _ = w0
  have q0 : w.alloc (.cells (List.replicate 32 (bV 0)).toArray 24) = w0 := hw0
  rw [q0] at b0 f0 z0
  clear hw0 q0
  refine (ref_any bs sp n cap w0 (HS.out.below b0) hn).mono ?_
  rintro e w1 ⟨rfl, hb1⟩
  have e1 : Below w.heap.size w w1 := b0.trans (hb1.mono b0.size)
  have e2 : w1.heap[w.heap.size]? = some (.cells (List.replicate 32 (bV 0)).toArray 24 (0, 0)) := row_below f0 hb1
  have e3 : w.heap.size < w1.heap.size := Nat.lt_of_lt_of_le z0 hb1.size
  have E1 := Lib.hid e1
  have E2 := Lib.hid e2
  clear b0 f0 z0 hb1 e1 e2
  go_upto_region 2 with ((with_reducible show wpList _ _ _ _ _ _); refine wpList_store_row rfl 24 (.tmp 3) (.tmp 5) rfl w1.heap.size ((sha bs).map bV).toArray rfl rfl 24 _ (heap_alloc_new _ _) (by rw [HL.out _ (sha_length _)]; kernel_rfl) (by rw [HL.out _ (sha_length _)]; rfl) (bV_one _) ?_; go_frame)
  have e1 := E1.out
  have e2 := E2.out
  clear E1 E2
  obtain ⟨f1, f2, f3, f4⟩ := fill_setup e1 (List.replicate 32 (bV 0)).toArray ((sha bs).map bV).toArray 24
  have e4 : ((w1.alloc (.cells (List.replicate 32 (bV 0)).toArray 24)).setRow w1.heap.size ((sha bs).map bV).toArray).heap[w.heap.size]? = some (.cells (List.replicate 32 (bV 0)).toArray 24 (0, 0)) := by rw [f4.block _ e3]; exact e2
  obtain ⟨g, hg⟩ : ∃ g, g = w1.heap.size := ⟨_, rfl⟩
  generalize hw2 : World.setRow _ _ _ = w2
  have e5 : ((w1.alloc (.cells (List.replicate 32 (bV 0)).toArray 24)).setRow w1.heap.size ((sha bs).map bV).toArray) = w2 := hw2
  rw [e5] at f1 f2 f3 f4 e4
  rw [← hg] at f2 f3 ⊢
  have HS2 := Lib.hid (src_block (sha_length bs) f2)
  have F1 := Lib.hid f1
  have E4 := Lib.hid e4
  have hlt : w.heap.size < w2.heap.size := by omega
  clear f1 f2 f3 f4 e1 e2 e3 e4 e5 hw2 hg
  go_wp2_with fail
  refine (ref_any (sha bs) _ _ _ _ HS2.out (by omega)).mono ?_
  rintro e w3 ⟨rfl, hb3⟩
  have h3 : w3.heap[w.heap.size]? = some (.cells (List.replicate 32 (bV 0)).toArray 24 (0, 0)) := by rw [hb3.block _ hlt]; exact E4.out
  have H3 := Lib.hid h3
  have B3 := Lib.hid (F1.out.trans (hb3.mono (by omega)))
  clear h3 hb3
  go_wp2_with ((with_reducible show wpList _ _ _ _ _ _); refine wpList_store_row rfl 24 (.tmp 2) (.tmp 7) rfl w.heap.size ((sha (sha bs)).map bV).toArray rfl rfl 24 _ H3.out (by rw [HL.out _ (sha_length _)]; kernel_rfl) (by rw [HL.out _ (sha_length _)]; rfl) (bV_one _) ?_; go_frame)
  refine bodyPost_ret (results_cell_row rfl _ _ w.heap.size 24 ((sha (sha bs)).map bV).toArray (0, 0) (.array 32 5) rfl (setRow_heap _ _ _ _ _ _ H3.out) Tryd.underlying24 rfl (by rw [HL.out _ (sha_length _)]; kernel_rfl)) rfl ⟨rfl, below_setRow B3.out (Nat.le_refl _) _⟩
end Go.Proofs.YtaeebcedobkopaaDoor.Sha

/-
  Package merkle's join: the digest above two. Nothing that was there turns. Condition: the table is there.
-/
namespace Go.Proofs.YtaeebcedobkopaaDoor.Sha
open Go Go.RowKit
/-- The digest above two. -/
def prH (a b : List UInt8) : List UInt8 := sha (sha (a ++ b))
theorem prH_length (a b : List UInt8) : (prH a b).length = 32 := sha_length _
/-- Two boxes and an empty one. -/
theorem boxes_two_zero (w : World) (x y z : Array Value) (T : TypeId) :
    Below w.heap.size w (((w.alloc (.cells x T (0, 0))).alloc (.cells y T (0, 0))).alloc (.cells z T (0, 0)))
    ∧ (((w.alloc (.cells x T (0, 0))).alloc (.cells y T (0, 0))).alloc (.cells z T (0, 0))).heap[w.heap.size]? = some (.cells x T (0, 0))
    ∧ (((w.alloc (.cells x T (0, 0))).alloc (.cells y T (0, 0))).alloc (.cells z T (0, 0))).heap[w.heap.size + 1]? = some (.cells y T (0, 0))
    ∧ (((w.alloc (.cells x T (0, 0))).alloc (.cells y T (0, 0))).alloc (.cells z T (0, 0))).heap[w.heap.size + 2]? = some (.cells z T (0, 0)) := by
  refine ⟨(((Below.refl _ _).alloc (Nat.le_refl _) _).alloc (by simp) _).alloc (by simp; omega) _, ?_, ?_, ?_⟩
  · have h1 := heap_alloc_new w (.cells x T (0, 0))
    have h2 := row_below h1 ((Below.refl _ _).alloc (Nat.le_refl _) (.cells y T (0, 0)))
    exact row_below h2 ((Below.refl _ _).alloc (Nat.le_refl _) (.cells z T (0, 0)))
  · have h1 := heap_alloc_new (w.alloc (.cells x T (0, 0))) (.cells y T (0, 0))
    rw [World.size_alloc] at h1
    exact row_below h1 ((Below.refl _ _).alloc (Nat.le_refl _) (.cells z T (0, 0)))
  · have h1 := heap_alloc_new ((w.alloc (.cells x T (0, 0))).alloc (.cells y T (0, 0))) (.cells z T (0, 0))
    rw [World.size_alloc, World.size_alloc] at h1
    exact h1
theorem one_list {dg : Array Value} (h : dg.all (·.oneCell') = true) : ∀ u ∈ dg.toList, u.oneCell' = true := fun u hu => by
  rw [Array.all_eq_true_iff_forall_mem] at h
  exact h u (by simpa using hu)
theorem info_bytes : (Tryd.prog.info? 45).map (fun i => (i.zero, i.size, i.bytes)) = some (some (.slice none 0 0), 1, 24) := by kernel_rfl
set_option maxHeartbeats 2000000 in
set_option maxRecDepth 100000 in
theorem join_any (a b : List UInt8) (ha : a.length = 32) (hb : b.length = 32) (w : World) (hk : KTab w) :
    Calls Tryd.prog 23 #[.agg (a.map bV).toArray, .agg (b.map bV).toArray] w fun e w' => e = .returned (.agg ((prH a b).map bV).toArray) ∧ Below w.heap.size w w' := by
  obtain ⟨i0, hi, hz0, hz1, hz2⟩ := info_parts info_bytes
  have HA := Lib.hid ha
  have HB := Lib.hid hb
  have HK := Lib.hid hk
  have HOne := Lib.hid (bV_one (prH a b))
  have HLen : Hid ((((prH a b).map bV).toArray).size = 32) := by show _ = _; simp [prH_length]
  obtain ⟨dg, hdg⟩ : ∃ dg, dg = ((prH a b).map bV).toArray := ⟨_, rfl⟩
  rw [← hdg] at HOne HLen ⊢
  have HD := Lib.hid hdg
  clear hdg ha hb hk
  go_enter Tryd.func23, Tryd.ntmps23
  go_upto_region 1 with fail
  obtain ⟨b1, f1, f2, f3⟩ := boxes_two_zero w (a.map bV).toArray (b.map bV).toArray (List.replicate 32 (bV 0)).toArray 24
  generalize hw1 : World.alloc _ _ = w1
  have e1 : ((w.alloc (.cells (a.map bV).toArray 24 (0, 0))).alloc (.cells (b.map bV).toArray 24 (0, 0))).alloc (.cells (List.replicate 32 (bV 0)).toArray 24 (0, 0)) = w1 := hw1
  rw [e1] at b1 f1 f2 f3
  clear hw1 e1
  have F1 := Lib.hid f1
  have F2 := Lib.hid f2
  have F3 := Lib.hid f3
  have B1 := Lib.hid b1
  clear f1 f2 f3 b1
  refine wp_region_held_drew (S := (fun _ => True)) (by kernel_rfl) trivial (fun hHeld => ?_)
  have bb := Below.drew (Below.refl w1.heap.size w1)
  generalize hw2 : w1.drew = w2
  rw [hw2] at bb
  have F1 := Lib.hid (row_below F1.out bb)
  have F2 := Lib.hid (row_below F2.out bb)
  have F3 := Lib.hid (row_below F3.out bb)
  have B2 := Lib.hid (B1.out.trans (bb.mono B1.out.size))
  clear hw2 bb B1
  refine held_take (i := 0) (v := (.slice (some ⟨w.heap.size, 0, none⟩) 32 32)) rfl (by kernel_rfl) (by kernel_rfl) (by kernel_rfl) (fun _ _ _ h => h) (Or.inl ⟨by rfl, fun w' _ => by kernel_rfl⟩) hHeld ?_
  go_frame
  refine held_take (i := 1) (v := (.slice (some ⟨w.heap.size + 1, 0, none⟩) 32 32)) rfl (by kernel_rfl) (by kernel_rfl) (by kernel_rfl) (fun _ _ _ h => h) (Or.inl ⟨by rfl, fun w' _ => by kernel_rfl⟩) hHeld ?_
  go_frame
  refine wpAnyH_ready (rs := [2]) (by kernel_rfl) (by simp) (held_cons rfl (fun K hK => ?_) AllReadyH.nil)
  rw [if_pos (by rfl)]
  refine wp_buildSlice 48 45 2 _ rfl #[.slice (some ⟨w.heap.size, 0, none⟩) 32 32, .slice (some ⟨w.heap.size + 1, 0, none⟩) 32 32] i0 (.slice none 0 0) Tryd.underlying48 hi hz0 (by rw [hz1]; omega) (by rw [hz1]; omega) (by rw [hz1]; kernel_rfl) ?_
  have nf := heap_alloc_new w2 (.cells #[.slice (some ⟨w.heap.size, 0, none⟩) 32 32, .slice (some ⟨w.heap.size + 1, 0, none⟩) 32 32] 45 (0, 0))
  have bb := (Below.refl w2.heap.size w2).alloc (Nat.le_refl _) (.cells #[.slice (some ⟨w.heap.size, 0, none⟩) 32 32, .slice (some ⟨w.heap.size + 1, 0, none⟩) 32 32] 45 (0, 0))
  obtain ⟨gn, hgn⟩ : ∃ gn, gn = w2.heap.size := ⟨_, rfl⟩
  generalize hw3 : World.alloc _ _ = w3
  have e3 : w2.alloc (.cells #[.slice (some ⟨w.heap.size, 0, none⟩) 32 32, .slice (some ⟨w.heap.size + 1, 0, none⟩) 32 32] 45 (0, 0)) = w3 := hw3
  rw [e3] at nf bb
  rw [← hgn] at nf ⊢
  have NF := Lib.hid nf
  have F1 := Lib.hid (row_below F1.out bb)
  have F2 := Lib.hid (row_below F2.out bb)
  have F3 := Lib.hid (row_below F3.out bb)
  have B3 := Lib.hid (B2.out.trans (bb.mono B2.out.size))
  clear nf bb hw3 e3 hgn B2
  go_frame
  refine hK.out _ _ trivial (fun hHeld => ?_)
  clear hK K
  refine wpAnyH_ready (rs := [3]) (by kernel_rfl) (by simp) (held_cons rfl (fun K hK => ?_) AllReadyH.nil)
  go_simp
  refine (concat_two a b HA.out HB.out gn w.heap.size (w.heap.size + 1) w3 (by rw [cell_of_row _ _ _ _ _ _ NF.out]; rfl) (by rw [cell_of_row _ _ _ _ _ _ NF.out]; rfl) (src_block HA.out F1.out) (src_block HB.out F2.out)).mono ?_
  rintro e w4 ⟨v4, rfl, s4, bb⟩
  have S4 := Lib.hid s4
  have F3 := Lib.hid (row_below F3.out bb)
  have B4 := Lib.hid (B3.out.trans (bb.mono B3.out.size))
  clear s4 bb B3 F1 F2 NF
  go_wp2_with fail
  refine hK.out _ _ trivial (fun hHeld => ?_)
  clear hK K
  refine wpAnyH_ready (rs := [4]) (by kernel_rfl) (by simp) (held_cons rfl (fun K hK => ?_) AllReadyH.nil)
  go_simp
  have TW := twice_any (a ++ b) v4 w4 (HK.out.below B4.out) S4.out (by rw [List.length_append, HA.out, HB.out]; omega)
  rw [show sha (sha (a ++ b)) = prH a b from rfl, ← HD.out] at TW
  refine TW.mono ?_
  clear TW
  rintro e w5 ⟨rfl, bb⟩
  have F3 := Lib.hid (row_below F3.out bb)
  have B5 := Lib.hid (B4.out.trans (bb.mono B4.out.size))
  clear bb B4 S4
  go_wp2_with fail
  refine hK.out _ _ trivial (fun hHeld => ?_)
  clear hK K
  refine wpAnyH_ready (rs := [5]) (by kernel_rfl) (by simp) (held_cons rfl (fun K hK => ?_) AllReadyH.nil)
  rw [if_pos (by rfl)]
  refine wp_store_part 24 (.tmp 4) (.tmp 9) rfl (w.heap.size + 2) 0 [] (List.replicate 32 (bV 0)) [] dg.toList 24 (.agg dg) rfl rfl (by simp [Value.cells]) rfl (by simp [HLen.out]) (by simpa using F3.out) (by rw [Array.length_toList, HLen.out]; kernel_rfl) (one_list HOne.out) ?_
  intro w6 q1 q2
  have f6 : w6.heap[w.heap.size + 2]? = some (.cells dg 24 (0, 0)) := by simpa using q1
  have F6 := Lib.hid f6
  have B6 := Lib.hid (B5.out.grown q2 B5.out.size (fun k hk => by cases hk; omega))
  clear q1 q2 f6
  go_frame
  refine hK.out _ _ trivial (fun hHeld => ?_)
  clear hK K
  refine wpAnyH_done (by kernel_rfl) ?_ _
  clear hHeld
  go_wp2_with fail
  refine bodyPost_ret (results_cell_row rfl _ _ (w.heap.size + 2) 24 dg (0, 0) (.array 32 5) rfl F6.out Tryd.underlying24 rfl (by rw [HLen.out]; kernel_rfl)) rfl ⟨rfl, B6.out⟩
end Go.Proofs.YtaeebcedobkopaaDoor.Sha

/-
  Plain mathematics of rows of digests: the next row, the root, the way from below, what a leaf and a way make. Nothing of the program. No conditions beyond those that each states.
-/
namespace Go.Proofs.YtaeebcedobkopaaDoor.Sha
section
variable {α : Type} (pr : α → α → α) (z : α)
/-- The next row: each two, the last of an odd row with itself. -/
def rowL : List α → List α
  | [] => []
  | [a] => [pr a a]
  | a :: b :: l => pr a b :: rowL l
theorem rowL_length : ∀ l : List α, (rowL pr l).length = (l.length + 1) / 2
  | [] => by simp [rowL]
  | [_] => by simp [rowL]
  | _ :: _ :: l => by
    rw [rowL, List.length_cons, rowL_length l]
    simp only [List.length_cons]
    omega
/-- One of the next row. -/
theorem rowL_get : ∀ (l : List α) (i : Nat), 2 * i < l.length → (rowL pr l).getD i z = pr (l.getD (2 * i) z) (l.getD (if 2 * i + 1 < l.length then 2 * i + 1 else 2 * i) z)
  | [], i, h => by simp at h
  | [a], i, h => by
    obtain rfl : i = 0 := by simp at h; omega
    simp [rowL]
  | a :: b :: l, 0, _ => by simp [rowL]
  | a :: b :: l, i + 1, h => by
    have ih := rowL_get l i (by simp at h; omega)
    rw [rowL, List.getD_cons_succ, ih, show 2 * (i + 1) = 2 * i + 1 + 1 by omega]
    simp only [List.length_cons]
    by_cases h2 : 2 * i + 1 < l.length
    · rw [if_pos h2, if_pos (by omega)]
      simp only [List.getD_cons_succ]
    · rw [if_neg h2, if_neg (by omega)]
      simp only [List.getD_cons_succ]
/-- The root: row by row. -/
def rootL (l : List α) : α := if _h : l.length ≤ 1 then l.getD 0 z else rootL (rowL pr l)
  termination_by l.length
  decreasing_by rw [rowL_length]; omega
theorem rootL_one {l : List α} (h : l.length ≤ 1) : rootL pr z l = l.getD 0 z := by rw [rootL, dif_pos h]
theorem rootL_more {l : List α} (h : 1 < l.length) : rootL pr z l = rootL pr z (rowL pr l) := by rw [rootL, dif_neg (by omega)]
/-- The other one of two. -/
def otherN (i n : Nat) : Nat := if i % 2 = 1 then i - 1 else if i + 1 < n then i + 1 else i
/-- The way from below. -/
def pathL (i : Nat) (l : List α) : List α := if _h : l.length ≤ 1 then [] else l.getD (otherN i l.length) z :: pathL (i / 2) (rowL pr l)
  termination_by l.length
  decreasing_by rw [rowL_length]; omega
theorem pathL_one {l : List α} (i : Nat) (h : l.length ≤ 1) : pathL pr z i l = [] := by rw [pathL, dif_pos h]
theorem pathL_more {l : List α} (i : Nat) (h : 1 < l.length) : pathL pr z i l = l.getD (otherN i l.length) z :: pathL pr z (i / 2) (rowL pr l) := by rw [pathL, dif_neg (by omega)]
/-- How many rows there are but the last. -/
def rowsN (n : Nat) : Nat := if _h : n ≤ 1 then 0 else rowsN ((n + 1) / 2) + 1
  termination_by n
  decreasing_by omega
theorem rowsN_one {n : Nat} (h : n ≤ 1) : rowsN n = 0 := by rw [rowsN, dif_pos h]
theorem rowsN_more {n : Nat} (h : 1 < n) : rowsN n = rowsN ((n + 1) / 2) + 1 := by rw [rowsN, dif_neg (by omega)]
theorem pathL_length : ∀ (n : Nat) (l : List α) (i : Nat), l.length = n → (pathL pr z i l).length = rowsN n := by
  intro n
  induction n using Nat.strongRecOn with
  | ind n ih =>
    intro l i hl
    by_cases h : n ≤ 1
    · rw [pathL_one pr z i (by omega), rowsN_one h]
      rfl
    · rw [pathL_more pr z i (by omega), rowsN_more (by omega), List.length_cons, ih ((n + 1) / 2) (by omega) (rowL pr l) (i / 2) (by rw [rowL_length, hl])]
/-- What a leaf and a way make. -/
def climbL (leaf : α) (i : Nat) : List α → α
  | [] => leaf
  | p :: ps => climbL (if i % 2 = 0 then pr leaf p else pr p leaf) (i / 2) ps
/-- The way leads to the root. -/
theorem climb_path : ∀ (n : Nat) (l : List α) (i : Nat), l.length = n → i < n → climbL pr (l.getD i z) i (pathL pr z i l) = rootL pr z l := by
  intro n
  induction n using Nat.strongRecOn with
  | ind n ih =>
    intro l i hl hi
    by_cases h : n ≤ 1
    · obtain rfl : i = 0 := by omega
      rw [pathL_one pr z 0 (by omega), rootL_one pr z (by omega)]
      rfl
    · rw [pathL_more pr z i (by omega), rootL_more pr z (by omega), climbL]
      have hr : (rowL pr l).getD (i / 2) z = (if i % 2 = 0 then pr (l.getD i z) (l.getD (otherN i l.length) z) else pr (l.getD (otherN i l.length) z) (l.getD i z)) := by
        rw [rowL_get pr z l (i / 2) (by omega)]
        unfold otherN
        by_cases h2 : i % 2 = 0
        · have e : 2 * (i / 2) = i := by omega
          rw [if_pos h2, e, if_neg (show ¬ i % 2 = 1 by omega)]
        · have e : 2 * (i / 2) = i - 1 := by omega
          have e2 : i - 1 + 1 = i := by omega
          rw [if_neg h2, e, e2, if_pos (show i % 2 = 1 by omega), if_pos (show i < l.length by omega)]
      rw [← hr]
      exact ih ((n + 1) / 2) (by omega) (rowL pr l) (i / 2) (by rw [rowL_length, hl]) (by omega)
/-- An odd row's last one twice: the same next row. -/
theorem rowL_odd : ∀ (l : List α), l.length % 2 = 1 → rowL pr (l ++ [l.getD (l.length - 1) z]) = rowL pr l
  | [], h => by simp at h
  | [a], _ => rfl
  | a :: b :: l, h => by
    simp only [List.length_cons] at h
    have h3 : 1 ≤ l.length := by omega
    have ih := rowL_odd l (by omega)
    have e : (a :: b :: l).getD ((a :: b :: l).length - 1) z = l.getD (l.length - 1) z := by
      simp only [List.length_cons]
      rw [show l.length + 1 + 1 - 1 = (l.length - 1) + 1 + 1 by omega, List.getD_cons_succ, List.getD_cons_succ]
    rw [e, List.cons_append, List.cons_append, rowL, rowL, ih]
theorem rootL_odd (l : List α) (h : l.length % 2 = 1) (h2 : 1 < l.length) : rootL pr z (l ++ [l.getD (l.length - 1) z]) = rootL pr z l := by
  rw [rootL_more pr z (by simp; omega), rootL_more pr z h2, rowL_odd pr z l h]
/-- Two rows one behind the other, the first of an even length. -/
theorem rowL_append : ∀ (a b : List α), a.length % 2 = 0 → rowL pr (a ++ b) = rowL pr a ++ rowL pr b
  | [], b, _ => rfl
  | [_], _, h => by simp at h
  | x :: y :: a, b, h => by
    have ih := rowL_append a b (by simp at h; omega)
    rw [List.cons_append, List.cons_append, rowL, rowL, ih, List.cons_append]
/-- Two rows of as many, a power of two: the root is of both roots; the last of the second one's way is the first one's root. -/
theorem root_two : ∀ (j : Nat) (a b : List α), a.length = 2 ^ j → b.length = 2 ^ j →
    rootL pr z (a ++ b) = pr (rootL pr z a) (rootL pr z b) ∧ (pathL pr z (2 ^ j) (a ++ b)).length = j + 1 ∧ (pathL pr z (2 ^ j) (a ++ b)).getD j z = rootL pr z a := by
  intro j
  induction j with
  | zero =>
    intro a b ha hb
    obtain ⟨x, rfl⟩ := List.length_eq_one_iff.1 ha
    obtain ⟨y, rfl⟩ := List.length_eq_one_iff.1 hb
    have hr : rowL pr ([x] ++ [y]) = [pr x y] := rfl
    refine ⟨?_, ?_, ?_⟩
    · rw [rootL_more pr z (by simp), hr, rootL_one pr z (by simp), rootL_one pr z (by simp), rootL_one pr z (by simp)]
      rfl
    · rw [pathL_more pr z _ (by simp), hr, pathL_one pr z _ (by simp)]
      rfl
    · rw [pathL_more pr z _ (by simp), rootL_one pr z (by simp)]
      rfl
  | succ j ih =>
    intro a b ha hb
    have hp : 2 ^ (j + 1) = 2 * 2 ^ j := by rw [Nat.pow_succ]; omega
    have h1 : 1 ≤ 2 ^ j := Nat.one_le_two_pow
    have la : (rowL pr a).length = 2 ^ j := by rw [rowL_length, ha]; omega
    have lb : (rowL pr b).length = 2 ^ j := by rw [rowL_length, hb]; omega
    have hr : rowL pr (a ++ b) = rowL pr a ++ rowL pr b := rowL_append pr a b (by omega)
    have hl : 1 < (a ++ b).length := by rw [List.length_append]; omega
    obtain ⟨i1, i2, i3⟩ := ih (rowL pr a) (rowL pr b) la lb
    have hd : 2 ^ (j + 1) / 2 = 2 ^ j := by omega
    refine ⟨?_, ?_, ?_⟩
    · rw [rootL_more pr z hl, hr, i1, ← rootL_more pr z (by omega), ← rootL_more pr z (by omega)]
    · rw [pathL_more pr z _ hl, hr, hd, List.length_cons, i2]
    · rw [pathL_more pr z _ hl, hr, hd, List.getD_cons_succ, i3, ← rootL_more pr z (by omega)]
theorem pathL_at (j : Nat) (a b : List α) (ha : a.length = 2 ^ j) (hb : b.length = 2 ^ j) : (pathL pr z (2 ^ j) (a ++ b)).getD ((pathL pr z (2 ^ j) (a ++ b)).length - 1) z = rootL pr z a := by
  obtain ⟨_, i2, i3⟩ := root_two pr z j a b ha hb
  rw [i2, Nat.add_sub_cancel]
  exact i3
end
end Go.Proofs.YtaeebcedobkopaaDoor.Sha

/-
  Package merkle's small functions: half, partner, rowsAbove. No conditions beyond bounds.
-/
namespace Go.Proofs.YtaeebcedobkopaaDoor.Sha
open Go Go.RowKit
theorem xor_one (k : Nat) : k ^^^ 1 = if k % 2 = 1 then k - 1 else k + 1 := by
  have h1 : (k ^^^ 1) / 2 = k / 2 := by
    rw [Nat.xor_div_two]
    simp
  have h2 : (k ^^^ 1) % 2 = (k + 1) % 2 := by
    have h3 := Nat.xor_mod_two_pow (a := k) (b := 1) (n := 1)
    have h4 : k % 2 = 0 ∨ k % 2 = 1 := by omega
    simp only [Nat.pow_one] at h3
    rw [h3]
    rcases h4 with h | h
    · rw [h]; simp; omega
    · rw [h]; simp; omega
  split <;> omega
theorem bits_xor_i64_one (k : Nat) (hk : k < 4611686018427387904) : bits .xor .i64 (k : Int) 1 = ((k ^^^ 1 : Nat) : Int) := by
  have hx : k ^^^ 1 < 2 ^ 62 := Nat.xor_lt_two_pow (by omega) (by omega)
  have h1 : (BitVec.ofInt 64 (k : Int)).toNat = k := by
    rw [BitVec.ofInt_natCast, BitVec.toNat_ofNat]; exact Nat.mod_eq_of_lt (by omega)
  have h2 : (BitVec.ofInt 64 (1 : Int)).toNat = 1 := by rfl
  show IntKind.i64.wrap ((BitVec.ofInt 64 (k : Int) ^^^ BitVec.ofInt 64 1).toNat : Int) = _
  rw [BitVec.toNat_xor, h1, h2, IntKind.wrap_i64]
  omega
theorem half_any (n : Nat) (hn : n ≤ 4611686018427387904) (w : World) :
    Calls Tryd.prog 25 #[.int .i64 n] w fun e w' => e = .returned (.int .i64 (((n + 1) / 2 : Nat) : Int)) ∧ w = w' := by
  go_enter Tryd.func25, Tryd.ntmps25
  go_wp2
  go_ret
  exact ⟨ret_int (by omega), rfl⟩
/-- The other one of two, as the package finds it. -/
theorem other_min (at_ of_ : Nat) (h : at_ < of_) : (if (of_ : Int) - 1 < ((at_ ^^^ 1 : Nat) : Int) then (of_ : Int) - 1 else ((at_ ^^^ 1 : Nat) : Int)) = (otherN at_ of_ : Int) := by
  rw [xor_one]
  unfold otherN
  by_cases h1 : at_ % 2 = 1
  · simp only [if_pos h1]
    rw [if_neg (by omega)]
  · simp only [if_neg h1]
    by_cases h2 : at_ + 1 < of_
    · rw [if_pos h2, if_neg (by omega)]
    · rw [if_neg h2, if_pos (by omega)]
      omega
theorem partner_any (k n : Nat) (hk : k < n) (hn : n ≤ 4611686018427387904) (w : World) :
    Calls Tryd.prog 19 #[.int .i64 k, .int .i64 n] w fun e w' => e = .returned (.int .i64 ((otherN k n : Nat) : Int)) ∧ w = w' := by
  have hx := bits_xor_i64_one k (by omega)
  have ho := other_min k n hk
  obtain ⟨x, hxe⟩ : ∃ x, x = k ^^^ 1 := ⟨_, rfl⟩
  rw [← hxe] at hx ho
  obtain ⟨r, hr⟩ : ∃ r, r = otherN k n := ⟨_, rfl⟩
  rw [← hr] at ho ⊢
  have HO := Lib.hid ho
  clear ho hxe hr
  have h0 : 0 ≤ (n : Int) - 1 := by omega
  have h1 : 1 ≤ (n : Int) := by omega
  go_enter Tryd.func19, Tryd.ntmps19
  by_cases hc : (n : Int) - 1 < (x : Int)
  · go_wp2
    go_ret
    exact ⟨ret_int (by have h := HO.out; rw [if_pos hc] at h; omega), rfl⟩
  · go_wp2
    go_ret
    exact ⟨ret_int (by have h := HO.out; rw [if_neg (by omega)] at h; omega), rfl⟩
theorem otherN_lt {i n : Nat} (h : i < n) : otherN i n < n := by unfold otherN; split <;> (try split) <;> omega
theorem rowsN_le : ∀ n k : Nat, n ≤ 2 ^ k → rowsN n ≤ k := by
  intro n
  induction n using Nat.strongRecOn with
  | ind n ih =>
    intro k hk
    by_cases h : n ≤ 1
    · rw [rowsN_one h]; omega
    · rw [rowsN_more (by omega)]
      cases k with
      | zero => simp at hk; omega
      | succ k =>
        have := ih ((n + 1) / 2) (by omega) k (by rw [Nat.pow_succ] at hk; omega)
        omega
set_option maxHeartbeats 400000 in
theorem rows_above (n : Nat) (hn : n ≤ 1048576) (w : World) :
    Calls Tryd.prog 22 #[.int .i64 n] w fun e w' => e = .returned (.int .i64 ((rowsN n : Nat) : Int)) ∧ w = w' := by
  obtain ⟨R, hR⟩ : ∃ R, R = rowsN n := ⟨_, rfl⟩
  have hb : R ≤ 20 := by rw [hR]; exact rowsN_le n 20 (by omega)
  rw [← hR]
  have HR := Lib.hid hR
  clear hR
  go_enter Tryd.func22, Tryd.ntmps22
  go_wp2
  go_loop [0, 3] (fun vm vr => ∃ m r : Nat, m ≤ 1048576 ∧ r + rowsN m = R ∧ vm = .int .i64 m ∧ vr = .int .i64 r) (fun vm _ => (intOf vm).toNat)
  case atStart => exact ⟨n, 0, hn, by rw [HR.out]; omega, rfl, rfl⟩
  case round =>
    obtain ⟨m, r, hm, hs, rfl, rfl⟩ := hrel
    have HS := Lib.hid hs
    have hr : r ≤ 20 := by omega
    clear hs
    by_cases h1 : 1 < m
    · have HM := Lib.hid (rowsN_more h1)
      have h1' : (m : Int) > 1 := by omega
      go_wp2_with (go_at_call 25; refine (half_any m (by omega) _).mono ?_; rintro e w' ⟨rfl, rfl⟩)
      go_round
      case rel => exact ⟨(m + 1) / 2, r + 1, by omega, by have := HS.out; have := HM.out; omega, rfl, by go_num⟩
      case measure => simp [intOf]; omega
    · have HM := Lib.hid (rowsN_one (n := m) (by omega))
      have h1' : ¬ (m : Int) > 1 := by omega
      go_wp2
      go_ret
      exact ⟨ret_int (by have := HS.out; have := HM.out; omega), rfl⟩
end Go.Proofs.YtaeebcedobkopaaDoor.Sha

/-
  Rows of digests, roots and ways: lengths, what is kept when another block turns. No conditions beyond those that each states.
-/
namespace Go.Proofs.YtaeebcedobkopaaDoor.Sha
open Go Go.RowKit
/-- 32 bytes of 0. -/
def zM : List UInt8 := List.replicate 32 0
theorem zM_length : zM.length = 32 := by simp [zM]
def slLen : Value → Nat
  | .slice _ n _ => n
  | _ => 0
theorem rowL_ok : ∀ l : List (List UInt8), HsOk (rowL prH l)
  | [] => fun x hx => by simp [rowL] at hx
  | [a] => fun x hx => by
    simp only [rowL, List.mem_singleton] at hx
    rw [hx]; exact prH_length _ _
  | a :: b :: l => fun x hx => by
    simp only [rowL, List.mem_cons] at hx
    rcases hx with rfl | hx
    · exact prH_length _ _
    · exact rowL_ok l x hx
theorem getD_ok {l : List (List UInt8)} (h : HsOk l) (i : Nat) : (l.getD i zM).length = 32 := by
  by_cases hi : i < l.length
  · rw [List.getD_eq_getElem?_getD, List.getElem?_eq_getElem hi]
    exact h _ (List.getElem_mem _)
  · rw [List.getD_eq_getElem?_getD, List.getElem?_eq_none (by omega)]
    exact zM_length
theorem getD_any {l : List (List UInt8)} {i : Nat} (hi : i < l.length) : l.getD i [] = l.getD i zM := by
  rw [List.getD_eq_getElem?_getD, List.getD_eq_getElem?_getD, List.getElem?_eq_getElem hi]
  rfl
theorem rootL_len : ∀ (n : Nat) (l : List (List UInt8)), l.length = n → HsOk l → (rootL prH zM l).length = 32 := by
  intro n
  induction n using Nat.strongRecOn with
  | ind n ih =>
    intro l hl ho
    by_cases h : n ≤ 1
    · rw [rootL_one prH zM (by omega)]
      exact getD_ok ho 0
    · rw [rootL_more prH zM (by omega)]
      exact ih ((n + 1) / 2) (by omega) _ (by rw [rowL_length, hl]) (rowL_ok l)
theorem pathL_ok : ∀ (n : Nat) (l : List (List UInt8)) (i : Nat), l.length = n → HsOk l → HsOk (pathL prH zM i l) := by
  intro n
  induction n using Nat.strongRecOn with
  | ind n ih =>
    intro l i hl ho
    by_cases h : n ≤ 1
    · rw [pathL_one prH zM i (by omega)]
      exact fun x hx => by simp at hx
    · rw [pathL_more prH zM i (by omega)]
      intro x hx
      rcases List.mem_cons.1 hx with rfl | hx
      · exact getD_ok ho _
      · exact ih ((n + 1) / 2) (by omega) _ _ (by rw [rowL_length, hl]) (rowL_ok l) x hx
theorem climbL_len : ∀ (p : List (List UInt8)) (leaf : List UInt8) (i : Nat), leaf.length = 32 → (climbL prH leaf i p).length = 32
  | [], leaf, i, h => h
  | a :: p, leaf, i, h => by
    rw [climbL]
    exact climbL_len p _ _ (by split <;> exact prH_length _ _)
theorem HsAt.shape {w : World} {v : Value} {l : List (List UInt8)} (h : HsAt w v l) : ∃ sp cap, v = .slice sp l.length cap := by
  obtain ⟨_, sp, cap, h1, _, _⟩ := h
  exact ⟨sp, cap, h1⟩
theorem HsAt.off {w w' : World} {v : Value} {l : List (List UInt8)} {q : Option Nat} (h : HsAt w v l) (ho : Off v q) (hg : w.grownBy w' q) : HsAt w' v l := by
  obtain ⟨h0, sp, cap, rfl, h2, h3⟩ := h
  refine ⟨h0, sp, cap, rfl, h2, fun h0 => ?_⟩
  obtain ⟨b, o, rfl, h5⟩ := h3 h0
  refine ⟨b, o, rfl, fun i x hx j u hj => ?_⟩
  have h6 := h5 i x hx j u hj
  have hlt := World.block_lt_of_cell? w _ h6
  simp only at hlt
  rw [World.cell?_of_block (hg.block b hlt (fun e => ho _ _ _ rfl h0 e.symm))]
  exact h6
theorem HsAt.fresh {w : World} {v : Value} {l : List (List UInt8)} {k : Nat} (h : HsAt w v l) (hk : w.heap.size ≤ k) : Off v (some k) := fun sp n cap hv hn e => by
  obtain ⟨h0, sp', cap', h1, h2, h3⟩ := h
  rw [h1] at hv
  cases hv
  obtain ⟨b, o, hs, h5⟩ := h3 hn
  obtain ⟨x, hx⟩ : ∃ x, l[0]? = some x := ⟨_, List.getElem?_eq_getElem hn⟩
  have hx32 := h0 x (List.mem_of_getElem? hx)
  obtain ⟨u, hu⟩ : ∃ u, (x.map bV)[0]? = some u := ⟨_, List.getElem?_eq_getElem (by rw [List.length_map]; omega)⟩
  have hlt := World.block_lt_of_cell? w _ (h5 0 x hx 0 u hu)
  simp only at hlt
  have e1 := Option.some.inj e
  rw [Option.some.inj hs] at e1
  simp only at e1
  omega
end Go.Proofs.YtaeebcedobkopaaDoor.Sha

/-
  What a loop over a row of digests keeps; a load that may come first. No conditions.
-/
namespace Go.Proofs.YtaeebcedobkopaaDoor.Sha
open Go Go.RowKit
/-- A part of a block may be read first. -/
theorem yieldsIf_load_mid {P : Program} {ops : Array Oper} {S : World → Prop} {op : Oper} {a : Act} (hw : Region.wanted op (yielded ops a.tmps) = true) (ty : TypeId) (x : Operand) (ho : op.op = .load ty x)
    (b off : Nat) (hx : a.eval x = .pointer (some ⟨b, off, none⟩)) (cs : List Value) (d : TypeDesc) (hS : ∀ w, S w → w.rangeAt b off cs)
    (hu : P.underlying ty = some d) (hd : d.isRow = true) (hi : (P.info? ty).map (·.size) = some cs.length) : YieldsIf P ops S op (.agg cs.toArray) a :=
  .inl ⟨hw, fun w hw' => by
    unfold execOp
    simp only [ho, hx, Instr.loadAt, Instr.sureAddr, Sem.run_bind, Sem.run_pure, Result.andThen_ok, run_loadVar_mid w b off ty cs d (hS w hw') hu hd hi]⟩
def RaInv (l : List (List UInt8)) (n : Nat) (w : World) (vs vi : Value) (wr : World) : Prop :=
  ∃ (k j : Nat) (vb : Value), vb = vs ∧ j ≤ n + 1 ∧ j = 2 * k ∧ vi = .int .i64 j ∧ HsOwn w.heap.size wr vb ((rowL prH l).take k) ∧ Below w.heap.size w wr
end Go.Proofs.YtaeebcedobkopaaDoor.Sha

/-
  The row above a row of digests: package merkle's, and the statements' own. New memory; nothing that was there turns. Conditions: the digests lie where the slice says; for package merkle's the table is there.
-/
namespace Go.Proofs.YtaeebcedobkopaaDoor.Sha
open Go Go.RowKit
set_option maxHeartbeats 4000000 in
set_option maxRecDepth 100000 in
theorem row_above (l : List (List UInt8)) (sp : Option Addr) (n cap : Nat) (w : World) (hk : KTab w) (hl : HsAt w (.slice sp n cap) l) (hn : n ≤ 1048576) :
    Calls Tryd.prog 20 #[.slice sp n cap] w fun e w' => ∃ v, e = .returned v ∧ HsOwn w.heap.size w' v (rowL prH l) ∧ Below w.heap.size w w' := by
  obtain ⟨i0, hi, hz0, hz1, hz2⟩ := info_parts info_hash
  have hln := hl.len
  have hok := hl.1
  have HOK := Lib.hid hok
  have HLN := Lib.hid hln.1
  have HL := Lib.hid hl
  have LROW := Lib.hid (rowL_length prH l)
  obtain ⟨m, hm⟩ : ∃ m, m = (n + 1) / 2 := ⟨_, rfl⟩
  have hmb : m ≤ 1048576 := by omega
  have hm2 : 2 * m = n ∨ 2 * m = n + 1 := by omega
  have HK := Lib.hid hk
  have HMM := Lib.hid hm
  clear hl hln hok hm hk
  go_enter Tryd.func20, Tryd.ntmps20
  go_wp2_with (first | (go_at_call 25; refine (half_any n (by omega) _).mono ?_; rintro e w' ⟨rfl, rfl⟩; rw [← HMM.out]) | (at_make; refine wpList_make_own _ rfl _ _ 22 rfl w.heap.size 24 i0 (.agg (List.replicate 32 (bV 0)).toArray) 32 Tryd.underlying22 hi hz0 hz1 _ _ _ m rfl rfl rfl (by rw [hz2]; omega) (by unfold maxLen; omega) (Nat.le_refl _) ?_; intro w2 hown hgrow; have HO0 := Lib.hid hown; have HG0 := Lib.hid hgrow; clear hown hgrow; go_frame))
  have HB0 := Lib.hid ((Below.refl _ _).grown HG0.out (Nat.le_refl _) (fun k hk => by cases hk))
  have HST : Hid (HsOwn w.heap.size w2 (.slice (some ⟨w.heap.size, 0, none⟩) 0 m) ((rowL prH l).take 0)) := ⟨HO0.out, fun x hx => by simp at hx⟩
  clear HO0 HG0
  go_loopw [3, 4] (fun vs vi wr => RaInv l n w vs vi wr) (fun _ vi _ => n + 1 - (intOf vi).toNat)
  case atStart => exact ⟨0, 0, _, rfl, by omega, by omega, rfl, HST.out, HB0.out⟩
  case round =>
    clear HST HB0
    obtain ⟨k, j, vb, rfl, hj1, hj, rfl, ho, hb⟩ := hrel
    have HO := Lib.hid ho
    have HB := Lib.hid hb
    have HJ := Lib.hid hj
    clear ho hb
    by_cases hlt : j < n
    · obtain ⟨b, o, rfl, hbw, hg⟩ := HL.out.get (by omega)
      obtain ⟨p, hp⟩ : ∃ p, p = otherN j n := ⟨_, rfl⟩
      have hpn : p < n := by rw [hp]; exact otherN_lt hlt
      obtain ⟨x, hx⟩ : ∃ x, x = l.getD j [] := ⟨_, rfl⟩
      obtain ⟨y, hy⟩ : ∃ y, y = l.getD p [] := ⟨_, rfl⟩
      have HX := Lib.hid (hg j hlt)
      have HY := Lib.hid (hg p hpn)
      rw [← hx] at HX
      rw [← hy] at HY
      have lx : x.length = 32 := by rw [hx]; exact HOK.out.get (by have := HLN.out; omega)
      have ly : y.length = 32 := by rw [hy]; exact HOK.out.get (by have := HLN.out; omega)
      have LX' := Lib.hid lx
      have LY' := Lib.hid ly
      have LX := Lib.hid (show x.length = 32 from lx)
      have LY := Lib.hid (show y.length = 32 from ly)
      have LP : Hid (((prH x y).map bV).length = 32) := by show _ = _; rw [List.length_map, prH_length]
      have lk : ((rowL prH l).take k).length ≤ 1048576 := by rw [List.length_take]; omega
      have LK := Lib.hid lk
      have ht : (rowL prH l).take (k + 1) = (rowL prH l).take k ++ [prH x y] := by
        have hkl : k < (rowL prH l).length := by rw [LROW.out]; have := HLN.out; omega
        have e := rowL_get prH [] l k (by have := HLN.out; omega)
        rw [List.getD_eq_getElem?_getD, List.getElem?_eq_getElem hkl] at e
        simp only [Option.getD_some] at e
        have e2 : otherN j n = if j + 1 < l.length then j + 1 else j := by
          unfold otherN
          rw [if_neg (show ¬ j % 2 = 1 by omega), ← HLN.out]
        rw [List.take_succ_eq_append_getElem hkl, e, hx, hy, hp, ← hj, e2]
      have HT := Lib.hid ht
      have HP := Lib.hid hp
      have p0 : 0 ≤ (j : Int) := by omega
      have q0 : (j : Int) < (n : Int) := by omega
      have p1 : 0 ≤ (p : Int) := by omega
      have q1 : (p : Int) < (n : Int) := by omega
      have wj : IntKind.i64.wrap ((j : Int) + 2) = (j : Int) + 2 := IntWalk.i64_in _ (by omega)
      clear hg hx hy hp hj lx ly ht lk
      go_wp2_with fail
      refine wp_region_held_drew (S := (fun w' => Below w.heap.size w w')) (by kernel_rfl) (Below.drew HB.out) (fun hHeld => ?_)
      have HO3 := Lib.hid (HO.out.keep (Below.drew (Below.refl wr.heap.size wr)))
      clear HO HB
      refine held_take (i := 0) (v := vb) rfl (by kernel_rfl) (by kernel_rfl) (by kernel_rfl) (fun _ _ _ h => h) (Or.inl ⟨by rfl, fun w' _ => by kernel_rfl⟩) hHeld ?_
      go_frame
      refine held_take (i := 1) (v := (.slice (some ⟨b, o, none⟩) n cap)) rfl (by kernel_rfl) (by kernel_rfl) (by kernel_rfl) (fun _ _ _ h => h) (Or.inl ⟨by rfl, fun w' _ => by kernel_rfl⟩) hHeld ?_
      go_frame
      refine held_take (i := 2) (v := (.int .i64 (j : Int))) rfl (by kernel_rfl) (by kernel_rfl) (by kernel_rfl) (fun _ _ _ h => h) (Or.inl ⟨by rfl, fun w' _ => by kernel_rfl⟩) hHeld ?_
      go_frame
      refine held_take (i := 3) (v := (.pointer (some ⟨b, o + j * 32, none⟩))) rfl (by kernel_rfl) (by kernel_rfl) (by kernel_rfl) (fun _ _ _ h => h) (Or.inl ⟨by rfl, fun w' _ => by go_simp⟩) hHeld ?_
      go_frame
      refine held_take (i := 4) (v := (.agg (x.map bV).toArray)) rfl (by kernel_rfl) (by kernel_rfl) (by kernel_rfl) (fun _ _ _ h => h) (yieldsIf_load_mid (by rfl) 24 (.tmp 18) rfl b (o + j * 32) rfl (x.map bV) _ (fun w' hw' => range_below HX.out hw') Tryd.underlying24 rfl (by rw [List.length_map, LX.out]; kernel_rfl)) hHeld ?_
      go_frame
      refine held_take (i := 5) (v := (.slice (some ⟨b, o, none⟩) n cap)) rfl (by kernel_rfl) (by kernel_rfl) (by kernel_rfl) (fun _ _ _ h => h) (Or.inl ⟨by rfl, fun w' _ => by kernel_rfl⟩) hHeld ?_
      go_frame
      refine held_take (i := 6) (v := (.int .i64 (j : Int))) rfl (by kernel_rfl) (by kernel_rfl) (by kernel_rfl) (fun _ _ _ h => h) (Or.inl ⟨by rfl, fun w' _ => by kernel_rfl⟩) hHeld ?_
      go_frame
      refine held_take (i := 7) (v := (.slice (some ⟨b, o, none⟩) n cap)) rfl (by kernel_rfl) (by kernel_rfl) (by kernel_rfl) (fun _ _ _ h => h) (Or.inl ⟨by rfl, fun w' _ => by kernel_rfl⟩) hHeld ?_
      go_frame
      refine held_take (i := 8) (v := (.int .i64 (n : Int))) rfl (by kernel_rfl) (by kernel_rfl) (by kernel_rfl) (fun _ _ _ h => h) (Or.inl ⟨by rfl, fun w' _ => by kernel_rfl⟩) hHeld ?_
      go_frame
      refine wpAnyH_ready (rs := [9]) (by kernel_rfl) (by simp) (held_cons rfl (fun K hK => ?_) AllReadyH.nil)
      go_simp
      refine (partner_any j n (by omega) (by omega) _).mono ?_
      rintro e w4 ⟨rfl, rfl⟩
      rw [← HP.out]
      go_wp2_with fail
      refine hK.out _ _ hHeld (fun hHeld => ?_)
      clear hK K
      refine held_take (i := 10) (v := (.pointer (some ⟨b, o + p * 32, none⟩))) rfl (by kernel_rfl) (by kernel_rfl) (by kernel_rfl) (fun _ _ _ h => h) (Or.inl ⟨by rfl, fun w' _ => by go_simp⟩) hHeld ?_
      go_frame
      refine held_take (i := 11) (v := (.agg (y.map bV).toArray)) rfl (by kernel_rfl) (by kernel_rfl) (by kernel_rfl) (fun _ _ _ h => h) (yieldsIf_load_mid (by rfl) 24 (.tmp 25) rfl b (o + p * 32) rfl (y.map bV) _ (fun w' hw' => range_below HY.out hw') Tryd.underlying24 rfl (by rw [List.length_map, LY.out]; kernel_rfl)) hHeld ?_
      go_frame
      refine wpAnyH_ready (rs := [12]) (by kernel_rfl) (by simp) (held_cons rfl (fun K hK => ?_) AllReadyH.nil)
      go_simp
      refine (join_any x y LX'.out LY'.out _ (HK.out.below hHeld)).mono ?_
      rintro e w4 ⟨rfl, bb⟩
      have HO4 := Lib.hid (HO3.out.keep bb)
      have hw4 := hHeld.trans (bb.mono hHeld.size)
      clear bb hHeld
      go_wp2_with fail
      refine hK.out _ _ hw4 (fun hHeld => ?_)
      clear hK K hw4
      refine wpAnyH_ready (rs := [13]) (by kernel_rfl) (by simp) (held_cons rfl (fun K hK => ?_) AllReadyH.nil)
      rw [if_pos (by rfl)]
      refine wp_slice_one 22 24 (.tmp 27) rfl ((prH x y).map bV) rfl Tryd.underlying22 i0 _ hi hz0 (by rw [hz1, LP.out]) (by rw [LP.out]; omega) (by rw [LP.out]; omega) ?_
      have nf := heap_alloc_new w4 (.cells ((prH x y).map bV).toArray 24 (0, 0))
      have bb := (Below.refl w4.heap.size w4).alloc (Nat.le_refl _) (.cells ((prH x y).map bV).toArray 24 (0, 0))
      obtain ⟨gn, hgn⟩ : ∃ gn, gn = w4.heap.size := ⟨_, rfl⟩
      generalize hw5 : World.alloc _ _ = w5
      have e5 : w4.alloc (.cells ((prH x y).map bV).toArray 24 (0, 0)) = w5 := hw5
      rw [e5] at nf bb
      rw [← hgn] at nf ⊢
      have NF := Lib.hid nf
      have HO5 := Lib.hid (HO4.out.keep bb)
      have hb5 := hHeld.trans (bb.mono hHeld.size)
      clear nf bb hw5 e5 hgn hHeld
      go_frame
      refine hK.out _ _ hb5 (fun hHeld => ?_)
      clear hK K hb5
      refine wpAnyH_ready (rs := [14]) (by kernel_rfl) (by simp) (held_cons rfl (fun K hK => ?_) AllReadyH.nil)
      rw [if_pos (by rfl)]
      refine wp_append_row w5 (.tmp 15) (.tmp 28) 22 rfl w.heap.size 24 i0 (.agg (List.replicate 32 (bV 0)).toArray) 32 32 Tryd.underlying22 hi hz0 hz1 hz2 (by kernel_rfl) (by decide) vb _ (hsL ((rowL prH l).take k)) rfl HO5.out.1 ⟨gn, 0, none⟩ 1 1 ((prH x y).map bV) rfl (by rw [LP.out]) (hs_one NF.out) (bV_one' _) (by have := LK.out; unfold maxLen; omega) (by have := LK.out; omega) hHeld.size ?_
      intro v6 w6 q1 q2 _
      have HO6 := Lib.hid (HsOwn.push (base := w.heap.size) HO5.out.2 (prH_length x y) q1)
      have hb6 := own_grown hHeld (Nat.le_refl _) hHeld.size HO5.out.1 q2
      clear q1 q2 hHeld
      go_frame
      refine hK.out _ _ hb6 (fun hHeld => ?_)
      clear hK K hb6
      refine held_take (i := 15) (v := v6) rfl (by kernel_rfl) (by kernel_rfl) (by kernel_rfl) (fun _ _ _ h => h) (Or.inl ⟨by rfl, fun w' _ => by kernel_rfl⟩) hHeld ?_
      go_frame
      refine wpAnyH_done (by kernel_rfl) ?_ _
      have HB6 := Lib.hid hHeld
      clear hHeld
      go_wp2_with fail
      go_roundw
      case rel =>
        refine ⟨k + 1, j + 2, _, rfl, by omega, by have := HJ.out; omega, by go_num, ?_, HB6.out⟩
        rw [HT.out]
        exact HO6.out
      case measure => simp [intOf]; omega
    · have HF : Hid (HsOwn w.heap.size wr vb (rowL prH l)) := by
        have h := HO.out
        rw [List.take_of_length_le (by rw [LROW.out]; have := HLN.out; omega)] at h
        exact h
      have hge : ¬ (j : Int) < (n : Int) := by omega
      clear HO hj
      go_wp2_with fail
      go_ret
      exact ⟨_, rfl, HF.out, HB.out⟩
end Go.Proofs.YtaeebcedobkopaaDoor.Sha

/-
  merkle.Root answers the root. Nothing that was there turns. Conditions: the digests lie where the slice says, the table is there; at most 2^20 of them.
-/
namespace Go.Proofs.YtaeebcedobkopaaDoor.Sha
open Go Go.RowKit
def rootInv (R : List UInt8) (w : World) (vl : Value) (wr : World) : Prop :=
  ∃ l' : List (List UInt8), HsAt wr vl l' ∧ 1 ≤ l'.length ∧ l'.length ≤ 1048576 ∧ rootL prH zM l' = R ∧ Below w.heap.size w wr ∧ wr.heap[w.heap.size]? = some (.cells (List.replicate 32 (bV 0)).toArray 24 (0, 0))
set_option maxHeartbeats 2000000 in
set_option maxRecDepth 100000 in
theorem root_any (l : List (List UInt8)) (sp : Option Addr) (n cap : Nat) (w : World) (hk : KTab w) (hl : HsAt w (.slice sp n cap) l) (hn : n ≤ 1048576) :
    Calls Tryd.prog 14 #[.slice sp n cap] w fun e w' => e = .returned (.agg ((rootL prH zM l).map bV).toArray) ∧ Below w.heap.size w w' := by
  have hlen := rootL_len _ l rfl hl.1
  have hln := hl.len.1
  have h0r : n = 0 → rootL prH zM l = zM := fun h => by
    rw [rootL_one prH zM (by omega), List.getD_eq_getElem?_getD, List.getElem?_eq_none (by omega)]
    rfl
  obtain ⟨R, hR⟩ : ∃ R, R = rootL prH zM l := ⟨_, rfl⟩
  rw [← hR] at hlen h0r ⊢
  have HR := Lib.hid hR
  have HS : Hid ((R.map bV).toArray.size = 32) := by show _ = _; simp [hlen]
  have HLR : Hid ((R.map bV).length = 32) := by show _ = _; simp [hlen]
  have HZ := Lib.hid h0r
  have HL := Lib.hid hl
  have HN := Lib.hid hln
  have HK := Lib.hid hk
  clear hR hlen hl hln h0r hk
  go_enter Tryd.func14, Tryd.ntmps14
  go_upto_region 1 with fail
  have F := Lib.hid (heap_alloc_new w (.cells (List.replicate 32 (bV 0)).toArray 24 (0, 0)))
  have B := Lib.hid ((Below.refl w.heap.size w).alloc (Nat.le_refl _) (.cells (List.replicate 32 (bV 0)).toArray 24 (0, 0)))
  generalize hw1 : World.alloc _ _ = w1
  have e1 : w.alloc (.cells (List.replicate 32 (bV 0)).toArray 24 (0, 0)) = w1 := hw1
  rw [e1] at F B
  clear hw1 e1
  by_cases h0 : n = 0
  · have t0 : ((n : Int) == 0) = true := by rw [beq_iff_eq]; omega
    obtain rfl : R = zM := HZ.out h0
    clear h0
    go_wp2_with ((with_reducible show wpList _ _ _ _ _ _); refine wpList_store_row rfl 24 (.tmp 2) (.tmp 6) rfl w.heap.size (zM.map bV).toArray rfl rfl 24 _ F.out (by rw [HS.out]; kernel_rfl) (by rw [HS.out]; rfl) (bV_one _) ?_; go_frame)
    refine bodyPost_ret (results_cell_row rfl _ _ w.heap.size 24 (zM.map bV).toArray (0, 0) (.array 32 5) rfl (setRow_heap _ _ _ _ _ _ F.out) Tryd.underlying24 rfl (by rw [HS.out]; kernel_rfl)) rfl ⟨rfl, below_setRow B.out (Nat.le_refl _) _⟩
  · have t0 : ((n : Int) == 0) = false := by rw [beq_eq_false_iff_ne]; omega
    have h1 : 1 ≤ n := by omega
    clear h0
    go_wp2_with fail
    go_loopw [0] (fun vl wr => rootInv R w vl wr) (fun vl _ => slLen vl)
    case atStart => exact ⟨l, HL.out.below B.out, by have := HN.out; omega, by have := HN.out; omega, HR.out.symm, B.out, F.out⟩
    case round =>
      clear F B HL HN HR
      obtain ⟨l', hl, hm1, hm2, hr, hb, hf⟩ := hrel
      obtain ⟨sp', cap', rfl⟩ := hl.shape
      obtain ⟨m, hm⟩ : ∃ m, m = l'.length := ⟨_, rfl⟩
      rw [← hm] at hl hm1 hm2 ⊢
      have HL := Lib.hid hl
      have HM := Lib.hid hm
      have HR := Lib.hid hr
      have B := Lib.hid hb
      have F := Lib.hid hf
      clear hl hm hr hb hf
      by_cases h1m : 1 < m
      · have t1 : (m : Int) > 1 := by omega
        go_wp2_with fail
        refine (row_above l' sp' m cap' _ (HK.out.below B.out) HL.out hm2).mono ?_
        rintro e w2 ⟨v2, rfl, ho, hb2⟩
        obtain ⟨sp2, cap2, rfl⟩ := ho.at.shape
        obtain ⟨m2, hm3⟩ : ∃ m2, m2 = (rowL prH l').length := ⟨_, rfl⟩
        have hm4 : m2 = (m + 1) / 2 := by rw [hm3, rowL_length, ← HM.out]
        have HO := Lib.hid ho
        rw [← hm3] at HO ⊢
        have HM3 := Lib.hid hm3
        have B2 := Lib.hid (B.out.trans (hb2.mono B.out.size))
        have F2 := Lib.hid (row_below F.out hb2)
        have hm5 : 1 ≤ m2 := by omega
        have hm6 : m2 < m := by omega
        have HR2 : Hid (rootL prH zM (rowL prH l') = R) := by
          show _ = _
          rw [← rootL_more prH zM (by rw [← HM.out]; exact h1m)]
          exact HR.out
        clear ho hm3 hb2 hm4
        go_wp2_with fail
        go_roundw
        case rel => exact ⟨rowL prH l', HO.out.at, by rw [← HM3.out]; exact hm5, by rw [← HM3.out]; omega, HR2.out, B2.out, F2.out⟩
        case measure => exact hm6
      · have t1 : ¬ (m : Int) > 1 := by omega
        obtain rfl : m = 1 := by omega
        obtain ⟨b, o, rfl, hbw, hg⟩ := HL.out.get (by omega)
        have X : Hid (wr.rangeAt b o (R.map bV)) := by
          have h := hg 0 (by omega)
          rw [Nat.zero_mul, Nat.add_zero, getD_any (by have := HM.out; omega), ← rootL_one prH zM (by have := HM.out; omega), HR.out] at h
          exact h
        clear hg
        go_wp2_with ((with_reducible show wpList _ _ _ _ _ _); first | (refine wpList_load_mid rfl 24 (.tmp 13) rfl b o rfl (R.map bV) _ X.out Tryd.underlying24 rfl (by rw [HLR.out]; kernel_rfl) ?_; go_frame) | (refine wpList_store_row rfl 24 (.tmp 2) (.tmp 14) rfl w.heap.size (R.map bV).toArray rfl rfl 24 _ F.out (by rw [HS.out]; kernel_rfl) (by rw [HS.out]; rfl) (bV_one _) ?_; go_frame))
        refine bodyPost_ret (results_cell_row rfl _ _ w.heap.size 24 (R.map bV).toArray (0, 0) (.array 32 5) rfl (setRow_heap _ _ _ _ _ _ F.out) Tryd.underlying24 rfl (by rw [HS.out]; kernel_rfl)) rfl ⟨rfl, below_setRow B.out (Nat.le_refl _) _⟩
end Go.Proofs.YtaeebcedobkopaaDoor.Sha

/-
  What a loop that makes a way keeps. No conditions.
-/
namespace Go.Proofs.YtaeebcedobkopaaDoor.Sha
open Go Go.RowKit
def pathInv (P : List (List UInt8)) (w : World) (va vl vp : Value) (wr : World) : Prop :=
  ∃ (k : Nat) (l' done : List (List UInt8)) (vb : Value), vb = vp ∧ va = .int .i64 k ∧ HsAt wr vl l' ∧ k < l'.length ∧ l'.length ≤ 1048576 ∧ done ++ pathL prH zM k l' = P ∧ HsOwn w.heap.size wr vb done ∧ Off vl vb.ownBlock ∧ Below w.heap.size w wr
theorem off_new {base : Nat} {w : World} {v u : Value} {l : List (List UInt8)} (h : HsOwn base w v l) (hu : ∀ g, u.ownBlock = some g → g < base) : Off v u.ownBlock := by
  cases hg : u.ownBlock with
  | none => exact Off.none v
  | some g => exact own_off h.1 (hu g hg)
theorem HsOwn.lt {base : Nat} {w : World} {v : Value} {l : List (List UInt8)} (h : HsOwn base w v l) : ∀ g, v.ownBlock = some g → g < w.heap.size := fun g hg => (h.1.lt g hg).2
end Go.Proofs.YtaeebcedobkopaaDoor.Sha

/-
  The statements' own copy of a row of digests: new memory; nothing that was there turns. Conditions: the digests lie where the slice says; at most 2^20 of them.
-/
namespace Go.Proofs.YtaeebcedobkopaaDoor.Sha
open Go Go.RowKit
def hsInv (l : List (List UInt8)) (w : World) (vs vi : Value) (wr : World) : Prop :=
  ∃ (k : Nat) (vb : Value), vb = vs ∧ vi = .int .i64 k ∧ k ≤ l.length ∧ HsOwn w.heap.size wr vb (l.take k) ∧ Below w.heap.size w wr
set_option maxHeartbeats 2000000 in
set_option maxRecDepth 100000 in
theorem hashes_any (l : List (List UInt8)) (sp : Option Addr) (n cap : Nat) (w : World) (hl : HsAt w (.slice sp n cap) l) (hn : n ≤ 1048576) :
    Calls Tryd.prog 18 #[.slice sp n cap] w fun e w' => ∃ v, e = .returned v ∧ HsOwn w.heap.size w' v l ∧ Below w.heap.size w w' := by
  obtain ⟨i0, hi, hz0, hz1, hz2⟩ := info_parts info_hash
  have HN := Lib.hid hl.len.1
  have HOK := Lib.hid hl.1
  have HL := Lib.hid hl
  clear hl
  go_enter Tryd.func18, Tryd.ntmps18
  go_wp2_with (at_make; refine wpList_make_own _ rfl _ _ 22 rfl w.heap.size 24 i0 (.agg (List.replicate 32 (bV 0)).toArray) 32 Tryd.underlying22 hi hz0 hz1 _ _ _ n rfl rfl rfl (by rw [hz2]; omega) (by unfold maxLen; omega) (Nat.le_refl _) ?_; intro w2 hown hgrow; have HO0 := Lib.hid hown; have HG0 := Lib.hid hgrow; clear hown hgrow; go_frame)
  have HB0 := Lib.hid ((Below.refl _ _).grown HG0.out (Nat.le_refl _) (fun k hk => by cases hk))
  have HST : Hid (HsOwn w.heap.size w2 (.slice (some ⟨w.heap.size, 0, none⟩) 0 n) (l.take 0)) := ⟨HO0.out, fun x hx => by simp at hx⟩
  clear HO0 HG0
  go_loopw [3, 4] (fun vs vi wr => hsInv l w vs vi wr) (fun _ vi _ => n - (intOf vi).toNat)
  case atStart => exact ⟨0, _, rfl, rfl, Nat.zero_le _, HST.out, HB0.out⟩
  case round =>
    clear HST HB0
    obtain ⟨k, vb, rfl, rfl, hk, ho, hb⟩ := hrel
    have HO := Lib.hid ho
    have B := Lib.hid hb
    clear ho hb
    by_cases hlt : k < n
    · obtain ⟨b, o, rfl, hbw, hg⟩ := (HL.out.below B.out).get (by omega)
      obtain ⟨x, hx⟩ : ∃ x, x = l.getD k [] := ⟨_, rfl⟩
      have HX := Lib.hid (hg k hlt)
      rw [← hx] at HX
      have lx : x.length = 32 := by rw [hx]; exact HOK.out.get (by have := HN.out; omega)
      have LXL := Lib.hid lx
      have LX : Hid ((x.map bV).length = 32) := by show _ = _; rw [List.length_map, lx]
      have ht : l.take (k + 1) = l.take k ++ [x] := by
        rw [List.take_succ_eq_append_getElem (by have := HN.out; omega), hx, List.getD_eq_getElem?_getD, List.getElem?_eq_getElem (by have := HN.out; omega)]
        rfl
      have HT := Lib.hid ht
      have HTL : Hid ((l.take k).length ≤ 1048576) := by show _ ≤ _; rw [List.length_take]; omega
      have p0 : 0 ≤ (k : Int) := by omega
      have q0 : (k : Int) < (n : Int) := by omega
      clear hg hx lx ht
      go_wp2_with (first | ((with_reducible show wpList _ _ _ _ _ _); first | (refine wpList_load_mid rfl 24 (.tmp 17) rfl b (o + k * 32) rfl (x.map bV) _ HX.out Tryd.underlying24 rfl (by rw [LX.out]; kernel_rfl) ?_; go_frame) | (refine wpList_slice_one rfl 22 24 (.tmp 18) rfl (x.map bV) rfl Tryd.underlying22 i0 _ hi hz0 (by rw [hz1, LX.out]) (by rw [LX.out]; omega) (by rw [LX.out]; omega) ?_; have nf := heap_alloc_new wr (.cells (x.map bV).toArray 24 (0, 0)); have bb := (Below.refl wr.heap.size wr).alloc (Nat.le_refl _) (.cells (x.map bV).toArray 24 (0, 0)); obtain ⟨gn, hgn⟩ : ∃ gn, gn = wr.heap.size := ⟨_, rfl⟩; generalize hw2 : World.alloc _ _ = w2; have e2 : wr.alloc (.cells (x.map bV).toArray 24 (0, 0)) = w2 := hw2; rw [e2] at nf bb; rw [← hgn] at nf ⊢; have NF := Lib.hid nf; have HO2 := Lib.hid (HO.out.keep bb); have B2 := Lib.hid (B.out.trans (bb.mono B.out.size)); clear nf bb hw2 e2 hgn; go_frame)) | (at_builtin; refine wpList_append_own_at _ rfl _ _ 22 rfl w.heap.size 24 i0 (.agg (List.replicate 32 (bV 0)).toArray) 32 32 Tryd.underlying22 hi hz0 hz1 hz2 (by kernel_rfl) (by decide) vb _ (hsL (l.take k)) rfl HO2.out.1 ⟨gn, 0, none⟩ 1 1 (x.map bV) rfl (by rw [LX.out]) (hs_one NF.out) (bV_one' _) (by have := HTL.out; unfold maxLen; omega) (by have := HTL.out; omega) B2.out.size ?_; intro v3 w3 q1 q2 _ q4; have HO3 := Lib.hid (HsOwn.push (base := w.heap.size) HO2.out.2 LXL.out q1); have B3 := Lib.hid (own_grown B2.out (Nat.le_refl _) B2.out.size HO2.out.1 q2); clear q1 q2 q4; go_frame))
      go_roundw
      case rel => exact ⟨k + 1, _, rfl, by go_num, by have := HN.out; omega, by rw [HT.out]; exact HO3.out, B3.out⟩
      case measure => simp [intOf]; omega
    · have HF : Hid (HsOwn w.heap.size wr vb l) := by
        have h := HO.out
        rw [List.take_of_length_le (by have := HN.out; omega)] at h
        exact h
      have hge : ¬ (k : Int) < (n : Int) := by omega
      clear HO
      go_wp2_with fail
      go_ret
      exact ⟨_, rfl, HF.out, B.out⟩
end Go.Proofs.YtaeebcedobkopaaDoor.Sha

/-
  The calls on rows of digests, for any value that reads so. Nothing that was there turns. Conditions: as told; for package merkle's the table is there.
-/
namespace Go.Proofs.YtaeebcedobkopaaDoor.Sha
open Go Go.RowKit
theorem root_v (l : List (List UInt8)) (R : List UInt8) (v : Value) (w : World) (hk : KTab w) (h : HsAt w v l) (hn : l.length ≤ 1048576) (hR : rootL prH zM l = R) :
    Calls Tryd.prog 14 #[v] w fun e w' => e = .returned (.agg (R.map bV).toArray) ∧ Below w.heap.size w w' := by
  obtain ⟨sp, cap, rfl⟩ := h.shape
  subst hR
  exact root_any l sp _ cap w hk h hn
theorem hashes_v (l : List (List UInt8)) (v : Value) (w : World) (h : HsAt w v l) (hn : l.length ≤ 1048576) :
    Calls Tryd.prog 18 #[v] w fun e w' => ∃ v, e = .returned v ∧ HsOwn w.heap.size w' v l ∧ Below w.heap.size w w' := by
  obtain ⟨sp, cap, rfl⟩ := h.shape
  exact hashes_any l sp _ cap w h hn
theorem same_v (x y : List UInt8) (r : Bool) (hx : x.length = 32) (hy : y.length = 32) (hr : r = decide (x = y)) (w : World) :
    Calls Tryd.prog 13 #[.agg (x.map bV).toArray, .agg (y.map bV).toArray] w fun e w' => e = .returned (.bool r) ∧ Below w.heap.size w w' := by
  rw [hr]
  exact same_any x y hx hy w
theorem HsOwn.base {b b' : Nat} {w : World} {v : Value} {l : List (List UInt8)} (h : HsOwn b w v l) (hb : b' ≤ b) : HsOwn b' w v l := ⟨own_base h.1 hb, h.2⟩
/-- A whole box of digests. -/
theorem hs_box {w : World} {g : Nat} {l : List (List UInt8)} (h : w.heap[g]? = some (.cells (hsL l).toArray 24 (0, 0))) (ho : HsOk l) (hn : l.length ≤ 1048576) : HsAt w (.slice (some ⟨g, 0, none⟩) l.length l.length) l :=
  HsOwn.at (base := 0) ⟨own_of_row h (Nat.zero_le _) (hsL_length l ho) (by unfold maxLen; omega), ho⟩
theorem hs_box1 {w : World} {g : Nat} {x : List UInt8} (h : w.heap[g]? = some (.cells (x.map bV).toArray 24 (0, 0))) (hx : x.length = 32) : HsAt w (.slice (some ⟨g, 0, none⟩) 1 1) [x] :=
  hs_box (l := [x]) (by rw [show hsL [x] = x.map bV by simp [hsL]]; exact h) (fun y hy => by rw [List.mem_singleton.1 hy]; exact hx) (by simp)
theorem hs_box2 {w : World} {g : Nat} {x y : List UInt8} (h : w.heap[g]? = some (.cells (x.map bV ++ y.map bV).toArray 24 (0, 0))) (hx : x.length = 32) (hy : y.length = 32) : HsAt w (.slice (some ⟨g, 0, none⟩) 2 2) [x, y] :=
  hs_box (l := [x, y]) (by rw [show hsL [x, y] = x.map bV ++ y.map bV by simp [hsL]]; exact h) (fun z hz => by
    simp only [List.mem_cons, List.not_mem_nil, or_false] at hz
    rcases hz with rfl | rfl
    · exact hx
    · exact hy) (by simp)
def h1M : List UInt8 := 1 :: List.replicate 31 0
theorem h1M_length : h1M.length = 32 := by simp [h1M]
end Go.Proofs.YtaeebcedobkopaaDoor.Sha

/-
  The chapter's example: the root of one digest is it. Nothing that was there turns. Condition: the table is there.
-/
namespace Go.Proofs.YtaeebcedobkopaaDoor.Sha
open Go Go.RowKit
set_option maxHeartbeats 1000000 in
set_option maxRecDepth 100000 in
theorem first6 (w : World) (hk : KTab w) : Calls Tryd.prog 8 #[] w fun e w' => e = .returned (.bool true) ∧ Below w.heap.size w w' := by
  obtain ⟨i0, hi, hz0, hz1, hz2⟩ := info_parts info_hash
  have HK := Lib.hid hk
  have LM : Hid ((h1M.map bV).length = 32) := rfl
  have LS : Hid ((h1M.map bV).toArray.size = 32) := rfl
  clear hk
  go_enter Tryd.func8, Tryd.ntmps8
  go_upto_region 2 with ((with_reducible show wpList _ _ _ _ _ _); first | (refine wpList_buildTo rfl 24 _ rfl _ rfl (h1M.map bV).toArray (by kernel_rfl) ?_; go_frame) | (refine wpList_store_row rfl 24 (.tmp 1) (.tmp 2) rfl w.heap.size (h1M.map bV).toArray rfl rfl 24 _ (heap_alloc_new w _) (by rw [LS.out]; kernel_rfl) (by rw [LS.out]; rfl) (bV_one _) ?_; go_frame))
  obtain ⟨fb1, ff, _, _⟩ := fill_setup (Below.refl w.heap.size w) (List.replicate 32 (bV 0)).toArray (h1M.map bV).toArray 24
  obtain ⟨g, hg⟩ : ∃ g, g = w.heap.size := ⟨_, rfl⟩
  generalize hw2 : World.setRow _ _ _ = w2
  have e2 : (w.alloc (.cells (List.replicate 32 (bV 0)).toArray 24)).setRow w.heap.size (h1M.map bV).toArray = w2 := hw2
  rw [e2] at ff fb1
  rw [← hg] at ff ⊢
  have F := Lib.hid ff
  have B := Lib.hid fb1
  have HK2 := Lib.hid (HK.out.below fb1)
  clear fb1 ff hw2 e2 hg HK
  refine wp_region_held_drew (S := (fun w' => Below w2.heap.size w2 w')) (by kernel_rfl) (Below.drew (Below.refl _ _)) (fun hHeld => ?_)
  generalize hwd : w2.drew = wd at hHeld ⊢
  clear hwd
  refine held_take (i := 0) (v := (.agg (h1M.map bV).toArray)) rfl (by kernel_rfl) (by kernel_rfl) (by kernel_rfl) (fun _ _ _ h => h) (yieldsIf_load_row (by rfl) 24 (.tmp 1) rfl g rfl 24 (h1M.map bV).toArray (0, 0) _ (fun w' hw' => row_below F.out hw') Tryd.underlying24 rfl (by rw [LS.out]; kernel_rfl)) hHeld ?_
  go_frame
  refine held_take (i := 3) (v := (.agg (h1M.map bV).toArray)) rfl (by kernel_rfl) (by kernel_rfl) (by kernel_rfl) (fun _ _ _ h => h) (yieldsIf_load_row (by rfl) 24 (.tmp 1) rfl g rfl 24 (h1M.map bV).toArray (0, 0) _ (fun w' hw' => row_below F.out hw') Tryd.underlying24 rfl (by rw [LS.out]; kernel_rfl)) hHeld ?_
  go_frame
  refine wpAnyH_ready (rs := [1]) (by kernel_rfl) (by simp) (held_cons rfl (fun K hK => ?_) AllReadyH.nil)
  rw [if_pos (by rfl)]
  refine wp_slice_one 22 24 (.tmp 3) rfl (h1M.map bV) rfl Tryd.underlying22 i0 _ hi hz0 (by rw [hz1, LM.out]) (by rw [LM.out]; omega) (by rw [LM.out]; omega) ?_
  have nf := heap_alloc_new wd (.cells (h1M.map bV).toArray 24 (0, 0))
  have bb := (Below.refl wd.heap.size wd).alloc (Nat.le_refl _) (.cells (h1M.map bV).toArray 24 (0, 0))
  obtain ⟨gv1, hgv1⟩ : ∃ g, g = wd.heap.size := ⟨_, rfl⟩
  generalize hqv1 : World.alloc _ _ = v1
  have ev1 : wd.alloc (.cells (h1M.map bV).toArray 24 (0, 0)) = v1 := hqv1
  rw [ev1] at nf bb
  rw [← hgv1] at nf ⊢
  have NF := Lib.hid nf
  have hv1 := hHeld.trans (bb.mono hHeld.size)
  clear nf bb hqv1 ev1 hgv1 hHeld
  go_frame
  refine hK.out _ _ hv1 (fun hHeld => ?_)
  clear hK K hv1
  refine wpAnyH_ready (rs := [2]) (by kernel_rfl) (by simp) (held_cons rfl (fun K hK => ?_) AllReadyH.nil)
  go_simp
  refine (root_v [h1M] h1M _ _ (HK2.out.below hHeld) (hs_box1 NF.out h1M_length) (by simp) (by rw [rootL_one _ _ (by simp)]; rfl)).mono ?_
  rintro e v2 ⟨rfl, bb⟩
  have NF := Lib.hid (row_below NF.out bb)
  have hv2 := hHeld.trans (bb.mono hHeld.size)
  clear bb hHeld
  go_wp2_with fail
  refine hK.out _ _ hv2 (fun hHeld => ?_)
  clear hK K hv2
  refine wpAnyH_ready (rs := [4]) (by kernel_rfl) (by simp) (held_cons rfl (fun K hK => ?_) AllReadyH.nil)
  go_simp
  refine (same_v h1M h1M true h1M_length h1M_length (by simp) _).mono ?_
  rintro e v3 ⟨rfl, bb⟩
  have NF := Lib.hid (row_below NF.out bb)
  have hv3 := hHeld.trans (bb.mono hHeld.size)
  clear bb hHeld
  go_wp2_with fail
  refine hK.out _ _ hv3 (fun hHeld => ?_)
  clear hK K hv3
  refine held_take (i := 5) (v := (.bool true)) rfl (by kernel_rfl) (by kernel_rfl) (by kernel_rfl) (fun _ _ _ h => h) (Or.inl ⟨by rfl, fun w' _ => by kernel_rfl⟩) hHeld ?_
  go_frame
  refine wpAnyH_done (by kernel_rfl) ?_ _
  have B9 := Lib.hid (B.out.trans (hHeld.mono B.out.size))
  clear hHeld
  go_wp2_with fail
  go_ret
  exact ⟨rfl, B9.out⟩
end Go.Proofs.YtaeebcedobkopaaDoor.Sha
