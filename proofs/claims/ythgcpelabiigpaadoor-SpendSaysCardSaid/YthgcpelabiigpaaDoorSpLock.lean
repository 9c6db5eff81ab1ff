/-
  spend.Lock answers a key's digest; spend.Opens tells whether a key of at most 80 bytes has that lock. Nothing that was there turns. Conditions: the bytes lie where the slice says, the table is there, fewer than 2^59 bytes.
-/
import Derived.Test.YthgcpelabiigpaaDoorPt
import Derived.Test.YthgcpelabiigpaaDoorShaSha
namespace Go.Proofs.YthgcpelabiigpaaDoor.Sha
open Go Go.RowKit

set_option maxRecDepth 100000 in
theorem lock_any (bs : List UInt8) (v : Value) (w : World) (hk : KTab w) (hsrc : SrcB w v bs) (hlen : bs.length ≤ 576460752303423487) :
    Calls Tryd.prog 10 #[v] w fun e w' => e = .returned (.agg ((sha bs).map bV).toArray) ∧ Below w.heap.size w w' := by
  have hl : ((sha bs).map bV).toArray.size = 32 := by simp [sha_length]
  have HL := Lib.hid hl
  have HK := Lib.hid hk
  have HS := Lib.hid hsrc
  clear hk hsrc hl
  go_enter Tryd.func10, Tryd.ntmps10
  go_wp2_with fail
  have b1 : Below w.heap.size w (w.alloc (.cells (List.replicate 32 (bV 0)).toArray 24)) := (Below.refl _ _).alloc (Nat.le_refl _) _
  have f1 : (w.alloc (.cells (List.replicate 32 (bV 0)).toArray 24)).heap[w.heap.size]? = some (.cells (List.replicate 32 (bV 0)).toArray 24 (0, 0)) := heap_alloc_new _ _
  have z1 : w.heap.size < (w.alloc (.cells (List.replicate 32 (bV 0)).toArray 24)).heap.size := by simp
  generalize hw1 : World.alloc _ _ = w1
  have e1 : w.alloc (.cells (List.replicate 32 (bV 0)).toArray 24) = w1 := hw1
  rw [e1] at b1 f1 z1
  clear hw1 e1
  refine (sha_any bs v w1 (HK.out.below b1) (HS.out.below b1) hlen).mono ?_
  rintro e w2 ⟨rfl, hb2⟩
  have f2 : w2.heap[w.heap.size]? = some (.cells (List.replicate 32 (bV 0)).toArray 24 (0, 0)) := row_below f1 hb2
  have F2 := Lib.hid f2
  have B2 := Lib.hid (b1.trans (hb2.mono b1.size))
  clear f2 hb2 f1 b1 z1
  go_wp2_with ((with_reducible show wpList _ _ _ _ _ _); refine wpList_store_row rfl 24 (.tmp 2) (.tmp 4) rfl w.heap.size ((sha bs).map bV).toArray rfl rfl 24 _ F2.out (by rw [HL.out]; kernel_rfl) (by rw [HL.out]; rfl) (bV_one _) ?_; go_frame)
  refine bodyPost_ret (results_cell_row rfl _ _ w.heap.size 24 ((sha bs).map bV).toArray (0, 0) (.array 32 5) rfl (setRow_heap _ _ _ _ _ _ F2.out) Tryd.underlying24 rfl (by rw [HL.out]; kernel_rfl)) rfl ⟨rfl, below_setRow B2.out (Nat.le_refl _) _⟩
theorem SrcB.shape {w : World} {v : Value} {bs : List UInt8} (h : SrcB w v bs) : ∃ sp cap, v = .slice sp bs.length cap := by
  rcases h with ⟨sp, cap, rfl, rfl⟩ | ⟨_, bb, off, cap, rfl, _, _⟩
  · exact ⟨sp, cap, rfl⟩
  · exact ⟨_, cap, rfl⟩
/-- Opens. -/
def opensL (bs l : List UInt8) : Bool := decide (bs.length ≤ 80) && decide (sha bs = l)
set_option maxRecDepth 100000 in
theorem opens_any (bs l : List UInt8) (v : Value) (w : World) (hk : KTab w) (hsrc : SrcB w v bs) (hlen : bs.length ≤ 576460752303423487) (hl : l.length = 32) (b : Bool) (hb : b = opensL bs l) :
    Calls Tryd.prog 11 #[v, .agg (l.map bV).toArray] w fun e w' => e = .returned (.bool b) ∧ Below w.heap.size w w' := by
  obtain ⟨sp, cap, rfl⟩ := hsrc.shape
  have hs : (l.map bV).toArray.size = 32 := by simp [hl]
  have HLS := Lib.hid hs
  have HL := Lib.hid hl
  have HK := Lib.hid hk
  have HS := Lib.hid hsrc
  have HB := Lib.hid hb
  obtain ⟨n, hn⟩ : ∃ n, n = bs.length := ⟨_, rfl⟩
  have HN := Lib.hid hn
  rw [← hn] at HS ⊢
  clear hk hsrc hl hb hs
  go_enter Tryd.func11, Tryd.ntmps11
  go_upto_region 1 with fail
  have F := Lib.hid (heap_alloc_new w (.cells (l.map bV).toArray 24 (0, 0)))
  have B := Lib.hid ((Below.refl w.heap.size w).alloc (Nat.le_refl _) (.cells (l.map bV).toArray 24 (0, 0)))
  generalize hw1 : World.alloc _ _ = w1
  rw [hw1] at F B
  clear hw1
  refine wp_region_below (by kernel_rfl) (by kernel_rfl) w1 (Below.refl _ _) ?_
  by_cases h80 : n ≤ 80
  · have hd : decide ((n : Int) ≤ 80) = true := decide_eq_true (by omega)
    have H80 := Lib.hid h80
    clear h80 hn
    go_big_quiet_step ((intro _; rfl))
    go_big_quiet_step ((intro _; rfl))
    go_big_quiet_step ((intro _; rfl))
    go_big_quiet_step ((intro _; rfl))
    go_big_quiet_step ((intro _; rfl))
    go_big_quiet_step ((intro hw'; exact cls hw' (lock_any bs _ _ ((HK.out.below B.out).below hw') ((HS.out.below B.out).below hw') hlen)))
    go_big_quiet_want
    refine quiet_load_row 24 (.tmp 3) rfl w.heap.size rfl 24 (l.map bV).toArray (0, 0) _ (fun w' hw' => row_below F.out hw') Tryd.underlying24 rfl (by rw [HLS.out]; kernel_rfl) ?_
    go_frame
    go_big_quiet_on
    go_big_quiet_want
    refine quiet_eql_hash (.tmp 10) (.tmp 11) _ rfl (sha bs) l (sha_length _) HL.out rfl rfl b (by rw [HB.out, opensL, ← HN.out, decide_eq_true H80.out, Bool.true_and]) ?_
    go_frame
    go_big_quiet_on
    repeat (go_big_quiet_step ((intro _; rfl)))
    refine wpQuiet_nil ?_
    intro w7 hw7
    have HW7 := Lib.hid (B.out.trans (hw7.mono B.out.size))
    clear hw7
    go_wp2_with fail
    go_ret
    exact ⟨rfl, HW7.out⟩
  · have hd : decide ((n : Int) ≤ 80) = false := decide_eq_false (by omega)
    have H80 := Lib.hid h80
    clear h80 hn
    repeat (go_big_quiet_step ((intro _; rfl)))
    refine wpQuiet_nil ?_
    intro w7 hw7
    have HW7 := Lib.hid (B.out.trans (hw7.mono B.out.size))
    clear hw7
    go_wp2_with fail
    go_ret
    exact ⟨by rw [HB.out, opensL, ← HN.out, decide_eq_false H80.out]; rfl, HW7.out⟩
end Go.Proofs.YthgcpelabiigpaaDoor.Sha
