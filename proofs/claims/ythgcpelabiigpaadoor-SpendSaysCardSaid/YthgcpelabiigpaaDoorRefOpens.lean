/-
  The statements' own Opens tells whether a key of at most 80 bytes has that lock. Nothing that was there turns. Conditions: the bytes lie where the slice says, fewer than 2^45 bytes.
-/
import Derived.Test.YthgcpelabiigpaaDoorSpLock
import Derived.Test.YthgcpelabiigpaaDoorPtSame
import Derived.Test.YthgcpelabiigpaaDoorRefSha
namespace Go.Proofs.YthgcpelabiigpaaDoor.Sha
open Go Go.RowKit

set_option maxRecDepth 100000 in
theorem ropens_any (bs l : List UInt8) (sp : Option Addr) (n cap : Nat) (w : World) (hsrc : SrcB w (.slice sp n cap) bs) (hlen : n ≤ 35184372088832) (hl : l.length = 32) (b : Bool) (hb : b = opensL bs l) :
    Calls Tryd.prog 12 #[.slice sp n cap, .agg (l.map bV).toArray] w fun e w' => e = .returned (.bool b) ∧ Below w.heap.size w w' := by
  have hs : (l.map bV).toArray.size = 32 := by simp [hl]
  have HLS := Lib.hid hs
  have HL := Lib.hid hl
  have HS := Lib.hid hsrc
  have HB := Lib.hid hb
  have hn := hsrc.le.1
  have HN := Lib.hid hn
  clear hsrc hl hb hs
  go_enter Tryd.func12, Tryd.ntmps12
  go_upto_region 1 with fail
  have F := Lib.hid (heap_alloc_new w (.cells (l.map bV).toArray 24 (0, 0)))
  have B := Lib.hid ((Below.refl w.heap.size w).alloc (Nat.le_refl _) (.cells (l.map bV).toArray 24 (0, 0)))
  generalize hw1 : World.alloc _ _ = w1
  rw [hw1] at F B
  clear hw1
  refine wp_region_below (by kernel_rfl) (by kernel_rfl) w1 (Below.refl _ _) ?_
  by_cases h80 : n ≤ 80
  · have hd : decide ((n : Int) ≤ 80) = true := decide_eq_true (by omega)
    have H80 := Lib.hid h80
    have HLEN := Lib.hid hlen
    clear h80 hn hlen
    go_big_quiet_step ((intro _; rfl))
    go_big_quiet_step ((intro _; rfl))
    go_big_quiet_step ((intro _; rfl))
    go_big_quiet_step ((intro _; rfl))
    go_big_quiet_step ((intro _; rfl))
    go_big_quiet_step ((intro hw'; exact cls hw' (ref_any bs _ _ _ _ ((HS.out.below B.out).below hw') HLEN.out)))
    go_big_quiet_want
    refine quiet_load_row 24 (.tmp 3) rfl w.heap.size rfl 24 (l.map bV).toArray (0, 0) _ (fun w' hw' => row_below F.out hw') Tryd.underlying24 rfl (by rw [HLS.out]; kernel_rfl) ?_
    go_frame
    go_big_quiet_on
    go_big_quiet_step ((intro hw'; exact cls hw' (same_b (sha bs) l (sha_length _) HL.out b (by rw [HB.out, opensL, ← HN.out, decide_eq_true H80.out, Bool.true_and]) _)))
    repeat (go_big_quiet_step ((intro _; rfl)))
    refine wpQuiet_nil ?_
    intro w7 hw7
    have HW7 := Lib.hid (B.out.trans (hw7.mono B.out.size))
    clear hw7
    go_wp2_with fail
    go_ret
    exact ⟨rfl, HW7.out⟩
  · have hd : decide ((n : Int) ≤ 80) = false := decide_eq_false (by omega)
    have H80 := Lib.hid h80
    clear h80 hn
    repeat (go_big_quiet_step ((intro _; rfl)))
    refine wpQuiet_nil ?_
    intro w7 hw7
    have HW7 := Lib.hid (B.out.trans (hw7.mono B.out.size))
    clear hw7
    go_wp2_with fail
    go_ret
    exact ⟨by rw [HB.out, opensL, ← HN.out, decide_eq_false H80.out]; rfl, HW7.out⟩
end Go.Proofs.YthgcpelabiigpaaDoor.Sha
