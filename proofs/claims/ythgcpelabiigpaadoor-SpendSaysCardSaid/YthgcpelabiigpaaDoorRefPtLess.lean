/-
  The statements' own order of places. Nothing that was there turns. Condition: digests of 32 bytes.
-/
import Derived.Test.YthgcpelabiigpaaDoorPtLess
import Derived.Test.YthgcpelabiigpaaDoorRefLess
namespace Go.Proofs.YthgcpelabiigpaaDoor.Sha
open Go Go.RowKit

set_option maxRecDepth 100000 in
theorem rlesspt_any (h h' : List UInt8) (n n' : Nat) (hh : h.length = 32) (hh' : h'.length = 32) (b : Bool) (hb : b = lessPt h n h' n') (w : World) :
    Calls Tryd.prog 18 #[.agg (ptL h n).toArray, .agg (ptL h' n').toArray] w fun e w' => e = .returned (.bool b) ∧ Below w.heap.size w w' := by
  have hl : (h.map bV).length = 32 := by simp [hh]
  have hl' : (h'.map bV).length = 32 := by simp [hh']
  have HL := Lib.hid hl
  have HL' := Lib.hid hl'
  have HH := Lib.hid hh
  have HH' := Lib.hid hh'
  have HB := Lib.hid hb
  clear hl hl' hh hh' hb
  go_enter Tryd.func18, Tryd.ntmps18
  go_upto_region 1 with fail
  obtain ⟨B, F, F'⟩ := pt_boxes w h h' n n' 27
  generalize hw1 : World.alloc _ _ = w1
  rw [hw1] at B F F'
  have B := Lib.hid B
  have F := Lib.hid F
  have F' := Lib.hid F'
  clear hw1
  go_wp2_with ((with_reducible show wpList _ _ _ _ _ _); first | (refine wpList_load_mid rfl 24 (.tmp 5) rfl w.heap.size 0 rfl (h.map bV) _ (pt_hash F.out) Tryd.underlying24 rfl (by rw [HL.out]; kernel_rfl) ?_; go_frame) | (refine wpList_load_mid rfl 24 (.tmp 7) rfl (w.heap.size + 1) 0 rfl (h'.map bV) _ (pt_hash F'.out) Tryd.underlying24 rfl (by rw [HL'.out]; kernel_rfl) ?_; go_frame))
  refine (same_b h h' HH.out HH'.out _ rfl _).mono ?_
  rintro e w2 ⟨rfl, hb2⟩
  have c : w2.cell? ⟨w.heap.size, 32, none⟩ = some (.int .u32 (n : Int)) := pt_num HH.out (row_below F.out hb2)
  have c' : w2.cell? ⟨w.heap.size + 1, 32, none⟩ = some (.int .u32 (n' : Int)) := pt_num HH'.out (row_below F'.out hb2)
  have B2 := Lib.hid (B.out.trans (hb2.mono B.out.size))
  have F2 := Lib.hid (row_below F.out hb2)
  have F2' := Lib.hid (row_below F'.out hb2)
  clear hb2 F F' B
  by_cases he : h = h'
  · rw [decide_eq_true he]
    have HE := Lib.hid he
    clear he
    go_wp2_with fail
    go_ret
    exact ⟨by rw [HB.out, lessPt, if_pos HE.out]; congr 2, B2.out⟩
  · rw [decide_eq_false he]
    have HE := Lib.hid he
    clear he c c'
    go_wp2_with ((with_reducible show wpList _ _ _ _ _ _); first | (refine wpList_load_mid rfl 24 (.tmp 15) rfl w.heap.size 0 rfl (h.map bV) _ (pt_hash F2.out) Tryd.underlying24 rfl (by rw [HL.out]; kernel_rfl) ?_; go_frame) | (refine wpList_load_mid rfl 24 (.tmp 17) rfl (w.heap.size + 1) 0 rfl (h'.map bV) _ (pt_hash F2'.out) Tryd.underlying24 rfl (by rw [HL'.out]; kernel_rfl) ?_; go_frame))
    refine (ref_less h h' HH.out HH'.out _).mono ?_
    rintro e w3 ⟨rfl, hb3⟩
    have B3 := Lib.hid (B2.out.trans (hb3.mono B2.out.size))
    clear hb3
    go_wp2_with fail
    go_ret
    exact ⟨by rw [HB.out, lessPt, if_neg HE.out]; rfl, B3.out⟩
end Go.Proofs.YthgcpelabiigpaaDoor.Sha
