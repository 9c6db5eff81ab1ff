/-
  spend.Less tells whether one place stands ahead of another: by the digest, then by the number. Nothing that was there turns. Condition: digests of 32 bytes.
-/
import Derived.Test.YthgcpelabiigpaaDoorPtSame
import Derived.Test.YthgcpelabiigpaaDoorShaCmp
namespace Go.Proofs.YthgcpelabiigpaaDoor.Sha
open Go Go.RowKit

/-- The order of places. -/
def lessPt (h : List UInt8) (n : Nat) (h' : List UInt8) (n' : Nat) : Bool := if h = h' then decide (n < n') else lessL h h'
set_option maxRecDepth 100000 in
theorem lesspt_any (h h' : List UInt8) (n n' : Nat) (hh : h.length = 32) (hh' : h'.length = 32) (b : Bool) (hb : b = lessPt h n h' n') (w : World) :
    Calls Tryd.prog 17 #[.agg (ptL h n).toArray, .agg (ptL h' n').toArray] w fun e w' => e = .returned (.bool b) ∧ Below w.heap.size w w' := by
  have hl : (h.map bV).length = 32 := by simp [hh]
  have hl' : (h'.map bV).length = 32 := by simp [hh']
  have HL := Lib.hid hl
  have HL' := Lib.hid hl'
  have HH := Lib.hid hh
  have HH' := Lib.hid hh'
  have HB := Lib.hid hb
  clear hl hl' hh hh' hb
  go_enter Tryd.func17, Tryd.ntmps17
  go_upto_region 1 with fail
  obtain ⟨B, F, F'⟩ := pt_boxes w h h' n n' 27
  generalize hw1 : World.alloc _ _ = w1
  rw [hw1] at B F F'
  have c : w1.cell? ⟨w.heap.size, 32, none⟩ = some (.int .u32 (n : Int)) := pt_num HH.out F
  have c' : w1.cell? ⟨w.heap.size + 1, 32, none⟩ = some (.int .u32 (n' : Int)) := pt_num HH'.out F'
  have B := Lib.hid B
  have F := Lib.hid F
  have F' := Lib.hid F'
  clear hw1
  by_cases he : h = h'
  · have e1 : (!decide (h = h')) = false := by simp [he]
    have E1 := Lib.hid e1.symm
    have HE := Lib.hid he
    clear he e1
    go_wp2_with ((with_reducible show wpList _ _ _ _ _ _); first | (refine wpList_load_mid rfl 24 (.tmp 5) rfl w.heap.size 0 rfl (h.map bV) _ (pt_hash F.out) Tryd.underlying24 rfl (by rw [HL.out]; kernel_rfl) ?_; go_frame) | (refine wpList_load_mid rfl 24 (.tmp 7) rfl (w.heap.size + 1) 0 rfl (h'.map bV) _ (pt_hash F'.out) Tryd.underlying24 rfl (by rw [HL'.out]; kernel_rfl) ?_; go_frame) | (refine wpList_neq_hash rfl (.tmp 6) (.tmp 8) _ rfl h h' HH.out HH'.out rfl rfl false E1.out ?_; go_frame))
    go_ret
    exact ⟨by rw [HB.out, lessPt, if_pos HE.out]; congr 2, B.out⟩
  · have e1 : (!decide (h = h')) = true := by simp [he]
    have E1 := Lib.hid e1.symm
    have HE := Lib.hid he
    clear he e1
    go_wp2_with ((with_reducible show wpList _ _ _ _ _ _); first | (refine wpList_load_mid rfl 24 (.tmp 5) rfl w.heap.size 0 rfl (h.map bV) _ (pt_hash F.out) Tryd.underlying24 rfl (by rw [HL.out]; kernel_rfl) ?_; go_frame) | (refine wpList_load_mid rfl 24 (.tmp 7) rfl (w.heap.size + 1) 0 rfl (h'.map bV) _ (pt_hash F'.out) Tryd.underlying24 rfl (by rw [HL'.out]; kernel_rfl) ?_; go_frame) | (refine wpList_neq_hash rfl (.tmp 6) (.tmp 8) _ rfl h h' HH.out HH'.out rfl rfl true E1.out ?_; go_frame) | (refine wpList_load_mid rfl 24 (.tmp 10) rfl w.heap.size 0 rfl (h.map bV) _ (pt_hash F.out) Tryd.underlying24 rfl (by rw [HL.out]; kernel_rfl) ?_; go_frame) | (refine wpList_load_mid rfl 24 (.tmp 12) rfl (w.heap.size + 1) 0 rfl (h'.map bV) _ (pt_hash F'.out) Tryd.underlying24 rfl (by rw [HL'.out]; kernel_rfl) ?_; go_frame))
    refine (less_any h h' HH.out HH'.out _).mono ?_
    rintro e w2 ⟨rfl, hb2⟩
    have B2 := Lib.hid (B.out.trans (hb2.mono B.out.size))
    clear hb2 c c'
    go_wp2_with fail
    go_ret
    exact ⟨by rw [HB.out, lessPt, if_neg HE.out]; rfl, B2.out⟩
end Go.Proofs.YthgcpelabiigpaaDoor.Sha
