/-
  The chapter's examples hold: the statements' own function 'first' answers true. Condition: the table is there.
-/
import Derived.Test.YthgcpelabiigpaaDoorSpLock
import Derived.Test.YthgcpelabiigpaaDoorPtCalls
namespace Go.Proofs.YthgcpelabiigpaaDoor.Sha
open Go Go.RowKit

theorem two_rows (w : World) (l : List UInt8) (T : TypeId) (hl : l.length = 2) :
    Below w.heap.size w ((w.alloc (.cells (l.map bV).toArray T (0, 0))).alloc (.cells (l.map bV).toArray T (0, 0)))
    ∧ SrcB ((w.alloc (.cells (l.map bV).toArray T (0, 0))).alloc (.cells (l.map bV).toArray T (0, 0))) (.slice (some ⟨w.heap.size, 0, none⟩) 2 2) l
    ∧ SrcB ((w.alloc (.cells (l.map bV).toArray T (0, 0))).alloc (.cells (l.map bV).toArray T (0, 0))) (.slice (some ⟨w.heap.size + 1, 0, none⟩) 2 2) l :=
  ⟨((Below.refl _ _).alloc (Nat.le_refl _) _).alloc (by simp) _, src_row hl.symm (by omega) (heap_alloc2_old _ _ _), src_row hl.symm (by omega) (heap_alloc2_new _ _ _)⟩
set_option maxRecDepth 100000 in
theorem sfirst_any (w : World) (hk : KTab w) :
    Calls Tryd.prog 7 #[] w fun e w' => e = .returned (.bool true) ∧ Below w.heap.size w w' := by
  have HK := Lib.hid hk
  clear hk
  go_enter Tryd.func7, Tryd.ntmps7
  go_wp2_with fail
  obtain ⟨b1, s1, s2⟩ := two_rows w [1, 2] 5 rfl
  generalize hw1 : World.alloc _ _ = w1
  have e1 : (w.alloc (.cells (([1, 2] : List UInt8).map bV).toArray 5 (0, 0))).alloc (.cells (([1, 2] : List UInt8).map bV).toArray 5 (0, 0)) = w1 := hw1
  rw [e1] at b1 s1 s2
  have B1 := Lib.hid b1
  have S1 := Lib.hid s1
  have S2 := Lib.hid s2
  clear hw1 e1 b1 s1 s2
  refine (lock_any [1, 2] _ w1 (HK.out.below B1.out) S2.out (by decide)).mono ?_
  rintro e w2 ⟨rfl, hb2⟩
  have B2 := Lib.hid (B1.out.trans (hb2.mono B1.out.size))
  have S3 := Lib.hid (S1.out.below hb2)
  clear hb2 S1 S2 B1
  go_wp2_with fail
  refine (opens_any [1, 2] (sha [1, 2]) _ w2 (HK.out.below B2.out) S3.out (by decide) (sha_length _) true (by simp [opensL])).mono ?_
  rintro e w3 ⟨rfl, hb3⟩
  have B3 := Lib.hid (B2.out.trans (hb3.mono B2.out.size))
  clear hb3 S3 B2
  go_wp2_with fail
  refine (null_any w3).mono ?_
  rintro e w4 ⟨rfl, hb4⟩
  have B4 := Lib.hid (B3.out.trans (hb4.mono B3.out.size))
  clear hb4 B3
  go_wp2_with fail
  refine (isnull_any (List.replicate 32 0) 4294967295 rfl true (by simp) w4).mono ?_
  rintro e w5 ⟨rfl, hb5⟩
  have B5 := Lib.hid (B4.out.trans (hb5.mono B4.out.size))
  clear hb5 B4
  go_wp2_with fail
  go_ret
  exact ⟨rfl, B5.out⟩
end Go.Proofs.YthgcpelabiigpaaDoor.Sha
