/-
  digest.Sha answers the SHA-256 of the bytes that it is given, digest.Twice that of that, and turn nothing that was there. Conditions: the bytes lie where the slice says, the table is there, fewer than 2^59 bytes.
-/
import Derived.Test.YthgcpelabiigpaaDoorShaSum
namespace Go.Proofs.YthgcpelabiigpaaDoor.Sha
open Go Go.RowKit

/-- Write, whatever the slice. -/
theorem write_any (l bs : List UInt8) (v : Value) (B : Nat) (w : World) (hk : KTab w) (hB0 : B ≠ 0) (hsrc : SrcB w v bs) (hne : ∀ sp n cap, v = .slice (some sp) n cap → 0 < n → sp.block ≠ B)
    (hlen : l.length + bs.length ≤ 1152921504606846975) (hinv : WInv w B l) :
    Calls Tryd.prog 26 #[.pointer (some ⟨B, 0, none⟩), v] w fun e w' =>
      e = .returned (.tuple #[]) ∧ WInv w' B (l ++ bs) ∧ w.grownBy w' (some B) := by
  rcases hsrc with ⟨sp, cap, rfl, rfl⟩ | ⟨h0, bb, off, cap, rfl, hc, hs⟩
  · rw [List.append_nil]
    exact write_none l sp cap B w (by simpa using hlen) hinv
  · exact write_some l bs bb off cap B w hk hB0 (hne _ _ _ rfl h0) hc hlen hinv hs

theorem sha_setup (w : World) (z : Array Value) (T : TypeId) : Below w.heap.size w ((w.alloc (.cells z T)).alloc (.cells zeroW 49))
    ∧ ((w.alloc (.cells z T)).alloc (.cells zeroW 49)).heap.size = w.heap.size + 2
    ∧ ((w.alloc (.cells z T)).alloc (.cells zeroW 49)).heap[w.heap.size + 1]? = some (.cells zeroW 49 (0, 0))
    ∧ ((w.alloc (.cells z T)).alloc (.cells zeroW 49)).heap[w.heap.size]? = some (.cells z T (0, 0)) :=
  ⟨((Below.refl _ _).alloc (Nat.le_refl _) _).alloc (by simp) _, by simp, heap_alloc2_new _ _ _, heap_alloc2_old _ _ _⟩
set_option maxHeartbeats 1000000 in
set_option maxRecDepth 100000 in
theorem sha_any (bs : List UInt8) (v : Value) (w : World) (hk : KTab w) (hsrc : SrcB w v bs) (hlen : bs.length ≤ 576460752303423487) :
    Calls Tryd.prog 23 #[v] w fun e w' => e = .returned (.agg ((sha bs).map bV).toArray) ∧ Below w.heap.size w w' := by
  have hzw := zero_writer
  have HK := Lib.hid hk
  have HS := Lib.hid hsrc
  clear hk hsrc
  go_enter Tryd.func23, Tryd.ntmps23
  go_wp2_with fail
  obtain ⟨f1, f2, f3, f4⟩ := sha_setup w (List.replicate 32 (bV 0)).toArray 24
  generalize hw1 : World.alloc _ _ = w1
  have e1 : ((w.alloc (.cells (List.replicate 32 (bV 0)).toArray 24)).alloc (.cells zeroW 49)) = w1 := hw1
  rw [e1] at f1 f2 f3 f4
  have hK1 := HK.out.below f1
  have hp := HK.out.pos
  clear hw1 e1 hzw
  refine (write_any [] bs v (w.heap.size + 1) w1 hK1 (by omega) (HS.out.below f1) (HS.out.ne (Nat.le_succ _)) (by simpa using Nat.le_trans hlen (by omega)) (zero_inv f3)).mono ?_
  rintro e w2 ⟨rfl, hI, hG⟩
  rw [List.nil_append] at hI
  have B2 := grownBy_below hG f1 (Nat.le_succ _) (by omega)
  have h2 : w2.heap[w.heap.size]? = some (.cells (List.replicate 32 (bV 0)).toArray 24 (0, 0)) := by
    rw [hG.block _ (by omega) (fun e => by have := Option.some.inj e; omega)]
    exact f4
  have hs2 : w.heap.size < w2.heap.size := by have := hG.size; omega
  have HI := Lib.hid hI
  have HB2 := Lib.hid B2
  have HH2 := Lib.hid h2
  clear f1 f2 f3 f4 hK1 hI hG B2 h2
  go_wp2_with fail
  refine (sum_any bs (w.heap.size + 1) w2 (HK.out.below HB2.out) hlen HI.out).mono ?_
  rintro e w3 ⟨rfl, hb3⟩
  have h3 : w3.heap[w.heap.size]? = some (.cells (List.replicate 32 (bV 0)).toArray 24 (0, 0)) := by rw [hb3.block _ hs2]; exact HH2.out
  have HH3 := Lib.hid h3
  have B3 := Lib.hid (HB2.out.trans (hb3.mono (by omega)))
  have hl : ((sha bs).map bV).toArray.size = 32 := by simp [sha_length]
  have HL := Lib.hid hl
  clear h3 hb3 hl
  go_wp2_with ((with_reducible show wpList _ _ _ _ _ _); refine wpList_store_row rfl 24 (.tmp 2) (.tmp 6) rfl w.heap.size ((sha bs).map bV).toArray rfl rfl 24 _ HH3.out (by rw [HL.out]; kernel_rfl) (by rw [HL.out]; rfl) (bV_one _) ?_; go_frame)
  refine bodyPost_ret (results_cell_row rfl _ _ w.heap.size 24 ((sha bs).map bV).toArray (0, 0) (.array 32 5) rfl (setRow_heap _ _ _ _ _ _ HH3.out) Tryd.underlying24 rfl (by rw [HL.out]; kernel_rfl)) rfl ⟨rfl, below_setRow B3.out (Nat.le_refl _) _⟩
end Go.Proofs.YthgcpelabiigpaaDoor.Sha
