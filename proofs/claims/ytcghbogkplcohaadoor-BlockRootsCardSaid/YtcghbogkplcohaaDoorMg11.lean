/-
  Texts of this proof joined into one file: ShaSha, RefTwice, MkJoin, MkMath, MkSmall, MkHs, TxTakeW, TxReadW, MkClimb0, CutS. What each holds, and under which conditions, its own first sentence tells.
-/
import Derived.Deep.Light
import Derived.IntWalk
import Derived.Laws.ResultCell
import Derived.Test.YtcghbogkplcohaaDoorMg03
import Derived.Test.YtcghbogkplcohaaDoorMg10
import Derived.Test.YtcghbogkplcohaaDoorMg07
import Derived.Test.YtcghbogkplcohaaDoorMg05
import Derived.Test.YtcghbogkplcohaaDoorMg06
import Derived.Test.YtcghbogkplcohaaDoorMg04
import Derived.Test.YtcghbogkplcohaaDoorMg01
import Derived.Test.YtcghbogkplcohaaDoorMg09
/-
  digest.Sha answers the SHA-256 of the bytes that it is given, digest.Twice that of that, and turn nothing that was there. Conditions: the bytes lie where the slice says, the table is there, fewer than 2^59 bytes.
-/
namespace Go.Proofs.YtcghbogkplcohaaDoor.Sha
open Go Go.RowKit
/-- Write, whatever the slice. -/
theorem write_any (l bs : List UInt8) (v : Value) (B : Nat) (w : World) (hk : KTab w) (hB0 : B ≠ 25) (hsrc : SrcB w v bs) (hne : ∀ sp n cap, v = .slice (some sp) n cap → 0 < n → sp.block ≠ B)
    (hlen : l.length + bs.length ≤ 1152921504606846975) (hinv : WInv w B l) :
    Calls Tryd.prog 57 #[.pointer (some ⟨B, 0, none⟩), v] w fun e w' =>
      e = .returned (.tuple #[]) ∧ WInv w' B (l ++ bs) ∧ w.grownBy w' (some B) := by
  rcases hsrc with ⟨sp, cap, rfl, rfl⟩ | ⟨h0, bb, off, cap, rfl, hc, hs⟩
  · rw [List.append_nil]
    exact write_none l sp cap B w (by simpa using hlen) hinv
  · exact write_some l bs bb off cap B w hk hB0 (hne _ _ _ rfl h0) hc hlen hinv hs
theorem sha_setup (w : World) (z : Array Value) (T : TypeId) : Below w.heap.size w ((w.alloc (.cells z T)).alloc (.cells zeroW 104))
    ∧ ((w.alloc (.cells z T)).alloc (.cells zeroW 104)).heap.size = w.heap.size + 2
    ∧ ((w.alloc (.cells z T)).alloc (.cells zeroW 104)).heap[w.heap.size + 1]? = some (.cells zeroW 104 (0, 0))
    ∧ ((w.alloc (.cells z T)).alloc (.cells zeroW 104)).heap[w.heap.size]? = some (.cells z T (0, 0)) :=
  ⟨((Below.refl _ _).alloc (Nat.le_refl _) _).alloc (by simp) _, by simp, heap_alloc2_new _ _ _, heap_alloc2_old _ _ _⟩
set_option maxHeartbeats 1000000 in
set_option maxRecDepth 100000 in
theorem sha_any (bs : List UInt8) (v : Value) (w : World) (hk : KTab w) (hsrc : SrcB w v bs) (hlen : bs.length ≤ 576460752303423487) :
    Calls Tryd.prog 41 #[v] w fun e w' => e = .returned (.agg ((sha bs).map bV).toArray) ∧ Below w.heap.size w w' := by
  have hzw := zero_writer
  have HK := Lib.hid hk
  have HS := Lib.hid hsrc
  clear hk hsrc
  go_enter Tryd.func41, Tryd.ntmps41
  go_wp2_with fail
  obtain ⟨f1, f2, f3, f4⟩ := sha_setup w (List.replicate 32 (bV 0)).toArray 23
  generalize hw1 : World.alloc _ _ = w1
  have e1 : ((w.alloc (.cells (List.replicate 32 (bV 0)).toArray 23)).alloc (.cells zeroW 104)) = w1 := hw1
  rw [e1] at f1 f2 f3 f4
  have hK1 := HK.out.below f1
  have hp := HK.out.pos
  clear hw1 e1 hzw
  refine (write_any [] bs v (w.heap.size + 1) w1 hK1 (by omega) (HS.out.below f1) (HS.out.ne (Nat.le_succ _)) (by simpa using Nat.le_trans hlen (by omega)) (zero_inv f3)).mono ?_
  rintro e w2 ⟨rfl, hI, hG⟩
  rw [List.nil_append] at hI
  have B2 := grownBy_below hG f1 (Nat.le_succ _) (by omega)
  have h2 : w2.heap[w.heap.size]? = some (.cells (List.replicate 32 (bV 0)).toArray 23 (0, 0)) := by
    rw [hG.block _ (by omega) (fun e => by have := Option.some.inj e; omega)]
    exact f4
  have hs2 : w.heap.size < w2.heap.size := by have := hG.size; omega
  have HI := Lib.hid hI
  have HB2 := Lib.hid B2
  have HH2 := Lib.hid h2
  clear f1 f2 f3 f4 hK1 hI hG B2 h2
  go_wp2_with fail
  refine (sum_any bs (w.heap.size + 1) w2 (HK.out.below HB2.out) hlen HI.out).mono ?_
  rintro e w3 ⟨rfl, hb3⟩
  have h3 : w3.heap[w.heap.size]? = some (.cells (List.replicate 32 (bV 0)).toArray 23 (0, 0)) := by rw [hb3.block _ hs2]; exact HH2.out
  have HH3 := Lib.hid h3
  have B3 := Lib.hid (HB2.out.trans (hb3.mono (by omega)))
  have hl : ((sha bs).map bV).toArray.size = 32 := by simp [sha_length]
  have HL := Lib.hid hl
  clear h3 hb3 hl
  go_wp2_with ((with_reducible show wpList _ _ _ _ _ _); refine wpList_store_row rfl 23 (.tmp 2) (.tmp 6) rfl w.heap.size ((sha bs).map bV).toArray rfl rfl 23 _ HH3.out (by rw [HL.out]; kernel_rfl) (by rw [HL.out]; rfl) (bV_one _) ?_; go_frame)
  refine bodyPost_ret (results_cell_row rfl _ _ w.heap.size 23 ((sha bs).map bV).toArray (0, 0) (.array 32 5) rfl (setRow_heap _ _ _ _ _ _ HH3.out) Tryd.underlying23 rfl (by rw [HL.out]; kernel_rfl)) rfl ⟨rfl, below_setRow B3.out (Nat.le_refl _) _⟩
end Go.Proofs.YtcghbogkplcohaaDoor.Sha

/-
  digest.Twice and the statements' own Twice answer the SHA-256 of the SHA-256 of the bytes; nothing that was there turns. Conditions: the bytes lie where the slice says, fewer than 2^45; for digest.Twice the table is there.
-/
namespace Go.Proofs.YtcghbogkplcohaaDoor.Sha
open Go Go.RowKit
set_option maxHeartbeats 1000000 in
set_option maxRecDepth 100000 in
theorem twice_any (bs : List UInt8) (v : Value) (w : World) (hk : KTab w) (hsrc : SrcB w v bs) (hlen : bs.length ≤ 576460752303423487) :
    Calls Tryd.prog 42 #[v] w fun e w' => e = .returned (.agg ((sha (sha bs)).map bV).toArray) ∧ Below w.heap.size w w' := by
  have HK := Lib.hid hk
  have HS := Lib.hid hsrc
  have hl : ∀ l : List UInt8, l.length = 32 → (l.map bV).toArray.size = 32 := fun l h => by simp [h]
  have HL := Lib.hid hl
  clear hk hsrc hl
  go_enter Tryd.func42, Tryd.ntmps42
  go_wp2_with fail
  have b0 : Below w.heap.size w (w.alloc (.cells (List.replicate 32 (bV 0)).toArray 23)) := (Below.refl _ _).alloc (Nat.le_refl _) _
  have f0 : (w.alloc (.cells (List.replicate 32 (bV 0)).toArray 23)).heap[w.heap.size]? = some (.cells (List.replicate 32 (bV 0)).toArray 23 (0, 0)) := heap_alloc_new _ _
  have z0 : w.heap.size < (w.alloc (.cells (List.replicate 32 (bV 0)).toArray 23)).heap.size := by simp
  generalize hw0 : World.alloc _ _ = w0
  have q0 : w.alloc (.cells (List.replicate 32 (bV 0)).toArray 23) = w0 := hw0
  rw [q0] at b0 f0 z0
  clear hw0 q0
  refine (sha_any bs v w0 (HK.out.below b0) (HS.out.below b0) hlen).mono ?_
  rintro e w1 ⟨rfl, hb1⟩
  have e1 : Below w.heap.size w w1 := b0.trans (hb1.mono b0.size)
  have e2 : w1.heap[w.heap.size]? = some (.cells (List.replicate 32 (bV 0)).toArray 23 (0, 0)) := row_below f0 hb1
  have e3 : w.heap.size < w1.heap.size := Nat.lt_of_lt_of_le z0 hb1.size
  have E1 := Lib.hid e1
  have E2 := Lib.hid e2
  clear b0 f0 z0 hb1 e1 e2
  go_upto_region 2 with ((with_reducible show wpList _ _ _ _ _ _); refine wpList_store_row rfl 23 (.tmp 3) (.tmp 5) rfl w1.heap.size ((sha bs).map bV).toArray rfl rfl 23 _ (heap_alloc_new _ _) (by rw [HL.out _ (sha_length _)]; kernel_rfl) (by rw [HL.out _ (sha_length _)]; rfl) (bV_one _) ?_; go_frame)
  have e1 := E1.out
  have e2 := E2.out
  clear E1 E2
  obtain ⟨f1, f2, f3, f4⟩ := fill_setup e1 (List.replicate 32 (bV 0)).toArray ((sha bs).map bV).toArray 23
  have e4 : ((w1.alloc (.cells (List.replicate 32 (bV 0)).toArray 23)).setRow w1.heap.size ((sha bs).map bV).toArray).heap[w.heap.size]? = some (.cells (List.replicate 32 (bV 0)).toArray 23 (0, 0)) := by rw [f4.block _ e3]; exact e2
  obtain ⟨g, hg⟩ : ∃ g, g = w1.heap.size := ⟨_, rfl⟩
  generalize hw2 : World.setRow _ _ _ = w2
  have e5 : ((w1.alloc (.cells (List.replicate 32 (bV 0)).toArray 23)).setRow w1.heap.size ((sha bs).map bV).toArray) = w2 := hw2
  rw [e5] at f1 f2 f3 f4 e4
  rw [← hg] at f2 f3 ⊢
  have HK2 := Lib.hid (HK.out.below f1)
  have HS2 := Lib.hid (src_block (sha_length bs) f2)
  have F1 := Lib.hid f1
  have E4 := Lib.hid e4
  have hlt : w.heap.size < w2.heap.size := by omega
  clear f1 f2 f3 f4 e1 e2 e3 e4 e5 hw2 hg
  go_wp2_with fail
  refine (sha_any (sha bs) _ _ HK2.out HS2.out (by rw [sha_length]; omega)).mono ?_
  rintro e w3 ⟨rfl, hb3⟩
  have h3 : w3.heap[w.heap.size]? = some (.cells (List.replicate 32 (bV 0)).toArray 23 (0, 0)) := by rw [hb3.block _ hlt]; exact E4.out
  have H3 := Lib.hid h3
  have B3 := Lib.hid (F1.out.trans (hb3.mono (by omega)))
  clear h3 hb3
  go_wp2_with ((with_reducible show wpList _ _ _ _ _ _); refine wpList_store_row rfl 23 (.tmp 2) (.tmp 7) rfl w.heap.size ((sha (sha bs)).map bV).toArray rfl rfl 23 _ H3.out (by rw [HL.out _ (sha_length _)]; kernel_rfl) (by rw [HL.out _ (sha_length _)]; rfl) (bV_one _) ?_; go_frame)
  refine bodyPost_ret (results_cell_row rfl _ _ w.heap.size 23 ((sha (sha bs)).map bV).toArray (0, 0) (.array 32 5) rfl (setRow_heap _ _ _ _ _ _ H3.out) Tryd.underlying23 rfl (by rw [HL.out _ (sha_length _)]; kernel_rfl)) rfl ⟨rfl, below_setRow B3.out (Nat.le_refl _) _⟩
end Go.Proofs.YtcghbogkplcohaaDoor.Sha

/-
  Package merkle's join: the digest above two. Nothing that was there turns. Condition: the table is there.
-/
namespace Go.Proofs.YtcghbogkplcohaaDoor.Sha
open Go Go.RowKit
/-- The digest above two. -/
def prH (a b : List UInt8) : List UInt8 := sha (sha (a ++ b))
theorem prH_length (a b : List UInt8) : (prH a b).length = 32 := sha_length _
/-- Two boxes and an empty one. -/
theorem boxes_two_zero (w : World) (x y z : Array Value) (T : TypeId) :
    Below w.heap.size w (((w.alloc (.cells x T (0, 0))).alloc (.cells y T (0, 0))).alloc (.cells z T (0, 0)))
    ∧ (((w.alloc (.cells x T (0, 0))).alloc (.cells y T (0, 0))).alloc (.cells z T (0, 0))).heap[w.heap.size]? = some (.cells x T (0, 0))
    ∧ (((w.alloc (.cells x T (0, 0))).alloc (.cells y T (0, 0))).alloc (.cells z T (0, 0))).heap[w.heap.size + 1]? = some (.cells y T (0, 0))
    ∧ (((w.alloc (.cells x T (0, 0))).alloc (.cells y T (0, 0))).alloc (.cells z T (0, 0))).heap[w.heap.size + 2]? = some (.cells z T (0, 0)) := by
  refine ⟨(((Below.refl _ _).alloc (Nat.le_refl _) _).alloc (by simp) _).alloc (by simp; omega) _, ?_, ?_, ?_⟩
  · have h1 := heap_alloc_new w (.cells x T (0, 0))
    have h2 := row_below h1 ((Below.refl _ _).alloc (Nat.le_refl _) (.cells y T (0, 0)))
    exact row_below h2 ((Below.refl _ _).alloc (Nat.le_refl _) (.cells z T (0, 0)))
  · have h1 := heap_alloc_new (w.alloc (.cells x T (0, 0))) (.cells y T (0, 0))
    rw [World.size_alloc] at h1
    exact row_below h1 ((Below.refl _ _).alloc (Nat.le_refl _) (.cells z T (0, 0)))
  · have h1 := heap_alloc_new ((w.alloc (.cells x T (0, 0))).alloc (.cells y T (0, 0))) (.cells z T (0, 0))
    rw [World.size_alloc, World.size_alloc] at h1
    exact h1
theorem one_list {dg : Array Value} (h : dg.all (·.oneCell') = true) : ∀ u ∈ dg.toList, u.oneCell' = true := fun u hu => by
  rw [Array.all_eq_true_iff_forall_mem] at h
  exact h u (by simpa using hu)
theorem info_bytes : (Tryd.prog.info? 40).map (fun i => (i.zero, i.size, i.bytes)) = some (some (.slice none 0 0), 1, 24) := by kernel_rfl
set_option maxHeartbeats 2000000 in
set_option maxRecDepth 100000 in
theorem join_any (a b : List UInt8) (ha : a.length = 32) (hb : b.length = 32) (w : World) (hk : KTab w) :
    Calls Tryd.prog 45 #[.agg (a.map bV).toArray, .agg (b.map bV).toArray] w fun e w' => e = .returned (.agg ((prH a b).map bV).toArray) ∧ Below w.heap.size w w' := by
  obtain ⟨i0, hi, hz0, hz1, hz2⟩ := info_parts info_bytes
  have HA := Lib.hid ha
  have HB := Lib.hid hb
  have HK := Lib.hid hk
  have HOne := Lib.hid (bV_one (prH a b))
  have HLen : Hid ((((prH a b).map bV).toArray).size = 32) := by show _ = _; simp [prH_length]
  obtain ⟨dg, hdg⟩ : ∃ dg, dg = ((prH a b).map bV).toArray := ⟨_, rfl⟩
  rw [← hdg] at HOne HLen ⊢
  have HD := Lib.hid hdg
  clear hdg ha hb hk
  go_enter Tryd.func45, Tryd.ntmps45
  go_upto_region 1 with fail
  obtain ⟨b1, f1, f2, f3⟩ := boxes_two_zero w (a.map bV).toArray (b.map bV).toArray (List.replicate 32 (bV 0)).toArray 23
  generalize hw1 : World.alloc _ _ = w1
  have e1 : ((w.alloc (.cells (a.map bV).toArray 23 (0, 0))).alloc (.cells (b.map bV).toArray 23 (0, 0))).alloc (.cells (List.replicate 32 (bV 0)).toArray 23 (0, 0)) = w1 := hw1
  rw [e1] at b1 f1 f2 f3
  clear hw1 e1
  have F1 := Lib.hid f1
  have F2 := Lib.hid f2
  have F3 := Lib.hid f3
  have B1 := Lib.hid b1
  clear f1 f2 f3 b1
  refine wp_region_held_drew (S := (fun _ => True)) (by kernel_rfl) trivial (fun hHeld => ?_)
  have bb := Below.drew (Below.refl w1.heap.size w1)
  generalize hw2 : w1.drew = w2
  rw [hw2] at bb
  have F1 := Lib.hid (row_below F1.out bb)
  have F2 := Lib.hid (row_below F2.out bb)
  have F3 := Lib.hid (row_below F3.out bb)
  have B2 := Lib.hid (B1.out.trans (bb.mono B1.out.size))
  clear hw2 bb B1
  refine held_take (i := 0) (v := (.slice (some ⟨w.heap.size, 0, none⟩) 32 32)) rfl (by kernel_rfl) (by kernel_rfl) (by kernel_rfl) (fun _ _ _ h => h) (Or.inl ⟨by rfl, fun w' _ => by kernel_rfl⟩) hHeld ?_
  go_frame
  refine held_take (i := 1) (v := (.slice (some ⟨w.heap.size + 1, 0, none⟩) 32 32)) rfl (by kernel_rfl) (by kernel_rfl) (by kernel_rfl) (fun _ _ _ h => h) (Or.inl ⟨by rfl, fun w' _ => by kernel_rfl⟩) hHeld ?_
  go_frame
  refine wpAnyH_ready (rs := [2]) (by kernel_rfl) (by simp) (held_cons rfl (fun K hK => ?_) AllReadyH.nil)
  rw [if_pos (by rfl)]
  refine wp_buildSlice 72 40 2 _ rfl #[.slice (some ⟨w.heap.size, 0, none⟩) 32 32, .slice (some ⟨w.heap.size + 1, 0, none⟩) 32 32] i0 (.slice none 0 0) Tryd.underlying72 hi hz0 (by rw [hz1]; omega) (by rw [hz1]; omega) (by rw [hz1]; kernel_rfl) ?_
  have nf := heap_alloc_new w2 (.cells #[.slice (some ⟨w.heap.size, 0, none⟩) 32 32, .slice (some ⟨w.heap.size + 1, 0, none⟩) 32 32] 40 (0, 0))
  have bb := (Below.refl w2.heap.size w2).alloc (Nat.le_refl _) (.cells #[.slice (some ⟨w.heap.size, 0, none⟩) 32 32, .slice (some ⟨w.heap.size + 1, 0, none⟩) 32 32] 40 (0, 0))
  obtain ⟨gn, hgn⟩ : ∃ gn, gn = w2.heap.size := ⟨_, rfl⟩
  generalize hw3 : World.alloc _ _ = w3
  have e3 : w2.alloc (.cells #[.slice (some ⟨w.heap.size, 0, none⟩) 32 32, .slice (some ⟨w.heap.size + 1, 0, none⟩) 32 32] 40 (0, 0)) = w3 := hw3
  rw [e3] at nf bb
  rw [← hgn] at nf ⊢
  have NF := Lib.hid nf
  have F1 := Lib.hid (row_below F1.out bb)
  have F2 := Lib.hid (row_below F2.out bb)
  have F3 := Lib.hid (row_below F3.out bb)
  have B3 := Lib.hid (B2.out.trans (bb.mono B2.out.size))
  clear nf bb hw3 e3 hgn B2
  go_frame
  refine hK.out _ _ trivial (fun hHeld => ?_)
  clear hK K
  refine wpAnyH_ready (rs := [3]) (by kernel_rfl) (by simp) (held_cons rfl (fun K hK => ?_) AllReadyH.nil)
  go_simp
  refine (concat_two a b HA.out HB.out gn w.heap.size (w.heap.size + 1) w3 (by rw [cell_of_row _ _ _ _ _ _ NF.out]; rfl) (by rw [cell_of_row _ _ _ _ _ _ NF.out]; rfl) (src_block HA.out F1.out) (src_block HB.out F2.out)).mono ?_
  rintro e w4 ⟨v4, rfl, s4, bb⟩
  have S4 := Lib.hid s4
  have F3 := Lib.hid (row_below F3.out bb)
  have B4 := Lib.hid (B3.out.trans (bb.mono B3.out.size))
  clear s4 bb B3 F1 F2 NF
  go_wp2_with fail
  refine hK.out _ _ trivial (fun hHeld => ?_)
  clear hK K
  refine wpAnyH_ready (rs := [4]) (by kernel_rfl) (by simp) (held_cons rfl (fun K hK => ?_) AllReadyH.nil)
  go_simp
  have TW := twice_any (a ++ b) v4 w4 (HK.out.below B4.out) S4.out (by rw [List.length_append, HA.out, HB.out]; omega)
  rw [show sha (sha (a ++ b)) = prH a b from rfl, ← HD.out] at TW
  refine TW.mono ?_
  clear TW
  rintro e w5 ⟨rfl, bb⟩
  have F3 := Lib.hid (row_below F3.out bb)
  have B5 := Lib.hid (B4.out.trans (bb.mono B4.out.size))
  clear bb B4 S4
  go_wp2_with fail
  refine hK.out _ _ trivial (fun hHeld => ?_)
  clear hK K
  refine wpAnyH_ready (rs := [5]) (by kernel_rfl) (by simp) (held_cons rfl (fun K hK => ?_) AllReadyH.nil)
  rw [if_pos (by rfl)]
  refine wp_store_part 23 (.tmp 4) (.tmp 9) rfl (w.heap.size + 2) 0 [] (List.replicate 32 (bV 0)) [] dg.toList 23 (.agg dg) rfl rfl (by simp [Value.cells]) rfl (by simp [HLen.out]) (by simpa using F3.out) (by rw [Array.length_toList, HLen.out]; kernel_rfl) (one_list HOne.out) ?_
  intro w6 q1 q2
  have f6 : w6.heap[w.heap.size + 2]? = some (.cells dg 23 (0, 0)) := by simpa using q1
  have F6 := Lib.hid f6
  have B6 := Lib.hid (B5.out.grown q2 B5.out.size (fun k hk => by cases hk; omega))
  clear q1 q2 f6
  go_frame
  refine hK.out _ _ trivial (fun hHeld => ?_)
  clear hK K
  refine wpAnyH_done (by kernel_rfl) ?_ _
  clear hHeld
  go_wp2_with fail
  refine bodyPost_ret (results_cell_row rfl _ _ (w.heap.size + 2) 23 dg (0, 0) (.array 32 5) rfl F6.out Tryd.underlying23 rfl (by rw [HLen.out]; kernel_rfl)) rfl ⟨rfl, B6.out⟩
end Go.Proofs.YtcghbogkplcohaaDoor.Sha

/-
  Plain mathematics of rows of digests: the next row, the root, the way from below, what a leaf and a way make. Nothing of the program. No conditions beyond those that each states.
-/
namespace Go.Proofs.YtcghbogkplcohaaDoor.Sha
section
variable {α : Type} (pr : α → α → α) (z : α)
/-- The next row: each two, the last of an odd row with itself. -/
def rowL : List α → List α
  | [] => []
  | [a] => [pr a a]
  | a :: b :: l => pr a b :: rowL l
theorem rowL_length : ∀ l : List α, (rowL pr l).length = (l.length + 1) / 2
  | [] => by simp [rowL]
  | [_] => by simp [rowL]
  | _ :: _ :: l => by
    rw [rowL, List.length_cons, rowL_length l]
    simp only [List.length_cons]
    omega
/-- One of the next row. -/
theorem rowL_get : ∀ (l : List α) (i : Nat), 2 * i < l.length → (rowL pr l).getD i z = pr (l.getD (2 * i) z) (l.getD (if 2 * i + 1 < l.length then 2 * i + 1 else 2 * i) z)
  | [], i, h => by simp at h
  | [a], i, h => by
    obtain rfl : i = 0 := by simp at h; omega
    simp [rowL]
  | a :: b :: l, 0, _ => by simp [rowL]
  | a :: b :: l, i + 1, h => by
    have ih := rowL_get l i (by simp at h; omega)
    rw [rowL, List.getD_cons_succ, ih, show 2 * (i + 1) = 2 * i + 1 + 1 by omega]
    simp only [List.length_cons]
    by_cases h2 : 2 * i + 1 < l.length
    · rw [if_pos h2, if_pos (by omega)]
      simp only [List.getD_cons_succ]
    · rw [if_neg h2, if_neg (by omega)]
      simp only [List.getD_cons_succ]
/-- The root: row by row. -/
def rootL (l : List α) : α := if _h : l.length ≤ 1 then l.getD 0 z else rootL (rowL pr l)
  termination_by l.length
  decreasing_by rw [rowL_length]; omega
theorem rootL_one {l : List α} (h : l.length ≤ 1) : rootL pr z l = l.getD 0 z := by rw [rootL, dif_pos h]
theorem rootL_more {l : List α} (h : 1 < l.length) : rootL pr z l = rootL pr z (rowL pr l) := by rw [rootL, dif_neg (by omega)]
/-- The other one of two. -/
def otherN (i n : Nat) : Nat := if i % 2 = 1 then i - 1 else if i + 1 < n then i + 1 else i
/-- The way from below. -/
def pathL (i : Nat) (l : List α) : List α := if _h : l.length ≤ 1 then [] else l.getD (otherN i l.length) z :: pathL (i / 2) (rowL pr l)
  termination_by l.length
  decreasing_by rw [rowL_length]; omega
theorem pathL_one {l : List α} (i : Nat) (h : l.length ≤ 1) : pathL pr z i l = [] := by rw [pathL, dif_pos h]
theorem pathL_more {l : List α} (i : Nat) (h : 1 < l.length) : pathL pr z i l = l.getD (otherN i l.length) z :: pathL pr z (i / 2) (rowL pr l) := by rw [pathL, dif_neg (by omega)]
/-- How many rows there are but the last. -/
def rowsN (n : Nat) : Nat := if _h : n ≤ 1 then 0 else rowsN ((n + 1) / 2) + 1
  termination_by n
  decreasing_by omega
theorem rowsN_one {n : Nat} (h : n ≤ 1) : rowsN n = 0 := by rw [rowsN, dif_pos h]
theorem rowsN_more {n : Nat} (h : 1 < n) : rowsN n = rowsN ((n + 1) / 2) + 1 := by rw [rowsN, dif_neg (by omega)]
theorem pathL_length : ∀ (n : Nat) (l : List α) (i : Nat), l.length = n → (pathL pr z i l).length = rowsN n := by
  intro n
  induction n using Nat.strongRecOn with
  | ind n ih =>
    intro l i hl
    by_cases h : n ≤ 1
    · rw [pathL_one pr z i (by omega), rowsN_one h]
      rfl
    · rw [pathL_more pr z i (by omega), rowsN_more (by omega), List.length_cons, ih ((n + 1) / 2) (by omega) (rowL pr l) (i / 2) (by rw [rowL_length, hl])]
/-- What a leaf and a way make. -/
def climbL (leaf : α) (i : Nat) : List α → α
  | [] => leaf
  | p :: ps => climbL (if i % 2 = 0 then pr leaf p else pr p leaf) (i / 2) ps
/-- The way leads to the root. -/
theorem climb_path : ∀ (n : Nat) (l : List α) (i : Nat), l.length = n → i < n → climbL pr (l.getD i z) i (pathL pr z i l) = rootL pr z l := by
  intro n
  induction n using Nat.strongRecOn with
  | ind n ih =>
    intro l i hl hi
    by_cases h : n ≤ 1
    · obtain rfl : i = 0 := by omega
      rw [pathL_one pr z 0 (by omega), rootL_one pr z (by omega)]
      rfl
    · rw [pathL_more pr z i (by omega), rootL_more pr z (by omega), climbL]
      have hr : (rowL pr l).getD (i / 2) z = (if i % 2 = 0 then pr (l.getD i z) (l.getD (otherN i l.length) z) else pr (l.getD (otherN i l.length) z) (l.getD i z)) := by
        rw [rowL_get pr z l (i / 2) (by omega)]
        unfold otherN
        by_cases h2 : i % 2 = 0
        · have e : 2 * (i / 2) = i := by omega
          rw [if_pos h2, e, if_neg (show ¬ i % 2 = 1 by omega)]
        · have e : 2 * (i / 2) = i - 1 := by omega
          have e2 : i - 1 + 1 = i := by omega
          rw [if_neg h2, e, e2, if_pos (show i % 2 = 1 by omega), if_pos (show i < l.length by omega)]
      rw [← hr]
      exact ih ((n + 1) / 2) (by omega) (rowL pr l) (i / 2) (by rw [rowL_length, hl]) (by omega)
/-- An odd row's last one twice: the same next row. -/
theorem rowL_odd : ∀ (l : List α), l.length % 2 = 1 → rowL pr (l ++ [l.getD (l.length - 1) z]) = rowL pr l
  | [], h => by simp at h
  | [a], _ => rfl
  | a :: b :: l, h => by
    simp only [List.length_cons] at h
    have h3 : 1 ≤ l.length := by omega
    have ih := rowL_odd l (by omega)
    have e : (a :: b :: l).getD ((a :: b :: l).length - 1) z = l.getD (l.length - 1) z := by
      simp only [List.length_cons]
      rw [show l.length + 1 + 1 - 1 = (l.length - 1) + 1 + 1 by omega, List.getD_cons_succ, List.getD_cons_succ]
    rw [e, List.cons_append, List.cons_append, rowL, rowL, ih]
theorem rootL_odd (l : List α) (h : l.length % 2 = 1) (h2 : 1 < l.length) : rootL pr z (l ++ [l.getD (l.length - 1) z]) = rootL pr z l := by
  rw [rootL_more pr z (by simp; omega), rootL_more pr z h2, rowL_odd pr z l h]
/-- Two rows one behind the other, the first of an even length. -/
theorem rowL_append : ∀ (a b : List α), a.length % 2 = 0 → rowL pr (a ++ b) = rowL pr a ++ rowL pr b
  | [], b, _ => rfl
  | [_], _, h => by simp at h
  | x :: y :: a, b, h => by
    have ih := rowL_append a b (by simp at h; omega)
    rw [List.cons_append, List.cons_append, rowL, rowL, ih, List.cons_append]
/-- Two rows of as many, a power of two: the root is of both roots; the last of the second one's way is the first one's root. -/
theorem root_two : ∀ (j : Nat) (a b : List α), a.length = 2 ^ j → b.length = 2 ^ j →
    rootL pr z (a ++ b) = pr (rootL pr z a) (rootL pr z b) ∧ (pathL pr z (2 ^ j) (a ++ b)).length = j + 1 ∧ (pathL pr z (2 ^ j) (a ++ b)).getD j z = rootL pr z a := by
  intro j
  induction j with
  | zero =>
    intro a b ha hb
    obtain ⟨x, rfl⟩ := List.length_eq_one_iff.1 ha
    obtain ⟨y, rfl⟩ := List.length_eq_one_iff.1 hb
    have hr : rowL pr ([x] ++ [y]) = [pr x y] := rfl
    refine ⟨?_, ?_, ?_⟩
    · rw [rootL_more pr z (by simp), hr, rootL_one pr z (by simp), rootL_one pr z (by simp), rootL_one pr z (by simp)]
      rfl
    · rw [pathL_more pr z _ (by simp), hr, pathL_one pr z _ (by simp)]
      rfl
    · rw [pathL_more pr z _ (by simp), rootL_one pr z (by simp)]
      rfl
  | succ j ih =>
    intro a b ha hb
    have hp : 2 ^ (j + 1) = 2 * 2 ^ j := by rw [Nat.pow_succ]; omega
    have h1 : 1 ≤ 2 ^ j := Nat.one_le_two_pow
    have la : (rowL pr a).length = 2 ^ j := by rw [rowL_length, ha]; omega
    have lb : (rowL pr b).length = 2 ^ j := by rw [rowL_length, hb]; omega
    have hr : rowL pr (a ++ b) = rowL pr a ++ rowL pr b := rowL_append pr a b (by omega)
    have hl : 1 < (a ++ b).length := by rw [List.length_append]; omega
    obtain ⟨i1, i2, i3⟩ := ih (rowL pr a) (rowL pr b) la lb
    have hd : 2 ^ (j + 1) / 2 = 2 ^ j := by omega
    refine ⟨?_, ?_, ?_⟩
    · rw [rootL_more pr z hl, hr, i1, ← rootL_more pr z (by omega), ← rootL_more pr z (by omega)]
    · rw [pathL_more pr z _ hl, hr, hd, List.length_cons, i2]
    · rw [pathL_more pr z _ hl, hr, hd, List.getD_cons_succ, i3, ← rootL_more pr z (by omega)]
theorem pathL_at (j : Nat) (a b : List α) (ha : a.length = 2 ^ j) (hb : b.length = 2 ^ j) : (pathL pr z (2 ^ j) (a ++ b)).getD ((pathL pr z (2 ^ j) (a ++ b)).length - 1) z = rootL pr z a := by
  obtain ⟨_, i2, i3⟩ := root_two pr z j a b ha hb
  rw [i2, Nat.add_sub_cancel]
  exact i3
end
end Go.Proofs.YtcghbogkplcohaaDoor.Sha

/-
  Package merkle's small functions: half, partner, rowsAbove. No conditions beyond bounds.
-/
namespace Go.Proofs.YtcghbogkplcohaaDoor.Sha
open Go Go.RowKit
theorem xor_one (k : Nat) : k ^^^ 1 = if k % 2 = 1 then k - 1 else k + 1 := by
  have h1 : (k ^^^ 1) / 2 = k / 2 := by
    rw [Nat.xor_div_two]
    simp
  have h2 : (k ^^^ 1) % 2 = (k + 1) % 2 := by
    have h3 := Nat.xor_mod_two_pow (a := k) (b := 1) (n := 1)
    have h4 : k % 2 = 0 ∨ k % 2 = 1 := by omega
    simp only [Nat.pow_one] at h3
    rw [h3]
    rcases h4 with h | h
    · rw [h]; simp; omega
    · rw [h]; simp; omega
  split <;> omega
theorem bits_xor_i64_one (k : Nat) (hk : k < 4611686018427387904) : bits .xor .i64 (k : Int) 1 = ((k ^^^ 1 : Nat) : Int) := by
  have hx : k ^^^ 1 < 2 ^ 62 := Nat.xor_lt_two_pow (by omega) (by omega)
  have h1 : (BitVec.ofInt 64 (k : Int)).toNat = k := by
    rw [BitVec.ofInt_natCast, BitVec.toNat_ofNat]; exact Nat.mod_eq_of_lt (by omega)
  have h2 : (BitVec.ofInt 64 (1 : Int)).toNat = 1 := by rfl
  show IntKind.i64.wrap ((BitVec.ofInt 64 (k : Int) ^^^ BitVec.ofInt 64 1).toNat : Int) = _
  rw [BitVec.toNat_xor, h1, h2, IntKind.wrap_i64]
  omega
theorem half_any (n : Nat) (hn : n ≤ 4611686018427387904) (w : World) :
    Calls Tryd.prog 44 #[.int .i64 n] w fun e w' => e = .returned (.int .i64 (((n + 1) / 2 : Nat) : Int)) ∧ w = w' := by
  go_enter Tryd.func44, Tryd.ntmps44
  go_wp2
  go_ret
  exact ⟨ret_int (by omega), rfl⟩
/-- The other one of two, as the package finds it. -/
theorem other_min (at_ of_ : Nat) (h : at_ < of_) : (if (of_ : Int) - 1 < ((at_ ^^^ 1 : Nat) : Int) then (of_ : Int) - 1 else ((at_ ^^^ 1 : Nat) : Int)) = (otherN at_ of_ : Int) := by
  rw [xor_one]
  unfold otherN
  by_cases h1 : at_ % 2 = 1
  · simp only [if_pos h1]
    rw [if_neg (by omega)]
  · simp only [if_neg h1]
    by_cases h2 : at_ + 1 < of_
    · rw [if_pos h2, if_neg (by omega)]
    · rw [if_neg h2, if_pos (by omega)]
      omega
theorem partner_any (k n : Nat) (hk : k < n) (hn : n ≤ 4611686018427387904) (w : World) :
    Calls Tryd.prog 46 #[.int .i64 k, .int .i64 n] w fun e w' => e = .returned (.int .i64 ((otherN k n : Nat) : Int)) ∧ w = w' := by
  have hx := bits_xor_i64_one k (by omega)
  have ho := other_min k n hk
  obtain ⟨x, hxe⟩ : ∃ x, x = k ^^^ 1 := ⟨_, rfl⟩
  rw [← hxe] at hx ho
  obtain ⟨r, hr⟩ : ∃ r, r = otherN k n := ⟨_, rfl⟩
  rw [← hr] at ho ⊢
  have HO := Lib.hid ho
  clear ho hxe hr
  have h0 : 0 ≤ (n : Int) - 1 := by omega
  have h1 : 1 ≤ (n : Int) := by omega
  go_enter Tryd.func46, Tryd.ntmps46
  by_cases hc : (n : Int) - 1 < (x : Int)
  · go_wp2
    go_ret
    exact ⟨ret_int (by have h := HO.out; rw [if_pos hc] at h; omega), rfl⟩
  · go_wp2
    go_ret
    exact ⟨ret_int (by have h := HO.out; rw [if_neg (by omega)] at h; omega), rfl⟩
theorem otherN_lt {i n : Nat} (h : i < n) : otherN i n < n := by unfold otherN; split <;> (try split) <;> omega
theorem rowsN_le : ∀ n k : Nat, n ≤ 2 ^ k → rowsN n ≤ k := by
  intro n
  induction n using Nat.strongRecOn with
  | ind n ih =>
    intro k hk
    by_cases h : n ≤ 1
    · rw [rowsN_one h]; omega
    · rw [rowsN_more (by omega)]
      cases k with
      | zero => simp at hk; omega
      | succ k =>
        have := ih ((n + 1) / 2) (by omega) k (by rw [Nat.pow_succ] at hk; omega)
        omega
end Go.Proofs.YtcghbogkplcohaaDoor.Sha

/-
  Rows of digests, roots and ways: lengths, what is kept when another block turns. No conditions beyond those that each states.
-/
namespace Go.Proofs.YtcghbogkplcohaaDoor.Sha
open Go Go.RowKit
/-- 32 bytes of 0. -/
def zM : List UInt8 := List.replicate 32 0
theorem zM_length : zM.length = 32 := by simp [zM]
def slLen : Value → Nat
  | .slice _ n _ => n
  | _ => 0
theorem rowL_ok : ∀ l : List (List UInt8), HsOk (rowL prH l)
  | [] => fun x hx => by simp [rowL] at hx
  | [a] => fun x hx => by
    simp only [rowL, List.mem_singleton] at hx
    rw [hx]; exact prH_length _ _
  | a :: b :: l => fun x hx => by
    simp only [rowL, List.mem_cons] at hx
    rcases hx with rfl | hx
    · exact prH_length _ _
    · exact rowL_ok l x hx
theorem getD_ok {l : List (List UInt8)} (h : HsOk l) (i : Nat) : (l.getD i zM).length = 32 := by
  by_cases hi : i < l.length
  · rw [List.getD_eq_getElem?_getD, List.getElem?_eq_getElem hi]
    exact h _ (List.getElem_mem _)
  · rw [List.getD_eq_getElem?_getD, List.getElem?_eq_none (by omega)]
    exact zM_length
theorem getD_any {l : List (List UInt8)} {i : Nat} (hi : i < l.length) : l.getD i [] = l.getD i zM := by
  rw [List.getD_eq_getElem?_getD, List.getD_eq_getElem?_getD, List.getElem?_eq_getElem hi]
  rfl
theorem rootL_len : ∀ (n : Nat) (l : List (List UInt8)), l.length = n → HsOk l → (rootL prH zM l).length = 32 := by
  intro n
  induction n using Nat.strongRecOn with
  | ind n ih =>
    intro l hl ho
    by_cases h : n ≤ 1
    · rw [rootL_one prH zM (by omega)]
      exact getD_ok ho 0
    · rw [rootL_more prH zM (by omega)]
      exact ih ((n + 1) / 2) (by omega) _ (by rw [rowL_length, hl]) (rowL_ok l)
theorem pathL_ok : ∀ (n : Nat) (l : List (List UInt8)) (i : Nat), l.length = n → HsOk l → HsOk (pathL prH zM i l) := by
  intro n
  induction n using Nat.strongRecOn with
  | ind n ih =>
    intro l i hl ho
    by_cases h : n ≤ 1
    · rw [pathL_one prH zM i (by omega)]
      exact fun x hx => by simp at hx
    · rw [pathL_more prH zM i (by omega)]
      intro x hx
      rcases List.mem_cons.1 hx with rfl | hx
      · exact getD_ok ho _
      · exact ih ((n + 1) / 2) (by omega) _ _ (by rw [rowL_length, hl]) (rowL_ok l) x hx
theorem climbL_len : ∀ (p : List (List UInt8)) (leaf : List UInt8) (i : Nat), leaf.length = 32 → (climbL prH leaf i p).length = 32
  | [], leaf, i, h => h
  | a :: p, leaf, i, h => by
    rw [climbL]
    exact climbL_len p _ _ (by split <;> exact prH_length _ _)
theorem HsAt.shape {w : World} {v : Value} {l : List (List UInt8)} (h : HsAt w v l) : ∃ sp cap, v = .slice sp l.length cap := by
  obtain ⟨_, sp, cap, h1, _, _⟩ := h
  exact ⟨sp, cap, h1⟩
theorem HsAt.off {w w' : World} {v : Value} {l : List (List UInt8)} {q : Option Nat} (h : HsAt w v l) (ho : Off v q) (hg : w.grownBy w' q) : HsAt w' v l := by
  obtain ⟨h0, sp, cap, rfl, h2, h3⟩ := h
  refine ⟨h0, sp, cap, rfl, h2, fun h0 => ?_⟩
  obtain ⟨b, o, rfl, h5⟩ := h3 h0
  refine ⟨b, o, rfl, fun i x hx j u hj => ?_⟩
  have h6 := h5 i x hx j u hj
  have hlt := World.block_lt_of_cell? w _ h6
  simp only at hlt
  rw [World.cell?_of_block (hg.block b hlt (fun e => ho _ _ _ rfl h0 e.symm))]
  exact h6
theorem HsAt.fresh {w : World} {v : Value} {l : List (List UInt8)} {k : Nat} (h : HsAt w v l) (hk : w.heap.size ≤ k) : Off v (some k) := fun sp n cap hv hn e => by
  obtain ⟨h0, sp', cap', h1, h2, h3⟩ := h
  rw [h1] at hv
  cases hv
  obtain ⟨b, o, hs, h5⟩ := h3 hn
  obtain ⟨x, hx⟩ : ∃ x, l[0]? = some x := ⟨_, List.getElem?_eq_getElem hn⟩
  have hx32 := h0 x (List.mem_of_getElem? hx)
  obtain ⟨u, hu⟩ : ∃ u, (x.map bV)[0]? = some u := ⟨_, List.getElem?_eq_getElem (by rw [List.length_map]; omega)⟩
  have hlt := World.block_lt_of_cell? w _ (h5 0 x hx 0 u hu)
  simp only at hlt
  have e1 := Option.some.inj e
  rw [Option.some.inj hs] at e1
  simp only at e1
  omega
end Go.Proofs.YtcghbogkplcohaaDoor.Sha

/-
  Package tx takes a transaction from a Reader. Nothing that was there turns but the Reader. Conditions: the Reader stands as it should; the errors are there.
-/
namespace Go.Proofs.YtcghbogkplcohaaDoor.Sha
open Go Go.RowKit
theorem noTx_any (w : World) : TxAt w (.agg [nV 0, .slice none 0 0, .slice none 0 0, nV 0].toArray) noTx :=
  ⟨⟨by simp [noTx], by simp [noTx]⟩, .slice none 0 0, .slice none 0 0, rfl, ⟨none, 0, rfl, by simp [noTx], fun h => absurd h (by simp [noTx])⟩, ⟨none, 0, rfl, by simp [noTx], fun h => absurd h (by simp [noTx])⟩⟩
end Go.Proofs.YtcghbogkplcohaaDoor.Sha

/-
  Package tx reads a transaction out of bytes. Nothing that was there turns. Conditions: the bytes lie where the slice says; the errors are there.
-/
namespace Go.Proofs.YtcghbogkplcohaaDoor.Sha
open Go Go.RowKit
theorem readTx_take (bs : List UInt8) (t0 : TTx) (b : List UInt8) (d : Nat) (h : takeTx bs 0 = (t0, b, d)) : readTx bs = if d ≠ 0 then (noTx, d) else if b ≠ [] then (noTx, 2) else (t0, 0) := by
  obtain ⟨p, hp⟩ : ∃ p, txP bs 0 = p := ⟨_, rfl⟩
  obtain ⟨a, r, c⟩ := p
  unfold takeTx at h
  unfold readTx
  rw [hp] at h ⊢
  by_cases hc : c = 0
  · subst hc
    rw [if_pos rfl] at h
    cases h
    rfl
  · rw [if_neg (show ¬ (a, r, c).2.2 = 0 from hc)] at h
    cases h
    rw [if_pos (show (a, b, d).2.2 ≠ 0 from hc), if_pos hc]
/-- What a Reader's bytes are as a transaction. -/
structure TakeIs (bs : List UInt8) (t : TTx) (b : List UInt8) (d : Nat) : Prop where
  eq : takeTx bs 0 = (t, b, d)
end Go.Proofs.YtcghbogkplcohaaDoor.Sha

/-
  A whole box written, the new world hidden; what a loop that climbs keeps. No conditions.
-/
namespace Go.Proofs.YtcghbogkplcohaaDoor.Sha
open Go Go.RowKit
/-- Where the leaf, the answer lie. -/
structure ClAt (w : World) (g : Nat) (lf : List UInt8) (wr : World) : Prop where
  leaf : wr.heap[g]? = some (.cells (lf.map bV).toArray 23 (0, 0))
  zero : wr.heap[g + 1]? = some (.cells (zM.map bV).toArray 23 (0, 0))
  low : Below w.heap.size w wr
  lo : w.heap.size ≤ g
theorem ClAt.below {w : World} {g : Nat} {lf : List UInt8} {wr w' : World} (h : ClAt w g lf wr) (hb : Below wr.heap.size wr w') : ClAt w g lf w' :=
  ⟨row_below h.leaf hb, row_below h.zero hb, h.low.trans (hb.mono h.low.size), h.lo⟩
theorem ClAt.turn {w : World} {g : Nat} {lf lf' : List UInt8} {wr w' : World} (h : ClAt w g lf wr) (hn : w'.heap[g]? = some (.cells (lf'.map bV).toArray 23 (0, 0))) (hg : wr.grownBy w' (some g)) : ClAt w g lf' w' :=
  ⟨hn, row_far h.zero hg (fun e => by have := Option.some.inj e; omega), h.low.grown hg h.low.size (fun k hk => by cases hk; exact h.lo), h.lo⟩
def climbInv (R : List UInt8) (p : List (List UInt8)) (w : World) (g : Nat) (va vi : Value) (wr : World) : Prop :=
  ∃ (k j : Nat) (lf : List UInt8), vi = .int .i64 j ∧ va = .int .i64 k ∧ j ≤ p.length ∧ k ≤ 1048576 ∧ climbL prH lf k (p.drop j) = R ∧ lf.length = 32 ∧ ClAt w g lf wr
theorem climb_step {R lf x : List UInt8} {p : List (List UInt8)} {k j : Nat} (h : climbL prH lf k (p.drop j) = R) (hj : j < p.length) (hx : x = p.getD j []) :
    climbL prH (if k % 2 = 0 then prH lf x else prH x lf) (k / 2) (p.drop (j + 1)) = R := by
  rw [List.drop_eq_getElem_cons hj, climbL] at h
  rw [hx, List.getD_eq_getElem?_getD, List.getElem?_eq_getElem hj]
  exact h
end Go.Proofs.YtcghbogkplcohaaDoor.Sha

/-
  Parts of a slice of elements of any size; a literal in a region that draws its order. No conditions beyond those that each states.
-/
namespace Go.Proofs.YtcghbogkplcohaaDoor.Sha
open Go Go.RowKit
theorem run_cutS_lh {P : Program} {w : World} (t e : TypeId) (s : Nat) (sp : Option Addr) (n cap l r : Nat) (hu : P.underlying t = some (.slice e)) (hsz : (P.info? e).map (·.size) = some s) (h1 : l ≤ r) (h2 : r ≤ cap) :
    (Instr.sliceAt t (.slice sp n cap) (some (.int .i64 l)) (some (.int .i64 r)) none).run P w = .ok (sliced sp l r cap s) w := by
  obtain ⟨i, hi, hs⟩ := Option.map_eq_some_iff.1 hsz
  have hu' : P.underlying t = some (.slice (P.elem t)) := by rw [elem_of hu]; exact hu
  rw [run_sliceAt_slice _ _ _ _ _ _ hu', run_slice_lh _ _ _ _ _ hu' _ _ _ _ (by omega) (by omega) (by omega), elem_of hu]
  simp [sizeOf, typeInfo, hi, hs, sliced, go_sem]
theorem run_cutS_h {P : Program} {w : World} (t e : TypeId) (s : Nat) (sp : Option Addr) (n cap r : Nat) (hu : P.underlying t = some (.slice e)) (hsz : (P.info? e).map (·.size) = some s) (h2 : r ≤ cap) :
    (Instr.sliceAt t (.slice sp n cap) none (some (.int .i64 r)) none).run P w = .ok (sliced sp 0 r cap s) w := by
  obtain ⟨i, hi, hs⟩ := Option.map_eq_some_iff.1 hsz
  have hu' : P.underlying t = some (.slice (P.elem t)) := by rw [elem_of hu]; exact hu
  rw [run_sliceAt_slice _ _ _ _ _ _ hu', run_slice_h _ _ _ _ _ hu' _ _ (by omega) (by omega), elem_of hu]
  simp [sizeOf, typeInfo, hi, hs, sliced, go_sem]
theorem run_cutS_l {P : Program} {w : World} (t e : TypeId) (s : Nat) (sp : Option Addr) (n cap l : Nat) (hu : P.underlying t = some (.slice e)) (hsz : (P.info? e).map (·.size) = some s) (h1 : l ≤ n) :
    (Instr.sliceAt t (.slice sp n cap) (some (.int .i64 l)) none none).run P w = .ok (sliced sp l n cap s) w := by
  obtain ⟨i, hi, hs⟩ := Option.map_eq_some_iff.1 hsz
  have hu' : P.underlying t = some (.slice (P.elem t)) := by rw [elem_of hu]; exact hu
  rw [run_sliceAt_slice _ _ _ _ _ _ hu', run_slice_l _ _ _ _ _ hu' _ _ (by omega) (by omega), elem_of hu]
  simp [sizeOf, typeInfo, hi, hs, sliced, go_sem]
section
variable {P : Program} {w : World} {ops : Array Oper} {rest : List Oper} {o : Oper} {a : Act} {Q : Exit → Act → World → Prop}
theorem wpList_cutS_lh (hgd : o.guard = none) (t : TypeId) (x lo hi : Operand) (ho : o.op = .slice t x (some lo) (some hi) none) (e : TypeId) (s : Nat) (hu : P.underlying t = some (.slice e)) (hsz : (P.info? e).map (·.size) = some s)
    (sp : Option Addr) (n cap : Nat) (l r : Nat) (hx : a.eval x = .slice sp n cap) (hl : a.eval lo = .int .i64 l) (hr : a.eval hi = .int .i64 r) (h1 : l ≤ r) (h2 : r ≤ cap)
    (h : ∀ v, Hid (v = sliced sp l r cap s) → wpList P ops Q rest (a.put o.dst v) w) : wpList P ops Q (o :: rest) a w := by
  refine wpList_plain hgd fun K hK => ?_
  unfold Oper.wp
  simp [execOp, ho, hx, hl, hr, run_cutS_lh (w := w) t e s sp n cap l r hu hsz h1 h2, Result.andThen]
  exact hK _ _ (h _ rfl)
theorem wpList_cutS_h (hgd : o.guard = none) (t : TypeId) (x hi : Operand) (ho : o.op = .slice t x none (some hi) none) (e : TypeId) (s : Nat) (hu : P.underlying t = some (.slice e)) (hsz : (P.info? e).map (·.size) = some s)
    (sp : Option Addr) (n cap : Nat) (r : Nat) (hx : a.eval x = .slice sp n cap) (hr : a.eval hi = .int .i64 r) (h2 : r ≤ cap)
    (h : ∀ v, Hid (v = sliced sp 0 r cap s) → wpList P ops Q rest (a.put o.dst v) w) : wpList P ops Q (o :: rest) a w := by
  refine wpList_plain hgd fun K hK => ?_
  unfold Oper.wp
  simp [execOp, ho, hx, hr, run_cutS_h (w := w) t e s sp n cap r hu hsz h2, Result.andThen]
  exact hK _ _ (h _ rfl)
theorem wpList_cutS_l (hgd : o.guard = none) (t : TypeId) (x lo : Operand) (ho : o.op = .slice t x (some lo) none none) (e : TypeId) (s : Nat) (hu : P.underlying t = some (.slice e)) (hsz : (P.info? e).map (·.size) = some s)
    (sp : Option Addr) (n cap : Nat) (l : Nat) (hx : a.eval x = .slice sp n cap) (hl : a.eval lo = .int .i64 l) (h1 : l ≤ n)
    (h : ∀ v, Hid (v = sliced sp l n cap s) → wpList P ops Q rest (a.put o.dst v) w) : wpList P ops Q (o :: rest) a w := by
  refine wpList_plain hgd fun K hK => ?_
  unfold Oper.wp
  simp [execOp, ho, hx, hl, run_cutS_l (w := w) t e s sp n cap l hu hsz h1, Result.andThen]
  exact hK _ _ (h _ rfl)
theorem yields_cutS_l {S : World → Prop} (hw : Region.wanted o (yielded ops a.tmps) = true) (t : TypeId) (x lo : Operand) (ho : o.op = .slice t x (some lo) none none) (e : TypeId) (s : Nat) (hu : P.underlying t = some (.slice e)) (hsz : (P.info? e).map (·.size) = some s)
    (sp : Option Addr) (n cap l : Nat) (v : Value) (hx : a.eval x = .slice sp n cap) (hl : a.eval lo = .int .i64 l) (h1 : l ≤ n) (hv : v = sliced sp l n cap s) : YieldsIf P ops S o v a :=
  .inl ⟨hw, fun w _ => by simp [execOp, ho, hx, hl, run_cutS_l (w := w) t e s sp n cap l hu hsz h1, Result.andThen, hv]⟩
theorem yields_cutS_h {S : World → Prop} (hw : Region.wanted o (yielded ops a.tmps) = true) (t : TypeId) (x hi : Operand) (ho : o.op = .slice t x none (some hi) none) (e : TypeId) (s : Nat) (hu : P.underlying t = some (.slice e)) (hsz : (P.info? e).map (·.size) = some s)
    (sp : Option Addr) (n cap r : Nat) (v : Value) (hx : a.eval x = .slice sp n cap) (hr : a.eval hi = .int .i64 r) (h2 : r ≤ cap) (hv : v = sliced sp 0 r cap s) : YieldsIf P ops S o v a :=
  .inl ⟨hw, fun w _ => by simp [execOp, ho, hx, hr, run_cutS_h (w := w) t e s sp n cap r hu hsz h2, Result.andThen, hv]⟩
end
theorem yieldsIf_build {P : Program} {ops : Array Oper} {S : World → Prop} {op : Oper} {a : Act} (hw : Region.wanted op (yielded ops a.tmps) = true) (t : TypeId) (parts : Array (Nat × Operand)) (ho : op.op = .build t parts) (ps : List (Nat × Value)) (hps : (parts.map fun (i, x) => (i, a.eval x)).toList = ps) (cs : Array Value)
    (hf : P.built t ps = some cs) : YieldsIf P ops S op (.agg cs) a :=
  .inl ⟨hw, fun w _ => by
    unfold execOp
    subst hps
    simp only [ho, Sem.run_bind, run_build w t _ _ hf, Result.andThen_ok, Sem.run_pure]⟩
end Go.Proofs.YtcghbogkplcohaaDoor.Sha
