/-
  Texts of this proof joined into one file: ShaSha, RefTwice, TxId, ShaReg, ShaArgs, ErrTab, TxSaysWalk, TxCloneA. What each holds, and under which conditions, its own first sentence tells.
-/
import Derived.ProofKit
import Derived.OpenShut
import Derived.ShutString
import Derived.ChangeOld
import Derived.Deep.DeepHandedRow
import Derived.Lib.LaidTab
import Derived.Stop.LaidErr
import Derived.Test.YtkabpbclmhmgfaaDoorMg04
import Derived.Test.YtkabpbclmhmgfaaDoorMg16
import Derived.Test.YtkabpbclmhmgfaaDoorMg09
import Derived.Test.YtkabpbclmhmgfaaDoorMg14
import Derived.Test.YtkabpbclmhmgfaaDoorMg07
import Derived.Test.YtkabpbclmhmgfaaDoorMg05
import Derived.Test.YtkabpbclmhmgfaaDoorCards
import Derived.Test.YtkabpbclmhmgfaaDoorTie
import Derived.Test.YtkabpbclmhmgfaaDoorMg02
import Derived.Test.YtkabpbclmhmgfaaDoorRows
import Derived.Test.YtkabpbclmhmgfaaDoorMg01
import Derived.Test.YtkabpbclmhmgfaaDoorMg10
/-
  digest.Sha answers the SHA-256 of the bytes that it is given, digest.Twice that of that, and turn nothing that was there. Conditions: the bytes lie where the slice says, the table is there, fewer than 2^59 bytes.
-/
namespace Go.Proofs.YtkabpbclmhmgfaaDoor.Sha
open Go Go.RowKit

/-- Write, whatever the slice. -/
theorem write_any (l bs : List UInt8) (v : Value) (B : Nat) (w : World) (hk : KTab w) (hB0 : B ≠ 8) (hsrc : SrcB w v bs) (hne : ∀ sp n cap, v = .slice (some sp) n cap → 0 < n → sp.block ≠ B)
    (hlen : l.length + bs.length ≤ 1152921504606846975) (hinv : WInv w B l) :
    Calls Tryd.prog 84 #[.pointer (some ⟨B, 0, none⟩), v] w fun e w' =>
      e = .returned (.tuple #[]) ∧ WInv w' B (l ++ bs) ∧ w.grownBy w' (some B) := by
  rcases hsrc with ⟨sp, cap, rfl, rfl⟩ | ⟨h0, bb, off, cap, rfl, hc, hs⟩
  · rw [List.append_nil]
    exact write_none l sp cap B w (by simpa using hlen) hinv
  · exact write_some l bs bb off cap B w hk hB0 (hne _ _ _ rfl h0) hc hlen hinv hs

theorem sha_setup (w : World) (z : Array Value) (T : TypeId) : Below w.heap.size w ((w.alloc (.cells z T)).alloc (.cells zeroW 109))
    ∧ ((w.alloc (.cells z T)).alloc (.cells zeroW 109)).heap.size = w.heap.size + 2
    ∧ ((w.alloc (.cells z T)).alloc (.cells zeroW 109)).heap[w.heap.size + 1]? = some (.cells zeroW 109 (0, 0))
    ∧ ((w.alloc (.cells z T)).alloc (.cells zeroW 109)).heap[w.heap.size]? = some (.cells z T (0, 0)) :=
  ⟨((Below.refl _ _).alloc (Nat.le_refl _) _).alloc (by simp) _, by simp, heap_alloc2_new _ _ _, heap_alloc2_old _ _ _⟩
set_option maxHeartbeats 1000000 in
set_option maxRecDepth 100000 in
theorem sha_any (bs : List UInt8) (v : Value) (w : World) (hk : KTab w) (hsrc : SrcB w v bs) (hlen : bs.length ≤ 576460752303423487) :
    Calls Tryd.prog 71 #[v] w fun e w' => e = .returned (.agg ((sha bs).map bV).toArray) ∧ Below w.heap.size w w' := by
  have hzw := zero_writer
  have HK := Lib.hid hk
  have HS := Lib.hid hsrc
  clear hk hsrc
  go_enter Tryd.func71, Tryd.ntmps71
  go_wp2_with fail
  obtain ⟨f1, f2, f3, f4⟩ := sha_setup w (List.replicate 32 (bV 0)).toArray 35
  generalize hw1 : World.alloc _ _ = w1
  have e1 : ((w.alloc (.cells (List.replicate 32 (bV 0)).toArray 35)).alloc (.cells zeroW 109)) = w1 := hw1
  rw [e1] at f1 f2 f3 f4
  have hK1 := HK.out.below f1
  have hp := HK.out.pos
  clear hw1 e1 hzw
  refine (write_any [] bs v (w.heap.size + 1) w1 hK1 (by omega) (HS.out.below f1) (HS.out.ne (Nat.le_succ _)) (by simpa using Nat.le_trans hlen (by omega)) (zero_inv f3)).mono ?_
  rintro e w2 ⟨rfl, hI, hG⟩
  rw [List.nil_append] at hI
  have B2 := grownBy_below hG f1 (Nat.le_succ _) (by omega)
  have h2 : w2.heap[w.heap.size]? = some (.cells (List.replicate 32 (bV 0)).toArray 35 (0, 0)) := by
    rw [hG.block _ (by omega) (fun e => by have := Option.some.inj e; omega)]
    exact f4
  have hs2 : w.heap.size < w2.heap.size := by have := hG.size; omega
  have HI := Lib.hid hI
  have HB2 := Lib.hid B2
  have HH2 := Lib.hid h2
  clear f1 f2 f3 f4 hK1 hI hG B2 h2
  go_wp2_with fail
  refine (sum_any bs (w.heap.size + 1) w2 (HK.out.below HB2.out) hlen HI.out).mono ?_
  rintro e w3 ⟨rfl, hb3⟩
  have h3 : w3.heap[w.heap.size]? = some (.cells (List.replicate 32 (bV 0)).toArray 35 (0, 0)) := by rw [hb3.block _ hs2]; exact HH2.out
  have HH3 := Lib.hid h3
  have B3 := Lib.hid (HB2.out.trans (hb3.mono (by omega)))
  have hl : ((sha bs).map bV).toArray.size = 32 := by simp [sha_length]
  have HL := Lib.hid hl
  clear h3 hb3 hl
  go_wp2_with ((with_reducible show wpList _ _ _ _ _ _); refine wpList_store_row rfl 35 (.tmp 2) (.tmp 6) rfl w.heap.size ((sha bs).map bV).toArray rfl rfl 35 _ HH3.out (by rw [HL.out]; kernel_rfl) (by rw [HL.out]; rfl) (bV_one _) ?_; go_frame)
  refine bodyPost_ret (results_cell_row rfl _ _ w.heap.size 35 ((sha bs).map bV).toArray (0, 0) (.array 32 5) rfl (setRow_heap _ _ _ _ _ _ HH3.out) Tryd.underlying35 rfl (by rw [HL.out]; kernel_rfl)) rfl ⟨rfl, below_setRow B3.out (Nat.le_refl _) _⟩
end Go.Proofs.YtkabpbclmhmgfaaDoor.Sha

/-
  digest.Twice and the statements' own Twice answer the SHA-256 of the SHA-256 of the bytes; nothing that was there turns. Conditions: the bytes lie where the slice says, fewer than 2^45; for digest.Twice the table is there.
-/
namespace Go.Proofs.YtkabpbclmhmgfaaDoor.Sha
open Go Go.RowKit

set_option maxHeartbeats 1000000 in
set_option maxRecDepth 100000 in
theorem twice_any (bs : List UInt8) (v : Value) (w : World) (hk : KTab w) (hsrc : SrcB w v bs) (hlen : bs.length ≤ 576460752303423487) :
    Calls Tryd.prog 42 #[v] w fun e w' => e = .returned (.agg ((sha (sha bs)).map bV).toArray) ∧ Below w.heap.size w w' := by
  have HK := Lib.hid hk
  have HS := Lib.hid hsrc
  have hl : ∀ l : List UInt8, l.length = 32 → (l.map bV).toArray.size = 32 := fun l h => by simp [h]
  have HL := Lib.hid hl
  clear hk hsrc hl
  go_enter Tryd.func42, Tryd.ntmps42
  go_wp2_with fail
  have b0 : Below w.heap.size w (w.alloc (.cells (List.replicate 32 (bV 0)).toArray 35)) := (Below.refl _ _).alloc (Nat.le_refl _) _
  have f0 : (w.alloc (.cells (List.replicate 32 (bV 0)).toArray 35)).heap[w.heap.size]? = some (.cells (List.replicate 32 (bV 0)).toArray 35 (0, 0)) := heap_alloc_new _ _
  have z0 : w.heap.size < (w.alloc (.cells (List.replicate 32 (bV 0)).toArray 35)).heap.size := by simp
  generalize hw0 : World.alloc _ _ = w0
  have q0 : w.alloc (.cells (List.replicate 32 (bV 0)).toArray 35) = w0 := hw0
  rw [q0] at b0 f0 z0
  clear hw0 q0
  refine (sha_any bs v w0 (HK.out.below b0) (HS.out.below b0) hlen).mono ?_
  rintro e w1 ⟨rfl, hb1⟩
  have e1 : Below w.heap.size w w1 := b0.trans (hb1.mono b0.size)
  have e2 : w1.heap[w.heap.size]? = some (.cells (List.replicate 32 (bV 0)).toArray 35 (0, 0)) := row_below f0 hb1
  have e3 : w.heap.size < w1.heap.size := Nat.lt_of_lt_of_le z0 hb1.size
  have E1 := Lib.hid e1
  have E2 := Lib.hid e2
  clear b0 f0 z0 hb1 e1 e2
  go_upto_region 2 with ((with_reducible show wpList _ _ _ _ _ _); refine wpList_store_row rfl 35 (.tmp 3) (.tmp 5) rfl w1.heap.size ((sha bs).map bV).toArray rfl rfl 35 _ (heap_alloc_new _ _) (by rw [HL.out _ (sha_length _)]; kernel_rfl) (by rw [HL.out _ (sha_length _)]; rfl) (bV_one _) ?_; go_frame)
  have e1 := E1.out
  have e2 := E2.out
  clear E1 E2
  obtain ⟨f1, f2, f3, f4⟩ := fill_setup e1 (List.replicate 32 (bV 0)).toArray ((sha bs).map bV).toArray 35
  have e4 : ((w1.alloc (.cells (List.replicate 32 (bV 0)).toArray 35)).setRow w1.heap.size ((sha bs).map bV).toArray).heap[w.heap.size]? = some (.cells (List.replicate 32 (bV 0)).toArray 35 (0, 0)) := by rw [f4.block _ e3]; exact e2
  obtain ⟨g, hg⟩ : ∃ g, g = w1.heap.size := ⟨_, rfl⟩
  generalize hw2 : World.setRow _ _ _ = w2
  have e5 : ((w1.alloc (.cells (List.replicate 32 (bV 0)).toArray 35)).setRow w1.heap.size ((sha bs).map bV).toArray) = w2 := hw2
  rw [e5] at f1 f2 f3 f4 e4
  rw [← hg] at f2 f3 ⊢
  have HK2 := Lib.hid (HK.out.below f1)
  have HS2 := Lib.hid (src_block (sha_length bs) f2)
  have F1 := Lib.hid f1
  have E4 := Lib.hid e4
  have hlt : w.heap.size < w2.heap.size := by omega
  clear f1 f2 f3 f4 e1 e2 e3 e4 e5 hw2 hg
  go_wp2_with fail
  refine (sha_any (sha bs) _ _ HK2.out HS2.out (by rw [sha_length]; omega)).mono ?_
  rintro e w3 ⟨rfl, hb3⟩
  have h3 : w3.heap[w.heap.size]? = some (.cells (List.replicate 32 (bV 0)).toArray 35 (0, 0)) := by rw [hb3.block _ hlt]; exact E4.out
  have H3 := Lib.hid h3
  have B3 := Lib.hid (F1.out.trans (hb3.mono (by omega)))
  clear h3 hb3
  go_wp2_with ((with_reducible show wpList _ _ _ _ _ _); refine wpList_store_row rfl 35 (.tmp 2) (.tmp 7) rfl w.heap.size ((sha (sha bs)).map bV).toArray rfl rfl 35 _ H3.out (by rw [HL.out _ (sha_length _)]; kernel_rfl) (by rw [HL.out _ (sha_length _)]; rfl) (bV_one _) ?_; go_frame)
  refine bodyPost_ret (results_cell_row rfl _ _ w.heap.size 35 ((sha (sha bs)).map bV).toArray (0, 0) (.array 32 5) rfl (setRow_heap _ _ _ _ _ _ H3.out) Tryd.underlying35 rfl (by rw [HL.out _ (sha_length _)]; kernel_rfl)) rfl ⟨rfl, below_setRow B3.out (Nat.le_refl _) _⟩
set_option maxHeartbeats 1000000 in
set_option maxRecDepth 100000 in
theorem ref_twice (bs : List UInt8) (sp : Option Addr) (n cap : Nat) (w : World) (hsrc : SrcB w (.slice sp n cap) bs) (hn : n ≤ 35184372088832) :
    Calls Tryd.prog 17 #[.slice sp n cap] w fun e w' => e = .returned (.agg ((sha (sha bs)).map bV).toArray) ∧ Below w.heap.size w w' := by
  have HS := Lib.hid hsrc
  have hl : ∀ l : List UInt8, l.length = 32 → (l.map bV).toArray.size = 32 := fun l h => by simp [h]
  have HL := Lib.hid hl
  clear hsrc hl
  go_enter Tryd.func17, Tryd.ntmps17
  go_wp2_with fail
  have b0 : Below w.heap.size w (w.alloc (.cells (List.replicate 32 (bV 0)).toArray 35)) := (Below.refl _ _).alloc (Nat.le_refl _) _
  have f0 : (w.alloc (.cells (List.replicate 32 (bV 0)).toArray 35)).heap[w.heap.size]? = some (.cells (List.replicate 32 (bV 0)).toArray 35 (0, 0)) := heap_alloc_new _ _
  have z0 : w.heap.size < (w.alloc (.cells (List.replicate 32 (bV 0)).toArray 35)).heap.size := by simp
  generalize hw0 : World.alloc _ _ = w0
  have q0 : w.alloc (.cells (List.replicate 32 (bV 0)).toArray 35) = w0 := hw0
  rw [q0] at b0 f0 z0
  clear hw0 q0
  refine (ref_any bs sp n cap w0 (HS.out.below b0) hn).mono ?_
  rintro e w1 ⟨rfl, hb1⟩
  have e1 : Below w.heap.size w w1 := b0.trans (hb1.mono b0.size)
  have e2 : w1.heap[w.heap.size]? = some (.cells (List.replicate 32 (bV 0)).toArray 35 (0, 0)) := row_below f0 hb1
  have e3 : w.heap.size < w1.heap.size := Nat.lt_of_lt_of_le z0 hb1.size
  have E1 := Lib.hid e1
  have E2 := Lib.hid e2
  clear b0 f0 z0 hb1 e1 e2
  go_upto_region 2 with ((with_reducible show wpList _ _ _ _ _ _); refine wpList_store_row rfl 35 (.tmp 3) (.tmp 5) rfl w1.heap.size ((sha bs).map bV).toArray rfl rfl 35 _ (heap_alloc_new _ _) (by rw [HL.out _ (sha_length _)]; kernel_rfl) (by rw [HL.out _ (sha_length _)]; rfl) (bV_one _) ?_; go_frame)
  have e1 := E1.out
  have e2 := E2.out
  clear E1 E2
  obtain ⟨f1, f2, f3, f4⟩ := fill_setup e1 (List.replicate 32 (bV 0)).toArray ((sha bs).map bV).toArray 35
  have e4 : ((w1.alloc (.cells (List.replicate 32 (bV 0)).toArray 35)).setRow w1.heap.size ((sha bs).map bV).toArray).heap[w.heap.size]? = some (.cells (List.replicate 32 (bV 0)).toArray 35 (0, 0)) := by rw [f4.block _ e3]; exact e2
  obtain ⟨g, hg⟩ : ∃ g, g = w1.heap.size := ⟨_, rfl⟩
  generalize hw2 : World.setRow _ _ _ = w2
  have e5 : ((w1.alloc (.cells (List.replicate 32 (bV 0)).toArray 35)).setRow w1.heap.size ((sha bs).map bV).toArray) = w2 := hw2
  rw [e5] at f1 f2 f3 f4 e4
  rw [← hg] at f2 f3 ⊢
  have HS2 := Lib.hid (src_block (sha_length bs) f2)
  have F1 := Lib.hid f1
  have E4 := Lib.hid e4
  have hlt : w.heap.size < w2.heap.size := by omega
  clear f1 f2 f3 f4 e1 e2 e3 e4 e5 hw2 hg
  go_wp2_with fail
  refine (ref_any (sha bs) _ _ _ _ HS2.out (by omega)).mono ?_
  rintro e w3 ⟨rfl, hb3⟩
  have h3 : w3.heap[w.heap.size]? = some (.cells (List.replicate 32 (bV 0)).toArray 35 (0, 0)) := by rw [hb3.block _ hlt]; exact E4.out
  have H3 := Lib.hid h3
  have B3 := Lib.hid (F1.out.trans (hb3.mono (by omega)))
  clear h3 hb3
  go_wp2_with ((with_reducible show wpList _ _ _ _ _ _); refine wpList_store_row rfl 35 (.tmp 2) (.tmp 7) rfl w.heap.size ((sha (sha bs)).map bV).toArray rfl rfl 35 _ H3.out (by rw [HL.out _ (sha_length _)]; kernel_rfl) (by rw [HL.out _ (sha_length _)]; rfl) (bV_one _) ?_; go_frame)
  refine bodyPost_ret (results_cell_row rfl _ _ w.heap.size 35 ((sha (sha bs)).map bV).toArray (0, 0) (.array 32 5) rfl (setRow_heap _ _ _ _ _ _ H3.out) Tryd.underlying35 rfl (by rw [HL.out _ (sha_length _)]; kernel_rfl)) rfl ⟨rfl, below_setRow B3.out (Nat.le_refl _) _⟩
end Go.Proofs.YtkabpbclmhmgfaaDoor.Sha

/-
  Package tx tells whether two transactions have the same bytes, and the digest that a transaction goes by, given what Bytes answers. Nothing that was there turns. Condition: transactions of a few inputs and outputs that lie in memory.
-/
namespace Go.Proofs.YtkabpbclmhmgfaaDoor.Sha
open Go Go.RowKit

theorem txs_differ {t u : TTx} (ht : TxSmall t) (hu : TxSmall u) : txB t = txB u ↔ t = u := ⟨fun h => txB_inj ht.fit hu.fit h, fun h => by rw [h]⟩
set_option maxHeartbeats 1000000 in
set_option maxRecDepth 100000 in
theorem id_of (HBy : BytesC) : IdC := by
  intro t v w hk h1 hs
  have H1 := Lib.hid h1
  obtain ⟨_, iv, ov, rfl, _, _⟩ := h1
  have HK := Lib.hid hk
  have TS := Lib.hid hs
  have HBy := Lib.hid HBy
  clear hk hs
  have HOne := Lib.hid (bV_one (sha (sha (txB t))))
  have HLen : Hid ((((sha (sha (txB t))).map bV).toArray).size = 32) := by show _ = _; simp [sha_length]
  obtain ⟨dg, hdg⟩ : ∃ dg, dg = ((sha (sha (txB t))).map bV).toArray := ⟨_, rfl⟩
  rw [← hdg] at HOne HLen ⊢
  have HD := Lib.hid hdg
  clear hdg
  go_enter Tryd.func16, Tryd.ntmps16
  go_upto_region 1 with fail
  have f1 := row_below (heap_alloc_new w (.cells (txL t iv ov).toArray 26 (0, 0))) ((Below.refl _ _).alloc (Nat.le_refl _) (.cells (List.replicate 32 (bV 0)).toArray 35))
  have f2 := heap_alloc_new (w.alloc (.cells (txL t iv ov).toArray 26 (0, 0))) (.cells (List.replicate 32 (bV 0)).toArray 35)
  have b1 := ((Below.refl w.heap.size w).alloc (Nat.le_refl _) (.cells (txL t iv ov).toArray 26 (0, 0))).alloc (by simp) (.cells (List.replicate 32 (bV 0)).toArray 35)
  rw [World.size_alloc] at f2
  generalize hw1 : World.alloc _ _ = w1
  have e1 : (w.alloc (.cells (txL t iv ov).toArray 26 (0, 0))).alloc (.cells (List.replicate 32 (bV 0)).toArray 35) = w1 := hw1
  rw [e1] at f1 f2 b1
  have F1 := Lib.hid f1
  have F2 := Lib.hid f2
  have B1 := Lib.hid b1
  clear f1 f2 b1 hw1 e1
  go_wp2_with ((with_reducible show wpList _ _ _ _ _ _); refine wpList_load_row rfl 26 (.tmp 1) rfl w.heap.size rfl 26 (txL t iv ov).toArray (0, 0) _ F1.out Tryd.underlying26 rfl (by kernel_rfl) ?_; go_frame)
  refine (HBy.out t _ w1 (H1.out.below B1.out) TS.out).mono ?_
  rintro e w2 ⟨v2, rfl, ho, hb2⟩
  have S2 := Lib.hid (src_own ho)
  have B2 := Lib.hid (B1.out.trans (hb2.mono B1.out.size))
  have F2 := Lib.hid (row_below F2.out hb2)
  have HLn : Hid ((txB t).length ≤ 576460752303423487) := Nat.le_trans TS.out.len (by omega)
  clear ho hb2
  go_wp2_with fail
  have TW := twice_any (txB t) v2 w2 (HK.out.below B2.out) S2.out HLn.out
  rw [← HD.out] at TW
  refine TW.mono ?_
  rintro e w3 ⟨rfl, hb3⟩
  clear TW
  have B3 := Lib.hid (B2.out.trans (hb3.mono B2.out.size))
  have F3 := Lib.hid (row_below F2.out hb3)
  clear hb3
  go_wp2_with ((with_reducible show wpList _ _ _ _ _ _); refine wpList_store_row rfl 35 (.tmp 2) (.tmp 5) rfl (w.heap.size + 1) dg rfl rfl 35 _ F3.out (by rw [HLen.out]; kernel_rfl) (by rw [HLen.out]; rfl) HOne.out ?_; go_frame)
  refine bodyPost_ret (results_cell_row rfl _ _ (w.heap.size + 1) 35 dg (0, 0) (.array 32 5) rfl (setRow_heap _ _ _ _ _ _ F3.out) Tryd.underlying35 rfl (by rw [HLen.out]; kernel_rfl)) rfl ⟨rfl, below_setRow B3.out (Nat.le_succ _) _⟩
set_option maxHeartbeats 1000000 in
set_option maxRecDepth 100000 in
theorem same_of_tx (HBy : BytesC) : SameC := by
  intro t u v v' w b hb h1 h2 hs hs'
  have hb2 : b = decide (txB t = txB u) := by
    rw [Bool.eq_iff_iff, decide_eq_true_eq, txs_differ hs hs']
    exact hb
  have H1 := Lib.hid h1
  have H2 := Lib.hid h2
  obtain ⟨_, iv, ov, rfl, _, _⟩ := h1
  obtain ⟨_, iv', ov', rfl, _, _⟩ := h2
  have TS := Lib.hid hs
  have US := Lib.hid hs'
  have HB := Lib.hid hb2
  have HBy := Lib.hid HBy
  clear hs hs' hb hb2
  go_enter Tryd.func23, Tryd.ntmps23
  go_upto_region 1 with fail
  obtain ⟨b1, f1, f2⟩ := boxes2 w (txL t iv ov) (txL u iv' ov') 26
  generalize hw1 : World.alloc _ _ = w1
  rw [hw1] at b1 f1 f2
  have B1 := Lib.hid b1
  have F := Lib.hid f1
  have F' := Lib.hid f2
  have H1 := Lib.hid (H1.out.below b1)
  have H2 := Lib.hid (H2.out.below b1)
  clear hw1 b1 f1 f2
  refine wp_region_held_drew (S := (fun w' => Below w1.heap.size w1 w')) (by kernel_rfl) (Below.drew (Below.refl _ _)) (fun hHeld => ?_)
  generalize hwd : w1.drew = wd
  rw [hwd] at hHeld
  clear hwd
  refine held_take (i := 0) (v := (.agg (txL t iv ov).toArray)) rfl (by kernel_rfl) (by kernel_rfl) (by kernel_rfl) (fun _ _ _ h => h) (yieldsIf_load_row (by rfl) 26 (.tmp 2) rfl w.heap.size rfl 26 _ (0, 0) _ (fun w' hw' => row_below F.out hw') Tryd.underlying26 rfl (by kernel_rfl)) hHeld ?_
  go_frame
  refine held_take (i := 2) (v := (.agg (txL u iv' ov').toArray)) rfl (by kernel_rfl) (by kernel_rfl) (by kernel_rfl) (fun _ _ _ h => h) (yieldsIf_load_row (by rfl) 26 (.tmp 3) rfl (w.heap.size + 1) rfl 26 _ (0, 0) _ (fun w' hw' => row_below F'.out hw') Tryd.underlying26 rfl (by kernel_rfl)) hHeld ?_
  go_frame
  refine wpAnyH_ready (rs := [1]) (by kernel_rfl) (by simp) (held_cons rfl (fun K hK => ?_) AllReadyH.nil)
  go_simp
  refine (HBy.out t _ wd (H1.out.below hHeld) TS.out).mono ?_
  rintro e w2 ⟨v2, rfl, ho, hb8⟩
  have O1 := Lib.hid (src_own ho)
  have hb9 := hHeld.trans (hb8.mono hHeld.size)
  have HB8 := Lib.hid hb8
  clear hHeld ho hb8
  go_wp2_with fail
  refine hK.out _ _ hb9 (fun hHeld => ?_)
  clear hK K hb9
  refine wpAnyH_ready (rs := [3]) (by kernel_rfl) (by simp) (held_cons rfl (fun K hK => ?_) AllReadyH.nil)
  go_simp
  refine (HBy.out u _ w2 (H2.out.below hHeld) US.out).mono ?_
  rintro e w3 ⟨v3, rfl, ho, hb8⟩
  have O2 := Lib.hid (src_own ho)
  have hb9 := hHeld.trans (hb8.mono hHeld.size)
  have HB8 := Lib.hid hb8
  clear hHeld ho hb8
  go_wp2_with fail
  refine hK.out _ _ hb9 (fun hHeld => ?_)
  clear hK K hb9
  have O1 := Lib.hid (O1.out.below HB8.out)
  refine wpAnyH_ready (rs := [4]) (by kernel_rfl) (by simp) (held_cons rfl (fun K hK => ?_) AllReadyH.nil)
  go_simp
  refine (equal_any (txB t) (txB u) v2 v3 w3 O1.out O2.out b HB.out).mono ?_
  rintro e w' ⟨rfl, rfl⟩
  go_wp2_with fail
  refine hK.out _ _ hHeld (fun hHeld => ?_)
  clear hK K
  refine held_take (i := 5) (v := (.bool b)) rfl (by kernel_rfl) (by kernel_rfl) (by kernel_rfl) (fun _ _ _ h => h) (Or.inl ⟨by rfl, fun w' _ => by kernel_rfl⟩) hHeld ?_
  go_frame
  refine wpAnyH_done (by kernel_rfl) ?_ _
  have BE := Lib.hid hHeld
  clear hHeld
  go_wp2_with fail
  go_ret
  exact ⟨rfl, B1.out.trans (BE.out.mono B1.out.size)⟩
end Go.Proofs.YtkabpbclmhmgfaaDoor.Sha

/-
  A region that draws its order, whose operations only read and whose callees make memory but turn none that was there: one walk in the text's order serves every order. A slice cut from one that reads as bytes reads as those bytes' part. No conditions beyond those that each states.
-/
namespace Go.Proofs.YtkabpbclmhmgfaaDoor.Sha
open Go Go.RowKit

theorem same_true (x y : List UInt8) (hxy : x = y) (hx : x.length = 32) (w : World) :
    Calls Tryd.prog 15 #[.agg (x.map bV).toArray, .agg (y.map bV).toArray] w fun e w' => e = .returned (.bool true) ∧ Below w.heap.size w w' := by
  subst hxy
  have := same_any x x hx hx w
  rw [decide_eq_true rfl] at this
  exact this

end Go.Proofs.YtkabpbclmhmgfaaDoor.Sha

/-
  How the statements' arguments and the listed table read: a slice of bytes or numbers that came in, the table of the rounds' words, a start that fits. No conditions.
-/
namespace Go.Proofs.YtkabpbclmhmgfaaDoor.Sha
open Go Go.ChangeShapes Go.WideShapes Go.ChangeAt Go.RowKit

theorem gTab : Tryd.prog.globalNamed "sargasso/digest.roundWords" = some 8 := by kernel_rfl
theorem gTabType : (Tryd.prog.globals[8]?).map (·.type) = some 129 := by kernel_rfl
theorem cellsTab : Tryd.prog.cellsOf 129 = 64 := by kernel_rfl
theorem cellsU32 : Tryd.prog.cellsOf 22 = 1 := by kernel_rfl
def kInts : List Int := kList.map wv
theorem kInts_get (t : Nat) (h : t < 64) : kInts.getD t 0 = wv (kW t) := by
  unfold kInts kW
  simp only [List.getD, List.getElem?_map]
  rw [List.getElem?_eq_getElem (show t < kList.length from h)]
  rfl
theorem laid_list {H : Type} : (Rows.laid_sargasso_digest_roundWords : DataW H) = Lib.tabData .u32 kInts := rfl
/-- WHAT THE ROW's LIST GIVES: the table's cells. -/
theorem table {W : World} (h : laidMetH Tryd.prog [("sargasso/digest.roundWords", Rows.laid_sargasso_digest_roundWords)] W) : KTab W := by
  rw [laid_list] at h
  have hT := Lib.tabIs_of_head (rest := []) gTab gTabType Tryd.underlying129 Tryd.underlying22 cellsU32 cellsTab h
  intro t ht
  rw [hT.cell gTab t (show t < 64 from ht), kInts_get t ht]
/-- A WORLD FOR THE WITNESS: the settled one, the table holding what its initialiser lays. -/
noncomputable def laidWorld (os : Os) : World :=
  { World.holding Tryd.prog os ⟨#[], #[], []⟩ with heap := (World.holding Tryd.prog os ⟨#[], #[], []⟩).heap.modify 8 fun
      | .cells _ t frozen => .cells (kList.map wV).toArray t frozen
      | o => o }
end Go.Proofs.YtkabpbclmhmgfaaDoor.Sha

/-
  What a row that lists 25 errors of package api gives: each is there, each its own; a start that fits. No conditions.
-/
namespace Go.Proofs.YtkabpbclmhmgfaaDoor.Sha
open Go Go.ChangeShapes Go.WideShapes Go.ChangeAt Go.RowKit

/-- The listed errors: name, place, text. -/
def errTabList : List (String × Nat × List UInt8) := [("sargasso/api.ErrEnd", 7, [105, 116, 32, 101, 110, 100, 115, 32, 116, 111, 111, 32, 101, 97, 114, 108, 121]), ("sargasso/api.ErrShape", 6, [110, 111, 116, 32, 97, 115, 32, 105, 116, 32, 104, 97, 115, 32, 116, 111, 32, 98, 101]), ("sargasso/api.ErrLong", 1, [116, 111, 111, 32, 108, 111, 110, 103]), ("sargasso/api.ErrMany", 0, [116, 111, 111, 32, 109, 97, 110, 121, 44, 32, 111, 114, 32, 116, 111, 111, 32, 102, 101, 119]), ("sargasso/api.ErrValue", 3, [97, 110, 32, 97, 109, 111, 117, 110, 116, 32, 116, 104, 97, 116, 32, 99, 97, 110, 39, 116, 32, 98, 101]), ("sargasso/api.ErrTwice", 4, [111, 110, 101, 32, 116, 104, 105, 110, 103, 32, 116, 119, 105, 99, 101]), ("sargasso/api.ErrBase", 5, [110, 111, 32, 102, 105, 114, 115, 116, 32, 116, 114, 97, 110, 115, 97, 99, 116, 105, 111, 110, 32, 119, 104, 101, 114, 101, 32, 116, 104, 101, 114, 101, 32, 104, 97, 115, 32, 116, 111, 32, 98, 101, 32, 111, 110, 101, 44, 32, 111, 114, 32, 111, 110, 101, 32, 119, 104, 101, 114, 101, 32, 116, 104, 101, 114, 101, 32, 109, 97, 121, 32, 98, 101, 32, 110, 111, 110, 101]), ("sargasso/api.ErrRoot", 9, [97, 32, 114, 111, 111, 116, 32, 116, 104, 97, 116, 32, 100, 111, 101, 115, 32, 110, 111, 116, 32, 102, 105, 116]), ("sargasso/api.ErrKnown", 10, [107, 110, 111, 119, 110, 32, 97, 108, 114, 101, 97, 100, 121]), ("sargasso/api.ErrParent", 11, [110, 111, 32, 115, 117, 99, 104, 32, 112, 97, 114, 101, 110, 116]), ("sargasso/api.ErrInvalid", 12, [98, 101, 104, 105, 110, 100, 32, 119, 104, 97, 116, 32, 105, 115, 32, 110, 111, 116, 32, 118, 97, 108, 105, 100]), ("sargasso/api.ErrTime", 13, [97, 32, 116, 105, 109, 101, 32, 116, 104, 97, 116, 32, 105, 115, 32, 116, 111, 111, 32, 101, 97, 114, 108, 121]), ("sargasso/api.ErrMissing", 14, [97, 32, 99, 111, 105, 110, 32, 116, 104, 97, 116, 32, 105, 115, 32, 110, 111, 116, 32, 116, 104, 101, 114, 101]), ("sargasso/api.ErrKey", 2, [97, 32, 107, 101, 121, 32, 116, 104, 97, 116, 32, 100, 111, 101, 115, 32, 110, 111, 116, 32, 102, 105, 116]), ("sargasso/api.ErrYoung", 15, [97, 32, 99, 111, 105, 110, 32, 116, 104, 97, 116, 32, 105, 115, 32, 116, 111, 111, 32, 121, 111, 117, 110, 103]), ("sargasso/api.ErrEarly", 16, [116, 111, 111, 32, 101, 97, 114, 108, 121, 32, 116, 111, 32, 98, 101, 32, 116, 97, 107, 101, 110]), ("sargasso/api.ErrLess", 17, [108, 101, 115, 115, 32, 99, 111, 109, 101, 115, 32, 105, 110, 32, 116, 104, 97, 110, 32, 103, 111, 101, 115, 32, 111, 117, 116]), ("sargasso/api.ErrReward", 18, [109, 111, 114, 101, 32, 116, 104, 97, 110, 32, 116, 104, 101, 32, 114, 101, 119, 97, 114, 100]), ("sargasso/api.ErrClash", 19, [97, 32, 99, 111, 105, 110, 32, 116, 104, 97, 116, 32, 105, 115, 32, 115, 112, 101, 110, 116, 32, 105, 110, 32, 116, 104, 101, 32, 112, 111, 111, 108]), ("sargasso/api.ErrLimit", 20, [116, 111, 111, 32, 109, 97, 110, 121, 32, 116, 104, 97, 116, 32, 104, 97, 110, 103, 32, 116, 111, 103, 101, 116, 104, 101, 114]), ("sargasso/api.ErrFull", 21, [116, 104, 101, 114, 101, 32, 105, 115, 32, 110, 111, 32, 114, 111, 111, 109]), ("sargasso/api.ErrRange", 22, [97, 32, 110, 117, 109, 98, 101, 114, 32, 111, 117, 116, 32, 111, 102, 32, 105, 116, 115, 32, 114, 97, 110, 103, 101]), ("sargasso/api.ErrNone", 23, [116, 104, 101, 114, 101, 32, 105, 115, 32, 110, 111, 110, 101]), ("sargasso/api.ErrWord", 24, [110, 111, 32, 115, 117, 99, 104, 32, 119, 111, 114, 100]), ("sargasso/api.ErrNumber", 25, [110, 111, 116, 32, 97, 32, 110, 117, 109, 98, 101, 114])]
def errTabRow (x : String × Nat × List UInt8) : String × DataW Unit := (x.1, .iface "*errors.errorString" (.ptr (.agg [.lit (.string x.2.2)])))
theorem errTab_laid : Rows.txSaysRow.laid = errTabList.map errTabRow ++ [("sargasso/digest.roundWords", Rows.laid_sargasso_digest_roundWords)] := rfl
theorem errTab_globals : (errTabList.all fun x => decide (Tryd.prog.globalNamed x.1 = some x.2.1) && decide ((Tryd.prog.globals[x.2.1]?).map (·.type) = some 40)) = true := by kernel_rfl
theorem errTab_star : "*" ++ "errors.errorString" = "*errors.errorString" := by decide
theorem errTab_ptr (u : TypeId) (h : Tryd.prog.typeName? 3 u = some "*errors.errorString") : u = 133 :=
  typeName_ptr_named (nm := "errors.errorString") (by rw [errTab_star]; kernel_rfl) (by kernel_rfl) (by decide) u (by rw [errTab_star]; exact h)
theorem errTab_cells : Tryd.prog.cellsOf 150 = 1 := by kernel_rfl
theorem errTab_cellsStr : Tryd.prog.cellsOf 9 = 1 := by kernel_rfl
def errTabIs (W : World) (x : String × Nat × List UInt8) (a : Addr) : Prop :=
  W.cell? ⟨x.2.1, 0, none⟩ = some (.iface 133 (.pointer (some a))) ∧ (∃ s, W.cell? a = some (.string s) ∧ s.data.toList = x.2.2) ∧ ∃ c t, W.heap[a.block]? = some (.cells c t (0, 0))
set_option maxRecDepth 100000 in
theorem errTab_head {W : World} {x : String × Nat × List UInt8} {r : List (String × DataW Unit)} (hg : Tryd.prog.globalNamed x.1 = some x.2.1) (ht : (Tryd.prog.globals[x.2.1]?).map (·.type) = some 40) (h : laidMet Tryd.prog (errTabRow x :: r) W) : ∃ a, errTabIs W x a := by
  obtain ⟨a, s, h1, h2, h3, _⟩ := laid_sentinel h hg ht Tryd.underlying40 errTab_ptr Tryd.underlying133 Tryd.underlying150 rfl rfl Tryd.underlying9 errTab_cells errTab_cellsStr
  refine ⟨a, by simpa using World.var?_cell hg h1 0, ⟨s, h2, h3⟩, ?_⟩
  obtain ⟨ps, ⟨g0, t0, cs0, f0, p0, q0, hg0, ht0, hv0, hd0, _, e0⟩, _, hrows⟩ := h
  obtain rfl := Option.some.inj (hg.symm.trans hg0)
  obtain rfl := Option.some.inj (ht.symm.trans ht0)
  subst e0
  obtain ⟨l0⟩ := cs0
  have ok0 : ∀ u v, l0 = [.iface u v] → Value.okWide Tryd.prog W .any 0 u v := fun u v e => by
    subst e
    exact (hrows x.2.1 0 (by simp [MemPlace.row])).2 u v (by simpa using World.var?_cell hg hv0 0)
  obtain ⟨a0, s0, rfl, hc0, hs0, hz0, rfl⟩ := errorString_of_trod Tryd.underlying40 errTab_ptr Tryd.underlying133 Tryd.underlying150 rfl rfl Tryd.underlying9 errTab_cells errTab_cellsStr hd0 ok0
  have ea : a0 = a := by
    have := h1.symm.trans hv0
    simp at this
    exact this.symm
  rw [← ea]
  exact (hrows a0.block a0.off (by simp [MemPlace.row])).1
theorem errTab_all {W : World} (rest : List (String × DataW Unit)) : ∀ l : List (String × Nat × List UInt8), (∀ x ∈ l, Tryd.prog.globalNamed x.1 = some x.2.1 ∧ (Tryd.prog.globals[x.2.1]?).map (·.type) = some 40) → laidMet Tryd.prog (l.map errTabRow ++ rest) W → (∃ E : Nat → Addr, ∀ i x, l[i]? = some x → errTabIs W x (E i)) ∧ laidMet Tryd.prog rest W
  | [], _, h => ⟨⟨fun _ => ⟨0, 0, none⟩, fun i x h => by simp at h⟩, h⟩
  | x :: l, hg, h => by
    obtain ⟨⟨E, hE⟩, hrest⟩ := errTab_all rest l (fun y hy => hg y (List.mem_cons_of_mem _ hy)) (laidMet.tail h)
    obtain ⟨a, ha⟩ := errTab_head (hg x List.mem_cons_self).1 (hg x List.mem_cons_self).2 h
    refine ⟨⟨fun i => match i with | 0 => a | k + 1 => E k, fun i y hy => ?_⟩, hrest⟩
    cases i with
    | zero => simp at hy; subst hy; exact ha
    | succ k => exact hE k y (by simpa using hy)
theorem errTab_inj : ∀ i j : Fin 25, (errTabList.map (·.2.2)).getD i.val [] = (errTabList.map (·.2.2)).getD j.val [] → i = j := by decide +kernel
set_option maxRecDepth 100000 in
theorem errTab_errs {W : World} (h : laidMetH Tryd.prog Rows.txSaysRow.laid W) : (∃ E, Errs W E) ∧ KTab W := by
  have h' : laidMet Tryd.prog (errTabList.map errTabRow ++ [("sargasso/digest.roundWords", Rows.laid_sargasso_digest_roundWords)]) W := h
  obtain ⟨⟨E, hE⟩, hrest⟩ := errTab_all _ errTabList (fun x hx => by
    have := List.all_eq_true.1 errTab_globals x hx
    simp only [Bool.and_eq_true, decide_eq_true_eq] at this
    exact this) h'
  have hl : errTabList.length = 25 := rfl
  have get : ∀ i (hi : i < 25), errTabIs W (errTabList[i]'(by rw [hl]; exact hi)) (E i) := fun i hi => hE i _ (List.getElem?_eq_getElem (by rw [hl]; exact hi))
  refine ⟨⟨E, fun i hi => ?_, fun i j hi hj e => ?_⟩, table hrest⟩
  · obtain ⟨h1, _, h3⟩ := get i hi
    refine ⟨?_, h3⟩
    have eg : errG.getD i 0 = (errTabList[i]'(by rw [hl]; exact hi)).2.1 := by
      have : errG = errTabList.map (·.2.1) := rfl
      rw [this]
      simp [List.getD, List.getElem?_eq_getElem (show i < errTabList.length by rw [hl]; exact hi)]
    rw [eg]
    exact h1
  · obtain ⟨_, ⟨s, hs, ht⟩, _⟩ := get i hi
    obtain ⟨_, ⟨s', hs', ht'⟩, _⟩ := get j hj
    rw [e] at hs
    have es := Option.some.inj (hs.symm.trans hs')
    simp at es
    rw [es] at ht
    have := errTab_inj ⟨i, hi⟩ ⟨j, hj⟩ (by
      simp only [List.getD, List.getElem?_map]
      rw [List.getElem?_eq_getElem (show i < errTabList.length by rw [hl]; exact hi), List.getElem?_eq_getElem (show j < errTabList.length by rw [hl]; exact hj)]
      exact ht.symm.trans ht')
    exact congrArg Fin.val this
/-- A WORLD FOR THE WITNESS: the settled one, each listed error as its initialiser lays it. -/
noncomputable def errTabLow : Nat := (World.holding Tryd.prog default ⟨#[], #[], []⟩).heap.size
noncomputable def errTabWorld (os : Os) : World :=
  let w0 := World.holding Tryd.prog os ⟨(errTabList.map fun x => Obj.cells #[.string ⟨x.2.2.toArray⟩] 150).toArray, #[], []⟩
  { w0 with heap := (errTabList.zipIdx).foldl (fun h x => h.modify x.1.2.1 fun
      | .cells _ t frozen => .cells #[.iface 133 (.pointer (some ⟨errTabLow + x.2, 0, none⟩))] t frozen
      | o => o) (w0.heap.modify 8 fun
      | .cells _ t frozen => .cells (kList.map wV).toArray t frozen
      | o => o) }
end Go.Proofs.YtkabpbclmhmgfaaDoor.Sha

/-
  The statement on a transaction's bytes, size, id, whether it makes coins, what is amiss, sameness and copies answers true, given what package tx is shown to answer. Conditions: transactions that lie in memory, the table and the errors are there.
-/
namespace Go.Proofs.YtkabpbclmhmgfaaDoor.Sha
open Go Go.RowKit

set_option maxHeartbeats 4000000 in
set_option maxRecDepth 100000 in
theorem txsays_main (E : Nat → Addr) (HF : ∀ w, Calls Tryd.prog 9 #[] w fun e w' => e = .returned (.bool true) ∧ Below w.heap.size w w') (HBy : BytesC) (HSz : SizeC) (HId : IdC) (HBa : BaseC) (HCh : CheckC E) (HSa : SameC) (HCl : CloneC)
    (t u : TTx) (v v' : Value) (w : World) (hk : KTab w) (hE : Errs w E) (h1 : TxAt w v t) (h2 : TxAt w v' u) (k1 : TxCame t) (k2 : TxCame u) :
    Calls Tryd.prog 3 #[v, v'] w fun e w' => e = .returned (.bool true) ∧ Below w.heap.size w w' := by
  have H1 := Lib.hid h1
  have H2 := Lib.hid h2
  obtain ⟨_, iv, ov, rfl, _, _⟩ := h1
  obtain ⟨_, iv', ov', rfl, _, _⟩ := h2
  have HK := Lib.hid hk
  have HE := Lib.hid hE
  have K1 := Lib.hid k1
  have K2 := Lib.hid k2
  have HF := Lib.hid HF
  clear hk hE k1 k2
  go_enter Tryd.func3, Tryd.ntmps3
  go_upto_region 1 with fail
  obtain ⟨b1, f1, f2⟩ := boxes2 w (txL t iv ov) (txL u iv' ov') 26
  generalize hw1 : World.alloc _ _ = w1
  rw [hw1] at b1 f1 f2
  have B := Lib.hid b1
  have F := Lib.hid f1
  have F' := Lib.hid f2
  clear hw1 b1 f1 f2
  go_upto_region 4 with (go_at_call 9; refine (HF.out _).mono ?_; rintro e w2 ⟨rfl, hb2⟩; have F := Lib.hid (row_below F.out hb2); have F' := Lib.hid (row_below F'.out hb2); have B := Lib.hid (B.out.trans (hb2.mono B.out.size)); clear hb2)
  obtain ⟨l1, hl1⟩ : ∃ l1, l1 = lightB t := ⟨_, rfl⟩
  obtain ⟨l2, hl2⟩ : ∃ l2, l2 = lightB u := ⟨_, rfl⟩
  have L1 := Lib.hid hl1
  have L2 := Lib.hid hl2
  clear hl1 hl2
  go_wp2_with ((with_reducible show wpList _ _ _ _ _ _); refine wpList_load_row rfl 26 (.tmp 2) rfl w.heap.size rfl 26 (txL t iv ov).toArray (0, 0) _ F.out Tryd.underlying26 rfl (by kernel_rfl) ?_; go_frame)
  refine (light_any t _ w2 (H1.out.below B.out) l1 L1.out K1.out.2.2.2.2.1).mono ?_
  rintro e w3 ⟨rfl, hb3⟩
  have F := Lib.hid (row_below F.out hb3)
  have F' := Lib.hid (row_below F'.out hb3)
  have B := Lib.hid (B.out.trans (hb3.mono B.out.size))
  clear hb3
  cases l1
  · go_wp2_with fail
    go_ret
    exact ⟨rfl, B.out⟩
  go_wp2_with ((with_reducible show wpList _ _ _ _ _ _); refine wpList_load_rowG 26 (.tmp 3) rfl (w.heap.size + 1) rfl 26 (txL u iv' ov').toArray (0, 0) _ F'.out Tryd.underlying26 rfl (by kernel_rfl) rfl ?_; go_frame)
  refine (light_any u _ w3 (H2.out.below B.out) l2 L2.out K2.out.2.2.2.2.1).mono ?_
  rintro e w4 ⟨rfl, hb4⟩
  have F := Lib.hid (row_below F.out hb4)
  have F' := Lib.hid (row_below F'.out hb4)
  have B := Lib.hid (B.out.trans (hb4.mono B.out.size))
  clear hb4
  cases l2
  · go_wp2_with fail
    go_ret
    exact ⟨rfl, B.out⟩
  have TS := Lib.hid (small_of_light K1.out L1.out.symm)
  have US := Lib.hid (small_of_light K2.out L2.out.symm)
  go_wp2_with ((with_reducible show wpList _ _ _ _ _ _); refine wpList_load_row rfl 26 (.tmp 2) rfl w.heap.size rfl 26 (txL t iv ov).toArray (0, 0) _ F.out Tryd.underlying26 rfl (by kernel_rfl) ?_; go_frame)
  refine (rtxb_any t _ w4 (H1.out.below B.out) TS.out.ins TS.out.outs (Nat.le_trans TS.out.2.1 (by omega)) (Nat.le_trans TS.out.2.2.1 (by omega))).mono ?_
  rintro e w6 ⟨vb, rfl, ho, hb6⟩
  have hsb := src_own ho
  obtain ⟨sb, cb, hvb⟩ := hsb.shape
  obtain ⟨nb, hnb⟩ : ∃ nb, nb = (txB t).length := ⟨_, rfl⟩
  rw [← hnb] at hvb
  subst hvb
  have SB := Lib.hid hsb
  have NB := Lib.hid hnb
  have F := Lib.hid (row_below F.out hb6)
  have F' := Lib.hid (row_below F'.out hb6)
  have B6 := Lib.hid (B.out.trans (hb6.mono B.out.size))
  have H1 := Lib.hid (H1.out.below B6.out)
  have H2 := Lib.hid (H2.out.below B6.out)
  have HK := Lib.hid (HK.out.below B6.out)
  have HE := Lib.hid (HE.out.below B6.out)
  have HLN : Hid ((txB t).length ≤ 70368744177680) := Nat.le_trans TS.out.len (by omega)
  have HLN2 : Hid (nb ≤ 35184372088832) := by rw [hnb]; exact TS.out.len
  have HSN : Hid (∀ w', Below w6.heap.size w6 w' → Calls Tryd.prog 14 #[.agg (txL t iv ov).toArray] w' fun e w'' => e = .returned (.int .i64 (nb : Int)) ∧ Below w'.heap.size w' w'') := fun w' hw' => by rw [hnb]; exact HSz t _ w' (H1.out.below hw') TS.out
  have HKT : Hid (KeysLe t.ins 70368744177664) := fun x hx => Nat.le_trans (TS.out.2.2.2 x hx) (by omega)
  obtain ⟨bb, hbb⟩ : ∃ bb, bb = baseB t := ⟨_, rfl⟩
  obtain ⟨cc, hcc⟩ : ∃ cc, cc = checkC t := ⟨_, rfl⟩
  obtain ⟨cn, hcn⟩ : ∃ cn, cn = checkN t := ⟨_, rfl⟩
  obtain ⟨ss, hss⟩ : ∃ ss : Bool, ss = true ↔ t = u := by
    by_cases h : t = u
    · exact ⟨true, by simp [h]⟩
    · exact ⟨false, by simp [h]⟩
  have HBB := Lib.hid hbb
  have HCC := Lib.hid hcc
  have HCN := Lib.hid hcn
  have HSS := Lib.hid hss
  have HIS : Hid (true = (numE cc == (cn : Int))) := by show _ = _; rw [hcc, hcn, (check_num t).1]; simp
  have HC25 : Hid (cc ≤ 25) := by rw [hcc]; exact (check_num t).2
  clear ho hb6 hsb hnb hbb hcc hcn hss
  go_wp2_with fail
  refine wp_region_held_drew (S := (fun w' => Below w6.heap.size w6 w')) (by kernel_rfl) (Below.drew (Below.refl _ _)) (fun hHeld => ?_)
  generalize hwd : w6.drew = w6d
  rw [hwd] at hHeld
  clear hwd
  refine held_take (i := 0) (v := (.bool true)) rfl (by kernel_rfl) (by kernel_rfl) (by kernel_rfl) (fun _ _ _ h => h) (Or.inl ⟨by rfl, fun w' _ => by kernel_rfl⟩) hHeld ?_
  go_frame
  refine held_take (i := 1) (v := (.bool true)) rfl (by kernel_rfl) (by kernel_rfl) (by kernel_rfl) (fun _ _ _ h => h) (Or.inl ⟨by rfl, fun w' _ => by kernel_rfl⟩) hHeld ?_
  go_frame
  refine held_take (i := 2) (v := (.agg (txL t iv ov).toArray)) rfl (by kernel_rfl) (by kernel_rfl) (by kernel_rfl) (fun _ _ _ h => h) (yieldsIf_load_row (by rfl) 26 _ rfl w.heap.size rfl 26 _ (0, 0) _ (fun w' hw' => row_below F.out hw') Tryd.underlying26 rfl (by kernel_rfl)) hHeld ?_
  go_frame
  refine held_take (i := 4) (v := (.slice sb nb cb)) rfl (by kernel_rfl) (by kernel_rfl) (by kernel_rfl) (fun _ _ _ h => h) (Or.inl ⟨by rfl, fun w' _ => by kernel_rfl⟩) hHeld ?_
  go_frame
  refine wpAnyH_ready (rs := [3]) (by kernel_rfl) (by simp) (held_cons rfl (fun K hK => ?_) AllReadyH.nil)
  go_simp
  refine (HBy t _ w6d (H1.out.below hHeld) TS.out).mono ?_
  rintro e n1 ⟨v24, rfl, ho, hb8⟩
  have O24 := Lib.hid (src_own ho)
  clear ho
  have hb9 := hHeld.trans (hb8.mono hHeld.size)
  clear hHeld
  go_wp2_with fail
  refine hK.out _ _ hb9 (fun hHeld => ?_)
  clear hK K hb8 hb9
  refine wpAnyH_ready (rs := [5]) (by kernel_rfl) (by simp) (held_cons rfl (fun K hK => ?_) AllReadyH.nil)
  go_simp
  refine (same_bytes_v (txB t) (txB t) _ _ true n1 O24.out (SB.out.below hHeld) (by simp) HLN.out).mono ?_
  rintro e n2 ⟨rfl, hb8⟩
  have hb9 := hHeld.trans (hb8.mono hHeld.size)
  clear hHeld
  go_wp2_with fail
  refine hK.out _ _ hb9 (fun hHeld => ?_)
  clear hK K hb8 hb9
  refine held_take (i := 6) (v := (.bool true)) rfl (by kernel_rfl) (by kernel_rfl) (by kernel_rfl) (fun _ _ _ h => h) (Or.inl ⟨by rfl, fun w' _ => by kernel_rfl⟩) hHeld ?_
  go_frame
  refine held_take (i := 7) (v := (.bool true)) rfl (by kernel_rfl) (by kernel_rfl) (by kernel_rfl) (fun _ _ _ h => h) (Or.inl ⟨by rfl, fun w' _ => by kernel_rfl⟩) hHeld ?_
  go_frame
  refine held_take (i := 8) (v := (.agg (txL t iv ov).toArray)) rfl (by kernel_rfl) (by kernel_rfl) (by kernel_rfl) (fun _ _ _ h => h) (yieldsIf_load_row (by rfl) 26 _ rfl w.heap.size rfl 26 _ (0, 0) _ (fun w' hw' => row_below F.out hw') Tryd.underlying26 rfl (by kernel_rfl)) hHeld ?_
  go_frame
  refine held_take (i := 10) (v := (.slice sb nb cb)) rfl (by kernel_rfl) (by kernel_rfl) (by kernel_rfl) (fun _ _ _ h => h) (Or.inl ⟨by rfl, fun w' _ => by kernel_rfl⟩) hHeld ?_
  go_frame
  refine held_take (i := 11) (v := (.int .i64 (nb : Int))) rfl (by kernel_rfl) (by kernel_rfl) (by kernel_rfl) (fun _ _ _ h => h) (Or.inl ⟨by rfl, fun w' _ => by kernel_rfl⟩) hHeld ?_
  go_frame
  refine wpAnyH_ready (rs := [9]) (by kernel_rfl) (by simp) (held_cons rfl (fun K hK => ?_) AllReadyH.nil)
  go_simp
  refine (HSN.out n2 hHeld).mono ?_
  rintro e n3 ⟨rfl, hb8⟩
  have hb9 := hHeld.trans (hb8.mono hHeld.size)
  clear hHeld
  go_wp2_with fail
  refine hK.out _ _ hb9 (fun hHeld => ?_)
  clear hK K hb8 hb9
  refine held_take (i := 12) (v := (.bool true)) rfl (by kernel_rfl) (by kernel_rfl) (by kernel_rfl) (fun _ _ _ h => h) (Or.inl ⟨by rfl, fun w' _ => by go_simp⟩) hHeld ?_
  go_frame
  refine held_take (i := 13) (v := (.bool true)) rfl (by kernel_rfl) (by kernel_rfl) (by kernel_rfl) (fun _ _ _ h => h) (Or.inl ⟨by rfl, fun w' _ => by kernel_rfl⟩) hHeld ?_
  go_frame
  refine held_take (i := 14) (v := (.bool true)) rfl (by kernel_rfl) (by kernel_rfl) (by kernel_rfl) (fun _ _ _ h => h) (Or.inl ⟨by rfl, fun w' _ => by kernel_rfl⟩) hHeld ?_
  go_frame
  refine held_take (i := 15) (v := (.agg (txL t iv ov).toArray)) rfl (by kernel_rfl) (by kernel_rfl) (by kernel_rfl) (fun _ _ _ h => h) (yieldsIf_load_row (by rfl) 26 _ rfl w.heap.size rfl 26 _ (0, 0) _ (fun w' hw' => row_below F.out hw') Tryd.underlying26 rfl (by kernel_rfl)) hHeld ?_
  go_frame
  refine held_take (i := 17) (v := (.slice sb nb cb)) rfl (by kernel_rfl) (by kernel_rfl) (by kernel_rfl) (fun _ _ _ h => h) (Or.inl ⟨by rfl, fun w' _ => by kernel_rfl⟩) hHeld ?_
  go_frame
  refine wpAnyH_ready (rs := [16]) (by kernel_rfl) (by simp) (held_cons rfl (fun K hK => ?_) AllReadyH.nil)
  go_simp
  refine (HId t _ n3 (HK.out.below hHeld) (H1.out.below hHeld) TS.out).mono ?_
  rintro e n4 ⟨rfl, hb8⟩
  have hb9 := hHeld.trans (hb8.mono hHeld.size)
  clear hHeld
  go_wp2_with fail
  refine hK.out _ _ hb9 (fun hHeld => ?_)
  clear hK K hb8 hb9
  refine wpAnyH_ready (rs := [18]) (by kernel_rfl) (by simp) (held_cons rfl (fun K hK => ?_) AllReadyH.nil)
  go_simp
  refine (ref_twice (txB t) _ _ _ n4 (SB.out.below hHeld) HLN2.out).mono ?_
  rintro e n5 ⟨rfl, hb8⟩
  have hb9 := hHeld.trans (hb8.mono hHeld.size)
  clear hHeld
  go_wp2_with fail
  refine hK.out _ _ hb9 (fun hHeld => ?_)
  clear hK K hb8 hb9
  refine wpAnyH_ready (rs := [19]) (by kernel_rfl) (by simp) (held_cons rfl (fun K hK => ?_) AllReadyH.nil)
  go_simp
  refine (same_b _ _ (sha_length _) (sha_length _) true (by simp) n5).mono ?_
  rintro e n6 ⟨rfl, hb8⟩
  have hb9 := hHeld.trans (hb8.mono hHeld.size)
  clear hHeld
  go_wp2_with fail
  refine hK.out _ _ hb9 (fun hHeld => ?_)
  clear hK K hb8 hb9
  refine held_take (i := 20) (v := (.bool true)) rfl (by kernel_rfl) (by kernel_rfl) (by kernel_rfl) (fun _ _ _ h => h) (Or.inl ⟨by rfl, fun w' _ => by kernel_rfl⟩) hHeld ?_
  go_frame
  refine held_take (i := 21) (v := (.bool true)) rfl (by kernel_rfl) (by kernel_rfl) (by kernel_rfl) (fun _ _ _ h => h) (Or.inl ⟨by rfl, fun w' _ => by kernel_rfl⟩) hHeld ?_
  go_frame
  refine held_take (i := 22) (v := (.agg (txL t iv ov).toArray)) rfl (by kernel_rfl) (by kernel_rfl) (by kernel_rfl) (fun _ _ _ h => h) (yieldsIf_load_row (by rfl) 26 _ rfl w.heap.size rfl 26 _ (0, 0) _ (fun w' hw' => row_below F.out hw') Tryd.underlying26 rfl (by kernel_rfl)) hHeld ?_
  go_frame
  refine held_take (i := 24) (v := (.agg (txL t iv ov).toArray)) rfl (by kernel_rfl) (by kernel_rfl) (by kernel_rfl) (fun _ _ _ h => h) (yieldsIf_load_row (by rfl) 26 _ rfl w.heap.size rfl 26 _ (0, 0) _ (fun w' hw' => row_below F.out hw') Tryd.underlying26 rfl (by kernel_rfl)) hHeld ?_
  go_frame
  refine wpAnyH_ready (rs := [23]) (by kernel_rfl) (by simp) (held_cons rfl (fun K hK => ?_) AllReadyH.nil)
  go_simp
  refine (HBa t _ n6 bb HBB.out (H1.out.below hHeld) TS.out).mono ?_
  rintro e n7 ⟨rfl, hb8⟩
  have hb9 := hHeld.trans (hb8.mono hHeld.size)
  clear hHeld
  go_wp2_with fail
  refine hK.out _ _ hb9 (fun hHeld => ?_)
  clear hK K hb8 hb9
  refine wpAnyH_ready (rs := [25]) (by kernel_rfl) (by simp) (held_cons rfl (fun K hK => ?_) AllReadyH.nil)
  go_simp
  refine (rbase_any t _ n7 (H1.out.below hHeld) bb HBB.out).mono ?_
  rintro e n8 ⟨rfl, hb8⟩
  have hb9 := hHeld.trans (hb8.mono hHeld.size)
  clear hHeld
  go_wp2_with fail
  refine hK.out _ _ hb9 (fun hHeld => ?_)
  clear hK K hb8 hb9
  refine held_take (i := 26) (v := (.bool true)) rfl (by kernel_rfl) (by kernel_rfl) (by kernel_rfl) (fun _ _ _ h => h) (Or.inl ⟨by rfl, fun w' _ => by cases bb <;> kernel_rfl⟩) hHeld ?_
  go_frame
  refine held_take (i := 27) (v := (.bool true)) rfl (by kernel_rfl) (by kernel_rfl) (by kernel_rfl) (fun _ _ _ h => h) (Or.inl ⟨by rfl, fun w' _ => by kernel_rfl⟩) hHeld ?_
  go_frame
  refine held_take (i := 28) (v := (.bool true)) rfl (by kernel_rfl) (by kernel_rfl) (by kernel_rfl) (fun _ _ _ h => h) (Or.inl ⟨by rfl, fun w' _ => by kernel_rfl⟩) hHeld ?_
  go_frame
  refine held_take (i := 29) (v := (.agg (txL t iv ov).toArray)) rfl (by kernel_rfl) (by kernel_rfl) (by kernel_rfl) (fun _ _ _ h => h) (yieldsIf_load_row (by rfl) 26 _ rfl w.heap.size rfl 26 _ (0, 0) _ (fun w' hw' => row_below F.out hw') Tryd.underlying26 rfl (by kernel_rfl)) hHeld ?_
  go_frame
  refine held_take (i := 31) (v := (.agg (txL t iv ov).toArray)) rfl (by kernel_rfl) (by kernel_rfl) (by kernel_rfl) (fun _ _ _ h => h) (yieldsIf_load_row (by rfl) 26 _ rfl w.heap.size rfl 26 _ (0, 0) _ (fun w' hw' => row_below F.out hw') Tryd.underlying26 rfl (by kernel_rfl)) hHeld ?_
  go_frame
  refine wpAnyH_ready (rs := [30]) (by kernel_rfl) (by simp) (held_cons rfl (fun K hK => ?_) AllReadyH.nil)
  go_simp
  refine (HCh t _ n8 cc HCC.out (HE.out.below hHeld).e8 (H1.out.below hHeld) TS.out).mono ?_
  rintro e n9 ⟨rfl, hb8⟩
  have hb9 := hHeld.trans (hb8.mono hHeld.size)
  clear hHeld
  go_wp2_with fail
  refine hK.out _ _ hb9 (fun hHeld => ?_)
  clear hK K hb8 hb9
  refine wpAnyH_ready (rs := [32]) (by kernel_rfl) (by simp) (held_cons rfl (fun K hK => ?_) AllReadyH.nil)
  go_simp
  refine (rcheck_any t _ n9 (H1.out.below hHeld) TS.out.ins TS.out.outs (Nat.le_trans TS.out.2.1 (by omega)) (Nat.le_trans TS.out.2.2.1 (by omega)) TS.out.1.2.2.1 cn HCN.out).mono ?_
  rintro e n10 ⟨rfl, hb8⟩
  have hb9 := hHeld.trans (hb8.mono hHeld.size)
  clear hHeld
  go_wp2_with fail
  refine hK.out _ _ hb9 (fun hHeld => ?_)
  clear hK K hb8 hb9
  refine wpAnyH_ready (rs := [33]) (by kernel_rfl) (by simp) (held_cons rfl (fun K hK => ?_) AllReadyH.nil)
  go_simp
  refine (is_any E cc (cn : Int) true HIS.out n10 (HE.out.below hHeld) HC25.out).mono ?_
  rintro e n11 ⟨rfl, hb8⟩
  have hb9 := hHeld.trans (hb8.mono hHeld.size)
  clear hHeld
  go_wp2_with fail
  refine hK.out _ _ hb9 (fun hHeld => ?_)
  clear hK K hb8 hb9
  refine held_take (i := 34) (v := (.bool true)) rfl (by kernel_rfl) (by kernel_rfl) (by kernel_rfl) (fun _ _ _ h => h) (Or.inl ⟨by rfl, fun w' _ => by kernel_rfl⟩) hHeld ?_
  go_frame
  refine held_take (i := 35) (v := (.bool true)) rfl (by kernel_rfl) (by kernel_rfl) (by kernel_rfl) (fun _ _ _ h => h) (Or.inl ⟨by rfl, fun w' _ => by kernel_rfl⟩) hHeld ?_
  go_frame
  refine held_take (i := 36) (v := (.agg (txL t iv ov).toArray)) rfl (by kernel_rfl) (by kernel_rfl) (by kernel_rfl) (fun _ _ _ h => h) (yieldsIf_load_row (by rfl) 26 _ rfl w.heap.size rfl 26 _ (0, 0) _ (fun w' hw' => row_below F.out hw') Tryd.underlying26 rfl (by kernel_rfl)) hHeld ?_
  go_frame
  refine held_take (i := 37) (v := (.agg (txL u iv' ov').toArray)) rfl (by kernel_rfl) (by kernel_rfl) (by kernel_rfl) (fun _ _ _ h => h) (yieldsIf_load_row (by rfl) 26 _ rfl (w.heap.size + 1) rfl 26 _ (0, 0) _ (fun w' hw' => row_below F'.out hw') Tryd.underlying26 rfl (by kernel_rfl)) hHeld ?_
  go_frame
  refine held_take (i := 39) (v := (.agg (txL t iv ov).toArray)) rfl (by kernel_rfl) (by kernel_rfl) (by kernel_rfl) (fun _ _ _ h => h) (yieldsIf_load_row (by rfl) 26 _ rfl w.heap.size rfl 26 _ (0, 0) _ (fun w' hw' => row_below F.out hw') Tryd.underlying26 rfl (by kernel_rfl)) hHeld ?_
  go_frame
  refine held_take (i := 40) (v := (.agg (txL u iv' ov').toArray)) rfl (by kernel_rfl) (by kernel_rfl) (by kernel_rfl) (fun _ _ _ h => h) (yieldsIf_load_row (by rfl) 26 _ rfl (w.heap.size + 1) rfl 26 _ (0, 0) _ (fun w' hw' => row_below F'.out hw') Tryd.underlying26 rfl (by kernel_rfl)) hHeld ?_
  go_frame
  refine wpAnyH_ready (rs := [38]) (by kernel_rfl) (by simp) (held_cons rfl (fun K hK => ?_) AllReadyH.nil)
  go_simp
  refine (HSa t u _ _ n11 ss HSS.out (H1.out.below hHeld) (H2.out.below hHeld) TS.out US.out).mono ?_
  rintro e n12 ⟨rfl, hb8⟩
  have hb9 := hHeld.trans (hb8.mono hHeld.size)
  clear hHeld
  go_wp2_with fail
  refine hK.out _ _ hb9 (fun hHeld => ?_)
  clear hK K hb8 hb9
  refine wpAnyH_ready (rs := [41]) (by kernel_rfl) (by simp) (held_cons rfl (fun K hK => ?_) AllReadyH.nil)
  go_simp
  refine (sametx_any t u _ _ n12 (H1.out.below hHeld) (H2.out.below hHeld) HKT.out ss HSS.out (Nat.le_trans TS.out.2.1 (by omega)) (Nat.le_trans TS.out.2.2.1 (by omega))).mono ?_
  rintro e n13 ⟨rfl, hb8⟩
  have hb9 := hHeld.trans (hb8.mono hHeld.size)
  clear hHeld
  go_wp2_with fail
  refine hK.out _ _ hb9 (fun hHeld => ?_)
  clear hK K hb8 hb9
  refine held_take (i := 42) (v := (.bool true)) rfl (by kernel_rfl) (by kernel_rfl) (by kernel_rfl) (fun _ _ _ h => h) (Or.inl ⟨by rfl, fun w' _ => by cases ss <;> kernel_rfl⟩) hHeld ?_
  go_frame
  refine held_take (i := 43) (v := (.bool true)) rfl (by kernel_rfl) (by kernel_rfl) (by kernel_rfl) (fun _ _ _ h => h) (Or.inl ⟨by rfl, fun w' _ => by kernel_rfl⟩) hHeld ?_
  go_frame
  refine held_take (i := 44) (v := (.bool true)) rfl (by kernel_rfl) (by kernel_rfl) (by kernel_rfl) (fun _ _ _ h => h) (Or.inl ⟨by rfl, fun w' _ => by kernel_rfl⟩) hHeld ?_
  go_frame
  refine held_take (i := 45) (v := (.agg (txL t iv ov).toArray)) rfl (by kernel_rfl) (by kernel_rfl) (by kernel_rfl) (fun _ _ _ h => h) (yieldsIf_load_row (by rfl) 26 _ rfl w.heap.size rfl 26 _ (0, 0) _ (fun w' hw' => row_below F.out hw') Tryd.underlying26 rfl (by kernel_rfl)) hHeld ?_
  go_frame
  refine held_take (i := 47) (v := (.agg (txL t iv ov).toArray)) rfl (by kernel_rfl) (by kernel_rfl) (by kernel_rfl) (fun _ _ _ h => h) (yieldsIf_load_row (by rfl) 26 _ rfl w.heap.size rfl 26 _ (0, 0) _ (fun w' hw' => row_below F.out hw') Tryd.underlying26 rfl (by kernel_rfl)) hHeld ?_
  go_frame
  refine wpAnyH_ready (rs := [46]) (by kernel_rfl) (by simp) (held_cons rfl (fun K hK => ?_) AllReadyH.nil)
  go_simp
  refine (HCl t _ n13 (H1.out.below hHeld) TS.out).mono ?_
  rintro e n14 ⟨v67, rfl, ht, hb8⟩
  have T67 := Lib.hid ht
  clear ht
  have hb9 := hHeld.trans (hb8.mono hHeld.size)
  clear hHeld
  go_wp2_with fail
  refine hK.out _ _ hb9 (fun hHeld => ?_)
  clear hK K hb8 hb9
  refine wpAnyH_ready (rs := [48]) (by kernel_rfl) (by simp) (held_cons rfl (fun K hK => ?_) AllReadyH.nil)
  go_simp
  refine (sametx_any t t _ _ n14 T67.out (H1.out.below hHeld) HKT.out true (by simp) (Nat.le_trans TS.out.2.1 (by omega)) (Nat.le_trans TS.out.2.2.1 (by omega))).mono ?_
  rintro e n15 ⟨rfl, hb8⟩
  have hb9 := hHeld.trans (hb8.mono hHeld.size)
  clear hHeld
  go_wp2_with fail
  refine hK.out _ _ hb9 (fun hHeld => ?_)
  clear hK K hb8 hb9
  refine held_take (i := 49) (v := (.bool true)) rfl (by kernel_rfl) (by kernel_rfl) (by kernel_rfl) (fun _ _ _ h => h) (Or.inl ⟨by rfl, fun w' _ => by kernel_rfl⟩) hHeld ?_
  go_frame
  refine held_take (i := 50) (v := (.bool true)) rfl (by kernel_rfl) (by kernel_rfl) (by kernel_rfl) (fun _ _ _ h => h) (Or.inl ⟨by rfl, fun w' _ => by kernel_rfl⟩) hHeld ?_
  go_frame
  refine wpAnyH_done (by kernel_rfl) ?_ _
  have HW := Lib.hid (B6.out.trans (hHeld.mono B6.out.size))
  clear hHeld
  go_wp2_with fail
  go_ret
  exact ⟨rfl, HW.out⟩
end Go.Proofs.YtkabpbclmhmgfaaDoor.Sha

/-
  slices.Clone copies rows of inputs and of outputs; a cell of a row of one's own is stored into. Conditions: the rows lie in memory; fewer than a million.
-/
namespace Go.Proofs.YtkabpbclmhmgfaaDoor.Sha
open Go Go.RowKit

set_option maxHeartbeats 1000000 in
set_option maxRecDepth 100000 in
theorem clone_rowI (n : Nat) (xs : List Value) (v : Value) (w : World) (hv : ∃ sp cap, v = .slice sp n cap ∧ (0 < n → n ≤ cap ∧ ∃ b o, sp = some ⟨b, o, none⟩ ∧ w.rangeAt b o xs)) (hl : xs.length = n * 35) (h1 : ∀ u ∈ xs, u.oneCell' = true) (hn : n ≤ 1000000) :
    Calls Tryd.prog 59 #[v] w fun e w' => ∃ v', e = .returned v' ∧ w'.ownsRow w.heap.size 54 35 v' n xs ∧ Below w.heap.size w w' := by
  obtain ⟨i0, hi, hz0, hz1, hz2⟩ := info_parts info_in
  obtain ⟨sp, cap, rfl, hs⟩ := hv
  have hown0 : (w.alloc (.cells #[] 54)).ownsRow w.heap.size 54 35 (.slice (some ⟨w.heap.size, 0, none⟩) 0 0) 0 [] := World.ownsRow_lit w #[] 0 (Nat.le_refl _) (by unfold maxLen; omega) rfl
  have HO0 := Lib.hid hown0
  have HB0 := Lib.hid ((Below.refl w.heap.size w).alloc (Nat.le_refl _) (.cells #[] 54 (0, 0)))
  by_cases h0 : n = 0
  · subst h0
    obtain rfl : xs = [] := List.eq_nil_of_length_eq_zero (by omega)
    cases sp with
    | none =>
      clear hown0 HO0 hs
      have hq : ∀ W, (binOp .eql 23 (.slice none 0 cap) (.slice none 0 0)).run Tryd.prog W = .ok (.bool true) W := fun W => by kernel_rfl
      go_enter Tryd.func59, Tryd.ntmps59
      go_wp2_with fail
      go_ret
      exact ⟨_, rfl, World.ownsRow_nil w _ _ _, Below.refl _ _⟩
    | some ad =>
      have hap : ∀ ty, (Builtin.append_ #[23, 23] ty #[.slice (some ⟨w.heap.size, 0, none⟩) 0 0, .slice (some ad) 0 cap]).run Tryd.prog (w.alloc (.cells #[] 54)) = .ok (.slice (some ⟨w.heap.size, 0, none⟩) 0 0) (w.alloc (.cells #[] 54)) := fun ty =>
        run_append_src0 w.heap.size 23 ty 54 i0 Tryd.underlying23 hi w.heap.size 0 0 [] (by rw [hz1]; exact HO0.out) (some ad) cap
      clear hown0 hs
      have hq : ∀ W, (binOp .eql 23 (.slice (some ad) 0 cap) (.slice none 0 0)).run Tryd.prog W = .ok (.bool false) W := fun W => by kernel_rfl
      go_enter Tryd.func59, Tryd.ntmps59
      go_wp2_with fail
      go_ret
      exact ⟨_, rfl, HO0.out, HB0.out⟩
  · obtain ⟨hc, b, o, rfl, hr⟩ := hs (by omega)
    have HR := Lib.hid (range_below hr HB0.out)
    have HL := Lib.hid hl
    have H1 := Lib.hid h1
    clear hown0 hs hr hl h1
    have hq : ∀ W, (binOp .eql 23 (.slice (some ⟨b, o, none⟩) n cap) (.slice none 0 0)).run Tryd.prog W = .ok (.bool false) W := fun W => by kernel_rfl
    go_enter Tryd.func59, Tryd.ntmps59
    go_wp2_with (at_builtin; refine wpList_append_own _ rfl _ _ 23 rfl w.heap.size 54 i0 _ 35 72 Tryd.underlying23 hi hz0 hz1 hz2 (by kernel_rfl) (by decide) _ 0 [] rfl HO0.out ⟨b, o, none⟩ n cap xs rfl HL.out (fun j u hj => by rw [Addr.add_mid]; exact HR.out j u hj) H1.out (by unfold maxLen; omega) (by omega) (by simp) ?_; intro v' w2 ho hg _; have HO := Lib.hid ho; have HB := Lib.hid (HB0.out.grown hg HB0.out.size (fun k hk => by cases hk; exact Nat.le_refl _)); clear ho hg; go_frame)
    go_ret
    refine ⟨_, rfl, ?_, HB.out⟩
    have h := HO.out
    rw [Nat.zero_add, List.nil_append] at h
    exact h
set_option maxHeartbeats 1000000 in
set_option maxRecDepth 100000 in
theorem clone_rowO (n : Nat) (xs : List Value) (v : Value) (w : World) (hv : ∃ sp cap, v = .slice sp n cap ∧ (0 < n → n ≤ cap ∧ ∃ b o, sp = some ⟨b, o, none⟩ ∧ w.rangeAt b o xs)) (hl : xs.length = n * 33) (h1 : ∀ u ∈ xs, u.oneCell' = true) (hn : n ≤ 1000000) :
    Calls Tryd.prog 61 #[v] w fun e w' => ∃ v', e = .returned v' ∧ w'.ownsRow w.heap.size 57 33 v' n xs ∧ Below w.heap.size w w' := by
  obtain ⟨i0, hi, hz0, hz1, hz2⟩ := info_parts info_out
  obtain ⟨sp, cap, rfl, hs⟩ := hv
  have hown0 : (w.alloc (.cells #[] 57)).ownsRow w.heap.size 57 33 (.slice (some ⟨w.heap.size, 0, none⟩) 0 0) 0 [] := World.ownsRow_lit w #[] 0 (Nat.le_refl _) (by unfold maxLen; omega) rfl
  have HO0 := Lib.hid hown0
  have HB0 := Lib.hid ((Below.refl w.heap.size w).alloc (Nat.le_refl _) (.cells #[] 57 (0, 0)))
  by_cases h0 : n = 0
  · subst h0
    obtain rfl : xs = [] := List.eq_nil_of_length_eq_zero (by omega)
    cases sp with
    | none =>
      clear hown0 HO0 hs
      have hq : ∀ W, (binOp .eql 24 (.slice none 0 cap) (.slice none 0 0)).run Tryd.prog W = .ok (.bool true) W := fun W => by kernel_rfl
      go_enter Tryd.func61, Tryd.ntmps61
      go_wp2_with fail
      go_ret
      exact ⟨_, rfl, World.ownsRow_nil w _ _ _, Below.refl _ _⟩
    | some ad =>
      have hap : ∀ ty, (Builtin.append_ #[24, 24] ty #[.slice (some ⟨w.heap.size, 0, none⟩) 0 0, .slice (some ad) 0 cap]).run Tryd.prog (w.alloc (.cells #[] 57)) = .ok (.slice (some ⟨w.heap.size, 0, none⟩) 0 0) (w.alloc (.cells #[] 57)) := fun ty =>
        run_append_src0 w.heap.size 24 ty 57 i0 Tryd.underlying24 hi w.heap.size 0 0 [] (by rw [hz1]; exact HO0.out) (some ad) cap
      clear hown0 hs
      have hq : ∀ W, (binOp .eql 24 (.slice (some ad) 0 cap) (.slice none 0 0)).run Tryd.prog W = .ok (.bool false) W := fun W => by kernel_rfl
      go_enter Tryd.func61, Tryd.ntmps61
      go_wp2_with fail
      go_ret
      exact ⟨_, rfl, HO0.out, HB0.out⟩
  · obtain ⟨hc, b, o, rfl, hr⟩ := hs (by omega)
    have HR := Lib.hid (range_below hr HB0.out)
    have HL := Lib.hid hl
    have H1 := Lib.hid h1
    clear hown0 hs hr hl h1
    have hq : ∀ W, (binOp .eql 24 (.slice (some ⟨b, o, none⟩) n cap) (.slice none 0 0)).run Tryd.prog W = .ok (.bool false) W := fun W => by kernel_rfl
    go_enter Tryd.func61, Tryd.ntmps61
    go_wp2_with (at_builtin; refine wpList_append_own _ rfl _ _ 24 rfl w.heap.size 57 i0 _ 33 40 Tryd.underlying24 hi hz0 hz1 hz2 (by kernel_rfl) (by decide) _ 0 [] rfl HO0.out ⟨b, o, none⟩ n cap xs rfl HL.out (fun j u hj => by rw [Addr.add_mid]; exact HR.out j u hj) H1.out (by unfold maxLen; omega) (by omega) (by simp) ?_; intro v' w2 ho hg _; have HO := Lib.hid ho; have HB := Lib.hid (HB0.out.grown hg HB0.out.size (fun k hk => by cases hk; exact Nat.le_refl _)); clear ho hg; go_frame)
    go_ret
    refine ⟨_, rfl, ?_, HB.out⟩
    have h := HO.out
    rw [Nat.zero_add, List.nil_append] at h
    exact h
theorem insL_read {w : World} {b : Nat} : ∀ (l : List TIn) (ks : List Value) (o : Nat), l.length = ks.length → InsOk l → (∀ (i : Nat) x kv, l[i]? = some x → ks[i]? = some kv → w.rangeAt b (o + i * 35) (inL x kv)) → w.rangeAt b o (insL l ks)
  | [], [], _, _, _, _ => fun j v hj => by simp [insL] at hj
  | x :: l, kv :: ks, o, h, hok, hr => fun j v hj => by
    have e := inL_length x kv (hok x List.mem_cons_self).1
    rw [insL] at hj
    by_cases h35 : j < 35
    · rw [List.getElem?_append_left (by omega)] at hj
      have := hr 0 x kv rfl rfl j v hj
      simpa using this
    · rw [List.getElem?_append_right (by omega), e] at hj
      have ih := insL_read l ks (o + 35) (by simpa using h) (fun z hz => hok z (List.mem_cons_of_mem _ hz)) (fun i y kw hy hk => by
        have := hr (i + 1) y kw (by simpa using hy) (by simpa using hk)
        rw [show o + 35 + i * 35 = o + (i + 1) * 35 by omega]
        exact this) (j - 35) v hj
      rw [show o + 35 + (j - 35) = o + j by omega] at ih
      exact ih
theorem outsL_read {w : World} {b : Nat} : ∀ (l : List TOut) (o : Nat), OutsOk l → (∀ (i : Nat) y, l[i]? = some y → w.rangeAt b (o + i * 33) (outL y)) → w.rangeAt b o (outsL l)
  | [], _, _, _ => fun j v hj => by simp [outsL] at hj
  | y :: l, o, hok, hr => fun j v hj => by
    have e := outL_length y (hok y List.mem_cons_self).1
    rw [outsL, List.flatMap_cons] at hj
    by_cases h33 : j < 33
    · rw [List.getElem?_append_left (by omega)] at hj
      have := hr 0 y rfl j v hj
      simpa using this
    · rw [List.getElem?_append_right (by omega), e] at hj
      have ih := outsL_read l (o + 33) (fun z hz => hok z (List.mem_cons_of_mem _ hz)) (fun i z hz => by
        have := hr (i + 1) z (by simpa using hz)
        rw [show o + 33 + i * 33 = o + (i + 1) * 33 by omega]
        exact this) (j - 33) v hj
      rw [show o + 33 + (j - 33) = o + j by omega] at ih
      exact ih
theorem insL_ones : ∀ (l : List TIn) (ks : List Value), (∀ kv ∈ ks, kv.oneCell' = true) → ∀ u ∈ insL l ks, u.oneCell' = true
  | [], _, _, u, hu => by simp [insL] at hu
  | _ :: _, [], _, u, hu => by simp [insL] at hu
  | x :: l, kv :: ks, hk, u, hu => by
    rw [insL] at hu
    rcases List.mem_append.1 hu with h | h
    · exact in_mem_one x kv (hk kv List.mem_cons_self) u h
    · exact insL_ones l ks (fun k h => hk k (List.mem_cons_of_mem _ h)) u h
theorem outsL_ones (l : List TOut) : ∀ u ∈ outsL l, u.oneCell' = true := fun u hu => by
  obtain ⟨y, _, h⟩ := List.mem_flatMap.1 hu
  exact out_mem_one y u h
/-- A row of inputs that came in: the keys' slices. -/
theorem insAt_keys {w : World} {v : Value} {l : List TIn} (h : InsAt w v l) : ∃ ks : List Value, l.length = ks.length ∧ InsOk l ∧ (∀ (i : Nat) x kv, l[i]? = some x → ks[i]? = some kv → KeyAt w kv x.key)
    ∧ ∃ sp cap, v = .slice sp l.length cap ∧ (0 < l.length → l.length ≤ cap ∧ ∃ b o, sp = some ⟨b, o, none⟩ ∧ w.rangeAt b o (insL l ks)) := by
  obtain ⟨sp, cap, hv, hc, he⟩ := h
  by_cases h0 : l = []
  · subst h0
    exact ⟨[], rfl, fun _ h => absurd h (by simp), fun i x kv h => absurd h (by simp), sp, cap, hv, fun h => absurd h (by simp)⟩
  · obtain ⟨b, o, hs, he⟩ := he (List.length_pos_iff.2 h0)
    obtain ⟨ks, hl, hk⟩ := list_of_each (p := fun i kv => ∀ x, l[i]? = some x → KeyAt w kv x.key ∧ w.rangeAt b (o + i * 35) (inL x kv)) l.length (fun i hi => by
      obtain ⟨_, kv, h1, h2⟩ := he i _ (List.getElem?_eq_getElem hi)
      exact ⟨kv, fun x hx => by
        rw [List.getElem?_eq_getElem hi] at hx
        cases hx
        exact ⟨h1, h2⟩⟩)
    have hok : InsOk l := fun x hx => by
      obtain ⟨i, hi⟩ := List.getElem?_of_mem hx
      exact (he i x hi).1
    exact ⟨ks, hl.symm, hok, fun i x kv hx hkv => (hk i kv hkv x hx).1, sp, cap, hv, fun _ => ⟨hc, b, o, hs, insL_read l ks o hl.symm hok (fun i x kv hx hkv => (hk i kv hkv x hx).2)⟩⟩
theorem keys_ones {w : World} {l : List TIn} {ks : List Value} (hl : l.length = ks.length) (h : ∀ (i : Nat) x kv, l[i]? = some x → ks[i]? = some kv → KeyAt w kv x.key) : ∀ kv ∈ ks, kv.oneCell' = true := fun kv hk => by
  obtain ⟨i, hi⟩ := List.getElem?_of_mem hk
  have := (List.getElem?_eq_some_iff.1 hi).1
  obtain ⟨_, sp, cap, e⟩ := h i _ kv (List.getElem?_eq_getElem (by omega)) hi
  rw [e]
  rfl
theorem insL_set : ∀ (l : List TIn) (ks : List Value) (k : Nat) (kv : Value), l.length = ks.length → InsOk l → k < l.length → insL l (ks.set k kv) = (insL l ks).set (k * 35 + 33) kv
  | x :: l, k0 :: ks, 0, kv, h, hok, hk => by
    have e := (hok x List.mem_cons_self).1
    rw [List.set_cons_zero, insL, insL, List.set_append_left _ _ (by rw [inL_length x k0 e]; omega)]
    congr 1
    rw [inL, inL, List.set_append_right _ _ (by simp [ptL, e])]
    simp [ptL, e]
  | x :: l, k0 :: ks, k + 1, kv, h, hok, hk => by
    have e := inL_length x k0 (hok x List.mem_cons_self).1
    rw [List.set_cons_succ, insL, insL, List.set_append_right _ _ (by omega), e, show (k + 1) * 35 + 33 - 35 = k * 35 + 33 by omega,
      insL_set l ks k kv (by simpa using h) (fun z hz => hok z (List.mem_cons_of_mem _ hz)) (by simpa using hk)]
theorem wp_store_own {P : Program} {op : Oper} {a : Act} {w : World} {K : Act → World → Prop} {Q : Exit → Act → World → Prop} (ty : TypeId) (x y : Operand) (ho : op.op = .store ty x y)
    (g j base size n cap : Nat) (e : TypeId) (xs : List Value) (v : Value) (hx : a.eval x = .pointer (some ⟨g, j, none⟩)) (hy : a.eval y = v) (h1 : v.oneCell' = true) (hi : (P.info? ty).map (·.size) = some 1)
    (hown : w.ownsRow base e size (.slice (some ⟨g, 0, none⟩) n cap) n xs) (hj : j < n * size)
    (h : ∀ w', w'.ownsRow base e size (.slice (some ⟨g, 0, none⟩) n cap) n (xs.set j v) → w.grownBy w' (some g) → K (a.put op.dst undef) w') : op.wp P a w K Q := by
  rcases hown.2 with ⟨h', _⟩ | ⟨g', cap', cur, h', hb, hg, hnc, hcm, hcs, htake⟩
  · simp at h'
  simp only [Value.slice.injEq, Option.some.injEq, Addr.mk.injEq, and_true, true_and] at h'
  obtain ⟨rfl, rfl⟩ := h'
  have hjc : j < cur.toList.length := by
    rw [Array.length_toList, hcs]
    exact Nat.lt_of_lt_of_le hj (Nat.mul_le_mul_right _ hnc)
  have hsplit : cur.toList = cur.toList.take j ++ [cur.toList[j]] ++ cur.toList.drop (j + 1) := by
    rw [List.append_assoc, List.singleton_append, ← List.drop_eq_getElem_cons hjc, List.take_append_drop]
  have hset : (cur.toList.take j ++ [v] ++ cur.toList.drop (j + 1)) = cur.toList.set j v := by
    rw [List.append_assoc, List.singleton_append, List.set_eq_take_append_cons_drop, if_pos hjc]
  refine wp_store_part ty x y ho g j (cur.toList.take j) [cur.toList[j]] (cur.toList.drop (j + 1)) [v] e v hx hy (cells_one h1) (by rw [List.length_take]; omega) rfl (by rw [← hsplit, Array.toArray_toList]; exact hg) hi (one_mem h1) ?_
  intro w' q1 q2
  refine h w' ⟨by rw [List.length_set]; exact hown.1, .inr ⟨g, cap, _, rfl, hb, q1, hnc, hcm, ?_, ?_⟩⟩ q2
  · rw [hset]
    simpa using hcs
  · rw [hset, ← htake]
    simp [List.take_set]
end Go.Proofs.YtkabpbclmhmgfaaDoor.Sha
