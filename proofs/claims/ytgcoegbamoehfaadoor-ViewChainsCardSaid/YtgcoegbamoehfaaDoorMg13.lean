/-
  Texts of this proof joined into one file: ShaSha, RefTwice, TxId, TxNew, TxPieces, TxSize, TxBytesW. What each holds, and under which conditions, its own first sentence tells.
-/
import Derived.Test.YtgcoegbamoehfaaDoorMg03
import Derived.Test.YtgcoegbamoehfaaDoorMg12
import Derived.Test.YtgcoegbamoehfaaDoorMg06
import Derived.Test.YtgcoegbamoehfaaDoorMg10
import Derived.Test.YtgcoegbamoehfaaDoorMg09
import Derived.Test.YtgcoegbamoehfaaDoorMg05
import Derived.Test.YtgcoegbamoehfaaDoorMg04
import Derived.Test.YtgcoegbamoehfaaDoorMg01
/-
  digest.Sha answers the SHA-256 of the bytes that it is given, digest.Twice that of that, and turn nothing that was there. Conditions: the bytes lie where the slice says, the table is there, fewer than 2^59 bytes.
-/
namespace Go.Proofs.YtgcoegbamoehfaaDoor.Sha
open Go Go.RowKit
/-- Write, whatever the slice. -/
theorem write_any (l bs : List UInt8) (v : Value) (B : Nat) (w : World) (hk : KTab w) (hB0 : B ≠ 25) (hsrc : SrcB w v bs) (hne : ∀ sp n cap, v = .slice (some sp) n cap → 0 < n → sp.block ≠ B)
    (hlen : l.length + bs.length ≤ 1152921504606846975) (hinv : WInv w B l) :
    Calls Tryd.prog 49 #[.pointer (some ⟨B, 0, none⟩), v] w fun e w' =>
      e = .returned (.tuple #[]) ∧ WInv w' B (l ++ bs) ∧ w.grownBy w' (some B) := by
  rcases hsrc with ⟨sp, cap, rfl, rfl⟩ | ⟨h0, bb, off, cap, rfl, hc, hs⟩
  · rw [List.append_nil]
    exact write_none l sp cap B w (by simpa using hlen) hinv
  · exact write_some l bs bb off cap B w hk hB0 (hne _ _ _ rfl h0) hc hlen hinv hs
theorem sha_setup (w : World) (z : Array Value) (T : TypeId) : Below w.heap.size w ((w.alloc (.cells z T)).alloc (.cells zeroW 102))
    ∧ ((w.alloc (.cells z T)).alloc (.cells zeroW 102)).heap.size = w.heap.size + 2
    ∧ ((w.alloc (.cells z T)).alloc (.cells zeroW 102)).heap[w.heap.size + 1]? = some (.cells zeroW 102 (0, 0))
    ∧ ((w.alloc (.cells z T)).alloc (.cells zeroW 102)).heap[w.heap.size]? = some (.cells z T (0, 0)) :=
  ⟨((Below.refl _ _).alloc (Nat.le_refl _) _).alloc (by simp) _, by simp, heap_alloc2_new _ _ _, heap_alloc2_old _ _ _⟩
set_option maxHeartbeats 1000000 in
set_option maxRecDepth 100000 in
theorem sha_any (bs : List UInt8) (v : Value) (w : World) (hk : KTab w) (hsrc : SrcB w v bs) (hlen : bs.length ≤ 576460752303423487) :
    Calls Tryd.prog 34 #[v] w fun e w' => e = .returned (.agg ((sha bs).map bV).toArray) ∧ Below w.heap.size w w' := by
  have hzw := zero_writer
  have HK := Lib.hid hk
  have HS := Lib.hid hsrc
  clear hk hsrc
  go_enter Tryd.func34, Tryd.ntmps34
  go_wp2_with fail
  obtain ⟨f1, f2, f3, f4⟩ := sha_setup w (List.replicate 32 (bV 0)).toArray 25
  generalize hw1 : World.alloc _ _ = w1
  have e1 : ((w.alloc (.cells (List.replicate 32 (bV 0)).toArray 25)).alloc (.cells zeroW 102)) = w1 := hw1
  rw [e1] at f1 f2 f3 f4
  have hK1 := HK.out.below f1
  have hp := HK.out.pos
  clear hw1 e1 hzw
  refine (write_any [] bs v (w.heap.size + 1) w1 hK1 (by omega) (HS.out.below f1) (HS.out.ne (Nat.le_succ _)) (by simpa using Nat.le_trans hlen (by omega)) (zero_inv f3)).mono ?_
  rintro e w2 ⟨rfl, hI, hG⟩
  rw [List.nil_append] at hI
  have B2 := grownBy_below hG f1 (Nat.le_succ _) (by omega)
  have h2 : w2.heap[w.heap.size]? = some (.cells (List.replicate 32 (bV 0)).toArray 25 (0, 0)) := by
    rw [hG.block _ (by omega) (fun e => by have := Option.some.inj e; omega)]
    exact f4
  have hs2 : w.heap.size < w2.heap.size := by have := hG.size; omega
  have HI := Lib.hid hI
  have HB2 := Lib.hid B2
  have HH2 := Lib.hid h2
  clear f1 f2 f3 f4 hK1 hI hG B2 h2
  go_wp2_with fail
  refine (sum_any bs (w.heap.size + 1) w2 (HK.out.below HB2.out) hlen HI.out).mono ?_
  rintro e w3 ⟨rfl, hb3⟩
  have h3 : w3.heap[w.heap.size]? = some (.cells (List.replicate 32 (bV 0)).toArray 25 (0, 0)) := by rw [hb3.block _ hs2]; exact HH2.out
  have HH3 := Lib.hid h3
  have B3 := Lib.hid (HB2.out.trans (hb3.mono (by omega)))
  have hl : ((sha bs).map bV).toArray.size = 32 := by simp [sha_length]
  have HL := Lib.hid hl
  clear h3 hb3 hl
  go_wp2_with ((with_reducible show wpList _ _ _ _ _ _); refine wpList_store_row rfl 25 (.tmp 2) (.tmp 6) rfl w.heap.size ((sha bs).map bV).toArray rfl rfl 25 _ HH3.out (by rw [HL.out]; kernel_rfl) (by rw [HL.out]; rfl) (bV_one _) ?_; go_frame)
  refine bodyPost_ret (results_cell_row rfl _ _ w.heap.size 25 ((sha bs).map bV).toArray (0, 0) (.array 32 5) rfl (setRow_heap _ _ _ _ _ _ HH3.out) Tryd.underlying25 rfl (by rw [HL.out]; kernel_rfl)) rfl ⟨rfl, below_setRow B3.out (Nat.le_refl _) _⟩
end Go.Proofs.YtgcoegbamoehfaaDoor.Sha

/-
  digest.Twice and the statements' own Twice answer the SHA-256 of the SHA-256 of the bytes; nothing that was there turns. Conditions: the bytes lie where the slice says, fewer than 2^45; for digest.Twice the table is there.
-/
namespace Go.Proofs.YtgcoegbamoehfaaDoor.Sha
open Go Go.RowKit
set_option maxHeartbeats 1000000 in
set_option maxRecDepth 100000 in
theorem twice_any (bs : List UInt8) (v : Value) (w : World) (hk : KTab w) (hsrc : SrcB w v bs) (hlen : bs.length ≤ 576460752303423487) :
    Calls Tryd.prog 26 #[v] w fun e w' => e = .returned (.agg ((sha (sha bs)).map bV).toArray) ∧ Below w.heap.size w w' := by
  have HK := Lib.hid hk
  have HS := Lib.hid hsrc
  have hl : ∀ l : List UInt8, l.length = 32 → (l.map bV).toArray.size = 32 := fun l h => by simp [h]
  have HL := Lib.hid hl
  clear hk hsrc hl
  go_enter Tryd.func26, Tryd.ntmps26
  go_wp2_with fail
  have b0 : Below w.heap.size w (w.alloc (.cells (List.replicate 32 (bV 0)).toArray 25)) := (Below.refl _ _).alloc (Nat.le_refl _) _
  have f0 : (w.alloc (.cells (List.replicate 32 (bV 0)).toArray 25)).heap[w.heap.size]? = some (.cells (List.replicate 32 (bV 0)).toArray 25 (0, 0)) := heap_alloc_new _ _
  have z0 : w.heap.size < (w.alloc (.cells (List.replicate 32 (bV 0)).toArray 25)).heap.size := by simp
  generalize hw0 : World.alloc _ _ = w0
  have q0 : w.alloc (.cells (List.replicate 32 (bV 0)).toArray 25) = w0 := hw0
  rw [q0] at b0 f0 z0
  clear hw0 q0
  refine (sha_any bs v w0 (HK.out.below b0) (HS.out.below b0) hlen).mono ?_
  rintro e w1 ⟨rfl, hb1⟩
  have e1 : Below w.heap.size w w1 := b0.trans (hb1.mono b0.size)
  have e2 : w1.heap[w.heap.size]? = some (.cells (List.replicate 32 (bV 0)).toArray 25 (0, 0)) := row_below f0 hb1
  have e3 : w.heap.size < w1.heap.size := Nat.lt_of_lt_of_le z0 hb1.size
  have E1 := Lib.hid e1
  have E2 := Lib.hid e2
  clear b0 f0 z0 hb1 e1 e2
  go_upto_region 2 with ((with_reducible show wpList _ _ _ _ _ _); refine wpList_store_row rfl 25 (.tmp 3) (.tmp 5) rfl w1.heap.size ((sha bs).map bV).toArray rfl rfl 25 _ (heap_alloc_new _ _) (by rw [HL.out _ (sha_length _)]; kernel_rfl) (by rw [HL.out _ (sha_length _)]; rfl) (bV_one _) ?_; go_frame)
  have e1 := E1.out
  have e2 := E2.out
  clear E1 E2
  obtain ⟨f1, f2, f3, f4⟩ := fill_setup e1 (List.replicate 32 (bV 0)).toArray ((sha bs).map bV).toArray 25
  have e4 : ((w1.alloc (.cells (List.replicate 32 (bV 0)).toArray 25)).setRow w1.heap.size ((sha bs).map bV).toArray).heap[w.heap.size]? = some (.cells (List.replicate 32 (bV 0)).toArray 25 (0, 0)) := by rw [f4.block _ e3]; exact e2
  obtain ⟨g, hg⟩ : ∃ g, g = w1.heap.size := ⟨_, rfl⟩
  generalize hw2 : World.setRow _ _ _ = w2
  have e5 : ((w1.alloc (.cells (List.replicate 32 (bV 0)).toArray 25)).setRow w1.heap.size ((sha bs).map bV).toArray) = w2 := hw2
  rw [e5] at f1 f2 f3 f4 e4
  rw [← hg] at f2 f3 ⊢
  have HK2 := Lib.hid (HK.out.below f1)
  have HS2 := Lib.hid (src_block (sha_length bs) f2)
  have F1 := Lib.hid f1
  have E4 := Lib.hid e4
  have hlt : w.heap.size < w2.heap.size := by omega
  clear f1 f2 f3 f4 e1 e2 e3 e4 e5 hw2 hg
  go_wp2_with fail
  refine (sha_any (sha bs) _ _ HK2.out HS2.out (by rw [sha_length]; omega)).mono ?_
  rintro e w3 ⟨rfl, hb3⟩
  have h3 : w3.heap[w.heap.size]? = some (.cells (List.replicate 32 (bV 0)).toArray 25 (0, 0)) := by rw [hb3.block _ hlt]; exact E4.out
  have H3 := Lib.hid h3
  have B3 := Lib.hid (F1.out.trans (hb3.mono (by omega)))
  clear h3 hb3
  go_wp2_with ((with_reducible show wpList _ _ _ _ _ _); refine wpList_store_row rfl 25 (.tmp 2) (.tmp 7) rfl w.heap.size ((sha (sha bs)).map bV).toArray rfl rfl 25 _ H3.out (by rw [HL.out _ (sha_length _)]; kernel_rfl) (by rw [HL.out _ (sha_length _)]; rfl) (bV_one _) ?_; go_frame)
  refine bodyPost_ret (results_cell_row rfl _ _ w.heap.size 25 ((sha (sha bs)).map bV).toArray (0, 0) (.array 32 5) rfl (setRow_heap _ _ _ _ _ _ H3.out) Tryd.underlying25 rfl (by rw [HL.out _ (sha_length _)]; kernel_rfl)) rfl ⟨rfl, below_setRow B3.out (Nat.le_refl _) _⟩
set_option maxHeartbeats 1000000 in
set_option maxRecDepth 100000 in
theorem ref_twice (bs : List UInt8) (sp : Option Addr) (n cap : Nat) (w : World) (hsrc : SrcB w (.slice sp n cap) bs) (hn : n ≤ 35184372088832) :
    Calls Tryd.prog 21 #[.slice sp n cap] w fun e w' => e = .returned (.agg ((sha (sha bs)).map bV).toArray) ∧ Below w.heap.size w w' := by
  have HS := Lib.hid hsrc
  have hl : ∀ l : List UInt8, l.length = 32 → (l.map bV).toArray.size = 32 := fun l h => by simp [h]
  have HL := Lib.hid hl
  clear hsrc hl
  go_enter Tryd.func21, Tryd.ntmps21
  go_wp2_with fail
  have b0 : Below w.heap.size w (w.alloc (.cells (List.replicate 32 (bV 0)).toArray 25)) := (Below.refl _ _).alloc (Nat.le_refl _) _
  have f0 : (w.alloc (.cells (List.replicate 32 (bV 0)).toArray 25)).heap[w.heap.size]? = some (.cells (List.replicate 32 (bV 0)).toArray 25 (0, 0)) := heap_alloc_new _ _
  have z0 : w.heap.size < (w.alloc (.cells (List.replicate 32 (bV 0)).toArray 25)).heap.size := by simp
  generalize hw0 : World.alloc _ _ = w0
  have q0 : w.alloc (.cells (List.replicate 32 (bV 0)).toArray 25) = w0 := hw0
  rw [q0] at b0 f0 z0
  clear hw0 q0
  refine (ref_any bs sp n cap w0 (HS.out.below b0) hn).mono ?_
  rintro e w1 ⟨rfl, hb1⟩
  have e1 : Below w.heap.size w w1 := b0.trans (hb1.mono b0.size)
  have e2 : w1.heap[w.heap.size]? = some (.cells (List.replicate 32 (bV 0)).toArray 25 (0, 0)) := row_below f0 hb1
  have e3 : w.heap.size < w1.heap.size := Nat.lt_of_lt_of_le z0 hb1.size
  have E1 := Lib.hid e1
  have E2 := Lib.hid e2
  clear b0 f0 z0 hb1 e1 e2
  go_upto_region 2 with ((with_reducible show wpList _ _ _ _ _ _); refine wpList_store_row rfl 25 (.tmp 3) (.tmp 5) rfl w1.heap.size ((sha bs).map bV).toArray rfl rfl 25 _ (heap_alloc_new _ _) (by rw [HL.out _ (sha_length _)]; kernel_rfl) (by rw [HL.out _ (sha_length _)]; rfl) (bV_one _) ?_; go_frame)
  have e1 := E1.out
  have e2 := E2.out
  clear E1 E2
  obtain ⟨f1, f2, f3, f4⟩ := fill_setup e1 (List.replicate 32 (bV 0)).toArray ((sha bs).map bV).toArray 25
  have e4 : ((w1.alloc (.cells (List.replicate 32 (bV 0)).toArray 25)).setRow w1.heap.size ((sha bs).map bV).toArray).heap[w.heap.size]? = some (.cells (List.replicate 32 (bV 0)).toArray 25 (0, 0)) := by rw [f4.block _ e3]; exact e2
  obtain ⟨g, hg⟩ : ∃ g, g = w1.heap.size := ⟨_, rfl⟩
  generalize hw2 : World.setRow _ _ _ = w2
  have e5 : ((w1.alloc (.cells (List.replicate 32 (bV 0)).toArray 25)).setRow w1.heap.size ((sha bs).map bV).toArray) = w2 := hw2
  rw [e5] at f1 f2 f3 f4 e4
  rw [← hg] at f2 f3 ⊢
  have HS2 := Lib.hid (src_block (sha_length bs) f2)
  have F1 := Lib.hid f1
  have E4 := Lib.hid e4
  have hlt : w.heap.size < w2.heap.size := by omega
  clear f1 f2 f3 f4 e1 e2 e3 e4 e5 hw2 hg
  go_wp2_with fail
  refine (ref_any (sha bs) _ _ _ _ HS2.out (by omega)).mono ?_
  rintro e w3 ⟨rfl, hb3⟩
  have h3 : w3.heap[w.heap.size]? = some (.cells (List.replicate 32 (bV 0)).toArray 25 (0, 0)) := by rw [hb3.block _ hlt]; exact E4.out
  have H3 := Lib.hid h3
  have B3 := Lib.hid (F1.out.trans (hb3.mono (by omega)))
  clear h3 hb3
  go_wp2_with ((with_reducible show wpList _ _ _ _ _ _); refine wpList_store_row rfl 25 (.tmp 2) (.tmp 7) rfl w.heap.size ((sha (sha bs)).map bV).toArray rfl rfl 25 _ H3.out (by rw [HL.out _ (sha_length _)]; kernel_rfl) (by rw [HL.out _ (sha_length _)]; rfl) (bV_one _) ?_; go_frame)
  refine bodyPost_ret (results_cell_row rfl _ _ w.heap.size 25 ((sha (sha bs)).map bV).toArray (0, 0) (.array 32 5) rfl (setRow_heap _ _ _ _ _ _ H3.out) Tryd.underlying25 rfl (by rw [HL.out _ (sha_length _)]; kernel_rfl)) rfl ⟨rfl, below_setRow B3.out (Nat.le_refl _) _⟩
end Go.Proofs.YtgcoegbamoehfaaDoor.Sha

/-
  Package tx tells whether two transactions have the same bytes, and the digest that a transaction goes by, given what Bytes answers. Nothing that was there turns. Condition: transactions of a few inputs and outputs that lie in memory.
-/
namespace Go.Proofs.YtgcoegbamoehfaaDoor.Sha
open Go Go.RowKit
theorem txs_differ {t u : TTx} (ht : TxSmall t) (hu : TxSmall u) : txB t = txB u ↔ t = u := ⟨fun h => txB_inj ht.fit hu.fit h, fun h => by rw [h]⟩
set_option maxHeartbeats 1000000 in
set_option maxRecDepth 100000 in
theorem id_of (HBy : BytesC) : IdC := by
  intro t v w hk h1 hs
  have H1 := Lib.hid h1
  obtain ⟨_, iv, ov, rfl, _, _⟩ := h1
  have HK := Lib.hid hk
  have TS := Lib.hid hs
  have HBy := Lib.hid HBy
  clear hk hs
  have HOne := Lib.hid (bV_one (sha (sha (txB t))))
  have HLen : Hid ((((sha (sha (txB t))).map bV).toArray).size = 32) := by show _ = _; simp [sha_length]
  obtain ⟨dg, hdg⟩ : ∃ dg, dg = ((sha (sha (txB t))).map bV).toArray := ⟨_, rfl⟩
  rw [← hdg] at HOne HLen ⊢
  have HD := Lib.hid hdg
  clear hdg
  go_enter Tryd.func18, Tryd.ntmps18
  go_upto_region 1 with fail
  have f1 := row_below (heap_alloc_new w (.cells (txL t iv ov).toArray 49 (0, 0))) ((Below.refl _ _).alloc (Nat.le_refl _) (.cells (List.replicate 32 (bV 0)).toArray 25))
  have f2 := heap_alloc_new (w.alloc (.cells (txL t iv ov).toArray 49 (0, 0))) (.cells (List.replicate 32 (bV 0)).toArray 25)
  have b1 := ((Below.refl w.heap.size w).alloc (Nat.le_refl _) (.cells (txL t iv ov).toArray 49 (0, 0))).alloc (by simp) (.cells (List.replicate 32 (bV 0)).toArray 25)
  rw [World.size_alloc] at f2
  generalize hw1 : World.alloc _ _ = w1
  have e1 : (w.alloc (.cells (txL t iv ov).toArray 49 (0, 0))).alloc (.cells (List.replicate 32 (bV 0)).toArray 25) = w1 := hw1
  rw [e1] at f1 f2 b1
  have F1 := Lib.hid f1
  have F2 := Lib.hid f2
  have B1 := Lib.hid b1
  clear f1 f2 b1 hw1 e1
  go_wp2_with ((with_reducible show wpList _ _ _ _ _ _); refine wpList_load_row rfl 49 (.tmp 1) rfl w.heap.size rfl 49 (txL t iv ov).toArray (0, 0) _ F1.out Tryd.underlying49 rfl (by kernel_rfl) ?_; go_frame)
  refine (HBy.out t _ w1 (H1.out.below B1.out) TS.out).mono ?_
  rintro e w2 ⟨v2, rfl, ho, hb2⟩
  have S2 := Lib.hid (src_own ho)
  have B2 := Lib.hid (B1.out.trans (hb2.mono B1.out.size))
  have F2 := Lib.hid (row_below F2.out hb2)
  have HLn : Hid ((txB t).length ≤ 576460752303423487) := Nat.le_trans TS.out.len (by omega)
  clear ho hb2
  go_wp2_with fail
  have TW := twice_any (txB t) v2 w2 (HK.out.below B2.out) S2.out HLn.out
  rw [← HD.out] at TW
  refine TW.mono ?_
  rintro e w3 ⟨rfl, hb3⟩
  clear TW
  have B3 := Lib.hid (B2.out.trans (hb3.mono B2.out.size))
  have F3 := Lib.hid (row_below F2.out hb3)
  clear hb3
  go_wp2_with ((with_reducible show wpList _ _ _ _ _ _); refine wpList_store_row rfl 25 (.tmp 2) (.tmp 5) rfl (w.heap.size + 1) dg rfl rfl 25 _ F3.out (by rw [HLen.out]; kernel_rfl) (by rw [HLen.out]; rfl) HOne.out ?_; go_frame)
  refine bodyPost_ret (results_cell_row rfl _ _ (w.heap.size + 1) 25 dg (0, 0) (.array 32 5) rfl (setRow_heap _ _ _ _ _ _ F3.out) Tryd.underlying25 rfl (by rw [HLen.out]; kernel_rfl)) rfl ⟨rfl, below_setRow B3.out (Nat.le_succ _) _⟩
end Go.Proofs.YtgcoegbamoehfaaDoor.Sha

/-
  Numbers written by package compact as new memory; rows that are new grow. No conditions beyond those that each states.
-/
namespace Go.Proofs.YtgcoegbamoehfaaDoor.Sha
open Go Go.RowKit
/-- New memory that reads as bs is answered. -/
def NewPost (w : World) (bs : List UInt8) (e : Ending) (w' : World) : Prop := ∃ sp n cap, e = .returned (.slice sp n cap) ∧ n = bs.length ∧ CopyB w w' (.slice sp n cap) bs
theorem newB_copy {w w' : World} {k c : Nat} {bs : List UInt8} (h : NewB w w' k c bs) : k = bs.length ∧ CopyB w w' (.slice (some ⟨w.heap.size, 0, none⟩) k c) bs := by
  have hl := own_len h.1
  refine ⟨hl, ?_, h.2⟩
  rw [← hl]
  exact h.1
theorem four_new (bs : List UInt8) (v : Value) (x : Nat) (w : World) (hs : SrcB w v bs) (hn : bs.length ≤ 70368744177664) (hx : x ≤ 4294967295) :
    Calls Tryd.prog 36 #[v, .int .u32 (x : Int)] w (NewPost w (bs ++ leB x 4)) := by
  obtain ⟨sp, cap, rfl⟩ := hs.shape
  refine (four_any bs sp bs.length cap x w hs hn hx).mono ?_
  rintro e w' ⟨rfl, h⟩
  exact ⟨_, _, _, rfl, newB_copy h⟩
theorem eight_new (bs : List UInt8) (v : Value) (x : Nat) (w : World) (hs : SrcB w v bs) (hn : bs.length ≤ 70368744177664) :
    Calls Tryd.prog 54 #[v, .int .u64 (x : Int)] w (NewPost w (bs ++ leB x 8)) := by
  obtain ⟨sp, cap, rfl⟩ := hs.shape
  refine (eight_any bs sp bs.length cap x w hs hn).mono ?_
  rintro e w' ⟨rfl, h⟩
  exact ⟨_, _, _, rfl, newB_copy h⟩
theorem put_new (bs : List UInt8) (v : Value) (x : Nat) (w : World) (hs : SrcB w v bs) (hn : bs.length ≤ 70368744177664) :
    Calls Tryd.prog 37 #[v, .int .u64 (x : Int)] w (NewPost w (bs ++ putL x)) := by
  obtain ⟨sp, cap, rfl⟩ := hs.shape
  refine (put_any bs sp bs.length cap x w hs hn).mono ?_
  rintro e w' ⟨rfl, h⟩
  exact ⟨_, _, _, rfl, newB_copy h⟩
theorem CopyB.src {w w' : World} {v : Value} {bs : List UInt8} (h : CopyB w w' v bs) : SrcB w' v bs := src_own h.1
theorem CopyB.keep {w w1 w2 : World} {v : Value} {bs : List UInt8} (h : CopyB w w1 v bs) (hb : Below w1.heap.size w1 w2) : CopyB w w2 v bs := ⟨own_kept h.1 hb, h.2.trans (hb.mono h.2.size)⟩
theorem CopyB.app {w w1 w2 : World} {v v' : Value} {bs cs : List UInt8} (h : CopyB w w1 v bs) (ho : w2.ownsRow w.heap.size 5 1 v' (bs.length + cs.length) (bs.map bV ++ cs.map bV)) (hg : w1.grownBy w2 v.ownBlock) : CopyB w w2 v' (bs ++ cs) :=
  ⟨by rw [List.length_append, List.map_append]; exact ho, own_grown h.2 (Nat.le_refl _) h.2.size h.1 hg⟩
theorem CopyB.start {w0 w w' : World} {v : Value} {bs : List UInt8} (h : CopyB w w' v bs) (hb : Below w0.heap.size w0 w) : CopyB w0 w' v bs := ⟨own_base h.1 hb.size, hb.trans (h.2.mono hb.size)⟩
theorem nil_src (w : World) : SrcB w (.slice none 0 0) [] := .inl ⟨_, _, rfl, rfl⟩
end Go.Proofs.YtgcoegbamoehfaaDoor.Sha

/-
  Package tx writes an input and an output down, in new memory. Nothing that was there turns. Conditions: an input whose key lies in memory; a key of fewer than 2^45 bytes.
-/
namespace Go.Proofs.YtgcoegbamoehfaaDoor.Sha
open Go Go.RowKit
set_option maxHeartbeats 1000000 in
set_option maxRecDepth 100000 in
theorem outBytes_any (y : TOut) (hy : OutOk y) (w : World) :
    Calls Tryd.prog 39 #[.agg (outL y).toArray] w fun e w' => ∃ v, e = .returned v ∧ CopyB w w' v (outB y) := by
  have YOK := Lib.hid hy
  obtain ⟨i0, hi, hz0, hz1, hz2⟩ := info_parts info_u8
  have hl : (outL y).length = 33 := outL_length y hy.1
  obtain ⟨cs, hcs⟩ : ∃ cs, cs = outL y := ⟨_, rfl⟩
  have LO : Hid (cs.toArray.size = 33) := by show _ = _; rw [hcs, List.size_toArray]; exact hl
  rw [← hcs]
  have CS := Lib.hid hcs
  clear hcs hl hy
  go_enter Tryd.func39, Tryd.ntmps39
  go_upto_region 1 with fail
  have F := Lib.hid (heap_alloc_new w (.cells cs.toArray 46 (0, 0)))
  have B0 := Lib.hid ((Below.refl w.heap.size w).alloc (Nat.le_refl _) (.cells cs.toArray 46 (0, 0)))
  generalize hw1 : World.alloc _ _ = w1
  have e1 : w.alloc (.cells cs.toArray 46 (0, 0)) = w1 := hw1
  rw [e1] at F B0
  clear hw1 e1
  have CV : Hid (∀ w', Below w1.heap.size w1 w' → w'.cell? ⟨w.heap.size, 0, none⟩ = some (.int .u64 (y.val : Int))) := fun w' hw' => by
    rw [cell_of_row _ _ _ _ _ _ (row_below F.out hw'), CS.out]
    rfl
  have CL : Hid (∀ w', Below w1.heap.size w1 w' → SrcB w' (.slice (some ⟨w.heap.size, 1, none⟩) 32 32) y.lock) := fun w' hw' => by
    have h := row_below F.out hw'
    rw [CS.out] at h
    have := out_lock (range_of_box h)
    exact src_range this YOK.out.1.symm (by omega) (Nat.le_refl _)
  obtain ⟨base, hbase⟩ : ∃ base, base = w1.heap.size := ⟨_, rfl⟩
  refine wp_region_held_drew (S := (fun w' => Below w1.heap.size w1 w')) (by kernel_rfl) (Below.drew (Below.refl _ _)) (fun hHeld => ?_)
  generalize hwd : w1.drew = wd
  rw [hwd] at hHeld
  clear hwd
  refine held_take (i := 0) (v := (.pointer (some ⟨w.heap.size, 0, none⟩))) rfl (by kernel_rfl) (by kernel_rfl) (by kernel_rfl) (fun _ _ _ h => h) (Or.inl ⟨by rfl, fun w' _ => by kernel_rfl⟩) hHeld ?_
  go_frame
  refine held_take (i := 1) (v := (.int .u64 (y.val : Int))) rfl (by kernel_rfl) (by kernel_rfl) (by kernel_rfl) (fun _ _ _ h => h) (yieldsIf_load_one (by rfl) 22 (.tmp 3) rfl w.heap.size (0) rfl _ _ (fun w' hw' => CV.out w' hw') Tryd.underlying22 rfl) hHeld ?_
  go_frame
  refine held_take (i := 3) (v := (.pointer (some ⟨w.heap.size, 1, none⟩))) rfl (by kernel_rfl) (by kernel_rfl) (by kernel_rfl) (fun _ _ _ h => h) (Or.inl ⟨by rfl, fun w' _ => by kernel_rfl⟩) hHeld ?_
  go_frame
  refine held_take (i := 4) (v := (.slice (some ⟨w.heap.size, 1, none⟩) 32 32)) rfl (by kernel_rfl) (by kernel_rfl) (by kernel_rfl) (fun _ _ _ h => h) (Or.inl ⟨by rfl, fun w' _ => by kernel_rfl⟩) hHeld ?_
  go_frame
  refine wpAnyH_ready (rs := [2]) (by kernel_rfl) (by simp) (held_cons rfl (fun K hK => ?_) AllReadyH.nil)
  go_simp
  refine (eight_new [] _ y.val wd (nil_src _) (by simp)).mono ?_
  rintro e w2 ⟨s2, n2, c2, rfl, hn2, hc2⟩
  have C2 := Lib.hid (hc2.start hHeld)
  have HE := Lib.hid (hHeld.trans (hc2.2.mono hHeld.size))
  clear hHeld hc2 hn2
  go_wp2_with fail
  refine hK.out _ _ HE.out (fun hHeld => ?_)
  clear hK K HE
  refine wpAnyH_ready (rs := [5]) (by kernel_rfl) (by simp) (held_cons rfl (fun K hK => ?_) AllReadyH.nil)
  rw [if_pos (by rfl)]
  refine wp_append_g w2 (.tmp 5) (.tmp 7) 41 rfl w1.heap.size 5 i0 Tryd.underlying41 hi hz0 hz1 hz2 _ _ _ rfl C2.out.1 (.slice (some ⟨w.heap.size, 1, none⟩) 32 32) y.lock rfl (CL.out w2 hHeld) (by have := YOK.out.1; simp only [List.length_append, leB_length, List.length_nil]; omega) C2.out.2.size ?_
  intro v3 w3 a1 a2 a3
  have C3 := Lib.hid (C2.out.app a1 a2)
  clear a1 a2 a3 hHeld C2
  go_frame
  refine hK.out _ _ C3.out.2 (fun hHeld => ?_)
  clear hK K
  refine held_take (i := 6) (v := v3) rfl (by kernel_rfl) (by kernel_rfl) (by kernel_rfl) (fun _ _ _ h => h) (Or.inl ⟨by rfl, fun w' _ => by kernel_rfl⟩) hHeld ?_
  go_frame
  refine wpAnyH_done (by kernel_rfl) ?_ _
  clear hHeld
  go_wp2_with fail
  go_ret
  refine ⟨_, rfl, ?_⟩
  have h := C3.out.start B0.out
  rwa [List.nil_append] at h
set_option maxHeartbeats 1000000 in
set_option maxRecDepth 100000 in
theorem inBytes_any (x : TIn) (kx : Value) (hx : InOk x) (w : World) (hk : KeyAt w kx x.key) (hkl : x.key.length ≤ 35184372088832) :
    Calls Tryd.prog 38 #[.agg (inL x kx).toArray] w fun e w' => ∃ v, e = .returned v ∧ CopyB w w' v (inB x) := by
  have XOK := Lib.hid hx
  obtain ⟨i0, hi, hz0, hz1, hz2⟩ := info_parts info_u8
  obtain ⟨sx, cx, rfl⟩ := hk.2
  obtain ⟨kl, hkl2⟩ : ∃ kl, kl = x.key.length := ⟨_, rfl⟩
  have KS := Lib.hid hk.1
  have BKL := Lib.hid hkl
  rw [← hkl2] at KS ⊢
  have KL := Lib.hid hkl2
  have bkl : kl ≤ 35184372088832 := by rw [hkl2]; exact hkl
  obtain ⟨cs, hcs⟩ : ∃ cs, cs = inL x (.slice sx kl cx) := ⟨_, rfl⟩
  rw [← hcs]
  have CS := Lib.hid hcs
  clear hcs hx hk hkl hkl2
  go_enter Tryd.func38, Tryd.ntmps38
  go_upto_region 1 with fail
  have F := Lib.hid (heap_alloc_new w (.cells cs.toArray 43 (0, 0)))
  have B0 := Lib.hid ((Below.refl w.heap.size w).alloc (Nat.le_refl _) (.cells cs.toArray 43 (0, 0)))
  generalize hw1 : World.alloc _ _ = w1
  have e1 : w.alloc (.cells cs.toArray 43 (0, 0)) = w1 := hw1
  rw [e1] at F B0
  clear hw1 e1
  have RB : Hid (∀ w', Below w1.heap.size w1 w' → w'.rangeAt w.heap.size 0 (inL x (.slice sx kl cx))) := fun w' hw' => by
    have h := row_below F.out hw'
    rw [CS.out] at h
    exact range_of_box h
  have C32 : Hid (∀ w', Below w1.heap.size w1 w' → w'.cell? ⟨w.heap.size, 32, none⟩ = some (.int .u32 (x.n : Int))) := fun w' hw' => by simpa using in_num XOK.out.1 (RB.out w' hw')
  have C33 : Hid (∀ w', Below w1.heap.size w1 w' → w'.cell? ⟨w.heap.size, 33, none⟩ = some (.slice sx kl cx)) := fun w' hw' => by simpa using in_key XOK.out.1 (RB.out w' hw')
  have C34 : Hid (∀ w', Below w1.heap.size w1 w' → w'.cell? ⟨w.heap.size, 34, none⟩ = some (.int .u32 (x.seq : Int))) := fun w' hw' => by simpa using in_seq XOK.out.1 (RB.out w' hw')
  have CH : Hid (∀ w', Below w1.heap.size w1 w' → SrcB w' (.slice (some ⟨w.heap.size, 0, none⟩) 32 32) x.h) := fun w' hw' => src_range (in_hash (RB.out w' hw')) XOK.out.1.symm (by omega) (Nat.le_refl _)
  refine wp_region_held_drew (S := (fun w' => Below w1.heap.size w1 w')) (by kernel_rfl) (Below.drew (Below.refl _ _)) (fun hHeld => ?_)
  generalize hwd : w1.drew = wd
  rw [hwd] at hHeld
  clear hwd
  refine held_take (i := 0) (v := (.pointer (some ⟨w.heap.size, 0, none⟩))) rfl (by kernel_rfl) (by kernel_rfl) (by kernel_rfl) (fun _ _ _ h => h) (Or.inl ⟨by rfl, fun w' _ => by kernel_rfl⟩) hHeld ?_
  go_frame
  refine held_take (i := 1) (v := (.pointer (some ⟨w.heap.size, 0, none⟩))) rfl (by kernel_rfl) (by kernel_rfl) (by kernel_rfl) (fun _ _ _ h => h) (Or.inl ⟨by rfl, fun w' _ => by kernel_rfl⟩) hHeld ?_
  go_frame
  refine held_take (i := 2) (v := (.slice (some ⟨w.heap.size, 0, none⟩) 32 32)) rfl (by kernel_rfl) (by kernel_rfl) (by kernel_rfl) (fun _ _ _ h => h) (Or.inl ⟨by rfl, fun w' _ => by kernel_rfl⟩) hHeld ?_
  go_frame
  refine held_take (i := 3) (v := (.pointer (some ⟨w.heap.size, 0, none⟩))) rfl (by kernel_rfl) (by kernel_rfl) (by kernel_rfl) (fun _ _ _ h => h) (Or.inl ⟨by rfl, fun w' _ => by kernel_rfl⟩) hHeld ?_
  go_frame
  refine held_take (i := 4) (v := (.pointer (some ⟨w.heap.size, 32, none⟩))) rfl (by kernel_rfl) (by kernel_rfl) (by kernel_rfl) (fun _ _ _ h => h) (Or.inl ⟨by rfl, fun w' _ => by kernel_rfl⟩) hHeld ?_
  go_frame
  refine held_take (i := 5) (v := (.int .u32 (x.n : Int))) rfl (by kernel_rfl) (by kernel_rfl) (by kernel_rfl) (fun _ _ _ h => h) (yieldsIf_load_one (by rfl) 26 (.tmp 8) rfl w.heap.size (32) rfl _ _ (fun w' hw' => C32.out w' hw') Tryd.underlying26 rfl) hHeld ?_
  go_frame
  refine wpAnyH_ready (rs := [6]) (by kernel_rfl) (by simp) (held_cons rfl (fun K hK => ?_) AllReadyH.nil)
  go_simp
  refine (four_new x.h _ x.n wd (CH.out wd hHeld) (by have := XOK.out.1; omega) XOK.out.2.1).mono ?_
  rintro e w2 ⟨s2, n2, c2, rfl, hn2, hc2⟩
  have C2 := Lib.hid (hc2.start hHeld)
  have HE := Lib.hid (hHeld.trans (hc2.2.mono hHeld.size))
  clear hHeld hc2 hn2
  go_wp2_with fail
  refine hK.out _ _ HE.out (fun hHeld => ?_)
  clear hK K HE
  refine held_take (i := 7) (v := (.slice s2 n2 c2)) rfl (by kernel_rfl) (by kernel_rfl) (by kernel_rfl) (fun _ _ _ h => h) (Or.inl ⟨by rfl, fun w' _ => by kernel_rfl⟩) hHeld ?_
  go_frame
  refine wpAnyH_done (by kernel_rfl) ?_ _
  clear hHeld
  have k33 := C33.out w2 C2.out.2
  have u1 : IntKind.u64.wrap (kl : Int) = (kl : Int) := u64_stays (by omega)
  go_wp2_with fail
  refine (put_new _ _ kl w2 C2.out.src (by have := XOK.out.1; simp only [List.length_append, leB_length]; omega)).mono ?_
  rintro e w3 ⟨s3, n3, c3, rfl, hn3, hc3⟩
  have C3 := Lib.hid (hc3.start C2.out.2)
  clear hc3 hn3 k33 u1
  have k33 := C33.out w3 C3.out.2
  obtain ⟨A3, hA3⟩ : ∃ A3, A3 = x.h ++ leB x.n 4 ++ putL kl := ⟨_, rfl⟩
  rw [← hA3] at C3
  have LA3 : Hid (A3.length ≤ 45) := by show _ ≤ _; rw [hA3]; have := XOK.out.1; have := lenN_bd kl; simp only [List.length_append, leB_length, putL_length]; omega
  have HA3 := Lib.hid hA3
  clear hA3
  go_wp2_with ((with_reducible show wpList _ _ _ _ _ _); refine wpList_append_g w3 rfl (.tmp 17) (.tmp 19) 41 rfl w1.heap.size 5 i0 Tryd.underlying41 hi hz0 hz1 hz2 _ _ _ (by rfl) C3.out.1 (.slice sx kl cx) x.key (by rfl) ((KS.out.below B0.out).below C3.out.2) (by have := LA3.out; have := BKL.out; omega) C3.out.2.size ?_; intro v4 w4 a1 a2 a3; have C4 := Lib.hid (C3.out.app a1 a2); have k34 := C34.out w4 C4.out.2; clear a1 a2 a3; go_frame)
  refine (four_new (A3 ++ x.key) v4 x.seq w4 C4.out.src (by have := LA3.out; have := BKL.out; simp only [List.length_append]; omega) XOK.out.2.2).mono ?_
  rintro e w5 ⟨s5, n5, c5, rfl, hn5, hc5⟩
  have C5 := Lib.hid ((hc5.start C4.out.2).start B0.out)
  clear hc5 hn5
  go_wp2_with fail
  go_ret
  refine ⟨_, rfl, ?_⟩
  have h := C5.out
  rw [HA3.out, KL.out] at h
  exact h
end Go.Proofs.YtgcoegbamoehfaaDoor.Sha

/-
  Package tx tells how many bytes a transaction has, and how long its longest key is. Nothing that was there turns. Condition: a transaction of a few inputs and outputs that lies in memory.
-/
namespace Go.Proofs.YtgcoegbamoehfaaDoor.Sha
open Go Go.RowKit
def SzInv (n : Nat) (A : Nat) (t : TTx) (w1 : World) (vs vi : Value) (wr : World) : Prop :=
  ∃ k s : Nat, k ≤ n ∧ vi = .int .i64 k ∧ s = A + (insB (t.ins.take k)).length ∧ vs = .int .i64 s ∧ Below w1.heap.size w1 wr
set_option maxHeartbeats 1000000 in
set_option maxRecDepth 100000 in
theorem size_all : SizeC := by
  intro t v w h1 hs
  have h1' := h1
  obtain ⟨ht0, iv, ov, rfl, hti, hto⟩ := h1
  obtain ⟨si, ci, rfl, hci, hti⟩ := hti
  obtain ⟨so, co, rfl, hco, hto⟩ := hto
  have HTI := Lib.hid hti
  have HTO := Lib.hid hto
  obtain ⟨ni, hn1⟩ : ∃ ni, ni = t.ins.length := ⟨_, rfl⟩
  obtain ⟨no, hn2⟩ : ∃ no, no = t.outs.length := ⟨_, rfl⟩
  obtain ⟨vt, hvt⟩ : ∃ vt, vt = t.ver := ⟨_, rfl⟩
  obtain ⟨tt, htt⟩ : ∃ tt, tt = t.time := ⟨_, rfl⟩
  have NI := Lib.hid hn1
  have NO := Lib.hid hn2
  have VT := Lib.hid hvt
  have TT := Lib.hid htt
  have TS := Lib.hid hs
  have bni : ni ≤ 1000 := by rw [hn1]; exact hs.2.1
  have bno : no ≤ 1000 := by rw [hn2]; exact hs.2.2.1
  simp only [txL, ← hn1, ← hn2, ← hvt, ← htt] at h1' ⊢
  have H1 := Lib.hid h1'
  clear hn1 hn2 hci hco hvt htt ht0 hti hto h1' hs
  
  go_enter Tryd.func35, Tryd.ntmps35
  go_upto_region 1 with fail
  have F := Lib.hid (heap_alloc_new w (.cells [nV vt, .slice si ni ci, .slice so no co, nV tt].toArray 49 (0, 0)))
  have B0 := Lib.hid ((Below.refl w.heap.size w).alloc (Nat.le_refl _) (.cells [nV vt, .slice si ni ci, .slice so no co, nV tt].toArray 49 (0, 0)))
  generalize hw1 : World.alloc _ _ = w1
  have e1 : w.alloc (.cells [nV vt, .slice si ni ci, .slice so no co, nV tt].toArray 49 (0, 0)) = w1 := hw1
  rw [e1] at F B0
  clear hw1 e1
  have BOX : Hid (∀ w', Below w1.heap.size w1 w' → ∀ j v, [nV vt, .slice si ni ci, .slice so no co, nV tt][j]? = some v → w'.cell? ⟨w.heap.size, j, none⟩ = some v) := fun w' hw' j v hj => by
    rw [cell_of_row _ _ _ _ _ _ (row_below F.out hw'), List.getElem?_toArray]
    exact hj
  obtain ⟨li, hli⟩ : ∃ li, li = lenN ni := ⟨_, rfl⟩
  obtain ⟨lo, hlo⟩ : ∃ lo, lo = lenN no := ⟨_, rfl⟩
  have bli : li ≤ 9 := by have := lenN_bd ni; omega
  have blo : lo ≤ 9 := by have := lenN_bd no; omega
  have LI := Lib.hid hli
  have LO := Lib.hid hlo
  have CI : Hid (∀ w, Calls Tryd.prog 51 #[.int .u64 (ni : Int)] w fun e w' => e = .returned (.int .i64 (li : Int)) ∧ w' = w) := fun w => by rw [LI.out]; exact same_of (len_c ni w)
  have CO : Hid (∀ w, Calls Tryd.prog 51 #[.int .u64 (no : Int)] w fun e w' => e = .returned (.int .i64 (lo : Int)) ∧ w' = w) := fun w => by rw [LO.out]; exact same_of (len_c no w)
  have c1 : w1.cell? ⟨w.heap.size, 1, none⟩ = some (.slice si ni ci) := BOX.out w1 (Below.refl _ _) 1 _ rfl
  have c2 : w1.cell? ⟨w.heap.size, 2, none⟩ = some (.slice so no co) := BOX.out w1 (Below.refl _ _) 2 _ rfl
  clear hli hlo
  have u1 := @u64_stays (ni : Int) (by omega)
  have u2 := @u64_stays (no : Int) (by omega)
  have u3 := @i64_stays (8 + (li : Int)) (by omega)
  have u4 := @i64_stays (8 + (li : Int) + (lo : Int)) (by omega)
  go_quiet ((first | (go_at_call 51; with_reducible exact Calls.quiet_of_same (CI.out _)) | (go_at_call 51; with_reducible exact Calls.quiet_of_same (CO.out _))))
  clear u1 u2 u3 u4
  go_wp2_with fail
  obtain ⟨A, hA⟩ : ∃ A, A = 8 + li + lo := ⟨_, rfl⟩
  have HA := Lib.hid hA
  have hA2 : (8 : Int) + (li : Int) + (lo : Int) = (A : Int) := by omega
  rw [hA2]
  have bA : A ≤ 26 := by omega
  clear hA hA2 c1 c2 bli blo
  go_loopw [3, 21] (fun vs vi wr => SzInv ni A t w1 vs vi wr) (fun _ i _ => ni - (intOf i).toNat)
  case atStart => exact ⟨0, A, by omega, rfl, by simp [insB], rfl, below_drewN (Below.refl _ _) _⟩
  case round =>
    obtain ⟨k, s, hk, rfl, hs, rfl, B⟩ := hrel
    have B := Lib.hid B
    have HSm := Lib.hid hs
    clear hs
    by_cases hlt : k < ni
    · have hkx : k < t.ins.length := by have := NI.out; omega
      obtain ⟨b1, o1, hs1, he1⟩ := HTI.out (by omega)
      have g1 := he1 k _ (List.getElem?_eq_getElem hkx)
      obtain ⟨x, hx⟩ : ∃ x, x = t.ins[k] := ⟨_, rfl⟩
      rw [← hx] at g1
      have hgx : t.ins[k]? = some x := by rw [hx]; exact List.getElem?_eq_getElem _
      obtain ⟨hx1, kx, hkx2, hr1⟩ := g1
      obtain ⟨sx, cx, hkv⟩ := hkx2.2
      obtain ⟨kl, hkl⟩ : ∃ kl, kl = x.key.length := ⟨_, rfl⟩
      rw [← hkl] at hkv
      subst hkv
      have p0 : 0 ≤ (k : Int) := by omega
      have q0 : (k : Int) < (ni : Int) := by omega
      have bkl : kl ≤ 100000 := by rw [hkl]; exact TS.out.2.2.2 x (List.mem_of_getElem? hgx)
      have R1 := Lib.hid (range_below (range_below hr1 B0.out) B.out)
      have KW := Lib.hid ((hkx2.1.below B0.out).below B.out)
      have GX := Lib.hid hgx
      have KL := Lib.hid hkl
      have XOK := Lib.hid hx1
      have ONE := Lib.hid (in_one x (.slice sx kl cx) rfl)
      have LX : Hid ((inL x (.slice sx kl cx)).length = 35) := inL_length x _ hx1.1
      have LX' : Hid ((inL x (.slice sx kl cx)).toArray.size = 35) := by show _ = _; rw [List.size_toArray]; exact LX.out
      subst hs1
      clear hx hgx he1 hx1 hkx2 hr1 hkl hkx
      obtain ⟨g5, hg5⟩ : ∃ g5, g5 = wr.heap.size := ⟨_, rfl⟩
      obtain ⟨_, f2, f3, f4⟩ := fill_setup (Below.refl wr.heap.size wr) (List.replicate 32 (bV 0) ++ [nV 0, .slice none 0 0, nV 0]).toArray (inL x (.slice sx kl cx)).toArray 43
      go_upto_region 5 with ((with_reducible show wpList _ _ _ _ _ _); first | (refine wpList_load_mid rfl 43 (.tmp 23) rfl b1 (o1 + k * 35) rfl (inL x (.slice sx kl cx)) _ R1.out Tryd.underlying43 rfl (by rw [LX.out]; kernel_rfl) ?_; go_frame) | (refine wpList_store_row rfl 43 (.tmp 5) (.tmp 24) rfl wr.heap.size (inL x (.slice sx kl cx)).toArray rfl rfl 43 _ (heap_alloc_new _ _) (by rw [LX'.out]; kernel_rfl) (by rw [LX'.out]; rfl) ONE.out ?_; go_frame))
      rw [← hg5] at f2 f3 f4 ⊢
      generalize hw5 : World.setRow _ _ _ = w5
      have e5 : World.setRow (wr.alloc (.cells (List.replicate 32 (bV 0) ++ [nV 0, .slice none 0 0, nV 0]).toArray 43)) g5 (inL x (.slice sx kl cx)).toArray = w5 := hw5
      rw [e5] at f2 f4
      rw [hg5] at f4
      have F5 := Lib.hid f2
      have N5 := Lib.hid f4
      have B5 := Lib.hid (B.out.trans (f4.mono B.out.size))
      have G5 := Lib.hid hg5
      have IN5 : Hid (∀ (j : Nat) (u : Value), (inL x (.slice sx kl cx))[j]? = some u → w5.cell? ⟨g5, j, none⟩ = some u) := fun j u hj => by
        rw [cell_of_row _ _ _ _ _ _ F5.out, List.getElem?_toArray]
        exact hj
      have X33 : Hid ((inL x (.slice sx kl cx))[33]? = some (.slice sx kl cx)) := by show _ = _; rw [inL, List.getElem?_append_right (by simp [ptL, XOK.out.1])]; simp [ptL, XOK.out.1]
      clear f2 f3 f4 hg5 hw5 e5

      have c5 : w5.cell? ⟨g5, 33, none⟩ = some (.slice sx kl cx) := IN5.out 33 _ X33.out
      obtain ⟨lk, hlk⟩ : ∃ lk, lk = lenN kl := ⟨_, rfl⟩
      have blk : lk ≤ 9 := by have := lenN_bd kl; omega
      have LK := Lib.hid hlk
      have CK : Hid (∀ w, Calls Tryd.prog 51 #[.int .u64 (kl : Int)] w fun e w' => e = .returned (.int .i64 (lk : Int)) ∧ w' = w) := fun w => by rw [LK.out]; exact same_of (len_c kl w)
      have HI : Hid ((inB x).length = 40 + lk + kl) := by show _ = _; rw [inB_length x XOK.out, LK.out, KL.out]
      have bs : s + 40 + lk + kl ≤ 300000000 := by
        have h1 := ins_part GX.out
        have h2 := TS.out.ins0
        have h3 := HI.out
        have h4 := HSm.out
        omega
      clear hlk
      have u1 := @u64_stays (kl : Int) (by omega)
      have u2 := @i64_stays (40 + (lk : Int)) (by omega)
      have u3 := @i64_stays (40 + (lk : Int) + (kl : Int)) (by omega)
      have u4 := @i64_stays ((s : Int) + (40 + (lk : Int) + (kl : Int))) (by omega)
      go_quiet ((go_at_call 51; with_reducible exact Calls.quiet_of_same (CK.out _)))
      clear u1 u2 u3 u4 c5
      go_wp2_with fail
      go_roundw
      case rel =>
        refine ⟨k + 1, s + (40 + lk + kl), by omega, by go_num, ?_, by go_num, below_drewN B5.out _⟩
        rw [ins_snoc GX.out, List.length_append, HI.out, HSm.out]
        omega
      case measure => simp [intOf]; omega
    · have hkn : k = ni := by omega
      have hge : ¬ (k : Int) < (ni : Int) := by omega
      have c2 : wr.cell? ⟨w.heap.size, 2, none⟩ = some (.slice so no co) := BOX.out wr B.out 2 _ rfl
      have hs2 : s = A + (insB t.ins).length := by rw [HSm.out, hkn, NI.out, List.take_length]
      have hs3 := TS.out.bytes
      rw [← NI.out, ← NO.out, ← LI.out, ← LO.out] at hs3
      have HR : Hid ((txB t).length = s + 40 * no) := by show _ = _; have := HA.out; omega
      have bs : s ≤ 300000000 := by have := TS.out.ins0; omega
      clear hkn hs2 hs3
      go_wp2_with fail
      go_ret
      exact ⟨ret_int (by rw [HR.out]; omega), B0.out.trans (B.out.mono B0.out.size)⟩
end Go.Proofs.YtgcoegbamoehfaaDoor.Sha

/-
  Package tx writes a transaction down, in new memory. Nothing that was there turns. Condition: a transaction of a few inputs and outputs that lies in memory.
-/
namespace Go.Proofs.YtgcoegbamoehfaaDoor.Sha
open Go Go.RowKit
def BtInv (n : Nat) (A : Nat → List UInt8) (w1 : World) (vb vi : Value) (wr : World) : Prop :=
  ∃ (k : Nat) (vq : Value), vq = vb ∧ k ≤ n ∧ vi = .int .i64 k ∧ CopyB w1 wr vq (A k)
set_option maxHeartbeats 4000000 in
set_option maxRecDepth 100000 in
theorem bytes_all : BytesC := by
  intro t v w h1 hs
  obtain ⟨i0, hi, hz0, hz1, hz2⟩ := info_parts info_u8
  have h1' := h1
  obtain ⟨ht0, iv, ov, rfl, hti, hto⟩ := h1
  obtain ⟨si, ci, rfl, hci, hti⟩ := hti
  obtain ⟨so, co, rfl, hco, hto⟩ := hto
  have HTI := Lib.hid hti
  have HTO := Lib.hid hto
  obtain ⟨ni, hn1⟩ : ∃ ni, ni = t.ins.length := ⟨_, rfl⟩
  obtain ⟨no, hn2⟩ : ∃ no, no = t.outs.length := ⟨_, rfl⟩
  obtain ⟨vt, hvt⟩ : ∃ vt, vt = t.ver := ⟨_, rfl⟩
  obtain ⟨tt, htt⟩ : ∃ tt, tt = t.time := ⟨_, rfl⟩
  have NI := Lib.hid hn1
  have NO := Lib.hid hn2
  have VT := Lib.hid hvt
  have TT := Lib.hid htt
  have TS := Lib.hid hs
  have bni : ni ≤ 1000 := by rw [hn1]; exact hs.2.1
  have bno : no ≤ 1000 := by rw [hn2]; exact hs.2.2.1
  simp only [txL, ← hn1, ← hn2, ← hvt, ← htt] at h1' ⊢
  have H1 := Lib.hid h1'
  clear hn1 hn2 hci hco hvt htt ht0 hti hto h1' hs
  
  go_enter Tryd.func27, Tryd.ntmps27
  go_upto_region 1 with fail
  have F := Lib.hid (heap_alloc_new w (.cells [nV vt, .slice si ni ci, .slice so no co, nV tt].toArray 49 (0, 0)))
  have B0 := Lib.hid ((Below.refl w.heap.size w).alloc (Nat.le_refl _) (.cells [nV vt, .slice si ni ci, .slice so no co, nV tt].toArray 49 (0, 0)))
  generalize hw1 : World.alloc _ _ = w1
  have e1 : w.alloc (.cells [nV vt, .slice si ni ci, .slice so no co, nV tt].toArray 49 (0, 0)) = w1 := hw1
  rw [e1] at F B0
  clear hw1 e1
  have BOX : Hid (∀ w', Below w1.heap.size w1 w' → ∀ j v, [nV vt, .slice si ni ci, .slice so no co, nV tt][j]? = some v → w'.cell? ⟨w.heap.size, j, none⟩ = some v) := fun w' hw' j v hj => by
    rw [cell_of_row _ _ _ _ _ _ (row_below F.out hw'), List.getElem?_toArray]
    exact hj
  obtain ⟨sz, hsz⟩ : ∃ sz, sz = (txB t).length := ⟨_, rfl⟩
  have bsz : sz ≤ 35184372088832 := by rw [hsz]; exact TS.out.len
  have SZ : Hid (∀ w', Below w1.heap.size w1 w' → Calls Tryd.prog 35 #[.agg [nV vt, .slice si ni ci, .slice so no co, nV tt].toArray] w' fun e w'' => e = .returned (.int .i64 (sz : Int)) ∧ Below w'.heap.size w' w'') := fun w' hw' => by
    rw [hsz]
    exact size_all t _ w' ((H1.out.below B0.out).below hw') TS.out
  have LI : Hid ((insB t.ins).length ≤ 200000000) := TS.out.ins0
  have LO : Hid ((outsB t.outs).length ≤ 40000) := by show _ ≤ _; rw [outsB_length t.outs TS.out.1.2.2.1]; have := TS.out.2.2.1; omega
  have VTB : Hid (vt ≤ 4294967295) := by show _ ≤ _; rw [VT.out]; exact TS.out.1.1.1
  have TTB : Hid (tt ≤ 4294967295) := by show _ ≤ _; rw [TT.out]; exact TS.out.1.1.2
  clear hsz
  go_wp2_with ((with_reducible show wpList _ _ _ _ _ _); refine wpList_load_row rfl 49 (.tmp 1) rfl w.heap.size rfl 49 [nV vt, .slice si ni ci, .slice so no co, nV tt].toArray (0, 0) _ F.out Tryd.underlying49 rfl (by kernel_rfl) ?_; go_frame)
  refine (SZ.out w1 (Below.refl _ _)).mono ?_
  rintro e w2 ⟨rfl, hb2⟩
  have B2 := Lib.hid hb2
  clear hb2 SZ
  have c0 : w2.cell? ⟨w.heap.size, 0, none⟩ = some (Value.int .u32 (vt : Int)) := BOX.out w2 B2.out 0 _ rfl
  go_upto_region 2 with (at_make; refine wpList_make_own _ rfl _ _ 41 rfl w2.heap.size 5 i0 (.int .u8 0) 1 Tryd.underlying41 hi hz0 hz1 _ _ _ sz rfl rfl (by omega) (by rw [hz2]; omega) (by unfold maxLen; omega) (Nat.le_refl _) ?_; intro w3 hown hgrow; have C3 : Hid (CopyB w2 w3 (.slice (some ⟨w2.heap.size, 0, none⟩) 0 sz) []) := (⟨hown, below_made hgrow⟩ : CopyB w2 w3 (.slice (some ⟨w2.heap.size, 0, none⟩) 0 sz) []); clear hown hgrow; go_frame)
  have C3 := Lib.hid (C3.out.start B2.out)
  clear c0 bsz
  have c0 : w3.cell? ⟨w.heap.size, 0, none⟩ = some (Value.int .u32 (vt : Int)) := BOX.out w3 C3.out.2 0 _ rfl
  go_wp2_with fail
  refine (four_new [] _ vt w3 (nil_src _) (by simp) VTB.out).mono ?_
  rintro e w4 ⟨s4, n4, c4, rfl, hn4, hc4⟩
  have P4 := Lib.hid hc4
  have C4 := Lib.hid (C3.out.keep hc4.2)
  clear hn4 hc4 c0 C3
  rw [List.nil_append] at P4
  go_upto_region 3 with ((with_reducible show wpList _ _ _ _ _ _); refine wpList_append_g _ rfl (.tmp 11) (.tmp 14) 41 rfl w1.heap.size 5 i0 Tryd.underlying41 hi hz0 hz1 hz2 _ _ _ (by rfl) C4.out.1 (.slice s4 n4 c4) (leB vt 4) (by rfl) P4.out.src (by simp only [leB_length, List.length_nil]; omega) C4.out.2.size ?_; intro v5 w5 a1 a2 a3; have C5 := Lib.hid (C4.out.app a1 a2); clear a1 a2 a3; go_frame)
  obtain ⟨A5, hA5⟩ : ∃ A5, A5 = leB vt 4 := ⟨_, rfl⟩
  rw [List.nil_append, ← hA5] at C5
  have LA5 : Hid (A5.length = 4) := by show _ = _; rw [hA5, leB_length]
  have HA5 := Lib.hid hA5
  clear hA5 P4 C4
  have c1 : w5.cell? ⟨w.heap.size, 1, none⟩ = some (Value.slice si ni ci) := BOX.out w5 C5.out.2 1 _ rfl
  have u1 : IntKind.u64.wrap (ni : Int) = (ni : Int) := u64_stays (by omega)
  go_wp2_with fail
  refine (put_new [] _ ni w5 (nil_src _) (by simp)).mono ?_
  rintro e w6 ⟨s6, n6, c6, rfl, hn6, hc6⟩
  have P6 := Lib.hid hc6
  have C6 := Lib.hid (C5.out.keep hc6.2)
  clear hn6 hc6 c1 u1 C5
  rw [List.nil_append] at P6
  have LP6 : Hid ((putL ni).length ≤ 9) := by show _ ≤ _; rw [putL_length]; have := lenN_bd ni; omega
  go_upto_region 4 with ((with_reducible show wpList _ _ _ _ _ _); refine wpList_append_g _ rfl (.tmp 16) (.tmp 21) 41 rfl w1.heap.size 5 i0 Tryd.underlying41 hi hz0 hz1 hz2 _ _ _ (by rfl) C6.out.1 (.slice s6 n6 c6) (putL ni) (by rfl) P6.out.src (by have := LA5.out; have := LP6.out; omega) C6.out.2.size ?_; intro v7 w7 a1 a2 a3; have C7 := Lib.hid (C6.out.app a1 a2); clear a1 a2 a3; go_frame)
  obtain ⟨A7, hA7⟩ : ∃ A7, A7 = A5 ++ putL ni := ⟨_, rfl⟩
  rw [← hA7] at C7
  have LA7 : Hid (A7.length ≤ 13) := by show _ ≤ _; rw [hA7, List.length_append]; have := LA5.out; have := LP6.out; omega
  have HA7 := Lib.hid hA7
  clear hA7 P6 C6 LP6 LA5
  have c1 : w7.cell? ⟨w.heap.size, 1, none⟩ = some (Value.slice si ni ci) := BOX.out w7 C7.out.2 1 _ rfl
  go_wp2_with fail
  clear c1
  go_loopw [3, 26] (fun vb vi wr => BtInv ni (fun k => A7 ++ insB (t.ins.take k)) w1 vb vi wr) (fun _ i _ => ni - (intOf i).toNat)
  case atStart => exact ⟨0, _, rfl, by omega, rfl, by simpa [insB] using C7.out⟩
  case round =>
    clear C7
    obtain ⟨k, vb, rfl, hk, rfl, HC⟩ := hrel
    have HC : CopyB w1 wr vb (A7 ++ insB (t.ins.take k)) := HC
    have HC := Lib.hid HC
    have B := Lib.hid HC.out.2
    by_cases hlt : k < ni
    · have hkx : k < t.ins.length := by have := NI.out; omega
      obtain ⟨b1, o1, hs1, he1⟩ := HTI.out (by omega)
      have g1 := he1 k _ (List.getElem?_eq_getElem hkx)
      obtain ⟨x, hx⟩ : ∃ x, x = t.ins[k] := ⟨_, rfl⟩
      rw [← hx] at g1
      have hgx : t.ins[k]? = some x := by rw [hx]; exact List.getElem?_eq_getElem _
      obtain ⟨hx1, kx, hkx2, hr1⟩ := g1
      obtain ⟨sx, cx, hkv⟩ := hkx2.2
      obtain ⟨kl, hkl⟩ : ∃ kl, kl = x.key.length := ⟨_, rfl⟩
      rw [← hkl] at hkv
      subst hkv
      have p0 : 0 ≤ (k : Int) := by omega
      have q0 : (k : Int) < (ni : Int) := by omega
      have bkl : kl ≤ 100000 := by rw [hkl]; exact TS.out.2.2.2 x (List.mem_of_getElem? hgx)
      have R1 := Lib.hid (range_below (range_below hr1 B0.out) B.out)
      have KW := Lib.hid ((hkx2.1.below B0.out).below B.out)
      have GX := Lib.hid hgx
      have KL := Lib.hid hkl
      have XOK := Lib.hid hx1
      have ONE := Lib.hid (in_one x (.slice sx kl cx) rfl)
      have LX : Hid ((inL x (.slice sx kl cx)).length = 35) := inL_length x _ hx1.1
      have LX' : Hid ((inL x (.slice sx kl cx)).toArray.size = 35) := by show _ = _; rw [List.size_toArray]; exact LX.out
      subst hs1
      clear hx hgx he1 hx1 hkx2 hr1 hkl hkx
      obtain ⟨g5, hg5⟩ : ∃ g5, g5 = wr.heap.size := ⟨_, rfl⟩
      obtain ⟨_, f2, f3, f4⟩ := fill_setup (Below.refl wr.heap.size wr) (List.replicate 32 (bV 0) ++ [nV 0, .slice none 0 0, nV 0]).toArray (inL x (.slice sx kl cx)).toArray 43
      go_upto_region 7 with ((with_reducible show wpList _ _ _ _ _ _); first | (refine wpList_load_mid rfl 43 (.tmp 28) rfl b1 (o1 + k * 35) rfl (inL x (.slice sx kl cx)) _ R1.out Tryd.underlying43 rfl (by rw [LX.out]; kernel_rfl) ?_; go_frame) | (refine wpList_store_row rfl 43 (.tmp 5) (.tmp 29) rfl wr.heap.size (inL x (.slice sx kl cx)).toArray rfl rfl 43 _ (heap_alloc_new _ _) (by rw [LX'.out]; kernel_rfl) (by rw [LX'.out]; rfl) ONE.out ?_; go_frame))
      rw [← hg5] at f2 f3 f4 ⊢
      generalize hw5 : World.setRow _ _ _ = w5
      have e5 : World.setRow (wr.alloc (.cells (List.replicate 32 (bV 0) ++ [nV 0, .slice none 0 0, nV 0]).toArray 43)) g5 (inL x (.slice sx kl cx)).toArray = w5 := hw5
      rw [e5] at f2 f4
      rw [hg5] at f4
      have F5 := Lib.hid f2
      have N5 := Lib.hid f4
      have B5 := Lib.hid (B.out.trans (f4.mono B.out.size))
      have G5 := Lib.hid hg5
      have IN5 : Hid (∀ (j : Nat) (u : Value), (inL x (.slice sx kl cx))[j]? = some u → w5.cell? ⟨g5, j, none⟩ = some u) := fun j u hj => by
        rw [cell_of_row _ _ _ _ _ _ F5.out, List.getElem?_toArray]
        exact hj
      have X33 : Hid ((inL x (.slice sx kl cx))[33]? = some (.slice sx kl cx)) := by show _ = _; rw [inL, List.getElem?_append_right (by simp [ptL, XOK.out.1])]; simp [ptL, XOK.out.1]
      clear f2 f3 f4 hg5 hw5 e5
      have HC5 := Lib.hid (HC.out.keep N5.out)
      have LB : Hid ((A7 ++ insB (t.ins.take k)).length ≤ 200000013 ∧ (inB x).length ≤ 200000000) := by
        show _ ∧ _
        have h1 := ins_part GX.out
        have h2 := LI.out
        have h3 := LA7.out
        rw [List.length_append]
        omega
      have KA : Hid (KeyAt w5 (.slice sx kl cx) x.key) := ⟨KW.out.below N5.out, sx, cx, by rw [KL.out]⟩
      obtain ⟨bs, hbs⟩ : ∃ bs, bs = A7 ++ insB (t.ins.take k) := ⟨_, rfl⟩
      rw [← hbs] at HC5 LB
      have HBS := Lib.hid hbs
      clear hbs
      go_wp2_with ((with_reducible show wpList _ _ _ _ _ _); refine wpList_load_row rfl 43 (.tmp 5) rfl g5 rfl 43 (inL x (.slice sx kl cx)).toArray (0, 0) _ F5.out Tryd.underlying43 rfl (by rw [LX'.out]; kernel_rfl) ?_; go_frame)
      refine (inBytes_any x (.slice sx kl cx) XOK.out w5 KA.out (by rw [← KL.out]; omega)).mono ?_
      rintro e w6 ⟨v6, rfl, hc6⟩
      have P6 := Lib.hid hc6
      have C6 := Lib.hid (HC5.out.keep hc6.2)
      clear hc6
      go_wp2_with ((with_reducible show wpList _ _ _ _ _ _); refine wpList_append_g _ rfl (.tmp 30) (.tmp 32) 41 rfl w1.heap.size 5 i0 Tryd.underlying41 hi hz0 hz1 hz2 _ _ _ (by rfl) C6.out.1 v6 (inB x) (by rfl) P6.out.src (by have := LB.out; omega) C6.out.2.size ?_; intro v7 w7 a1 a2 a3; have C7 := Lib.hid (C6.out.app a1 a2); clear a1 a2 a3; go_frame)
      go_roundw
      case rel =>
        refine ⟨k + 1, v7, rfl, by omega, by go_num, ?_⟩
        have h := C7.out
        rw [HBS.out] at h
        show CopyB w1 w7 v7 (A7 ++ insB (t.ins.take (k + 1)))
        rw [ins_snoc GX.out]
        simpa only [List.append_assoc] using h
      case measure => simp [intOf]; omega
    · have hkn : k = ni := by omega
      have hge : ¬ (k : Int) < (ni : Int) := by omega
      have HC2 : CopyB w1 wr vb (A7 ++ insB t.ins) := by
        have h := HC.out
        rw [hkn, NI.out, List.take_length] at h
        exact h
      have C7 := Lib.hid HC2
      obtain ⟨A8, hA8⟩ : ∃ A8, A8 = A7 ++ insB t.ins := ⟨_, rfl⟩
      rw [← hA8] at C7
      have LA8 : Hid (A8.length ≤ 200000013) := by show _ ≤ _; rw [hA8, List.length_append]; have := LI.out; have := LA7.out; omega
      have HA8 := Lib.hid hA8
      clear hA8 HC HC2 hkn B LA7 LI
      have c2 : wr.cell? ⟨w.heap.size, 2, none⟩ = some (Value.slice so no co) := BOX.out wr C7.out.2 2 _ rfl
      have u1 : IntKind.u64.wrap (no : Int) = (no : Int) := u64_stays (by omega)
      go_wp2_with fail
      refine (put_new [] _ no wr (nil_src _) (by simp)).mono ?_
      rintro e w8 ⟨s8, n8, c8, rfl, hn8, hc8⟩
      have P8 := Lib.hid hc8
      have C8 := Lib.hid (C7.out.keep hc8.2)
      clear hn8 hc8 c2 u1 C7
      rw [List.nil_append] at P8
      have LP8 : Hid ((putL no).length ≤ 9) := by show _ ≤ _; rw [putL_length]; have := lenN_bd no; omega
      go_upto_region 10 with ((with_reducible show wpList _ _ _ _ _ _); refine wpList_append_g _ rfl (.tmp 35) (.tmp 40) 41 rfl w1.heap.size 5 i0 Tryd.underlying41 hi hz0 hz1 hz2 _ _ _ (by rfl) C8.out.1 (.slice s8 n8 c8) (putL no) (by rfl) P8.out.src (by have := LA8.out; have := LP8.out; omega) C8.out.2.size ?_; intro v9 w9 a1 a2 a3; have C9 := Lib.hid (C8.out.app a1 a2); clear a1 a2 a3; go_frame)
      obtain ⟨A9, hA9⟩ : ∃ A9, A9 = A8 ++ putL no := ⟨_, rfl⟩
      rw [← hA9] at C9
      have LA9 : Hid (A9.length ≤ 200000022) := by show _ ≤ _; rw [hA9, List.length_append]; have := LA8.out; have := LP8.out; omega
      have HA9 := Lib.hid hA9
      clear hA9 P8 C8 LP8 LA8
      have c2 : w9.cell? ⟨w.heap.size, 2, none⟩ = some (Value.slice so no co) := BOX.out w9 C9.out.2 2 _ rfl
      go_wp2_with fail
      clear c2 hlt hge hk
      go_loopw [3, 45] (fun vb vi wr => BtInv no (fun k => A9 ++ outsB (t.outs.take k)) w1 vb vi wr) (fun _ i _ => no - (intOf i).toNat)
      case atStart => exact ⟨0, _, rfl, by omega, rfl, by simpa [outsB] using C9.out⟩
      case round =>
        clear C9
        obtain ⟨k, vb, rfl, hk, rfl, HC⟩ := hrel
        have HC : CopyB w1 wr vb (A9 ++ outsB (t.outs.take k)) := HC
        have HC := Lib.hid HC
        have B := Lib.hid HC.out.2
        by_cases hlt : k < no
        · have hkx : k < t.outs.length := by have := NO.out; omega
          obtain ⟨b2, o2, hs2, he2⟩ := HTO.out (by omega)
          have g2 := he2 k _ (List.getElem?_eq_getElem hkx)
          obtain ⟨y, hy⟩ : ∃ y, y = t.outs[k] := ⟨_, rfl⟩
          rw [← hy] at g2
          have hgy : t.outs[k]? = some y := by rw [hy]; exact List.getElem?_eq_getElem _
          obtain ⟨hy1, hr2⟩ := g2
          have p0 : 0 ≤ (k : Int) := by omega
          have q0 : (k : Int) < (no : Int) := by omega
          have R2 := Lib.hid (range_below (range_below hr2 B0.out) B.out)
          have GY := Lib.hid hgy
          have YOK := Lib.hid hy1
          have ONE := Lib.hid (out_one y)
          have LY : Hid ((outL y).length = 33) := outL_length y hy1.1
          have LY' : Hid ((outL y).toArray.size = 33) := by show _ = _; rw [List.size_toArray]; exact LY.out
          subst hs2
          clear hy hgy he2 hy1 hr2 hkx
          obtain ⟨g5, hg5⟩ : ∃ g5, g5 = wr.heap.size := ⟨_, rfl⟩
          obtain ⟨_, f2, f3, f4⟩ := fill_setup (Below.refl wr.heap.size wr) (uV 0 :: List.replicate 32 (bV 0)).toArray (outL y).toArray 46
          go_upto_region 13 with ((with_reducible show wpList _ _ _ _ _ _); first | (refine wpList_load_mid rfl 46 (.tmp 47) rfl b2 (o2 + k * 33) rfl (outL y) _ R2.out Tryd.underlying46 rfl (by rw [LY.out]; kernel_rfl) ?_; go_frame) | (refine wpList_store_row rfl 46 (.tmp 7) (.tmp 48) rfl wr.heap.size (outL y).toArray rfl rfl 46 _ (heap_alloc_new _ _) (by rw [LY'.out]; kernel_rfl) (by rw [LY'.out]; rfl) ONE.out ?_; go_frame))
          rw [← hg5] at f2 f3 f4 ⊢
          generalize hw5 : World.setRow _ _ _ = w5
          have e5 : World.setRow (wr.alloc (.cells (uV 0 :: List.replicate 32 (bV 0)).toArray 46)) g5 (outL y).toArray = w5 := hw5
          rw [e5] at f2 f4
          rw [hg5] at f4
          have F5 := Lib.hid f2
          have N5 := Lib.hid f4
          have B5 := Lib.hid (B.out.trans (f4.mono B.out.size))
          have G5 := Lib.hid hg5
          clear f2 f3 f4 hg5 hw5 e5
          have HC5 := Lib.hid (HC.out.keep N5.out)
          have LB : Hid ((A9 ++ outsB (t.outs.take k)).length ≤ 200040022 ∧ (outB y).length ≤ 40000) := by
            show _ ∧ _
            have h1 := outs_part GY.out
            have h2 := LO.out
            have h3 := LA9.out
            rw [List.length_append]
            omega
          obtain ⟨bs, hbs⟩ : ∃ bs, bs = A9 ++ outsB (t.outs.take k) := ⟨_, rfl⟩
          rw [← hbs] at HC5 LB
          have HBS := Lib.hid hbs
          clear hbs
          go_wp2_with ((with_reducible show wpList _ _ _ _ _ _); refine wpList_load_row rfl 46 (.tmp 7) rfl g5 rfl 46 (outL y).toArray (0, 0) _ F5.out Tryd.underlying46 rfl (by rw [LY'.out]; kernel_rfl) ?_; go_frame)
          refine (outBytes_any y YOK.out w5).mono ?_
          rintro e w6 ⟨v6, rfl, hc6⟩
          have P6 := Lib.hid hc6
          have C6 := Lib.hid (HC5.out.keep hc6.2)
          clear hc6
          go_wp2_with ((with_reducible show wpList _ _ _ _ _ _); refine wpList_append_g _ rfl (.tmp 49) (.tmp 51) 41 rfl w1.heap.size 5 i0 Tryd.underlying41 hi hz0 hz1 hz2 _ _ _ (by rfl) C6.out.1 v6 (outB y) (by rfl) P6.out.src (by have := LB.out; omega) C6.out.2.size ?_; intro v7 w7 a1 a2 a3; have C7 := Lib.hid (C6.out.app a1 a2); clear a1 a2 a3; go_frame)
          go_roundw
          case rel =>
            refine ⟨k + 1, v7, rfl, by omega, by go_num, ?_⟩
            have h := C7.out
            rw [HBS.out] at h
            show CopyB w1 w7 v7 (A9 ++ outsB (t.outs.take (k + 1)))
            rw [outs_snoc GY.out]
            simpa only [List.append_assoc] using h
          case measure => simp [intOf]; omega
        · have hkn : k = no := by omega
          have hge : ¬ (k : Int) < (no : Int) := by omega
          have HC2 : CopyB w1 wr vb (A9 ++ outsB t.outs) := by
            have h := HC.out
            rw [hkn, NO.out, List.take_length] at h
            exact h
          have C9 := Lib.hid HC2
          obtain ⟨A10, hA10⟩ : ∃ A10, A10 = A9 ++ outsB t.outs := ⟨_, rfl⟩
          rw [← hA10] at C9
          have LA10 : Hid (A10.length ≤ 200040022) := by show _ ≤ _; rw [hA10, List.length_append]; have := LO.out; have := LA9.out; omega
          have HA10 := Lib.hid hA10
          clear hA10 HC HC2 hkn B
          have c3 : wr.cell? ⟨w.heap.size, 3, none⟩ = some (Value.int .u32 (tt : Int)) := BOX.out wr C9.out.2 3 _ rfl
          go_wp2_with fail
          refine (four_new [] _ tt wr (nil_src _) (by simp) TTB.out).mono ?_
          rintro e w10 ⟨s10, n10, c10, rfl, hn10, hc10⟩
          have P10 := Lib.hid hc10
          have C10 := Lib.hid (C9.out.keep hc10.2)
          clear hn10 hc10 c3 C9
          rw [List.nil_append] at P10
          go_wp2_with ((with_reducible show wpList _ _ _ _ _ _); refine wpList_append_g _ rfl (.tmp 54) (.tmp 57) 41 rfl w1.heap.size 5 i0 Tryd.underlying41 hi hz0 hz1 hz2 _ _ _ (by rfl) C10.out.1 (.slice s10 n10 c10) (leB tt 4) (by rfl) P10.out.src (by have := LA10.out; simp only [leB_length]; omega) C10.out.2.size ?_; intro v11 w11 a1 a2 a3; have C11 := Lib.hid (C10.out.app a1 a2); clear a1 a2 a3; go_frame)
          go_ret
          have e : A10 ++ leB tt 4 = txB t := by rw [HA10.out, HA9.out, HA8.out, HA7.out, HA5.out, txB, VT.out, TT.out, NI.out, NO.out]
          have h := C11.out
          rw [e] at h
          have h2 := h.start B0.out
          exact ⟨_, rfl, h2.1, h2.2⟩
end Go.Proofs.YtgcoegbamoehfaaDoor.Sha
