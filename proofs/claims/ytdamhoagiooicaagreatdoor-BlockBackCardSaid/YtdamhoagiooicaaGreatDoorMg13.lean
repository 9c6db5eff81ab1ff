/-
  Texts of this proof joined into one file: ShaSha, RefTwice, TxId, HdBytes, HdId, TxTakeIn, TxTakeW0, TxBuilds, TxKeys. What each holds, and under which conditions, its own first sentence tells.
-/
import Derived.Maps.AppendAt
import Derived.Test.YtdamhoagiooicaaGreatDoorMg03
import Derived.Test.YtdamhoagiooicaaGreatDoorMg12
import Derived.Test.YtdamhoagiooicaaGreatDoorMg08
import Derived.Test.YtdamhoagiooicaaGreatDoorMg10
import Derived.Test.YtdamhoagiooicaaGreatDoorMg09
import Derived.Test.YtdamhoagiooicaaGreatDoorMg06
/-
  digest.Sha answers the SHA-256 of the bytes that it is given, digest.Twice that of that, and turn nothing that was there. Conditions: the bytes lie where the slice says, the table is there, fewer than 2^59 bytes.
-/
namespace Go.Proofs.YtdamhoagiooicaaGreatDoor.Sha
open Go Go.RowKit
/-- Write, whatever the slice. -/
theorem write_any (l bs : List UInt8) (v : Value) (B : Nat) (w : World) (hk : KTab w) (hB0 : B ≠ 25) (hsrc : SrcB w v bs) (hne : ∀ sp n cap, v = .slice (some sp) n cap → 0 < n → sp.block ≠ B)
    (hlen : l.length + bs.length ≤ 1152921504606846975) (hinv : WInv w B l) :
    Calls Tryz.prog 131 #[.pointer (some ⟨B, 0, none⟩), v] w fun e w' =>
      e = .returned (.tuple #[]) ∧ WInv w' B (l ++ bs) ∧ w.grownBy w' (some B) := by
  rcases hsrc with ⟨sp, cap, rfl, rfl⟩ | ⟨h0, bb, off, cap, rfl, hc, hs⟩
  · rw [List.append_nil]
    exact write_none l sp cap B w (by simpa using hlen) hinv
  · exact write_some l bs bb off cap B w hk hB0 (hne _ _ _ rfl h0) hc hlen hinv hs
theorem sha_setup (w : World) (z : Array Value) (T : TypeId) : Below w.heap.size w ((w.alloc (.cells z T)).alloc (.cells zeroW 162))
    ∧ ((w.alloc (.cells z T)).alloc (.cells zeroW 162)).heap.size = w.heap.size + 2
    ∧ ((w.alloc (.cells z T)).alloc (.cells zeroW 162)).heap[w.heap.size + 1]? = some (.cells zeroW 162 (0, 0))
    ∧ ((w.alloc (.cells z T)).alloc (.cells zeroW 162)).heap[w.heap.size]? = some (.cells z T (0, 0)) :=
  ⟨((Below.refl _ _).alloc (Nat.le_refl _) _).alloc (by simp) _, by simp, heap_alloc2_new _ _ _, heap_alloc2_old _ _ _⟩
set_option maxHeartbeats 1000000 in
set_option maxRecDepth 100000 in
theorem sha_any (bs : List UInt8) (v : Value) (w : World) (hk : KTab w) (hsrc : SrcB w v bs) (hlen : bs.length ≤ 576460752303423487) :
    Calls Tryz.prog 105 #[v] w fun e w' => e = .returned (.agg ((sha bs).map bV).toArray) ∧ Below w.heap.size w w' := by
  have hzw := zero_writer
  have HK := Lib.hid hk
  have HS := Lib.hid hsrc
  clear hk hsrc
  go_enter Tryz.func105, Tryz.ntmps105
  go_wp2_with fail
  obtain ⟨f1, f2, f3, f4⟩ := sha_setup w (List.replicate 32 (bV 0)).toArray 24
  generalize hw1 : World.alloc _ _ = w1
  have e1 : ((w.alloc (.cells (List.replicate 32 (bV 0)).toArray 24)).alloc (.cells zeroW 162)) = w1 := hw1
  rw [e1] at f1 f2 f3 f4
  have hK1 := HK.out.below f1
  have hp := HK.out.pos
  clear hw1 e1 hzw
  refine (write_any [] bs v (w.heap.size + 1) w1 hK1 (by omega) (HS.out.below f1) (HS.out.ne (Nat.le_succ _)) (by simpa using Nat.le_trans hlen (by omega)) (zero_inv f3)).mono ?_
  rintro e w2 ⟨rfl, hI, hG⟩
  rw [List.nil_append] at hI
  have B2 := grownBy_below hG f1 (Nat.le_succ _) (by omega)
  have h2 : w2.heap[w.heap.size]? = some (.cells (List.replicate 32 (bV 0)).toArray 24 (0, 0)) := by
    rw [hG.block _ (by omega) (fun e => by have := Option.some.inj e; omega)]
    exact f4
  have hs2 : w.heap.size < w2.heap.size := by have := hG.size; omega
  have HI := Lib.hid hI
  have HB2 := Lib.hid B2
  have HH2 := Lib.hid h2
  clear f1 f2 f3 f4 hK1 hI hG B2 h2
  go_wp2_with fail
  refine (sum_any bs (w.heap.size + 1) w2 (HK.out.below HB2.out) hlen HI.out).mono ?_
  rintro e w3 ⟨rfl, hb3⟩
  have h3 : w3.heap[w.heap.size]? = some (.cells (List.replicate 32 (bV 0)).toArray 24 (0, 0)) := by rw [hb3.block _ hs2]; exact HH2.out
  have HH3 := Lib.hid h3
  have B3 := Lib.hid (HB2.out.trans (hb3.mono (by omega)))
  have hl : ((sha bs).map bV).toArray.size = 32 := by simp [sha_length]
  have HL := Lib.hid hl
  clear h3 hb3 hl
  go_wp2_with ((with_reducible show wpList _ _ _ _ _ _); refine wpList_store_row rfl 24 (.tmp 2) (.tmp 6) rfl w.heap.size ((sha bs).map bV).toArray rfl rfl 24 _ HH3.out (by rw [HL.out]; kernel_rfl) (by rw [HL.out]; rfl) (bV_one _) ?_; go_frame)
  refine bodyPost_ret (results_cell_row rfl _ _ w.heap.size 24 ((sha bs).map bV).toArray (0, 0) (.array 32 5) rfl (setRow_heap _ _ _ _ _ _ HH3.out) Tryz.underlying24 rfl (by rw [HL.out]; kernel_rfl)) rfl ⟨rfl, below_setRow B3.out (Nat.le_refl _) _⟩
end Go.Proofs.YtdamhoagiooicaaGreatDoor.Sha

/-
  digest.Twice and the statements' own Twice answer the SHA-256 of the SHA-256 of the bytes; nothing that was there turns. Conditions: the bytes lie where the slice says, fewer than 2^45; for digest.Twice the table is there.
-/
namespace Go.Proofs.YtdamhoagiooicaaGreatDoor.Sha
open Go Go.RowKit
set_option maxHeartbeats 1000000 in
set_option maxRecDepth 100000 in
theorem twice_any (bs : List UInt8) (v : Value) (w : World) (hk : KTab w) (hsrc : SrcB w v bs) (hlen : bs.length ≤ 576460752303423487) :
    Calls Tryz.prog 87 #[v] w fun e w' => e = .returned (.agg ((sha (sha bs)).map bV).toArray) ∧ Below w.heap.size w w' := by
  have HK := Lib.hid hk
  have HS := Lib.hid hsrc
  have hl : ∀ l : List UInt8, l.length = 32 → (l.map bV).toArray.size = 32 := fun l h => by simp [h]
  have HL := Lib.hid hl
  clear hk hsrc hl
  go_enter Tryz.func87, Tryz.ntmps87
  go_wp2_with fail
  have b0 : Below w.heap.size w (w.alloc (.cells (List.replicate 32 (bV 0)).toArray 24)) := (Below.refl _ _).alloc (Nat.le_refl _) _
  have f0 : (w.alloc (.cells (List.replicate 32 (bV 0)).toArray 24)).heap[w.heap.size]? = some (.cells (List.replicate 32 (bV 0)).toArray 24 (0, 0)) := heap_alloc_new _ _
  have z0 : w.heap.size < (w.alloc (.cells (List.replicate 32 (bV 0)).toArray 24)).heap.size := by simp
  generalize hw0 : World.alloc _ _ = w0
  have q0 : w.alloc (.cells (List.replicate 32 (bV 0)).toArray 24) = w0 := hw0
  rw [q0] at b0 f0 z0
  clear hw0 q0
  refine (sha_any bs v w0 (HK.out.below b0) (HS.out.below b0) hlen).mono ?_
  rintro e w1 ⟨rfl, hb1⟩
  have e1 : Below w.heap.size w w1 := b0.trans (hb1.mono b0.size)
  have e2 : w1.heap[w.heap.size]? = some (.cells (List.replicate 32 (bV 0)).toArray 24 (0, 0)) := row_below f0 hb1
  have e3 : w.heap.size < w1.heap.size := Nat.lt_of_lt_of_le z0 hb1.size
  have E1 := Lib.hid e1
  have E2 := Lib.hid e2
  clear b0 f0 z0 hb1 e1 e2
  go_upto_region 2 with ((with_reducible show wpList _ _ _ _ _ _); refine wpList_store_row rfl 24 (.tmp 3) (.tmp 5) rfl w1.heap.size ((sha bs).map bV).toArray rfl rfl 24 _ (heap_alloc_new _ _) (by rw [HL.out _ (sha_length _)]; kernel_rfl) (by rw [HL.out _ (sha_length _)]; rfl) (bV_one _) ?_; go_frame)
  have e1 := E1.out
  have e2 := E2.out
  clear E1 E2
  obtain ⟨f1, f2, f3, f4⟩ := fill_setup e1 (List.replicate 32 (bV 0)).toArray ((sha bs).map bV).toArray 24
  have e4 : ((w1.alloc (.cells (List.replicate 32 (bV 0)).toArray 24)).setRow w1.heap.size ((sha bs).map bV).toArray).heap[w.heap.size]? = some (.cells (List.replicate 32 (bV 0)).toArray 24 (0, 0)) := by rw [f4.block _ e3]; exact e2
  obtain ⟨g, hg⟩ : ∃ g, g = w1.heap.size := ⟨_, rfl⟩
  generalize hw2 : World.setRow _ _ _ = w2
  have e5 : ((w1.alloc (.cells (List.replicate 32 (bV 0)).toArray 24)).setRow w1.heap.size ((sha bs).map bV).toArray) = w2 := hw2
  rw [e5] at f1 f2 f3 f4 e4
  rw [← hg] at f2 f3 ⊢
  have HK2 := Lib.hid (HK.out.below f1)
  have HS2 := Lib.hid (src_block (sha_length bs) f2)
  have F1 := Lib.hid f1
  have E4 := Lib.hid e4
  have hlt : w.heap.size < w2.heap.size := by omega
  clear f1 f2 f3 f4 e1 e2 e3 e4 e5 hw2 hg
  go_wp2_with fail
  refine (sha_any (sha bs) _ _ HK2.out HS2.out (by rw [sha_length]; omega)).mono ?_
  rintro e w3 ⟨rfl, hb3⟩
  have h3 : w3.heap[w.heap.size]? = some (.cells (List.replicate 32 (bV 0)).toArray 24 (0, 0)) := by rw [hb3.block _ hlt]; exact E4.out
  have H3 := Lib.hid h3
  have B3 := Lib.hid (F1.out.trans (hb3.mono (by omega)))
  clear h3 hb3
  go_wp2_with ((with_reducible show wpList _ _ _ _ _ _); refine wpList_store_row rfl 24 (.tmp 2) (.tmp 7) rfl w.heap.size ((sha (sha bs)).map bV).toArray rfl rfl 24 _ H3.out (by rw [HL.out _ (sha_length _)]; kernel_rfl) (by rw [HL.out _ (sha_length _)]; rfl) (bV_one _) ?_; go_frame)
  refine bodyPost_ret (results_cell_row rfl _ _ w.heap.size 24 ((sha (sha bs)).map bV).toArray (0, 0) (.array 32 5) rfl (setRow_heap _ _ _ _ _ _ H3.out) Tryz.underlying24 rfl (by rw [HL.out _ (sha_length _)]; kernel_rfl)) rfl ⟨rfl, below_setRow B3.out (Nat.le_refl _) _⟩
set_option maxHeartbeats 1000000 in
set_option maxRecDepth 100000 in
theorem ref_twice (bs : List UInt8) (sp : Option Addr) (n cap : Nat) (w : World) (hsrc : SrcB w (.slice sp n cap) bs) (hn : n ≤ 35184372088832) :
    Calls Tryz.prog 46 #[.slice sp n cap] w fun e w' => e = .returned (.agg ((sha (sha bs)).map bV).toArray) ∧ Below w.heap.size w w' := by
  have HS := Lib.hid hsrc
  have hl : ∀ l : List UInt8, l.length = 32 → (l.map bV).toArray.size = 32 := fun l h => by simp [h]
  have HL := Lib.hid hl
  clear hsrc hl
  go_enter Tryz.func46, Tryz.ntmps46
  go_wp2_with fail
  have b0 : Below w.heap.size w (w.alloc (.cells (List.replicate 32 (bV 0)).toArray 24)) := (Below.refl _ _).alloc (Nat.le_refl _) _
  have f0 : (w.alloc (.cells (List.replicate 32 (bV 0)).toArray 24)).heap[w.heap.size]? = some (.cells (List.replicate 32 (bV 0)).toArray 24 (0, 0)) := heap_alloc_new _ _
  have z0 : w.heap.size < (w.alloc (.cells (List.replicate 32 (bV 0)).toArray 24)).heap.size := by simp
  generalize hw0 : World.alloc _ _ = w0
  have q0 : w.alloc (.cells (List.replicate 32 (bV 0)).toArray 24) = w0 := hw0
  rw [q0] at b0 f0 z0
  clear hw0 q0
  refine (ref_any bs sp n cap w0 (HS.out.below b0) hn).mono ?_
  rintro e w1 ⟨rfl, hb1⟩
  have e1 : Below w.heap.size w w1 := b0.trans (hb1.mono b0.size)
  have e2 : w1.heap[w.heap.size]? = some (.cells (List.replicate 32 (bV 0)).toArray 24 (0, 0)) := row_below f0 hb1
  have e3 : w.heap.size < w1.heap.size := Nat.lt_of_lt_of_le z0 hb1.size
  have E1 := Lib.hid e1
  have E2 := Lib.hid e2
  clear b0 f0 z0 hb1 e1 e2
  go_upto_region 2 with ((with_reducible show wpList _ _ _ _ _ _); refine wpList_store_row rfl 24 (.tmp 3) (.tmp 5) rfl w1.heap.size ((sha bs).map bV).toArray rfl rfl 24 _ (heap_alloc_new _ _) (by rw [HL.out _ (sha_length _)]; kernel_rfl) (by rw [HL.out _ (sha_length _)]; rfl) (bV_one _) ?_; go_frame)
  have e1 := E1.out
  have e2 := E2.out
  clear E1 E2
  obtain ⟨f1, f2, f3, f4⟩ := fill_setup e1 (List.replicate 32 (bV 0)).toArray ((sha bs).map bV).toArray 24
  have e4 : ((w1.alloc (.cells (List.replicate 32 (bV 0)).toArray 24)).setRow w1.heap.size ((sha bs).map bV).toArray).heap[w.heap.size]? = some (.cells (List.replicate 32 (bV 0)).toArray 24 (0, 0)) := by rw [f4.block _ e3]; exact e2
  obtain ⟨g, hg⟩ : ∃ g, g = w1.heap.size := ⟨_, rfl⟩
  generalize hw2 : World.setRow _ _ _ = w2
  have e5 : ((w1.alloc (.cells (List.replicate 32 (bV 0)).toArray 24)).setRow w1.heap.size ((sha bs).map bV).toArray) = w2 := hw2
  rw [e5] at f1 f2 f3 f4 e4
  rw [← hg] at f2 f3 ⊢
  have HS2 := Lib.hid (src_block (sha_length bs) f2)
  have F1 := Lib.hid f1
  have E4 := Lib.hid e4
  have hlt : w.heap.size < w2.heap.size := by omega
  clear f1 f2 f3 f4 e1 e2 e3 e4 e5 hw2 hg
  go_wp2_with fail
  refine (ref_any (sha bs) _ _ _ _ HS2.out (by omega)).mono ?_
  rintro e w3 ⟨rfl, hb3⟩
  have h3 : w3.heap[w.heap.size]? = some (.cells (List.replicate 32 (bV 0)).toArray 24 (0, 0)) := by rw [hb3.block _ hlt]; exact E4.out
  have H3 := Lib.hid h3
  have B3 := Lib.hid (F1.out.trans (hb3.mono (by omega)))
  clear h3 hb3
  go_wp2_with ((with_reducible show wpList _ _ _ _ _ _); refine wpList_store_row rfl 24 (.tmp 2) (.tmp 7) rfl w.heap.size ((sha (sha bs)).map bV).toArray rfl rfl 24 _ H3.out (by rw [HL.out _ (sha_length _)]; kernel_rfl) (by rw [HL.out _ (sha_length _)]; rfl) (bV_one _) ?_; go_frame)
  refine bodyPost_ret (results_cell_row rfl _ _ w.heap.size 24 ((sha (sha bs)).map bV).toArray (0, 0) (.array 32 5) rfl (setRow_heap _ _ _ _ _ _ H3.out) Tryz.underlying24 rfl (by rw [HL.out _ (sha_length _)]; kernel_rfl)) rfl ⟨rfl, below_setRow B3.out (Nat.le_refl _) _⟩
end Go.Proofs.YtdamhoagiooicaaGreatDoor.Sha

/-
  Package tx tells whether two transactions have the same bytes, and the digest that a transaction goes by, given what Bytes answers. Nothing that was there turns. Condition: transactions of a few inputs and outputs that lie in memory.
-/
namespace Go.Proofs.YtdamhoagiooicaaGreatDoor.Sha
open Go Go.RowKit
theorem txs_differ {t u : TTx} (ht : TxSmall t) (hu : TxSmall u) : txB t = txB u ↔ t = u := ⟨fun h => txB_inj ht.fit hu.fit h, fun h => by rw [h]⟩
set_option maxHeartbeats 1000000 in
set_option maxRecDepth 100000 in
theorem id_of (HBy : BytesC) : IdC := by
  intro t v w hk h1 hs
  have H1 := Lib.hid h1
  obtain ⟨_, iv, ov, rfl, _, _⟩ := h1
  have HK := Lib.hid hk
  have TS := Lib.hid hs
  have HBy := Lib.hid HBy
  clear hk hs
  have HOne := Lib.hid (bV_one (sha (sha (txB t))))
  have HLen : Hid ((((sha (sha (txB t))).map bV).toArray).size = 32) := by show _ = _; simp [sha_length]
  obtain ⟨dg, hdg⟩ : ∃ dg, dg = ((sha (sha (txB t))).map bV).toArray := ⟨_, rfl⟩
  rw [← hdg] at HOne HLen ⊢
  have HD := Lib.hid hdg
  clear hdg
  go_enter Tryz.func50, Tryz.ntmps50
  go_upto_region 1 with fail
  have f1 := row_below (heap_alloc_new w (.cells (txL t iv ov).toArray 66 (0, 0))) ((Below.refl _ _).alloc (Nat.le_refl _) (.cells (List.replicate 32 (bV 0)).toArray 24))
  have f2 := heap_alloc_new (w.alloc (.cells (txL t iv ov).toArray 66 (0, 0))) (.cells (List.replicate 32 (bV 0)).toArray 24)
  have b1 := ((Below.refl w.heap.size w).alloc (Nat.le_refl _) (.cells (txL t iv ov).toArray 66 (0, 0))).alloc (by simp) (.cells (List.replicate 32 (bV 0)).toArray 24)
  rw [World.size_alloc] at f2
  generalize hw1 : World.alloc _ _ = w1
  have e1 : (w.alloc (.cells (txL t iv ov).toArray 66 (0, 0))).alloc (.cells (List.replicate 32 (bV 0)).toArray 24) = w1 := hw1
  rw [e1] at f1 f2 b1
  have F1 := Lib.hid f1
  have F2 := Lib.hid f2
  have B1 := Lib.hid b1
  clear f1 f2 b1 hw1 e1
  go_wp2_with ((with_reducible show wpList _ _ _ _ _ _); refine wpList_load_row rfl 66 (.tmp 1) rfl w.heap.size rfl 66 (txL t iv ov).toArray (0, 0) _ F1.out Tryz.underlying66 rfl (by kernel_rfl) ?_; go_frame)
  refine (HBy.out t _ w1 (H1.out.below B1.out) TS.out).mono ?_
  rintro e w2 ⟨v2, rfl, ho, hb2⟩
  have S2 := Lib.hid (src_own ho)
  have B2 := Lib.hid (B1.out.trans (hb2.mono B1.out.size))
  have F2 := Lib.hid (row_below F2.out hb2)
  have HLn : Hid ((txB t).length ≤ 576460752303423487) := Nat.le_trans TS.out.len (by omega)
  clear ho hb2
  go_wp2_with fail
  have TW := twice_any (txB t) v2 w2 (HK.out.below B2.out) S2.out HLn.out
  rw [← HD.out] at TW
  refine TW.mono ?_
  rintro e w3 ⟨rfl, hb3⟩
  clear TW
  have B3 := Lib.hid (B2.out.trans (hb3.mono B2.out.size))
  have F3 := Lib.hid (row_below F2.out hb3)
  clear hb3
  go_wp2_with ((with_reducible show wpList _ _ _ _ _ _); refine wpList_store_row rfl 24 (.tmp 2) (.tmp 5) rfl (w.heap.size + 1) dg rfl rfl 24 _ F3.out (by rw [HLen.out]; kernel_rfl) (by rw [HLen.out]; rfl) HOne.out ?_; go_frame)
  refine bodyPost_ret (results_cell_row rfl _ _ (w.heap.size + 1) 24 dg (0, 0) (.array 32 5) rfl (setRow_heap _ _ _ _ _ _ F3.out) Tryz.underlying24 rfl (by rw [HLen.out]; kernel_rfl)) rfl ⟨rfl, below_setRow B3.out (Nat.le_succ _) _⟩
end Go.Proofs.YtdamhoagiooicaaGreatDoor.Sha

/-
  Package head writes a header down, in new memory. Nothing that was there turns. Condition: digests of 32 bytes, numbers of 32 bits.
-/
namespace Go.Proofs.YtdamhoagiooicaaGreatDoor.Sha
open Go Go.RowKit
set_option maxHeartbeats 1000000 in
set_option maxRecDepth 100000 in
theorem hdbytes_any (h : THd) (hh : HdOk h) (w : World) :
    Calls Tryz.prog 40 #[.agg (hdL h).toArray] w fun e w' => ∃ v, e = .returned v ∧ CopyB w w' v (hdB h) := by
  obtain ⟨i0, hi, hz0, hz1, hz2⟩ := info_parts info_u8
  have HH := Lib.hid hh
  obtain ⟨cs, hcs⟩ : ∃ cs, cs = hdL h := ⟨_, rfl⟩
  rw [← hcs]
  have CS := Lib.hid hcs
  obtain ⟨vv, hvv⟩ : ∃ n, n = h.ver := ⟨_, rfl⟩
  obtain ⟨vt, hvt⟩ : ∃ n, n = h.time := ⟨_, rfl⟩
  obtain ⟨vw, hvw⟩ : ∃ n, n = h.work := ⟨_, rfl⟩
  obtain ⟨vn, hvn⟩ : ∃ n, n = h.nonce := ⟨_, rfl⟩
  have BV : Hid (vv ≤ 4294967295) := by show _ ≤ _; rw [hvv]; exact hh.1
  have BT : Hid (vt ≤ 4294967295) := by show _ ≤ _; rw [hvt]; exact hh.2.2.2.1
  have BW : Hid (vw ≤ 4294967295) := by show _ ≤ _; rw [hvw]; exact hh.2.2.2.2.1
  have BN : Hid (vn ≤ 4294967295) := by show _ ≤ _; rw [hvn]; exact hh.2.2.2.2.2
  have EE : Hid (hdB h = leB vv 4 ++ h.prev ++ h.root ++ leB vt 4 ++ leB vw 4 ++ leB vn 4) := by show _ = _; rw [hvv, hvt, hvw, hvn]; rfl
  have LP : Hid (h.prev.length = 32) := hh.2.1
  have LR : Hid (h.root.length = 32) := hh.2.2.1
  have VV := Lib.hid hvv
  have VT := Lib.hid hvt
  have VW := Lib.hid hvw
  have VN := Lib.hid hvn
  clear hcs hh hvv hvt hvw hvn
  go_enter Tryz.func40, Tryz.ntmps40
  go_upto_region 1 with fail
  have F0 := heap_alloc_new w (.cells cs.toArray 26 (0, 0))
  have B0 := Lib.hid ((Below.refl w.heap.size w).alloc (Nat.le_refl _) (.cells cs.toArray 26 (0, 0)))
  generalize hw1 : World.alloc _ _ = w1
  have e1 : w.alloc (.cells cs.toArray 26 (0, 0)) = w1 := hw1
  rw [e1] at F0 B0
  rw [CS.out] at F0
  have K : HdBox w1 w.heap.size h := ⟨F0⟩
  have K := Lib.hid K
  clear hw1 e1 F0
  have C0 : Hid (∀ w', Below w1.heap.size w1 w' → w'.cell? ⟨w.heap.size, 0, none⟩ = some (.int .u32 (vv : Int))) := fun w' hw' => by rw [VV.out]; exact ((K.out.below hw').cells HH.out).1
  have C65 : Hid (∀ w', Below w1.heap.size w1 w' → w'.cell? ⟨w.heap.size, 65, none⟩ = some (.int .u32 (vt : Int))) := fun w' hw' => by rw [VT.out]; exact ((K.out.below hw').cells HH.out).2.1
  have C66 : Hid (∀ w', Below w1.heap.size w1 w' → w'.cell? ⟨w.heap.size, 66, none⟩ = some (.int .u32 (vw : Int))) := fun w' hw' => by rw [VW.out]; exact ((K.out.below hw').cells HH.out).2.2.1
  have C67 : Hid (∀ w', Below w1.heap.size w1 w' → w'.cell? ⟨w.heap.size, 67, none⟩ = some (.int .u32 (vn : Int))) := fun w' hw' => by rw [VN.out]; exact ((K.out.below hw').cells HH.out).2.2.2
  have SP : Hid (∀ w', Below w1.heap.size w1 w' → SrcB w' (.slice (some ⟨w.heap.size, 1, none⟩) 32 32) h.prev) := fun w' hw' => src_range (K.out.below hw').prev LP.out.symm (by omega) (Nat.le_refl _)
  have SR : Hid (∀ w', Below w1.heap.size w1 w' → SrcB w' (.slice (some ⟨w.heap.size, 33, none⟩) 32 32) h.root) := fun w' hw' => src_range ((K.out.below hw').root HH.out) LR.out.symm (by omega) (Nat.le_refl _)
  go_upto_region 2 with (at_make; refine wpList_make_own _ rfl _ _ 30 rfl w1.heap.size 5 i0 (.int .u8 0) 1 Tryz.underlying30 hi hz0 hz1 _ _ _ 80 rfl rfl (by omega) (by rw [hz2]; omega) (by unfold maxLen; omega) (Nat.le_refl _) ?_; intro w3 hown hgrow; have C3 : Hid (CopyB w1 w3 (.slice (some ⟨w1.heap.size, 0, none⟩) 0 80) []) := (⟨hown, below_made hgrow⟩ : CopyB w1 w3 (.slice (some ⟨w1.heap.size, 0, none⟩) 0 80) []); clear hown hgrow; go_frame)
  have c0 := C0.out w3 C3.out.2
  go_wp2_with fail
  refine (four_new [] _ vv w3 (nil_src _) (by simp) BV.out).mono ?_
  rintro e w4 ⟨s4, n4, c4, rfl, hn4, hc4⟩
  have P4 := Lib.hid hc4
  have C4 := Lib.hid (C3.out.keep hc4.2)
  clear hn4 hc4 c0 C3
  rw [List.nil_append] at P4
  go_upto_region 3 with ((with_reducible show wpList _ _ _ _ _ _); refine wpList_append_g _ rfl (.tmp 5) (.tmp 8) 30 rfl w1.heap.size 5 i0 Tryz.underlying30 hi hz0 hz1 hz2 _ _ _ (by rfl) C4.out.1 (.slice s4 n4 c4) (leB vv 4) (by rfl) P4.out.src (by simp only [leB_length, List.length_nil]; omega) C4.out.2.size ?_; intro v5 w5 a1 a2 a3; have C5 := Lib.hid (C4.out.app a1 a2); clear a1 a2 a3; go_frame)
  obtain ⟨A5, hA5⟩ : ∃ A, A = leB vv 4 := ⟨_, rfl⟩
  rw [List.nil_append, ← hA5] at C5
  have LA5 : Hid (A5.length = 4) := by show _ = _; rw [hA5, leB_length]
  have HA5 := Lib.hid hA5
  clear hA5 P4 C4
  go_upto_region 4 with ((with_reducible show wpList _ _ _ _ _ _); refine wpList_append_g _ rfl (.tmp 10) (.tmp 12) 30 rfl w1.heap.size 5 i0 Tryz.underlying30 hi hz0 hz1 hz2 _ _ _ (by rfl) C5.out.1 (.slice (some ⟨w.heap.size, 1, none⟩) 32 32) h.prev (by rfl) (SP.out _ C5.out.2) (by rw [LA5.out, LP.out]; omega) C5.out.2.size ?_; intro v6 w6 a1 a2 a3; have C6 := Lib.hid (C5.out.app a1 a2); clear a1 a2 a3; go_frame)
  have LA6 : Hid ((A5 ++ h.prev).length = 36) := by show _ = _; rw [List.length_append, LA5.out, LP.out]
  clear C5 LA5
  go_upto_region 5 with ((with_reducible show wpList _ _ _ _ _ _); refine wpList_append_g _ rfl (.tmp 14) (.tmp 16) 30 rfl w1.heap.size 5 i0 Tryz.underlying30 hi hz0 hz1 hz2 _ _ _ (by rfl) C6.out.1 (.slice (some ⟨w.heap.size, 33, none⟩) 32 32) h.root (by rfl) (SR.out _ C6.out.2) (by rw [LA6.out, LR.out]; omega) C6.out.2.size ?_; intro v7 w7 a1 a2 a3; have C7 := Lib.hid (C6.out.app a1 a2); clear a1 a2 a3; go_frame)
  have LA7 : Hid ((A5 ++ h.prev ++ h.root).length = 68) := by show _ = _; rw [List.length_append, LA6.out, LR.out]
  clear C6 LA6
  have c65 := C65.out w7 C7.out.2
  go_wp2_with fail
  refine (four_new [] _ vt w7 (nil_src _) (by simp) BT.out).mono ?_
  rintro e w8 ⟨s8, n8, c8, rfl, hn8, hc8⟩
  have P8 := Lib.hid hc8
  have C8 := Lib.hid (C7.out.keep hc8.2)
  clear hn8 hc8 c65 C7
  rw [List.nil_append] at P8
  go_upto_region 6 with ((with_reducible show wpList _ _ _ _ _ _); refine wpList_append_g _ rfl (.tmp 18) (.tmp 21) 30 rfl w1.heap.size 5 i0 Tryz.underlying30 hi hz0 hz1 hz2 _ _ _ (by rfl) C8.out.1 (.slice s8 n8 c8) (leB vt 4) (by rfl) P8.out.src (by rw [LA7.out, leB_length]; omega) C8.out.2.size ?_; intro v9 w9 a1 a2 a3; have C9 := Lib.hid (C8.out.app a1 a2); clear a1 a2 a3; go_frame)
  have LA9 : Hid ((A5 ++ h.prev ++ h.root ++ leB vt 4).length = 72) := by show _ = _; rw [List.length_append, LA7.out, leB_length]
  clear P8 C8 LA7
  have c66 := C66.out w9 C9.out.2
  go_wp2_with fail
  refine (four_new [] _ vw w9 (nil_src _) (by simp) BW.out).mono ?_
  rintro e w10 ⟨s10, n10, c10, rfl, hn10, hc10⟩
  have P10 := Lib.hid hc10
  have C10 := Lib.hid (C9.out.keep hc10.2)
  clear hn10 hc10 c66 C9
  rw [List.nil_append] at P10
  go_upto_region 7 with ((with_reducible show wpList _ _ _ _ _ _); refine wpList_append_g _ rfl (.tmp 23) (.tmp 26) 30 rfl w1.heap.size 5 i0 Tryz.underlying30 hi hz0 hz1 hz2 _ _ _ (by rfl) C10.out.1 (.slice s10 n10 c10) (leB vw 4) (by rfl) P10.out.src (by rw [LA9.out, leB_length]; omega) C10.out.2.size ?_; intro v11 w11 a1 a2 a3; have C11 := Lib.hid (C10.out.app a1 a2); clear a1 a2 a3; go_frame)
  have LA11 : Hid ((A5 ++ h.prev ++ h.root ++ leB vt 4 ++ leB vw 4).length = 76) := by show _ = _; rw [List.length_append, LA9.out, leB_length]
  clear P10 C10 LA9
  have c67 := C67.out w11 C11.out.2
  go_wp2_with fail
  refine (four_new [] _ vn w11 (nil_src _) (by simp) BN.out).mono ?_
  rintro e w12 ⟨s12, n12, c12, rfl, hn12, hc12⟩
  have P12 := Lib.hid hc12
  have C12 := Lib.hid (C11.out.keep hc12.2)
  clear hn12 hc12 c67 C11
  rw [List.nil_append] at P12
  go_wp2_with ((with_reducible show wpList _ _ _ _ _ _); refine wpList_append_g _ rfl (.tmp 28) (.tmp 31) 30 rfl w1.heap.size 5 i0 Tryz.underlying30 hi hz0 hz1 hz2 _ _ _ (by rfl) C12.out.1 (.slice s12 n12 c12) (leB vn 4) (by rfl) P12.out.src (by rw [LA11.out, leB_length]; omega) C12.out.2.size ?_; intro v13 w13 a1 a2 a3; have C13 := Lib.hid (C12.out.app a1 a2); clear a1 a2 a3; go_frame)
  go_ret
  refine ⟨_, rfl, ?_⟩
  rw [EE.out, ← HA5.out]
  exact C13.out.start B0.out
end Go.Proofs.YtdamhoagiooicaaGreatDoor.Sha

/-
  Package head answers the digest that a header goes by. Nothing that was there turns. Conditions: a header of digests of 32 bytes, the table is there.
-/
namespace Go.Proofs.YtdamhoagiooicaaGreatDoor.Sha
open Go Go.RowKit
/-- A header's digest. -/
def hdId (h : THd) : List UInt8 := sha (sha (hdB h))
theorem hdId_length (h : THd) : (hdId h).length = 32 := sha_length _
set_option maxHeartbeats 1000000 in
set_option maxRecDepth 100000 in
theorem id_hd (h : THd) (hh : HdOk h) (w : World) (hk : KTab w) :
    Calls Tryz.prog 45 #[.agg (hdL h).toArray] w fun e w' => e = .returned (.agg ((hdId h).map bV).toArray) ∧ Below w.heap.size w w' := by
  have HH := Lib.hid hh
  have HK := Lib.hid hk
  have HOne := Lib.hid (bV_one (hdId h))
  have HLen : Hid ((((hdId h).map bV).toArray).size = 32) := by show _ = _; simp [hdId_length]
  obtain ⟨dg, hdg⟩ : ∃ dg, dg = ((hdId h).map bV).toArray := ⟨_, rfl⟩
  rw [← hdg] at HOne HLen ⊢
  have HD := Lib.hid hdg
  obtain ⟨l0, hl0⟩ : ∃ l, l = hdL h := ⟨_, rfl⟩
  have LN0 : Hid (l0.length = 68) := by show _ = _; rw [hl0]; exact hdL_length hh
  have BY : Hid (∀ W, Calls Tryz.prog 40 #[.agg l0.toArray] W fun e w' => ∃ v, e = .returned v ∧ CopyB W w' v (hdB h)) := fun W => by rw [hl0]; exact hdbytes_any h HH.out W
  rw [← hl0]
  clear hdg hk hh hl0
  go_enter Tryz.func45, Tryz.ntmps45
  go_upto_region 1 with fail
  have f1 := row_below (heap_alloc_new w (.cells l0.toArray 26 (0, 0))) ((Below.refl _ _).alloc (Nat.le_refl _) (.cells (List.replicate 32 (bV 0)).toArray 24))
  have f2 := heap_alloc_new (w.alloc (.cells l0.toArray 26 (0, 0))) (.cells (List.replicate 32 (bV 0)).toArray 24)
  have b1 := ((Below.refl w.heap.size w).alloc (Nat.le_refl _) (.cells l0.toArray 26 (0, 0))).alloc (by simp) (.cells (List.replicate 32 (bV 0)).toArray 24)
  rw [World.size_alloc] at f2
  generalize hw1 : World.alloc _ _ = w1
  have e1 : (w.alloc (.cells l0.toArray 26 (0, 0))).alloc (.cells (List.replicate 32 (bV 0)).toArray 24) = w1 := hw1
  rw [e1] at f1 f2 b1
  have F1 := Lib.hid f1
  have F2 := Lib.hid f2
  have B1 := Lib.hid b1
  clear f1 f2 b1 hw1 e1
  go_wp2_with ((with_reducible show wpList _ _ _ _ _ _); refine wpList_load_row rfl 26 (.tmp 1) rfl w.heap.size rfl 26 l0.toArray (0, 0) _ F1.out Tryz.underlying26 rfl (by show _ = some l0.length; rw [LN0.out] <;> kernel_rfl) ?_; go_frame)
  refine (BY.out w1).mono ?_
  rintro e w2 ⟨v2, rfl, hc⟩
  have S2 := Lib.hid hc.src
  have B2 := Lib.hid (B1.out.trans (hc.2.mono B1.out.size))
  have F2 := Lib.hid (row_below F2.out hc.2)
  have HLn : Hid ((hdB h).length ≤ 576460752303423487) := by show _ ≤ _; rw [hdB_length HH.out]; omega
  clear hc
  go_wp2_with fail
  have TW := twice_any (hdB h) v2 w2 (HK.out.below B2.out) S2.out HLn.out
  change Calls _ _ _ _ (fun e w' => e = .returned (.agg ((hdId h).map bV).toArray) ∧ Below w2.heap.size w2 w') at TW
  rw [← HD.out] at TW
  refine TW.mono ?_
  rintro e w3 ⟨rfl, hb3⟩
  clear TW
  have B3 := Lib.hid (B2.out.trans (hb3.mono B2.out.size))
  have F3 := Lib.hid (row_below F2.out hb3)
  clear hb3
  go_wp2_with ((with_reducible show wpList _ _ _ _ _ _); refine wpList_store_row rfl 24 (.tmp 2) (.tmp 5) rfl (w.heap.size + 1) dg rfl rfl 24 _ F3.out (by rw [HLen.out]; kernel_rfl) (by rw [HLen.out]; rfl) HOne.out ?_; go_frame)
  refine bodyPost_ret (results_cell_row rfl _ _ (w.heap.size + 1) 24 dg (0, 0) (.array 32 5) rfl (setRow_heap _ _ _ _ _ _ F3.out) Tryz.underlying24 rfl (by rw [HLen.out]; kernel_rfl)) rfl ⟨rfl, below_setRow B3.out (Nat.le_succ _) _⟩
end Go.Proofs.YtdamhoagiooicaaGreatDoor.Sha

/-
  Package tx takes an input, and an output, from a Reader. Nothing that was there turns but the Reader. Conditions: the Reader stands as it should; the errors are there.
-/
namespace Go.Proofs.YtdamhoagiooicaaGreatDoor.Sha
open Go Go.RowKit
/-- What is taken of an input. -/
def InPost (E : Nat → Addr) (m : Nat) (x : TIn) (b : List UInt8) (d r : Nat) (w : World) (e : Ending) (w' : World) : Prop :=
  ∃ sx cx, e = .returned (.agg (inL x (.slice sx x.key.length cx)).toArray) ∧ KeyAt w' (.slice sx x.key.length cx) x.key ∧ (∀ k, k < w.heap.size → Off (.slice sx x.key.length cx) (some k)) ∧ RdI E m w' r b d ∧ w.grownBy w' (some r)
theorem leP_of {k : Nat} {bs x b : List UInt8} {c d : Nat} (h : takeL k bs c = (x, b, d)) : leP k bs c = (leN x, b, d) := by simp only [leP, mapP, h]
theorem one_mem {v : Value} (h : v.oneCell' = true) : ∀ u ∈ [v], u.oneCell' = true := fun u hu => by rw [List.mem_singleton.1 hu]; exact h
set_option maxHeartbeats 1000000 in
set_option maxRecDepth 100000 in
theorem takeIn_is (E : Nat → Addr) (m : Nat) (bs : List UInt8) (c r : Nat) (w : World) (hE : ErR w E r) (hr : RdI E m w r bs c) (hm : m < w.heap.size) (hl : bs.length ≤ 70368744177664) (x : TIn) (b : List UInt8) (d : Nat) (hx : inP bs c = (x, b, d)) :
    Calls Tryz.prog 111 #[.pointer (some ⟨r, 0, none⟩)] w (InPost E m x b d r w) := by
  obtain ⟨x1, b1, d1, h1⟩ : ∃ x b d, takeL 32 bs c = (x, b, d) := ⟨_, _, _, rfl⟩
  obtain ⟨x2, b2, d2, h2⟩ : ∃ x b d, takeL 4 b1 d1 = (x, b, d) := ⟨_, _, _, rfl⟩
  obtain ⟨k, b3, d3, h3⟩ : ∃ x b d, numL 80 b2 d2 = (x, b, d) := ⟨_, _, _, rfl⟩
  obtain ⟨x4, b4, d4, h4⟩ : ∃ x b d, takeL k b3 d3 = (x, b, d) := ⟨_, _, _, rfl⟩
  obtain ⟨x5, b5, d5, h5⟩ : ∃ x b d, takeL 4 b4 d4 = (x, b, d) := ⟨_, _, _, rfl⟩
  rw [inP_laid bs x1 b1 b2 b3 x4 b4 b5 c d1 d2 d3 d4 d5 (leN x2) k (leN x5) h1 (leP_of h2) h3 h4 (leP_of h5)] at hx
  obtain ⟨rfl, rfl, rfl⟩ : (⟨padH x1, leN x2, x4, leN x5⟩ : TIn) = x ∧ b5 = b ∧ d5 = d := by simpa using hx
  have hk : k ≤ 80 := by have := numL_most 80 b2 d2; rw [h3] at this; exact this
  have hp : (padH x1).length = 32 := padH_length (by have := takeL_le 32 bs c; rw [h1] at this; exact this)
  have hb3 : b3.length ≤ 70368744177664 := by
    have q1 := less_take 32 bs c
    have q2 := less_take 4 b1 d1
    have q3 := less_num 80 b2 d2
    rw [h1] at q1
    rw [h2] at q2
    rw [h3] at q3
    exact Nat.le_trans q3 (Nat.le_trans q2 (Nat.le_trans q1 hl))
  have num2 : Hid (numL 80 b2 d2 = (k, b3, d3)) := h3
  have HE := Lib.hid hE
  have HR := Lib.hid hr
  have HM := Lib.hid hm
  have HK := Lib.hid hk
  have HP := Lib.hid hp
  have HB3 := Lib.hid hb3
  have T1 := Lib.hid h1
  have T2 := Lib.hid h2
  have T4 := Lib.hid h4
  have T5 := Lib.hid h5
  obtain ⟨P, hP⟩ : ∃ P, P = (padH x1).map bV := ⟨_, rfl⟩
  have HPP := Lib.hid hP
  have HPL : Hid (P.length = 32) := by show _ = _; rw [hP, List.length_map]; exact hp
  have HPO : Hid (∀ u ∈ P, u.oneCell' = true) := by rw [hP]; exact bV_one' _
  obtain ⟨N2, hN2⟩ : ∃ N, N = leN x2 := ⟨_, rfl⟩
  obtain ⟨N5, hN5⟩ : ∃ N, N = leN x5 := ⟨_, rfl⟩
  have HN2 := Lib.hid hN2
  have HN5 := Lib.hid hN5
  clear hE hr hm h1 h2 h3 h4 h5 hx hk hp hb3 hl hP hN2 hN5
  go_enter Tryz.func111, Tryz.ntmps111
  go_upto_region 1 with fail
  have hg0 : w.grownBy (w.alloc (.cells (List.replicate 32 (bV 0) ++ [nV 0, .slice none 0 0, nV 0]).toArray 70)) (some r) := World.grownBy_alloc w _ _
  have hf0 := heap_alloc_new w (.cells (List.replicate 32 (bV 0) ++ [nV 0, .slice none 0 0, nV 0]).toArray 70)
  have hr0 := HR.out.below ((Below.refl w.heap.size w).alloc (Nat.le_refl _) (.cells (List.replicate 32 (bV 0) ++ [nV 0, .slice none 0 0, nV 0]).toArray 70))
  generalize hw0 : World.alloc _ _ = w0
  have e0 : w.alloc (.cells (List.replicate 32 (bV 0) ++ [nV 0, .slice none 0 0, nV 0]).toArray 70) = w0 := hw0
  rw [e0] at hg0 hf0 hr0
  have HG0 := Lib.hid hg0
  have HF0 := Lib.hid hf0
  have HR0 := Lib.hid hr0
  have HNE : Hid (some r ≠ some w.heap.size) := fun e => by have := HR.out.lt; have := Option.some.inj e; omega
  have HNR : Hid (w.heap.size ≠ r) := by show _ ≠ _; have := HR.out.lt; omega
  have HNM : Hid (m ≠ w.heap.size) := by show _ ≠ _; have := HM.out; omega
  clear hg0 hf0 hr0 hw0 e0
  go_wp2_with fail
  refine (hash_is E m bs x1 b1 c d1 r w0 (HE.out.grown HG0.out) HR0.out T1.out).mono ?_
  rintro e w1 ⟨rfl, i1, g1⟩
  have HR1 := Lib.hid i1
  have HG1 := Lib.hid (grownBy_trans HG0.out g1)
  have HF1 := Lib.hid (row_far HF0.out g1 HNE.out)
  clear i1 g1
  rw [← HPP.out]
  go_upto_region 2 with ((with_reducible show wpList _ _ _ _ _ _); refine wpList_store_part rfl 24 (.tmp 6) (.tmp 4) rfl w.heap.size 0 [] (List.replicate 32 (bV 0)) [nV 0, .slice none 0 0, nV 0] P 70 (.agg P.toArray) rfl rfl rfl rfl (by rw [HPL.out, List.length_replicate]) (by simpa using HF1.out) (by rw [HPL.out]; kernel_rfl) HPO.out ?_; intro w2 q1 q2; have HS := Lib.hid q1; have HQ := Lib.hid q2; clear q1 q2; go_frame)
  have HR2 := Lib.hid (HR1.out.grown HQ.out HNR.out (fun _ => HNM.out))
  have HG2 := Lib.hid (gr_low HG1.out HQ.out (Nat.le_refl _))
  have HF2 : Hid (w2.heap[w.heap.size]? = some (.cells (P ++ [nV 0, .slice none 0 0, nV 0]).toArray 70 (0, 0))) := by show _ = _; simpa using HS.out
  clear HS HQ HR1 HG1 HF1 HR0 HG0 HF0
  go_wp2_with fail
  refine (four_is E m b1 x2 b2 d1 d2 r w2 (HE.out.grown HG2.out) HR2.out T2.out).mono ?_
  rintro e w3 ⟨rfl, i1, g1⟩
  have HR3 := Lib.hid i1
  have HG3 := Lib.hid (grownBy_trans HG2.out g1)
  have HF3 := Lib.hid (row_far HF2.out g1 HNE.out)
  clear i1 g1
  rw [← HN2.out]
  go_upto_region 3 with ((with_reducible show wpList _ _ _ _ _ _); refine wpList_store_part rfl 22 (.tmp 10) (.tmp 8) rfl w.heap.size 32 P [nV 0] [.slice none 0 0, nV 0] [nV N2] 70 (nV N2) rfl rfl rfl HPL.out rfl (by simpa using HF3.out) (by kernel_rfl) (one_mem rfl) ?_; intro w4 q1 q2; have HS := Lib.hid q1; have HQ := Lib.hid q2; clear q1 q2; go_frame)
  have HR4 := Lib.hid (HR3.out.grown HQ.out HNR.out (fun _ => HNM.out))
  have HG4 := Lib.hid (gr_low HG3.out HQ.out (Nat.le_refl _))
  have HF4 : Hid (w4.heap[w.heap.size]? = some (.cells (P ++ [nV N2, .slice none 0 0, nV 0]).toArray 70 (0, 0))) := by show _ = _; simpa using HS.out
  clear HS HQ HR3 HG3 HF3 HR2 HG2 HF2
  have NA : Hid (Calls Tryz.prog 75 #[.pointer (some ⟨r, 0, none⟩), .int .u64 80] w4 (NumPost E m k b3 d3 r w4)) := by
    have := num_any E m 80 b2 d2 r w4 (HE.out.grown HG4.out) HR4.out
    rw [num2.out] at this
    exact this
  have uk : (0 : Int) ≤ (k : Int) ∧ (k : Int) ≤ 80 := by have := HK.out; omega
  have wk : IntKind.i64.wrap (k : Int) = (k : Int) := i64_stays (by omega)
  go_wp2_with fail
  refine NA.out.mono ?_
  rintro e w5 ⟨rfl, i1, g1⟩
  have HR5 := Lib.hid i1
  have HG5 := Lib.hid (grownBy_trans HG4.out g1)
  have HF5 := Lib.hid (row_far HF4.out g1 HNE.out)
  clear i1 g1 NA
  go_wp2_with fail
  refine (bytes_is E m (k : Int) k (by simp) b3 x4 b4 d3 d4 r w5 (HE.out.grown HG5.out) HR5.out T4.out (by omega) HB3.out).mono ?_
  rintro e w6 ⟨v6, rfl, o6, i1, g1⟩
  obtain ⟨sx, cx, rfl⟩ := (src_own o6).shape
  have HO6 := Lib.hid o6
  have HR6 := Lib.hid i1
  have HS6 : Hid (w.heap.size < w5.heap.size) := (Array.getElem?_eq_some_iff.1 HF5.out).1
  have HG6 := Lib.hid (grownBy_trans HG5.out g1)
  have HF6 := Lib.hid (row_far HF5.out g1 HNE.out)
  clear i1 g1 o6 uk wk
  obtain ⟨kl, hkl⟩ : ∃ kl, kl = x4.length := ⟨_, rfl⟩
  have KL := Lib.hid hkl
  rw [← hkl] at HO6 ⊢
  clear hkl
  go_upto_region 4 with ((with_reducible show wpList _ _ _ _ _ _); refine wpList_store_part rfl 30 (.tmp 16) (.tmp 15) rfl w.heap.size 33 (P ++ [nV N2]) [.slice none 0 0] [nV 0] [.slice sx kl cx] 70 (.slice sx kl cx) rfl rfl rfl (by simp [HPL.out]) rfl (by simpa using HF6.out) (by kernel_rfl) (one_mem rfl) ?_; intro w7 q1 q2; have HS := Lib.hid q1; have HQ := Lib.hid q2; clear q1 q2; go_frame)
  have HR7 := Lib.hid (HR6.out.grown HQ.out HNR.out (fun _ => HNM.out))
  have HG7 := Lib.hid (gr_low HG6.out HQ.out (Nat.le_refl _))
  have HF7 : Hid (w7.heap[w.heap.size]? = some (.cells (P ++ [nV N2, .slice sx kl cx, nV 0]).toArray 70 (0, 0))) := by show _ = _; simpa using HS.out
  have HOF : Hid (∀ q, q < w5.heap.size → Off (.slice sx kl cx) (some q)) := fun q hq => own_off HO6.out hq
  have HK6 : KeyAt w6 (.slice sx kl cx) x4 := ⟨src_own HO6.out, sx, cx, by rw [KL.out]⟩
  have HK7 := Lib.hid (HK6.off (HOF.out _ HS6.out) HQ.out)
  clear HK6
  clear HS HQ HR6 HG6 HF6 HR5 HG5 HF5 HR4 HG4 HF4 HO6
  go_wp2_with fail
  refine (four_is E m b4 x5 b5 d4 d5 r w7 (HE.out.grown HG7.out) HR7.out T5.out).mono ?_
  rintro e w8 ⟨rfl, i1, g1⟩
  have HR8 := Lib.hid i1
  have HG8 := Lib.hid (grownBy_trans HG7.out g1)
  have HF8 := Lib.hid (row_far HF7.out g1 HNE.out)
  have HK8 := Lib.hid (HK7.out.off (HOF.out r (Nat.lt_trans HR.out.lt HS6.out)) g1)
  clear i1 g1
  rw [← HN5.out]
  go_upto_region 5 with ((with_reducible show wpList _ _ _ _ _ _); refine wpList_store_part rfl 22 (.tmp 19) (.tmp 18) rfl w.heap.size 34 (P ++ [nV N2, .slice sx kl cx]) [nV 0] [] [nV N5] 70 (nV N5) rfl rfl rfl (by simp [HPL.out]) rfl (by simpa using HF8.out) (by kernel_rfl) (one_mem rfl) ?_; intro w9 q1 q2; have HS := Lib.hid q1; have HQ := Lib.hid q2; clear q1 q2; go_frame)
  have HR9 := Lib.hid (HR8.out.grown HQ.out HNR.out (fun _ => HNM.out))
  have HG9 := Lib.hid (gr_low HG8.out HQ.out (Nat.le_refl _))
  have HF9 : Hid (w9.heap[w.heap.size]? = some (.cells (P ++ [nV N2, .slice sx kl cx, nV N5]).toArray 70 (0, 0))) := by show _ = _; simpa using HS.out
  have HK9 := Lib.hid (HK8.out.off (HOF.out _ HS6.out) HQ.out)
  clear HS HQ HR8 HG8 HF8 HR7 HG7 HF7 HK8 HK7
  obtain ⟨R, hR⟩ : ∃ R, R = (P ++ [nV N2, .slice sx kl cx, nV N5]).toArray := ⟨_, rfl⟩
  rw [← hR] at HF9
  have LR : Hid (R.size = 35) := by show _ = _; rw [hR]; simp [HPL.out]
  have OR : Hid (R.all (·.oneCell') = true) := by
    show _ = _
    rw [hR]
    refine all_oneCell_toArray (fun u hu => ?_)
    rcases List.mem_append.1 hu with hu | hu
    · exact HPO.out u hu
    · simp only [List.mem_cons, List.not_mem_nil, or_false] at hu
      rcases hu with rfl | rfl | rfl <;> rfl
  have HRR := Lib.hid hR
  clear hR
  go_wp2_with ((with_reducible show wpList _ _ _ _ _ _); first | (refine wpList_load_row rfl 70 (.tmp 2) rfl w.heap.size rfl 70 R (0, 0) _ HF9.out Tryz.underlying70 rfl (by rw [LR.out]; kernel_rfl) ?_; go_frame) | (refine wpList_store_row rfl 70 (.tmp 2) (.tmp 20) rfl w.heap.size R rfl rfl 70 _ HF9.out (by rw [LR.out]; kernel_rfl) (by rw [LR.out]) OR.out ?_; go_frame))
  refine bodyPost_ret (results_cell_row rfl _ _ w.heap.size 70 R (0, 0) _ rfl (setRow_heap _ _ _ _ _ _ HF9.out) Tryz.underlying70 rfl (by rw [LR.out]; kernel_rfl)) rfl ?_
  have HQ : w9.grownBy (w9.setRow w.heap.size R) (some w.heap.size) := setRow_grown _
  have hk := KL.out
  refine ⟨sx, cx, ?_, ?_, ?_, HR9.out.grown HQ HNR.out (fun _ => HNM.out), gr_low HG9.out HQ (Nat.le_refl _)⟩
  · rw [HRR.out, HPP.out, HN2.out, HN5.out, hk]
    simp [inL, ptL]
  · rw [← hk]
    exact HK9.out.off (HOF.out _ HS6.out) HQ
  · intro q hq
    rw [← hk]
    exact HOF.out q (Nat.lt_trans hq HS6.out)
def OutPost (E : Nat → Addr) (m : Nat) (y : TOut) (b : List UInt8) (d r : Nat) (w : World) (e : Ending) (w' : World) : Prop :=
  e = .returned (.agg (outL y).toArray) ∧ RdI E m w' r b d ∧ w.grownBy w' (some r)
set_option maxHeartbeats 1000000 in
set_option maxRecDepth 100000 in
theorem takeOut_is (E : Nat → Addr) (m : Nat) (bs : List UInt8) (c r : Nat) (w : World) (hE : ErR w E r) (hr : RdI E m w r bs c) (hm : m < w.heap.size) (y : TOut) (b : List UInt8) (d : Nat) (hx : outP bs c = (y, b, d)) :
    Calls Tryz.prog 112 #[.pointer (some ⟨r, 0, none⟩)] w (OutPost E m y b d r w) := by
  obtain ⟨x1, b1, d1, h1⟩ : ∃ x b d, takeL 8 bs c = (x, b, d) := ⟨_, _, _, rfl⟩
  obtain ⟨x2, b2, d2, h2⟩ : ∃ x b d, takeL 32 b1 d1 = (x, b, d) := ⟨_, _, _, rfl⟩
  rw [outP_laid bs x2 b1 b2 c d1 d2 (leN x1) (leP_of h1) h2] at hx
  obtain ⟨rfl, rfl, rfl⟩ : (⟨leN x1, padH x2⟩ : TOut) = y ∧ b2 = b ∧ d2 = d := by simpa using hx
  have hp : (padH x2).length = 32 := padH_length (by have := takeL_le 32 b1 d1; rw [h2] at this; exact this)
  have HE := Lib.hid hE
  have HR := Lib.hid hr
  have HM := Lib.hid hm
  have T1 := Lib.hid h1
  have T2 := Lib.hid h2
  obtain ⟨P, hP⟩ : ∃ P, P = (padH x2).map bV := ⟨_, rfl⟩
  have HPP := Lib.hid hP
  have HPL : Hid (P.length = 32) := by show _ = _; rw [hP, List.length_map]; exact hp
  have HPO : Hid (∀ u ∈ P, u.oneCell' = true) := by rw [hP]; exact bV_one' _
  obtain ⟨N1, hN1⟩ : ∃ N, N = leN x1 := ⟨_, rfl⟩
  have HN1 := Lib.hid hN1
  clear hE hr hm h1 h2 hx hp hP hN1
  go_enter Tryz.func112, Tryz.ntmps112
  go_upto_region 1 with fail
  have hg0 : w.grownBy (w.alloc (.cells (uV 0 :: List.replicate 32 (bV 0)).toArray 111)) (some r) := World.grownBy_alloc w _ _
  have hf0 := heap_alloc_new w (.cells (uV 0 :: List.replicate 32 (bV 0)).toArray 111)
  have hr0 := HR.out.below ((Below.refl w.heap.size w).alloc (Nat.le_refl _) (.cells (uV 0 :: List.replicate 32 (bV 0)).toArray 111))
  generalize hw0 : World.alloc _ _ = w0
  have e0 : w.alloc (.cells (uV 0 :: List.replicate 32 (bV 0)).toArray 111) = w0 := hw0
  rw [e0] at hg0 hf0 hr0
  have HG0 := Lib.hid hg0
  have HF0 := Lib.hid hf0
  have HR0 := Lib.hid hr0
  have HNE : Hid (some r ≠ some w.heap.size) := fun e => by have := HR.out.lt; have := Option.some.inj e; omega
  have HNR : Hid (w.heap.size ≠ r) := by show _ ≠ _; have := HR.out.lt; omega
  have HNM : Hid (m ≠ w.heap.size) := by show _ ≠ _; have := HM.out; omega
  clear hg0 hf0 hr0 hw0 e0
  go_wp2_with fail
  refine (eight_is E m bs x1 b1 c d1 r w0 (HE.out.grown HG0.out) HR0.out T1.out).mono ?_
  rintro e w1 ⟨rfl, i1, g1⟩
  have HR1 := Lib.hid i1
  have HG1 := Lib.hid (grownBy_trans HG0.out g1)
  have HF1 := Lib.hid (row_far HF0.out g1 HNE.out)
  clear i1 g1
  rw [← HN1.out]
  go_upto_region 2 with ((with_reducible show wpList _ _ _ _ _ _); refine wpList_store_part rfl 73 (.tmp 5) (.tmp 4) rfl w.heap.size 0 [] [uV 0] (List.replicate 32 (bV 0)) [uV N1] 111 (uV N1) rfl rfl rfl rfl rfl (by simpa using HF1.out) (by kernel_rfl) (one_mem rfl) ?_; intro w2 q1 q2; have HS := Lib.hid q1; have HQ := Lib.hid q2; clear q1 q2; go_frame)
  have HR2 := Lib.hid (HR1.out.grown HQ.out HNR.out (fun _ => HNM.out))
  have HG2 := Lib.hid (gr_low HG1.out HQ.out (Nat.le_refl _))
  have HF2 : Hid (w2.heap[w.heap.size]? = some (.cells ([uV N1] ++ List.replicate 32 (bV 0)).toArray 111 (0, 0))) := by show _ = _; simpa using HS.out
  clear HS HQ HR1 HG1 HF1 HR0 HG0 HF0
  go_wp2_with fail
  refine (hash_is E m b1 x2 b2 d1 d2 r w2 (HE.out.grown HG2.out) HR2.out T2.out).mono ?_
  rintro e w3 ⟨rfl, i1, g1⟩
  have HR3 := Lib.hid i1
  have HG3 := Lib.hid (grownBy_trans HG2.out g1)
  have HF3 := Lib.hid (row_far HF2.out g1 HNE.out)
  clear i1 g1
  rw [← HPP.out]
  go_upto_region 3 with ((with_reducible show wpList _ _ _ _ _ _); refine wpList_store_part rfl 24 (.tmp 8) (.tmp 7) rfl w.heap.size 1 [uV N1] (List.replicate 32 (bV 0)) [] P 111 (.agg P.toArray) rfl rfl rfl rfl (by rw [HPL.out, List.length_replicate]) (by simpa using HF3.out) (by rw [HPL.out]; kernel_rfl) HPO.out ?_; intro w4 q1 q2; have HS := Lib.hid q1; have HQ := Lib.hid q2; clear q1 q2; go_frame)
  have HR4 := Lib.hid (HR3.out.grown HQ.out HNR.out (fun _ => HNM.out))
  have HG4 := Lib.hid (gr_low HG3.out HQ.out (Nat.le_refl _))
  obtain ⟨R, hR⟩ : ∃ R, R = (uV N1 :: P).toArray := ⟨_, rfl⟩
  have HF4 : Hid (w4.heap[w.heap.size]? = some (.cells R 111 (0, 0))) := by show _ = _; rw [hR]; simpa using HS.out
  have LR : Hid (R.size = 33) := by show _ = _; rw [hR]; simp [HPL.out]
  have OR : Hid (R.all (·.oneCell') = true) := by
    show _ = _
    rw [hR]
    refine all_oneCell_toArray (fun u hu => ?_)
    rcases List.mem_cons.1 hu with rfl | hu
    · rfl
    · exact HPO.out u hu
  have HRR := Lib.hid hR
  clear hR HS HQ HR3 HG3 HF3 HR2 HG2 HF2
  go_wp2_with ((with_reducible show wpList _ _ _ _ _ _); first | (refine wpList_load_row rfl 111 (.tmp 2) rfl w.heap.size rfl 111 R (0, 0) _ HF4.out Tryz.underlying111 rfl (by rw [LR.out]; kernel_rfl) ?_; go_frame) | (refine wpList_store_row rfl 111 (.tmp 2) (.tmp 9) rfl w.heap.size R rfl rfl 111 _ HF4.out (by rw [LR.out]; kernel_rfl) (by rw [LR.out]) OR.out ?_; go_frame))
  refine bodyPost_ret (results_cell_row rfl _ _ w.heap.size 111 R (0, 0) _ rfl (setRow_heap _ _ _ _ _ _ HF4.out) Tryz.underlying111 rfl (by rw [LR.out]; kernel_rfl)) rfl ?_
  have HQ : w4.grownBy (w4.setRow w.heap.size R) (some w.heap.size) := setRow_grown _
  refine ⟨?_, HR4.out.grown HQ HNR.out (fun _ => HNM.out), gr_low HG4.out HQ (Nat.le_refl _)⟩
  rw [HRR.out, HPP.out, HN1.out]
  rfl
end Go.Proofs.YtdamhoagiooicaaGreatDoor.Sha

/-
  Loads and appends of structures where a region draws its order; rows that stay where others grow. No conditions beyond those that each states.
-/
namespace Go.Proofs.YtdamhoagiooicaaGreatDoor.Sha
open Go Go.RowKit
section
variable {P : Program}
theorem wp_load_cell {op : Oper} {a : Act} {w : World} {K : Act → World → Prop} {Q : Exit → Act → World → Prop} (ty : TypeId) (x : Operand) (ho : op.op = .load ty x) (b off : Nat) (hx : a.eval x = .pointer (some ⟨b, off, none⟩)) (v : Value) (d : TypeDesc)
    (hc : w.cell? ⟨b, off, none⟩ = some v) (hu : P.underlying ty = some d) (hd : d.isRow = false) (h : K (a.put op.dst v) w) : op.wp P a w K Q := by
  have hagg : (isAgg ty).run P w = .ok false w := by
    unfold isAgg
    rw [Sem.run_bind, run_underlying hu w]
    cases d <;> simp_all
  unfold Oper.wp execOp
  simp [ho, hx, Instr.loadAt, Instr.sureAddr, Sem.run_bind, loadVar, hagg, hc]
  exact h
theorem wp_append_row (w : World) {o : Oper} {a : Act} {K : Act → World → Prop} {Q : Exit → Act → World → Prop} (s x : Operand) (t : TypeId)
    (ho : o.op = Op.call { callee := Callee.builtin Builtin.append, args := #[s, x], argTypes := #[t, t] })
    (base : Nat) (e : TypeId) (i : TypeInfo) (z : Value) (size bytes : Nat) (ht : P.underlying t = some (.slice e)) (hi : P.info? e = some i) (hz : i.zero = some z)
    (hsize : i.size = size) (hby : i.bytes = bytes) (hzs : z.cells.size = size) (hsz : 0 < size)
    (v : Value) (n : Nat) (xs : List Value) (hs : a.eval s = v) (hown : w.ownsRow base e size v n xs)
    (ad : Addr) (m c : Nat) (news : List Value) (hx : a.eval x = .slice (some ad) m c) (hl : news.length = m * size) (hnews : ∀ j u, news[j]? = some u → w.cell? (ad.add j) = some u) (h1 : ∀ u ∈ news, u.oneCell' = true)
    (h63 : n + m ≤ maxLen) (hbytes : (n + m) * bytes ≤ 140737488355328) (hbase : base ≤ w.heap.size)
    (h : ∀ v' w', w'.ownsRow base e size v' (n + m) (xs ++ news) → w.grownBy w' v.ownBlock → (v'.ownBlock = v.ownBlock ∨ v'.ownBlock = some w.heap.size) → K (a.put o.dst v') w') : o.wp P a w K Q := by
  obtain ⟨v', w', hr, h2, h3, _, h5⟩ := run_append_own_at (P := P) w base t o.type e i z size bytes ht hi hz hsize hby hzs hsz v n xs hown ad m c news hl hnews h1 h63 hbytes hbase
  unfold Oper.wp execOp
  simp only [ho, resolve, invoke, builtin, Sem.run_bind, Sem.run_pure, Result.andThen_ok, List.map_toArray, List.map_cons, List.map_nil, hs, hx, hr]
  exact h v' w' h2 h3 h5
end
theorem own_one {w : World} {base n size : Nat} {e : TypeId} {v : Value} {xs : List Value} (h : w.ownsRow base e size v n xs) : v.oneCell' = true := by
  rcases h.2 with ⟨rfl, _⟩ | ⟨g, cap, cur, rfl, _⟩ <;> rfl
theorem cells_one {v : Value} (h : v.oneCell' = true) : v.cells = [v].toArray := by cases v <;> first | rfl | cases h
theorem in_mem_one (x : TIn) (kv : Value) (hk : kv.oneCell' = true) : ∀ u ∈ inL x kv, u.oneCell' = true := fun u hu => by
  have := in_one x kv hk
  rw [Array.all_eq_true_iff_forall_mem] at this
  exact this u (by simpa using hu)
theorem out_mem_one (y : TOut) : ∀ u ∈ outL y, u.oneCell' = true := fun u hu => by
  have := out_one y
  rw [Array.all_eq_true_iff_forall_mem] at this
  exact this u (by simpa using hu)
theorem InsOwn.grow {base : Nat} {w w' : World} {v : Value} {l : List TIn} {ks : List Value} {q : Option Nat} (h : InsOwn base w v l ks) (hg : w.grownBy w' q) (hq : ∀ j, q = some j → v.ownBlock ≠ some j ∧ ∀ (i : Nat) kv, ks[i]? = some kv → Off kv (some j)) : InsOwn base w' v l ks := by
  cases q with
  | none => exact h.keep (below_made hg)
  | some j =>
    obtain ⟨a, b⟩ := hq j rfl
    exact ⟨h.1, h.2.1.kept hg (.inr a), h.2.2.1, fun i x kv hx hk => ⟨(h.2.2.2 i x kv hx hk).1.off (b i kv hk) hg, (h.2.2.2 i x kv hx hk).2⟩⟩
/-- All of a row's memory lies below. -/
def InsLow (B : Nat) (v : Value) (ks : List Value) : Prop := ∀ j, B ≤ j → v.ownBlock ≠ some j ∧ ∀ (i : Nat) kv, ks[i]? = some kv → Off kv (some j)
theorem InsOwn.low {base : Nat} {w : World} {v : Value} {l : List TIn} {ks : List Value} (h : InsOwn base w v l ks) : InsLow w.heap.size v ks := fun j hj => by
  refine ⟨fun e => ?_, fun i kv hk => ?_⟩
  · have := (h.2.1.lt j e).2
    omega
  · obtain ⟨x, hx⟩ : ∃ x, l[i]? = some x := ⟨_, List.getElem?_eq_getElem (by have := (List.getElem?_eq_some_iff.1 hk).1; have := h.1; omega)⟩
    exact (h.2.2.2 i x kv hx hk).1.fresh hj
theorem txS_laid (bs x1 b1 b2 b3 b4 b5 x6 b6 : List UInt8) (c d1 d2 d3 d4 d5 d6 n1 n2 : Nat) (l1 : List TIn) (l2 : List TOut) (h1 : takeL 4 bs c = (x1, b1, d1)) (h2 : numL 50 b1 d1 = (n1, b2, d2)) (h3 : manyS inP n1 b2 d2 = (l1, b3, d3))
    (h4 : numL 50 b3 d3 = (n2, b4, d4)) (h5 : manyS outP n2 b4 d4 = (l2, b5, d5)) (h6 : takeL 4 b5 d5 = (x6, b6, d6)) : txS bs c = (⟨leN x1, l1, l2, leN x6⟩, b6, d6) := by
  simp only [txS, thenP, mapP, leP_of h1, h2, h3, h4, h5, leP_of h6]
theorem gr_own {w0 w w' : World} {r q : Option Nat} {B : Nat} (h : w0.grownBy w r) (hg : w.grownBy w' q) (hq : ∀ k, q = some k → B ≤ k) (hB : w0.heap.size ≤ B) : w0.grownBy w' r :=
  ⟨hg.os.trans h.os, hg.tape.trans h.tape, hg.output.trans h.output, Nat.le_trans h.size hg.size, fun k hk hne => by
    rw [hg.block k (Nat.lt_of_lt_of_le hk h.size) (fun e => by have := hq k e.symm; omega)]
    exact h.block k hk hne⟩
theorem row_own {w w' : World} {g : Nat} {o : Obj} {q : Option Nat} {B : Nat} (h : w.heap[g]? = some o) (hg : w.grownBy w' q) (hq : ∀ k, q = some k → B ≤ k) (hB : g < B) : w'.heap[g]? = some o :=
  row_far h hg (fun e => by have := hq g e; omega)
theorem rd_own {E : Nat → Addr} {m : Nat} {w w' : World} {r : Nat} {bs : List UInt8} {c : Nat} {q : Option Nat} {B : Nat} (h : RdI E m w r bs c) (hg : w.grownBy w' q) (hq : ∀ k, q = some k → B ≤ k) (hr : r < B) (hm : m < B) : RdI E m w' r bs c := by
  cases q with
  | none => exact h.below (below_made hg)
  | some k =>
    have := hq k rfl
    exact h.grown hg (by omega) (fun _ => by omega)
end Go.Proofs.YtdamhoagiooicaaGreatDoor.Sha

/-
  What literals of transactions, inputs, outputs and places lay. No conditions beyond those that each states.
-/
namespace Go.Proofs.YtdamhoagiooicaaGreatDoor.Sha
open Go Go.RowKit
def zH : List UInt8 := List.replicate 32 0
theorem zH_length : zH.length = 32 := rfl
theorem built_ptn (n : Nat) : Tryz.prog.built 68 [(1, .int .u32 (n : Int))] = some (ptL zH n).toArray := by kernel_rfl
theorem built_inp (x : TIn) (hx : x.h.length = 32) (hs : x.seq = 0) : Tryz.prog.built 70 [(0, .agg (ptL x.h x.n).toArray)] = some (inL x (.slice none 0 0)).toArray := by
  have hz : ∀ parts, Tryz.prog.built 70 parts = Instr.fill ([(0, 33), (33, 1), (34, 1)].toArray[·]?) (List.replicate 32 (bV 0) ++ [nV 0, .slice none 0 0, nV 0]).toArray parts := fun parts => by kernel_rfl
  have hl : (ptL x.h x.n).length = 33 := by simp [ptL, hx]
  rw [hz, fill_part _ 0 0 (.agg (ptL x.h x.n).toArray) (ptL x.h x.n) _ _ rfl (by rw [hl]; rfl) (by rw [hl]; simp)]
  rw [List.take_zero, List.nil_append, Nat.zero_add, hl, inL, hs]
  rfl
theorem built_ink (x : TIn) (hx : x.h.length = 32) (kv : Value) (hk : kv.oneCell' = true) (hs : x.seq = 0) : Tryz.prog.built 70 [(0, .agg (ptL x.h x.n).toArray), (1, kv)] = some (inL x kv).toArray := by
  have hz : ∀ parts, Tryz.prog.built 70 parts = Instr.fill ([(0, 33), (33, 1), (34, 1)].toArray[·]?) (List.replicate 32 (bV 0) ++ [nV 0, .slice none 0 0, nV 0]).toArray parts := fun parts => by kernel_rfl
  have hl : (ptL x.h x.n).length = 33 := by simp [ptL, hx]
  rw [hz, fill_part _ 0 0 (.agg (ptL x.h x.n).toArray) (ptL x.h x.n) _ _ rfl (by rw [hl]; rfl) (by rw [hl]; simp)]
  rw [List.take_zero, List.nil_append, Nat.zero_add, hl]
  rw [fill_part _ 1 33 kv [kv] _ _ (cells_one hk) rfl (by simp [hl])]
  have e : List.drop (33 + [kv].length) (ptL x.h x.n ++ List.drop 33 (List.replicate 32 (bV 0) ++ [nV 0, .slice none 0 0, nV 0])) = [nV 0] := by
    rw [show 33 + [kv].length = (ptL x.h x.n).length + 1 by rw [hl]; rfl, ← List.drop_drop, List.drop_left]
    rfl
  rw [List.take_append_of_le_length (by omega), List.take_of_length_le (by omega), e, inL, hs]
  rw [List.append_assoc]
  rfl
theorem built_txs (iv ov : Value) (h1 : iv.oneCell' = true) (h2 : ov.oneCell' = true) : Tryz.prog.built 66 [(1, iv), (2, ov)] = some [nV 0, iv, ov, nV 0].toArray := by
  have hz : ∀ parts, Tryz.prog.built 66 parts = Instr.fill ([(0, 1), (1, 1), (2, 1), (3, 1)].toArray[·]?) [nV 0, .slice none 0 0, .slice none 0 0, nV 0].toArray parts := fun parts => by kernel_rfl
  rw [hz, fill_part _ 1 1 iv [iv] _ _ (cells_one h1) rfl (by simp), fill_part _ 2 2 ov [ov] _ _ (cells_one h2) rfl (by simp)]
  rfl
theorem built_outv (v : Nat) : Tryz.prog.built 111 [(0, .int .u64 (v : Int))] = some (outL ⟨v, zH⟩).toArray := by kernel_rfl
theorem built_out0 : Tryz.prog.built 111 [] = some (outL ⟨0, zH⟩).toArray := by kernel_rfl
end Go.Proofs.YtdamhoagiooicaaGreatDoor.Sha

/-
  Package tx tells how long the longest key of a transaction is, and whether a number is between two. Nothing that was there turns. Condition: a transaction of a few inputs and outputs that lies in memory.
-/
namespace Go.Proofs.YtdamhoagiooicaaGreatDoor.Sha
open Go Go.RowKit
set_option maxRecDepth 100000 in
theorem between_any (n : Nat) (b : Bool) (hb : b = (decide (1 ≤ n) && decide (n ≤ 50))) (w : World) (hn : n ≤ 1000) :
    Calls Tryz.prog 122 #[.int .i64 (n : Int), .int .i64 1, .int .i64 50] w fun e w' => e = .returned (.bool b) ∧ w = w' := by
  by_cases h1 : 1 ≤ n
  · have c1 : (1 : Int) ≤ (n : Int) := by omega
    have c1' : decide ((1 : Int) ≤ (n : Int)) = true := decide_eq_true c1
    by_cases h2 : n ≤ 50
    · have c2 : (n : Int) ≤ 50 := by omega
      have c2' : decide ((n : Int) ≤ 50) = true := decide_eq_true c2
      obtain rfl : b = true := by rw [hb]; simp [h1, h2]
      clear hb
      go_enter Tryz.func122, Tryz.ntmps122
      go_wp2_with fail
      go_ret
      exact ⟨rfl, rfl⟩
    · have c2 : ¬ (n : Int) ≤ 50 := by omega
      have c2' : decide ((n : Int) ≤ 50) = false := decide_eq_false c2
      obtain rfl : b = false := by rw [hb]; simp [h2]
      clear hb h2
      go_enter Tryz.func122, Tryz.ntmps122
      go_wp2_with fail
      go_ret
      exact ⟨rfl, rfl⟩
  · have c1 : ¬ (1 : Int) ≤ (n : Int) := by omega
    have c1' : decide ((1 : Int) ≤ (n : Int)) = false := decide_eq_false c1
    obtain rfl : b = false := by rw [hb]; simp [h1]
    clear hb h1
    go_enter Tryz.func122, Tryz.ntmps122
    go_wp2_with fail
    go_ret
    exact ⟨rfl, rfl⟩
/-- The longest key of so many inputs. -/
def mostKey (l : List TIn) : Nat := l.foldl (fun m x => max m x.key.length) 0
theorem mostKey_snoc {l : List TIn} {k : Nat} {x : TIn} (h : l[k]? = some x) : mostKey (l.take (k + 1)) = max (mostKey (l.take k)) x.key.length := by
  have hk := List.getElem?_eq_some_iff.1 h
  rw [List.take_succ_eq_append_getElem hk.1, hk.2]
  simp [mostKey, List.foldl_append]
theorem fold_key : ∀ (l : List TIn) (m : Nat), (80 < l.foldl (fun m x => max m x.key.length) m) ↔ (80 < m ∨ ∃ x ∈ l, 80 < x.key.length)
  | [], m => by simp
  | x :: l, m => by
    rw [List.foldl_cons, fold_key l]
    simp only [List.mem_cons, exists_eq_or_imp]
    constructor
    · rintro (h | h)
      · by_cases hm : 80 < m
        · exact .inl hm
        · exact .inr (.inl (by omega))
      · exact .inr (.inr h)
    · rintro (h | h | h)
      · exact .inl (by omega)
      · exact .inl (by omega)
      · exact .inr h
theorem mostKey_over (l : List TIn) : l.any (fun x => decide (80 < x.key.length)) = decide (80 < mostKey l) := by
  rw [Bool.eq_iff_iff, List.any_eq_true, decide_eq_true_eq, mostKey, fold_key]
  simp
def LkInv (n : Nat) (t : TTx) (w1 : World) (vs vi : Value) (wr : World) : Prop :=
  ∃ k s : Nat, k ≤ n ∧ vi = .int .i64 k ∧ s = mostKey (t.ins.take k) ∧ s ≤ 100000 ∧ vs = .int .i64 s ∧ Below w1.heap.size w1 wr
set_option maxHeartbeats 1000000 in
set_option maxRecDepth 100000 in
theorem longest_any (t : TTx) (v : Value) (w : World) (h1 : TxAt w v t) (hs : TxSmall t) (m : Nat) (hm : m = mostKey t.ins) :
    Calls Tryz.prog 123 #[v] w fun e w' => e = .returned (.int .i64 (m : Int)) ∧ Below w.heap.size w w' := by
  have HM := Lib.hid hm
  clear hm
  have h1' := h1
  obtain ⟨ht0, iv, ov, rfl, hti, hto⟩ := h1
  obtain ⟨si, ci, rfl, hci, hti⟩ := hti
  obtain ⟨so, co, rfl, hco, hto⟩ := hto
  have HTI := Lib.hid hti
  have HTO := Lib.hid hto
  obtain ⟨ni, hn1⟩ : ∃ ni, ni = t.ins.length := ⟨_, rfl⟩
  obtain ⟨no, hn2⟩ : ∃ no, no = t.outs.length := ⟨_, rfl⟩
  obtain ⟨vt, hvt⟩ : ∃ vt, vt = t.ver := ⟨_, rfl⟩
  obtain ⟨tt, htt⟩ : ∃ tt, tt = t.time := ⟨_, rfl⟩
  have NI := Lib.hid hn1
  have NO := Lib.hid hn2
  have VT := Lib.hid hvt
  have TT := Lib.hid htt
  have TS := Lib.hid hs
  have bni : ni ≤ 1000 := by rw [hn1]; exact hs.2.1
  have bno : no ≤ 1000 := by rw [hn2]; exact hs.2.2.1
  simp only [txL, ← hn1, ← hn2, ← hvt, ← htt] at h1' ⊢
  have H1 := Lib.hid h1'
  clear hn1 hn2 hci hco hvt htt ht0 hti hto h1' hs
  
  go_enter Tryz.func123, Tryz.ntmps123
  go_upto_region 1 with fail
  have F := Lib.hid (heap_alloc_new w (.cells [nV vt, .slice si ni ci, .slice so no co, nV tt].toArray 66 (0, 0)))
  have B0 := Lib.hid ((Below.refl w.heap.size w).alloc (Nat.le_refl _) (.cells [nV vt, .slice si ni ci, .slice so no co, nV tt].toArray 66 (0, 0)))
  generalize hw1 : World.alloc _ _ = w1
  have e1 : w.alloc (.cells [nV vt, .slice si ni ci, .slice so no co, nV tt].toArray 66 (0, 0)) = w1 := hw1
  rw [e1] at F B0
  clear hw1 e1
  have BOX : Hid (∀ w', Below w1.heap.size w1 w' → ∀ j v, [nV vt, .slice si ni ci, .slice so no co, nV tt][j]? = some v → w'.cell? ⟨w.heap.size, j, none⟩ = some v) := fun w' hw' j v hj => by
    rw [cell_of_row _ _ _ _ _ _ (row_below F.out hw'), List.getElem?_toArray]
    exact hj
  have c1 : w1.cell? ⟨w.heap.size, 1, none⟩ = some (.slice si ni ci) := BOX.out w1 (Below.refl _ _) 1 _ rfl
  go_wp2_with fail
  clear c1
  go_loopw [2, 8] (fun vs vi wr => LkInv ni t w1 vs vi wr) (fun _ i _ => ni - (intOf i).toNat)
  case atStart => exact ⟨0, 0, by omega, rfl, rfl, by omega, rfl, Below.refl _ _⟩
  case round =>
    obtain ⟨k, s, hk, rfl, hs, bs, rfl, B⟩ := hrel
    have B := Lib.hid B
    have HSm := Lib.hid hs
    clear hs
    by_cases hlt : k < ni
    · have hkx : k < t.ins.length := by have := NI.out; omega
      obtain ⟨b1, o1, hs1, he1⟩ := HTI.out (by omega)
      have g1 := he1 k _ (List.getElem?_eq_getElem hkx)
      obtain ⟨x, hx⟩ : ∃ x, x = t.ins[k] := ⟨_, rfl⟩
      rw [← hx] at g1
      have hgx : t.ins[k]? = some x := by rw [hx]; exact List.getElem?_eq_getElem _
      obtain ⟨hx1, kx, hkx2, hr1⟩ := g1
      obtain ⟨sx, cx, hkv⟩ := hkx2.2
      obtain ⟨kl, hkl⟩ : ∃ kl, kl = x.key.length := ⟨_, rfl⟩
      rw [← hkl] at hkv
      subst hkv
      have p0 : 0 ≤ (k : Int) := by omega
      have q0 : (k : Int) < (ni : Int) := by omega
      have bkl : kl ≤ 100000 := by rw [hkl]; exact TS.out.2.2.2 x (List.mem_of_getElem? hgx)
      have R1 := Lib.hid (range_below (range_below hr1 B0.out) B.out)
      have KW := Lib.hid ((hkx2.1.below B0.out).below B.out)
      have GX := Lib.hid hgx
      have KL := Lib.hid hkl
      have XOK := Lib.hid hx1
      have ONE := Lib.hid (in_one x (.slice sx kl cx) rfl)
      have LX : Hid ((inL x (.slice sx kl cx)).length = 35) := inL_length x _ hx1.1
      have LX' : Hid ((inL x (.slice sx kl cx)).toArray.size = 35) := by show _ = _; rw [List.size_toArray]; exact LX.out
      subst hs1
      clear hx hgx he1 hx1 hkx2 hr1 hkl hkx
      obtain ⟨g5, hg5⟩ : ∃ g5, g5 = wr.heap.size := ⟨_, rfl⟩
      obtain ⟨_, f2, f3, f4⟩ := fill_setup (Below.refl wr.heap.size wr) (List.replicate 32 (bV 0) ++ [nV 0, .slice none 0 0, nV 0]).toArray (inL x (.slice sx kl cx)).toArray 70
      go_upto_region 4 with ((with_reducible show wpList _ _ _ _ _ _); first | (refine wpList_load_mid rfl 70 (.tmp 10) rfl b1 (o1 + k * 35) rfl (inL x (.slice sx kl cx)) _ R1.out Tryz.underlying70 rfl (by rw [LX.out]; kernel_rfl) ?_; go_frame) | (refine wpList_store_row rfl 70 (.tmp 4) (.tmp 11) rfl wr.heap.size (inL x (.slice sx kl cx)).toArray rfl rfl 70 _ (heap_alloc_new _ _) (by rw [LX'.out]; kernel_rfl) (by rw [LX'.out]; rfl) ONE.out ?_; go_frame))
      rw [← hg5] at f2 f3 f4 ⊢
      generalize hw5 : World.setRow _ _ _ = w5
      have e5 : World.setRow (wr.alloc (.cells (List.replicate 32 (bV 0) ++ [nV 0, .slice none 0 0, nV 0]).toArray 70)) g5 (inL x (.slice sx kl cx)).toArray = w5 := hw5
      rw [e5] at f2 f4
      rw [hg5] at f4
      have F5 := Lib.hid f2
      have N5 := Lib.hid f4
      have B5 := Lib.hid (B.out.trans (f4.mono B.out.size))
      have G5 := Lib.hid hg5
      have IN5 : Hid (∀ (j : Nat) (u : Value), (inL x (.slice sx kl cx))[j]? = some u → w5.cell? ⟨g5, j, none⟩ = some u) := fun j u hj => by
        rw [cell_of_row _ _ _ _ _ _ F5.out, List.getElem?_toArray]
        exact hj
      have X33 : Hid ((inL x (.slice sx kl cx))[33]? = some (.slice sx kl cx)) := by show _ = _; rw [inL, List.getElem?_append_right (by simp [ptL, XOK.out.1])]; simp [ptL, XOK.out.1]
      clear f2 f3 f4 hg5 hw5 e5
      have c5 : w5.cell? ⟨g5, 33, none⟩ = some (.slice sx kl cx) := IN5.out 33 _ X33.out
      by_cases hgt : s < kl
      · have hg : (s : Int) < (kl : Int) := by omega
        have HX : Hid (mostKey (t.ins.take (k + 1)) = kl) := by show _ = _; rw [mostKey_snoc GX.out, ← HSm.out, ← KL.out]; omega
        clear hgt
        go_wp2_with fail
        go_roundw
        case rel => exact ⟨k + 1, kl, by omega, by go_num, HX.out.symm, by omega, rfl, B5.out⟩
        case measure => simp [intOf]; omega
      · have hg : ¬ (s : Int) < (kl : Int) := by omega
        have HX : Hid (mostKey (t.ins.take (k + 1)) = s) := by show _ = _; rw [mostKey_snoc GX.out, ← HSm.out, ← KL.out]; omega
        clear hgt
        go_wp2_with fail
        go_roundw
        case rel => exact ⟨k + 1, s, by omega, by go_num, HX.out.symm, by omega, rfl, B5.out⟩
        case measure => simp [intOf]; omega
    · have hkn : k = ni := by omega
      have hge : ¬ (k : Int) < (ni : Int) := by omega
      have hs2 : s = m := by rw [HSm.out, hkn, NI.out, List.take_length, HM.out]
      clear hkn
      subst hs2
      go_wp2_with fail
      go_ret
      exact ⟨rfl, B0.out.trans (B.out.mono B0.out.size)⟩
end Go.Proofs.YtdamhoagiooicaaGreatDoor.Sha
