/-
  Texts of this proof joined into one file: BlMath, TxNew, TxPieces, TxSize, TxBytesW, BlSm, BlSize, BytesEq, RefSmall. What each holds, and under which conditions, its own first sentence tells.
-/
import Derived.IntWalk
import Derived.Lib.BufferRead
import Derived.Test.YtdamhoagiooicaaGreatDoorMg06
import Derived.Test.YtdamhoagiooicaaGreatDoorMg09
import Derived.Test.YtdamhoagiooicaaGreatDoorMg08
import Derived.Test.YtdamhoagiooicaaGreatDoorMg01
import Derived.Test.YtdamhoagiooicaaGreatDoorMg03
/-
  Plain mathematics of a block's bytes: what was written is read again; cut off it ends too early; longer it is none; what is read has just these bytes. No conditions beyond those that each states.
-/
namespace Go.Proofs.YtdamhoagiooicaaGreatDoor.Sha
open Go Go.RowKit
def txsB (l : List TTx) : List UInt8 := l.flatMap txB
def blkB (x : TBlk) : List UInt8 := hdB x.head ++ putL x.txs.length ++ txsB x.txs
theorem txsB_cons (t : TTx) (l : List TTx) : txsB (t :: l) = txB t ++ txsB l := rfl
theorem txsB_snoc {l : List TTx} {k : Nat} {t : TTx} (h : l[k]? = some t) : txsB (l.take (k + 1)) = txsB (l.take k) ++ txB t := by
  unfold txsB
  rw [List.take_add_one, h, List.flatMap_append]
  simp
theorem txsB_part {l : List TTx} {k : Nat} {t : TTx} (h : l[k]? = some t) : (txsB (l.take k)).length + (txB t).length ≤ (txsB l).length := by
  have e : txsB l = txsB (l.take (k + 1)) ++ txsB (l.drop (k + 1)) := by unfold txsB; rw [← List.flatMap_append, List.take_append_drop]
  rw [e, txsB_snoc h]
  simp only [List.length_append]
  omega
def blkP : Par TBlk := thenP takeHd fun h => thenP (numL 200) fun n => mapP (fun l => ⟨h, l⟩) (manyP takeTx n)
def noBlk : TBlk := ⟨noHd, []⟩
/-- Bytes as a block, or what is amiss. -/
def readBlk (bs : List UInt8) : TBlk × Nat := if (blkP bs 0).2.2 ≠ 0 then (noBlk, (blkP bs 0).2.2) else if (blkP bs 0).2.1 ≠ [] then (noBlk, 2) else ((blkP bs 0).1, 0)
/-- A reader that answers z once an error is met. -/
def noErr {α : Type} (z : α) (p : Par α) : Par α := fun bs c => if (p bs c).2.2 = 0 then p bs c else (z, (p bs c).2)
section
variable {α : Type} {z a : α} {p : Par α} {x : List UInt8}
theorem stay_noErr (h : Stay p) : Stay (noErr z p) := fun bs c hc => by
  have e := h bs c hc
  unfold noErr
  rw [if_neg (by rw [e]; exact hc)]
  exact e
theorem good_noErr (h : Good p a x) : Good (noErr z p) a x := by
  refine ⟨fun y => ?_, fun k hk => ?_⟩
  · unfold noErr
    rw [h.1 y, if_pos rfl]
  · have e := h.2 k hk
    unfold noErr
    rw [if_neg (by rw [e]; omega)]
    exact e
theorem back_noErr {R : α → List UInt8 → Prop} (h : BackR p R) : BackR (noErr z p) R := fun bs a r e => by
  unfold noErr at e
  split at e
  · exact h bs a r e
  · rename_i h
    exact absurd (congrArg (fun p : α × List UInt8 × Nat => p.2.2) e) h
end
theorem takeHd_eq : takeHd = noErr noHd hdP := rfl
theorem takeTx_eq : takeTx = noErr noTx txP := rfl
theorem stay_takeHd : Stay takeHd := takeHd_eq ▸ stay_noErr stay_hd
theorem stay_takeTx : Stay takeTx := takeTx_eq ▸ stay_noErr stay_tx
theorem good_takeHd (h : THd) (hh : HdOk h) : Good takeHd h (hdB h) := takeHd_eq ▸ good_noErr (good_hd h hh)
theorem good_takeTx (t : TTx) (h : TxRead t) : Good takeTx t (txB t) := takeTx_eq ▸ good_noErr (good_tx t h)
theorem back_hd : BackR hdP (fun h x => x = hdB h ∧ HdOk h) := by
  refine BackR.weak ((back_le 4).andThen (fun v => (back_take 32).andThen (fun p => (back_take 32).andThen (fun r => (back_le 4).andThen (fun t => (back_le 4).andThen (fun w => (back_le 4).map _) (fun _ => (stay_le 4).map _)) (fun _ => (stay_le 4).andThen fun _ => (stay_le 4).map _)) (fun _ => (stay_le 4).andThen fun _ => (stay_le 4).andThen fun _ => (stay_le 4).map _)) (fun _ => (stay_take 32).andThen fun _ => (stay_le 4).andThen fun _ => (stay_le 4).andThen fun _ => (stay_le 4).map _)) (fun _ => (stay_take 32).andThen fun _ => (stay_take 32).andThen fun _ => (stay_le 4).andThen fun _ => (stay_le 4).andThen fun _ => (stay_le 4).map _)) ?_
  rintro a x ⟨v, x1, x2, rfl, ⟨rfl, hv⟩, p, x3, x4, rfl, ⟨rfl, hp⟩, r, x5, x6, rfl, ⟨rfl, hr⟩, t, x7, x8, rfl, ⟨rfl, ht⟩, w, x9, x10, rfl, ⟨rfl, hw⟩, n, rfl, rfl, hn⟩
  rw [padH_all hp, padH_all hr]
  exact ⟨by simp only [hdB, List.append_assoc], Nat.le_of_lt_succ hv, hp, hr, Nat.le_of_lt_succ ht, Nat.le_of_lt_succ hw, Nat.le_of_lt_succ hn⟩
theorem back_takeHd : BackR takeHd (fun h x => x = hdB h ∧ HdOk h) := takeHd_eq ▸ back_noErr back_hd
theorem back_takeTx : BackR takeTx (fun t x => x = txB t ∧ TxRead t) := takeTx_eq ▸ back_noErr back_tx
/-- What a block must be to be read again. -/
def BlkRead (x : TBlk) : Prop := HdOk x.head ∧ (∀ t ∈ x.txs, TxRead t) ∧ x.txs.length ≤ 200
theorem stay_blk : Stay blkP := stay_takeHd.andThen fun _ => (stay_num 200).andThen fun n => (stay_many n).map _
theorem good_blk (x : TBlk) (h : BlkRead x) : Good blkP x (blkB x) := by
  obtain ⟨h1, h2, h3⟩ := h
  obtain ⟨a, l⟩ := x
  simp only at h1 h2 h3
  have g := (good_takeHd a h1).andThen (q := fun h => thenP (numL 200) fun n => mapP (fun l => (⟨h, l⟩ : TBlk)) (manyP takeTx n))
    ((good_num 200 l.length h3 (by omega)).andThen (q := fun n => mapP (fun l => (⟨a, l⟩ : TBlk)) (manyP takeTx n))
      ((good_many txB l (fun z hz => good_takeTx z (h2 z hz))).map _) (fun n => (stay_many n).map _))
    (fun _ => (stay_num 200).andThen fun n => (stay_many n).map _)
  simp only [blkB, txsB, List.append_assoc]
  exact g
theorem back_blk : BackR blkP (fun x bs => bs = blkB x ∧ BlkRead x) := by
  refine BackR.weak (back_takeHd.andThen (fun h => (back_num 200).andThen (fun n => (back_many txB _ back_takeTx n).map _) (fun n => (stay_many n).map _)) (fun _ => (stay_num 200).andThen fun n => (stay_many n).map _)) ?_
  rintro a x ⟨v, x1, x2, rfl, ⟨rfl, hv⟩, n, x3, x4, rfl, ⟨rfl, hn⟩, l, rfl, rfl, hl, hll⟩
  subst hll
  exact ⟨by simp only [blkB, txsB, List.append_assoc], hv, hl, hn⟩
/-- What was written is read again. -/
theorem blk_own {x : TBlk} (h : BlkRead x) : readBlk (blkB x) = (x, 0) := by
  have g := (good_blk x h).1 []
  rw [List.append_nil] at g
  unfold readBlk
  rw [g]
  rfl
/-- Cut off, it ends too early. -/
theorem blk_cut {x : TBlk} (h : BlkRead x) {k : Nat} (hk : k < (blkB x).length) : readBlk ((blkB x).take k) = (noBlk, 1) := by
  have g := (good_blk x h).2 k hk
  unfold readBlk
  rw [g, if_pos (by omega)]
/-- Longer, it has another shape. -/
theorem blk_long {x : TBlk} (h : BlkRead x) {y : List UInt8} (hy : y ≠ []) : readBlk (blkB x ++ y) = (noBlk, 2) := by
  unfold readBlk
  rw [(good_blk x h).1 y, if_neg (by simp), if_pos hy]
/-- What is read has just these bytes. -/
theorem blk_back {b : List UInt8} (h : (readBlk b).2 = 0) : b = blkB (readBlk b).1 ∧ BlkRead (readBlk b).1 := by
  obtain ⟨p, hp⟩ : ∃ p, blkP b 0 = p := ⟨_, rfl⟩
  unfold readBlk at h ⊢
  rw [hp] at h ⊢
  obtain ⟨a, r, c⟩ := p
  by_cases h1 : c ≠ 0
  · rw [if_pos (show (a, r, c).2.2 ≠ 0 from h1)] at h
    exact absurd h h1
  · have h1 : c = 0 := by omega
    subst h1
    by_cases h2 : r ≠ []
    · rw [if_neg (show ¬ (a, r, 0).2.2 ≠ 0 from fun h => h rfl), if_pos (show (a, r, 0).2.1 ≠ [] from h2)] at h
      exact absurd h (by simp)
    · have h2 : r = [] := by simpa using h2
      subst h2
      obtain ⟨x, e, e2, hr⟩ := back_blk b a [] hp
      rw [List.append_nil] at e
      exact ⟨e.trans e2, hr⟩
end Go.Proofs.YtdamhoagiooicaaGreatDoor.Sha

/-
  Numbers written by package compact as new memory; rows that are new grow. No conditions beyond those that each states.
-/
namespace Go.Proofs.YtdamhoagiooicaaGreatDoor.Sha
open Go Go.RowKit
/-- New memory that reads as bs is answered. -/
def NewPost (w : World) (bs : List UInt8) (e : Ending) (w' : World) : Prop := ∃ sp n cap, e = .returned (.slice sp n cap) ∧ n = bs.length ∧ CopyB w w' (.slice sp n cap) bs
theorem newB_copy {w w' : World} {k c : Nat} {bs : List UInt8} (h : NewB w w' k c bs) : k = bs.length ∧ CopyB w w' (.slice (some ⟨w.heap.size, 0, none⟩) k c) bs := by
  have hl := own_len h.1
  refine ⟨hl, ?_, h.2⟩
  rw [← hl]
  exact h.1
theorem four_new (bs : List UInt8) (v : Value) (x : Nat) (w : World) (hs : SrcB w v bs) (hn : bs.length ≤ 70368744177664) (hx : x ≤ 4294967295) :
    Calls Tryz.prog 82 #[v, .int .u32 (x : Int)] w (NewPost w (bs ++ leB x 4)) := by
  obtain ⟨sp, cap, rfl⟩ := hs.shape
  refine (four_any bs sp bs.length cap x w hs hn hx).mono ?_
  rintro e w' ⟨rfl, h⟩
  exact ⟨_, _, _, rfl, newB_copy h⟩
theorem eight_new (bs : List UInt8) (v : Value) (x : Nat) (w : World) (hs : SrcB w v bs) (hn : bs.length ≤ 70368744177664) :
    Calls Tryz.prog 114 #[v, .int .u64 (x : Int)] w (NewPost w (bs ++ leB x 8)) := by
  obtain ⟨sp, cap, rfl⟩ := hs.shape
  refine (eight_any bs sp bs.length cap x w hs hn).mono ?_
  rintro e w' ⟨rfl, h⟩
  exact ⟨_, _, _, rfl, newB_copy h⟩
theorem put_new (bs : List UInt8) (v : Value) (x : Nat) (w : World) (hs : SrcB w v bs) (hn : bs.length ≤ 70368744177664) :
    Calls Tryz.prog 41 #[v, .int .u64 (x : Int)] w (NewPost w (bs ++ putL x)) := by
  obtain ⟨sp, cap, rfl⟩ := hs.shape
  refine (put_any bs sp bs.length cap x w hs hn).mono ?_
  rintro e w' ⟨rfl, h⟩
  exact ⟨_, _, _, rfl, newB_copy h⟩
theorem CopyB.src {w w' : World} {v : Value} {bs : List UInt8} (h : CopyB w w' v bs) : SrcB w' v bs := src_own h.1
theorem CopyB.keep {w w1 w2 : World} {v : Value} {bs : List UInt8} (h : CopyB w w1 v bs) (hb : Below w1.heap.size w1 w2) : CopyB w w2 v bs := ⟨own_kept h.1 hb, h.2.trans (hb.mono h.2.size)⟩
theorem CopyB.app {w w1 w2 : World} {v v' : Value} {bs cs : List UInt8} (h : CopyB w w1 v bs) (ho : w2.ownsRow w.heap.size 5 1 v' (bs.length + cs.length) (bs.map bV ++ cs.map bV)) (hg : w1.grownBy w2 v.ownBlock) : CopyB w w2 v' (bs ++ cs) :=
  ⟨by rw [List.length_append, List.map_append]; exact ho, own_grown h.2 (Nat.le_refl _) h.2.size h.1 hg⟩
theorem CopyB.start {w0 w w' : World} {v : Value} {bs : List UInt8} (h : CopyB w w' v bs) (hb : Below w0.heap.size w0 w) : CopyB w0 w' v bs := ⟨own_base h.1 hb.size, hb.trans (h.2.mono hb.size)⟩
theorem nil_src (w : World) : SrcB w (.slice none 0 0) [] := .inl ⟨_, _, rfl, rfl⟩
end Go.Proofs.YtdamhoagiooicaaGreatDoor.Sha

/-
  Package tx writes an input and an output down, in new memory. Nothing that was there turns. Conditions: an input whose key lies in memory; a key of fewer than 2^45 bytes.
-/
namespace Go.Proofs.YtdamhoagiooicaaGreatDoor.Sha
open Go Go.RowKit
set_option maxHeartbeats 1000000 in
set_option maxRecDepth 100000 in
theorem outBytes_any (y : TOut) (hy : OutOk y) (w : World) :
    Calls Tryz.prog 86 #[.agg (outL y).toArray] w fun e w' => ∃ v, e = .returned v ∧ CopyB w w' v (outB y) := by
  have YOK := Lib.hid hy
  obtain ⟨i0, hi, hz0, hz1, hz2⟩ := info_parts info_u8
  have hl : (outL y).length = 33 := outL_length y hy.1
  obtain ⟨cs, hcs⟩ : ∃ cs, cs = outL y := ⟨_, rfl⟩
  have LO : Hid (cs.toArray.size = 33) := by show _ = _; rw [hcs, List.size_toArray]; exact hl
  rw [← hcs]
  have CS := Lib.hid hcs
  clear hcs hl hy
  go_enter Tryz.func86, Tryz.ntmps86
  go_upto_region 1 with fail
  have F := Lib.hid (heap_alloc_new w (.cells cs.toArray 111 (0, 0)))
  have B0 := Lib.hid ((Below.refl w.heap.size w).alloc (Nat.le_refl _) (.cells cs.toArray 111 (0, 0)))
  generalize hw1 : World.alloc _ _ = w1
  have e1 : w.alloc (.cells cs.toArray 111 (0, 0)) = w1 := hw1
  rw [e1] at F B0
  clear hw1 e1
  have CV : Hid (∀ w', Below w1.heap.size w1 w' → w'.cell? ⟨w.heap.size, 0, none⟩ = some (.int .u64 (y.val : Int))) := fun w' hw' => by
    rw [cell_of_row _ _ _ _ _ _ (row_below F.out hw'), CS.out]
    rfl
  have CL : Hid (∀ w', Below w1.heap.size w1 w' → SrcB w' (.slice (some ⟨w.heap.size, 1, none⟩) 32 32) y.lock) := fun w' hw' => by
    have h := row_below F.out hw'
    rw [CS.out] at h
    have := out_lock (range_of_box h)
    exact src_range this YOK.out.1.symm (by omega) (Nat.le_refl _)
  obtain ⟨base, hbase⟩ : ∃ base, base = w1.heap.size := ⟨_, rfl⟩
  refine wp_region_held_drew (S := (fun w' => Below w1.heap.size w1 w')) (by kernel_rfl) (Below.drew (Below.refl _ _)) (fun hHeld => ?_)
  generalize hwd : w1.drew = wd
  rw [hwd] at hHeld
  clear hwd
  refine held_take (i := 0) (v := (.pointer (some ⟨w.heap.size, 0, none⟩))) rfl (by kernel_rfl) (by kernel_rfl) (by kernel_rfl) (fun _ _ _ h => h) (Or.inl ⟨by rfl, fun w' _ => by kernel_rfl⟩) hHeld ?_
  go_frame
  refine held_take (i := 1) (v := (.int .u64 (y.val : Int))) rfl (by kernel_rfl) (by kernel_rfl) (by kernel_rfl) (fun _ _ _ h => h) (yieldsIf_load_one (by rfl) 73 (.tmp 3) rfl w.heap.size (0) rfl _ _ (fun w' hw' => CV.out w' hw') Tryz.underlying73 rfl) hHeld ?_
  go_frame
  refine held_take (i := 3) (v := (.pointer (some ⟨w.heap.size, 1, none⟩))) rfl (by kernel_rfl) (by kernel_rfl) (by kernel_rfl) (fun _ _ _ h => h) (Or.inl ⟨by rfl, fun w' _ => by kernel_rfl⟩) hHeld ?_
  go_frame
  refine held_take (i := 4) (v := (.slice (some ⟨w.heap.size, 1, none⟩) 32 32)) rfl (by kernel_rfl) (by kernel_rfl) (by kernel_rfl) (fun _ _ _ h => h) (Or.inl ⟨by rfl, fun w' _ => by kernel_rfl⟩) hHeld ?_
  go_frame
  refine wpAnyH_ready (rs := [2]) (by kernel_rfl) (by simp) (held_cons rfl (fun K hK => ?_) AllReadyH.nil)
  go_simp
  refine (eight_new [] _ y.val wd (nil_src _) (by simp)).mono ?_
  rintro e w2 ⟨s2, n2, c2, rfl, hn2, hc2⟩
  have C2 := Lib.hid (hc2.start hHeld)
  have HE := Lib.hid (hHeld.trans (hc2.2.mono hHeld.size))
  clear hHeld hc2 hn2
  go_wp2_with fail
  refine hK.out _ _ HE.out (fun hHeld => ?_)
  clear hK K HE
  refine wpAnyH_ready (rs := [5]) (by kernel_rfl) (by simp) (held_cons rfl (fun K hK => ?_) AllReadyH.nil)
  rw [if_pos (by rfl)]
  refine wp_append_g w2 (.tmp 5) (.tmp 7) 30 rfl w1.heap.size 5 i0 Tryz.underlying30 hi hz0 hz1 hz2 _ _ _ rfl C2.out.1 (.slice (some ⟨w.heap.size, 1, none⟩) 32 32) y.lock rfl (CL.out w2 hHeld) (by have := YOK.out.1; simp only [List.length_append, leB_length, List.length_nil]; omega) C2.out.2.size ?_
  intro v3 w3 a1 a2 a3
  have C3 := Lib.hid (C2.out.app a1 a2)
  clear a1 a2 a3 hHeld C2
  go_frame
  refine hK.out _ _ C3.out.2 (fun hHeld => ?_)
  clear hK K
  refine held_take (i := 6) (v := v3) rfl (by kernel_rfl) (by kernel_rfl) (by kernel_rfl) (fun _ _ _ h => h) (Or.inl ⟨by rfl, fun w' _ => by kernel_rfl⟩) hHeld ?_
  go_frame
  refine wpAnyH_done (by kernel_rfl) ?_ _
  clear hHeld
  go_wp2_with fail
  go_ret
  refine ⟨_, rfl, ?_⟩
  have h := C3.out.start B0.out
  rwa [List.nil_append] at h
set_option maxHeartbeats 1000000 in
set_option maxRecDepth 100000 in
theorem inBytes_any (x : TIn) (kx : Value) (hx : InOk x) (w : World) (hk : KeyAt w kx x.key) (hkl : x.key.length ≤ 35184372088832) :
    Calls Tryz.prog 85 #[.agg (inL x kx).toArray] w fun e w' => ∃ v, e = .returned v ∧ CopyB w w' v (inB x) := by
  have XOK := Lib.hid hx
  obtain ⟨i0, hi, hz0, hz1, hz2⟩ := info_parts info_u8
  obtain ⟨sx, cx, rfl⟩ := hk.2
  obtain ⟨kl, hkl2⟩ : ∃ kl, kl = x.key.length := ⟨_, rfl⟩
  have KS := Lib.hid hk.1
  have BKL := Lib.hid hkl
  rw [← hkl2] at KS ⊢
  have KL := Lib.hid hkl2
  have bkl : kl ≤ 35184372088832 := by rw [hkl2]; exact hkl
  obtain ⟨cs, hcs⟩ : ∃ cs, cs = inL x (.slice sx kl cx) := ⟨_, rfl⟩
  rw [← hcs]
  have CS := Lib.hid hcs
  clear hcs hx hk hkl hkl2
  go_enter Tryz.func85, Tryz.ntmps85
  go_upto_region 1 with fail
  have F := Lib.hid (heap_alloc_new w (.cells cs.toArray 70 (0, 0)))
  have B0 := Lib.hid ((Below.refl w.heap.size w).alloc (Nat.le_refl _) (.cells cs.toArray 70 (0, 0)))
  generalize hw1 : World.alloc _ _ = w1
  have e1 : w.alloc (.cells cs.toArray 70 (0, 0)) = w1 := hw1
  rw [e1] at F B0
  clear hw1 e1
  have RB : Hid (∀ w', Below w1.heap.size w1 w' → w'.rangeAt w.heap.size 0 (inL x (.slice sx kl cx))) := fun w' hw' => by
    have h := row_below F.out hw'
    rw [CS.out] at h
    exact range_of_box h
  have C32 : Hid (∀ w', Below w1.heap.size w1 w' → w'.cell? ⟨w.heap.size, 32, none⟩ = some (.int .u32 (x.n : Int))) := fun w' hw' => by simpa using in_num XOK.out.1 (RB.out w' hw')
  have C33 : Hid (∀ w', Below w1.heap.size w1 w' → w'.cell? ⟨w.heap.size, 33, none⟩ = some (.slice sx kl cx)) := fun w' hw' => by simpa using in_key XOK.out.1 (RB.out w' hw')
  have C34 : Hid (∀ w', Below w1.heap.size w1 w' → w'.cell? ⟨w.heap.size, 34, none⟩ = some (.int .u32 (x.seq : Int))) := fun w' hw' => by simpa using in_seq XOK.out.1 (RB.out w' hw')
  have CH : Hid (∀ w', Below w1.heap.size w1 w' → SrcB w' (.slice (some ⟨w.heap.size, 0, none⟩) 32 32) x.h) := fun w' hw' => src_range (in_hash (RB.out w' hw')) XOK.out.1.symm (by omega) (Nat.le_refl _)
  refine wp_region_held_drew (S := (fun w' => Below w1.heap.size w1 w')) (by kernel_rfl) (Below.drew (Below.refl _ _)) (fun hHeld => ?_)
  generalize hwd : w1.drew = wd
  rw [hwd] at hHeld
  clear hwd
  refine held_take (i := 0) (v := (.pointer (some ⟨w.heap.size, 0, none⟩))) rfl (by kernel_rfl) (by kernel_rfl) (by kernel_rfl) (fun _ _ _ h => h) (Or.inl ⟨by rfl, fun w' _ => by kernel_rfl⟩) hHeld ?_
  go_frame
  refine held_take (i := 1) (v := (.pointer (some ⟨w.heap.size, 0, none⟩))) rfl (by kernel_rfl) (by kernel_rfl) (by kernel_rfl) (fun _ _ _ h => h) (Or.inl ⟨by rfl, fun w' _ => by kernel_rfl⟩) hHeld ?_
  go_frame
  refine held_take (i := 2) (v := (.slice (some ⟨w.heap.size, 0, none⟩) 32 32)) rfl (by kernel_rfl) (by kernel_rfl) (by kernel_rfl) (fun _ _ _ h => h) (Or.inl ⟨by rfl, fun w' _ => by kernel_rfl⟩) hHeld ?_
  go_frame
  refine held_take (i := 3) (v := (.pointer (some ⟨w.heap.size, 0, none⟩))) rfl (by kernel_rfl) (by kernel_rfl) (by kernel_rfl) (fun _ _ _ h => h) (Or.inl ⟨by rfl, fun w' _ => by kernel_rfl⟩) hHeld ?_
  go_frame
  refine held_take (i := 4) (v := (.pointer (some ⟨w.heap.size, 32, none⟩))) rfl (by kernel_rfl) (by kernel_rfl) (by kernel_rfl) (fun _ _ _ h => h) (Or.inl ⟨by rfl, fun w' _ => by kernel_rfl⟩) hHeld ?_
  go_frame
  refine held_take (i := 5) (v := (.int .u32 (x.n : Int))) rfl (by kernel_rfl) (by kernel_rfl) (by kernel_rfl) (fun _ _ _ h => h) (yieldsIf_load_one (by rfl) 22 (.tmp 8) rfl w.heap.size (32) rfl _ _ (fun w' hw' => C32.out w' hw') Tryz.underlying22 rfl) hHeld ?_
  go_frame
  refine wpAnyH_ready (rs := [6]) (by kernel_rfl) (by simp) (held_cons rfl (fun K hK => ?_) AllReadyH.nil)
  go_simp
  refine (four_new x.h _ x.n wd (CH.out wd hHeld) (by have := XOK.out.1; omega) XOK.out.2.1).mono ?_
  rintro e w2 ⟨s2, n2, c2, rfl, hn2, hc2⟩
  have C2 := Lib.hid (hc2.start hHeld)
  have HE := Lib.hid (hHeld.trans (hc2.2.mono hHeld.size))
  clear hHeld hc2 hn2
  go_wp2_with fail
  refine hK.out _ _ HE.out (fun hHeld => ?_)
  clear hK K HE
  refine held_take (i := 7) (v := (.slice s2 n2 c2)) rfl (by kernel_rfl) (by kernel_rfl) (by kernel_rfl) (fun _ _ _ h => h) (Or.inl ⟨by rfl, fun w' _ => by kernel_rfl⟩) hHeld ?_
  go_frame
  refine wpAnyH_done (by kernel_rfl) ?_ _
  clear hHeld
  have k33 := C33.out w2 C2.out.2
  have u1 : IntKind.u64.wrap (kl : Int) = (kl : Int) := u64_stays (by omega)
  go_wp2_with fail
  refine (put_new _ _ kl w2 C2.out.src (by have := XOK.out.1; simp only [List.length_append, leB_length]; omega)).mono ?_
  rintro e w3 ⟨s3, n3, c3, rfl, hn3, hc3⟩
  have C3 := Lib.hid (hc3.start C2.out.2)
  clear hc3 hn3 k33 u1
  have k33 := C33.out w3 C3.out.2
  obtain ⟨A3, hA3⟩ : ∃ A3, A3 = x.h ++ leB x.n 4 ++ putL kl := ⟨_, rfl⟩
  rw [← hA3] at C3
  have LA3 : Hid (A3.length ≤ 45) := by show _ ≤ _; rw [hA3]; have := XOK.out.1; have := lenN_bd kl; simp only [List.length_append, leB_length, putL_length]; omega
  have HA3 := Lib.hid hA3
  clear hA3
  go_wp2_with ((with_reducible show wpList _ _ _ _ _ _); refine wpList_append_g w3 rfl (.tmp 17) (.tmp 19) 30 rfl w1.heap.size 5 i0 Tryz.underlying30 hi hz0 hz1 hz2 _ _ _ (by rfl) C3.out.1 (.slice sx kl cx) x.key (by rfl) ((KS.out.below B0.out).below C3.out.2) (by have := LA3.out; have := BKL.out; omega) C3.out.2.size ?_; intro v4 w4 a1 a2 a3; have C4 := Lib.hid (C3.out.app a1 a2); have k34 := C34.out w4 C4.out.2; clear a1 a2 a3; go_frame)
  refine (four_new (A3 ++ x.key) v4 x.seq w4 C4.out.src (by have := LA3.out; have := BKL.out; simp only [List.length_append]; omega) XOK.out.2.2).mono ?_
  rintro e w5 ⟨s5, n5, c5, rfl, hn5, hc5⟩
  have C5 := Lib.hid ((hc5.start C4.out.2).start B0.out)
  clear hc5 hn5
  go_wp2_with fail
  go_ret
  refine ⟨_, rfl, ?_⟩
  have h := C5.out
  rw [HA3.out, KL.out] at h
  exact h
end Go.Proofs.YtdamhoagiooicaaGreatDoor.Sha

/-
  Package tx tells how many bytes a transaction has, and how long its longest key is. Nothing that was there turns. Condition: a transaction of a few inputs and outputs that lies in memory.
-/
namespace Go.Proofs.YtdamhoagiooicaaGreatDoor.Sha
open Go Go.RowKit
def SzInv (n : Nat) (A : Nat) (t : TTx) (w1 : World) (vs vi : Value) (wr : World) : Prop :=
  ∃ k s : Nat, k ≤ n ∧ vi = .int .i64 k ∧ s = A + (insB (t.ins.take k)).length ∧ vs = .int .i64 s ∧ Below w1.heap.size w1 wr
set_option maxHeartbeats 1000000 in
set_option maxRecDepth 100000 in
theorem size_all : SizeC := by
  intro t v w h1 hs
  have h1' := h1
  obtain ⟨ht0, iv, ov, rfl, hti, hto⟩ := h1
  obtain ⟨si, ci, rfl, hci, hti⟩ := hti
  obtain ⟨so, co, rfl, hco, hto⟩ := hto
  have HTI := Lib.hid hti
  have HTO := Lib.hid hto
  obtain ⟨ni, hn1⟩ : ∃ ni, ni = t.ins.length := ⟨_, rfl⟩
  obtain ⟨no, hn2⟩ : ∃ no, no = t.outs.length := ⟨_, rfl⟩
  obtain ⟨vt, hvt⟩ : ∃ vt, vt = t.ver := ⟨_, rfl⟩
  obtain ⟨tt, htt⟩ : ∃ tt, tt = t.time := ⟨_, rfl⟩
  have NI := Lib.hid hn1
  have NO := Lib.hid hn2
  have VT := Lib.hid hvt
  have TT := Lib.hid htt
  have TS := Lib.hid hs
  have bni : ni ≤ 1000 := by rw [hn1]; exact hs.2.1
  have bno : no ≤ 1000 := by rw [hn2]; exact hs.2.2.1
  simp only [txL, ← hn1, ← hn2, ← hvt, ← htt] at h1' ⊢
  have H1 := Lib.hid h1'
  clear hn1 hn2 hci hco hvt htt ht0 hti hto h1' hs
  
  go_enter Tryz.func44, Tryz.ntmps44
  go_upto_region 1 with fail
  have F := Lib.hid (heap_alloc_new w (.cells [nV vt, .slice si ni ci, .slice so no co, nV tt].toArray 66 (0, 0)))
  have B0 := Lib.hid ((Below.refl w.heap.size w).alloc (Nat.le_refl _) (.cells [nV vt, .slice si ni ci, .slice so no co, nV tt].toArray 66 (0, 0)))
  generalize hw1 : World.alloc _ _ = w1
  have e1 : w.alloc (.cells [nV vt, .slice si ni ci, .slice so no co, nV tt].toArray 66 (0, 0)) = w1 := hw1
  rw [e1] at F B0
  clear hw1 e1
  have BOX : Hid (∀ w', Below w1.heap.size w1 w' → ∀ j v, [nV vt, .slice si ni ci, .slice so no co, nV tt][j]? = some v → w'.cell? ⟨w.heap.size, j, none⟩ = some v) := fun w' hw' j v hj => by
    rw [cell_of_row _ _ _ _ _ _ (row_below F.out hw'), List.getElem?_toArray]
    exact hj
  obtain ⟨li, hli⟩ : ∃ li, li = lenN ni := ⟨_, rfl⟩
  obtain ⟨lo, hlo⟩ : ∃ lo, lo = lenN no := ⟨_, rfl⟩
  have bli : li ≤ 9 := by have := lenN_bd ni; omega
  have blo : lo ≤ 9 := by have := lenN_bd no; omega
  have LI := Lib.hid hli
  have LO := Lib.hid hlo
  have CI : Hid (∀ w, Calls Tryz.prog 43 #[.int .u64 (ni : Int)] w fun e w' => e = .returned (.int .i64 (li : Int)) ∧ w' = w) := fun w => by rw [LI.out]; exact same_of (len_c ni w)
  have CO : Hid (∀ w, Calls Tryz.prog 43 #[.int .u64 (no : Int)] w fun e w' => e = .returned (.int .i64 (lo : Int)) ∧ w' = w) := fun w => by rw [LO.out]; exact same_of (len_c no w)
  have c1 : w1.cell? ⟨w.heap.size, 1, none⟩ = some (.slice si ni ci) := BOX.out w1 (Below.refl _ _) 1 _ rfl
  have c2 : w1.cell? ⟨w.heap.size, 2, none⟩ = some (.slice so no co) := BOX.out w1 (Below.refl _ _) 2 _ rfl
  clear hli hlo
  have u1 := @u64_stays (ni : Int) (by omega)
  have u2 := @u64_stays (no : Int) (by omega)
  have u3 := @i64_stays (8 + (li : Int)) (by omega)
  have u4 := @i64_stays (8 + (li : Int) + (lo : Int)) (by omega)
  go_quiet ((first | (go_at_call 43; with_reducible exact Calls.quiet_of_same (CI.out _)) | (go_at_call 43; with_reducible exact Calls.quiet_of_same (CO.out _))))
  clear u1 u2 u3 u4
  go_wp2_with fail
  obtain ⟨A, hA⟩ : ∃ A, A = 8 + li + lo := ⟨_, rfl⟩
  have HA := Lib.hid hA
  have hA2 : (8 : Int) + (li : Int) + (lo : Int) = (A : Int) := by omega
  rw [hA2]
  have bA : A ≤ 26 := by omega
  clear hA hA2 c1 c2 bli blo
  go_loopw [3, 21] (fun vs vi wr => SzInv ni A t w1 vs vi wr) (fun _ i _ => ni - (intOf i).toNat)
  case atStart => exact ⟨0, A, by omega, rfl, by simp [insB], rfl, below_drewN (Below.refl _ _) _⟩
  case round =>
    obtain ⟨k, s, hk, rfl, hs, rfl, B⟩ := hrel
    have B := Lib.hid B
    have HSm := Lib.hid hs
    clear hs
    by_cases hlt : k < ni
    · have hkx : k < t.ins.length := by have := NI.out; omega
      obtain ⟨b1, o1, hs1, he1⟩ := HTI.out (by omega)
      have g1 := he1 k _ (List.getElem?_eq_getElem hkx)
      obtain ⟨x, hx⟩ : ∃ x, x = t.ins[k] := ⟨_, rfl⟩
      rw [← hx] at g1
      have hgx : t.ins[k]? = some x := by rw [hx]; exact List.getElem?_eq_getElem _
      obtain ⟨hx1, kx, hkx2, hr1⟩ := g1
      obtain ⟨sx, cx, hkv⟩ := hkx2.2
      obtain ⟨kl, hkl⟩ : ∃ kl, kl = x.key.length := ⟨_, rfl⟩
      rw [← hkl] at hkv
      subst hkv
      have p0 : 0 ≤ (k : Int) := by omega
      have q0 : (k : Int) < (ni : Int) := by omega
      have bkl : kl ≤ 100000 := by rw [hkl]; exact TS.out.2.2.2 x (List.mem_of_getElem? hgx)
      have R1 := Lib.hid (range_below (range_below hr1 B0.out) B.out)
      have KW := Lib.hid ((hkx2.1.below B0.out).below B.out)
      have GX := Lib.hid hgx
      have KL := Lib.hid hkl
      have XOK := Lib.hid hx1
      have ONE := Lib.hid (in_one x (.slice sx kl cx) rfl)
      have LX : Hid ((inL x (.slice sx kl cx)).length = 35) := inL_length x _ hx1.1
      have LX' : Hid ((inL x (.slice sx kl cx)).toArray.size = 35) := by show _ = _; rw [List.size_toArray]; exact LX.out
      subst hs1
      clear hx hgx he1 hx1 hkx2 hr1 hkl hkx
      obtain ⟨g5, hg5⟩ : ∃ g5, g5 = wr.heap.size := ⟨_, rfl⟩
      obtain ⟨_, f2, f3, f4⟩ := fill_setup (Below.refl wr.heap.size wr) (List.replicate 32 (bV 0) ++ [nV 0, .slice none 0 0, nV 0]).toArray (inL x (.slice sx kl cx)).toArray 70
      go_upto_region 5 with ((with_reducible show wpList _ _ _ _ _ _); first | (refine wpList_load_mid rfl 70 (.tmp 23) rfl b1 (o1 + k * 35) rfl (inL x (.slice sx kl cx)) _ R1.out Tryz.underlying70 rfl (by rw [LX.out]; kernel_rfl) ?_; go_frame) | (refine wpList_store_row rfl 70 (.tmp 5) (.tmp 24) rfl wr.heap.size (inL x (.slice sx kl cx)).toArray rfl rfl 70 _ (heap_alloc_new _ _) (by rw [LX'.out]; kernel_rfl) (by rw [LX'.out]; rfl) ONE.out ?_; go_frame))
      rw [← hg5] at f2 f3 f4 ⊢
      generalize hw5 : World.setRow _ _ _ = w5
      have e5 : World.setRow (wr.alloc (.cells (List.replicate 32 (bV 0) ++ [nV 0, .slice none 0 0, nV 0]).toArray 70)) g5 (inL x (.slice sx kl cx)).toArray = w5 := hw5
      rw [e5] at f2 f4
      rw [hg5] at f4
      have F5 := Lib.hid f2
      have N5 := Lib.hid f4
      have B5 := Lib.hid (B.out.trans (f4.mono B.out.size))
      have G5 := Lib.hid hg5
      have IN5 : Hid (∀ (j : Nat) (u : Value), (inL x (.slice sx kl cx))[j]? = some u → w5.cell? ⟨g5, j, none⟩ = some u) := fun j u hj => by
        rw [cell_of_row _ _ _ _ _ _ F5.out, List.getElem?_toArray]
        exact hj
      have X33 : Hid ((inL x (.slice sx kl cx))[33]? = some (.slice sx kl cx)) := by show _ = _; rw [inL, List.getElem?_append_right (by simp [ptL, XOK.out.1])]; simp [ptL, XOK.out.1]
      clear f2 f3 f4 hg5 hw5 e5

      have c5 : w5.cell? ⟨g5, 33, none⟩ = some (.slice sx kl cx) := IN5.out 33 _ X33.out
      obtain ⟨lk, hlk⟩ : ∃ lk, lk = lenN kl := ⟨_, rfl⟩
      have blk : lk ≤ 9 := by have := lenN_bd kl; omega
      have LK := Lib.hid hlk
      have CK : Hid (∀ w, Calls Tryz.prog 43 #[.int .u64 (kl : Int)] w fun e w' => e = .returned (.int .i64 (lk : Int)) ∧ w' = w) := fun w => by rw [LK.out]; exact same_of (len_c kl w)
      have HI : Hid ((inB x).length = 40 + lk + kl) := by show _ = _; rw [inB_length x XOK.out, LK.out, KL.out]
      have bs : s + 40 + lk + kl ≤ 300000000 := by
        have h1 := ins_part GX.out
        have h2 := TS.out.ins0
        have h3 := HI.out
        have h4 := HSm.out
        omega
      clear hlk
      have u1 := @u64_stays (kl : Int) (by omega)
      have u2 := @i64_stays (40 + (lk : Int)) (by omega)
      have u3 := @i64_stays (40 + (lk : Int) + (kl : Int)) (by omega)
      have u4 := @i64_stays ((s : Int) + (40 + (lk : Int) + (kl : Int))) (by omega)
      go_quiet ((go_at_call 43; with_reducible exact Calls.quiet_of_same (CK.out _)))
      clear u1 u2 u3 u4 c5
      go_wp2_with fail
      go_roundw
      case rel =>
        refine ⟨k + 1, s + (40 + lk + kl), by omega, by go_num, ?_, by go_num, below_drewN B5.out _⟩
        rw [ins_snoc GX.out, List.length_append, HI.out, HSm.out]
        omega
      case measure => simp [intOf]; omega
    · have hkn : k = ni := by omega
      have hge : ¬ (k : Int) < (ni : Int) := by omega
      have c2 : wr.cell? ⟨w.heap.size, 2, none⟩ = some (.slice so no co) := BOX.out wr B.out 2 _ rfl
      have hs2 : s = A + (insB t.ins).length := by rw [HSm.out, hkn, NI.out, List.take_length]
      have hs3 := TS.out.bytes
      rw [← NI.out, ← NO.out, ← LI.out, ← LO.out] at hs3
      have HR : Hid ((txB t).length = s + 40 * no) := by show _ = _; have := HA.out; omega
      have bs : s ≤ 300000000 := by have := TS.out.ins0; omega
      clear hkn hs2 hs3
      go_wp2_with fail
      go_ret
      exact ⟨ret_int (by rw [HR.out]; omega), B0.out.trans (B.out.mono B0.out.size)⟩
end Go.Proofs.YtdamhoagiooicaaGreatDoor.Sha

/-
  Package tx writes a transaction down, in new memory. Nothing that was there turns. Condition: a transaction of a few inputs and outputs that lies in memory.
-/
namespace Go.Proofs.YtdamhoagiooicaaGreatDoor.Sha
open Go Go.RowKit
def BtInv (n : Nat) (A : Nat → List UInt8) (w1 : World) (vb vi : Value) (wr : World) : Prop :=
  ∃ (k : Nat) (vq : Value), vq = vb ∧ k ≤ n ∧ vi = .int .i64 k ∧ CopyB w1 wr vq (A k)
set_option maxHeartbeats 4000000 in
set_option maxRecDepth 100000 in
theorem bytes_all : BytesC := by
  intro t v w h1 hs
  obtain ⟨i0, hi, hz0, hz1, hz2⟩ := info_parts info_u8
  have h1' := h1
  obtain ⟨ht0, iv, ov, rfl, hti, hto⟩ := h1
  obtain ⟨si, ci, rfl, hci, hti⟩ := hti
  obtain ⟨so, co, rfl, hco, hto⟩ := hto
  have HTI := Lib.hid hti
  have HTO := Lib.hid hto
  obtain ⟨ni, hn1⟩ : ∃ ni, ni = t.ins.length := ⟨_, rfl⟩
  obtain ⟨no, hn2⟩ : ∃ no, no = t.outs.length := ⟨_, rfl⟩
  obtain ⟨vt, hvt⟩ : ∃ vt, vt = t.ver := ⟨_, rfl⟩
  obtain ⟨tt, htt⟩ : ∃ tt, tt = t.time := ⟨_, rfl⟩
  have NI := Lib.hid hn1
  have NO := Lib.hid hn2
  have VT := Lib.hid hvt
  have TT := Lib.hid htt
  have TS := Lib.hid hs
  have bni : ni ≤ 1000 := by rw [hn1]; exact hs.2.1
  have bno : no ≤ 1000 := by rw [hn2]; exact hs.2.2.1
  simp only [txL, ← hn1, ← hn2, ← hvt, ← htt] at h1' ⊢
  have H1 := Lib.hid h1'
  clear hn1 hn2 hci hco hvt htt ht0 hti hto h1' hs
  
  go_enter Tryz.func42, Tryz.ntmps42
  go_upto_region 1 with fail
  have F := Lib.hid (heap_alloc_new w (.cells [nV vt, .slice si ni ci, .slice so no co, nV tt].toArray 66 (0, 0)))
  have B0 := Lib.hid ((Below.refl w.heap.size w).alloc (Nat.le_refl _) (.cells [nV vt, .slice si ni ci, .slice so no co, nV tt].toArray 66 (0, 0)))
  generalize hw1 : World.alloc _ _ = w1
  have e1 : w.alloc (.cells [nV vt, .slice si ni ci, .slice so no co, nV tt].toArray 66 (0, 0)) = w1 := hw1
  rw [e1] at F B0
  clear hw1 e1
  have BOX : Hid (∀ w', Below w1.heap.size w1 w' → ∀ j v, [nV vt, .slice si ni ci, .slice so no co, nV tt][j]? = some v → w'.cell? ⟨w.heap.size, j, none⟩ = some v) := fun w' hw' j v hj => by
    rw [cell_of_row _ _ _ _ _ _ (row_below F.out hw'), List.getElem?_toArray]
    exact hj
  obtain ⟨sz, hsz⟩ : ∃ sz, sz = (txB t).length := ⟨_, rfl⟩
  have bsz : sz ≤ 35184372088832 := by rw [hsz]; exact TS.out.len
  have SZ : Hid (∀ w', Below w1.heap.size w1 w' → Calls Tryz.prog 44 #[.agg [nV vt, .slice si ni ci, .slice so no co, nV tt].toArray] w' fun e w'' => e = .returned (.int .i64 (sz : Int)) ∧ Below w'.heap.size w' w'') := fun w' hw' => by
    rw [hsz]
    exact size_all t _ w' ((H1.out.below B0.out).below hw') TS.out
  have LI : Hid ((insB t.ins).length ≤ 200000000) := TS.out.ins0
  have LO : Hid ((outsB t.outs).length ≤ 40000) := by show _ ≤ _; rw [outsB_length t.outs TS.out.1.2.2.1]; have := TS.out.2.2.1; omega
  have VTB : Hid (vt ≤ 4294967295) := by show _ ≤ _; rw [VT.out]; exact TS.out.1.1.1
  have TTB : Hid (tt ≤ 4294967295) := by show _ ≤ _; rw [TT.out]; exact TS.out.1.1.2
  clear hsz
  go_wp2_with ((with_reducible show wpList _ _ _ _ _ _); refine wpList_load_row rfl 66 (.tmp 1) rfl w.heap.size rfl 66 [nV vt, .slice si ni ci, .slice so no co, nV tt].toArray (0, 0) _ F.out Tryz.underlying66 rfl (by kernel_rfl) ?_; go_frame)
  refine (SZ.out w1 (Below.refl _ _)).mono ?_
  rintro e w2 ⟨rfl, hb2⟩
  have B2 := Lib.hid hb2
  clear hb2 SZ
  have c0 : w2.cell? ⟨w.heap.size, 0, none⟩ = some (Value.int .u32 (vt : Int)) := BOX.out w2 B2.out 0 _ rfl
  go_upto_region 2 with (at_make; refine wpList_make_own _ rfl _ _ 30 rfl w2.heap.size 5 i0 (.int .u8 0) 1 Tryz.underlying30 hi hz0 hz1 _ _ _ sz rfl rfl (by omega) (by rw [hz2]; omega) (by unfold maxLen; omega) (Nat.le_refl _) ?_; intro w3 hown hgrow; have C3 : Hid (CopyB w2 w3 (.slice (some ⟨w2.heap.size, 0, none⟩) 0 sz) []) := (⟨hown, below_made hgrow⟩ : CopyB w2 w3 (.slice (some ⟨w2.heap.size, 0, none⟩) 0 sz) []); clear hown hgrow; go_frame)
  have C3 := Lib.hid (C3.out.start B2.out)
  clear c0 bsz
  have c0 : w3.cell? ⟨w.heap.size, 0, none⟩ = some (Value.int .u32 (vt : Int)) := BOX.out w3 C3.out.2 0 _ rfl
  go_wp2_with fail
  refine (four_new [] _ vt w3 (nil_src _) (by simp) VTB.out).mono ?_
  rintro e w4 ⟨s4, n4, c4, rfl, hn4, hc4⟩
  have P4 := Lib.hid hc4
  have C4 := Lib.hid (C3.out.keep hc4.2)
  clear hn4 hc4 c0 C3
  rw [List.nil_append] at P4
  go_upto_region 3 with ((with_reducible show wpList _ _ _ _ _ _); refine wpList_append_g _ rfl (.tmp 11) (.tmp 14) 30 rfl w1.heap.size 5 i0 Tryz.underlying30 hi hz0 hz1 hz2 _ _ _ (by rfl) C4.out.1 (.slice s4 n4 c4) (leB vt 4) (by rfl) P4.out.src (by simp only [leB_length, List.length_nil]; omega) C4.out.2.size ?_; intro v5 w5 a1 a2 a3; have C5 := Lib.hid (C4.out.app a1 a2); clear a1 a2 a3; go_frame)
  obtain ⟨A5, hA5⟩ : ∃ A5, A5 = leB vt 4 := ⟨_, rfl⟩
  rw [List.nil_append, ← hA5] at C5
  have LA5 : Hid (A5.length = 4) := by show _ = _; rw [hA5, leB_length]
  have HA5 := Lib.hid hA5
  clear hA5 P4 C4
  have c1 : w5.cell? ⟨w.heap.size, 1, none⟩ = some (Value.slice si ni ci) := BOX.out w5 C5.out.2 1 _ rfl
  have u1 : IntKind.u64.wrap (ni : Int) = (ni : Int) := u64_stays (by omega)
  go_wp2_with fail
  refine (put_new [] _ ni w5 (nil_src _) (by simp)).mono ?_
  rintro e w6 ⟨s6, n6, c6, rfl, hn6, hc6⟩
  have P6 := Lib.hid hc6
  have C6 := Lib.hid (C5.out.keep hc6.2)
  clear hn6 hc6 c1 u1 C5
  rw [List.nil_append] at P6
  have LP6 : Hid ((putL ni).length ≤ 9) := by show _ ≤ _; rw [putL_length]; have := lenN_bd ni; omega
  go_upto_region 4 with ((with_reducible show wpList _ _ _ _ _ _); refine wpList_append_g _ rfl (.tmp 16) (.tmp 21) 30 rfl w1.heap.size 5 i0 Tryz.underlying30 hi hz0 hz1 hz2 _ _ _ (by rfl) C6.out.1 (.slice s6 n6 c6) (putL ni) (by rfl) P6.out.src (by have := LA5.out; have := LP6.out; omega) C6.out.2.size ?_; intro v7 w7 a1 a2 a3; have C7 := Lib.hid (C6.out.app a1 a2); clear a1 a2 a3; go_frame)
  obtain ⟨A7, hA7⟩ : ∃ A7, A7 = A5 ++ putL ni := ⟨_, rfl⟩
  rw [← hA7] at C7
  have LA7 : Hid (A7.length ≤ 13) := by show _ ≤ _; rw [hA7, List.length_append]; have := LA5.out; have := LP6.out; omega
  have HA7 := Lib.hid hA7
  clear hA7 P6 C6 LP6 LA5
  have c1 : w7.cell? ⟨w.heap.size, 1, none⟩ = some (Value.slice si ni ci) := BOX.out w7 C7.out.2 1 _ rfl
  go_wp2_with fail
  clear c1
  go_loopw [3, 26] (fun vb vi wr => BtInv ni (fun k => A7 ++ insB (t.ins.take k)) w1 vb vi wr) (fun _ i _ => ni - (intOf i).toNat)
  case atStart => exact ⟨0, _, rfl, by omega, rfl, by simpa [insB] using C7.out⟩
  case round =>
    clear C7
    obtain ⟨k, vb, rfl, hk, rfl, HC⟩ := hrel
    have HC : CopyB w1 wr vb (A7 ++ insB (t.ins.take k)) := HC
    have HC := Lib.hid HC
    have B := Lib.hid HC.out.2
    by_cases hlt : k < ni
    · have hkx : k < t.ins.length := by have := NI.out; omega
      obtain ⟨b1, o1, hs1, he1⟩ := HTI.out (by omega)
      have g1 := he1 k _ (List.getElem?_eq_getElem hkx)
      obtain ⟨x, hx⟩ : ∃ x, x = t.ins[k] := ⟨_, rfl⟩
      rw [← hx] at g1
      have hgx : t.ins[k]? = some x := by rw [hx]; exact List.getElem?_eq_getElem _
      obtain ⟨hx1, kx, hkx2, hr1⟩ := g1
      obtain ⟨sx, cx, hkv⟩ := hkx2.2
      obtain ⟨kl, hkl⟩ : ∃ kl, kl = x.key.length := ⟨_, rfl⟩
      rw [← hkl] at hkv
      subst hkv
      have p0 : 0 ≤ (k : Int) := by omega
      have q0 : (k : Int) < (ni : Int) := by omega
      have bkl : kl ≤ 100000 := by rw [hkl]; exact TS.out.2.2.2 x (List.mem_of_getElem? hgx)
      have R1 := Lib.hid (range_below (range_below hr1 B0.out) B.out)
      have KW := Lib.hid ((hkx2.1.below B0.out).below B.out)
      have GX := Lib.hid hgx
      have KL := Lib.hid hkl
      have XOK := Lib.hid hx1
      have ONE := Lib.hid (in_one x (.slice sx kl cx) rfl)
      have LX : Hid ((inL x (.slice sx kl cx)).length = 35) := inL_length x _ hx1.1
      have LX' : Hid ((inL x (.slice sx kl cx)).toArray.size = 35) := by show _ = _; rw [List.size_toArray]; exact LX.out
      subst hs1
      clear hx hgx he1 hx1 hkx2 hr1 hkl hkx
      obtain ⟨g5, hg5⟩ : ∃ g5, g5 = wr.heap.size := ⟨_, rfl⟩
      obtain ⟨_, f2, f3, f4⟩ := fill_setup (Below.refl wr.heap.size wr) (List.replicate 32 (bV 0) ++ [nV 0, .slice none 0 0, nV 0]).toArray (inL x (.slice sx kl cx)).toArray 70
      go_upto_region 7 with ((with_reducible show wpList _ _ _ _ _ _); first | (refine wpList_load_mid rfl 70 (.tmp 28) rfl b1 (o1 + k * 35) rfl (inL x (.slice sx kl cx)) _ R1.out Tryz.underlying70 rfl (by rw [LX.out]; kernel_rfl) ?_; go_frame) | (refine wpList_store_row rfl 70 (.tmp 5) (.tmp 29) rfl wr.heap.size (inL x (.slice sx kl cx)).toArray rfl rfl 70 _ (heap_alloc_new _ _) (by rw [LX'.out]; kernel_rfl) (by rw [LX'.out]; rfl) ONE.out ?_; go_frame))
      rw [← hg5] at f2 f3 f4 ⊢
      generalize hw5 : World.setRow _ _ _ = w5
      have e5 : World.setRow (wr.alloc (.cells (List.replicate 32 (bV 0) ++ [nV 0, .slice none 0 0, nV 0]).toArray 70)) g5 (inL x (.slice sx kl cx)).toArray = w5 := hw5
      rw [e5] at f2 f4
      rw [hg5] at f4
      have F5 := Lib.hid f2
      have N5 := Lib.hid f4
      have B5 := Lib.hid (B.out.trans (f4.mono B.out.size))
      have G5 := Lib.hid hg5
      have IN5 : Hid (∀ (j : Nat) (u : Value), (inL x (.slice sx kl cx))[j]? = some u → w5.cell? ⟨g5, j, none⟩ = some u) := fun j u hj => by
        rw [cell_of_row _ _ _ _ _ _ F5.out, List.getElem?_toArray]
        exact hj
      have X33 : Hid ((inL x (.slice sx kl cx))[33]? = some (.slice sx kl cx)) := by show _ = _; rw [inL, List.getElem?_append_right (by simp [ptL, XOK.out.1])]; simp [ptL, XOK.out.1]
      clear f2 f3 f4 hg5 hw5 e5
      have HC5 := Lib.hid (HC.out.keep N5.out)
      have LB : Hid ((A7 ++ insB (t.ins.take k)).length ≤ 200000013 ∧ (inB x).length ≤ 200000000) := by
        show _ ∧ _
        have h1 := ins_part GX.out
        have h2 := LI.out
        have h3 := LA7.out
        rw [List.length_append]
        omega
      have KA : Hid (KeyAt w5 (.slice sx kl cx) x.key) := ⟨KW.out.below N5.out, sx, cx, by rw [KL.out]⟩
      obtain ⟨bs, hbs⟩ : ∃ bs, bs = A7 ++ insB (t.ins.take k) := ⟨_, rfl⟩
      rw [← hbs] at HC5 LB
      have HBS := Lib.hid hbs
      clear hbs
      go_wp2_with ((with_reducible show wpList _ _ _ _ _ _); refine wpList_load_row rfl 70 (.tmp 5) rfl g5 rfl 70 (inL x (.slice sx kl cx)).toArray (0, 0) _ F5.out Tryz.underlying70 rfl (by rw [LX'.out]; kernel_rfl) ?_; go_frame)
      refine (inBytes_any x (.slice sx kl cx) XOK.out w5 KA.out (by rw [← KL.out]; omega)).mono ?_
      rintro e w6 ⟨v6, rfl, hc6⟩
      have P6 := Lib.hid hc6
      have C6 := Lib.hid (HC5.out.keep hc6.2)
      clear hc6
      go_wp2_with ((with_reducible show wpList _ _ _ _ _ _); refine wpList_append_g _ rfl (.tmp 30) (.tmp 32) 30 rfl w1.heap.size 5 i0 Tryz.underlying30 hi hz0 hz1 hz2 _ _ _ (by rfl) C6.out.1 v6 (inB x) (by rfl) P6.out.src (by have := LB.out; omega) C6.out.2.size ?_; intro v7 w7 a1 a2 a3; have C7 := Lib.hid (C6.out.app a1 a2); clear a1 a2 a3; go_frame)
      go_roundw
      case rel =>
        refine ⟨k + 1, v7, rfl, by omega, by go_num, ?_⟩
        have h := C7.out
        rw [HBS.out] at h
        show CopyB w1 w7 v7 (A7 ++ insB (t.ins.take (k + 1)))
        rw [ins_snoc GX.out]
        simpa only [List.append_assoc] using h
      case measure => simp [intOf]; omega
    · have hkn : k = ni := by omega
      have hge : ¬ (k : Int) < (ni : Int) := by omega
      have HC2 : CopyB w1 wr vb (A7 ++ insB t.ins) := by
        have h := HC.out
        rw [hkn, NI.out, List.take_length] at h
        exact h
      have C7 := Lib.hid HC2
      obtain ⟨A8, hA8⟩ : ∃ A8, A8 = A7 ++ insB t.ins := ⟨_, rfl⟩
      rw [← hA8] at C7
      have LA8 : Hid (A8.length ≤ 200000013) := by show _ ≤ _; rw [hA8, List.length_append]; have := LI.out; have := LA7.out; omega
      have HA8 := Lib.hid hA8
      clear hA8 HC HC2 hkn B LA7 LI
      have c2 : wr.cell? ⟨w.heap.size, 2, none⟩ = some (Value.slice so no co) := BOX.out wr C7.out.2 2 _ rfl
      have u1 : IntKind.u64.wrap (no : Int) = (no : Int) := u64_stays (by omega)
      go_wp2_with fail
      refine (put_new [] _ no wr (nil_src _) (by simp)).mono ?_
      rintro e w8 ⟨s8, n8, c8, rfl, hn8, hc8⟩
      have P8 := Lib.hid hc8
      have C8 := Lib.hid (C7.out.keep hc8.2)
      clear hn8 hc8 c2 u1 C7
      rw [List.nil_append] at P8
      have LP8 : Hid ((putL no).length ≤ 9) := by show _ ≤ _; rw [putL_length]; have := lenN_bd no; omega
      go_upto_region 10 with ((with_reducible show wpList _ _ _ _ _ _); refine wpList_append_g _ rfl (.tmp 35) (.tmp 40) 30 rfl w1.heap.size 5 i0 Tryz.underlying30 hi hz0 hz1 hz2 _ _ _ (by rfl) C8.out.1 (.slice s8 n8 c8) (putL no) (by rfl) P8.out.src (by have := LA8.out; have := LP8.out; omega) C8.out.2.size ?_; intro v9 w9 a1 a2 a3; have C9 := Lib.hid (C8.out.app a1 a2); clear a1 a2 a3; go_frame)
      obtain ⟨A9, hA9⟩ : ∃ A9, A9 = A8 ++ putL no := ⟨_, rfl⟩
      rw [← hA9] at C9
      have LA9 : Hid (A9.length ≤ 200000022) := by show _ ≤ _; rw [hA9, List.length_append]; have := LA8.out; have := LP8.out; omega
      have HA9 := Lib.hid hA9
      clear hA9 P8 C8 LP8 LA8
      have c2 : w9.cell? ⟨w.heap.size, 2, none⟩ = some (Value.slice so no co) := BOX.out w9 C9.out.2 2 _ rfl
      go_wp2_with fail
      clear c2 hlt hge hk
      go_loopw [3, 45] (fun vb vi wr => BtInv no (fun k => A9 ++ outsB (t.outs.take k)) w1 vb vi wr) (fun _ i _ => no - (intOf i).toNat)
      case atStart => exact ⟨0, _, rfl, by omega, rfl, by simpa [outsB] using C9.out⟩
      case round =>
        clear C9
        obtain ⟨k, vb, rfl, hk, rfl, HC⟩ := hrel
        have HC : CopyB w1 wr vb (A9 ++ outsB (t.outs.take k)) := HC
        have HC := Lib.hid HC
        have B := Lib.hid HC.out.2
        by_cases hlt : k < no
        · have hkx : k < t.outs.length := by have := NO.out; omega
          obtain ⟨b2, o2, hs2, he2⟩ := HTO.out (by omega)
          have g2 := he2 k _ (List.getElem?_eq_getElem hkx)
          obtain ⟨y, hy⟩ : ∃ y, y = t.outs[k] := ⟨_, rfl⟩
          rw [← hy] at g2
          have hgy : t.outs[k]? = some y := by rw [hy]; exact List.getElem?_eq_getElem _
          obtain ⟨hy1, hr2⟩ := g2
          have p0 : 0 ≤ (k : Int) := by omega
          have q0 : (k : Int) < (no : Int) := by omega
          have R2 := Lib.hid (range_below (range_below hr2 B0.out) B.out)
          have GY := Lib.hid hgy
          have YOK := Lib.hid hy1
          have ONE := Lib.hid (out_one y)
          have LY : Hid ((outL y).length = 33) := outL_length y hy1.1
          have LY' : Hid ((outL y).toArray.size = 33) := by show _ = _; rw [List.size_toArray]; exact LY.out
          subst hs2
          clear hy hgy he2 hy1 hr2 hkx
          obtain ⟨g5, hg5⟩ : ∃ g5, g5 = wr.heap.size := ⟨_, rfl⟩
          obtain ⟨_, f2, f3, f4⟩ := fill_setup (Below.refl wr.heap.size wr) (uV 0 :: List.replicate 32 (bV 0)).toArray (outL y).toArray 111
          go_upto_region 13 with ((with_reducible show wpList _ _ _ _ _ _); first | (refine wpList_load_mid rfl 111 (.tmp 47) rfl b2 (o2 + k * 33) rfl (outL y) _ R2.out Tryz.underlying111 rfl (by rw [LY.out]; kernel_rfl) ?_; go_frame) | (refine wpList_store_row rfl 111 (.tmp 7) (.tmp 48) rfl wr.heap.size (outL y).toArray rfl rfl 111 _ (heap_alloc_new _ _) (by rw [LY'.out]; kernel_rfl) (by rw [LY'.out]; rfl) ONE.out ?_; go_frame))
          rw [← hg5] at f2 f3 f4 ⊢
          generalize hw5 : World.setRow _ _ _ = w5
          have e5 : World.setRow (wr.alloc (.cells (uV 0 :: List.replicate 32 (bV 0)).toArray 111)) g5 (outL y).toArray = w5 := hw5
          rw [e5] at f2 f4
          rw [hg5] at f4
          have F5 := Lib.hid f2
          have N5 := Lib.hid f4
          have B5 := Lib.hid (B.out.trans (f4.mono B.out.size))
          have G5 := Lib.hid hg5
          clear f2 f3 f4 hg5 hw5 e5
          have HC5 := Lib.hid (HC.out.keep N5.out)
          have LB : Hid ((A9 ++ outsB (t.outs.take k)).length ≤ 200040022 ∧ (outB y).length ≤ 40000) := by
            show _ ∧ _
            have h1 := outs_part GY.out
            have h2 := LO.out
            have h3 := LA9.out
            rw [List.length_append]
            omega
          obtain ⟨bs, hbs⟩ : ∃ bs, bs = A9 ++ outsB (t.outs.take k) := ⟨_, rfl⟩
          rw [← hbs] at HC5 LB
          have HBS := Lib.hid hbs
          clear hbs
          go_wp2_with ((with_reducible show wpList _ _ _ _ _ _); refine wpList_load_row rfl 111 (.tmp 7) rfl g5 rfl 111 (outL y).toArray (0, 0) _ F5.out Tryz.underlying111 rfl (by rw [LY'.out]; kernel_rfl) ?_; go_frame)
          refine (outBytes_any y YOK.out w5).mono ?_
          rintro e w6 ⟨v6, rfl, hc6⟩
          have P6 := Lib.hid hc6
          have C6 := Lib.hid (HC5.out.keep hc6.2)
          clear hc6
          go_wp2_with ((with_reducible show wpList _ _ _ _ _ _); refine wpList_append_g _ rfl (.tmp 49) (.tmp 51) 30 rfl w1.heap.size 5 i0 Tryz.underlying30 hi hz0 hz1 hz2 _ _ _ (by rfl) C6.out.1 v6 (outB y) (by rfl) P6.out.src (by have := LB.out; omega) C6.out.2.size ?_; intro v7 w7 a1 a2 a3; have C7 := Lib.hid (C6.out.app a1 a2); clear a1 a2 a3; go_frame)
          go_roundw
          case rel =>
            refine ⟨k + 1, v7, rfl, by omega, by go_num, ?_⟩
            have h := C7.out
            rw [HBS.out] at h
            show CopyB w1 w7 v7 (A9 ++ outsB (t.outs.take (k + 1)))
            rw [outs_snoc GY.out]
            simpa only [List.append_assoc] using h
          case measure => simp [intOf]; omega
        · have hkn : k = no := by omega
          have hge : ¬ (k : Int) < (no : Int) := by omega
          have HC2 : CopyB w1 wr vb (A9 ++ outsB t.outs) := by
            have h := HC.out
            rw [hkn, NO.out, List.take_length] at h
            exact h
          have C9 := Lib.hid HC2
          obtain ⟨A10, hA10⟩ : ∃ A10, A10 = A9 ++ outsB t.outs := ⟨_, rfl⟩
          rw [← hA10] at C9
          have LA10 : Hid (A10.length ≤ 200040022) := by show _ ≤ _; rw [hA10, List.length_append]; have := LO.out; have := LA9.out; omega
          have HA10 := Lib.hid hA10
          clear hA10 HC HC2 hkn B
          have c3 : wr.cell? ⟨w.heap.size, 3, none⟩ = some (Value.int .u32 (tt : Int)) := BOX.out wr C9.out.2 3 _ rfl
          go_wp2_with fail
          refine (four_new [] _ tt wr (nil_src _) (by simp) TTB.out).mono ?_
          rintro e w10 ⟨s10, n10, c10, rfl, hn10, hc10⟩
          have P10 := Lib.hid hc10
          have C10 := Lib.hid (C9.out.keep hc10.2)
          clear hn10 hc10 c3 C9
          rw [List.nil_append] at P10
          go_wp2_with ((with_reducible show wpList _ _ _ _ _ _); refine wpList_append_g _ rfl (.tmp 54) (.tmp 57) 30 rfl w1.heap.size 5 i0 Tryz.underlying30 hi hz0 hz1 hz2 _ _ _ (by rfl) C10.out.1 (.slice s10 n10 c10) (leB tt 4) (by rfl) P10.out.src (by have := LA10.out; simp only [leB_length]; omega) C10.out.2.size ?_; intro v11 w11 a1 a2 a3; have C11 := Lib.hid (C10.out.app a1 a2); clear a1 a2 a3; go_frame)
          go_ret
          have e : A10 ++ leB tt 4 = txB t := by rw [HA10.out, HA9.out, HA8.out, HA7.out, HA5.out, txB, VT.out, TT.out, NI.out, NO.out]
          have h := C11.out
          rw [e] at h
          have h2 := h.start B0.out
          exact ⟨_, rfl, h2.1, h2.2⟩
end Go.Proofs.YtdamhoagiooicaaGreatDoor.Sha

/-
  What of a block is small enough for the walks. No conditions.
-/
namespace Go.Proofs.YtdamhoagiooicaaGreatDoor.Sha
open Go Go.RowKit
/-- A block of a few transactions, each of a few inputs and outputs. -/
def BlkSmall (x : TBlk) : Prop := (∀ t ∈ x.txs, TxSmall t) ∧ x.txs.length ≤ 1000
theorem txB_le {t : TTx} (h : TxSmall t) : (txB t).length ≤ 200100000 := by
  have h1 := h.bytes
  have h2 := h.ins0
  have h3 := h.2.2.1
  have h4 := lenN_bd t.ins.length
  have h5 := lenN_bd t.outs.length
  omega
theorem txsB_le : ∀ (l : List TTx), (∀ t ∈ l, TxSmall t) → (txsB l).length ≤ 200100000 * l.length
  | [], _ => by simp [txsB]
  | t :: l, h => by
    have ih := txsB_le l (fun u hu => h u (List.mem_cons_of_mem _ hu))
    have h1 := txB_le (h t List.mem_cons_self)
    rw [txsB_cons, List.length_append, List.length_cons]
    omega
theorem BlkSmall.txs {x : TBlk} (h : BlkSmall x) : (txsB x.txs).length ≤ 200100000000 := by
  have h1 := txsB_le x.txs h.1
  have h2 := h.2
  omega
theorem blkB_len {x : TBlk} (hh : HdOk x.head) : (blkB x).length = 80 + lenN x.txs.length + (txsB x.txs).length := by
  simp only [blkB, List.length_append, hdB_length hh, putL_length]
theorem BlkSmall.len {x : TBlk} (h : BlkSmall x) (hh : HdOk x.head) : (blkB x).length ≤ 200200000000 := by
  have h1 := h.txs
  have h2 := lenN_bd x.txs.length
  rw [blkB_len hh]
  omega
end Go.Proofs.YtdamhoagiooicaaGreatDoor.Sha

/-
  Package block tells how many bytes a block has. Nothing that was there turns. Condition: a block of a few transactions that lies in memory.
-/
namespace Go.Proofs.YtdamhoagiooicaaGreatDoor.Sha
open Go Go.RowKit
def BsInv (n A : Nat) (l : List TTx) (w1 : World) (vs vi : Value) (wr : World) : Prop :=
  ∃ k s : Nat, k ≤ n ∧ vi = .int .i64 k ∧ s = A + (txsB (l.take k)).length ∧ vs = .int .i64 s ∧ Below w1.heap.size w1 wr
set_option maxHeartbeats 1000000 in
set_option maxRecDepth 100000 in
theorem blsize_any (x : TBlk) (v : Value) (w : World) (h1 : BlkAt w v x) (hs : BlkSmall x) :
    Calls Tryz.prog 12 #[v] w fun e w' => e = .returned (.int .i64 ((blkB x).length : Int)) ∧ Below w.heap.size w w' := by
  have TL := Lib.hid hs.txs
  have BL := Lib.hid (blkB_len h1.1)
  obtain ⟨hh, tv, rfl, ht⟩ := h1
  obtain ⟨sp, cap, rfl⟩ := ht.shape
  obtain ⟨n, hn⟩ : ∃ n, n = x.txs.length := ⟨_, rfl⟩
  rw [← hn] at ht ⊢
  have hcap : n ≤ cap := ht.len.2
  obtain ⟨cs, hcs⟩ : ∃ cs, cs = blL x.head (.slice sp n cap) := ⟨_, rfl⟩
  rw [← hcs]
  have CS := Lib.hid hcs
  have LCS : Hid (cs.length = 69) := by show _ = _; rw [hcs]; exact blL_length hh _
  have LCS' : Hid (cs.toArray.size = 69) := by show _ = _; rw [hcs]; exact blL_size hh _
  have BV : Hid (∀ W, Below w.heap.size w W → BlkAt W (.agg cs.toArray) x) := fun W hW => by rw [hcs]; exact ⟨hh, _, rfl, ht.below hW⟩
  have HH := Lib.hid hh
  have HT := Lib.hid ht
  have NN := Lib.hid hn
  have TS := Lib.hid hs
  have bn : n ≤ 1000 := by rw [hn]; exact hs.2
  clear hs
  clear hcs hh ht hn
  go_enter Tryz.func12, Tryz.ntmps12
  go_upto_region 1 with fail
  have f0 := heap_alloc_new w (.cells cs.toArray 29 (0, 0))
  have b0 := (Below.refl w.heap.size w).alloc (Nat.le_refl _) (.cells cs.toArray 29 (0, 0))
  generalize hw1 : World.alloc _ _ = w1
  have e1 : w.alloc (.cells cs.toArray 29 (0, 0)) = w1 := hw1
  rw [e1] at f0 b0
  have k0 := f0
  rw [CS.out] at k0
  have K : Hid (BlBox w1 w.heap.size x.head (.slice sp n cap)) := ⟨k0⟩
  have F0 := Lib.hid f0
  have B0 := Lib.hid b0
  clear hw1 e1 f0 b0 k0
  have c68 : w1.cell? ⟨w.heap.size, 68, none⟩ = some (.slice sp n cap) := K.out.txs HH.out
  have u1 := @u64_stays (n : Int) (by omega)
  obtain ⟨A, hA⟩ : ∃ A, A = 80 + lenN n := ⟨_, rfl⟩
  have bA : A ≤ 89 := by have := lenN_bd n; omega
  have u2 : IntKind.i64.wrap (80 + ((lenN n : Nat) : Int)) = (A : Int) := by rw [i64_stays (by have := lenN_bd n; omega)]; omega
  have HA := Lib.hid hA
  clear hA
  go_wp2_with (go_at_call 43; refine (len_c n _).mono ?_; rintro e w' ⟨rfl, rfl⟩)
  clear u1 u2
  go_loopw [3, 15] (fun vs vi wr => BsInv n A x.txs w1 vs vi wr) (fun _ i _ => n - (intOf i).toNat)
  case atStart => exact ⟨0, A, by omega, rfl, by simp [txsB], rfl, Below.refl _ _⟩
  case round =>
    obtain ⟨k, s, hk, rfl, hs, rfl, B⟩ := hrel
    have B := Lib.hid B
    have HSm := Lib.hid hs
    clear hs c68
    by_cases hlt : k < n
    · skip
      obtain ⟨b, o, hs1, _, hg⟩ := HT.out.get (by omega)
      obtain ⟨t, hgt⟩ : ∃ t, x.txs[k]? = some t := ⟨_, List.getElem?_eq_getElem (by have := NN.out; omega)⟩
      obtain ⟨iv, ov, hr, hta⟩ := hg k t hgt
      have LC : Hid ((txL t iv ov).length = 4) := rfl
      have LC' : Hid ((txL t iv ov).toArray.size = 4) := rfl
      have ONE : Hid ((txL t iv ov).toArray.all (·.oneCell') = true) := by
        obtain ⟨_, iv', ov', e, h1, h2⟩ := hta
        have e : txL t iv ov = txL t iv' ov' := by simpa using e
        rw [e]
        exact tx_one h1 h2
      obtain ⟨ct, hct⟩ : ∃ ct, ct = txL t iv ov := ⟨_, rfl⟩
      rw [← hct] at hr hta LC LC' ONE
      have R := Lib.hid (range_below (range_below hr B0.out) B.out)
      have TA : Hid (∀ W, Below wr.heap.size wr W → TxAt W (.agg ct.toArray) t) := fun W hW => ((hta.below B0.out).below B.out).below hW
      have GT := Lib.hid hgt
      have p0 : 0 ≤ (k : Int) := by omega
      have q0 : (k : Int) < (n : Int) := by omega
      subst hs1
      clear hg hgt hr hta hct
      obtain ⟨g5, hg5⟩ : ∃ g5, g5 = wr.heap.size := ⟨_, rfl⟩
      obtain ⟨_, f2, f3, f4⟩ := fill_setup (Below.refl wr.heap.size wr) [nV 0, .slice none 0 0, .slice none 0 0, nV 0].toArray ct.toArray 66
      go_upto_region 5 with ((with_reducible show wpList _ _ _ _ _ _); first | (refine wpList_load_mid rfl 66 (.tmp 17) rfl b (o + k * 4) rfl ct _ R.out Tryz.underlying66 rfl (by rw [LC.out]; kernel_rfl) ?_; go_frame) | (refine wpList_store_row rfl 66 (.tmp 5) (.tmp 18) rfl wr.heap.size ct.toArray rfl rfl 66 _ (heap_alloc_new _ _) (by rw [LC'.out]; kernel_rfl) (by rw [LC'.out]; rfl) ONE.out ?_; go_frame))
      rw [← hg5] at f2 f3 f4 ⊢
      generalize hw5 : World.setRow _ _ _ = w5
      have e5 : World.setRow (wr.alloc (.cells [nV 0, .slice none 0 0, .slice none 0 0, nV 0].toArray 66)) g5 ct.toArray = w5 := hw5
      rw [e5] at f2 f4
      rw [hg5] at f4
      have F5 := Lib.hid f2
      have N5 := Lib.hid f4
      have B5 := Lib.hid (B.out.trans (f4.mono B.out.size))
      have G5 := Lib.hid hg5
      clear f2 f3 f4 hg5 hw5 e5
      obtain ⟨m, hm⟩ : ∃ m, m = (txB t).length := ⟨_, rfl⟩
      have bs : s + m ≤ 300000000000 := by
        have h1 := txsB_part GT.out
        have h2 := TL.out
        have h4 := HSm.out
        omega
      have SZ : Hid (Calls Tryz.prog 44 #[.agg ct.toArray] w5 fun e w'' => e = .returned (.int .i64 (m : Int)) ∧ Below w5.heap.size w5 w'') := by
        rw [hm]
        exact size_all t _ w5 (TA.out _ N5.out) (TS.out.1 t (List.mem_of_getElem? GT.out))
      have HM := Lib.hid hm
      clear hm
      go_wp2_with (first | ((with_reducible show wpList _ _ _ _ _ _); (refine wpList_load_row rfl 66 (.tmp 5) rfl g5 rfl 66 ct.toArray (0, 0) _ F5.out Tryz.underlying66 rfl (by rw [LC'.out]; kernel_rfl) ?_; go_frame)) | (go_at_call 44; refine SZ.out.mono ?_; rintro e w6 ⟨rfl, hb6⟩; have B6 := Lib.hid (B5.out.trans (hb6.mono B5.out.size)); clear hb6))
      go_roundw
      case rel =>
        refine ⟨k + 1, s + m, by omega, by go_num, ?_, by go_num, B6.out⟩
        rw [txsB_snoc GT.out, List.length_append, ← HM.out, HSm.out]
        omega
      case measure => simp [intOf]; omega
    · have hkn : k = n := by omega
      have hge : ¬ (k : Int) < (n : Int) := by omega
      have hs2 : s = (blkB x).length := by
        have h1 := HSm.out
        have h2 := NN.out
        rw [hkn, h2, List.take_length] at h1
        rw [h1, BL.out, HA.out, ← h2]
      have HS2 := Lib.hid hs2
      clear hs2 hkn
      go_wp2_with fail
      go_ret
      exact ⟨ret_int (by rw [HS2.out]), B0.out.trans (B.out.mono B0.out.size)⟩
end Go.Proofs.YtdamhoagiooicaaGreatDoor.Sha

/-
  bytes.Equal answers whether two slices have the same bytes; nothing is written. Condition: the bytes lie where the slices say.
-/
namespace Go.Proofs.YtdamhoagiooicaaGreatDoor.Sha
open Go Go.RowKit
theorem conv_src {w : World} {v : Value} {bs : List UInt8} (h : SrcB w v bs) : (convert 30 9 v).run Tryz.prog w = .ok (.string ⟨bs.toArray⟩) w := by
  rcases h with ⟨sp, cap, rfl, rfl⟩ | ⟨h0, bb, off, cap, rfl, hc, hs⟩
  · cases sp with
    | none => exact Lib.run_convert_nil_bytes w _ _ _ cap Tryz.underlying30 Tryz.underlying5 Tryz.underlying9
    | some a => exact run_convert_bytes_back w _ _ _ a cap [] Tryz.underlying30 Tryz.underlying5 Tryz.underlying9 (fun j hj => absurd hj (by simp))
  · exact run_convert_bytes_back w _ _ _ ⟨bb, off, none⟩ cap bs Tryz.underlying30 Tryz.underlying5 Tryz.underlying9 (fun j hj => by
      rw [Addr.add_mid, hs j hj]
      simp [bv, List.getD, List.getElem?_eq_getElem hj])
theorem bytes_beq_of (x y : List UInt8) : ((⟨x.toArray⟩ : ByteArray).toList == (⟨y.toArray⟩ : ByteArray).toList) = decide (x = y) := by
  rw [ByteArray.toList_eq, ByteArray.toList_eq]
  show (x == y) = decide (x = y)
  by_cases h : x = y <;> simp [h]
end Go.Proofs.YtdamhoagiooicaaGreatDoor.Sha

/-
  Small functions of the statements' own SHA-256: a word turned right, the table of the rounds' words, as the chapter gives them. No conditions.
-/
namespace Go.Proofs.YtdamhoagiooicaaGreatDoor.Sha
open Go Go.RowKit
theorem right_fact (x : UInt32) (n : Nat) (h1 : 1 ≤ n) (h2 : n ≤ 31) : bits .or .u32 (wv x / 2 ^ n) (wv x * 2 ^ (32 - n) % 4294967296) = wv (rotr x n) := by
  rw [← IntKind.wrap_u32', wv_shl x _ (by omega), wv_shr x n (by omega), wv_or]
  rfl
set_option maxRecDepth 100000 in
theorem right_any (x : UInt32) (n : Nat) (k : Int) (hk : k = (n : Int)) (h1 : 1 ≤ n) (h2 : n ≤ 31) (w : World) :
    Calls Tryz.prog 116 #[.int .u32 (wv x), .int .u64 k] w fun e w' => e = .returned (.int .u32 (wv (rotr x n))) ∧ w = w' := by
  subst hk
  go_enter Tryz.func116, Tryz.ntmps116
  go_wp2
  go_ret
  exact ⟨ret_int (right_fact x n h1 h2), rfl⟩
theorem right_z (x : UInt32) (k : Int) (h1 : 1 ≤ k) (h2 : k ≤ 31) (w : World) :
    Calls Tryz.prog 116 #[.int .u32 (wv x), .int .u64 k] w fun e w' => e = .returned (.int .u32 (wv (rotr x k.toNat))) ∧ w = w' :=
  right_any x k.toNat k (by omega) (by omega) (by omega) w
theorem wv_sum3 (a b c : UInt32) : (wv a + wv b + wv c) % 4294967296 = wv (a + b + c) := by rw [← wv_sum, ← wv_sum]; omega
theorem wv_sum4 (a b c d : UInt32) : (wv a + wv b + wv c + wv d) % 4294967296 = wv (a + b + c + d) := by rw [← wv_sum, ← wv_sum3]; omega
theorem wv_not (x : UInt32) : bits .xor .u32 IntKind.u32.max (wv x) = wv (~~~x) := by
  rw [show IntKind.u32.max = wv 4294967295 from rfl, wv_xor, show (4294967295 : UInt32) = -1 from rfl, UInt32.neg_one_xor]
set_option maxRecDepth 100000 in
theorem k_any (w : World) : Calls Tryz.prog 115 #[] w fun e w' => e = .returned (.slice (some ⟨w.heap.size, 0, none⟩) 64 64) ∧ w'.heap[w.heap.size]? = some (.cells (kList.map wV).toArray 22 (0, 0)) ∧ Below w.heap.size w w' := by
  go_enter Tryz.func115, Tryz.ntmps115
  go_wp2
  go_ret
  exact ⟨rfl, by rw [heap_alloc_new]; rfl, (Below.refl _ _).alloc (Nat.le_refl _) _⟩
end Go.Proofs.YtdamhoagiooicaaGreatDoor.Sha
