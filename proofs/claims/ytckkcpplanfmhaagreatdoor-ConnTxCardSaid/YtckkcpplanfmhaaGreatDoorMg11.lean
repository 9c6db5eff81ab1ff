/-
  Texts of this proof joined into one file: RefOpens, Txs, BlMath, TxNew, BlSm, RefTwice, TxBuilds, TxLits, TxBoundsWalk, Hs, MkJoin, MkMath, MkSmall, MkHs, MkRow0, MkPath0, MkCalls, BlIds, Flt, TxReadW, MkClimb0, FltSee. What each holds, and under which conditions, its own first sentence tells.
-/
import Derived.Maps.OwnSet
import Derived.DeepKeys4
import Derived.Great.BuildSlice
import Derived.Deep.OwnRows
import Derived.Lib.AppendZerosOnto
import Derived.Lib.Walk
import Derived.Deep.Light
import Derived.IntWalk
import Derived.Maps.AppendAt
import Derived.Lib.BufferRead
import Derived.Laws.ResultCell
import Derived.Test.YtckkcpplanfmhaaGreatDoorMg08
import Derived.Test.YtckkcpplanfmhaaGreatDoorMg03
import Derived.Test.YtckkcpplanfmhaaGreatDoorMg10
import Derived.Test.YtckkcpplanfmhaaGreatDoorMg05
import Derived.Test.YtckkcpplanfmhaaGreatDoorMg07
import Derived.Test.YtckkcpplanfmhaaGreatDoorMg06
import Derived.Test.YtckkcpplanfmhaaGreatDoorMg01
import Derived.Test.YtckkcpplanfmhaaGreatDoorMg04
import Derived.Test.YtckkcpplanfmhaaGreatDoorMg02
/-
  The statements' own Opens tells whether a key of at most 80 bytes has that lock. Nothing that was there turns. Conditions: the bytes lie where the slice says, fewer than 2^45 bytes.
-/
namespace Go.Proofs.YtckkcpplanfmhaaGreatDoor.Sha
open Go Go.RowKit
set_option maxRecDepth 100000 in
theorem ropens_all (bs l : List UInt8) (sp : Option Addr) (n cap : Nat) (w : World) (hsrc : SrcB w (.slice sp n cap) bs) (hl : l.length = 32) (b : Bool) (hb : b = opensL bs l) :
    Calls Tryz.prog 76 #[.slice sp n cap, .agg (l.map bV).toArray] w fun e w' => e = .returned (.bool b) ∧ Below w.heap.size w w' := by
  have hs : (l.map bV).toArray.size = 32 := by simp [hl]
  have HLS := Lib.hid hs
  have HL := Lib.hid hl
  have HS := Lib.hid hsrc
  have HB := Lib.hid hb
  have hn := hsrc.le.1
  have HN := Lib.hid hn
  clear hsrc hl hb hs
  go_enter Tryz.func76, Tryz.ntmps76
  go_upto_region 1 with fail
  have F := Lib.hid (heap_alloc_new w (.cells (l.map bV).toArray 44 (0, 0)))
  have B := Lib.hid ((Below.refl w.heap.size w).alloc (Nat.le_refl _) (.cells (l.map bV).toArray 44 (0, 0)))
  generalize hw1 : World.alloc _ _ = w1
  rw [hw1] at F B
  clear hw1
  refine wp_region_below (by kernel_rfl) (by kernel_rfl) w1 (Below.refl _ _) ?_
  by_cases h80 : n ≤ 80
  · have hd : decide ((n : Int) ≤ 80) = true := decide_eq_true (by omega)
    have H80 := Lib.hid h80
    have HLEN : Hid (n ≤ 35184372088832) := by show _ ≤ _; omega
    clear h80 hn
    go_big_quiet_step ((intro _; rfl))
    go_big_quiet_step ((intro _; rfl))
    go_big_quiet_step ((intro _; rfl))
    go_big_quiet_step ((intro _; rfl))
    go_big_quiet_step ((intro _; rfl))
    go_big_quiet_step ((intro hw'; exact cls hw' (ref_any bs _ _ _ _ ((HS.out.below B.out).below hw') HLEN.out)))
    go_big_quiet_want
    refine quiet_load_row 44 (.tmp 3) rfl w.heap.size rfl 44 (l.map bV).toArray (0, 0) _ (fun w' hw' => row_below F.out hw') Tryz.underlying44 rfl (by rw [HLS.out]; kernel_rfl) ?_
    go_frame
    go_big_quiet_on
    go_big_quiet_step ((intro hw'; exact cls hw' (same_b (sha bs) l (sha_length _) HL.out b (by rw [HB.out, opensL, ← HN.out, decide_eq_true H80.out, Bool.true_and]) _)))
    repeat (go_big_quiet_step ((intro _; rfl)))
    refine wpQuiet_nil ?_
    intro w7 hw7
    have HW7 := Lib.hid (B.out.trans (hw7.mono B.out.size))
    clear hw7
    go_wp2_with fail
    go_ret
    exact ⟨rfl, HW7.out⟩
  · have hd : decide ((n : Int) ≤ 80) = false := decide_eq_false (by omega)
    have H80 := Lib.hid h80
    clear h80 hn
    repeat (go_big_quiet_step ((intro _; rfl)))
    refine wpQuiet_nil ?_
    intro w7 hw7
    have HW7 := Lib.hid (B.out.trans (hw7.mono B.out.size))
    clear hw7
    go_wp2_with fail
    go_ret
    exact ⟨by rw [HB.out, opensL, ← HN.out, decide_eq_false H80.out]; rfl, HW7.out⟩
end Go.Proofs.YtckkcpplanfmhaaGreatDoor.Sha

/-
  Rows of transactions, and blocks, as the model has them: four cells each behind a slice; a header's cells and a slice. No conditions.
-/
namespace Go.Proofs.YtckkcpplanfmhaaGreatDoor.Sha
open Go Go.RowKit
/-- A transaction stands in block b from o on. -/
def TxIn (w : World) (b o : Nat) (t : TTx) : Prop := TxOk t ∧ ∃ iv ov, w.rangeAt b o (txL t iv ov) ∧ InsAt w iv t.ins ∧ OutsAt w ov t.outs
theorem TxIn.below {w w' : World} {b o : Nat} {t : TTx} (h : TxIn w b o t) (hb : Below w.heap.size w w') : TxIn w' b o t := by
  obtain ⟨h0, iv, ov, h1, h2, h3⟩ := h
  exact ⟨h0, iv, ov, range_below h1 hb, h2.below hb, h3.below hb⟩
/-- A row of transactions behind a slice. -/
def TxsAt (w : World) (v : Value) (l : List TTx) : Prop :=
  ∃ sp cap, v = .slice sp l.length cap ∧ l.length ≤ cap ∧ (0 < l.length → ∃ b o, sp = some ⟨b, o, none⟩ ∧ ∀ i t, l[i]? = some t → TxIn w b (o + i * 4) t)
theorem TxsAt.below {w w' : World} {v : Value} {l : List TTx} (h : TxsAt w v l) (hb : Below w.heap.size w w') : TxsAt w' v l := by
  obtain ⟨sp, cap, h1, h2, h3⟩ := h
  refine ⟨sp, cap, h1, h2, fun h0 => ?_⟩
  obtain ⟨b, o, h4, h5⟩ := h3 h0
  exact ⟨b, o, h4, fun i x hx => (h5 i x hx).below hb⟩
theorem TxsAt.nil (w : World) (sp : Option Addr) (cap : Nat) : TxsAt w (.slice sp 0 cap) [] := ⟨sp, cap, rfl, Nat.zero_le _, fun h => absurd h (by simp)⟩
theorem TxsAt.shape {w : World} {v : Value} {l : List TTx} (h : TxsAt w v l) : ∃ sp cap, v = .slice sp l.length cap := by
  obtain ⟨sp, cap, h1, _⟩ := h
  exact ⟨sp, cap, h1⟩
theorem TxsAt.len {w : World} {sp : Option Addr} {n cap : Nat} {l : List TTx} (h : TxsAt w (.slice sp n cap) l) : n = l.length ∧ n ≤ cap := by
  obtain ⟨sp', cap', h1, h2, _⟩ := h
  cases h1
  exact ⟨rfl, h2⟩
/-- One of them, by its place. -/
theorem TxsAt.get {w : World} {sp : Option Addr} {n cap : Nat} {l : List TTx} (h : TxsAt w (.slice sp n cap) l) (h0 : 0 < n) :
    ∃ b o, sp = some ⟨b, o, none⟩ ∧ b < w.heap.size ∧ ∀ i t, l[i]? = some t → ∃ iv ov, w.rangeAt b (o + i * 4) (txL t iv ov) ∧ TxAt w (.agg (txL t iv ov).toArray) t := by
  obtain ⟨sp', cap', h1, h2, h3⟩ := h
  cases h1
  obtain ⟨b, o, rfl, h5⟩ := h3 h0
  refine ⟨b, o, rfl, ?_, fun i t ht => ?_⟩
  · obtain ⟨_, iv, ov, h6, _⟩ := h5 0 (l[0]) (List.getElem?_eq_getElem h0)
    exact World.block_lt_of_cell? w _ (h6 0 _ rfl)
  · obtain ⟨a, iv, ov, h6, h7, h8⟩ := h5 i t ht
    exact ⟨iv, ov, h6, a, iv, ov, rfl, h7, h8⟩
/-- A block: a header, and transactions. -/
structure TBlk where
  head : THd
  txs : List TTx
/-- A block's cells. -/
def blL (h : THd) (tv : Value) : List Value := hdL h ++ [tv]
theorem blL_size {h : THd} (hh : HdOk h) (tv : Value) : (blL h tv).toArray.size = 69 := by simp [blL, hdL_length hh]
/-- A block by value. -/
def BlkAt (w : World) (v : Value) (x : TBlk) : Prop := HdOk x.head ∧ ∃ tv, v = .agg (blL x.head tv).toArray ∧ TxsAt w tv x.txs
theorem BlkAt.below {w w' : World} {v : Value} {x : TBlk} (h : BlkAt w v x) (hb : Below w.heap.size w w') : BlkAt w' v x := by
  obtain ⟨h0, tv, h1, h2⟩ := h
  exact ⟨h0, tv, h1, h2.below hb⟩
/-- A block in a box. -/
structure BlBox (w : World) (g : Nat) (h : THd) (tv : Value) : Prop where
  row : w.heap[g]? = some (.cells (blL h tv).toArray 71 (0, 0))
theorem BlBox.below {w w' : World} {g : Nat} {h : THd} {tv : Value} (k : BlBox w g h tv) (hb : Below w.heap.size w w') : BlBox w' g h tv := ⟨row_below k.row hb⟩
theorem BlBox.range {w : World} {g : Nat} {h : THd} {tv : Value} (k : BlBox w g h tv) : w.rangeAt g 0 (blL h tv) := fun j v hj => by
  rw [Nat.zero_add, cell_of_row _ _ _ _ _ _ k.row]
  simpa using hj
theorem BlBox.lt {w : World} {g : Nat} {h : THd} {tv : Value} (k : BlBox w g h tv) : g < w.heap.size := (Array.getElem?_eq_some_iff.1 k.row).1
/-- The header's cells in a block's box. -/
theorem BlBox.head {w : World} {g : Nat} {h : THd} {tv : Value} (k : BlBox w g h tv) : w.rangeAt g 0 (hdL h) := fun j v hj => k.range j v (by
  rw [blL, List.getElem?_append_left (List.getElem?_eq_some_iff.1 hj).1]
  exact hj)
theorem BlBox.root {w : World} {g : Nat} {h : THd} {tv : Value} (k : BlBox w g h tv) (hh : HdOk h) : w.rangeAt g 33 (h.root.map bV) := by
  have := hd_root hh k.head
  rwa [Nat.zero_add] at this
theorem BlBox.txs {w : World} {g : Nat} {h : THd} {tv : Value} (k : BlBox w g h tv) (hh : HdOk h) : w.cell? ⟨g, 68, none⟩ = some tv := by
  have := k.range 68 tv (by rw [blL, List.getElem?_append_right (by rw [hdL_length hh]; exact Nat.le_refl _), hdL_length hh]; rfl)
  rwa [Nat.zero_add] at this
theorem blL_one {h : THd} {tv : Value} (ht : tv.oneCell' = true) : (blL h tv).toArray.all (·.oneCell') = true := by
  rw [Array.all_eq_true_iff_forall_mem]
  intro u hu
  rw [List.mem_toArray, blL, List.mem_append, List.mem_singleton] at hu
  rcases hu with hu | rfl
  · exact hdL_one' h u hu
  · exact ht
theorem TxsAt.one {w : World} {tv : Value} {l : List TTx} (h : TxsAt w tv l) : tv.oneCell' = true := by
  obtain ⟨sp, cap, rfl, _⟩ := h
  rfl
end Go.Proofs.YtckkcpplanfmhaaGreatDoor.Sha

/-
  Plain mathematics of a block's bytes: what was written is read again; cut off it ends too early; longer it is none; what is read has just these bytes. No conditions beyond those that each states.
-/
namespace Go.Proofs.YtckkcpplanfmhaaGreatDoor.Sha
open Go Go.RowKit
def txsB (l : List TTx) : List UInt8 := l.flatMap txB
def blkB (x : TBlk) : List UInt8 := hdB x.head ++ putL x.txs.length ++ txsB x.txs
theorem txsB_cons (t : TTx) (l : List TTx) : txsB (t :: l) = txB t ++ txsB l := rfl
section
variable {α : Type} {z a : α} {p : Par α} {x : List UInt8}
end
end Go.Proofs.YtckkcpplanfmhaaGreatDoor.Sha

/-
  Numbers written by package compact as new memory; rows that are new grow. No conditions beyond those that each states.
-/
namespace Go.Proofs.YtckkcpplanfmhaaGreatDoor.Sha
open Go Go.RowKit
theorem CopyB.keep {w w1 w2 : World} {v : Value} {bs : List UInt8} (h : CopyB w w1 v bs) (hb : Below w1.heap.size w1 w2) : CopyB w w2 v bs := ⟨own_kept h.1 hb, h.2.trans (hb.mono h.2.size)⟩
theorem CopyB.app {w w1 w2 : World} {v v' : Value} {bs cs : List UInt8} (h : CopyB w w1 v bs) (ho : w2.ownsRow w.heap.size 5 1 v' (bs.length + cs.length) (bs.map bV ++ cs.map bV)) (hg : w1.grownBy w2 v.ownBlock) : CopyB w w2 v' (bs ++ cs) :=
  ⟨by rw [List.length_append, List.map_append]; exact ho, own_grown h.2 (Nat.le_refl _) h.2.size h.1 hg⟩
theorem CopyB.start {w0 w w' : World} {v : Value} {bs : List UInt8} (h : CopyB w w' v bs) (hb : Below w0.heap.size w0 w) : CopyB w0 w' v bs := ⟨own_base h.1 hb.size, hb.trans (h.2.mono hb.size)⟩
theorem nil_src (w : World) : SrcB w (.slice none 0 0) [] := .inl ⟨_, _, rfl, rfl⟩
end Go.Proofs.YtckkcpplanfmhaaGreatDoor.Sha

/-
  What of a block is small enough for the walks. No conditions.
-/
namespace Go.Proofs.YtckkcpplanfmhaaGreatDoor.Sha
open Go Go.RowKit
/-- A block of a few transactions, each of a few inputs and outputs. -/
def BlkSmall (x : TBlk) : Prop := (∀ t ∈ x.txs, TxSmall t) ∧ x.txs.length ≤ 1000
theorem txB_le {t : TTx} (h : TxSmall t) : (txB t).length ≤ 200100000 := by
  have h1 := h.bytes
  have h2 := h.ins0
  have h3 := h.2.2.1
  have h4 := lenN_bd t.ins.length
  have h5 := lenN_bd t.outs.length
  omega
theorem txsB_le : ∀ (l : List TTx), (∀ t ∈ l, TxSmall t) → (txsB l).length ≤ 200100000 * l.length
  | [], _ => by simp [txsB]
  | t :: l, h => by
    have ih := txsB_le l (fun u hu => h u (List.mem_cons_of_mem _ hu))
    have h1 := txB_le (h t List.mem_cons_self)
    rw [txsB_cons, List.length_append, List.length_cons]
    omega
theorem BlkSmall.txs {x : TBlk} (h : BlkSmall x) : (txsB x.txs).length ≤ 200100000000 := by
  have h1 := txsB_le x.txs h.1
  have h2 := h.2
  omega
theorem blkB_len {x : TBlk} (hh : HdOk x.head) : (blkB x).length = 80 + lenN x.txs.length + (txsB x.txs).length := by
  simp only [blkB, List.length_append, hdB_length hh, putL_length]
theorem BlkSmall.len {x : TBlk} (h : BlkSmall x) (hh : HdOk x.head) : (blkB x).length ≤ 200200000000 := by
  have h1 := h.txs
  have h2 := lenN_bd x.txs.length
  rw [blkB_len hh]
  omega
end Go.Proofs.YtckkcpplanfmhaaGreatDoor.Sha

/-
  digest.Twice and the statements' own Twice answer the SHA-256 of the SHA-256 of the bytes; nothing that was there turns. Conditions: the bytes lie where the slice says, fewer than 2^45; for digest.Twice the table is there.
-/
namespace Go.Proofs.YtckkcpplanfmhaaGreatDoor.Sha
open Go Go.RowKit
set_option maxHeartbeats 1000000 in
set_option maxRecDepth 100000 in
theorem ref_twice (bs : List UInt8) (sp : Option Addr) (n cap : Nat) (w : World) (hsrc : SrcB w (.slice sp n cap) bs) (hn : n ≤ 35184372088832) :
    Calls Tryz.prog 62 #[.slice sp n cap] w fun e w' => e = .returned (.agg ((sha (sha bs)).map bV).toArray) ∧ Below w.heap.size w w' := by
  have HS := Lib.hid hsrc
  have hl : ∀ l : List UInt8, l.length = 32 → (l.map bV).toArray.size = 32 := fun l h => by simp [h]
  have HL := Lib.hid hl
  clear hsrc hl
  go_enter Tryz.func62, Tryz.ntmps62
  go_wp2_with fail
  have b0 : Below w.heap.size w (w.alloc (.cells (List.replicate 32 (bV 0)).toArray 44)) := (Below.refl _ _).alloc (Nat.le_refl _) _
  have f0 : (w.alloc (.cells (List.replicate 32 (bV 0)).toArray 44)).heap[w.heap.size]? = some (.cells (List.replicate 32 (bV 0)).toArray 44 (0, 0)) := heap_alloc_new _ _
  have z0 : w.heap.size < (w.alloc (.cells (List.replicate 32 (bV 0)).toArray 44)).heap.size := by simp
  generalize hw0 : World.alloc _ _ = w0
  have q0 : w.alloc (.cells (List.replicate 32 (bV 0)).toArray 44) = w0 := hw0
  rw [q0] at b0 f0 z0
  clear hw0 q0
  refine (ref_any bs sp n cap w0 (HS.out.below b0) hn).mono ?_
  rintro e w1 ⟨rfl, hb1⟩
  have e1 : Below w.heap.size w w1 := b0.trans (hb1.mono b0.size)
  have e2 : w1.heap[w.heap.size]? = some (.cells (List.replicate 32 (bV 0)).toArray 44 (0, 0)) := row_below f0 hb1
  have e3 : w.heap.size < w1.heap.size := Nat.lt_of_lt_of_le z0 hb1.size
  have E1 := Lib.hid e1
  have E2 := Lib.hid e2
  clear b0 f0 z0 hb1 e1 e2
  go_upto_region 2 with ((with_reducible show wpList _ _ _ _ _ _); refine wpList_store_row rfl 44 (.tmp 3) (.tmp 5) rfl w1.heap.size ((sha bs).map bV).toArray rfl rfl 44 _ (heap_alloc_new _ _) (by rw [HL.out _ (sha_length _)]; kernel_rfl) (by rw [HL.out _ (sha_length _)]; rfl) (bV_one _) ?_; go_frame)
  have e1 := E1.out
  have e2 := E2.out
  clear E1 E2
  obtain ⟨f1, f2, f3, f4⟩ := fill_setup e1 (List.replicate 32 (bV 0)).toArray ((sha bs).map bV).toArray 44
  have e4 : ((w1.alloc (.cells (List.replicate 32 (bV 0)).toArray 44)).setRow w1.heap.size ((sha bs).map bV).toArray).heap[w.heap.size]? = some (.cells (List.replicate 32 (bV 0)).toArray 44 (0, 0)) := by rw [f4.block _ e3]; exact e2
  obtain ⟨g, hg⟩ : ∃ g, g = w1.heap.size := ⟨_, rfl⟩
  generalize hw2 : World.setRow _ _ _ = w2
  have e5 : ((w1.alloc (.cells (List.replicate 32 (bV 0)).toArray 44)).setRow w1.heap.size ((sha bs).map bV).toArray) = w2 := hw2
  rw [e5] at f1 f2 f3 f4 e4
  rw [← hg] at f2 f3 ⊢
  have HS2 := Lib.hid (src_block (sha_length bs) f2)
  have F1 := Lib.hid f1
  have E4 := Lib.hid e4
  have hlt : w.heap.size < w2.heap.size := by omega
  clear f1 f2 f3 f4 e1 e2 e3 e4 e5 hw2 hg
  go_wp2_with fail
  refine (ref_any (sha bs) _ _ _ _ HS2.out (by omega)).mono ?_
  rintro e w3 ⟨rfl, hb3⟩
  have h3 : w3.heap[w.heap.size]? = some (.cells (List.replicate 32 (bV 0)).toArray 44 (0, 0)) := by rw [hb3.block _ hlt]; exact E4.out
  have H3 := Lib.hid h3
  have B3 := Lib.hid (F1.out.trans (hb3.mono (by omega)))
  clear h3 hb3
  go_wp2_with ((with_reducible show wpList _ _ _ _ _ _); refine wpList_store_row rfl 44 (.tmp 2) (.tmp 7) rfl w.heap.size ((sha (sha bs)).map bV).toArray rfl rfl 44 _ H3.out (by rw [HL.out _ (sha_length _)]; kernel_rfl) (by rw [HL.out _ (sha_length _)]; rfl) (bV_one _) ?_; go_frame)
  refine bodyPost_ret (results_cell_row rfl _ _ w.heap.size 44 ((sha (sha bs)).map bV).toArray (0, 0) (.array 32 5) rfl (setRow_heap _ _ _ _ _ _ H3.out) Tryz.underlying44 rfl (by rw [HL.out _ (sha_length _)]; kernel_rfl)) rfl ⟨rfl, below_setRow B3.out (Nat.le_refl _) _⟩
end Go.Proofs.YtckkcpplanfmhaaGreatDoor.Sha

/-
  What literals of transactions, inputs, outputs and places lay. No conditions beyond those that each states.
-/
namespace Go.Proofs.YtckkcpplanfmhaaGreatDoor.Sha
open Go Go.RowKit
def zH : List UInt8 := List.replicate 32 0
theorem zH_length : zH.length = 32 := rfl
end Go.Proofs.YtckkcpplanfmhaaGreatDoor.Sha

/-
  Rows of one or two inputs, or outputs, as slices; what is amiss with transactions of few inputs. Conditions: those that each states.
-/
namespace Go.Proofs.YtckkcpplanfmhaaGreatDoor.Sha
open Go Go.RowKit
theorem insAt_one {w : World} {g : Nat} {x : TIn} {kv : Value} {fr : Nat × Nat} (h : w.heap[g]? = some (.cells (inL x kv).toArray 53 fr)) (hx : InOk x) (hk : KeyAt w kv x.key) : InsAt w (.slice (some ⟨g, 0, none⟩) 1 1) [x] :=
  ⟨_, 1, rfl, Nat.le_refl _, fun _ => ⟨g, 0, rfl, fun i y hy => by
    have hi := (List.getElem?_eq_some_iff.1 hy).1
    simp at hi
    subst hi
    simp only [List.getElem?_cons_zero, Option.some.injEq] at hy
    subst hy
    exact ⟨hx, kv, hk, range_of_box h⟩⟩⟩
theorem outsAt_one {w : World} {g : Nat} {y : TOut} {fr : Nat × Nat} (h : w.heap[g]? = some (.cells (outL y).toArray 65 fr)) (hy : OutOk y) : OutsAt w (.slice (some ⟨g, 0, none⟩) 1 1) [y] :=
  ⟨_, 1, rfl, Nat.le_refl _, fun _ => ⟨g, 0, rfl, fun i z hz => by
    have hi := (List.getElem?_eq_some_iff.1 hz).1
    simp at hi
    subst hi
    simp only [List.getElem?_cons_zero, Option.some.injEq] at hz
    subst hz
    exact ⟨hy, range_of_box h⟩⟩⟩
end Go.Proofs.YtckkcpplanfmhaaGreatDoor.Sha

/-
  The statement on how many inputs and outputs, how long a key, how great an amount a transaction may have answers true. Condition: the errors are there.
-/
namespace Go.Proofs.YtckkcpplanfmhaaGreatDoor.Sha
open Go Go.RowKit
def bdN (i : Nat) : TIn := ⟨zH, i + 1, [], 0⟩
def bdI (k : Nat) : List TIn := (List.range k).map bdN
def bdY : TOut := ⟨0, zH⟩
def bdO (k : Nat) : List TOut := List.replicate k bdY
/-- While inputs, or outputs, are appended. -/
def BdAt (w : World) (gI gO g6 k m : Nat) (iv ov : Value) (wr : World) : Prop :=
  InsOwn gI wr iv (bdI k) (List.replicate k (.slice none 0 0)) ∧ OutsOwn gI wr ov (bdO m) ∧ (∀ g, iv.ownBlock = some g → g = gI ∨ g6 < g) ∧ (∀ g, ov.ownBlock = some g → g = gO ∨ g6 < g) ∧ iv.ownBlock ≠ ov.ownBlock
    ∧ wr.heap[g6]? = some (.cells [nV 0, iv, ov, nV 0].toArray 27 (0, 0)) ∧ Below w.heap.size w wr ∧ g6 < wr.heap.size
theorem BdAt.tx {w wr : World} {gI gO g6 k m : Nat} {iv ov : Value} (h : BdAt w gI gO g6 k m iv ov wr) : TxAt wr (.agg [nV 0, iv, ov, nV 0].toArray) ⟨0, bdI k, bdO m, 0⟩ := ⟨⟨Nat.zero_le _, Nat.zero_le _⟩, iv, ov, rfl, h.1.at, h.2.1.at⟩
end Go.Proofs.YtckkcpplanfmhaaGreatDoor.Sha

/-
  Rows of digests: a slice that reads as a list of digests (32 cells each), a row of one's own that grows. No conditions beyond those that each states.
-/
namespace Go.Proofs.YtckkcpplanfmhaaGreatDoor.Sha
open Go Go.RowKit
theorem info_hash : (Tryz.prog.info? 44).map (fun i => (i.zero, i.size, i.bytes)) = some (some (.agg (List.replicate 32 (bV 0)).toArray), 32, 32) := by kernel_rfl
/-- Digests of 32 bytes each. -/
def HsOk (l : List (List UInt8)) : Prop := ∀ x ∈ l, x.length = 32
theorem HsOk.get {l : List (List UInt8)} (h : HsOk l) {i : Nat} (hi : i < l.length) : (l.getD i []).length = 32 := by
  rw [List.getD_eq_getElem?_getD, List.getElem?_eq_getElem hi]
  exact h _ (List.getElem_mem _)
theorem HsOk.snoc {l : List (List UInt8)} (h : HsOk l) {x : List UInt8} (hx : x.length = 32) : HsOk (l ++ [x]) := fun y hy => by
  rcases List.mem_append.1 hy with hy | hy
  · exact h y hy
  · rw [List.mem_singleton.1 hy]; exact hx
/-- Their cells. -/
def hsL (l : List (List UInt8)) : List Value := l.flatMap fun x => x.map bV
theorem hsL_snoc (l : List (List UInt8)) (x : List UInt8) : hsL (l ++ [x]) = hsL l ++ x.map bV := by simp [hsL, List.flatMap_append]
theorem hsL_get : ∀ (l : List (List UInt8)) (i : Nat) (y : List UInt8), HsOk l → l[i]? = some y → ∀ j, j < 32 → (hsL l)[i * 32 + j]? = (y.map bV)[j]?
  | z :: l, 0, y, ho, hy, j, hj => by
    simp only [List.getElem?_cons_zero, Option.some.injEq] at hy
    subst hy
    rw [Nat.zero_mul, Nat.zero_add, hsL, List.flatMap_cons, List.getElem?_append_left (by rw [List.length_map, ho z List.mem_cons_self]; exact hj)]
  | z :: l, i + 1, y, ho, hy, j, hj => by
    have e : (z.map bV).length = 32 := by rw [List.length_map, ho z List.mem_cons_self]
    rw [hsL, List.flatMap_cons, List.getElem?_append_right (by omega), e, show (i + 1) * 32 + j - 32 = i * 32 + j by omega]
    exact hsL_get l i y (fun z hz => ho z (List.mem_cons_of_mem _ hz)) (by simpa using hy) j hj
  | [], _, _, _, hy, _, _ => by simp at hy
/-- The slice v reads as these digests. -/
def HsAt (w : World) (v : Value) (l : List (List UInt8)) : Prop :=
  HsOk l ∧ ∃ sp cap, v = .slice sp l.length cap ∧ l.length ≤ cap ∧ (0 < l.length → ∃ b o, sp = some ⟨b, o, none⟩ ∧ ∀ i x, l[i]? = some x → w.rangeAt b (o + i * 32) (x.map bV))
theorem HsAt.below {w w' : World} {v : Value} {l : List (List UInt8)} (h : HsAt w v l) (hb : Below w.heap.size w w') : HsAt w' v l := by
  obtain ⟨h0, sp, cap, h1, h2, h3⟩ := h
  refine ⟨h0, sp, cap, h1, h2, fun h0 => ?_⟩
  obtain ⟨b, o, h4, h5⟩ := h3 h0
  exact ⟨b, o, h4, fun i x hx => range_below (h5 i x hx) hb⟩
theorem HsAt.nil (w : World) (sp : Option Addr) (cap : Nat) : HsAt w (.slice sp 0 cap) [] := ⟨fun x hx => by simp at hx, sp, cap, rfl, by simp, fun h => by simp at h⟩
theorem HsAt.len {w : World} {sp : Option Addr} {n cap : Nat} {l : List (List UInt8)} (h : HsAt w (.slice sp n cap) l) : n = l.length ∧ n ≤ cap := by
  obtain ⟨_, sp', cap', hv, hc, _⟩ := h
  cases hv
  exact ⟨rfl, hc⟩
/-- Where one of them lies. -/
theorem HsAt.get {w : World} {sp : Option Addr} {n cap : Nat} {l : List (List UInt8)} (h : HsAt w (.slice sp n cap) l) (h0 : 0 < n) : ∃ b o, sp = some ⟨b, o, none⟩ ∧ b < w.heap.size ∧ ∀ i, i < n → w.rangeAt b (o + i * 32) ((l.getD i []).map bV) := by
  obtain ⟨ho, sp', cap', hv, hc, hr⟩ := h
  cases hv
  obtain ⟨b, o, hs, hx⟩ := hr h0
  have hg : ∀ i, i < l.length → w.rangeAt b (o + i * 32) ((l.getD i []).map bV) := fun i hi => hx i _ (by rw [List.getD_eq_getElem?_getD, List.getElem?_eq_getElem hi]; rfl)
  refine ⟨b, o, hs, ?_, hg⟩
  obtain ⟨x, hx0⟩ : ∃ x, (l.getD 0 [])[0]? = some x := ⟨_, List.getElem?_eq_getElem (by rw [HsOk.get ho h0]; omega)⟩
  exact World.block_lt_of_cell? w _ (hg 0 h0 0 (bV x) (by rw [List.getElem?_map, hx0]; rfl))
/-- A row of digests of one's own. -/
def HsOwn (base : Nat) (w : World) (v : Value) (l : List (List UInt8)) : Prop := w.ownsRow base 44 32 v l.length (hsL l) ∧ HsOk l
theorem HsOwn.nil (base : Nat) (w : World) : HsOwn base w (.slice none 0 0) [] := ⟨World.ownsRow_nil _ _ _ _, fun _ h => absurd h (by simp)⟩
section
variable {base : Nat} {w w' : World} {v v' : Value} {l : List (List UInt8)}
theorem HsOwn.keep (h : HsOwn base w v l) (hb : Below w.heap.size w w') : HsOwn base w' v l := ⟨own_kept h.1 hb, h.2⟩
theorem HsOwn.kept (h : HsOwn base w v l) {q : Option Nat} (hg : w.grownBy w' q) (hb : v.ownBlock = none ∨ v.ownBlock ≠ q) : HsOwn base w' v l := ⟨h.1.kept hg hb, h.2⟩
theorem HsOwn.push {x : List UInt8} (ho : HsOk l) (hx : x.length = 32) (hown : w'.ownsRow base 44 32 v' (l.length + 1) (hsL l ++ x.map bV)) : HsOwn base w' v' (l ++ [x]) := by
  refine ⟨?_, ho.snoc hx⟩
  rw [hsL_snoc, List.length_append]
  exact hown
/-- Such a row as a slice of digests. -/
theorem HsOwn.at (h : HsOwn base w v l) : HsAt w v l := by
  obtain ⟨h2, h3⟩ := h
  refine ⟨h3, ?_⟩
  rcases h2.2 with ⟨hv, h0⟩ | ⟨g, cap, cur, hv, hb, hc, hn, hm, hs, ht⟩
  · exact ⟨none, 0, by rw [hv, h0], by omega, fun h => by omega⟩
  · subst hv
    refine ⟨_, cap, rfl, hn, fun h0 => ⟨g, 0, rfl, fun i x hx => ?_⟩⟩
    have hi := (List.getElem?_eq_some_iff.1 hx).1
    have hxo := h3 x (List.mem_of_getElem? hx)
    intro j u hj
    have hj32 : j < 32 := by
      have := (List.getElem?_eq_some_iff.1 hj).1
      rwa [List.length_map, hxo] at this
    rw [Nat.zero_add, h2.cellAt (i * 32 + j) (by omega), hsL_get l i x h3 hx j hj32]
    exact hj
end
/-- A part of such a slice. -/
theorem HsAt.cut {w : World} {sp : Option Addr} {n cap : Nat} {l : List (List UInt8)} (h : HsAt w (.slice sp n cap) l) (i r : Nat) (h1 : i ≤ r) (h2 : r ≤ n) : HsAt w (sliced sp i r cap 32) ((l.take r).drop i) := by
  have hn := h.len
  have hok := h.1
  have hl : ((l.take r).drop i).length = r - i := by rw [List.length_drop, List.length_take]; omega
  refine ⟨fun x hx => hok x (List.mem_of_mem_take (List.mem_of_mem_drop hx)), if cap = i then sp else sp.map (·.add (i * 32)), cap - i, by rw [sliced, hl], by omega, fun h0 => ?_⟩
  obtain ⟨b, o, hs, _, _⟩ := h.get (by omega)
  obtain ⟨_, sp', cap', hv, hc, hr⟩ := h
  cases hv
  obtain ⟨b, o, hs, hx⟩ := hr (by omega)
  subst hs
  refine ⟨b, o + i * 32, by rw [if_neg (by omega)]; simp [Addr.add_mid], fun j x hj => ?_⟩
  have hj2 : j < r - i := by have := (List.getElem?_eq_some_iff.1 hj).1; omega
  rw [List.getElem?_drop, List.getElem?_take_of_lt (by omega)] at hj
  have := hx (i + j) x hj
  rwa [show o + (i + j) * 32 = o + i * 32 + j * 32 by omega] at this
/-- One digest in a row of its own. -/
theorem hs_one {w : World} {g : Nat} {x : List UInt8} {T : TypeId} (h : w.heap[g]? = some (.cells (x.map bV).toArray T (0, 0))) : ∀ j u, (x.map bV)[j]? = some u → w.cell? ((⟨g, 0, none⟩ : Addr).add j) = some u := fun j u hj => by
  rw [Addr.add_mid]
  exact range_of_box h j u hj
end Go.Proofs.YtckkcpplanfmhaaGreatDoor.Sha

/-
  Package merkle's join: the digest above two. Nothing that was there turns. Condition: the table is there.
-/
namespace Go.Proofs.YtckkcpplanfmhaaGreatDoor.Sha
open Go Go.RowKit
/-- The digest above two. -/
def prH (a b : List UInt8) : List UInt8 := sha (sha (a ++ b))
theorem prH_length (a b : List UInt8) : (prH a b).length = 32 := sha_length _
/-- Two boxes and an empty one. -/
theorem boxes_two_zero (w : World) (x y z : Array Value) (T : TypeId) :
    Below w.heap.size w (((w.alloc (.cells x T (0, 0))).alloc (.cells y T (0, 0))).alloc (.cells z T (0, 0)))
    ∧ (((w.alloc (.cells x T (0, 0))).alloc (.cells y T (0, 0))).alloc (.cells z T (0, 0))).heap[w.heap.size]? = some (.cells x T (0, 0))
    ∧ (((w.alloc (.cells x T (0, 0))).alloc (.cells y T (0, 0))).alloc (.cells z T (0, 0))).heap[w.heap.size + 1]? = some (.cells y T (0, 0))
    ∧ (((w.alloc (.cells x T (0, 0))).alloc (.cells y T (0, 0))).alloc (.cells z T (0, 0))).heap[w.heap.size + 2]? = some (.cells z T (0, 0)) := by
  refine ⟨(((Below.refl _ _).alloc (Nat.le_refl _) _).alloc (by simp) _).alloc (by simp; omega) _, ?_, ?_, ?_⟩
  · have h1 := heap_alloc_new w (.cells x T (0, 0))
    have h2 := row_below h1 ((Below.refl _ _).alloc (Nat.le_refl _) (.cells y T (0, 0)))
    exact row_below h2 ((Below.refl _ _).alloc (Nat.le_refl _) (.cells z T (0, 0)))
  · have h1 := heap_alloc_new (w.alloc (.cells x T (0, 0))) (.cells y T (0, 0))
    rw [World.size_alloc] at h1
    exact row_below h1 ((Below.refl _ _).alloc (Nat.le_refl _) (.cells z T (0, 0)))
  · have h1 := heap_alloc_new ((w.alloc (.cells x T (0, 0))).alloc (.cells y T (0, 0))) (.cells z T (0, 0))
    rw [World.size_alloc, World.size_alloc] at h1
    exact h1
theorem one_list {dg : Array Value} (h : dg.all (·.oneCell') = true) : ∀ u ∈ dg.toList, u.oneCell' = true := fun u hu => by
  rw [Array.all_eq_true_iff_forall_mem] at h
  exact h u (by simpa using hu)
end Go.Proofs.YtckkcpplanfmhaaGreatDoor.Sha

/-
  Plain mathematics of rows of digests: the next row, the root, the way from below, what a leaf and a way make. Nothing of the program. No conditions beyond those that each states.
-/
namespace Go.Proofs.YtckkcpplanfmhaaGreatDoor.Sha
section
variable {α : Type} (pr : α → α → α) (z : α)
/-- The next row: each two, the last of an odd row with itself. -/
def rowL : List α → List α
  | [] => []
  | [a] => [pr a a]
  | a :: b :: l => pr a b :: rowL l
theorem rowL_length : ∀ l : List α, (rowL pr l).length = (l.length + 1) / 2
  | [] => by simp [rowL]
  | [_] => by simp [rowL]
  | _ :: _ :: l => by
    rw [rowL, List.length_cons, rowL_length l]
    simp only [List.length_cons]
    omega
/-- One of the next row. -/
theorem rowL_get : ∀ (l : List α) (i : Nat), 2 * i < l.length → (rowL pr l).getD i z = pr (l.getD (2 * i) z) (l.getD (if 2 * i + 1 < l.length then 2 * i + 1 else 2 * i) z)
  | [], i, h => by simp at h
  | [a], i, h => by
    obtain rfl : i = 0 := by simp at h; omega
    simp [rowL]
  | a :: b :: l, 0, _ => by simp [rowL]
  | a :: b :: l, i + 1, h => by
    have ih := rowL_get l i (by simp at h; omega)
    rw [rowL, List.getD_cons_succ, ih, show 2 * (i + 1) = 2 * i + 1 + 1 by omega]
    simp only [List.length_cons]
    by_cases h2 : 2 * i + 1 < l.length
    · rw [if_pos h2, if_pos (by omega)]
      simp only [List.getD_cons_succ]
    · rw [if_neg h2, if_neg (by omega)]
      simp only [List.getD_cons_succ]
/-- The root: row by row. -/
def rootL (l : List α) : α := if _h : l.length ≤ 1 then l.getD 0 z else rootL (rowL pr l)
  termination_by l.length
  decreasing_by rw [rowL_length]; omega
theorem rootL_one {l : List α} (h : l.length ≤ 1) : rootL pr z l = l.getD 0 z := by rw [rootL, dif_pos h]
theorem rootL_more {l : List α} (h : 1 < l.length) : rootL pr z l = rootL pr z (rowL pr l) := by rw [rootL, dif_neg (by omega)]
/-- The other one of two. -/
def otherN (i n : Nat) : Nat := if i % 2 = 1 then i - 1 else if i + 1 < n then i + 1 else i
end
end Go.Proofs.YtckkcpplanfmhaaGreatDoor.Sha

/-
  Package merkle's small functions: half, partner, rowsAbove. No conditions beyond bounds.
-/
namespace Go.Proofs.YtckkcpplanfmhaaGreatDoor.Sha
open Go Go.RowKit
theorem otherN_lt {i n : Nat} (h : i < n) : otherN i n < n := by unfold otherN; split <;> (try split) <;> omega
end Go.Proofs.YtckkcpplanfmhaaGreatDoor.Sha

/-
  Rows of digests, roots and ways: lengths, what is kept when another block turns. No conditions beyond those that each states.
-/
namespace Go.Proofs.YtckkcpplanfmhaaGreatDoor.Sha
open Go Go.RowKit
/-- 32 bytes of 0. -/
def zM : List UInt8 := List.replicate 32 0
theorem zM_length : zM.length = 32 := by simp [zM]
def slLen : Value → Nat
  | .slice _ n _ => n
  | _ => 0
theorem rowL_ok : ∀ l : List (List UInt8), HsOk (rowL prH l)
  | [] => fun x hx => by simp [rowL] at hx
  | [a] => fun x hx => by
    simp only [rowL, List.mem_singleton] at hx
    rw [hx]; exact prH_length _ _
  | a :: b :: l => fun x hx => by
    simp only [rowL, List.mem_cons] at hx
    rcases hx with rfl | hx
    · exact prH_length _ _
    · exact rowL_ok l x hx
theorem hsD_ok {l : List (List UInt8)} (h : HsOk l) (i : Nat) : (l.getD i zM).length = 32 := by
  by_cases hi : i < l.length
  · rw [List.getD_eq_getElem?_getD, List.getElem?_eq_getElem hi]
    exact h _ (List.getElem_mem _)
  · rw [List.getD_eq_getElem?_getD, List.getElem?_eq_none (by omega)]
    exact zM_length
theorem getD_any {l : List (List UInt8)} {i : Nat} (hi : i < l.length) : l.getD i [] = l.getD i zM := by
  rw [List.getD_eq_getElem?_getD, List.getD_eq_getElem?_getD, List.getElem?_eq_getElem hi]
  rfl
theorem rootL_len : ∀ (n : Nat) (l : List (List UInt8)), l.length = n → HsOk l → (rootL prH zM l).length = 32 := by
  intro n
  induction n using Nat.strongRecOn with
  | ind n ih =>
    intro l hl ho
    by_cases h : n ≤ 1
    · rw [rootL_one prH zM (by omega)]
      exact hsD_ok ho 0
    · rw [rootL_more prH zM (by omega)]
      exact ih ((n + 1) / 2) (by omega) _ (by rw [rowL_length, hl]) (rowL_ok l)
theorem HsAt.shape {w : World} {v : Value} {l : List (List UInt8)} (h : HsAt w v l) : ∃ sp cap, v = .slice sp l.length cap := by
  obtain ⟨_, sp, cap, h1, _, _⟩ := h
  exact ⟨sp, cap, h1⟩
theorem HsAt.off {w w' : World} {v : Value} {l : List (List UInt8)} {q : Option Nat} (h : HsAt w v l) (ho : Off v q) (hg : w.grownBy w' q) : HsAt w' v l := by
  obtain ⟨h0, sp, cap, rfl, h2, h3⟩ := h
  refine ⟨h0, sp, cap, rfl, h2, fun h0 => ?_⟩
  obtain ⟨b, o, rfl, h5⟩ := h3 h0
  refine ⟨b, o, rfl, fun i x hx j u hj => ?_⟩
  have h6 := h5 i x hx j u hj
  have hlt := World.block_lt_of_cell? w _ h6
  simp only at hlt
  rw [World.cell?_of_block (hg.block b hlt (fun e => ho _ _ _ rfl h0 e.symm))]
  exact h6
theorem HsAt.fresh {w : World} {v : Value} {l : List (List UInt8)} {k : Nat} (h : HsAt w v l) (hk : w.heap.size ≤ k) : Off v (some k) := fun sp n cap hv hn e => by
  obtain ⟨h0, sp', cap', h1, h2, h3⟩ := h
  rw [h1] at hv
  cases hv
  obtain ⟨b, o, hs, h5⟩ := h3 hn
  obtain ⟨x, hx⟩ : ∃ x, l[0]? = some x := ⟨_, List.getElem?_eq_getElem hn⟩
  have hx32 := h0 x (List.mem_of_getElem? hx)
  obtain ⟨u, hu⟩ : ∃ u, (x.map bV)[0]? = some u := ⟨_, List.getElem?_eq_getElem (by rw [List.length_map]; omega)⟩
  have hlt := World.block_lt_of_cell? w _ (h5 0 x hx 0 u hu)
  simp only at hlt
  have e1 := Option.some.inj e
  rw [Option.some.inj hs] at e1
  simp only at e1
  omega
end Go.Proofs.YtckkcpplanfmhaaGreatDoor.Sha

/-
  What a loop over a row of digests keeps; a load that may come first. No conditions.
-/
namespace Go.Proofs.YtckkcpplanfmhaaGreatDoor.Sha
open Go Go.RowKit
def RaInv (l : List (List UInt8)) (n : Nat) (w : World) (vs vi : Value) (wr : World) : Prop :=
  ∃ (k j : Nat) (vb : Value), vb = vs ∧ j ≤ n + 1 ∧ j = 2 * k ∧ vi = .int .i64 j ∧ HsOwn w.heap.size wr vb ((rowL prH l).take k) ∧ Below w.heap.size w wr
end Go.Proofs.YtckkcpplanfmhaaGreatDoor.Sha

/-
  What a loop that makes a way keeps. No conditions.
-/
namespace Go.Proofs.YtckkcpplanfmhaaGreatDoor.Sha
open Go Go.RowKit
theorem HsOwn.lt {base : Nat} {w : World} {v : Value} {l : List (List UInt8)} (h : HsOwn base w v l) : ∀ g, v.ownBlock = some g → g < w.heap.size := fun g hg => (h.1.lt g hg).2
end Go.Proofs.YtckkcpplanfmhaaGreatDoor.Sha

/-
  The calls on rows of digests, for any value that reads so. Nothing that was there turns. Conditions: as told; for package merkle's the table is there.
-/
namespace Go.Proofs.YtckkcpplanfmhaaGreatDoor.Sha
open Go Go.RowKit
theorem HsOwn.base {b b' : Nat} {w : World} {v : Value} {l : List (List UInt8)} (h : HsOwn b w v l) (hb : b' ≤ b) : HsOwn b' w v l := ⟨own_base h.1 hb, h.2⟩
end Go.Proofs.YtckkcpplanfmhaaGreatDoor.Sha

/-
  Package block answers the digests that a block's transactions go by, their root, its own. New memory; nothing that was there turns. Conditions: a block of a few transactions that lies in memory; the table is there.
-/
namespace Go.Proofs.YtckkcpplanfmhaaGreatDoor.Sha
open Go Go.RowKit
/-- The digests that transactions go by. -/
def idsL (l : List TTx) : List (List UInt8) := l.map fun t => sha (sha (txB t))
theorem idsL_ok (l : List TTx) : HsOk (idsL l) := fun y hy => by
  obtain ⟨t, _, rfl⟩ := List.mem_map.1 hy
  exact sha_length _
theorem idsL_snoc {l : List TTx} {k : Nat} {t : TTx} (h : l[k]? = some t) : idsL (l.take (k + 1)) = idsL (l.take k) ++ [sha (sha (txB t))] := by
  unfold idsL
  rw [List.take_add_one, h, List.map_append]
  rfl
theorem idsL_length (l : List TTx) : (idsL l).length = l.length := by simp [idsL]
/-- The root of a block's transactions. -/
def blRoot (x : TBlk) : List UInt8 := rootL prH zM (idsL x.txs)
theorem blRoot_length (x : TBlk) : (blRoot x).length = 32 := rootL_len _ _ rfl (idsL_ok _)
end Go.Proofs.YtckkcpplanfmhaaGreatDoor.Sha

/-
  What is amiss with a block, and where: as plain data, and as the program's error. No conditions.
-/
namespace Go.Proofs.YtckkcpplanfmhaaGreatDoor.Sha
open Go Go.RowKit
/-- An error with a place around it, or none around it: the value. r: the error's number (its place in the document's order; 0: none), the place. -/
def FltV (w : World) (E : Nat → Addr) (v : Value) (r : Nat × Option Nat) : Prop :=
  (r.2 = none ∧ v = errV E r.1) ∨ ∃ q p g, r = (q + 1, some p) ∧ v = .iface 142 (.pointer (some ⟨g, 0, none⟩)) ∧ w.heap[g]? = some (.cells #[.int .i64 (p : Int), errV E (q + 1)] 144 (0, 0))
theorem FltV.below {w w' : World} {E : Nat → Addr} {v : Value} {r : Nat × Option Nat} (h : FltV w E v r) (hb : Below w.heap.size w w') : FltV w' E v r := by
  rcases h with h | ⟨q, p, g, h1, h2, h3⟩
  · exact .inl h
  · exact .inr ⟨q, p, g, h1, h2, row_below h3 hb⟩
end Go.Proofs.YtckkcpplanfmhaaGreatDoor.Sha

/-
  Package tx reads a transaction out of bytes. Nothing that was there turns. Conditions: the bytes lie where the slice says; the errors are there.
-/
namespace Go.Proofs.YtckkcpplanfmhaaGreatDoor.Sha
open Go Go.RowKit
/-- What a Reader's bytes are as a transaction. -/
structure TakeIs (bs : List UInt8) (t : TTx) (b : List UInt8) (d : Nat) : Prop where
  eq : takeTx bs 0 = (t, b, d)
end Go.Proofs.YtckkcpplanfmhaaGreatDoor.Sha

/-
  A whole box written, the new world hidden; what a loop that climbs keeps. No conditions.
-/
namespace Go.Proofs.YtckkcpplanfmhaaGreatDoor.Sha
open Go Go.RowKit
/-- Where the leaf, the answer lie. -/
structure ClAt (w : World) (g : Nat) (lf : List UInt8) (wr : World) : Prop where
  leaf : wr.heap[g]? = some (.cells (lf.map bV).toArray 44 (0, 0))
  zero : wr.heap[g + 1]? = some (.cells (zM.map bV).toArray 44 (0, 0))
  low : Below w.heap.size w wr
  lo : w.heap.size ≤ g
theorem ClAt.below {w : World} {g : Nat} {lf : List UInt8} {wr w' : World} (h : ClAt w g lf wr) (hb : Below wr.heap.size wr w') : ClAt w g lf w' :=
  ⟨row_below h.leaf hb, row_below h.zero hb, h.low.trans (hb.mono h.low.size), h.lo⟩
end Go.Proofs.YtckkcpplanfmhaaGreatDoor.Sha

/-
  The statements' own Fault, Same and Placed for an error with a place around it. Conditions: the errors are there, each its own.
-/
namespace Go.Proofs.YtckkcpplanfmhaaGreatDoor.Sha
open Go Go.RowKit
/-- A fault with a place around it. -/
def pC (c p : Int) : List Value := [.int .i64 c, .bool true, .int .i64 p, .bool false, .int .i64 0]
theorem placed_one (c p : Int) : ∀ u ∈ pC c p, u.oneCell' = true := by
  intro x hx
  simp [pC] at hx
  rcases hx with rfl | rfl | rfl | rfl | rfl <;> rfl
theorem placed_all (c p : Int) : (pC c p).toArray.all (·.oneCell') = true := by
  rw [Array.all_eq_true_iff_forall_mem]
  exact fun x hx => placed_one c p x (by simpa using hx)
set_option maxRecDepth 100000 in
theorem placed_any (c p : Int) (hc : c ≠ 0) (w : World) : Calls Tryz.prog 30 #[.int .i64 c, .int .i64 p] w fun e w' => e = .returned (.agg (pC c p).toArray) ∧ Below w.heap.size w w' := by
  have hq : (c == 0) = false := by rw [beq_eq_false_iff_ne]; exact hc
  clear hc
  go_enter Tryz.func30, Tryz.ntmps30
  go_wp2
  refine bodyPost_ret (v := .agg (pC c p).toArray) (by simp [results, Tryz.results30, go_sem]; rfl) rfl ⟨rfl, ?_⟩
  exact (Below.refl _ _).alloc (Nat.le_refl _) _
set_option maxRecDepth 100000 in
theorem same_placed (c p : Int) (w : World) : Calls Tryz.prog 44 #[.agg (pC c p).toArray, .agg (pC c p).toArray] w fun e w' => e = .returned (.bool true) ∧ Below w.heap.size w w' := by
  show Calls Tryz.prog 44 #[.agg #[.int .i64 c, .bool true, .int .i64 p, .bool false, .int .i64 0], .agg #[.int .i64 c, .bool true, .int .i64 p, .bool false, .int .i64 0]] w _
  have hq : (c == c) = true := by simp
  have hp : (p == p) = true := by simp
  go_enter Tryz.func44, Tryz.ntmps44
  go_wp2
  go_ret
  exact ⟨rfl, ((Below.refl _ _).alloc (Nat.le_refl _) _).alloc (by simp) _⟩
set_option maxHeartbeats 2000000 in
set_option maxRecDepth 100000 in
theorem fault_at (E : Nat → Addr) (q : Nat) (p : Int) (g : Nat) (w : World) (hE : Errs w E) (hq : q < 25) (hr : w.heap[g]? = some (.cells #[.int .i64 p, errV E (q + 1)] 144 (0, 0))) :
    Calls Tryz.prog 45 #[.iface 142 (.pointer (some ⟨g, 0, none⟩))] w fun e w' => e = .returned (.agg (pC ((101 + q : Nat) : Int) p).toArray) ∧ Below w.heap.size w w' := by
  obtain ⟨kk, hkk⟩ : ∃ kk : Int, kk = ((101 + q : Nat) : Int) := ⟨_, rfl⟩
  rw [← hkk]
  have HN : Hid (kk ≠ 0) := by show _ ≠ _; omega
  have hta : ∀ W, (Instr.typeAssert (.iface 250 (.pointer (some (E q)))) 37 142 true).run Tryz.prog W = .ok (.tuple #[.pointer none, .bool false]) W := fun W => by kernel_rfl
  have htb : ∀ W, (Instr.typeAssert (.iface 142 (.pointer (some ⟨g, 0, none⟩))) 37 142 true).run Tryz.prog W = .ok (.tuple #[.pointer (some ⟨g, 0, none⟩), .bool true]) W := fun W => by kernel_rfl
  have HS : Hid (∀ W, Below w.heap.size w W → Calls Tryz.prog 80 #[errV E (q + 1)] W fun e w' => e = .returned (.int .i64 kk) ∧ Below W.heap.size W w') := fun W hW => sentinel_any E q kk hkk _ (hE.below hW) hq
  have C0 : Hid (∀ W, Below w.heap.size w W → W.cell? ⟨g, 0, none⟩ = some (.int .i64 p)) := fun W hW => by rw [cell_of_row _ _ _ _ _ _ (row_below hr hW)]; rfl
  have C1 : Hid (∀ W, Below w.heap.size w W → W.cell? ⟨g, 1, none⟩ = some (.iface 250 (.pointer (some (E q))))) := fun W hW => by rw [cell_of_row _ _ _ _ _ _ (row_below hr hW)]; rfl
  clear hkk hE hr
  go_enter Tryz.func45, Tryz.ntmps45
  go_upto_region 1 with fail
  have f1 := heap_alloc_new w (.cells (fC 0).toArray 55 (0, 0))
  have b1 := (Below.refl w.heap.size w).alloc (Nat.le_refl _) (.cells (fC 0).toArray 55 (0, 0))
  generalize hw1 : World.alloc _ _ = w1
  have e1 : w.alloc (.cells (fC 0).toArray 55 (0, 0)) = w1 := hw1
  rw [e1] at f1 b1
  have FR := Lib.hid f1
  have B1 := Lib.hid b1
  have c1 := C1.out w1 b1
  clear hw1 e1 f1 b1
  go_wp2_with fail
  clear c1 hta htb
  refine wp_region_held_drew (S := (fun w' => Below w.heap.size w w')) (by kernel_rfl) (Below.drew B1.out) (fun hHeld => ?_)
  have FR : Hid (w1.drew.heap[w.heap.size]? = some (.cells (fC 0).toArray 55 (0, 0))) := FR.out
  generalize hwd : w1.drew = wd at FR hHeld ⊢
  clear hwd
  refine held_take (i := 0) (v := (.pointer (some ⟨g, 0, none⟩))) rfl (by kernel_rfl) (by kernel_rfl) (by kernel_rfl) (fun _ _ _ h => h) (Or.inl ⟨by rfl, fun w' _ => by kernel_rfl⟩) hHeld ?_
  go_frame
  refine held_take (i := 1) (v := (.pointer (some ⟨g, 0, none⟩))) rfl (by kernel_rfl) (by kernel_rfl) (by kernel_rfl) (fun _ _ _ h => h) (Or.inl ⟨by rfl, fun w' _ => by kernel_rfl⟩) hHeld ?_
  go_frame
  refine held_take (i := 2) (v := (.pointer (some ⟨g, 1, none⟩))) rfl (by kernel_rfl) (by kernel_rfl) (by kernel_rfl) (fun _ _ _ h => h) (Or.inl ⟨by rfl, fun w' _ => by kernel_rfl⟩) hHeld ?_
  go_frame
  refine held_take (i := 3) (v := (.iface 250 (.pointer (some (E q))))) rfl (by kernel_rfl) (by kernel_rfl) (by kernel_rfl) (fun _ _ _ h => h) (yieldsIf_load_one (by rfl) 37 (.tmp 42) rfl g (1) rfl _ _ (fun w' hw' => C1.out w' hw') Tryz.underlying37 rfl) hHeld ?_
  go_frame
  refine held_take (i := 5) (v := (.pointer (some ⟨g, 0, none⟩))) rfl (by kernel_rfl) (by kernel_rfl) (by kernel_rfl) (fun _ _ _ h => h) (Or.inl ⟨by rfl, fun w' _ => by kernel_rfl⟩) hHeld ?_
  go_frame
  refine held_take (i := 6) (v := (.pointer (some ⟨g, 0, none⟩))) rfl (by kernel_rfl) (by kernel_rfl) (by kernel_rfl) (fun _ _ _ h => h) (Or.inl ⟨by rfl, fun w' _ => by kernel_rfl⟩) hHeld ?_
  go_frame
  refine held_take (i := 7) (v := (.pointer (some ⟨g, 0, none⟩))) rfl (by kernel_rfl) (by kernel_rfl) (by kernel_rfl) (fun _ _ _ h => h) (Or.inl ⟨by rfl, fun w' _ => by kernel_rfl⟩) hHeld ?_
  go_frame
  refine held_take (i := 8) (v := (.int .i64 p)) rfl (by kernel_rfl) (by kernel_rfl) (by kernel_rfl) (fun _ _ _ h => h) (yieldsIf_load_one (by rfl) 3 (.tmp 47) rfl g (0) rfl _ _ (fun w' hw' => C0.out w' hw') Tryz.underlying3 rfl) hHeld ?_
  go_frame
  refine wpAnyH_ready (rs := [4]) (by kernel_rfl) (by simp) (held_cons rfl (fun K hK => ?_) AllReadyH.nil)
  go_simp
  refine (HS.out _ hHeld).mono ?_
  rintro e v1 ⟨rfl, bb⟩
  have FR := Lib.hid (row_below FR.out bb)
  have hv1 := hHeld.trans (bb.mono hHeld.size)
  clear bb hHeld
  go_wp2_with fail
  refine hK.out _ _ hv1 (fun hHeld => ?_)
  clear hK K hv1
  refine wpAnyH_ready (rs := [9]) (by kernel_rfl) (by simp) (held_cons rfl (fun K hK => ?_) AllReadyH.nil)
  go_simp
  refine (placed_any kk p HN.out _).mono ?_
  rintro e v2 ⟨rfl, bb⟩
  have FR := Lib.hid (row_below FR.out bb)
  have hv2 := hHeld.trans (bb.mono hHeld.size)
  clear bb hHeld
  go_wp2_with fail
  refine hK.out _ _ hv2 (fun hHeld => ?_)
  clear hK K hv2
  refine wpAnyH_ready (rs := [10]) (by kernel_rfl) (by simp) (held_cons rfl (fun K hK => ?_) AllReadyH.nil)
  rw [if_pos (by rfl)]
  refine wp_store_whole 55 (.tmp 2) (.tmp 49) rfl w.heap.size (fC 0) (pC kk p) 55 rfl rfl (rfl) FR.out (by kernel_rfl) (placed_all _ _) ?_
  intro v3 q1 q2
  have FR := Lib.hid q1
  have hv3 := hHeld.grown q2 hHeld.size (fun k hk => by cases hk; exact Nat.le_refl _)
  clear q1 q2 hHeld
  go_frame
  refine hK.out _ _ hv3 (fun hHeld => ?_)
  clear hK K hv3
  refine wpAnyH_done (by kernel_rfl) ?_ _
  go_wp2_with fail
  refine bodyPost_ret (results_cell_row rfl _ _ w.heap.size 55 (pC kk p).toArray (0, 0) _ rfl FR.out Tryz.underlying55 rfl (by kernel_rfl)) rfl ⟨rfl, hHeld⟩
theorem fltv_fault {w : World} {E : Nat → Addr} {v : Value} {q p : Nat} (h : FltV w E v (q + 1, some p)) : ∃ g, v = .iface 142 (.pointer (some ⟨g, 0, none⟩)) ∧ w.heap[g]? = some (.cells #[.int .i64 (p : Int), errV E (q + 1)] 144 (0, 0)) := by
  rcases h with ⟨h, _⟩ | ⟨q', p', g, h1, h2, h3⟩
  · simp at h
  · simp only [Prod.mk.injEq, Option.some.injEq, Nat.add_right_cancel_iff] at h1
    obtain ⟨rfl, rfl⟩ := h1
    exact ⟨g, h2, h3⟩
set_option maxRecDepth 100000 in
/-- An error with a place around it is the fault that it should be. -/
theorem same_at (E : Nat → Addr) (q p : Nat) (v : Value) (w : World) (hE : Errs w E) (hq : q < 25) (hf : FltV w E v (q + 1, some p)) :
    Calls Tryz.prog 14 #[v, .agg (pC ((101 + q : Nat) : Int) (p : Int)).toArray] w fun e w' => e = .returned (.bool true) ∧ Below w.heap.size w w' := by
  obtain ⟨kk, hkk⟩ : ∃ kk : Int, kk = ((101 + q : Nat) : Int) := ⟨_, rfl⟩
  obtain ⟨pp, hpp⟩ : ∃ pp : Int, pp = (p : Int) := ⟨_, rfl⟩
  obtain ⟨cs, hcs⟩ : ∃ cs, cs = pC kk pp := ⟨_, rfl⟩
  have HF : Hid (∀ W, Below w.heap.size w W → Calls Tryz.prog 45 #[v] W fun e w' => e = .returned (.agg cs.toArray) ∧ Below W.heap.size W w') := fun W hW => by
    obtain ⟨g, rfl, hr⟩ := fltv_fault hf
    rw [hcs, hkk, hpp]
    exact fault_at E q (p : Int) g W (hE.below hW) hq (row_below hr hW)
  have HSM : Hid (∀ W, Calls Tryz.prog 44 #[.agg cs.toArray, .agg cs.toArray] W fun e w' => e = .returned (.bool true) ∧ Below W.heap.size W w') := fun W => by rw [hcs]; exact same_placed kk pp W
  have LC : Hid (cs.toArray.size = 5) := by show _ = _; rw [hcs]; rfl
  rw [← hkk, ← hpp, ← hcs]
  clear hkk hpp hcs hE hf
  go_enter Tryz.func14, Tryz.ntmps14
  go_wp2_with fail
  have e1 := heap_alloc_new w (.cells cs.toArray 55)
  have b1 : Below w.heap.size w (w.alloc (.cells cs.toArray 55)) := (Below.refl _ _).alloc (Nat.le_refl _) _
  generalize hw1 : World.alloc _ _ = w1
  have e0 : w.alloc (.cells cs.toArray 55) = w1 := hw1
  rw [e0] at e1 b1
  have E1 := Lib.hid e1
  have B1 := Lib.hid b1
  clear e0 hw1 e1 b1
  refine wp_region_below (by kernel_rfl) (by kernel_rfl) w1 (Below.refl _ _) ?_
  go_big_quiet_step ((intro _; rfl))
  go_big_quiet_step ((intro hw'; exact cls hw' (HF.out _ (B1.out.trans (hw'.mono B1.out.size)))))
  go_big_quiet_want
  refine quiet_load_row 55 (.tmp 3) rfl w.heap.size rfl 55 cs.toArray (0, 0) _ (fun w' hw' => row_below E1.out hw') Tryz.underlying55 rfl (by rw [LC.out]; kernel_rfl) ?_
  go_frame
  go_big_quiet_on
  go_big_quiet_step ((intro hw'; exact cls hw' (HSM.out _)))
  go_big_quiet_step ((intro _; rfl))
  refine wpQuiet_nil ?_
  intro w2 hw2
  have B2 := Lib.hid (B1.out.trans (hw2.mono B1.out.size))
  clear hw2
  go_wp2_with fail
  go_ret
  exact ⟨rfl, B2.out⟩
end Go.Proofs.YtckkcpplanfmhaaGreatDoor.Sha
