/-
  Texts of this proof joined into one file: RefOpens, Txs, BlMath, TxNew, BlSm, TxBuilds, TxBoundsWalk, Hs, MkHs, MkPath0, MkCalls, Flt, TxReadW, MkClimb0, FltSee, RefFee. What each holds, and under which conditions, its own first sentence tells.
-/
import Derived.Maps.OwnSet
import Derived.DeepKeys4
import Derived.Great.BuildSlice
import Derived.Deep.OwnRows
import Derived.Lib.AppendZerosOnto
import Derived.Lib.Walk
import Derived.IntWalk
import Derived.Deep.Light
import Derived.Maps.AppendAt
import Derived.Lib.BufferRead
import Derived.Laws.ResultCell
import Derived.Lib.OwnKind
import Derived.Lib.Bytealg
import Derived.Lib.BytesEntry
import Derived.Test.YtlpdgjneoahdeaaDoorMg07
import Derived.Test.YtlpdgjneoahdeaaDoorMg02
import Derived.Test.YtlpdgjneoahdeaaDoorMg09
import Derived.Test.YtlpdgjneoahdeaaDoorMg06
import Derived.Test.YtlpdgjneoahdeaaDoorMg01
import Derived.Test.YtlpdgjneoahdeaaDoorMg03
import Derived.Test.YtlpdgjneoahdeaaDoorMg05
import Derived.Test.YtlpdgjneoahdeaaDoorMg04
/-
  The statements' own Opens tells whether a key of at most 80 bytes has that lock. Nothing that was there turns. Conditions: the bytes lie where the slice says, fewer than 2^45 bytes.
-/
namespace Go.Proofs.YtlpdgjneoahdeaaDoor.Sha
open Go Go.RowKit
set_option maxRecDepth 100000 in
theorem ropens_all (bs l : List UInt8) (sp : Option Addr) (n cap : Nat) (w : World) (hsrc : SrcB w (.slice sp n cap) bs) (hl : l.length = 32) (b : Bool) (hb : b = opensL bs l) :
    Calls Tryd.prog 27 #[.slice sp n cap, .agg (l.map bV).toArray] w fun e w' => e = .returned (.bool b) ∧ Below w.heap.size w w' := by
  have hs : (l.map bV).toArray.size = 32 := by simp [hl]
  have HLS := Lib.hid hs
  have HL := Lib.hid hl
  have HS := Lib.hid hsrc
  have HB := Lib.hid hb
  have hn := hsrc.le.1
  have HN := Lib.hid hn
  clear hsrc hl hb hs
  go_enter Tryd.func27, Tryd.ntmps27
  go_upto_region 1 with fail
  have F := Lib.hid (heap_alloc_new w (.cells (l.map bV).toArray 24 (0, 0)))
  have B := Lib.hid ((Below.refl w.heap.size w).alloc (Nat.le_refl _) (.cells (l.map bV).toArray 24 (0, 0)))
  generalize hw1 : World.alloc _ _ = w1
  rw [hw1] at F B
  clear hw1
  refine wp_region_below (by kernel_rfl) (by kernel_rfl) w1 (Below.refl _ _) ?_
  by_cases h80 : n ≤ 80
  · have hd : decide ((n : Int) ≤ 80) = true := decide_eq_true (by omega)
    have H80 := Lib.hid h80
    have HLEN : Hid (n ≤ 35184372088832) := by show _ ≤ _; omega
    clear h80 hn
    go_big_quiet_step ((intro _; rfl))
    go_big_quiet_step ((intro _; rfl))
    go_big_quiet_step ((intro _; rfl))
    go_big_quiet_step ((intro _; rfl))
    go_big_quiet_step ((intro _; rfl))
    go_big_quiet_step ((intro hw'; exact cls hw' (ref_any bs _ _ _ _ ((HS.out.below B.out).below hw') HLEN.out)))
    go_big_quiet_want
    refine quiet_load_row 24 (.tmp 3) rfl w.heap.size rfl 24 (l.map bV).toArray (0, 0) _ (fun w' hw' => row_below F.out hw') Tryd.underlying24 rfl (by rw [HLS.out]; kernel_rfl) ?_
    go_frame
    go_big_quiet_on
    go_big_quiet_step ((intro hw'; exact cls hw' (same_b (sha bs) l (sha_length _) HL.out b (by rw [HB.out, opensL, ← HN.out, decide_eq_true H80.out, Bool.true_and]) _)))
    repeat (go_big_quiet_step ((intro _; rfl)))
    refine wpQuiet_nil ?_
    intro w7 hw7
    have HW7 := Lib.hid (B.out.trans (hw7.mono B.out.size))
    clear hw7
    go_wp2_with fail
    go_ret
    exact ⟨rfl, HW7.out⟩
  · have hd : decide ((n : Int) ≤ 80) = false := decide_eq_false (by omega)
    have H80 := Lib.hid h80
    clear h80 hn
    repeat (go_big_quiet_step ((intro _; rfl)))
    refine wpQuiet_nil ?_
    intro w7 hw7
    have HW7 := Lib.hid (B.out.trans (hw7.mono B.out.size))
    clear hw7
    go_wp2_with fail
    go_ret
    exact ⟨by rw [HB.out, opensL, ← HN.out, decide_eq_false H80.out]; rfl, HW7.out⟩
end Go.Proofs.YtlpdgjneoahdeaaDoor.Sha

/-
  Rows of transactions, and blocks, as the model has them: four cells each behind a slice; a header's cells and a slice. No conditions.
-/
namespace Go.Proofs.YtlpdgjneoahdeaaDoor.Sha
open Go Go.RowKit
/-- A transaction stands in block b from o on. -/
def TxIn (w : World) (b o : Nat) (t : TTx) : Prop := TxOk t ∧ ∃ iv ov, w.rangeAt b o (txL t iv ov) ∧ InsAt w iv t.ins ∧ OutsAt w ov t.outs
theorem TxIn.below {w w' : World} {b o : Nat} {t : TTx} (h : TxIn w b o t) (hb : Below w.heap.size w w') : TxIn w' b o t := by
  obtain ⟨h0, iv, ov, h1, h2, h3⟩ := h
  exact ⟨h0, iv, ov, range_below h1 hb, h2.below hb, h3.below hb⟩
/-- A row of transactions behind a slice. -/
def TxsAt (w : World) (v : Value) (l : List TTx) : Prop :=
  ∃ sp cap, v = .slice sp l.length cap ∧ l.length ≤ cap ∧ (0 < l.length → ∃ b o, sp = some ⟨b, o, none⟩ ∧ ∀ i t, l[i]? = some t → TxIn w b (o + i * 4) t)
theorem TxsAt.below {w w' : World} {v : Value} {l : List TTx} (h : TxsAt w v l) (hb : Below w.heap.size w w') : TxsAt w' v l := by
  obtain ⟨sp, cap, h1, h2, h3⟩ := h
  refine ⟨sp, cap, h1, h2, fun h0 => ?_⟩
  obtain ⟨b, o, h4, h5⟩ := h3 h0
  exact ⟨b, o, h4, fun i x hx => (h5 i x hx).below hb⟩
theorem TxsAt.nil (w : World) (sp : Option Addr) (cap : Nat) : TxsAt w (.slice sp 0 cap) [] := ⟨sp, cap, rfl, Nat.zero_le _, fun h => absurd h (by simp)⟩
theorem TxsAt.shape {w : World} {v : Value} {l : List TTx} (h : TxsAt w v l) : ∃ sp cap, v = .slice sp l.length cap := by
  obtain ⟨sp, cap, h1, _⟩ := h
  exact ⟨sp, cap, h1⟩
theorem TxsAt.len {w : World} {sp : Option Addr} {n cap : Nat} {l : List TTx} (h : TxsAt w (.slice sp n cap) l) : n = l.length ∧ n ≤ cap := by
  obtain ⟨sp', cap', h1, h2, _⟩ := h
  cases h1
  exact ⟨rfl, h2⟩
/-- One of them, by its place. -/
theorem TxsAt.get {w : World} {sp : Option Addr} {n cap : Nat} {l : List TTx} (h : TxsAt w (.slice sp n cap) l) (h0 : 0 < n) :
    ∃ b o, sp = some ⟨b, o, none⟩ ∧ b < w.heap.size ∧ ∀ i t, l[i]? = some t → ∃ iv ov, w.rangeAt b (o + i * 4) (txL t iv ov) ∧ TxAt w (.agg (txL t iv ov).toArray) t := by
  obtain ⟨sp', cap', h1, h2, h3⟩ := h
  cases h1
  obtain ⟨b, o, rfl, h5⟩ := h3 h0
  refine ⟨b, o, rfl, ?_, fun i t ht => ?_⟩
  · obtain ⟨_, iv, ov, h6, _⟩ := h5 0 (l[0]) (List.getElem?_eq_getElem h0)
    exact World.block_lt_of_cell? w _ (h6 0 _ rfl)
  · obtain ⟨a, iv, ov, h6, h7, h8⟩ := h5 i t ht
    exact ⟨iv, ov, h6, a, iv, ov, rfl, h7, h8⟩
/-- A block: a header, and transactions. -/
structure TBlk where
  head : THd
  txs : List TTx
/-- A block's cells. -/
def blL (h : THd) (tv : Value) : List Value := hdL h ++ [tv]
/-- A block by value. -/
def BlkAt (w : World) (v : Value) (x : TBlk) : Prop := HdOk x.head ∧ ∃ tv, v = .agg (blL x.head tv).toArray ∧ TxsAt w tv x.txs
theorem BlkAt.below {w w' : World} {v : Value} {x : TBlk} (h : BlkAt w v x) (hb : Below w.heap.size w w') : BlkAt w' v x := by
  obtain ⟨h0, tv, h1, h2⟩ := h
  exact ⟨h0, tv, h1, h2.below hb⟩
end Go.Proofs.YtlpdgjneoahdeaaDoor.Sha

/-
  Plain mathematics of a block's bytes: what was written is read again; cut off it ends too early; longer it is none; what is read has just these bytes. No conditions beyond those that each states.
-/
namespace Go.Proofs.YtlpdgjneoahdeaaDoor.Sha
open Go Go.RowKit
def txsB (l : List TTx) : List UInt8 := l.flatMap txB
def blkB (x : TBlk) : List UInt8 := hdB x.head ++ putL x.txs.length ++ txsB x.txs
theorem txsB_cons (t : TTx) (l : List TTx) : txsB (t :: l) = txB t ++ txsB l := rfl
section
variable {α : Type} {z a : α} {p : Par α} {x : List UInt8}
end
end Go.Proofs.YtlpdgjneoahdeaaDoor.Sha

/-
  Numbers written by package compact as new memory; rows that are new grow. No conditions beyond those that each states.
-/
namespace Go.Proofs.YtlpdgjneoahdeaaDoor.Sha
open Go Go.RowKit
theorem CopyB.keep {w w1 w2 : World} {v : Value} {bs : List UInt8} (h : CopyB w w1 v bs) (hb : Below w1.heap.size w1 w2) : CopyB w w2 v bs := ⟨own_kept h.1 hb, h.2.trans (hb.mono h.2.size)⟩
end Go.Proofs.YtlpdgjneoahdeaaDoor.Sha

/-
  What of a block is small enough for the walks. No conditions.
-/
namespace Go.Proofs.YtlpdgjneoahdeaaDoor.Sha
open Go Go.RowKit
/-- A block of a few transactions, each of a few inputs and outputs. -/
def BlkSmall (x : TBlk) : Prop := (∀ t ∈ x.txs, TxSmall t) ∧ x.txs.length ≤ 1000
theorem txB_le {t : TTx} (h : TxSmall t) : (txB t).length ≤ 200100000 := by
  have h1 := h.bytes
  have h2 := h.ins0
  have h3 := h.2.2.1
  have h4 := lenN_bd t.ins.length
  have h5 := lenN_bd t.outs.length
  omega
theorem txsB_le : ∀ (l : List TTx), (∀ t ∈ l, TxSmall t) → (txsB l).length ≤ 200100000 * l.length
  | [], _ => by simp [txsB]
  | t :: l, h => by
    have ih := txsB_le l (fun u hu => h u (List.mem_cons_of_mem _ hu))
    have h1 := txB_le (h t List.mem_cons_self)
    rw [txsB_cons, List.length_append, List.length_cons]
    omega
theorem BlkSmall.txs {x : TBlk} (h : BlkSmall x) : (txsB x.txs).length ≤ 200100000000 := by
  have h1 := txsB_le x.txs h.1
  have h2 := h.2
  omega
theorem blkB_len {x : TBlk} (hh : HdOk x.head) : (blkB x).length = 80 + lenN x.txs.length + (txsB x.txs).length := by
  simp only [blkB, List.length_append, hdB_length hh, putL_length]
theorem BlkSmall.len {x : TBlk} (h : BlkSmall x) (hh : HdOk x.head) : (blkB x).length ≤ 200200000000 := by
  have h1 := h.txs
  have h2 := lenN_bd x.txs.length
  rw [blkB_len hh]
  omega
end Go.Proofs.YtlpdgjneoahdeaaDoor.Sha

/-
  What literals of transactions, inputs, outputs and places lay. No conditions beyond those that each states.
-/
namespace Go.Proofs.YtlpdgjneoahdeaaDoor.Sha
open Go Go.RowKit
def zH : List UInt8 := List.replicate 32 0
end Go.Proofs.YtlpdgjneoahdeaaDoor.Sha

/-
  The statement on how many inputs and outputs, how long a key, how great an amount a transaction may have answers true. Condition: the errors are there.
-/
namespace Go.Proofs.YtlpdgjneoahdeaaDoor.Sha
open Go Go.RowKit
def bdN (i : Nat) : TIn := ⟨zH, i + 1, [], 0⟩
def bdI (k : Nat) : List TIn := (List.range k).map bdN
def bdY : TOut := ⟨0, zH⟩
def bdO (k : Nat) : List TOut := List.replicate k bdY
/-- While inputs, or outputs, are appended. -/
def BdAt (w : World) (gI gO g6 k m : Nat) (iv ov : Value) (wr : World) : Prop :=
  InsOwn gI wr iv (bdI k) (List.replicate k (.slice none 0 0)) ∧ OutsOwn gI wr ov (bdO m) ∧ (∀ g, iv.ownBlock = some g → g = gI ∨ g6 < g) ∧ (∀ g, ov.ownBlock = some g → g = gO ∨ g6 < g) ∧ iv.ownBlock ≠ ov.ownBlock
    ∧ wr.heap[g6]? = some (.cells [nV 0, iv, ov, nV 0].toArray 31 (0, 0)) ∧ Below w.heap.size w wr ∧ g6 < wr.heap.size
theorem BdAt.tx {w wr : World} {gI gO g6 k m : Nat} {iv ov : Value} (h : BdAt w gI gO g6 k m iv ov wr) : TxAt wr (.agg [nV 0, iv, ov, nV 0].toArray) ⟨0, bdI k, bdO m, 0⟩ := ⟨⟨Nat.zero_le _, Nat.zero_le _⟩, iv, ov, rfl, h.1.at, h.2.1.at⟩
end Go.Proofs.YtlpdgjneoahdeaaDoor.Sha

/-
  Rows of digests: a slice that reads as a list of digests (32 cells each), a row of one's own that grows. No conditions beyond those that each states.
-/
namespace Go.Proofs.YtlpdgjneoahdeaaDoor.Sha
open Go Go.RowKit
/-- Digests of 32 bytes each. -/
def HsOk (l : List (List UInt8)) : Prop := ∀ x ∈ l, x.length = 32
theorem HsOk.get {l : List (List UInt8)} (h : HsOk l) {i : Nat} (hi : i < l.length) : (l.getD i []).length = 32 := by
  rw [List.getD_eq_getElem?_getD, List.getElem?_eq_getElem hi]
  exact h _ (List.getElem_mem _)
theorem HsOk.snoc {l : List (List UInt8)} (h : HsOk l) {x : List UInt8} (hx : x.length = 32) : HsOk (l ++ [x]) := fun y hy => by
  rcases List.mem_append.1 hy with hy | hy
  · exact h y hy
  · rw [List.mem_singleton.1 hy]; exact hx
/-- Their cells. -/
def hsL (l : List (List UInt8)) : List Value := l.flatMap fun x => x.map bV
theorem hsL_snoc (l : List (List UInt8)) (x : List UInt8) : hsL (l ++ [x]) = hsL l ++ x.map bV := by simp [hsL, List.flatMap_append]
theorem hsL_get : ∀ (l : List (List UInt8)) (i : Nat) (y : List UInt8), HsOk l → l[i]? = some y → ∀ j, j < 32 → (hsL l)[i * 32 + j]? = (y.map bV)[j]?
  | z :: l, 0, y, ho, hy, j, hj => by
    simp only [List.getElem?_cons_zero, Option.some.injEq] at hy
    subst hy
    rw [Nat.zero_mul, Nat.zero_add, hsL, List.flatMap_cons, List.getElem?_append_left (by rw [List.length_map, ho z List.mem_cons_self]; exact hj)]
  | z :: l, i + 1, y, ho, hy, j, hj => by
    have e : (z.map bV).length = 32 := by rw [List.length_map, ho z List.mem_cons_self]
    rw [hsL, List.flatMap_cons, List.getElem?_append_right (by omega), e, show (i + 1) * 32 + j - 32 = i * 32 + j by omega]
    exact hsL_get l i y (fun z hz => ho z (List.mem_cons_of_mem _ hz)) (by simpa using hy) j hj
  | [], _, _, _, hy, _, _ => by simp at hy
/-- The slice v reads as these digests. -/
def HsAt (w : World) (v : Value) (l : List (List UInt8)) : Prop :=
  HsOk l ∧ ∃ sp cap, v = .slice sp l.length cap ∧ l.length ≤ cap ∧ (0 < l.length → ∃ b o, sp = some ⟨b, o, none⟩ ∧ ∀ i x, l[i]? = some x → w.rangeAt b (o + i * 32) (x.map bV))
theorem HsAt.below {w w' : World} {v : Value} {l : List (List UInt8)} (h : HsAt w v l) (hb : Below w.heap.size w w') : HsAt w' v l := by
  obtain ⟨h0, sp, cap, h1, h2, h3⟩ := h
  refine ⟨h0, sp, cap, h1, h2, fun h0 => ?_⟩
  obtain ⟨b, o, h4, h5⟩ := h3 h0
  exact ⟨b, o, h4, fun i x hx => range_below (h5 i x hx) hb⟩
theorem HsAt.nil (w : World) (sp : Option Addr) (cap : Nat) : HsAt w (.slice sp 0 cap) [] := ⟨fun x hx => by simp at hx, sp, cap, rfl, by simp, fun h => by simp at h⟩
theorem HsAt.len {w : World} {sp : Option Addr} {n cap : Nat} {l : List (List UInt8)} (h : HsAt w (.slice sp n cap) l) : n = l.length ∧ n ≤ cap := by
  obtain ⟨_, sp', cap', hv, hc, _⟩ := h
  cases hv
  exact ⟨rfl, hc⟩
/-- Where one of them lies. -/
theorem HsAt.get {w : World} {sp : Option Addr} {n cap : Nat} {l : List (List UInt8)} (h : HsAt w (.slice sp n cap) l) (h0 : 0 < n) : ∃ b o, sp = some ⟨b, o, none⟩ ∧ b < w.heap.size ∧ ∀ i, i < n → w.rangeAt b (o + i * 32) ((l.getD i []).map bV) := by
  obtain ⟨ho, sp', cap', hv, hc, hr⟩ := h
  cases hv
  obtain ⟨b, o, hs, hx⟩ := hr h0
  have hg : ∀ i, i < l.length → w.rangeAt b (o + i * 32) ((l.getD i []).map bV) := fun i hi => hx i _ (by rw [List.getD_eq_getElem?_getD, List.getElem?_eq_getElem hi]; rfl)
  refine ⟨b, o, hs, ?_, hg⟩
  obtain ⟨x, hx0⟩ : ∃ x, (l.getD 0 [])[0]? = some x := ⟨_, List.getElem?_eq_getElem (by rw [HsOk.get ho h0]; omega)⟩
  exact World.block_lt_of_cell? w _ (hg 0 h0 0 (bV x) (by rw [List.getElem?_map, hx0]; rfl))
/-- A row of digests of one's own. -/
def HsOwn (base : Nat) (w : World) (v : Value) (l : List (List UInt8)) : Prop := w.ownsRow base 24 32 v l.length (hsL l) ∧ HsOk l
theorem HsOwn.nil (base : Nat) (w : World) : HsOwn base w (.slice none 0 0) [] := ⟨World.ownsRow_nil _ _ _ _, fun _ h => absurd h (by simp)⟩
section
variable {base : Nat} {w w' : World} {v v' : Value} {l : List (List UInt8)}
theorem HsOwn.keep (h : HsOwn base w v l) (hb : Below w.heap.size w w') : HsOwn base w' v l := ⟨own_kept h.1 hb, h.2⟩
theorem HsOwn.kept (h : HsOwn base w v l) {q : Option Nat} (hg : w.grownBy w' q) (hb : v.ownBlock = none ∨ v.ownBlock ≠ q) : HsOwn base w' v l := ⟨h.1.kept hg hb, h.2⟩
theorem HsOwn.push {x : List UInt8} (ho : HsOk l) (hx : x.length = 32) (hown : w'.ownsRow base 24 32 v' (l.length + 1) (hsL l ++ x.map bV)) : HsOwn base w' v' (l ++ [x]) := by
  refine ⟨?_, ho.snoc hx⟩
  rw [hsL_snoc, List.length_append]
  exact hown
/-- Such a row as a slice of digests. -/
theorem HsOwn.at (h : HsOwn base w v l) : HsAt w v l := by
  obtain ⟨h2, h3⟩ := h
  refine ⟨h3, ?_⟩
  rcases h2.2 with ⟨hv, h0⟩ | ⟨g, cap, cur, hv, hb, hc, hn, hm, hs, ht⟩
  · exact ⟨none, 0, by rw [hv, h0], by omega, fun h => by omega⟩
  · subst hv
    refine ⟨_, cap, rfl, hn, fun h0 => ⟨g, 0, rfl, fun i x hx => ?_⟩⟩
    have hi := (List.getElem?_eq_some_iff.1 hx).1
    have hxo := h3 x (List.mem_of_getElem? hx)
    intro j u hj
    have hj32 : j < 32 := by
      have := (List.getElem?_eq_some_iff.1 hj).1
      rwa [List.length_map, hxo] at this
    rw [Nat.zero_add, h2.cellAt (i * 32 + j) (by omega), hsL_get l i x h3 hx j hj32]
    exact hj
end
/-- A part of such a slice. -/
theorem HsAt.cut {w : World} {sp : Option Addr} {n cap : Nat} {l : List (List UInt8)} (h : HsAt w (.slice sp n cap) l) (i r : Nat) (h1 : i ≤ r) (h2 : r ≤ n) : HsAt w (sliced sp i r cap 32) ((l.take r).drop i) := by
  have hn := h.len
  have hok := h.1
  have hl : ((l.take r).drop i).length = r - i := by rw [List.length_drop, List.length_take]; omega
  refine ⟨fun x hx => hok x (List.mem_of_mem_take (List.mem_of_mem_drop hx)), if cap = i then sp else sp.map (·.add (i * 32)), cap - i, by rw [sliced, hl], by omega, fun h0 => ?_⟩
  obtain ⟨b, o, hs, _, _⟩ := h.get (by omega)
  obtain ⟨_, sp', cap', hv, hc, hr⟩ := h
  cases hv
  obtain ⟨b, o, hs, hx⟩ := hr (by omega)
  subst hs
  refine ⟨b, o + i * 32, by rw [if_neg (by omega)]; simp [Addr.add_mid], fun j x hj => ?_⟩
  have hj2 : j < r - i := by have := (List.getElem?_eq_some_iff.1 hj).1; omega
  rw [List.getElem?_drop, List.getElem?_take_of_lt (by omega)] at hj
  have := hx (i + j) x hj
  rwa [show o + (i + j) * 32 = o + i * 32 + j * 32 by omega] at this
end Go.Proofs.YtlpdgjneoahdeaaDoor.Sha

/-
  Rows of digests, roots and ways: lengths, what is kept when another block turns. No conditions beyond those that each states.
-/
namespace Go.Proofs.YtlpdgjneoahdeaaDoor.Sha
open Go Go.RowKit
/-- 32 bytes of 0. -/
def zM : List UInt8 := List.replicate 32 0
theorem HsAt.shape {w : World} {v : Value} {l : List (List UInt8)} (h : HsAt w v l) : ∃ sp cap, v = .slice sp l.length cap := by
  obtain ⟨_, sp, cap, h1, _, _⟩ := h
  exact ⟨sp, cap, h1⟩
theorem HsAt.off {w w' : World} {v : Value} {l : List (List UInt8)} {q : Option Nat} (h : HsAt w v l) (ho : Off v q) (hg : w.grownBy w' q) : HsAt w' v l := by
  obtain ⟨h0, sp, cap, rfl, h2, h3⟩ := h
  refine ⟨h0, sp, cap, rfl, h2, fun h0 => ?_⟩
  obtain ⟨b, o, rfl, h5⟩ := h3 h0
  refine ⟨b, o, rfl, fun i x hx j u hj => ?_⟩
  have h6 := h5 i x hx j u hj
  have hlt := World.block_lt_of_cell? w _ h6
  simp only at hlt
  rw [World.cell?_of_block (hg.block b hlt (fun e => ho _ _ _ rfl h0 e.symm))]
  exact h6
theorem HsAt.fresh {w : World} {v : Value} {l : List (List UInt8)} {k : Nat} (h : HsAt w v l) (hk : w.heap.size ≤ k) : Off v (some k) := fun sp n cap hv hn e => by
  obtain ⟨h0, sp', cap', h1, h2, h3⟩ := h
  rw [h1] at hv
  cases hv
  obtain ⟨b, o, hs, h5⟩ := h3 hn
  obtain ⟨x, hx⟩ : ∃ x, l[0]? = some x := ⟨_, List.getElem?_eq_getElem hn⟩
  have hx32 := h0 x (List.mem_of_getElem? hx)
  obtain ⟨u, hu⟩ : ∃ u, (x.map bV)[0]? = some u := ⟨_, List.getElem?_eq_getElem (by rw [List.length_map]; omega)⟩
  have hlt := World.block_lt_of_cell? w _ (h5 0 x hx 0 u hu)
  simp only at hlt
  have e1 := Option.some.inj e
  rw [Option.some.inj hs] at e1
  simp only at e1
  omega
end Go.Proofs.YtlpdgjneoahdeaaDoor.Sha

/-
  What a loop that makes a way keeps. No conditions.
-/
namespace Go.Proofs.YtlpdgjneoahdeaaDoor.Sha
open Go Go.RowKit
theorem HsOwn.lt {base : Nat} {w : World} {v : Value} {l : List (List UInt8)} (h : HsOwn base w v l) : ∀ g, v.ownBlock = some g → g < w.heap.size := fun g hg => (h.1.lt g hg).2
end Go.Proofs.YtlpdgjneoahdeaaDoor.Sha

/-
  The calls on rows of digests, for any value that reads so. Nothing that was there turns. Conditions: as told; for package merkle's the table is there.
-/
namespace Go.Proofs.YtlpdgjneoahdeaaDoor.Sha
open Go Go.RowKit
theorem HsOwn.base {b b' : Nat} {w : World} {v : Value} {l : List (List UInt8)} (h : HsOwn b w v l) (hb : b' ≤ b) : HsOwn b' w v l := ⟨own_base h.1 hb, h.2⟩
end Go.Proofs.YtlpdgjneoahdeaaDoor.Sha

/-
  What is amiss with a block, and where: as plain data, and as the program's error. No conditions.
-/
namespace Go.Proofs.YtlpdgjneoahdeaaDoor.Sha
open Go Go.RowKit
/-- An error with a place around it, or none around it: the value. r: the error's number (its place in the document's order; 0: none), the place. -/
def FltV (w : World) (E : Nat → Addr) (v : Value) (r : Nat × Option Nat) : Prop :=
  (r.2 = none ∧ v = errV E r.1) ∨ ∃ q p g, r = (q + 1, some p) ∧ v = .iface 68 (.pointer (some ⟨g, 0, none⟩)) ∧ w.heap[g]? = some (.cells #[.int .i64 (p : Int), errV E (q + 1)] 70 (0, 0))
theorem FltV.below {w w' : World} {E : Nat → Addr} {v : Value} {r : Nat × Option Nat} (h : FltV w E v r) (hb : Below w.heap.size w w') : FltV w' E v r := by
  rcases h with h | ⟨q, p, g, h1, h2, h3⟩
  · exact .inl h
  · exact .inr ⟨q, p, g, h1, h2, row_below h3 hb⟩
end Go.Proofs.YtlpdgjneoahdeaaDoor.Sha

/-
  Package tx reads a transaction out of bytes. Nothing that was there turns. Conditions: the bytes lie where the slice says; the errors are there.
-/
namespace Go.Proofs.YtlpdgjneoahdeaaDoor.Sha
open Go Go.RowKit
/-- What a Reader's bytes are as a transaction. -/
structure TakeIs (bs : List UInt8) (t : TTx) (b : List UInt8) (d : Nat) : Prop where
  eq : takeTx bs 0 = (t, b, d)
end Go.Proofs.YtlpdgjneoahdeaaDoor.Sha

/-
  A whole box written, the new world hidden; what a loop that climbs keeps. No conditions.
-/
namespace Go.Proofs.YtlpdgjneoahdeaaDoor.Sha
open Go Go.RowKit
/-- Where the leaf, the answer lie. -/
structure ClAt (w : World) (g : Nat) (lf : List UInt8) (wr : World) : Prop where
  leaf : wr.heap[g]? = some (.cells (lf.map bV).toArray 24 (0, 0))
  zero : wr.heap[g + 1]? = some (.cells (zM.map bV).toArray 24 (0, 0))
  low : Below w.heap.size w wr
  lo : w.heap.size ≤ g
theorem ClAt.below {w : World} {g : Nat} {lf : List UInt8} {wr w' : World} (h : ClAt w g lf wr) (hb : Below wr.heap.size wr w') : ClAt w g lf w' :=
  ⟨row_below h.leaf hb, row_below h.zero hb, h.low.trans (hb.mono h.low.size), h.lo⟩
end Go.Proofs.YtlpdgjneoahdeaaDoor.Sha

/-
  The statements' own Fault, Same and Placed for an error with a place around it. Conditions: the errors are there, each its own.
-/
namespace Go.Proofs.YtlpdgjneoahdeaaDoor.Sha
open Go Go.RowKit
/-- A fault with a place around it. -/
def pC (c p : Int) : List Value := [.int .i64 c, .bool true, .int .i64 p, .bool false, .int .i64 0]
theorem placed_one (c p : Int) : ∀ u ∈ pC c p, u.oneCell' = true := by
  intro x hx
  simp [pC] at hx
  rcases hx with rfl | rfl | rfl | rfl | rfl <;> rfl
theorem placed_all (c p : Int) : (pC c p).toArray.all (·.oneCell') = true := by
  rw [Array.all_eq_true_iff_forall_mem]
  exact fun x hx => placed_one c p x (by simpa using hx)
set_option maxRecDepth 100000 in
theorem placed_any (c p : Int) (hc : c ≠ 0) (w : World) : Calls Tryd.prog 19 #[.int .i64 c, .int .i64 p] w fun e w' => e = .returned (.agg (pC c p).toArray) ∧ Below w.heap.size w w' := by
  have hq : (c == 0) = false := by rw [beq_eq_false_iff_ne]; exact hc
  clear hc
  go_enter Tryd.func19, Tryd.ntmps19
  go_wp2
  refine bodyPost_ret (v := .agg (pC c p).toArray) (by simp [results, Tryd.results19, go_sem]; rfl) rfl ⟨rfl, ?_⟩
  exact (Below.refl _ _).alloc (Nat.le_refl _) _
set_option maxRecDepth 100000 in
theorem same_placed (c p : Int) (w : World) : Calls Tryd.prog 32 #[.agg (pC c p).toArray, .agg (pC c p).toArray] w fun e w' => e = .returned (.bool true) ∧ Below w.heap.size w w' := by
  show Calls Tryd.prog 32 #[.agg #[.int .i64 c, .bool true, .int .i64 p, .bool false, .int .i64 0], .agg #[.int .i64 c, .bool true, .int .i64 p, .bool false, .int .i64 0]] w _
  have hq : (c == c) = true := by simp
  have hp : (p == p) = true := by simp
  go_enter Tryd.func32, Tryd.ntmps32
  go_wp2
  go_ret
  exact ⟨rfl, ((Below.refl _ _).alloc (Nat.le_refl _) _).alloc (by simp) _⟩
set_option maxHeartbeats 2000000 in
set_option maxRecDepth 100000 in
theorem fault_at (E : Nat → Addr) (q : Nat) (p : Int) (g : Nat) (w : World) (hE : Errs w E) (hq : q < 25) (hr : w.heap[g]? = some (.cells #[.int .i64 p, errV E (q + 1)] 70 (0, 0))) :
    Calls Tryd.prog 33 #[.iface 68 (.pointer (some ⟨g, 0, none⟩))] w fun e w' => e = .returned (.agg (pC ((101 + q : Nat) : Int) p).toArray) ∧ Below w.heap.size w w' := by
  obtain ⟨kk, hkk⟩ : ∃ kk : Int, kk = ((101 + q : Nat) : Int) := ⟨_, rfl⟩
  rw [← hkk]
  have HN : Hid (kk ≠ 0) := by show _ ≠ _; omega
  have hta : ∀ W, (Instr.typeAssert (.iface 114 (.pointer (some (E q)))) 37 68 true).run Tryd.prog W = .ok (.tuple #[.pointer none, .bool false]) W := fun W => by kernel_rfl
  have htb : ∀ W, (Instr.typeAssert (.iface 68 (.pointer (some ⟨g, 0, none⟩))) 37 68 true).run Tryd.prog W = .ok (.tuple #[.pointer (some ⟨g, 0, none⟩), .bool true]) W := fun W => by kernel_rfl
  have HS : Hid (∀ W, Below w.heap.size w W → Calls Tryd.prog 39 #[errV E (q + 1)] W fun e w' => e = .returned (.int .i64 kk) ∧ Below W.heap.size W w') := fun W hW => sentinel_any E q kk hkk _ (hE.below hW) hq
  have C0 : Hid (∀ W, Below w.heap.size w W → W.cell? ⟨g, 0, none⟩ = some (.int .i64 p)) := fun W hW => by rw [cell_of_row _ _ _ _ _ _ (row_below hr hW)]; rfl
  have C1 : Hid (∀ W, Below w.heap.size w W → W.cell? ⟨g, 1, none⟩ = some (.iface 114 (.pointer (some (E q))))) := fun W hW => by rw [cell_of_row _ _ _ _ _ _ (row_below hr hW)]; rfl
  clear hkk hE hr
  go_enter Tryd.func33, Tryd.ntmps33
  go_upto_region 1 with fail
  have f1 := heap_alloc_new w (.cells (fC 0).toArray 41 (0, 0))
  have b1 := (Below.refl w.heap.size w).alloc (Nat.le_refl _) (.cells (fC 0).toArray 41 (0, 0))
  generalize hw1 : World.alloc _ _ = w1
  have e1 : w.alloc (.cells (fC 0).toArray 41 (0, 0)) = w1 := hw1
  rw [e1] at f1 b1
  have FR := Lib.hid f1
  have B1 := Lib.hid b1
  have c1 := C1.out w1 b1
  clear hw1 e1 f1 b1
  go_wp2_with fail
  clear c1 hta htb
  refine wp_region_held_drew (S := (fun w' => Below w.heap.size w w')) (by kernel_rfl) (Below.drew B1.out) (fun hHeld => ?_)
  have FR : Hid (w1.drew.heap[w.heap.size]? = some (.cells (fC 0).toArray 41 (0, 0))) := FR.out
  generalize hwd : w1.drew = wd at FR hHeld ⊢
  clear hwd
  refine held_take (i := 0) (v := (.pointer (some ⟨g, 0, none⟩))) rfl (by kernel_rfl) (by kernel_rfl) (by kernel_rfl) (fun _ _ _ h => h) (Or.inl ⟨by rfl, fun w' _ => by kernel_rfl⟩) hHeld ?_
  go_frame
  refine held_take (i := 1) (v := (.pointer (some ⟨g, 0, none⟩))) rfl (by kernel_rfl) (by kernel_rfl) (by kernel_rfl) (fun _ _ _ h => h) (Or.inl ⟨by rfl, fun w' _ => by kernel_rfl⟩) hHeld ?_
  go_frame
  refine held_take (i := 2) (v := (.pointer (some ⟨g, 1, none⟩))) rfl (by kernel_rfl) (by kernel_rfl) (by kernel_rfl) (fun _ _ _ h => h) (Or.inl ⟨by rfl, fun w' _ => by kernel_rfl⟩) hHeld ?_
  go_frame
  refine held_take (i := 3) (v := (.iface 114 (.pointer (some (E q))))) rfl (by kernel_rfl) (by kernel_rfl) (by kernel_rfl) (fun _ _ _ h => h) (yieldsIf_load_one (by rfl) 37 (.tmp 42) rfl g (1) rfl _ _ (fun w' hw' => C1.out w' hw') Tryd.underlying37 rfl) hHeld ?_
  go_frame
  refine held_take (i := 5) (v := (.pointer (some ⟨g, 0, none⟩))) rfl (by kernel_rfl) (by kernel_rfl) (by kernel_rfl) (fun _ _ _ h => h) (Or.inl ⟨by rfl, fun w' _ => by kernel_rfl⟩) hHeld ?_
  go_frame
  refine held_take (i := 6) (v := (.pointer (some ⟨g, 0, none⟩))) rfl (by kernel_rfl) (by kernel_rfl) (by kernel_rfl) (fun _ _ _ h => h) (Or.inl ⟨by rfl, fun w' _ => by kernel_rfl⟩) hHeld ?_
  go_frame
  refine held_take (i := 7) (v := (.pointer (some ⟨g, 0, none⟩))) rfl (by kernel_rfl) (by kernel_rfl) (by kernel_rfl) (fun _ _ _ h => h) (Or.inl ⟨by rfl, fun w' _ => by kernel_rfl⟩) hHeld ?_
  go_frame
  refine held_take (i := 8) (v := (.int .i64 p)) rfl (by kernel_rfl) (by kernel_rfl) (by kernel_rfl) (fun _ _ _ h => h) (yieldsIf_load_one (by rfl) 3 (.tmp 47) rfl g (0) rfl _ _ (fun w' hw' => C0.out w' hw') Tryd.underlying3 rfl) hHeld ?_
  go_frame
  refine wpAnyH_ready (rs := [4]) (by kernel_rfl) (by simp) (held_cons rfl (fun K hK => ?_) AllReadyH.nil)
  go_simp
  refine (HS.out _ hHeld).mono ?_
  rintro e v1 ⟨rfl, bb⟩
  have FR := Lib.hid (row_below FR.out bb)
  have hv1 := hHeld.trans (bb.mono hHeld.size)
  clear bb hHeld
  go_wp2_with fail
  refine hK.out _ _ hv1 (fun hHeld => ?_)
  clear hK K hv1
  refine wpAnyH_ready (rs := [9]) (by kernel_rfl) (by simp) (held_cons rfl (fun K hK => ?_) AllReadyH.nil)
  go_simp
  refine (placed_any kk p HN.out _).mono ?_
  rintro e v2 ⟨rfl, bb⟩
  have FR := Lib.hid (row_below FR.out bb)
  have hv2 := hHeld.trans (bb.mono hHeld.size)
  clear bb hHeld
  go_wp2_with fail
  refine hK.out _ _ hv2 (fun hHeld => ?_)
  clear hK K hv2
  refine wpAnyH_ready (rs := [10]) (by kernel_rfl) (by simp) (held_cons rfl (fun K hK => ?_) AllReadyH.nil)
  rw [if_pos (by rfl)]
  refine wp_store_whole 41 (.tmp 2) (.tmp 49) rfl w.heap.size (fC 0) (pC kk p) 41 rfl rfl (rfl) FR.out (by kernel_rfl) (placed_all _ _) ?_
  intro v3 q1 q2
  have FR := Lib.hid q1
  have hv3 := hHeld.grown q2 hHeld.size (fun k hk => by cases hk; exact Nat.le_refl _)
  clear q1 q2 hHeld
  go_frame
  refine hK.out _ _ hv3 (fun hHeld => ?_)
  clear hK K hv3
  refine wpAnyH_done (by kernel_rfl) ?_ _
  go_wp2_with fail
  refine bodyPost_ret (results_cell_row rfl _ _ w.heap.size 41 (pC kk p).toArray (0, 0) _ rfl FR.out Tryd.underlying41 rfl (by kernel_rfl)) rfl ⟨rfl, hHeld⟩
theorem fltv_fault {w : World} {E : Nat → Addr} {v : Value} {q p : Nat} (h : FltV w E v (q + 1, some p)) : ∃ g, v = .iface 68 (.pointer (some ⟨g, 0, none⟩)) ∧ w.heap[g]? = some (.cells #[.int .i64 (p : Int), errV E (q + 1)] 70 (0, 0)) := by
  rcases h with ⟨h, _⟩ | ⟨q', p', g, h1, h2, h3⟩
  · simp at h
  · simp only [Prod.mk.injEq, Option.some.injEq, Nat.add_right_cancel_iff] at h1
    obtain ⟨rfl, rfl⟩ := h1
    exact ⟨g, h2, h3⟩
set_option maxRecDepth 100000 in
/-- An error with a place around it is the fault that it should be. -/
theorem same_at (E : Nat → Addr) (q p : Nat) (v : Value) (w : World) (hE : Errs w E) (hq : q < 25) (hf : FltV w E v (q + 1, some p)) :
    Calls Tryd.prog 14 #[v, .agg (pC ((101 + q : Nat) : Int) (p : Int)).toArray] w fun e w' => e = .returned (.bool true) ∧ Below w.heap.size w w' := by
  obtain ⟨kk, hkk⟩ : ∃ kk : Int, kk = ((101 + q : Nat) : Int) := ⟨_, rfl⟩
  obtain ⟨pp, hpp⟩ : ∃ pp : Int, pp = (p : Int) := ⟨_, rfl⟩
  obtain ⟨cs, hcs⟩ : ∃ cs, cs = pC kk pp := ⟨_, rfl⟩
  have HF : Hid (∀ W, Below w.heap.size w W → Calls Tryd.prog 33 #[v] W fun e w' => e = .returned (.agg cs.toArray) ∧ Below W.heap.size W w') := fun W hW => by
    obtain ⟨g, rfl, hr⟩ := fltv_fault hf
    rw [hcs, hkk, hpp]
    exact fault_at E q (p : Int) g W (hE.below hW) hq (row_below hr hW)
  have HSM : Hid (∀ W, Calls Tryd.prog 32 #[.agg cs.toArray, .agg cs.toArray] W fun e w' => e = .returned (.bool true) ∧ Below W.heap.size W w') := fun W => by rw [hcs]; exact same_placed kk pp W
  have LC : Hid (cs.toArray.size = 5) := by show _ = _; rw [hcs]; rfl
  rw [← hkk, ← hpp, ← hcs]
  clear hkk hpp hcs hE hf
  go_enter Tryd.func14, Tryd.ntmps14
  go_wp2_with fail
  have e1 := heap_alloc_new w (.cells cs.toArray 41)
  have b1 : Below w.heap.size w (w.alloc (.cells cs.toArray 41)) := (Below.refl _ _).alloc (Nat.le_refl _) _
  generalize hw1 : World.alloc _ _ = w1
  have e0 : w.alloc (.cells cs.toArray 41) = w1 := hw1
  rw [e0] at e1 b1
  have E1 := Lib.hid e1
  have B1 := Lib.hid b1
  clear e0 hw1 e1 b1
  refine wp_region_below (by kernel_rfl) (by kernel_rfl) w1 (Below.refl _ _) ?_
  go_big_quiet_step ((intro _; rfl))
  go_big_quiet_step ((intro hw'; exact cls hw' (HF.out _ (B1.out.trans (hw'.mono B1.out.size)))))
  go_big_quiet_want
  refine quiet_load_row 41 (.tmp 3) rfl w.heap.size rfl 41 cs.toArray (0, 0) _ (fun w' hw' => row_below E1.out hw') Tryd.underlying41 rfl (by rw [LC.out]; kernel_rfl) ?_
  go_frame
  go_big_quiet_on
  go_big_quiet_step ((intro hw'; exact cls hw' (HSM.out _)))
  go_big_quiet_step ((intro _; rfl))
  refine wpQuiet_nil ?_
  intro w2 hw2
  have B2 := Lib.hid (B1.out.trans (hw2.mono B1.out.size))
  clear hw2
  go_wp2_with fail
  go_ret
  exact ⟨rfl, B2.out⟩
end Go.Proofs.YtlpdgjneoahdeaaDoor.Sha

/-
  The statements' own: what a transaction leaves over of its coins, or its first fault. Nothing that was there turns. Conditions: the transaction and the coins lie in memory, at most a million inputs and outputs; amounts of 64 bits.
-/
namespace Go.Proofs.YtlpdgjneoahdeaaDoor.Sha
open Go Go.RowKit
def opB (t : TTx) (ms : List TMn) : List Bool := (t.ins.zip ms).map fun e => opensL e.1.key e.2.lock
def feeV (va vb : List Nat) : Nat × List Value := if (sumIs va && sumIs vb) = false then (0, fC 105) else if sumL va < sumL vb then (0, fC 117) else (sumL va - sumL vb, fC 0)
def feeL (t : TTx) (ms : List TMn) : Nat × List Value :=
  if ms.length ≠ t.ins.length then (0, fC 102) else
  match (opB t ms).findIdx? (fun b => !b) with
  | some i => (0, pC 114 (i : Int))
  | none => feeV (ms.map (·.val)) (t.outs.map (·.val))
theorem opB_get {t : TTx} {ms : List TMn} {i : Nat} {x : TIn} {m : TMn} (h1 : t.ins[i]? = some x) (h2 : ms[i]? = some m) : (opB t ms)[i]? = some (opensL x.key m.lock) := by
  unfold opB
  have e : (t.ins.zip ms)[i]? = some (x, m) := by
    rw [List.getElem?_zip_eq_some]
    exact ⟨h1, h2⟩
  rw [List.getElem?_map, e]
  rfl
theorem shut_at {B : List Bool} {i : Nat} (h : ∀ j, j < i → B[j]? = some true) (hi : B[i]? = some false) : B.findIdx? (fun b => !b) = some i := by
  have hl := (List.getElem?_eq_some_iff.1 hi).1
  rw [List.findIdx?_eq_some_iff_getElem]
  refine ⟨hl, by rw [(List.getElem?_eq_some_iff.1 hi).2]; rfl, fun j hj => ?_⟩
  rw [(List.getElem?_eq_some_iff.1 (h j hj)).2]
  decide
theorem shut_no {B : List Bool} (h : ∀ j, j < B.length → B[j]? = some true) : B.findIdx? (fun b => !b) = none := by
  rw [List.findIdx?_eq_none_iff]
  intro b hb
  obtain ⟨j, hj, rfl⟩ := List.mem_iff_getElem.1 hb
  rw [(List.getElem?_eq_some_iff.1 (h j hj)).2]
  rfl
theorem flat_u64 (l : List Nat) : (l.map fun x => [uV x]).flatten = l.map uV := by
  induction l with
  | nil => rfl
  | cons x l ih => rw [List.map_cons, List.flatten_cons, ih]; rfl
theorem results_tc {P : Program} {fn : Func} {p u : Tmp} {ty : TypeId} (h : fn.results = #[.tmp u, .cell p ty]) (tmps : Array Value) (w : World) (g : Nat) (t : TypeId) (cs : Array Value) (fr : Nat × Nat) (d : TypeDesc)
    (hx : tmps.getD p undef = .pointer (some ⟨g, 0, none⟩)) (hg : w.heap[g]? = some (.cells cs t fr)) (hu : P.underlying ty = some d) (hd : (match d with | .struct _ | .array _ _ => true | _ => false) = true) (hi : (P.info? ty).map (·.size) = some cs.size) :
    (results fn tmps).run P w = .ok (.tuple #[tmps.getD u undef, .agg cs]) w := by
  have hp' : tmps[p]?.getD undef = .pointer (some ⟨g, 0, none⟩) := by simpa using hx
  simp [results, h, hp', asAddr, Result.andThen, run_loadVar_row (P := P) w g t ty cs fr d hg hu hd hi]
def FeI (B : List Bool) (vs : List Nat) (n base : Nat) (w : World) (vt vi : Value) (wr : World) : Prop :=
  ∃ (k : Nat) (vq : Value), vq = vt ∧ vi = .int .i64 (k : Int) ∧ k ≤ n ∧ (∀ j, j < k → B[j]? = some true) ∧ RwOwn 1 22 base wr vq ((vs.take k).map fun x => [uV x]) ∧ Below w.heap.size w wr
set_option maxHeartbeats 4000000 in
set_option maxRecDepth 100000 in
theorem rfee_all (w : World) (v vm : Value) (t : TTx) (ms : List TMn) (h : TxAt w v t) (hh : RwAt 35 w vm (ms.map mnL)) (hok : ∀ m ∈ ms, MnOk m) (hov : ∀ y ∈ t.outs, y.val ≤ 18446744073709551615) (hm : t.ins.length ≤ 1000000) (hmo : t.outs.length ≤ 1000000) :
    Calls Tryd.prog 8 #[v, vm] w fun e w' => e = .returned (.tuple #[.int .u64 ((feeL t ms).1 : Int), .agg (feeL t ms).2.toArray]) ∧ Below w.heap.size w w' := by
  obtain ⟨i0, hi, hz0, hz1, hz2⟩ := info_parts info_u64v
  have h0 := h
  obtain ⟨_, iv, ov, rfl, hin, hou⟩ := h
  have TONE : Hid ((txL t iv ov).toArray.all (·.oneCell') = true) := tx_one hin hou
  have LT : Hid ((txL t iv ov).toArray.size = 4) := rfl
  have CO : Hid (∀ (W : World) (g : Nat), W.heap[g]? = some (.cells (txL t iv ov).toArray 31 (0, 0)) → W.cell? ⟨g, 1, none⟩ = some iv) := fun W g hg => (tx_cells hg).2.1
  have VL : Hid (∀ W, Below w.heap.size w W → Calls Tryd.prog 29 #[.agg (txL t iv ov).toArray] W fun e w' => ∃ v', e = .returned v' ∧ SrcU w' v' (t.outs.map (·.val)) ∧ Below W.heap.size W w') := fun W hW => vals_any t _ W (h0.below hW) hmo
  obtain ⟨si, ci, rfl, _, hgi⟩ := hin
  obtain ⟨sm, cm, rfl⟩ := hh.shape
  simp only [List.length_map] at hh ⊢
  obtain ⟨n, hn⟩ : ∃ n, n = t.ins.length := ⟨_, rfl⟩
  rw [← hn] at hm CO TONE LT VL hgi ⊢
  have N := Lib.hid hn
  have HI := Lib.hid hgi
  have MO := Lib.hid hok
  obtain ⟨nm, hnm⟩ : ∃ nm, nm = ms.length := ⟨_, rfl⟩
  rw [← hnm] at hh ⊢
  have NM := Lib.hid hnm
  have HH := Lib.hid hh
  obtain ⟨B0, hB0⟩ : ∃ B, B = opB t ms := ⟨_, rfl⟩
  have BG : Hid (∀ (i : Nat) (x : TIn) (m : TMn), t.ins[i]? = some x → ms[i]? = some m → B0[i]? = some (opensL x.key m.lock)) := fun i x m h1 h2 => by rw [hB0]; exact opB_get h1 h2
  have BL : Hid (nm = n → B0.length = n) := fun e => by rw [hB0]; unfold opB; simp; omega
  obtain ⟨va, hva⟩ : ∃ va, va = ms.map (·.val) := ⟨_, rfl⟩
  obtain ⟨vo, hvo⟩ : ∃ vo, vo = t.outs.map (·.val) := ⟨_, rfl⟩
  rw [← hvo] at VL
  have VAE := Lib.hid hva
  have VOL : Hid (vo.length ≤ 1000000) := by show _ ≤ _; rw [hvo, List.length_map]; exact hmo
  have V64 : Hid (∀ j, va.getD j 0 ≤ 18446744073709551615) := fun j => by
    rw [hva, List.getD_eq_getElem?_getD, List.getElem?_map]
    cases hj : ms[j]? with
    | none => simp
    | some m => exact (hok m (List.mem_of_getElem? hj)).2.1
  have W64 : Hid (∀ j, vo.getD j 0 ≤ 18446744073709551615) := fun j => by
    rw [hvo, List.getD_eq_getElem?_getD, List.getElem?_map]
    cases hj : t.outs[j]? with
    | none => simp
    | some m => exact hov m (List.mem_of_getElem? hj)
  have FE : Hid (feeL t ms = if nm ≠ n then (0, fC 102) else match B0.findIdx? (fun b => !b) with | some i => (0, pC 114 (i : Int)) | none => feeV va vo) := by rw [hnm, hn, hB0, hva, hvo]; rfl
  obtain ⟨R, hR⟩ : ∃ R, R = feeL t ms := ⟨_, rfl⟩
  rw [← hR] at FE ⊢
  obtain ⟨ct, hct⟩ : ∃ ct, ct = txL t (.slice si n ci) ov := ⟨_, rfl⟩
  rw [← hct] at TONE LT CO VL ⊢
  clear hn hnm hgi hh hok hB0 hva hvo hR hct hou h0 hmo hov
  go_enter Tryd.func8, Tryd.ntmps8
  go_upto_region 1 with fail
  have f2 := row_below (heap_alloc_new w (.cells ct.toArray 31 (0, 0))) ((Below.refl _ _).alloc (Nat.le_refl _) (.cells (fC 0).toArray 41 (0, 0)))
  have f5 := heap_alloc_new (w.alloc (.cells ct.toArray 31 (0, 0))) (.cells (fC 0).toArray 41 (0, 0))
  have b1 := ((Below.refl w.heap.size w).alloc (Nat.le_refl _) (.cells ct.toArray 31 (0, 0))).alloc (by simp) (.cells (fC 0).toArray 41 (0, 0))
  rw [World.size_alloc] at f5
  generalize hw1 : World.alloc _ _ = w1
  have e1 : (w.alloc (.cells ct.toArray 31 (0, 0))).alloc (.cells (fC 0).toArray 41 (0, 0)) = w1 := hw1
  rw [e1] at f2 f5 b1
  obtain ⟨g2, hg2⟩ : ∃ g2, g2 = w.heap.size := ⟨_, rfl⟩
  obtain ⟨g5, hg5⟩ : ∃ g5, g5 = w.heap.size + 1 := ⟨_, rfl⟩
  have G5 : Hid (w.heap.size ≤ g5) := by show _ ≤ _; omega
  rw [← hg5] at f5
  rw [← hg2] at f2
  rw [← hg5, ← hg2]
  have F2 := Lib.hid f2
  have F5 := Lib.hid f5
  have B1 := Lib.hid b1
  have c1 := CO.out _ _ F2.out
  clear f2 f5 b1 hw1 e1 hg2 hg5
  by_cases hne : nm = n
  · have hne2 := hne.symm
    subst hne2
    have q1 : ((n : Int) != (n : Int)) = false := by simp
    have FE2 : Hid (R = match B0.findIdx? (fun b => !b) with | some i => (0, pC 114 (i : Int)) | none => feeV va vo) := by show _ = _; rw [FE.out, if_neg (by simp)]
    have BLN : Hid (B0.length = n) := BL.out rfl
    clear FE
    obtain ⟨base, hbase⟩ : ∃ base, base = w1.heap.size := ⟨_, rfl⟩
    have BS := Lib.hid hbase
    go_wp2_with fail
    clear c1
    go_loopw [6, 7] (fun vt vi wr => FeI B0 va n base w1 vt vi wr) (fun _ vi _ => n - (intOf vi).toNat)
    case atStart => exact ⟨0, _, rfl, rfl, Nat.zero_le _, fun j hj => absurd hj (by omega), RwOwn.nil _ _ _ _, Below.refl _ _⟩
    case round =>
      obtain ⟨k, vb, rfl, rfl, hk, hopn, hrow, hbel⟩ := hrel
      have HB := Lib.hid hrow
      have OA := Lib.hid hopn
      have B := Lib.hid hbel
      have BB := Lib.hid (B1.out.trans (hbel.mono B1.out.size))
      clear hopn hrow hbel
      by_cases hlt : k < n
      · obtain ⟨x, hx⟩ : ∃ x, t.ins[k]? = some x := ⟨_, List.getElem?_eq_getElem (by rw [← N.out]; exact hlt)⟩
        obtain ⟨m, hmk⟩ : ∃ m, ms[k]? = some m := ⟨_, List.getElem?_eq_getElem (by rw [← NM.out]; exact hlt)⟩
        obtain ⟨bi, oi, rfl, hg⟩ := HI.out (by omega)
        obtain ⟨ox, kv, hkv, hr⟩ := (hg k x hx).below BB.out
        obtain ⟨hsk, sk, ck, rfl⟩ := hkv
        have CK := Lib.hid (in_key ox.1 hr)
        obtain ⟨bm, om, rfl, hgm⟩ := (HH.out.below BB.out).get (by omega)
        have rm := hgm k (mnL m) (by rw [List.getElem?_map, hmk]; rfl)
        have om1 := MO.out m (List.mem_of_getElem? hmk)
        have CV := Lib.hid (mn_val rm)
        have RL := Lib.hid (mn_lock rm)
        have LL : Hid ((m.lock.map bV).length = 32) := by show _ = _; rw [List.length_map]; exact om1.1
        have C1 := Lib.hid (CO.out _ _ (row_below F2.out B.out))
        have BK := Lib.hid (BG.out k x m hx hmk)
        obtain ⟨ob, hob⟩ : ∃ ob, ob = opensL x.key m.lock := ⟨_, rfl⟩
        rw [← hob] at BK
        have OP : Hid (∀ W, Below wr.heap.size wr W → Calls Tryd.prog 27 #[.slice sk x.key.length ck, .agg (m.lock.map bV).toArray] W fun e w' => e = .returned (.bool ob) ∧ Below W.heap.size W w') := fun W hW => ropens_all x.key m.lock sk _ ck W (hsk.below hW) om1.1 ob hob
        obtain ⟨mv, hmv⟩ : ∃ mv, mv = m.val := ⟨_, rfl⟩
        have VT : Hid (va.take (k + 1) = va.take k ++ [mv]) := by
          have e : va[k]? = some mv := by rw [VAE.out, List.getElem?_map, hmk, hmv]; rfl
          show _ = _
          rw [List.take_succ_eq_append_getElem (List.getElem?_eq_some_iff.1 e).1, (List.getElem?_eq_some_iff.1 e).2]
        rw [← hmv] at CV
        obtain ⟨nk, hnk⟩ : ∃ nk, nk = x.key.length := ⟨_, rfl⟩
        rw [← hnk] at CK OP
        obtain ⟨lk, hlk⟩ : ∃ lk, lk = m.lock.map bV := ⟨_, rfl⟩
        rw [← hlk] at RL LL OP
        have DO : Hid (((va.take k).map fun x => [uV x]).length ≤ 1000000) := by show _ ≤ _; rw [List.length_map, List.length_take]; omega
        have i0' : 0 ≤ (k : Int) := by omega
        have i1' : (k : Int) < (n : Int) := by omega
        clear hx hmk hg hr hsk hgm rm om1 hob hmv hnk hlk ox
        go_wp2_with fail
        cases ob with
        | false =>
          have RV : Hid (R = (0, pC 114 (k : Int))) := by show _ = _; rw [FE2.out, shut_at OA.out BK.out]
          refine wp_region_held_drew (S := (fun w' => Below wr.heap.size wr w')) (by kernel_rfl) (Below.drew (Below.refl _ _)) (fun hHeld => ?_)
          generalize hwd : wr.drew = wd at  hHeld ⊢
          clear hwd
          refine held_take (i := 0) (v := (.pointer (some ⟨g2, 1, none⟩))) rfl (by kernel_rfl) (by kernel_rfl) (by kernel_rfl) (fun _ _ _ h => h) (Or.inl ⟨by rfl, fun w' _ => by kernel_rfl⟩) hHeld ?_
          go_frame
          refine held_take (i := 1) (v := (.slice (some ⟨bi, oi, none⟩) n ci)) rfl (by kernel_rfl) (by kernel_rfl) (by kernel_rfl) (fun _ _ _ h => h) (yieldsIf_load_one (by rfl) 28 (.tmp 25) rfl g2 (1) rfl _ _ (fun w' hw' => cell_below C1.out hw') Tryd.underlying28 rfl) hHeld ?_
          go_frame
          refine held_take (i := 2) (v := (.int .i64 (k : Int))) rfl (by kernel_rfl) (by kernel_rfl) (by kernel_rfl) (fun _ _ _ h => h) (Or.inl ⟨by rfl, fun w' _ => by kernel_rfl⟩) hHeld ?_
          go_frame
          refine held_take (i := 3) (v := (.pointer (some ⟨bi, oi + k * 35, none⟩))) rfl (by kernel_rfl) (by kernel_rfl) (by kernel_rfl) (fun _ _ _ h => h) (Or.inl ⟨by rfl, fun w' _ => by go_simp⟩) hHeld ?_
          go_frame
          refine held_take (i := 4) (v := (.pointer (some ⟨bi, oi + k * 35 + 33, none⟩))) rfl (by kernel_rfl) (by kernel_rfl) (by kernel_rfl) (fun _ _ _ h => h) (Or.inl ⟨by rfl, fun w' _ => by kernel_rfl⟩) hHeld ?_
          go_frame
          refine held_take (i := 5) (v := (.slice sk nk ck)) rfl (by kernel_rfl) (by kernel_rfl) (by kernel_rfl) (fun _ _ _ h => h) (yieldsIf_load_one (by rfl) 52 (.tmp 29) rfl bi (oi + k * 35 + 33) rfl _ _ (fun w' hw' => cell_below CK.out hw') Tryd.underlying52 rfl) hHeld ?_
          go_frame
          refine held_take (i := 6) (v := (.slice (some ⟨bm, om, none⟩) n cm)) rfl (by kernel_rfl) (by kernel_rfl) (by kernel_rfl) (fun _ _ _ h => h) (Or.inl ⟨by rfl, fun w' _ => by kernel_rfl⟩) hHeld ?_
          go_frame
          refine held_take (i := 7) (v := (.int .i64 (k : Int))) rfl (by kernel_rfl) (by kernel_rfl) (by kernel_rfl) (fun _ _ _ h => h) (Or.inl ⟨by rfl, fun w' _ => by kernel_rfl⟩) hHeld ?_
          go_frame
          refine held_take (i := 8) (v := (.pointer (some ⟨bm, om + k * 35, none⟩))) rfl (by kernel_rfl) (by kernel_rfl) (by kernel_rfl) (fun _ _ _ h => h) (Or.inl ⟨by rfl, fun w' _ => by go_simp⟩) hHeld ?_
          go_frame
          refine held_take (i := 9) (v := (.pointer (some ⟨bm, om + k * 35 + 1, none⟩))) rfl (by kernel_rfl) (by kernel_rfl) (by kernel_rfl) (fun _ _ _ h => h) (Or.inl ⟨by rfl, fun w' _ => by kernel_rfl⟩) hHeld ?_
          go_frame
          refine held_take (i := 10) (v := (.agg lk.toArray)) rfl (by kernel_rfl) (by kernel_rfl) (by kernel_rfl) (fun _ _ _ h => h) (Sha.yieldsIf_load_mid (by rfl) 24 (.tmp 34) rfl bm (om + k * 35 + 1) rfl lk _ (fun w' hw' => range_below RL.out hw') Tryd.underlying24 rfl (by rw [LL.out]; kernel_rfl)) hHeld ?_
          go_frame
          refine wpAnyH_ready (rs := [11]) (by kernel_rfl) (by simp) (held_cons rfl (fun K hK => ?_) AllReadyH.nil)
          go_simp
          refine (OP.out _ hHeld).mono ?_
          rintro e v1 ⟨rfl, bb⟩
          have hv1 := hHeld.trans (bb.mono hHeld.size)
          clear bb hHeld
          go_wp2_with fail
          refine hK.out _ _ hv1 (fun hHeld => ?_)
          clear hK K hv1
          refine held_take (i := 12) (v := (.bool true)) rfl (by kernel_rfl) (by kernel_rfl) (by kernel_rfl) (fun _ _ _ h => h) (Or.inl ⟨by rfl, fun w' _ => by go_simp⟩) hHeld ?_
          go_frame
          refine wpAnyH_done (by kernel_rfl) ?_ _
          obtain ⟨w7, h7⟩ : ∃ w7, w7 = v1 := ⟨_, rfl⟩
          rw [← h7] at hHeld ⊢
          clear h7
          have BR := Lib.hid (B.out.trans (hHeld.mono B.out.size))
          have BA := Lib.hid (BB.out.trans (hHeld.mono BB.out.size))
          have f5r := row_below F5.out BR.out
          go_wp2_with fail
          refine (placed_any 114 (k : Int) (by decide) w7).mono ?_
          rintro e w8 ⟨rfl, bb⟩
          have F5R := Lib.hid (row_below f5r bb)
          have BZ := Lib.hid (BA.out.trans (bb.mono BA.out.size))
          clear f5r bb
          go_wp2_with ((with_reducible show wpList _ _ _ _ _ _); (refine wpList_store_row rfl 41 (.tmp 5) (.tmp 39) rfl g5 (pC 114 (k : Int)).toArray rfl rfl 41 _ F5R.out (by kernel_rfl) rfl (placed_all _ _) ?_; go_frame))
          refine bodyPost_ret (results_tc rfl _ _ g5 41 (pC 114 (k : Int)).toArray (0, 0) _ rfl (setRow_heap _ _ _ _ _ _ F5R.out) Tryd.underlying41 rfl (by kernel_rfl)) rfl ?_
          exact ⟨by rw [RV.out]; rfl, below_setRow BZ.out (by have := G5.out; omega) _⟩
        | true =>
          have ON : Hid (∀ j, j < k + 1 → B0[j]? = some true) := fun j hj => by
            by_cases e : j = k
            · rw [e]; exact BK.out
            · exact OA.out j (by omega)
          refine wp_region_held_drew (S := (fun w' => Below wr.heap.size wr w')) (by kernel_rfl) (Below.drew (Below.refl _ _)) (fun hHeld => ?_)
          generalize hwd : wr.drew = wd at  hHeld ⊢
          clear hwd
          refine held_take (i := 0) (v := (.pointer (some ⟨g2, 1, none⟩))) rfl (by kernel_rfl) (by kernel_rfl) (by kernel_rfl) (fun _ _ _ h => h) (Or.inl ⟨by rfl, fun w' _ => by kernel_rfl⟩) hHeld ?_
          go_frame
          refine held_take (i := 1) (v := (.slice (some ⟨bi, oi, none⟩) n ci)) rfl (by kernel_rfl) (by kernel_rfl) (by kernel_rfl) (fun _ _ _ h => h) (yieldsIf_load_one (by rfl) 28 (.tmp 25) rfl g2 (1) rfl _ _ (fun w' hw' => cell_below C1.out hw') Tryd.underlying28 rfl) hHeld ?_
          go_frame
          refine held_take (i := 2) (v := (.int .i64 (k : Int))) rfl (by kernel_rfl) (by kernel_rfl) (by kernel_rfl) (fun _ _ _ h => h) (Or.inl ⟨by rfl, fun w' _ => by kernel_rfl⟩) hHeld ?_
          go_frame
          refine held_take (i := 3) (v := (.pointer (some ⟨bi, oi + k * 35, none⟩))) rfl (by kernel_rfl) (by kernel_rfl) (by kernel_rfl) (fun _ _ _ h => h) (Or.inl ⟨by rfl, fun w' _ => by go_simp⟩) hHeld ?_
          go_frame
          refine held_take (i := 4) (v := (.pointer (some ⟨bi, oi + k * 35 + 33, none⟩))) rfl (by kernel_rfl) (by kernel_rfl) (by kernel_rfl) (fun _ _ _ h => h) (Or.inl ⟨by rfl, fun w' _ => by kernel_rfl⟩) hHeld ?_
          go_frame
          refine held_take (i := 5) (v := (.slice sk nk ck)) rfl (by kernel_rfl) (by kernel_rfl) (by kernel_rfl) (fun _ _ _ h => h) (yieldsIf_load_one (by rfl) 52 (.tmp 29) rfl bi (oi + k * 35 + 33) rfl _ _ (fun w' hw' => cell_below CK.out hw') Tryd.underlying52 rfl) hHeld ?_
          go_frame
          refine held_take (i := 6) (v := (.slice (some ⟨bm, om, none⟩) n cm)) rfl (by kernel_rfl) (by kernel_rfl) (by kernel_rfl) (fun _ _ _ h => h) (Or.inl ⟨by rfl, fun w' _ => by kernel_rfl⟩) hHeld ?_
          go_frame
          refine held_take (i := 7) (v := (.int .i64 (k : Int))) rfl (by kernel_rfl) (by kernel_rfl) (by kernel_rfl) (fun _ _ _ h => h) (Or.inl ⟨by rfl, fun w' _ => by kernel_rfl⟩) hHeld ?_
          go_frame
          refine held_take (i := 8) (v := (.pointer (some ⟨bm, om + k * 35, none⟩))) rfl (by kernel_rfl) (by kernel_rfl) (by kernel_rfl) (fun _ _ _ h => h) (Or.inl ⟨by rfl, fun w' _ => by go_simp⟩) hHeld ?_
          go_frame
          refine held_take (i := 9) (v := (.pointer (some ⟨bm, om + k * 35 + 1, none⟩))) rfl (by kernel_rfl) (by kernel_rfl) (by kernel_rfl) (fun _ _ _ h => h) (Or.inl ⟨by rfl, fun w' _ => by kernel_rfl⟩) hHeld ?_
          go_frame
          refine held_take (i := 10) (v := (.agg lk.toArray)) rfl (by kernel_rfl) (by kernel_rfl) (by kernel_rfl) (fun _ _ _ h => h) (Sha.yieldsIf_load_mid (by rfl) 24 (.tmp 34) rfl bm (om + k * 35 + 1) rfl lk _ (fun w' hw' => range_below RL.out hw') Tryd.underlying24 rfl (by rw [LL.out]; kernel_rfl)) hHeld ?_
          go_frame
          refine wpAnyH_ready (rs := [11]) (by kernel_rfl) (by simp) (held_cons rfl (fun K hK => ?_) AllReadyH.nil)
          go_simp
          refine (OP.out _ hHeld).mono ?_
          rintro e v1 ⟨rfl, bb⟩
          have hv1 := hHeld.trans (bb.mono hHeld.size)
          clear bb hHeld
          go_wp2_with fail
          refine hK.out _ _ hv1 (fun hHeld => ?_)
          clear hK K hv1
          refine held_take (i := 12) (v := (.bool false)) rfl (by kernel_rfl) (by kernel_rfl) (by kernel_rfl) (fun _ _ _ h => h) (Or.inl ⟨by rfl, fun w' _ => by go_simp⟩) hHeld ?_
          go_frame
          refine wpAnyH_done (by kernel_rfl) ?_ _
          obtain ⟨w7, h7⟩ : ∃ w7, w7 = v1 := ⟨_, rfl⟩
          rw [← h7] at hHeld ⊢
          clear h7
          have BR := Lib.hid (B.out.trans (hHeld.mono B.out.size))
          have BA := Lib.hid (BB.out.trans (hHeld.mono BB.out.size))
          have cv := cell_below CV.out hHeld
          have HO := Lib.hid (HB.out.keep hHeld)
          have HS := Lib.hid (BR.out.size)
          clear hHeld
          go_wp2_with (at_builtin; refine wpList_append_own_at _ rfl _ _ 51 rfl base 22 i0 (.int .u64 0) 1 8 Tryd.underlying51 hi hz0 hz1 hz2 rfl (by decide) vb _ ((va.take k).map fun x => [uV x]).flatten rfl (HO.out.1.alloc _) ⟨w7.heap.size, 0, none⟩ 1 1 [.int .u64 (mv : Int)] rfl rfl (cell_one_new _ _ _) (fun u hu => by obtain rfl := List.mem_singleton.1 hu; rfl) (by have := DO.out; unfold maxLen; omega) (by have := DO.out; omega) (by have := BS.out; have := HS.out; simp; omega) ?_; intro v3 w3 q1 q2 _ q4; have H3 : Hid (RwOwn 1 22 base w3 v3 (((va.take k).map fun x => [uV x]) ++ [[uV mv]])) := RwOwn.push HO.out.2 rfl q1; have B3 := Lib.hid (own_grown (BR.out.alloc BR.out.size _) (by rw [BS.out]; exact Nat.le_refl _) (by have := HS.out; simp; omega) (HO.out.1.alloc _) q2); clear q1 q2 q4; go_frame)
          go_roundw
          case rel =>
            refine ⟨k + 1, v3, rfl, by go_num, by omega, ON.out, ?_, B3.out⟩
            rw [VT.out, List.map_append]
            exact H3.out
          case measure => simp [intOf] <;> omega
      · have hkn : k = n := by omega
        have bln : B0.length = n := BLN.out
        have RV : Hid (R = feeV va vo) := by
          show _ = _
          rw [FE2.out, shut_no (fun j (hj : j < B0.length) => OA.out j (by rw [hkn, ← bln]; exact hj))]
        have VAL : Hid (va.length = n) := by show _ = _; rw [VAE.out, List.length_map]; exact NM.out.symm
        have SU : Hid (SrcU wr vb va) := by
          have h := HB.out
          rw [hkn, List.take_of_length_le (by rw [VAL.out]; exact Nat.le_refl _)] at h
          have h1 := h.1
          rw [flat_u64, List.length_map] at h1
          exact srcU_own h1
        have i1' : ¬ (k : Int) < (n : Int) := by omega
        have F2R := Lib.hid (row_below F2.out B.out)
        have F5R := Lib.hid (row_below F5.out B.out)
        have SM := sum_r va vb wr SU.out (by have := VAL.out; omega) V64.out
        clear hkn hlt OA HB
        go_wp2_with fail
        refine SM.mono ?_
        rintro e w8 ⟨rfl, rfl⟩
        clear SM
        have SV : Hid (sumV va = .tuple #[.int .u64 (sumL va : Nat), .bool (sumIs va)]) := rfl
        have SW : Hid (sumV vo = .tuple #[.int .u64 (sumL vo : Nat), .bool (sumIs vo)]) := rfl
        have FV : Hid (feeV va vo = if (sumIs va && sumIs vo) = false then (0, fC 105) else if sumL va < sumL vo then (0, fC 117) else (sumL va - sumL vo, fC 0)) := rfl
        have SB : Hid (sumL va ≤ 2100000000000000) := by show _ ≤ _; unfold sumL; split <;> simp_all [most_eq]
        obtain ⟨a, ha⟩ : ∃ a, a = sumL va := ⟨_, rfl⟩
        obtain ⟨b, hb⟩ : ∃ b, b = sumL vo := ⟨_, rfl⟩
        obtain ⟨qa, hqa⟩ : ∃ q, q = sumIs va := ⟨_, rfl⟩
        obtain ⟨qb, hqb⟩ : ∃ q, q = sumIs vo := ⟨_, rfl⟩
        rw [← ha, ← hqa] at SV FV
        rw [← hb, ← hqb] at SW FV
        rw [← ha] at SB
        rw [SV.out]
        clear ha hb hqa hqb
        go_wp2_with ((with_reducible show wpList _ _ _ _ _ _); (refine wpList_load_row rfl 31 (.tmp 2) rfl g2 rfl 31 ct.toArray (0, 0) _ F2R.out Tryd.underlying31 rfl (by rw [LT.out]; kernel_rfl) ?_; go_frame))
        refine (VL.out wr BB.out).mono ?_
        rintro e w9 ⟨vv, rfl, sv, bb⟩
        have SS := sum_r vo vv w9 sv (by have := VOL.out; omega) W64.out
        have F5R := Lib.hid (row_below F5R.out bb)
        have BZ := Lib.hid (BB.out.trans (bb.mono BB.out.size))
        clear bb sv
        go_wp2_with fail
        refine SS.mono ?_
        rintro e w10 ⟨rfl, rfl⟩
        clear SS
        rw [SW.out]
        cases qa with
        | false =>
          have RW : Hid (R = (0, fC 105)) := by show _ = _; rw [RV.out, FV.out]; rfl
          go_wp2_with fail
          refine (bare_any 105 w9).mono ?_
          rintro e w11 ⟨rfl, bb⟩
          have F5Q := Lib.hid (row_below F5R.out bb)
          have BY := Lib.hid (BZ.out.trans (bb.mono BZ.out.size))
          clear bb
          go_wp2_with ((with_reducible show wpList _ _ _ _ _ _); (refine wpList_store_row rfl 41 (.tmp 5) (.tmp 65) rfl g5 (fC 105).toArray rfl rfl 41 _ F5Q.out (by kernel_rfl) rfl (fault_all _) ?_; go_frame))
          refine bodyPost_ret (results_tc rfl _ _ g5 41 (fC 105).toArray (0, 0) _ rfl (setRow_heap _ _ _ _ _ _ F5Q.out) Tryd.underlying41 rfl (by kernel_rfl)) rfl ?_
          exact ⟨by rw [RW.out]; rfl, below_setRow BY.out (by have := G5.out; omega) _⟩
        | true =>
          cases qb with
          | false =>
            have RW : Hid (R = (0, fC 105)) := by show _ = _; rw [RV.out, FV.out]; rfl
            go_wp2_with fail
            refine (bare_any 105 w9).mono ?_
            rintro e w11 ⟨rfl, bb⟩
            have F5Q := Lib.hid (row_below F5R.out bb)
            have BY := Lib.hid (BZ.out.trans (bb.mono BZ.out.size))
            clear bb
            go_wp2_with ((with_reducible show wpList _ _ _ _ _ _); (refine wpList_store_row rfl 41 (.tmp 5) (.tmp 65) rfl g5 (fC 105).toArray rfl rfl 41 _ F5Q.out (by kernel_rfl) rfl (fault_all _) ?_; go_frame))
            refine bodyPost_ret (results_tc rfl _ _ g5 41 (fC 105).toArray (0, 0) _ rfl (setRow_heap _ _ _ _ _ _ F5Q.out) Tryd.underlying41 rfl (by kernel_rfl)) rfl ?_
            exact ⟨by rw [RW.out]; rfl, below_setRow BY.out (by have := G5.out; omega) _⟩
          | true =>
            by_cases hab : a < b
            · have RW : Hid (R = (0, fC 117)) := by show _ = _; rw [RV.out, FV.out, if_neg (by decide), if_pos hab]
              have l1 : (a : Int) < (b : Int) := by omega
              clear hab
              go_wp2_with fail
              refine (bare_any 117 w9).mono ?_
              rintro e w11 ⟨rfl, bb⟩
              have F5Q := Lib.hid (row_below F5R.out bb)
              have BY := Lib.hid (BZ.out.trans (bb.mono BZ.out.size))
              clear bb
              go_wp2_with ((with_reducible show wpList _ _ _ _ _ _); (refine wpList_store_row rfl 41 (.tmp 5) (.tmp 69) rfl g5 (fC 117).toArray rfl rfl 41 _ F5Q.out (by kernel_rfl) rfl (fault_all _) ?_; go_frame))
              refine bodyPost_ret (results_tc rfl _ _ g5 41 (fC 117).toArray (0, 0) _ rfl (setRow_heap _ _ _ _ _ _ F5Q.out) Tryd.underlying41 rfl (by kernel_rfl)) rfl ?_
              exact ⟨by rw [RW.out]; rfl, below_setRow BY.out (by have := G5.out; omega) _⟩
            · have RW : Hid (R = (a - b, fC 0)) := by show _ = _; rw [RV.out, FV.out, if_neg (by decide), if_neg hab]
              have l1 : ¬ (a : Int) < (b : Int) := by omega
              have sb : IntKind.u64.wrap ((a : Int) - (b : Int)) = ((a - b : Nat) : Int) := by rw [IntKind.wrap_u64]; have := SB.out; omega
              go_wp2_with fail
              refine (none_any w9).mono ?_
              rintro e w11 ⟨rfl, bb⟩
              have F5Q := Lib.hid (row_below F5R.out bb)
              have BY := Lib.hid (BZ.out.trans (bb.mono BZ.out.size))
              clear bb
              go_wp2_with ((with_reducible show wpList _ _ _ _ _ _); (refine wpList_store_row rfl 41 (.tmp 5) (.tmp 73) rfl g5 (fC 0).toArray rfl rfl 41 _ F5Q.out (by kernel_rfl) rfl (fault_all _) ?_; go_frame))
              refine bodyPost_ret (results_tc rfl _ _ g5 41 (fC 0).toArray (0, 0) _ rfl (setRow_heap _ _ _ _ _ _ F5Q.out) Tryd.underlying41 rfl (by kernel_rfl)) rfl ?_
              exact ⟨by rw [RW.out]; rfl, below_setRow BY.out (by have := G5.out; omega) _⟩
  · have q1 : ((nm : Int) != (n : Int)) = true := by simp; omega
    have RV : Hid (R = (0, fC 102)) := by show _ = _; rw [FE.out, if_pos hne]
    clear hne FE
    go_wp2_with fail
    refine (bare_any 102 w1).mono ?_
    rintro e w8 ⟨rfl, bb⟩
    have F5R := Lib.hid (row_below F5.out bb)
    have BZ := Lib.hid (B1.out.trans (bb.mono B1.out.size))
    clear bb
    go_wp2_with ((with_reducible show wpList _ _ _ _ _ _); (refine wpList_store_row rfl 41 (.tmp 5) (.tmp 18) rfl g5 (fC 102).toArray rfl rfl 41 _ F5R.out (by kernel_rfl) rfl (fault_all _) ?_; go_frame))
    refine bodyPost_ret (results_tc rfl _ _ g5 41 (fC 102).toArray (0, 0) _ rfl (setRow_heap _ _ _ _ _ _ F5R.out) Tryd.underlying41 rfl (by kernel_rfl)) rfl ?_
    exact ⟨by rw [RV.out]; rfl, below_setRow BZ.out (by have := G5.out; omega) _⟩
end Go.Proofs.YtlpdgjneoahdeaaDoor.Sha
