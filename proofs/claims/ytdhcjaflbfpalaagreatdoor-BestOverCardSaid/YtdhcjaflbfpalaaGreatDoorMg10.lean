/-
  Texts of this proof joined into one file: Txs, HdStore, BlStore, TxReadW, MkClimb0, BlFirst, BlMath, BlSm, HdBytes, HdId, BlIds, BlStart, TwMath, ShaCmp, PtOrd, TwUnder, RefTreeOf. What each holds, and under which conditions, its own first sentence tells.
-/
import Derived.Laws.ResultCell
import Derived.Lib.AppendZerosOnto
import Derived.Lib.Walk
import Derived.IntWalk
import Derived.Lib.BufferRead
import Derived.Lib.Bytealg
import Derived.Lib.BytesEntry
import Derived.Test.YtdhcjaflbfpalaaGreatDoorMg05
import Derived.Test.YtdhcjaflbfpalaaGreatDoorMg08
import Derived.Test.YtdhcjaflbfpalaaGreatDoorMg04
import Derived.Test.YtdhcjaflbfpalaaGreatDoorMg09
import Derived.Test.YtdhcjaflbfpalaaGreatDoorMg03
import Derived.Test.YtdhcjaflbfpalaaGreatDoorMg01
/-
  Rows of transactions, and blocks, as the model has them: four cells each behind a slice; a header's cells and a slice. No conditions.
-/
namespace Go.Proofs.YtdhcjaflbfpalaaGreatDoor.Sha
open Go Go.RowKit
/-- A transaction stands in block b from o on. -/
def TxIn (w : World) (b o : Nat) (t : TTx) : Prop := TxOk t ∧ ∃ iv ov, w.rangeAt b o (txL t iv ov) ∧ InsAt w iv t.ins ∧ OutsAt w ov t.outs
theorem TxIn.below {w w' : World} {b o : Nat} {t : TTx} (h : TxIn w b o t) (hb : Below w.heap.size w w') : TxIn w' b o t := by
  obtain ⟨h0, iv, ov, h1, h2, h3⟩ := h
  exact ⟨h0, iv, ov, range_below h1 hb, h2.below hb, h3.below hb⟩
/-- A row of transactions behind a slice. -/
def TxsAt (w : World) (v : Value) (l : List TTx) : Prop :=
  ∃ sp cap, v = .slice sp l.length cap ∧ l.length ≤ cap ∧ (0 < l.length → ∃ b o, sp = some ⟨b, o, none⟩ ∧ ∀ i t, l[i]? = some t → TxIn w b (o + i * 4) t)
theorem TxsAt.below {w w' : World} {v : Value} {l : List TTx} (h : TxsAt w v l) (hb : Below w.heap.size w w') : TxsAt w' v l := by
  obtain ⟨sp, cap, h1, h2, h3⟩ := h
  refine ⟨sp, cap, h1, h2, fun h0 => ?_⟩
  obtain ⟨b, o, h4, h5⟩ := h3 h0
  exact ⟨b, o, h4, fun i x hx => (h5 i x hx).below hb⟩
theorem TxsAt.nil (w : World) (sp : Option Addr) (cap : Nat) : TxsAt w (.slice sp 0 cap) [] := ⟨sp, cap, rfl, Nat.zero_le _, fun h => absurd h (by simp)⟩
theorem TxsAt.shape {w : World} {v : Value} {l : List TTx} (h : TxsAt w v l) : ∃ sp cap, v = .slice sp l.length cap := by
  obtain ⟨sp, cap, h1, _⟩ := h
  exact ⟨sp, cap, h1⟩
theorem TxsAt.len {w : World} {sp : Option Addr} {n cap : Nat} {l : List TTx} (h : TxsAt w (.slice sp n cap) l) : n = l.length ∧ n ≤ cap := by
  obtain ⟨sp', cap', h1, h2, _⟩ := h
  cases h1
  exact ⟨rfl, h2⟩
/-- One of them, by its place. -/
theorem TxsAt.get {w : World} {sp : Option Addr} {n cap : Nat} {l : List TTx} (h : TxsAt w (.slice sp n cap) l) (h0 : 0 < n) :
    ∃ b o, sp = some ⟨b, o, none⟩ ∧ b < w.heap.size ∧ ∀ i t, l[i]? = some t → ∃ iv ov, w.rangeAt b (o + i * 4) (txL t iv ov) ∧ TxAt w (.agg (txL t iv ov).toArray) t := by
  obtain ⟨sp', cap', h1, h2, h3⟩ := h
  cases h1
  obtain ⟨b, o, rfl, h5⟩ := h3 h0
  refine ⟨b, o, rfl, ?_, fun i t ht => ?_⟩
  · obtain ⟨_, iv, ov, h6, _⟩ := h5 0 (l[0]) (List.getElem?_eq_getElem h0)
    exact World.block_lt_of_cell? w _ (h6 0 _ rfl)
  · obtain ⟨a, iv, ov, h6, h7, h8⟩ := h5 i t ht
    exact ⟨iv, ov, h6, a, iv, ov, rfl, h7, h8⟩
/-- A block: a header, and transactions. -/
structure TBlk where
  head : THd
  txs : List TTx
/-- A block's cells. -/
def blL (h : THd) (tv : Value) : List Value := hdL h ++ [tv]
theorem blL_size {h : THd} (hh : HdOk h) (tv : Value) : (blL h tv).toArray.size = 69 := by simp [blL, hdL_length hh]
/-- A block by value. -/
def BlkAt (w : World) (v : Value) (x : TBlk) : Prop := HdOk x.head ∧ ∃ tv, v = .agg (blL x.head tv).toArray ∧ TxsAt w tv x.txs
theorem BlkAt.below {w w' : World} {v : Value} {x : TBlk} (h : BlkAt w v x) (hb : Below w.heap.size w w') : BlkAt w' v x := by
  obtain ⟨h0, tv, h1, h2⟩ := h
  exact ⟨h0, tv, h1, h2.below hb⟩
/-- A block in a box. -/
structure BlBox (w : World) (g : Nat) (h : THd) (tv : Value) : Prop where
  row : w.heap[g]? = some (.cells (blL h tv).toArray 31 (0, 0))
theorem BlBox.below {w w' : World} {g : Nat} {h : THd} {tv : Value} (k : BlBox w g h tv) (hb : Below w.heap.size w w') : BlBox w' g h tv := ⟨row_below k.row hb⟩
theorem BlBox.range {w : World} {g : Nat} {h : THd} {tv : Value} (k : BlBox w g h tv) : w.rangeAt g 0 (blL h tv) := fun j v hj => by
  rw [Nat.zero_add, cell_of_row _ _ _ _ _ _ k.row]
  simpa using hj
theorem BlBox.lt {w : World} {g : Nat} {h : THd} {tv : Value} (k : BlBox w g h tv) : g < w.heap.size := (Array.getElem?_eq_some_iff.1 k.row).1
/-- The header's cells in a block's box. -/
theorem BlBox.head {w : World} {g : Nat} {h : THd} {tv : Value} (k : BlBox w g h tv) : w.rangeAt g 0 (hdL h) := fun j v hj => k.range j v (by
  rw [blL, List.getElem?_append_left (List.getElem?_eq_some_iff.1 hj).1]
  exact hj)
theorem BlBox.root {w : World} {g : Nat} {h : THd} {tv : Value} (k : BlBox w g h tv) (hh : HdOk h) : w.rangeAt g 33 (h.root.map bV) := by
  have := hd_root hh k.head
  rwa [Nat.zero_add] at this
theorem BlBox.txs {w : World} {g : Nat} {h : THd} {tv : Value} (k : BlBox w g h tv) (hh : HdOk h) : w.cell? ⟨g, 68, none⟩ = some tv := by
  have := k.range 68 tv (by rw [blL, List.getElem?_append_right (by rw [hdL_length hh]; exact Nat.le_refl _), hdL_length hh]; rfl)
  rwa [Nat.zero_add] at this
theorem blL_one {h : THd} {tv : Value} (ht : tv.oneCell' = true) : (blL h tv).toArray.all (·.oneCell') = true := by
  rw [Array.all_eq_true_iff_forall_mem]
  intro u hu
  rw [List.mem_toArray, blL, List.mem_append, List.mem_singleton] at hu
  rcases hu with hu | rfl
  · exact hdL_one' h u hu
  · exact ht
theorem TxsAt.one {w : World} {tv : Value} {l : List TTx} (h : TxsAt w tv l) : tv.oneCell' = true := by
  obtain ⟨sp, cap, rfl, _⟩ := h
  rfl
end Go.Proofs.YtdhcjaflbfpalaaGreatDoor.Sha

/-
  A store into a header's box turns just that part. Conditions: digests of 32 bytes.
-/
namespace Go.Proofs.YtdhcjaflbfpalaaGreatDoor.Sha
open Go Go.RowKit
/-- The header of zeros. -/
def hdZ : THd := ⟨0, List.replicate 32 0, List.replicate 32 0, 0, 0, 0⟩
theorem HdBox.far {w w' : World} {g q : Nat} {h : THd} (k : HdBox w g h) (hg : w.grownBy w' (some q)) (hq : q ≠ g) : HdBox w' g h := ⟨row_far k.row hg (fun e => hq (Option.some.inj e))⟩
section
variable {ops : Array Oper} {rest : List Oper} {op : Oper} {a : Act} {w : World} {Q : Exit → Act → World → Prop} {g : Nat} {h : THd}
end
end Go.Proofs.YtdhcjaflbfpalaaGreatDoor.Sha

/-
  Stores into one part of a block's box; the zero block; one transaction in a row. No conditions beyond those that each states.
-/
namespace Go.Proofs.YtdhcjaflbfpalaaGreatDoor.Sha
open Go Go.RowKit
theorem info_txc : (Tryz.prog.info? 63).map (fun i => (i.zero, i.size, i.bytes)) = some (some (.agg [nV 0, .slice none 0 0, .slice none 0 0, nV 0].toArray), 4, 64) := by kernel_rfl
section
variable {ops : Array Oper} {rest : List Oper} {op : Oper} {a : Act} {w : World} {Q : Exit → Act → World → Prop} {g : Nat} {h : THd} {tv : Value}
theorem st_blroot (hgd : op.guard = none) (x y : Operand) (ho : op.op = .store 26 x y) (hx : a.eval x = .pointer (some ⟨g, 33, none⟩)) (p : List UInt8) (hp : p.length = 32) (hy : a.eval y = .agg (p.map bV).toArray) (hh : HdOk h) (k : BlBox w g h tv)
    (hK : ∀ w', BlBox w' g { h with root := p } tv → w.grownBy w' (some g) → wpList Tryz.prog ops Q rest (a.put op.dst undef) w') : wpList Tryz.prog ops Q (op :: rest) a w := by
  refine wpList_store_part hgd 26 x y ho g 33 (nV h.ver :: h.prev.map bV) (h.root.map bV) [nV h.time, nV h.work, nV h.nonce, tv] (p.map bV) 31 (.agg (p.map bV).toArray) hx hy rfl (by simp [hh.2.1]) (by simp [hp, hh.2.2.1]) (by rw [k.row]; simp [blL, hdL]) (by rw [List.length_map, hp]; kernel_rfl) (bV_one' p) ?_
  intro w' q1 q2
  exact hK w' ⟨by rw [q1]; simp [blL, hdL]⟩ q2
end
theorem BlBox.far {w w' : World} {g : Nat} {h : THd} {tv : Value} {q : Option Nat} (k : BlBox w g h tv) (hg : w.grownBy w' q) (hq : q ≠ some g) : BlBox w' g h tv := ⟨row_far k.row hg hq⟩
/-- A row of one. -/
theorem txsAt_one {w : World} {g : Nat} {t : TTx} {iv ov : Value} {fr : Nat × Nat} (h : w.heap[g]? = some (.cells (txL t iv ov).toArray 63 fr)) (ht : TxAt w (.agg (txL t iv ov).toArray) t) : TxsAt w (.slice (some ⟨g, 0, none⟩) 1 1) [t] := by
  obtain ⟨h0, iv', ov', e, h1, h2⟩ := ht
  have e : txL t iv ov = txL t iv' ov' := by simpa using e
  refine ⟨_, _, rfl, Nat.le_refl _, fun _ => ⟨g, 0, rfl, fun i u hu => ?_⟩⟩
  obtain ⟨rfl, rfl⟩ : i = 0 ∧ t = u := by
    cases i with
    | zero => exact ⟨rfl, by simpa using hu⟩
    | succ i => simp at hu
  refine ⟨h0, iv', ov', fun j v hj => ?_, h1, h2⟩
  rw [cell_of_row _ _ _ _ _ _ h, List.getElem?_toArray, e]
  simpa using hj
end Go.Proofs.YtdhcjaflbfpalaaGreatDoor.Sha

/-
  Package tx reads a transaction out of bytes. Nothing that was there turns. Conditions: the bytes lie where the slice says; the errors are there.
-/
namespace Go.Proofs.YtdhcjaflbfpalaaGreatDoor.Sha
open Go Go.RowKit
/-- What a Reader's bytes are as a transaction. -/
structure TakeIs (bs : List UInt8) (t : TTx) (b : List UInt8) (d : Nat) : Prop where
  eq : takeTx bs 0 = (t, b, d)
end Go.Proofs.YtdhcjaflbfpalaaGreatDoor.Sha

/-
  A whole box written, the new world hidden; what a loop that climbs keeps. No conditions.
-/
namespace Go.Proofs.YtdhcjaflbfpalaaGreatDoor.Sha
open Go Go.RowKit
/-- Where the leaf, the answer lie. -/
structure ClAt (w : World) (g : Nat) (lf : List UInt8) (wr : World) : Prop where
  leaf : wr.heap[g]? = some (.cells (lf.map bV).toArray 26 (0, 0))
  zero : wr.heap[g + 1]? = some (.cells (zM.map bV).toArray 26 (0, 0))
  low : Below w.heap.size w wr
  lo : w.heap.size ≤ g
theorem ClAt.below {w : World} {g : Nat} {lf : List UInt8} {wr w' : World} (h : ClAt w g lf wr) (hb : Below wr.heap.size wr w') : ClAt w g lf w' :=
  ⟨row_below h.leaf hb, row_below h.zero hb, h.low.trans (hb.mono h.low.size), h.lo⟩
theorem ClAt.turn {w : World} {g : Nat} {lf lf' : List UInt8} {wr w' : World} (h : ClAt w g lf wr) (hn : w'.heap[g]? = some (.cells (lf'.map bV).toArray 26 (0, 0))) (hg : wr.grownBy w' (some g)) : ClAt w g lf' w' :=
  ⟨hn, row_far h.zero hg (fun e => by have := Option.some.inj e; omega), h.low.grown hg h.low.size (fun k hk => by cases hk; exact h.lo), h.lo⟩
end Go.Proofs.YtdhcjaflbfpalaaGreatDoor.Sha

/-
  Package block makes the first transaction of a block. New memory; nothing that was there turns. Condition: the bytes that are added lie where the slice says.
-/
namespace Go.Proofs.YtdhcjaflbfpalaaGreatDoor.Sha
open Go Go.RowKit
theorem built_outl (v : Nat) (l : List UInt8) (hl : l.length = 32) : Tryz.prog.built 116 [(0, .int .u64 (v : Int)), (1, .agg (l.map bV).toArray)] = some (outL ⟨v, l⟩).toArray := by
  have hz : ∀ parts, Tryz.prog.built 116 parts = Instr.fill ([(0, 1), (1, 32)].toArray[·]?) (uV 0 :: List.replicate 32 (bV 0)).toArray parts := fun parts => by kernel_rfl
  have hm : (l.map bV).length = 32 := by simp [hl]
  rw [hz, fill_part _ 0 0 (.int .u64 (v : Int)) [uV v] _ _ rfl rfl (by simp), fill_part _ 1 1 (.agg (l.map bV).toArray) (l.map bV) _ _ rfl (by rw [hm]; rfl) (by rw [hm]; simp)]
  have e : ∀ A : List Value, A.length ≤ 33 → A.drop (1 + (l.map bV).length) = [] := fun A hA => List.drop_of_length_le (by rw [hm]; omega)
  rw [e _ (by simp), List.append_nil]
  rfl
/-- The first transaction of a block. -/
def firstX (h32 : Nat) (ex : List UInt8) : TIn := ⟨zH, 4294967295, leB h32 4 ++ ex, 4294967295⟩
def firstT (h32 val : Nat) (lock ex : List UInt8) : TTx := ⟨1, [firstX h32 ex], [⟨val, lock⟩], 0⟩
theorem firstX_ok {h32 : Nat} (ex : List UInt8) (_ : h32 ≤ 4294967295) : InOk (firstX h32 ex) := ⟨zH_length, by show 4294967295 ≤ _; omega, by show 4294967295 ≤ _; omega⟩
end Go.Proofs.YtdhcjaflbfpalaaGreatDoor.Sha

/-
  Plain mathematics of a block's bytes: what was written is read again; cut off it ends too early; longer it is none; what is read has just these bytes. No conditions beyond those that each states.
-/
namespace Go.Proofs.YtdhcjaflbfpalaaGreatDoor.Sha
open Go Go.RowKit
def txsB (l : List TTx) : List UInt8 := l.flatMap txB
def blkB (x : TBlk) : List UInt8 := hdB x.head ++ putL x.txs.length ++ txsB x.txs
theorem txsB_cons (t : TTx) (l : List TTx) : txsB (t :: l) = txB t ++ txsB l := rfl
section
variable {α : Type} {z a : α} {p : Par α} {x : List UInt8}
end
end Go.Proofs.YtdhcjaflbfpalaaGreatDoor.Sha

/-
  What of a block is small enough for the walks. No conditions.
-/
namespace Go.Proofs.YtdhcjaflbfpalaaGreatDoor.Sha
open Go Go.RowKit
/-- A block of a few transactions, each of a few inputs and outputs. -/
def BlkSmall (x : TBlk) : Prop := (∀ t ∈ x.txs, TxSmall t) ∧ x.txs.length ≤ 1000
theorem txB_le {t : TTx} (h : TxSmall t) : (txB t).length ≤ 200100000 := by
  have h1 := h.bytes
  have h2 := h.ins0
  have h3 := h.2.2.1
  have h4 := lenN_bd t.ins.length
  have h5 := lenN_bd t.outs.length
  omega
theorem txsB_le : ∀ (l : List TTx), (∀ t ∈ l, TxSmall t) → (txsB l).length ≤ 200100000 * l.length
  | [], _ => by simp [txsB]
  | t :: l, h => by
    have ih := txsB_le l (fun u hu => h u (List.mem_cons_of_mem _ hu))
    have h1 := txB_le (h t List.mem_cons_self)
    rw [txsB_cons, List.length_append, List.length_cons]
    omega
theorem BlkSmall.txs {x : TBlk} (h : BlkSmall x) : (txsB x.txs).length ≤ 200100000000 := by
  have h1 := txsB_le x.txs h.1
  have h2 := h.2
  omega
theorem blkB_len {x : TBlk} (hh : HdOk x.head) : (blkB x).length = 80 + lenN x.txs.length + (txsB x.txs).length := by
  simp only [blkB, List.length_append, hdB_length hh, putL_length]
theorem BlkSmall.len {x : TBlk} (h : BlkSmall x) (hh : HdOk x.head) : (blkB x).length ≤ 200200000000 := by
  have h1 := h.txs
  have h2 := lenN_bd x.txs.length
  rw [blkB_len hh]
  omega
end Go.Proofs.YtdhcjaflbfpalaaGreatDoor.Sha

/-
  Package head writes a header down, in new memory. Nothing that was there turns. Condition: digests of 32 bytes, numbers of 32 bits.
-/
namespace Go.Proofs.YtdhcjaflbfpalaaGreatDoor.Sha
open Go Go.RowKit
set_option maxHeartbeats 1000000 in
set_option maxRecDepth 100000 in
theorem hdbytes_any (h : THd) (hh : HdOk h) (w : World) :
    Calls Tryz.prog 57 #[.agg (hdL h).toArray] w fun e w' => ∃ v, e = .returned v ∧ CopyB w w' v (hdB h) := by
  obtain ⟨i0, hi, hz0, hz1, hz2⟩ := info_parts info_u8
  have HH := Lib.hid hh
  obtain ⟨cs, hcs⟩ : ∃ cs, cs = hdL h := ⟨_, rfl⟩
  rw [← hcs]
  have CS := Lib.hid hcs
  obtain ⟨vv, hvv⟩ : ∃ n, n = h.ver := ⟨_, rfl⟩
  obtain ⟨vt, hvt⟩ : ∃ n, n = h.time := ⟨_, rfl⟩
  obtain ⟨vw, hvw⟩ : ∃ n, n = h.work := ⟨_, rfl⟩
  obtain ⟨vn, hvn⟩ : ∃ n, n = h.nonce := ⟨_, rfl⟩
  have BV : Hid (vv ≤ 4294967295) := by show _ ≤ _; rw [hvv]; exact hh.1
  have BT : Hid (vt ≤ 4294967295) := by show _ ≤ _; rw [hvt]; exact hh.2.2.2.1
  have BW : Hid (vw ≤ 4294967295) := by show _ ≤ _; rw [hvw]; exact hh.2.2.2.2.1
  have BN : Hid (vn ≤ 4294967295) := by show _ ≤ _; rw [hvn]; exact hh.2.2.2.2.2
  have EE : Hid (hdB h = leB vv 4 ++ h.prev ++ h.root ++ leB vt 4 ++ leB vw 4 ++ leB vn 4) := by show _ = _; rw [hvv, hvt, hvw, hvn]; rfl
  have LP : Hid (h.prev.length = 32) := hh.2.1
  have LR : Hid (h.root.length = 32) := hh.2.2.1
  have VV := Lib.hid hvv
  have VT := Lib.hid hvt
  have VW := Lib.hid hvw
  have VN := Lib.hid hvn
  clear hcs hh hvv hvt hvw hvn
  go_enter Tryz.func57, Tryz.ntmps57
  go_upto_region 1 with fail
  have F0 := heap_alloc_new w (.cells cs.toArray 28 (0, 0))
  have B0 := Lib.hid ((Below.refl w.heap.size w).alloc (Nat.le_refl _) (.cells cs.toArray 28 (0, 0)))
  generalize hw1 : World.alloc _ _ = w1
  have e1 : w.alloc (.cells cs.toArray 28 (0, 0)) = w1 := hw1
  rw [e1] at F0 B0
  rw [CS.out] at F0
  have K : HdBox w1 w.heap.size h := ⟨F0⟩
  have K := Lib.hid K
  clear hw1 e1 F0
  have C0 : Hid (∀ w', Below w1.heap.size w1 w' → w'.cell? ⟨w.heap.size, 0, none⟩ = some (.int .u32 (vv : Int))) := fun w' hw' => by rw [VV.out]; exact ((K.out.below hw').cells HH.out).1
  have C65 : Hid (∀ w', Below w1.heap.size w1 w' → w'.cell? ⟨w.heap.size, 65, none⟩ = some (.int .u32 (vt : Int))) := fun w' hw' => by rw [VT.out]; exact ((K.out.below hw').cells HH.out).2.1
  have C66 : Hid (∀ w', Below w1.heap.size w1 w' → w'.cell? ⟨w.heap.size, 66, none⟩ = some (.int .u32 (vw : Int))) := fun w' hw' => by rw [VW.out]; exact ((K.out.below hw').cells HH.out).2.2.1
  have C67 : Hid (∀ w', Below w1.heap.size w1 w' → w'.cell? ⟨w.heap.size, 67, none⟩ = some (.int .u32 (vn : Int))) := fun w' hw' => by rw [VN.out]; exact ((K.out.below hw').cells HH.out).2.2.2
  have SP : Hid (∀ w', Below w1.heap.size w1 w' → SrcB w' (.slice (some ⟨w.heap.size, 1, none⟩) 32 32) h.prev) := fun w' hw' => src_range (K.out.below hw').prev LP.out.symm (by omega) (Nat.le_refl _)
  have SR : Hid (∀ w', Below w1.heap.size w1 w' → SrcB w' (.slice (some ⟨w.heap.size, 33, none⟩) 32 32) h.root) := fun w' hw' => src_range ((K.out.below hw').root HH.out) LR.out.symm (by omega) (Nat.le_refl _)
  go_upto_region 2 with (at_make; refine wpList_make_own _ rfl _ _ 89 rfl w1.heap.size 5 i0 (.int .u8 0) 1 Tryz.underlying89 hi hz0 hz1 _ _ _ 80 rfl rfl (by omega) (by rw [hz2]; omega) (by unfold maxLen; omega) (Nat.le_refl _) ?_; intro w3 hown hgrow; have C3 : Hid (CopyB w1 w3 (.slice (some ⟨w1.heap.size, 0, none⟩) 0 80) []) := (⟨hown, below_made hgrow⟩ : CopyB w1 w3 (.slice (some ⟨w1.heap.size, 0, none⟩) 0 80) []); clear hown hgrow; go_frame)
  have c0 := C0.out w3 C3.out.2
  go_wp2_with fail
  refine (four_new [] _ vv w3 (nil_src _) (by simp) BV.out).mono ?_
  rintro e w4 ⟨s4, n4, c4, rfl, hn4, hc4⟩
  have P4 := Lib.hid hc4
  have C4 := Lib.hid (C3.out.keep hc4.2)
  clear hn4 hc4 c0 C3
  rw [List.nil_append] at P4
  go_upto_region 3 with ((with_reducible show wpList _ _ _ _ _ _); refine wpList_append_g _ rfl (.tmp 5) (.tmp 8) 89 rfl w1.heap.size 5 i0 Tryz.underlying89 hi hz0 hz1 hz2 _ _ _ (by rfl) C4.out.1 (.slice s4 n4 c4) (leB vv 4) (by rfl) P4.out.src (by simp only [leB_length, List.length_nil]; omega) C4.out.2.size ?_; intro v5 w5 a1 a2 a3; have C5 := Lib.hid (C4.out.app a1 a2); clear a1 a2 a3; go_frame)
  obtain ⟨A5, hA5⟩ : ∃ A, A = leB vv 4 := ⟨_, rfl⟩
  rw [List.nil_append, ← hA5] at C5
  have LA5 : Hid (A5.length = 4) := by show _ = _; rw [hA5, leB_length]
  have HA5 := Lib.hid hA5
  clear hA5 P4 C4
  go_upto_region 4 with ((with_reducible show wpList _ _ _ _ _ _); refine wpList_append_g _ rfl (.tmp 10) (.tmp 12) 89 rfl w1.heap.size 5 i0 Tryz.underlying89 hi hz0 hz1 hz2 _ _ _ (by rfl) C5.out.1 (.slice (some ⟨w.heap.size, 1, none⟩) 32 32) h.prev (by rfl) (SP.out _ C5.out.2) (by rw [LA5.out, LP.out]; omega) C5.out.2.size ?_; intro v6 w6 a1 a2 a3; have C6 := Lib.hid (C5.out.app a1 a2); clear a1 a2 a3; go_frame)
  have LA6 : Hid ((A5 ++ h.prev).length = 36) := by show _ = _; rw [List.length_append, LA5.out, LP.out]
  clear C5 LA5
  go_upto_region 5 with ((with_reducible show wpList _ _ _ _ _ _); refine wpList_append_g _ rfl (.tmp 14) (.tmp 16) 89 rfl w1.heap.size 5 i0 Tryz.underlying89 hi hz0 hz1 hz2 _ _ _ (by rfl) C6.out.1 (.slice (some ⟨w.heap.size, 33, none⟩) 32 32) h.root (by rfl) (SR.out _ C6.out.2) (by rw [LA6.out, LR.out]; omega) C6.out.2.size ?_; intro v7 w7 a1 a2 a3; have C7 := Lib.hid (C6.out.app a1 a2); clear a1 a2 a3; go_frame)
  have LA7 : Hid ((A5 ++ h.prev ++ h.root).length = 68) := by show _ = _; rw [List.length_append, LA6.out, LR.out]
  clear C6 LA6
  have c65 := C65.out w7 C7.out.2
  go_wp2_with fail
  refine (four_new [] _ vt w7 (nil_src _) (by simp) BT.out).mono ?_
  rintro e w8 ⟨s8, n8, c8, rfl, hn8, hc8⟩
  have P8 := Lib.hid hc8
  have C8 := Lib.hid (C7.out.keep hc8.2)
  clear hn8 hc8 c65 C7
  rw [List.nil_append] at P8
  go_upto_region 6 with ((with_reducible show wpList _ _ _ _ _ _); refine wpList_append_g _ rfl (.tmp 18) (.tmp 21) 89 rfl w1.heap.size 5 i0 Tryz.underlying89 hi hz0 hz1 hz2 _ _ _ (by rfl) C8.out.1 (.slice s8 n8 c8) (leB vt 4) (by rfl) P8.out.src (by rw [LA7.out, leB_length]; omega) C8.out.2.size ?_; intro v9 w9 a1 a2 a3; have C9 := Lib.hid (C8.out.app a1 a2); clear a1 a2 a3; go_frame)
  have LA9 : Hid ((A5 ++ h.prev ++ h.root ++ leB vt 4).length = 72) := by show _ = _; rw [List.length_append, LA7.out, leB_length]
  clear P8 C8 LA7
  have c66 := C66.out w9 C9.out.2
  go_wp2_with fail
  refine (four_new [] _ vw w9 (nil_src _) (by simp) BW.out).mono ?_
  rintro e w10 ⟨s10, n10, c10, rfl, hn10, hc10⟩
  have P10 := Lib.hid hc10
  have C10 := Lib.hid (C9.out.keep hc10.2)
  clear hn10 hc10 c66 C9
  rw [List.nil_append] at P10
  go_upto_region 7 with ((with_reducible show wpList _ _ _ _ _ _); refine wpList_append_g _ rfl (.tmp 23) (.tmp 26) 89 rfl w1.heap.size 5 i0 Tryz.underlying89 hi hz0 hz1 hz2 _ _ _ (by rfl) C10.out.1 (.slice s10 n10 c10) (leB vw 4) (by rfl) P10.out.src (by rw [LA9.out, leB_length]; omega) C10.out.2.size ?_; intro v11 w11 a1 a2 a3; have C11 := Lib.hid (C10.out.app a1 a2); clear a1 a2 a3; go_frame)
  have LA11 : Hid ((A5 ++ h.prev ++ h.root ++ leB vt 4 ++ leB vw 4).length = 76) := by show _ = _; rw [List.length_append, LA9.out, leB_length]
  clear P10 C10 LA9
  have c67 := C67.out w11 C11.out.2
  go_wp2_with fail
  refine (four_new [] _ vn w11 (nil_src _) (by simp) BN.out).mono ?_
  rintro e w12 ⟨s12, n12, c12, rfl, hn12, hc12⟩
  have P12 := Lib.hid hc12
  have C12 := Lib.hid (C11.out.keep hc12.2)
  clear hn12 hc12 c67 C11
  rw [List.nil_append] at P12
  go_wp2_with ((with_reducible show wpList _ _ _ _ _ _); refine wpList_append_g _ rfl (.tmp 28) (.tmp 31) 89 rfl w1.heap.size 5 i0 Tryz.underlying89 hi hz0 hz1 hz2 _ _ _ (by rfl) C12.out.1 (.slice s12 n12 c12) (leB vn 4) (by rfl) P12.out.src (by rw [LA11.out, leB_length]; omega) C12.out.2.size ?_; intro v13 w13 a1 a2 a3; have C13 := Lib.hid (C12.out.app a1 a2); clear a1 a2 a3; go_frame)
  go_ret
  refine ⟨_, rfl, ?_⟩
  rw [EE.out, ← HA5.out]
  exact C13.out.start B0.out
end Go.Proofs.YtdhcjaflbfpalaaGreatDoor.Sha

/-
  Package head answers the digest that a header goes by. Nothing that was there turns. Conditions: a header of digests of 32 bytes, the table is there.
-/
namespace Go.Proofs.YtdhcjaflbfpalaaGreatDoor.Sha
open Go Go.RowKit
set_option maxHeartbeats 1000000 in
set_option maxRecDepth 100000 in
theorem id_hd (h : THd) (hh : HdOk h) (w : World) (hk : KTab w) :
    Calls Tryz.prog 32 #[.agg (hdL h).toArray] w fun e w' => e = .returned (.agg ((hdId h).map bV).toArray) ∧ Below w.heap.size w w' := by
  have HH := Lib.hid hh
  have HK := Lib.hid hk
  have HOne := Lib.hid (bV_one (hdId h))
  have HLen : Hid ((((hdId h).map bV).toArray).size = 32) := by show _ = _; simp [hdId_length]
  obtain ⟨dg, hdg⟩ : ∃ dg, dg = ((hdId h).map bV).toArray := ⟨_, rfl⟩
  rw [← hdg] at HOne HLen ⊢
  have HD := Lib.hid hdg
  obtain ⟨l0, hl0⟩ : ∃ l, l = hdL h := ⟨_, rfl⟩
  have LN0 : Hid (l0.length = 68) := by show _ = _; rw [hl0]; exact hdL_length hh
  have BY : Hid (∀ W, Calls Tryz.prog 57 #[.agg l0.toArray] W fun e w' => ∃ v, e = .returned v ∧ CopyB W w' v (hdB h)) := fun W => by rw [hl0]; exact hdbytes_any h HH.out W
  rw [← hl0]
  clear hdg hk hh hl0
  go_enter Tryz.func32, Tryz.ntmps32
  go_upto_region 1 with fail
  have f1 := row_below (heap_alloc_new w (.cells l0.toArray 28 (0, 0))) ((Below.refl _ _).alloc (Nat.le_refl _) (.cells (List.replicate 32 (bV 0)).toArray 26))
  have f2 := heap_alloc_new (w.alloc (.cells l0.toArray 28 (0, 0))) (.cells (List.replicate 32 (bV 0)).toArray 26)
  have b1 := ((Below.refl w.heap.size w).alloc (Nat.le_refl _) (.cells l0.toArray 28 (0, 0))).alloc (by simp) (.cells (List.replicate 32 (bV 0)).toArray 26)
  rw [World.size_alloc] at f2
  generalize hw1 : World.alloc _ _ = w1
  have e1 : (w.alloc (.cells l0.toArray 28 (0, 0))).alloc (.cells (List.replicate 32 (bV 0)).toArray 26) = w1 := hw1
  rw [e1] at f1 f2 b1
  have F1 := Lib.hid f1
  have F2 := Lib.hid f2
  have B1 := Lib.hid b1
  clear f1 f2 b1 hw1 e1
  go_wp2_with ((with_reducible show wpList _ _ _ _ _ _); refine wpList_load_row rfl 28 (.tmp 1) rfl w.heap.size rfl 28 l0.toArray (0, 0) _ F1.out Tryz.underlying28 rfl (by show _ = some l0.length; rw [LN0.out] <;> kernel_rfl) ?_; go_frame)
  refine (BY.out w1).mono ?_
  rintro e w2 ⟨v2, rfl, hc⟩
  have S2 := Lib.hid hc.src
  have B2 := Lib.hid (B1.out.trans (hc.2.mono B1.out.size))
  have F2 := Lib.hid (row_below F2.out hc.2)
  have HLn : Hid ((hdB h).length ≤ 576460752303423487) := by show _ ≤ _; rw [hdB_length HH.out]; omega
  clear hc
  go_wp2_with fail
  have TW := twice_any (hdB h) v2 w2 (HK.out.below B2.out) S2.out HLn.out
  change Calls _ _ _ _ (fun e w' => e = .returned (.agg ((hdId h).map bV).toArray) ∧ Below w2.heap.size w2 w') at TW
  rw [← HD.out] at TW
  refine TW.mono ?_
  rintro e w3 ⟨rfl, hb3⟩
  clear TW
  have B3 := Lib.hid (B2.out.trans (hb3.mono B2.out.size))
  have F3 := Lib.hid (row_below F2.out hb3)
  clear hb3
  go_wp2_with ((with_reducible show wpList _ _ _ _ _ _); refine wpList_store_row rfl 26 (.tmp 2) (.tmp 5) rfl (w.heap.size + 1) dg rfl rfl 26 _ F3.out (by rw [HLen.out]; kernel_rfl) (by rw [HLen.out]; rfl) HOne.out ?_; go_frame)
  refine bodyPost_ret (results_cell_row rfl _ _ (w.heap.size + 1) 26 dg (0, 0) (.array 32 5) rfl (setRow_heap _ _ _ _ _ _ F3.out) Tryz.underlying26 rfl (by rw [HLen.out]; kernel_rfl)) rfl ⟨rfl, below_setRow B3.out (Nat.le_succ _) _⟩
end Go.Proofs.YtdhcjaflbfpalaaGreatDoor.Sha

/-
  Package block answers the digests that a block's transactions go by, their root, its own. New memory; nothing that was there turns. Conditions: a block of a few transactions that lies in memory; the table is there.
-/
namespace Go.Proofs.YtdhcjaflbfpalaaGreatDoor.Sha
open Go Go.RowKit
/-- The digests that transactions go by. -/
def idsL (l : List TTx) : List (List UInt8) := l.map fun t => sha (sha (txB t))
theorem idsL_ok (l : List TTx) : HsOk (idsL l) := fun y hy => by
  obtain ⟨t, _, rfl⟩ := List.mem_map.1 hy
  exact sha_length _
theorem idsL_snoc {l : List TTx} {k : Nat} {t : TTx} (h : l[k]? = some t) : idsL (l.take (k + 1)) = idsL (l.take k) ++ [sha (sha (txB t))] := by
  unfold idsL
  rw [List.take_add_one, h, List.map_append]
  rfl
theorem idsL_length (l : List TTx) : (idsL l).length = l.length := by simp [idsL]
/-- The root of a block's transactions. -/
def blRoot (x : TBlk) : List UInt8 := rootL prH zM (idsL x.txs)
theorem blRoot_length (x : TBlk) : (blRoot x).length = 32 := rootL_len _ _ rfl (idsL_ok _)
end Go.Proofs.YtdhcjaflbfpalaaGreatDoor.Sha

/-
  Package block makes the block that each chain begins with. New memory; nothing that was there turns. Condition: the table is there.
-/
namespace Go.Proofs.YtdhcjaflbfpalaaGreatDoor.Sha
open Go Go.RowKit
def startH : THd := ⟨1, zH, zH, 1000, 1, 0⟩
def startT : TTx := firstT 0 0 (sha []) []
/-- The block that each chain begins with, its root not yet set. -/
def startX0 : TBlk := ⟨startH, [startT]⟩
def startX : TBlk := ⟨{ startH with root := blRoot startX0 }, [startT]⟩
theorem startH_ok : HdOk startH := ⟨by decide, rfl, rfl, by decide, by decide, by decide⟩
theorem startX_ok : HdOk startX.head := ⟨by decide, rfl, blRoot_length startX0, by decide, by decide, by decide⟩
theorem firstT_came {h32 val : Nat} {lock ex : List UInt8} (h1 : h32 ≤ 4294967295) (hv : val ≤ 18446744073709551615) (hl : lock.length = 32) (he : ex.length ≤ 99000) : TxSmall (firstT h32 val lock ex) := by
  refine ⟨⟨⟨by show 1 ≤ _; omega, by show 0 ≤ _; omega⟩, ?_, ?_, ?_, by simp [firstT], by simp [firstT]⟩, by simp [firstT], by simp [firstT], ?_⟩
  · intro y hy
    simp only [firstT, List.mem_singleton] at hy
    rw [hy]
    exact firstX_ok ex h1
  · intro y hy
    simp only [firstT, List.mem_singleton] at hy
    rw [hy]
    exact ⟨hl, hv⟩
  · intro y hy
    simp only [firstT, List.mem_singleton] at hy
    rw [hy]
    simp only [firstX, List.length_append, leB_length]
    omega
  · intro y hy
    simp only [firstT, List.mem_singleton] at hy
    rw [hy]
    simp only [firstX, List.length_append, leB_length]
    omega
theorem startT_small : TxSmall startT := firstT_came (by omega) (by omega) (sha_length _) (by simp)
theorem startX0_small : BlkSmall startX0 := ⟨fun t ht => by simp only [startX0, List.mem_singleton] at ht; rw [ht]; exact startT_small, by simp [startX0]⟩
end Go.Proofs.YtdhcjaflbfpalaaGreatDoor.Sha

/-
  Headers that grow each upon an earlier one, the tree that they make, the ways in it: plain mathematics. No conditions.
-/
namespace Go.Proofs.YtdhcjaflbfpalaaGreatDoor.Sha
open Go Go.RowKit
/-- The header that number x makes, behind out. -/
def growH (out : List THd) (i : Nat) (x : Int) : THd :=
  ⟨i % 4294967296, hdId (out.getD (numb x out.length).toNat startX.head), zH, ((out.getD (numb x out.length).toNat startX.head).time + (numb (x.tdiv 64) 30).toNat) % 4294967296, 1 + (numb (x.tdiv 2048) 4).toNat, 0⟩
theorem growH_ok (out : List THd) (i : Nat) (x : Int) : HdOk (growH out i x) := by
  have h4 := numb_bd (x.tdiv 2048) 4 (by omega)
  refine ⟨?_, hdId_length _, rfl, ?_, ?_, ?_⟩
  · show i % 4294967296 ≤ _; omega
  · show _ % 4294967296 ≤ _; omega
  · show 1 + (numb (x.tdiv 2048) 4).toNat ≤ _; omega
  · show 0 ≤ _; omega
def grownN (z : Nat → Int) : Nat → List THd
  | 0 => [startX.head]
  | k + 1 => grownN z k ++ [growH (grownN z k) k (z k)]
theorem grownN_length (z : Nat → Int) : ∀ k, (grownN z k).length = k + 1
  | 0 => rfl
  | k + 1 => by rw [grownN, List.length_append, grownN_length z k]; rfl
theorem grownN_ok (z : Nat → Int) : ∀ k, ∀ h ∈ grownN z k, HdOk h
  | 0, h, hh => by rcases List.mem_singleton.1 hh with rfl; exact startX_ok
  | k + 1, h, hh => by
    rcases List.mem_append.1 hh with h1 | h1
    · exact grownN_ok z k h h1
    · rcases List.mem_singleton.1 h1 with rfl; exact growH_ok _ _ _
def hdAt (z : Nat → Int) (j : Nat) : THd := (grownN z j).getD j startX.head
theorem grownN_get (z : Nat → Int) : ∀ (k j : Nat), j ≤ k → (grownN z k)[j]? = some (hdAt z j)
  | 0, j, h => by
    obtain rfl : j = 0 := by omega
    rfl
  | k + 1, j, h => by
    by_cases e : j = k + 1
    · subst e
      unfold hdAt
      rw [List.getD_eq_getElem?_getD, List.getElem?_eq_getElem (by rw [grownN_length]; omega)]
      rfl
    · rw [grownN, List.getElem?_append_left (by rw [grownN_length]; omega)]
      exact grownN_get z k j (by omega)
theorem hdAt_ok (z : Nat → Int) (j : Nat) : HdOk (hdAt z j) := grownN_ok z j _ (List.mem_of_getElem? (grownN_get z j j (Nat.le_refl _)))
theorem hdAt_succ (z : Nat → Int) (j : Nat) : hdAt z (j + 1) = growH (grownN z j) j (z j) := by
  have h := grownN_get z (j + 1) (j + 1) (Nat.le_refl _)
  rw [grownN, List.getElem?_append_right (by rw [grownN_length]; omega), grownN_length, Nat.sub_self] at h
  injection h with h
  exact h.symm
theorem hdAt_prev (z : Nat → Int) (j : Nat) : ∃ i, i ≤ j ∧ (hdAt z (j + 1)).prev = hdId (hdAt z i) := by
  have hb := numb_bd (z j) ((grownN z j).length : Int) (by rw [grownN_length]; omega)
  rw [grownN_length] at hb
  refine ⟨(numb (z j) ((grownN z j).length : Int)).toNat, by rw [grownN_length]; omega, ?_⟩
  rw [hdAt_succ]
  show hdId _ = _
  rw [List.getD_eq_getElem?_getD, grownN_get z j _ (by rw [grownN_length]; omega)]
  rfl
/-- A header taken in, or not. -/
def addT (L : List TNd) (h : THd) : List TNd := if addE L h = 0 then L ++ [nxT L h] else L
def treeN (z : Nat → Int) : Nat → List TNd
  | 0 => [stT (hdAt z 0)]
  | k + 1 => addT (treeN z k) (hdAt z (k + 1))
def Hung (L : List TNd) : Prop := ∀ (i : Nat) (x : TNd), L[i]? = some x → 0 ≤ x.parent → (L.getD x.parent.toNat ndZ).id = x.h.prev
theorem findT_id {L : List TNd} (h : TrL L) {j : Nat} {y : TNd} (hy : L[j]? = some y) : findT L y.id = (j : Int) :=
  findT_some hy rfl fun i x hi hx => by
    have hp := List.pairwise_iff_getElem.1 h.ids i j (List.getElem?_eq_some_iff.1 hx).1 (List.getElem?_eq_some_iff.1 hy).1 hi
    rw [(List.getElem?_eq_some_iff.1 hx).2, (List.getElem?_eq_some_iff.1 hy).2] at hp
    exact hp
theorem findT_push {L : List TNd} {id : List UInt8} (x : TNd) (h : 0 ≤ findT L id) : findT (L ++ [x]) id = findT L id := by
  rcases findT_cases L id with ⟨e, _⟩ | ⟨k, y, e, hy, hi, hlt⟩
  · omega
  · rw [e]
    have hk := (List.getElem?_eq_some_iff.1 hy).1
    exact findT_some (by rw [List.getElem?_append_left hk]; exact hy) hi fun j z hj hz => hlt j z hj (by rw [List.getElem?_append_left (by omega)] at hz; exact hz)
theorem findT_last {L : List TNd} (x : TNd) (h : ∀ y ∈ L, y.id ≠ x.id) : findT (L ++ [x]) x.id = (L.length : Int) :=
  findT_some (by rw [List.getElem?_append_right (Nat.le_refl _), Nat.sub_self]; rfl) rfl fun j z hj hz => h z (by rw [List.getElem?_append_left hj] at hz; exact List.mem_of_getElem? hz)
structure TwI (z : Nat → Int) (k : Nat) (L : List TNd) : Prop where
  tr : TrL L
  hung : Hung L
  has : ∀ j, j ≤ k → 0 ≤ findT L (hdId (hdAt z j))
  len : L.length ≤ k + 1
theorem Hung.push {L : List TNd} {hd : THd} (h : Hung L) (ht : TrL L) (ha : addE L hd = 0) : Hung (L ++ [nxT L hd]) := by
  intro i x hx hp
  by_cases hi : i < L.length
  · rw [List.getElem?_append_left hi] at hx
    have hd' := ht.down _ _ hx
    rw [List.getD_eq_getElem?_getD, List.getElem?_append_left (by omega), ← List.getD_eq_getElem?_getD]
    exact h i x hx hp
  · have e : i = L.length := by have := (List.getElem?_eq_some_iff.1 hx).1; simp at this; omega
    rw [e, List.getElem?_append_right (Nat.le_refl _), Nat.sub_self] at hx
    cases hx
    unfold addE at ha
    split at ha
    · omega
    split at ha
    · omega
    rename_i h1 h2
    rcases findT_cases L hd.prev with ⟨e, _⟩ | ⟨k, y, e, hy, hi, _⟩
    · omega
    · have hk := (List.getElem?_eq_some_iff.1 hy).1
      have ep : (nxT L hd).parent = (k : Int) := e
      rw [ep, Int.toNat_natCast, List.getD_eq_getElem?_getD, List.getElem?_append_left hk, hy]
      exact hi
theorem TwI.start (z : Nat → Int) : TwI z 0 (treeN z 0) := by
  refine ⟨stT_tr (hdAt_ok z 0), fun i x hx hp => ?_, fun j hj => ?_, Nat.le_refl _⟩
  · cases i with
    | zero => cases hx; exact absurd hp (by show ¬ (0 : Int) ≤ -1; omega)
    | succ i => cases hx
  · obtain rfl : j = 0 := by omega
    have e := findT_some (L := treeN z 0) (id := hdId (hdAt z 0)) (k := 0) (x := stT (hdAt z 0)) rfl rfl (fun j y hj => by omega)
    omega
theorem TwI.step {z : Nat → Int} {k : Nat} {L : List TNd} (h : TwI z k L) (hk : k ≤ 100) : TwI z (k + 1) (addT L (hdAt z (k + 1))) := by
  obtain ⟨i, hi, hp⟩ := hdAt_prev z k
  have hpf := h.has i hi
  rw [← hp] at hpf
  have hl := h.len
  unfold addT
  by_cases h9 : 0 ≤ findT L (hdId (hdAt z (k + 1)))
  · have e : addE L (hdAt z (k + 1)) = 109 := by unfold addE; rw [if_pos h9]
    rw [if_neg (by omega)]
    refine ⟨h.tr, h.hung, fun j hj => ?_, by omega⟩
    by_cases hj2 : j = k + 1
    · subst hj2; exact h9
    · exact h.has j (by omega)
  · have e : addE L (hdAt z (k + 1)) = 0 := by unfold addE; rw [if_neg h9, if_neg (by omega), if_neg (by omega)]
    rw [if_pos e]
    refine ⟨h.tr.push (hdAt_ok z _) e, h.hung.push h.tr e, fun j hj => ?_, by rw [List.length_append]; simp; omega⟩
    by_cases hj2 : j = k + 1
    · subst hj2
      have hno : ∀ y ∈ L, y.id ≠ hdId (hdAt z (k + 1)) := by
        rcases findT_cases L (hdId (hdAt z (k + 1))) with ⟨_, q⟩ | ⟨q, x, q1, _⟩
        · exact q
        · omega
      have := findT_last (nxT L (hdAt z (k + 1))) hno
      have e2 : (nxT L (hdAt z (k + 1))).id = hdId (hdAt z (k + 1)) := rfl
      rw [e2] at this
      rw [this]
      omega
    · rw [findT_push _ (h.has j (by omega))]
      exact h.has j (by omega)
/-- The id of the one so far down a chain. -/
def upId (L : List TNd) (x : Int) (n : Nat) : List UInt8 := (L.getD ((upL L x).getD n 0).toNat ndZ).id
/-- Of two blocks: how far down each of them what they have in common lies. -/
structure TwP (L : List TNd) (x y : Int) (nb nc : Nat) : Prop where
  back : backT L x y = idsT L ((upL L x).take nb)
  on : onT L x y = (idsT L ((upL L y).take nc)).reverse
  down : backT L y x = idsT L ((upL L y).take nc)
  up : onT L y x = (idsT L ((upL L x).take nb)).reverse
  lb : nb < (upL L x).length
  lc : nc < (upL L y).length
  mb : meetT L x y = upId L x nb
  mc : meetT L x y = upId L y nc
end Go.Proofs.YtdhcjaflbfpalaaGreatDoor.Sha

/-
  digest.Less tells whether one digest stands ahead of another, byte by byte; nothing that was there turns. Condition: digests of 32 bytes.
-/
namespace Go.Proofs.YtdhcjaflbfpalaaGreatDoor.Sha
open Go Go.RowKit
theorem bytesOf_bv (l : List UInt8) : Lib.bytesOf (l.map bv) = l := by
  unfold Lib.bytesOf
  rw [List.map_map]
  conv => rhs; rw [← List.map_id l]
  apply List.map_congr_left
  intro x _
  show _ = x
  simp [bv]
theorem run_bytes {P : Program} {w : World} (l : List UInt8) (b off cap : Nat) (h : ∀ j, j < l.length → w.cell? ⟨b, off + j, none⟩ = some (.int .u8 (bv (l.getD j 0)))) :
    (Extern.Bytes.bytesOf (.slice (some ⟨b, off, none⟩) l.length cap)).run P w = .ok ⟨l.toArray⟩ w := by
  have := Lib.run_loadBytesX (P := P) w (l.map bv) ⟨b, off, none⟩ .empty (fun j x hj => by
    have hj1 : j < l.length := by have := (List.getElem?_eq_some_iff.1 hj).1; rwa [List.length_map] at this
    rw [Addr.add_mid, h j hj1]
    rw [List.getElem?_map, List.getElem?_eq_getElem hj1] at hj
    simp only [Option.map_some, Option.some.injEq] at hj
    rw [← hj]
    simp [List.getD, List.getElem?_eq_getElem hj1])
  rw [List.length_map, bytesOf_bv] at this
  show (Extern.Bytes.loadBytes _ _ _).run P w = _
  rw [this]
  simp
theorem run_compare {P : Program} {w : World} (l m : List UInt8) (b c off off' cap cap' : Nat) (h : ∀ j, j < l.length → w.cell? ⟨b, off + j, none⟩ = some (.int .u8 (bv (l.getD j 0))))
    (h' : ∀ j, j < m.length → w.cell? ⟨c, off' + j, none⟩ = some (.int .u8 (bv (m.getD j 0)))) :
    (Extern.BytealgCompare.compare #[.slice (some ⟨b, off, none⟩) l.length cap, .slice (some ⟨c, off', none⟩) m.length cap']).run P w = .ok (.int .i64 (Lib.compareBytes l m)) w := by
  change Sem.run P (do pure (goInt (Extern.BytealgCompare.cmp (← Extern.Bytes.bytesOf (.slice (some ⟨b, off, none⟩) l.length cap)) (← Extern.Bytes.bytesOf (.slice (some ⟨c, off', none⟩) m.length cap'))))) w = _
  simp only [Sem.run_bind, run_bytes l b off cap h, run_bytes m c off' cap' h', Sem.run_pure, Result.andThen]
  rw [Lib.cmp_eq]
  rfl
set_option maxRecDepth 100000 in
theorem compare_any (l m : List UInt8) (n n' b c off off' cap cap' : Nat) (w : World) (hn : n = l.length) (hn' : n' = m.length) (h : ∀ j, j < l.length → w.cell? ⟨b, off + j, none⟩ = some (.int .u8 (bv (l.getD j 0))))
    (h' : ∀ j, j < m.length → w.cell? ⟨c, off' + j, none⟩ = some (.int .u8 (bv (m.getD j 0)))) :
    Calls Tryz.prog 69 #[.slice (some ⟨b, off, none⟩) n cap, .slice (some ⟨c, off', none⟩) n' cap'] w fun e w' => e = .returned (.int .i64 (Lib.compareBytes l m)) ∧ w = w' := by
  subst hn hn'
  have HR := Lib.hid (run_compare (P := Tryz.prog) l m b c off off' cap cap' h h')
  clear h h'
  go_enter Tryz.func69, Tryz.ntmps69
  go_wp2
  rw [run_callFunc_extern Tryz.func96 (by kernel_rfl) (by kernel_rfl) (by kernel_rfl) (e := Extern.BytealgCompare.compare) (by kernel_rfl), HR.out]
  simp only [Result.andThen]
  rw [Oper.upon_value]
  go_wp2
  go_ret
  exact ⟨rfl, rfl⟩
def lessL (l m : List UInt8) : Bool := decide (Lib.compareBytes l m < 0)
theorem less_cons (x y : UInt8) (l m : List UInt8) : lessL (x :: l) (y :: m) = (decide (x < y) || (decide (x = y) && lessL l m)) := by
  unfold lessL
  simp only [Lib.compareBytes]
  by_cases h1 : x < y
  · simp [h1]
  · by_cases h2 : y < x
    · have h3 : ¬ x = y := fun e => by subst e; exact h1 h2
      simp [h1, h2, h3]
    · have h3 : x = y := UInt8.le_antisymm (UInt8.not_lt.1 h2) (UInt8.not_lt.1 h1)
      subst h3
      simp [h1]
theorem less_self (l : List UInt8) : lessL l l = false := by
  induction l with
  | nil => rfl
  | cons x l ih => rw [less_cons, ih]; simp
set_option maxRecDepth 100000 in
theorem less_any (l m : List UInt8) (hl : l.length = 32) (hm : m.length = 32) (w : World) :
    Calls Tryz.prog 47 #[.agg (l.map bV).toArray, .agg (m.map bV).toArray] w fun e w' => e = .returned (.bool (lessL l m)) ∧ Below w.heap.size w w' := by
  have HL := Lib.hid hl
  have HM := Lib.hid hm
  have hb : Below w.heap.size w ((w.alloc (.cells (l.map bV).toArray 26)).alloc (.cells (m.map bV).toArray 26)) := ((Below.refl _ _).alloc (Nat.le_refl _) _).alloc (by simp) _
  have h1 : ∀ j, j < l.length → ((w.alloc (.cells (l.map bV).toArray 26)).alloc (.cells (m.map bV).toArray 26)).cell? ⟨w.heap.size, 0 + j, none⟩ = some (.int .u8 (bv (l.getD j 0))) := fun j hj => by
    rw [Nat.zero_add, cell_of_row _ _ _ _ _ _ (heap_alloc2_old w _ _), bV_get _ _ hj]
  have h2 : ∀ j, j < m.length → ((w.alloc (.cells (l.map bV).toArray 26)).alloc (.cells (m.map bV).toArray 26)).cell? ⟨w.heap.size + 1, 0 + j, none⟩ = some (.int .u8 (bv (m.getD j 0))) := fun j hj => by
    rw [Nat.zero_add, cell_of_row _ _ _ _ _ _ (heap_alloc2_new w _ _), bV_get _ _ hj]
  have HB := Lib.hid hb
  have H1 := Lib.hid h1
  have H2 := Lib.hid h2
  clear hl hm hb h1 h2
  go_enter Tryz.func47, Tryz.ntmps47
  go_wp2_with fail
  generalize hw2 : World.alloc _ _ = w2
  rw [hw2] at HB H1 H2
  clear hw2
  obtain ⟨z, hz⟩ : ∃ z, Lib.compareBytes l m = z := ⟨_, rfl⟩
  have HC : ∀ n, Hid (Calls Tryz.prog 69 #[.slice (some ⟨w.heap.size, 0, none⟩) 32 32, .slice (some ⟨w.heap.size + 1, 0, none⟩) 32 32] (w2.drewN n) fun e w' => e = .returned (.int .i64 z) ∧ w' = w2.drewN n) := fun n => by
    have := compare_any l m 32 32 w.heap.size (w.heap.size + 1) 0 0 32 32 (w2.drewN n) HL.out.symm HM.out.symm H1.out H2.out
    rw [hz] at this
    exact same_of this
  have HZ := Lib.hid hz
  clear hz
  go_quiet ((go_at_call 69; exact Calls.quiet_of_same (HC _).out))
  go_wp2_with fail
  go_ret
  exact ⟨by unfold lessL; rw [HZ.out]; rfl, below_drewN HB.out _⟩
end Go.Proofs.YtdhcjaflbfpalaaGreatDoor.Sha

/-
  The order of digests and of places: of two unlike ones just one is less; less and less is less. Condition: digests of one length.
-/
namespace Go.Proofs.YtdhcjaflbfpalaaGreatDoor.Sha
open Go Go.RowKit
theorem less_asym : ∀ (l m : List UInt8), l.length = m.length → lessL l m = true → lessL m l = false
  | [], [], _, h => by cases h
  | x :: l, y :: m, hl, h => by
    rw [less_cons] at h ⊢
    simp only [Bool.or_eq_true, Bool.and_eq_true, decide_eq_true_eq] at h
    rcases h with h | ⟨rfl, h⟩
    · have h1 : ¬ y < x := fun h2 => absurd (UInt8.lt_trans h h2) (UInt8.lt_irrefl x)
      have h2 : ¬ y = x := fun e => by subst e; exact absurd h (UInt8.lt_irrefl y)
      simp [h1, h2]
    · rw [less_asym l m (by simpa using hl) h]
      simp [UInt8.lt_irrefl]
theorem less_total : ∀ (l m : List UInt8), l.length = m.length → l ≠ m → lessL l m = false → lessL m l = true
  | [], [], _, h, _ => absurd rfl h
  | x :: l, y :: m, hl, hne, h => by
    rw [less_cons] at h ⊢
    simp only [Bool.or_eq_false_iff, Bool.and_eq_false_iff, decide_eq_false_iff_not] at h
    by_cases e : x = y
    · subst e
      have h1 : lessL l m = false := by rcases h.2 with h2 | h2 <;> simp_all
      rw [less_total l m (by simpa using hl) (fun e => hne (by rw [e])) h1]
      simp
    · have : y < x := UInt8.lt_of_le_of_ne (UInt8.not_lt.1 h.1) (fun e' => e e'.symm)
      simp [this]
theorem less_trans : ∀ (l m k : List UInt8), l.length = m.length → m.length = k.length → lessL l m = true → lessL m k = true → lessL l k = true
  | [], [], _, _, _, h, _ => by cases h
  | x :: l, y :: m, z :: k, h1, h2, h, h' => by
    rw [less_cons] at h h' ⊢
    simp only [Bool.or_eq_true, Bool.and_eq_true, decide_eq_true_eq] at h h' ⊢
    rcases h with h | ⟨rfl, h⟩ <;> rcases h' with h' | ⟨rfl, h'⟩
    · exact .inl (UInt8.lt_trans h h')
    · exact .inl h
    · exact .inl h'
    · exact .inr ⟨rfl, less_trans l m k (by simpa using h1) (by simpa using h2) h h'⟩
end Go.Proofs.YtdhcjaflbfpalaaGreatDoor.Sha

/-
  What stands under a node of a tree, and a walk over its children that comes by each of them once; digests that rise, each once. No conditions beyond those that each states.
-/
namespace Go.Proofs.YtdhcjaflbfpalaaGreatDoor.Sha
open Go Go.RowKit
def subI (L : List TNd) (i : Nat) : List Nat := (List.range L.length).filter fun j : Nat => belT L (j : Int) (i : Int)
theorem sub_mem {L : List TNd} {i j : Nat} : j ∈ subI L i ↔ j < L.length ∧ belT L (j : Int) (i : Int) = true := by
  unfold subI
  rw [List.mem_filter, List.mem_range]
theorem sub_nodup (L : List TNd) (i : Nat) : (subI L i).Nodup := List.nodup_range.filter _
theorem sub_le (L : List TNd) (i : Nat) : (subI L i).length ≤ L.length := by
  have h := List.length_filter_le (fun j : Nat => belT L (j : Int) (i : Int)) (List.range L.length)
  rwa [List.length_range] at h
theorem node_at {L : List TNd} {i : Nat} (h : i < L.length) : ∃ x, L[i]? = some x := ⟨_, List.getElem?_eq_getElem h⟩
theorem bel_iff {L : List TNd} (h : TrL L) {i j : Nat} {x y : TNd} (hx : L[i]? = some x) (hy : L[j]? = some y) : belT L (j : Int) (i : Int) = true ↔ (chainT L (j : Int))[x.height.toNat]? = some (i : Int) := by
  have e : belT L (j : Int) (i : Int) = true ↔ (i : Int) ∈ chainT L (j : Int) := by
    unfold belT chainT
    rw [List.contains_iff_mem, List.mem_reverse]
  rw [e]
  constructor
  · intro hm
    obtain ⟨t, ht⟩ := List.mem_iff_getElem?.1 hm
    obtain ⟨i', z, e1, hz, e2⟩ := chain_ok h hy ht
    have e3 : i' = i := by omega
    subst e3
    rw [hx] at hz
    have e4 := Option.some.inj hz
    subst e4
    rw [e2, Int.toNat_natCast]
    exact ht
  · exact fun ht => List.mem_of_getElem? ht
theorem chain_self {L : List TNd} (h : TrL L) {i : Nat} {x : TNd} (hx : L[i]? = some x) : (chainT L (i : Int))[x.height.toNat]? = some (i : Int) := anc_chainAt (h.height hx).1 (anc_self h hx)
theorem sub_self {L : List TNd} (h : TrL L) {i : Nat} {x : TNd} (hx : L[i]? = some x) : i ∈ subI L i := sub_mem.2 ⟨(List.getElem?_eq_some_iff.1 hx).1, (bel_iff h hx hx).2 (chain_self h hx)⟩
theorem kid_node {L : List TNd} (h : TrL L) {i a : Nat} {x : TNd} (hx : L[i]? = some x) (ha : a ∈ kidsI L i) : ∃ y, L[a]? = some y ∧ y.parent = (i : Int) ∧ y.height = x.height + 1 := by
  obtain ⟨y, hy⟩ := node_at (kidsI_lt ha)
  have hp : y.parent = (i : Int) := by
    have := kidsI_par ha
    unfold parT at this
    rw [hy] at this
    exact this
  refine ⟨y, hy, hp, ?_⟩
  rcases h.parent hy with ⟨_, e, _⟩ | ⟨p, z, _, e, hz, eh⟩
  · omega
  · have e3 : p = i := by omega
    subst e3
    rw [hx] at hz
    rw [Option.some.inj hz]
    exact eh
theorem sub_split {L : List TNd} (h : TrL L) {i j : Nat} {x : TNd} (hx : L[i]? = some x) : j ∈ subI L i ↔ j = i ∨ ∃ a ∈ kidsI L i, j ∈ subI L a := by
  have h0 := (h.height hx).1
  constructor
  · intro hj
    obtain ⟨hl, hb⟩ := sub_mem.1 hj
    obtain ⟨y, hy⟩ := node_at hl
    have hc := (bel_iff h hx hy).1 hb
    have hlen := chain_length h hy
    by_cases hlt : x.height.toNat + 1 < (chainT L (j : Int)).length
    · right
      have ha := List.getElem?_eq_getElem hlt
      obtain ⟨a, z, e1, hz, e2⟩ := chain_ok h hy ha
      rw [e1] at ha
      obtain ⟨p, z', e3, hz', hp⟩ := chain_prev h hy ha hz
      rw [hc] at hp
      have e4 : (i : Int) = (p : Int) := Option.some.inj hp
      refine ⟨a, ?_, sub_mem.2 ⟨hl, (bel_iff h hz hy).2 ?_⟩⟩
      · unfold kidsI
        rw [List.mem_filter, List.mem_range]
        refine ⟨(List.getElem?_eq_some_iff.1 hz).1, decide_eq_true ?_⟩
        unfold parT
        rw [hz]
        show z.parent = _
        omega
      · rw [e2, Int.toNat_natCast]
        exact ha
    · left
      have hcl := (List.getElem?_eq_some_iff.1 hc).1
      have hs := chain_self h hy
      have e1 : y.height.toNat = x.height.toNat := by omega
      rw [e1, hc] at hs
      have := Option.some.inj hs
      omega
  · rintro (rfl | ⟨a, ha, hj⟩)
    · exact sub_self h hx
    · obtain ⟨hl, hb⟩ := sub_mem.1 hj
      obtain ⟨y, hy⟩ := node_at hl
      obtain ⟨z, hz, hp, hh⟩ := kid_node h hx ha
      have hc := (bel_iff h hz hy).1 hb
      rw [show z.height.toNat = x.height.toNat + 1 by omega] at hc
      obtain ⟨p, z', e3, hz', hq⟩ := chain_prev h hy hc hz
      refine sub_mem.2 ⟨hl, (bel_iff h hx hy).2 ?_⟩
      rw [hq, ← e3, hp]
theorem kidsI_nodup (L : List TNd) (i : Nat) : (kidsI L i).Nodup := List.nodup_range.filter _
theorem sub_step {L : List TNd} (h : TrL L) {i : Nat} {x : TNd} (hx : L[i]? = some x) : (subI L i).Perm (i :: (kidsI L i).flatMap (subI L)) := by
  refine (List.perm_ext_iff_of_nodup (sub_nodup L i) (List.nodup_cons.2 ⟨fun hm => ?_, ?_⟩)).2 fun j => ?_
  · obtain ⟨a, ha, hj⟩ := List.mem_flatMap.1 hm
    obtain ⟨z, hz, _, hh⟩ := kid_node h hx ha
    have hc := (bel_iff h hz hx).1 (sub_mem.1 hj).2
    have := (List.getElem?_eq_some_iff.1 hc).1
    have hl := chain_length h hx
    have := (h.height hx).1
    omega
  · refine List.pairwise_flatMap.2 ⟨fun a _ => sub_nodup L a, (kidsI_nodup L i).imp_of_mem fun {a b} ha hb hne j hj q hq e => hne ?_⟩
    subst e
    obtain ⟨y, hy⟩ := node_at (sub_mem.1 hj).1
    obtain ⟨z, hz, _, h1⟩ := kid_node h hx ha
    obtain ⟨u, hu, _, h2⟩ := kid_node h hx hb
    have c1 := (bel_iff h hz hy).1 (sub_mem.1 hj).2
    have c2 := (bel_iff h hu hy).1 (sub_mem.1 hq).2
    rw [h1, ← h2, c2] at c1
    have := Option.some.inj c1
    omega
  · rw [sub_split h hx, List.mem_cons, List.mem_flatMap]
/-- Those that a walk over the children has come by, and those that stand open. -/
structure UnI (L : List TNd) (k : Nat) (D O : List Nat) : Prop where
  all : (D ++ O.flatMap (subI L)).Perm (subI L k)
  lt : ∀ o ∈ O, o < L.length
theorem UnI.first (L : List TNd) {k : Nat} (hk : k < L.length) : UnI L k [] [k] := ⟨by simp, fun o ho => by rw [List.mem_singleton.1 ho]; exact hk⟩
theorem UnI.step {L : List TNd} (h : TrL L) {k o : Nat} {D O : List Nat} (hu : UnI L k D (O ++ [o])) : UnI L k (D ++ [o]) (O ++ kidsI L o) := by
  obtain ⟨x, hx⟩ := node_at (hu.lt o (by simp))
  refine ⟨List.Perm.trans ?_ hu.all, fun q hq => ?_⟩
  · rw [List.flatMap_append, List.flatMap_append, List.append_assoc]
    refine List.Perm.append_left D ?_
    rw [List.flatMap_singleton]
    refine List.Perm.trans ?_ (List.Perm.append_left _ (sub_step h hx).symm)
    exact (List.perm_middle (a := o) (l₁ := O.flatMap (subI L)) (l₂ := (kidsI L o).flatMap (subI L))).symm
  · rcases List.mem_append.1 hq with h1 | h1
    · exact hu.lt q (List.mem_append_left _ h1)
    · exact kidsI_lt h1
theorem flat_le {L : List TNd} (h : TrL L) : ∀ (O : List Nat), (∀ o ∈ O, o < L.length) → O.length ≤ (O.flatMap (subI L)).length
  | [], _ => by simp
  | o :: O, hl => by
    obtain ⟨x, hx⟩ := node_at (hl o List.mem_cons_self)
    have h1 := List.length_pos_of_mem (sub_self h hx)
    have h2 := flat_le h O fun q hq => hl q (List.mem_cons_of_mem _ hq)
    rw [List.flatMap_cons, List.length_append, List.length_cons]
    omega
theorem UnI.le {L : List TNd} (h : TrL L) {k : Nat} {D O : List Nat} (hu : UnI L k D O) : D.length + O.length ≤ (subI L k).length := by
  have h1 := hu.all.length_eq
  have h2 := flat_le h O hu.lt
  rw [List.length_append] at h1
  omega
theorem UnI.done {L : List TNd} {k : Nat} {D : List Nat} (hu : UnI L k D []) : D.Perm (subI L k) := by simpa using hu.all
def idsN (L : List TNd) (D : List Nat) : List (List UInt8) := D.map fun j => (L.getD j ndZ).id
end Go.Proofs.YtdhcjaflbfpalaaGreatDoor.Sha

/-
  The statements' own tree: a block's header, height and work; which of two blocks goes ahead. Nothing that was there turns. Conditions: the tree lies where the pointer says, nodes as the model has them, at most 4096.
-/
namespace Go.Proofs.YtdhcjaflbfpalaaGreatDoor.Sha
open Go Go.RowKit
/-- What is known of a block. -/
def ofT (L : List TNd) (id : List UInt8) : THd × Int × Nat × Bool := if findT L id < 0 then (ndZ.h, 0, 0, false) else ((L.getD (findT L id).toNat ndZ).h, (L.getD (findT L id).toNat ndZ).height, (L.getD (findT L id).toNat ndZ).work, true)
end Go.Proofs.YtdhcjaflbfpalaaGreatDoor.Sha
