/-
  A transaction as the model has it: inputs of 35 cells, outputs of 33, rows of them behind slices; what stands in memory keeps standing where only new memory turns. No conditions.
-/
import Derived.Test.YtlfpjfhpleociaaDoorPt
namespace Go.Proofs.YtlfpjfhpleociaaDoor.Sha
open Go Go.RowKit
structure TIn where
  h : List UInt8
  n : Nat
  key : List UInt8
  seq : Nat
structure TOut where
  val : Nat
  lock : List UInt8
structure TTx where
  ver : Nat
  ins : List TIn
  outs : List TOut
  time : Nat
/-- A number of 64 bits as a cell. -/
def uV (n : Nat) : Value := .int .u64 (n : Int)
/-- An input's cells. -/
def inL (x : TIn) (kv : Value) : List Value := ptL x.h x.n ++ [kv, nV x.seq]
/-- An output's cells. -/
def outL (y : TOut) : List Value := uV y.val :: y.lock.map bV
/-- A key as a slice. -/
def KeyAt (w : World) (kv : Value) (key : List UInt8) : Prop := SrcB w kv key ∧ ∃ sp cap, kv = .slice sp key.length cap
theorem KeyAt.below {w w' : World} {kv : Value} {key : List UInt8} (h : KeyAt w kv key) (hb : Below w.heap.size w w') : KeyAt w' kv key := ⟨h.1.below hb, h.2⟩
/-- What may be of an input. -/
def InOk (x : TIn) : Prop := x.h.length = 32 ∧ x.n ≤ 4294967295 ∧ x.seq ≤ 4294967295
def OutOk (y : TOut) : Prop := y.lock.length = 32 ∧ y.val ≤ 18446744073709551615
/-- An input stands in block b from o on. -/
def InAt (w : World) (b o : Nat) (x : TIn) : Prop := InOk x ∧ ∃ kv, KeyAt w kv x.key ∧ w.rangeAt b o (inL x kv)
def OutAt (w : World) (b o : Nat) (y : TOut) : Prop := OutOk y ∧ w.rangeAt b o (outL y)
theorem range_below {w w' : World} {b o : Nat} {cs : List Value} (h : w.rangeAt b o cs) (hb : Below w.heap.size w w') : w'.rangeAt b o cs := fun j v hj => by
  have h1 := h j v hj
  rw [hb.cell (p := ⟨b, o + j, none⟩) (World.block_lt_of_cell? w _ h1)]
  exact h1
theorem InAt.below {w w' : World} {b o : Nat} {x : TIn} (h : InAt w b o x) (hb : Below w.heap.size w w') : InAt w' b o x := by
  obtain ⟨h0, kv, h1, h2⟩ := h
  exact ⟨h0, kv, h1.below hb, range_below h2 hb⟩
theorem OutAt.below {w w' : World} {b o : Nat} {y : TOut} (h : OutAt w b o y) (hb : Below w.heap.size w w') : OutAt w' b o y := ⟨h.1, range_below h.2 hb⟩
/-- A row of inputs behind a slice. -/
def InsAt (w : World) (v : Value) (l : List TIn) : Prop :=
  ∃ sp cap, v = .slice sp l.length cap ∧ l.length ≤ cap ∧ (0 < l.length → ∃ b o, sp = some ⟨b, o, none⟩ ∧ ∀ i x, l[i]? = some x → InAt w b (o + i * 35) x)
def OutsAt (w : World) (v : Value) (l : List TOut) : Prop :=
  ∃ sp cap, v = .slice sp l.length cap ∧ l.length ≤ cap ∧ (0 < l.length → ∃ b o, sp = some ⟨b, o, none⟩ ∧ ∀ i x, l[i]? = some x → OutAt w b (o + i * 33) x)
theorem InsAt.below {w w' : World} {v : Value} {l : List TIn} (h : InsAt w v l) (hb : Below w.heap.size w w') : InsAt w' v l := by
  obtain ⟨sp, cap, h1, h2, h3⟩ := h
  refine ⟨sp, cap, h1, h2, fun h0 => ?_⟩
  obtain ⟨b, o, h4, h5⟩ := h3 h0
  exact ⟨b, o, h4, fun i x hx => (h5 i x hx).below hb⟩
theorem OutsAt.below {w w' : World} {v : Value} {l : List TOut} (h : OutsAt w v l) (hb : Below w.heap.size w w') : OutsAt w' v l := by
  obtain ⟨sp, cap, h1, h2, h3⟩ := h
  refine ⟨sp, cap, h1, h2, fun h0 => ?_⟩
  obtain ⟨b, o, h4, h5⟩ := h3 h0
  exact ⟨b, o, h4, fun i x hx => (h5 i x hx).below hb⟩
/-- A transaction's cells. -/
def txL (t : TTx) (iv ov : Value) : List Value := [nV t.ver, iv, ov, nV t.time]
def TxOk (t : TTx) : Prop := t.ver ≤ 4294967295 ∧ t.time ≤ 4294967295
/-- A transaction by value. -/
def TxAt (w : World) (v : Value) (t : TTx) : Prop := TxOk t ∧ ∃ iv ov, v = .agg (txL t iv ov).toArray ∧ InsAt w iv t.ins ∧ OutsAt w ov t.outs
theorem TxAt.below {w w' : World} {v : Value} {t : TTx} (h : TxAt w v t) (hb : Below w.heap.size w w') : TxAt w' v t := by
  obtain ⟨h0, iv, ov, h1, h2, h3⟩ := h
  exact ⟨h0, iv, ov, h1, h2.below hb, h3.below hb⟩
end Go.Proofs.YtlfpjfhpleociaaDoor.Sha
