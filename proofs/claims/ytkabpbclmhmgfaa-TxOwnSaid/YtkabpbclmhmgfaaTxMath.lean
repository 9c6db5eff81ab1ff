/-
  A transaction's bytes, as the chapter says: how many there are; two that have the same bytes are the same. What is amiss with one, in the chapter's order. No conditions beyond those that each states.
-/
import Derived.Test.YtkabpbclmhmgfaaCmpMath
import Derived.Test.YtkabpbclmhmgfaaTxData
namespace Go.Proofs.Ytkabpbclmhmgfaa.Sha
open Go Go.RowKit

def inB (x : TIn) : List UInt8 := x.h ++ leB x.n 4 ++ putL x.key.length ++ x.key ++ leB x.seq 4
def outB (y : TOut) : List UInt8 := leB y.val 8 ++ y.lock
def insB (l : List TIn) : List UInt8 := l.flatMap inB
def outsB (l : List TOut) : List UInt8 := l.flatMap outB
/-- A transaction's bytes. -/
def txB (t : TTx) : List UInt8 := leB t.ver 4 ++ putL t.ins.length ++ insB t.ins ++ putL t.outs.length ++ outsB t.outs ++ leB t.time 4
def InsOk (l : List TIn) : Prop := ∀ x ∈ l, InOk x
def OutsOk (l : List TOut) : Prop := ∀ y ∈ l, OutOk y
theorem outB_length (y : TOut) (h : OutOk y) : (outB y).length = 40 := by simp [outB, leB_length, h.1]
theorem inB_length (x : TIn) (h : InOk x) : (inB x).length = 40 + lenN x.key.length + x.key.length := by simp [inB, leB_length, putL_length, h.1]; omega
theorem outsB_length : ∀ (l : List TOut), OutsOk l → (outsB l).length = 40 * l.length
  | [], _ => rfl
  | y :: l, h => by
    have ih := outsB_length l (fun z hz => h z (List.mem_cons_of_mem _ hz))
    simp only [outsB] at ih
    simp only [outsB, List.flatMap_cons, List.length_append, ih, outB_length y (h y List.mem_cons_self), List.length_cons]
    omega
theorem lenN_small {n : Nat} (h : n < 253) : lenN n = 1 := by unfold lenN; rw [if_pos h]
theorem leB_inj {n m k : Nat} (hn : n < 256 ^ k) (hm : m < 256 ^ k) (h : leB n k = leB m k) : n = m := by
  rw [← leN_leB_of hn, h, leN_leB_of hm]
/-- Bytes in front that tell their own length. -/
theorem putL_cut {n m : Nat} {r s : List UInt8} (hn : n ≤ 18446744073709551615) (hm : m ≤ 18446744073709551615) (h : putL n ++ r = putL m ++ s) : n = m ∧ r = s := by
  rcases lenN_eq n with ⟨a, b⟩ | ⟨a, b⟩ | ⟨a, b⟩ | ⟨a, b⟩ <;> rcases lenN_eq m with ⟨c, d⟩ | ⟨c, d⟩ | ⟨c, d⟩ | ⟨c, d⟩ <;> rw [b, d] at h
  · have hn2 : n < 253 := by unfold lenN at a; split at a <;> (try split at a) <;> (try split at a) <;> omega
    have hm2 : m < 253 := by unfold lenN at c; split at c <;> (try split at c) <;> (try split at c) <;> omega
    simp only [List.cons_append, List.nil_append, List.cons.injEq] at h
    refine ⟨?_, h.2⟩
    have h1 := congrArg UInt8.toNat h.1
    rw [UInt8.toNat_ofNat', UInt8.toNat_ofNat'] at h1
    omega
  all_goals first
    | (have hn2 : n < 253 := by unfold lenN at a; split at a <;> (try split at a) <;> (try split at a) <;> omega
       simp only [List.cons_append, List.nil_append, List.cons.injEq] at h
       have h1 := congrArg UInt8.toNat h.1
       rw [UInt8.toNat_ofNat'] at h1
       simp at h1
       omega)
    | (have hm2 : m < 253 := by unfold lenN at c; split at c <;> (try split at c) <;> (try split at c) <;> omega
       simp only [List.cons_append, List.nil_append, List.cons.injEq] at h
       have h1 := congrArg UInt8.toNat h.1
       rw [UInt8.toNat_ofNat'] at h1
       simp at h1
       omega)
    | (simp only [List.cons_append, List.cons.injEq] at h
       obtain ⟨h1, h2⟩ := h
       obtain ⟨h3, h4⟩ := List.append_inj h2 (by simp [leB_length])
       refine ⟨leB_inj ?_ ?_ h3, h4⟩ <;> (unfold lenN at a c; split at a <;> (try split at a) <;> (try split at a) <;> split at c <;> (try split at c) <;> (try split at c) <;> omega))
    | (exfalso
       simp only [List.cons_append, List.cons.injEq] at h
       have h1 := congrArg UInt8.toNat h.1
       revert h1
       decide)
theorem inB_cut {x y : TIn} {r s : List UInt8} (hx : InOk x) (hy : InOk y) (hkx : x.key.length ≤ 18446744073709551615) (hky : y.key.length ≤ 18446744073709551615) (h : inB x ++ r = inB y ++ s) : x = y ∧ r = s := by
  obtain ⟨hx1, hx2, hx3⟩ := hx
  obtain ⟨hy1, hy2, hy3⟩ := hy
  simp only [inB, List.append_assoc] at h
  obtain ⟨e1, h⟩ := List.append_inj h (by rw [hx1, hy1])
  obtain ⟨e2, h⟩ := List.append_inj h (by simp [leB_length])
  obtain ⟨e3, h⟩ := putL_cut hkx hky h
  obtain ⟨e4, h⟩ := List.append_inj h e3
  obtain ⟨e5, h⟩ := List.append_inj h (by simp [leB_length])
  have e6 := leB_inj (by omega) (by omega) e2
  have e7 := leB_inj (by omega) (by omega) e5
  obtain ⟨a, b, c, d⟩ := x
  obtain ⟨a', b', c', d'⟩ := y
  simp only at e1 e4 e6 e7
  subst e1 e4 e6 e7
  exact ⟨rfl, List.append_cancel_left h⟩
theorem outB_cut {x y : TOut} {r s : List UInt8} (hx : OutOk x) (hy : OutOk y) (h : outB x ++ r = outB y ++ s) : x = y ∧ r = s := by
  obtain ⟨hx1, hx2⟩ := hx
  obtain ⟨hy1, hy2⟩ := hy
  simp only [outB, List.append_assoc] at h
  obtain ⟨e1, h⟩ := List.append_inj h (by simp [leB_length])
  obtain ⟨e2, h⟩ := List.append_inj h (by rw [hx1, hy1])
  have e3 := leB_inj (by omega) (by omega) e1
  obtain ⟨a, b⟩ := x
  obtain ⟨a', b'⟩ := y
  simp only at e2 e3
  subst e2 e3
  exact ⟨rfl, List.append_cancel_left h⟩
def KeysLe (l : List TIn) (n : Nat) : Prop := ∀ x ∈ l, x.key.length ≤ n
theorem insB_cut : ∀ (l m : List TIn) {r s : List UInt8}, l.length = m.length → InsOk l → InsOk m → KeysLe l 18446744073709551615 → KeysLe m 18446744073709551615 → insB l ++ r = insB m ++ s → l = m ∧ r = s
  | [], [], r, s, _, _, _, _, _, h => ⟨rfl, by simpa [insB] using h⟩
  | x :: l, y :: m, r, s, hl, h1, h2, k1, k2, h => by
    simp only [insB, List.flatMap_cons, List.append_assoc] at h
    obtain ⟨e1, h⟩ := inB_cut (h1 x List.mem_cons_self) (h2 y List.mem_cons_self) (k1 x List.mem_cons_self) (k2 y List.mem_cons_self) h
    obtain ⟨e2, h⟩ := insB_cut l m (by simpa using hl) (fun z hz => h1 z (List.mem_cons_of_mem _ hz)) (fun z hz => h2 z (List.mem_cons_of_mem _ hz)) (fun z hz => k1 z (List.mem_cons_of_mem _ hz)) (fun z hz => k2 z (List.mem_cons_of_mem _ hz)) h
    exact ⟨by rw [e1, e2], h⟩
theorem outsB_cut : ∀ (l m : List TOut) {r s : List UInt8}, l.length = m.length → OutsOk l → OutsOk m → outsB l ++ r = outsB m ++ s → l = m ∧ r = s
  | [], [], r, s, _, _, _, h => ⟨rfl, by simpa [outsB] using h⟩
  | x :: l, y :: m, r, s, hl, h1, h2, h => by
    simp only [outsB, List.flatMap_cons, List.append_assoc] at h
    obtain ⟨e1, h⟩ := outB_cut (h1 x List.mem_cons_self) (h2 y List.mem_cons_self) h
    obtain ⟨e2, h⟩ := outsB_cut l m (by simpa using hl) (fun z hz => h1 z (List.mem_cons_of_mem _ hz)) (fun z hz => h2 z (List.mem_cons_of_mem _ hz)) h
    exact ⟨by rw [e1, e2], h⟩
/-- All that may be of a transaction that is small enough to be in memory. -/
def TxFit (t : TTx) : Prop := TxOk t ∧ InsOk t.ins ∧ OutsOk t.outs ∧ KeysLe t.ins 18446744073709551615 ∧ t.ins.length ≤ 18446744073709551615 ∧ t.outs.length ≤ 18446744073709551615
/-- Two with the same bytes, whatever stands behind, are one. -/
theorem txB_cut {t u : TTx} {r s : List UInt8} (ht : TxFit t) (hu : TxFit u) (h : txB t ++ r = txB u ++ s) : t = u ∧ r = s := by
  obtain ⟨⟨a1, a2⟩, a3, a4, a5, a6, a7⟩ := ht
  obtain ⟨⟨b1, b2⟩, b3, b4, b5, b6, b7⟩ := hu
  simp only [txB, List.append_assoc] at h
  obtain ⟨e1, h⟩ := List.append_inj h (by simp [leB_length])
  obtain ⟨e2, h⟩ := putL_cut a6 b6 h
  obtain ⟨e3, h⟩ := insB_cut _ _ e2 a3 b3 a5 b5 h
  obtain ⟨e4, h⟩ := putL_cut a7 b7 h
  obtain ⟨e5, h⟩ := outsB_cut _ _ e4 a4 b4 h
  obtain ⟨e6, h⟩ := List.append_inj h (by simp [leB_length])
  have e7 := leB_inj (by omega) (by omega) e1
  have e8 := leB_inj (by omega) (by omega) e6
  obtain ⟨a, b, c, d⟩ := t
  obtain ⟨a', b', c', d'⟩ := u
  simp only at e3 e5 e7 e8
  subst e3 e5 e7 e8
  exact ⟨rfl, List.append_cancel_left h⟩
theorem txB_inj {t u : TTx} (ht : TxFit t) (hu : TxFit u) (h : txB t = txB u) : t = u := (txB_cut (r := []) (s := []) ht hu (by rw [h])).1

/-- A transaction that makes coins: one input, of none. -/
def isNullIn (x : TIn) : Bool := decide (x.h = List.replicate 32 0) && decide (x.n = 4294967295)
def baseB (t : TTx) : Bool := match t.ins with
  | [x] => isNullIn x
  | _ => false
def samePtIn (x y : TIn) : Bool := decide (x.h = y.h) && decide (x.n = y.n)
/-- Two inputs with one place? -/
def twiceB : List TIn → Bool
  | [] => false
  | x :: l => l.any (samePtIn x) || twiceB l
/-- What is amiss first: the error's number, 0 if nothing is. -/
def checkN (t : TTx) : Nat :=
  if t.ins.length = 0 ∨ 50 < t.ins.length ∨ t.outs.length = 0 ∨ 50 < t.outs.length then 104
  else if 4000 < (txB t).length then 103
  else if t.ins.any (fun x => decide (80 < x.key.length)) then 114
  else if sumIs (t.outs.map (·.val)) = false then 105
  else if twiceB t.ins then 106
  else if baseB t then (if t.ins.any (fun x => decide (x.key.length < 4)) then 107 else 0)
  else if t.ins.any isNullIn then 107 else 0
end Go.Proofs.Ytkabpbclmhmgfaa.Sha
