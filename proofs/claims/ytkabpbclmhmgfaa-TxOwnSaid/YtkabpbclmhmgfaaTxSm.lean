/-
  What package tx is shown to answer, call by call, as hypotheses for the statements' walks. A transaction of a few inputs and outputs is small. No conditions.
-/
import Derived.Test.YtkabpbclmhmgfaaArgsTx
import Derived.Test.YtkabpbclmhmgfaaTxLight
namespace Go.Proofs.Ytkabpbclmhmgfaa.Sha
open Go Go.RowKit

/-- Few enough. -/
def TxSmall (t : TTx) : Prop := TxCame t ∧ t.ins.length ≤ 1000 ∧ t.outs.length ≤ 1000 ∧ KeysLe t.ins 100000
theorem insB_bound : ∀ (l : List TIn) {n : Nat}, InsOk l → KeysLe l n → (insB l).length ≤ (49 + n) * l.length
  | [], _, _, _ => by simp [insB]
  | x :: l, n, h, hk => by
    have ih := insB_bound l (fun z hz => h z (List.mem_cons_of_mem _ hz)) (fun z hz => hk z (List.mem_cons_of_mem _ hz))
    have h1 := inB_length x (h x List.mem_cons_self)
    have h2 := lenN_bd x.key.length
    have h3 := hk x List.mem_cons_self
    simp only [insB] at ih
    simp only [insB, List.flatMap_cons, List.length_append, List.length_cons, h1, Nat.mul_add, Nat.mul_one]
    omega
theorem TxSmall.ins0 {t : TTx} (h : TxSmall t) : (insB t.ins).length ≤ 200000000 := by
  have h1 := insB_bound t.ins h.1.2.1 h.2.2.2
  have h2 := h.2.1
  have : (49 + 100000) * t.ins.length ≤ (49 + 100000) * 1000 := Nat.mul_le_mul_left _ h2
  omega
theorem TxSmall.ins {t : TTx} (h : TxSmall t) : (insB t.ins).length ≤ 17592186044416 := Nat.le_trans h.ins0 (by omega)
theorem TxSmall.outs {t : TTx} (h : TxSmall t) : (outsB t.outs).length ≤ 17592186044416 := by
  have h1 := outsB_length t.outs h.1.2.2.1
  have h2 := h.2.2.1
  omega
theorem TxSmall.len {t : TTx} (h : TxSmall t) : (txB t).length ≤ 35184372088832 := by
  have h1 := h.ins0
  have h2 := h.outs
  have h3 := lenN_bd t.ins.length
  have h4 := lenN_bd t.outs.length
  simp only [txB, List.length_append, leB_length, putL_length]
  omega
theorem TxSmall.fit {t : TTx} (h : TxSmall t) : TxFit t :=
  ⟨h.1.1, h.1.2.1, h.1.2.2.1, fun x hx => Nat.le_trans (h.2.2.2 x hx) (by omega), Nat.le_trans h.2.1 (by omega), Nat.le_trans h.2.2.1 (by omega)⟩
theorem small_of_light {t : TTx} (h : TxCame t) (hl : lightB t = true) : TxSmall t := by
  unfold lightB at hl
  simp only [Bool.and_eq_true, decide_eq_true_eq, List.all_eq_true] at hl
  obtain ⟨h1, h2, h3⟩ := hl
  exact ⟨h, by omega, by omega, fun x hx => by have := h3 x hx; omega⟩
/-- A transaction all of whose memory is above base. -/
def BytesC : Prop := ∀ (t : TTx) (v : Value) (w : World), TxAt w v t → TxSmall t →
  Calls Try.prog 8 #[v] w fun e w' => ∃ v', e = .returned v' ∧ w'.ownsRow w.heap.size 5 1 v' (txB t).length ((txB t).map bV) ∧ Below w.heap.size w w'
def SizeC : Prop := ∀ (t : TTx) (v : Value) (w : World), TxAt w v t → TxSmall t →
  Calls Try.prog 9 #[v] w fun e w' => e = .returned (.int .i64 ((txB t).length : Int)) ∧ Below w.heap.size w w'
def CloneC : Prop := ∀ (t : TTx) (v : Value) (w : World), TxAt w v t → TxSmall t →
  Calls Try.prog 6 #[v] w fun e w' => ∃ v', e = .returned v' ∧ TxAt w' v' t ∧ Below w.heap.size w w'
end Go.Proofs.Ytkabpbclmhmgfaa.Sha
