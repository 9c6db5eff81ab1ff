/-
  compact.Read makes a Reader on a copy of the bytes; its inner call takes so many bytes, or tells that there are too few; Left and Err tell what is left and the first error. Conditions: the Reader stands as it should; the three errors are there.
-/
import Derived.Stop.IfaceNil
import Derived.Test.YtlfpjfhpleociaaDoorCmpNum
namespace Go.Proofs.YtlfpjfhpleociaaDoor.Sha
open Go Go.RowKit
/-- The error number 100 + c of package api; none at 0. -/
def errV (E : Nat → Addr) : Nat → Value
  | 0 => .nilIface
  | i + 1 => .iface 95 (.pointer (some (E i)))
/-- The three errors that a Reader answers are there. -/
def Er (w : World) (E : Nat → Addr) : Prop :=
  w.cell? ⟨2, 0, none⟩ = some (errV E 1) ∧ w.cell? ⟨0, 0, none⟩ = some (errV E 2) ∧ w.cell? ⟨4, 0, none⟩ = some (errV E 4)
theorem Er.below {w w' : World} {E : Nat → Addr} (h : Er w E) (hb : Below w.heap.size w w') : Er w' E := by
  obtain ⟨a, b, c⟩ := h
  exact ⟨by rw [hb.cell (p := ⟨2, 0, none⟩) (World.block_lt_of_cell? w _ a)]; exact a, by rw [hb.cell (p := ⟨0, 0, none⟩) (World.block_lt_of_cell? w _ b)]; exact b, by rw [hb.cell (p := ⟨4, 0, none⟩) (World.block_lt_of_cell? w _ c)]; exact c⟩
/-- What lies behind a slice lies in this block. -/
def AtB (v : Value) (m : Nat) : Prop := ∀ sp n cap, v = .slice (some sp) n cap → 0 < n → sp.block = m
/-- The Reader at block r has these bytes left, in block m, and met this error. -/
def RdI (E : Nat → Addr) (m : Nat) (w : World) (r : Nat) (bs : List UInt8) (c : Nat) : Prop :=
  ∃ v, w.heap[r]? = some (.cells #[v, errV E c] 61 (0, 0)) ∧ SrcB w v bs ∧ AtB v m ∧ m ≠ r
theorem SrcB.grown {w w' : World} {v : Value} {bs : List UInt8} {m r : Nat} (h : SrcB w v bs) (ha : AtB v m) (hm : m ≠ r) (hg : w.grownBy w' (some r)) : SrcB w' v bs := by
  rcases h with h | ⟨h0, bb, off, cap, hv, hc, hs⟩
  · exact .inl h
  · refine .inr ⟨h0, bb, off, cap, hv, hc, fun j hj => hg.cell (hs j hj) (fun e => ?_)⟩
    have e1 := ha ⟨bb, off, none⟩ _ _ hv h0
    have e2 := Option.some.inj e
    exact hm (by rw [← e1, ← e2])
theorem RdI.grown {E : Nat → Addr} {m : Nat} {w w' : World} {r q : Nat} {bs : List UInt8} {c : Nat} (h : RdI E m w r bs c) (hg : w.grownBy w' (some q)) (hq : q ≠ r) (hm : bs ≠ [] → m ≠ q) : RdI E m w' r bs c := by
  obtain ⟨v, h1, h2, h3, h4⟩ := h
  refine ⟨v, ?_, ?_, h3, h4⟩
  rotate_left
  · by_cases hb : bs = []
    · rcases h2 with h | ⟨h0, _⟩
      · exact .inl h
      · rw [hb] at h0; simp at h0
    · exact h2.grown h3 (hm hb) hg
  rw [hg.block r (Array.getElem?_eq_some_iff.1 h1).1 (fun e => hq (Option.some.inj e).symm)]
  exact h1
theorem RdI.at {E : Nat → Addr} {m : Nat} {w w' : World} {r : Nat} {bs : List UInt8} {c B : Nat} (h : RdI E m w r bs c) (hb : Below B w w') (hr : r < B) (hm : bs ≠ [] → m < B) : RdI E m w' r bs c := by
  obtain ⟨v, h1, h2, h3, h4⟩ := h
  refine ⟨v, by rw [hb.block r hr]; exact h1, ?_, h3, h4⟩
  rcases h2 with h | ⟨h0, bb, off, cap, hv, hc, hs⟩
  · exact .inl h
  · refine .inr ⟨h0, bb, off, cap, hv, hc, fun j hj => ?_⟩
    have e1 := h3 ⟨bb, off, none⟩ _ _ hv h0
    rw [hb.cell (p := ⟨bb, off + j, none⟩) (by rw [show (⟨bb, off + j, none⟩ : Addr).block = m from e1]; exact hm (fun e => by rw [e] at h0; exact absurd h0 (by simp)))]
    exact hs j hj
theorem RdI.m_lt {E : Nat → Addr} {m : Nat} {w : World} {r : Nat} {bs : List UInt8} {c : Nat} (h : RdI E m w r bs c) (hb : bs ≠ []) : m < w.heap.size := by
  obtain ⟨v, h1, h2, h3, h4⟩ := h
  rcases h2 with ⟨_, _, _, e⟩ | ⟨h0, bb, off, cap, hv, hc, hs⟩
  · exact absurd e hb
  · rw [← h3 ⟨bb, off, none⟩ _ _ hv h0]
    exact SrcB.block h0 hs
theorem RdI.below {E : Nat → Addr} {m : Nat} {w w' : World} {r : Nat} {bs : List UInt8} {c : Nat} (h : RdI E m w r bs c) (hb : Below w.heap.size w w') : RdI E m w' r bs c := by
  obtain ⟨v, h1, h2, h3⟩ := h
  refine ⟨v, ?_, h2.below hb, h3⟩
  rw [hb.block r (Array.getElem?_eq_some_iff.1 h1).1]
  exact h1
theorem RdI.lt {E : Nat → Addr} {m : Nat} {w : World} {r : Nat} {bs : List UInt8} {c : Nat} (h : RdI E m w r bs c) : r < w.heap.size := by
  obtain ⟨v, h1, _⟩ := h
  exact (Array.getElem?_eq_some_iff.1 h1).1
/-- Taking k bytes: what is taken, what is left, the error. -/
def takeL (k : Nat) (bs : List UInt8) (c : Nat) : List UInt8 × List UInt8 × Nat := if c ≠ 0 then ([], bs, c) else if bs.length < k then ([], bs, 1) else (bs.take k, bs.drop k, 0)
def TakePost (E : Nat → Addr) (m : Nat) (k : Nat) (bs : List UInt8) (c r : Nat) (w : World) (e : Ending) (w' : World) : Prop :=
  ∃ v, e = .returned v ∧ SrcB w' v (takeL k bs c).1 ∧ AtB v m ∧ RdI E m w' r (takeL k bs c).2.1 (takeL k bs c).2.2 ∧ w.grownBy w' (some r)
theorem apart_none (n cap r : Nat) : AtB (.slice none n cap) r := fun sp n' c' h _ => by cases h
theorem src_none (w : World) : SrcB w (.slice none 0 0) [] := .inl ⟨_, _, rfl, rfl⟩
section
variable {P : Program} {w : World} {ops : Array Oper} {rest : List Oper} {o : Oper} {a : Act} {Q : Exit → Act → World → Prop}
theorem wpList_cut_h (hgd : o.guard = none) (t : TypeId) (x hi : Operand) (ho : o.op = .slice t x none (some hi) none) (e : TypeId) (hu : P.underlying t = some (.slice e)) (hsz : (P.info? e).map (·.size) = some 1)
    (sp : Option Addr) (n cap : Nat) (r : Nat) (hx : a.eval x = .slice sp n cap) (hr : a.eval hi = .int .i64 r) (h2 : r ≤ cap)
    (h : ∀ v, Hid (v = sliced sp 0 r cap 1) → wpList P ops Q rest (a.put o.dst v) w) : wpList P ops Q (o :: rest) a w := by
  refine wpList_plain hgd fun K hK => ?_
  unfold Oper.wp
  simp [execOp, ho, hx, hr, run_cut_h (w := w) t e sp n cap r hu hsz h2, Result.andThen]
  exact hK _ _ (h _ rfl)
end
theorem apart_cut {sp : Option Addr} {n cap l k r : Nat} (hl : l ≤ k) (hk : k ≤ n) (h : AtB (.slice sp n cap) r) : AtB (sliced sp l k cap 1) r := by
  intro ad m c hv hm
  unfold sliced at hv
  simp only [Value.slice.injEq] at hv
  obtain ⟨h1, h2, _⟩ := hv
  by_cases hc : cap = l
  · rw [if_pos hc] at h1
    exact h ad n cap (by rw [h1]) (by omega)
  · rw [if_neg hc] at h1
    cases sp with
    | none => cases h1
    | some a0 =>
      have e := Option.some.inj h1
      have h4 := h a0 n cap rfl (by omega)
      rw [← e]
      show (a0.add (l * 1)).block = r
      have e2 : (a0.add (l * 1)).block = a0.block := by unfold Addr.add; split <;> rfl
      rw [e2]
      exact h4
theorem SrcB.shape' {w : World} {v : Value} {bs : List UInt8} (h : SrcB w v bs) : ∃ sp n cap, v = .slice sp n cap ∧ n = bs.length ∧ n ≤ cap := by
  rcases h with ⟨sp, cap, rfl, rfl⟩ | ⟨_, bb, off, cap, rfl, hc, _⟩
  · exact ⟨_, _, _, rfl, rfl, Nat.zero_le _⟩
  · exact ⟨_, _, _, rfl, rfl, hc⟩
/-- What a Reader's block is behind a store. -/
theorem rd_set {E : Nat → Addr} {m : Nat} {w : World} {r c : Nat} {v v' : Value} {bs : List UInt8} (h : w.heap[r]? = some (.cells #[v, errV E c] 61 (0, 0))) (hs : SrcB w v' bs) (ha : AtB v' m) (hm : m ≠ r) :
    RdI E m (w.setCell ⟨r, 0, none⟩ v') r bs c ∧ w.grownBy (w.setCell ⟨r, 0, none⟩ v') (some r) := by
  have hg : w.grownBy (w.setCell ⟨r, 0, none⟩ v') (some r) := grownBy_setCells r [v'] 0 w
  refine ⟨⟨v', ?_, hs.grown ha hm hg, ha, hm⟩, hg⟩
  rw [heap_setCell_same _ _ _ _ _ _ h]
  rfl
theorem rd_err {E : Nat → Addr} {m : Nat} {w : World} {r c d : Nat} {v : Value} {bs : List UInt8} (h : w.heap[r]? = some (.cells #[v, errV E c] 61 (0, 0))) (hs : SrcB w v bs) (ha : AtB v m) (hm : m ≠ r) :
    RdI E m (w.setCell ⟨r, 1, none⟩ (errV E d)) r bs d ∧ w.grownBy (w.setCell ⟨r, 1, none⟩ (errV E d)) (some r) := by
  have hg : w.grownBy (w.setCell ⟨r, 1, none⟩ (errV E d)) (some r) := grownBy_setCells r [errV E d] 1 w
  refine ⟨⟨v, ?_, hs.grown ha hm hg, ha, hm⟩, hg⟩
  rw [heap_setCell_same _ _ _ _ _ _ h]
  rfl
end Go.Proofs.YtlfpjfhpleociaaDoor.Sha
