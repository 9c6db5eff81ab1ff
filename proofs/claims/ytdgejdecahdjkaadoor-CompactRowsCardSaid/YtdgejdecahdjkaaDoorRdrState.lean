/-
  A Reader in a walk: how it stands behind each step, whatever else makes memory. Conditions: those that each states.
-/
import Derived.Test.YtdgejdecahdjkaaDoorCmpHash
import Derived.Test.YtdgejdecahdjkaaDoorErrIs
namespace Go.Proofs.YtdgejdecahdjkaaDoor.Sha
open Go Go.RowKit

/-- A Reader made since W; nothing that was there in W has turned. -/
def RS (E : Nat → Addr) (m : Nat) (W w : World) (r : Nat) (bs : List UInt8) (c : Nat) : Prop := RdI E m w r bs c ∧ Below W.heap.size W w ∧ W.heap.size ≤ r
variable {E : Nat → Addr} {m r c d : Nat} {W w w' : World} {bs b : List UInt8}
theorem RS.step (h : RS E m W w r bs c) (hi : RdI E m w' r b d) (hg : w.grownBy w' (some r)) : RS E m W w' r b d :=
  ⟨hi, h.2.1.grown hg h.2.1.size (fun k hk => by cases hk; exact h.2.2), h.2.2⟩
theorem RS.keep (h : RS E m W w r bs c) (hb : Below w.heap.size w w') : RS E m W w' r bs c := ⟨h.1.below hb, h.2.1.trans (hb.mono h.2.1.size), h.2.2⟩
theorem RS.other {q : Nat} (h : RS E m W w r bs c) (hg : w.grownBy w' (some q)) (hq : q ≠ r) (hm : bs ≠ [] → m ≠ q) (hW : W.heap.size ≤ q) : RS E m W w' r bs c :=
  ⟨h.1.grown hg hq hm, h.2.1.grown hg h.2.1.size (fun k hk => by cases hk; exact hW), h.2.2⟩
theorem RS.lt (h : RS E m W w r bs c) : r < w.heap.size := h.1.lt
theorem RS.er (h : RS E m W w r bs c) (hE : Er W E) : ErR w E r := ⟨hE.below h.2.1, hE.lt h.2.2⟩
theorem NewRd.rs (h : NewRd E m w w' r bs) (hb : Below W.heap.size W w) : RS E m W w' r bs 0 := ⟨h.1, hb.trans (h.2.1.mono hb.size), Nat.le_trans hb.size h.2.2.1⟩
/-- A literal of bytes. -/
theorem lit_src {w : World} (l : List UInt8) (T : TypeId) (h0 : 0 < l.length) : SrcB (w.alloc (.cells (l.map bV).toArray T)) (.slice (some ⟨w.heap.size, 0, none⟩) l.length l.length) l := src_row rfl h0 (heap_alloc_new _ _)
theorem mask_nat (n k : Nat) (hn : n < 18446744073709551616) (hk : 2 ^ k - 1 < 18446744073709551616) : bits .and .u64 (n : Int) ((2 ^ k - 1 : Nat) : Int) = ((n % 2 ^ k : Nat) : Int) := by
  rw [u64_and_nat _ _ hn hk, Nat.and_two_pow_sub_one_eq_mod]
/-- A row that is not the Reader's. -/
theorem row_grown {w w' : World} {g r : Nat} {o : Obj} (h : w.heap[g]? = some o) (hg : w.grownBy w' (some r)) (hne : r < g) : w'.heap[g]? = some o := by
  rw [hg.block g (Array.getElem?_eq_some_iff.1 h).1 (fun e => by have := Option.some.inj e; omega)]
  exact h
theorem takeL_err (k : Nat) (bs : List UInt8) (c : Nat) (h : c ≠ 0) : takeL k bs c = ([], bs, c) := by unfold takeL; rw [if_pos h]
theorem takeL_end (k : Nat) (bs : List UInt8) (h : bs.length < k) : takeL k bs 0 = ([], bs, 1) := by unfold takeL; rw [if_neg (by omega), if_pos h]
theorem takeL_ok (k : Nat) (bs : List UInt8) (h : k ≤ bs.length) : takeL k bs 0 = (bs.take k, bs.drop k, 0) := by unfold takeL; rw [if_neg (by omega), if_neg (by omega)]
theorem takeL_app (xs ys : List UInt8) (k : Nat) (h : xs.length = k) : takeL k (xs ++ ys) 0 = (xs, ys, 0) := by
  subst h
  rw [takeL_ok _ _ (by simp)]
  simp
theorem numL_err (most : Nat) (bs : List UInt8) (c : Nat) (h : c ≠ 0) : numL most bs c = (0, bs, c) := by
  have e : widN (leN []) = 0 := rfl
  unfold numL
  simp only [takeL_err _ _ _ h, e, if_pos]
  rw [if_pos h]
theorem num_is (most : Nat) (n : Nat) (hE : ErR w E r) (hr : RdI E m w r bs c) (ht : numL most bs c = (n, b, d)) :
    Calls Tryd.prog 12 #[.pointer (some ⟨r, 0, none⟩), .int .u64 most] w (NumPost E m n b d r w) := by
  have h := num_any E m most bs c r w hE hr
  rw [ht] at h
  exact h
theorem left_none (hr : RdI E m w r [] c) : Calls Tryd.prog 13 #[.pointer (some ⟨r, 0, none⟩)] w fun e w' => e = .returned (.int .i64 0) ∧ w = w' :=
  left_any E m [] c r w hr
/-- Behind an error each call answers nothing. -/
theorem num_none (most : Nat) (hc : c ≠ 0) (hE : ErR w E r) (hr : RdI E m w r bs c) :
    Calls Tryd.prog 12 #[.pointer (some ⟨r, 0, none⟩), .int .u64 most] w fun e w' => e = .returned (.int .u64 0) ∧ RdI E m w' r bs c ∧ w.grownBy w' (some r) :=
  num_is most 0 hE hr (numL_err most bs c hc)
theorem four_none (hc : c ≠ 0) (hE : ErR w E r) (hr : RdI E m w r bs c) :
    Calls Tryd.prog 20 #[.pointer (some ⟨r, 0, none⟩)] w fun e w' => e = .returned (.int .u32 0) ∧ RdI E m w' r bs c ∧ w.grownBy w' (some r) :=
  four_is E m bs [] bs c c r w hE hr (takeL_err 4 bs c hc)
theorem eight_none (hc : c ≠ 0) (hE : ErR w E r) (hr : RdI E m w r bs c) :
    Calls Tryd.prog 19 #[.pointer (some ⟨r, 0, none⟩)] w fun e w' => e = .returned (.int .u64 0) ∧ RdI E m w' r bs c ∧ w.grownBy w' (some r) :=
  eight_is E m bs [] bs c c r w hE hr (takeL_err 8 bs c hc)
end Go.Proofs.YtdgejdecahdjkaaDoor.Sha
