/-
  A store into a header's box turns just that part. Conditions: digests of 32 bytes.
-/
import Derived.Test.YtlfpjfhpleociaaDoorHdVal
namespace Go.Proofs.YtlfpjfhpleociaaDoor.Sha
open Go Go.RowKit
/-- The header of zeros. -/
def hdZ : THd := ⟨0, List.replicate 32 0, List.replicate 32 0, 0, 0, 0⟩
theorem hdZ_ok : HdOk hdZ := ⟨by simp [hdZ], by simp [hdZ], by simp [hdZ], by simp [hdZ], by simp [hdZ], by simp [hdZ]⟩
theorem hd_zero : Tryd.zeroCells26 = (hdL hdZ).toArray := by kernel_rfl
theorem nV_ones (n : Nat) : ∀ u ∈ [nV n], u.oneCell' = true := by
  intro u hu
  simp only [List.mem_cons, List.not_mem_nil, or_false] at hu
  subst hu
  rfl
theorem HdBox.far {w w' : World} {g q : Nat} {h : THd} (k : HdBox w g h) (hg : w.grownBy w' (some q)) (hq : q ≠ g) : HdBox w' g h := ⟨row_far k.row hg (fun e => hq (Option.some.inj e))⟩
section
variable {ops : Array Oper} {rest : List Oper} {op : Oper} {a : Act} {w : World} {Q : Exit → Act → World → Prop} {g : Nat} {h : THd}
theorem st_ver (hgd : op.guard = none) (x y : Operand) (ho : op.op = .store 22 x y) (hx : a.eval x = .pointer (some ⟨g, 0, none⟩)) (n : Nat) (hy : a.eval y = nV n) (hh : HdOk h) (k : HdBox w g h)
    (hK : ∀ w', HdBox w' g { h with ver := n } → w.grownBy w' (some g) → wpList Tryd.prog ops Q rest (a.put op.dst undef) w') : wpList Tryd.prog ops Q (op :: rest) a w := by
  refine wpList_store_part hgd 22 x y ho g 0 [] [nV h.ver] (h.prev.map bV ++ (h.root.map bV ++ [nV h.time, nV h.work, nV h.nonce])) [nV n] 26 (nV n) hx hy rfl (by simp [hh.2.1, hh.2.2.1]) (by simp) (by rw [k.row]; simp [hdL]) (by kernel_rfl) (nV_ones n) ?_
  intro w' q1 q2
  exact hK w' ⟨by rw [q1]; simp [hdL]⟩ q2
theorem st_prev (hgd : op.guard = none) (x y : Operand) (ho : op.op = .store 24 x y) (hx : a.eval x = .pointer (some ⟨g, 1, none⟩)) (p : List UInt8) (hp : p.length = 32) (hy : a.eval y = .agg (p.map bV).toArray) (hh : HdOk h) (k : HdBox w g h)
    (hK : ∀ w', HdBox w' g { h with prev := p } → w.grownBy w' (some g) → wpList Tryd.prog ops Q rest (a.put op.dst undef) w') : wpList Tryd.prog ops Q (op :: rest) a w := by
  refine wpList_store_part hgd 24 x y ho g 1 [nV h.ver] (h.prev.map bV) (h.root.map bV ++ [nV h.time, nV h.work, nV h.nonce]) (p.map bV) 26 (.agg (p.map bV).toArray) hx hy rfl (by simp [hh.2.1, hh.2.2.1]) (by simp [hp, hh.2.1, hh.2.2.1]) (by rw [k.row]; simp [hdL]) (by rw [List.length_map, hp]; kernel_rfl) (bV_one' p) ?_
  intro w' q1 q2
  exact hK w' ⟨by rw [q1]; simp [hdL]⟩ q2
theorem st_root (hgd : op.guard = none) (x y : Operand) (ho : op.op = .store 24 x y) (hx : a.eval x = .pointer (some ⟨g, 33, none⟩)) (p : List UInt8) (hp : p.length = 32) (hy : a.eval y = .agg (p.map bV).toArray) (hh : HdOk h) (k : HdBox w g h)
    (hK : ∀ w', HdBox w' g { h with root := p } → w.grownBy w' (some g) → wpList Tryd.prog ops Q rest (a.put op.dst undef) w') : wpList Tryd.prog ops Q (op :: rest) a w := by
  refine wpList_store_part hgd 24 x y ho g 33 (nV h.ver :: h.prev.map bV) (h.root.map bV) [nV h.time, nV h.work, nV h.nonce] (p.map bV) 26 (.agg (p.map bV).toArray) hx hy rfl (by simp [hh.2.1, hh.2.2.1]) (by simp [hp, hh.2.1, hh.2.2.1]) (by rw [k.row]; simp [hdL]) (by rw [List.length_map, hp]; kernel_rfl) (bV_one' p) ?_
  intro w' q1 q2
  exact hK w' ⟨by rw [q1]; simp [hdL]⟩ q2
theorem st_time (hgd : op.guard = none) (x y : Operand) (ho : op.op = .store 22 x y) (hx : a.eval x = .pointer (some ⟨g, 65, none⟩)) (n : Nat) (hy : a.eval y = nV n) (hh : HdOk h) (k : HdBox w g h)
    (hK : ∀ w', HdBox w' g { h with time := n } → w.grownBy w' (some g) → wpList Tryd.prog ops Q rest (a.put op.dst undef) w') : wpList Tryd.prog ops Q (op :: rest) a w := by
  refine wpList_store_part hgd 22 x y ho g 65 (nV h.ver :: (h.prev.map bV ++ h.root.map bV)) [nV h.time] [nV h.work, nV h.nonce] [nV n] 26 (nV n) hx hy rfl (by simp [hh.2.1, hh.2.2.1]) (by simp) (by rw [k.row]; simp [hdL]) (by kernel_rfl) (nV_ones n) ?_
  intro w' q1 q2
  exact hK w' ⟨by rw [q1]; simp [hdL]⟩ q2
theorem st_work (hgd : op.guard = none) (x y : Operand) (ho : op.op = .store 22 x y) (hx : a.eval x = .pointer (some ⟨g, 66, none⟩)) (n : Nat) (hy : a.eval y = nV n) (hh : HdOk h) (k : HdBox w g h)
    (hK : ∀ w', HdBox w' g { h with work := n } → w.grownBy w' (some g) → wpList Tryd.prog ops Q rest (a.put op.dst undef) w') : wpList Tryd.prog ops Q (op :: rest) a w := by
  refine wpList_store_part hgd 22 x y ho g 66 (nV h.ver :: (h.prev.map bV ++ (h.root.map bV ++ [nV h.time]))) [nV h.work] [nV h.nonce] [nV n] 26 (nV n) hx hy rfl (by simp [hh.2.1, hh.2.2.1]) (by simp) (by rw [k.row]; simp [hdL]) (by kernel_rfl) (nV_ones n) ?_
  intro w' q1 q2
  exact hK w' ⟨by rw [q1]; simp [hdL]⟩ q2
theorem st_nonce (hgd : op.guard = none) (x y : Operand) (ho : op.op = .store 22 x y) (hx : a.eval x = .pointer (some ⟨g, 67, none⟩)) (n : Nat) (hy : a.eval y = nV n) (hh : HdOk h) (k : HdBox w g h)
    (hK : ∀ w', HdBox w' g { h with nonce := n } → w.grownBy w' (some g) → wpList Tryd.prog ops Q rest (a.put op.dst undef) w') : wpList Tryd.prog ops Q (op :: rest) a w := by
  refine wpList_store_part hgd 22 x y ho g 67 (nV h.ver :: (h.prev.map bV ++ (h.root.map bV ++ [nV h.time, nV h.work]))) [nV h.nonce] [] [nV n] 26 (nV n) hx hy rfl (by simp [hh.2.1, hh.2.2.1]) (by simp) (by rw [k.row]; simp [hdL]) (by kernel_rfl) (nV_ones n) ?_
  intro w' q1 q2
  exact hK w' ⟨by rw [q1]; simp [hdL]⟩ q2
end
end Go.Proofs.YtlfpjfhpleociaaDoor.Sha
