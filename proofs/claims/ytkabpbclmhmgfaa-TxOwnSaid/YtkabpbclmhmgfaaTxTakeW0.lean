/-
  Loads and appends of structures where a region draws its order; rows that stay where others grow. No conditions beyond those that each states.
-/
import Derived.Test.YtkabpbclmhmgfaaTxTakeIn
import Derived.Maps.AppendAt
namespace Go.Proofs.Ytkabpbclmhmgfaa.Sha
open Go Go.RowKit

section
variable {P : Program}
theorem wp_load_cell {op : Oper} {a : Act} {w : World} {K : Act → World → Prop} {Q : Exit → Act → World → Prop} (ty : TypeId) (x : Operand) (ho : op.op = .load ty x) (b off : Nat) (hx : a.eval x = .pointer (some ⟨b, off, none⟩)) (v : Value) (d : TypeDesc)
    (hc : w.cell? ⟨b, off, none⟩ = some v) (hu : P.underlying ty = some d) (hd : d.isRow = false) (h : K (a.put op.dst v) w) : op.wp P a w K Q := by
  have hagg : (isAgg ty).run P w = .ok false w := by
    unfold isAgg
    rw [Sem.run_bind, run_underlying hu w]
    cases d <;> simp_all
  unfold Oper.wp execOp
  simp [ho, hx, Instr.loadAt, Instr.sureAddr, Sem.run_bind, loadVar, hagg, hc]
  exact h
theorem wp_append_row (w : World) {o : Oper} {a : Act} {K : Act → World → Prop} {Q : Exit → Act → World → Prop} (s x : Operand) (t : TypeId)
    (ho : o.op = Op.call { callee := Callee.builtin Builtin.append, args := #[s, x], argTypes := #[t, t] })
    (base : Nat) (e : TypeId) (i : TypeInfo) (z : Value) (size bytes : Nat) (ht : P.underlying t = some (.slice e)) (hi : P.info? e = some i) (hz : i.zero = some z)
    (hsize : i.size = size) (hby : i.bytes = bytes) (hzs : z.cells.size = size) (hsz : 0 < size)
    (v : Value) (n : Nat) (xs : List Value) (hs : a.eval s = v) (hown : w.ownsRow base e size v n xs)
    (ad : Addr) (m c : Nat) (news : List Value) (hx : a.eval x = .slice (some ad) m c) (hl : news.length = m * size) (hnews : ∀ j u, news[j]? = some u → w.cell? (ad.add j) = some u) (h1 : ∀ u ∈ news, u.oneCell' = true)
    (h63 : n + m ≤ maxLen) (hbytes : (n + m) * bytes ≤ 140737488355328) (hbase : base ≤ w.heap.size)
    (h : ∀ v' w', w'.ownsRow base e size v' (n + m) (xs ++ news) → w.grownBy w' v.ownBlock → (v'.ownBlock = v.ownBlock ∨ v'.ownBlock = some w.heap.size) → K (a.put o.dst v') w') : o.wp P a w K Q := by
  obtain ⟨v', w', hr, h2, h3, _, h5⟩ := run_append_own_at (P := P) w base t o.type e i z size bytes ht hi hz hsize hby hzs hsz v n xs hown ad m c news hl hnews h1 h63 hbytes hbase
  unfold Oper.wp execOp
  simp only [ho, resolve, invoke, builtin, Sem.run_bind, Sem.run_pure, Result.andThen_ok, List.map_toArray, List.map_cons, List.map_nil, hs, hx, hr]
  exact h v' w' h2 h3 h5
end
theorem own_one {w : World} {base n size : Nat} {e : TypeId} {v : Value} {xs : List Value} (h : w.ownsRow base e size v n xs) : v.oneCell' = true := by
  rcases h.2 with ⟨rfl, _⟩ | ⟨g, cap, cur, rfl, _⟩ <;> rfl
theorem cells_one {v : Value} (h : v.oneCell' = true) : v.cells = [v].toArray := by cases v <;> first | rfl | cases h
theorem in_mem_one (x : TIn) (kv : Value) (hk : kv.oneCell' = true) : ∀ u ∈ inL x kv, u.oneCell' = true := fun u hu => by
  have := in_one x kv hk
  rw [Array.all_eq_true_iff_forall_mem] at this
  exact this u (by simpa using hu)
theorem out_mem_one (y : TOut) : ∀ u ∈ outL y, u.oneCell' = true := fun u hu => by
  have := out_one y
  rw [Array.all_eq_true_iff_forall_mem] at this
  exact this u (by simpa using hu)
theorem InsOwn.grow {base : Nat} {w w' : World} {v : Value} {l : List TIn} {ks : List Value} {q : Option Nat} (h : InsOwn base w v l ks) (hg : w.grownBy w' q) (hq : ∀ j, q = some j → v.ownBlock ≠ some j ∧ ∀ (i : Nat) kv, ks[i]? = some kv → Off kv (some j)) : InsOwn base w' v l ks := by
  cases q with
  | none => exact h.keep (below_made hg)
  | some j =>
    obtain ⟨a, b⟩ := hq j rfl
    exact ⟨h.1, h.2.1.kept hg (.inr a), h.2.2.1, fun i x kv hx hk => ⟨(h.2.2.2 i x kv hx hk).1.off (b i kv hk) hg, (h.2.2.2 i x kv hx hk).2⟩⟩
/-- All of a row's memory lies below. -/
def InsLow (B : Nat) (v : Value) (ks : List Value) : Prop := ∀ j, B ≤ j → v.ownBlock ≠ some j ∧ ∀ (i : Nat) kv, ks[i]? = some kv → Off kv (some j)
theorem InsOwn.low {base : Nat} {w : World} {v : Value} {l : List TIn} {ks : List Value} (h : InsOwn base w v l ks) : InsLow w.heap.size v ks := fun j hj => by
  refine ⟨fun e => ?_, fun i kv hk => ?_⟩
  · have := (h.2.1.lt j e).2
    omega
  · obtain ⟨x, hx⟩ : ∃ x, l[i]? = some x := ⟨_, List.getElem?_eq_getElem (by have := (List.getElem?_eq_some_iff.1 hk).1; have := h.1; omega)⟩
    exact (h.2.2.2 i x kv hx hk).1.fresh hj
theorem gr_own {w0 w w' : World} {r q : Option Nat} {B : Nat} (h : w0.grownBy w r) (hg : w.grownBy w' q) (hq : ∀ k, q = some k → B ≤ k) (hB : w0.heap.size ≤ B) : w0.grownBy w' r :=
  ⟨hg.os.trans h.os, hg.tape.trans h.tape, hg.output.trans h.output, Nat.le_trans h.size hg.size, fun k hk hne => by
    rw [hg.block k (Nat.lt_of_lt_of_le hk h.size) (fun e => by have := hq k e.symm; omega)]
    exact h.block k hk hne⟩
theorem row_own {w w' : World} {g : Nat} {o : Obj} {q : Option Nat} {B : Nat} (h : w.heap[g]? = some o) (hg : w.grownBy w' q) (hq : ∀ k, q = some k → B ≤ k) (hB : g < B) : w'.heap[g]? = some o :=
  row_far h hg (fun e => by have := hq g e; omega)
end Go.Proofs.Ytkabpbclmhmgfaa.Sha
