/-
  Laws for walks: bytes that are read somewhere put behind an own row that has room, or that grows; slices that read as numbers of 64 bits. No conditions beyond those that each states.
-/
import Derived.Test.YtlfpjfhpleociaaDoorCmpMath
namespace Go.Proofs.YtlfpjfhpleociaaDoor.Sha
open Go Go.RowKit
theorem run_append_src0 {P : Program} {w : World} (base : Nat) (t ty e : TypeId) (i : TypeInfo) (ht : P.underlying t = some (.slice e)) (hi : P.info? e = some i)
    (g n cap : Nat) (xs : List Value) (hown : w.ownsRow base e i.size (.slice (some ⟨g, 0, none⟩) n cap) n xs) (sp : Option Addr) (c : Nat) :
    (Builtin.append_ #[t, t] ty #[.slice (some ⟨g, 0, none⟩) n cap, .slice sp 0 c]).run P w = .ok (.slice (some ⟨g, 0, none⟩) n cap) w := by
  rcases hown.2 with ⟨h, _⟩ | ⟨g', cap', cur, h, _, _, hnc, _⟩
  · simp at h
  · simp only [Value.slice.injEq, Option.some.injEq, Addr.mk.injEq, and_true, true_and] at h
    obtain ⟨rfl, rfl⟩ := h
    cases sp with
    | none => simp [Builtin.append_, run_underlying ht, sizeOf, typeInfo, hi, Builtin.lenOf, Builtin.firstCells, hnc, storeCells]
    | some ad => simp [Builtin.append_, run_underlying ht, sizeOf, typeInfo, hi, Builtin.lenOf, Builtin.firstCells, hnc, storeCells, loadCells, loadCellsFrom]
/-- 'append(own, bs...)', with room. -/
theorem wpList_append_src {P : Program} (w : World) {ops : Array Oper} {rest : List Oper} {o : Oper} {a : Act} {Q : Exit → Act → World → Prop}
    (hg : o.guard = none) (s x : Operand) (t : TypeId) (hop : o.op = Op.call { callee := Callee.builtin Builtin.append, args := #[s, x], argTypes := #[t, t] })
    (base : Nat) (e : TypeId) (i : TypeInfo) (h1 : P.underlying t = some (.slice e)) (h2 : P.info? e = some i) (h4 : i.size = 1)
    (g k cap : Nat) (xs : List Value) (hs : a.eval s = .slice (some ⟨g, 0, none⟩) k cap) (hown : w.ownsRow base e 1 (.slice (some ⟨g, 0, none⟩) k cap) k xs) (v : Value) (bs : List UInt8) (hx : a.eval x = v) (hsrc : SrcB w v bs) (b1 : k + bs.length ≤ cap)
    (hK : ∀ w', Hid (w'.ownsRow base e 1 (.slice (some ⟨g, 0, none⟩) (k + bs.length) cap) (k + bs.length) (xs ++ bs.map bV)) → Hid (w.grownBy w' (some g)) → wpList P ops Q rest (a.put o.dst (.slice (some ⟨g, 0, none⟩) (k + bs.length) cap)) w') :
    wpList P ops Q (o :: rest) a w := by
  rcases hsrc with ⟨sp, c, rfl, rfl⟩ | ⟨h0, bb, off, c, rfl, hc, hcell⟩
  · refine wpList_plain hg fun K hK' => ?_
    have hrun := run_append_src0 (P := P) (w := w) base t o.type e i h1 h2 g k cap xs (by rw [h4]; exact hown) sp c
    unfold Oper.wp
    simp [execOp, hop, resolve, invoke, builtin, hs, hx, hrun, Result.andThen]
    refine hK' _ _ (hK w ?_ (grownBy_refl _ _))
    show w.ownsRow _ _ _ _ _ _
    simpa using hown
  · exact wpList_append_fits w hg s x t hop base e i 1 h1 h2 h4 g k cap xs hs hown ⟨bb, off, none⟩ bs.length c (bs.map bV) hx (by simp)
      (fun j u hu => by
        rw [List.getElem?_map] at hu
        obtain ⟨b, hb, rfl⟩ := Option.map_eq_some_iff.1 hu
        have hj := (List.getElem?_eq_some_iff.1 hb).1
        rw [Addr.add_mid, hcell j hj]
        simp [bV, List.getD, hb])
      (bV_one' bs) b1 hK
theorem run_append_any0 {P : Program} {w : World} (base : Nat) (t ty e : TypeId) (i : TypeInfo) (ht : P.underlying t = some (.slice e)) (hi : P.info? e = some i)
    (v : Value) (n : Nat) (xs : List Value) (hown : w.ownsRow base e i.size v n xs) (sp : Option Addr) (c : Nat) :
    (Builtin.append_ #[t, t] ty #[v, .slice sp 0 c]).run P w = .ok v w := by
  rcases hown.2 with ⟨rfl, _⟩ | ⟨g, cap, cur, rfl, hr⟩
  · cases sp with
    | none => simp [Builtin.append_, run_underlying ht, sizeOf, typeInfo, hi, Builtin.lenOf, Builtin.firstCells]
    | some ad => simp [Builtin.append_, run_underlying ht, sizeOf, typeInfo, hi, Builtin.lenOf, Builtin.firstCells, loadCells, loadCellsFrom]
  · exact run_append_src0 base t ty e i ht hi g n cap xs hown sp c
/-- What is new stays new when its own row grows. -/
theorem own_grown {B : Nat} {w0 w w' : World} {base size n : Nat} {e : TypeId} {v : Value} {xs : List Value} (hb : Below B w0 w) (hB : B ≤ base) (hs : B ≤ w.heap.size) (h : w.ownsRow base e size v n xs) (hg : w.grownBy w' v.ownBlock) : Below B w0 w' := by
  refine hb.grown hg hs ?_
  intro k hk
  rcases h.2 with ⟨rfl, _⟩ | ⟨g, cap, cur, rfl, hbg, _⟩
  · cases hk
  · simp [Value.ownBlock] at hk
    omega
theorem own_len {w : World} {base n : Nat} {e : TypeId} {v : Value} {bs : List UInt8} (h : w.ownsRow base e 1 v n (bs.map bV)) : n = bs.length := by
  have := h.1
  rw [List.length_map] at this
  omega
/-- An own row, nil too, as a source. -/
theorem src_own {w : World} {base n : Nat} {v : Value} {bs : List UInt8} (h : w.ownsRow base 5 1 v n (bs.map bV)) : SrcB w v bs := by
  by_cases hn : 0 < n
  · exact src_of_own_any hn h
  · have hl := own_len h
    have hb : bs = [] := List.eq_nil_of_length_eq_zero (by omega)
    rcases h.2 with ⟨rfl, _⟩ | ⟨g, cap, cur, rfl, _⟩
    · exact .inl ⟨_, _, rfl, hb⟩
    · exact .inl ⟨_, _, by rw [show n = 0 by omega], hb⟩
theorem own_kept {w w' : World} {base n size : Nat} {e : TypeId} {v : Value} {xs : List Value} (h : w.ownsRow base e size v n xs) (hb : Below w.heap.size w w') : w'.ownsRow base e size v n xs := by
  refine h.kept (row := none) ⟨hb.os, hb.tape, hb.output, hb.size, fun k hk _ => hb.block k hk⟩ ?_
  cases hv : v.ownBlock with
  | none => exact .inl rfl
  | some b => exact .inr (by simp)
theorem own_base {w : World} {base base' n size : Nat} {e : TypeId} {v : Value} {xs : List Value} (h : w.ownsRow base e size v n xs) (hb : base' ≤ base) : w.ownsRow base' e size v n xs := by
  refine ⟨h.1, ?_⟩
  rcases h.2 with h' | ⟨g, cap, cur, hv, hbg, r⟩
  · exact .inl h'
  · exact .inr ⟨g, cap, cur, hv, Nat.le_trans hb hbg, r⟩
/-- The slice v reads as these numbers of 64 bits. -/
def SrcU (w : World) (v : Value) (l : List Nat) : Prop :=
  (∃ sp cap, v = .slice sp 0 cap ∧ l = []) ∨
  (0 < l.length ∧ ∃ bb off cap, v = .slice (some ⟨bb, off, none⟩) l.length cap ∧ l.length ≤ cap ∧ ∀ j, j < l.length → w.cell? ⟨bb, off + j, none⟩ = some (.int .u64 (l.getD j 0 : Nat)))
theorem SrcU.below {w w' : World} {v : Value} {l : List Nat} (h : SrcU w v l) (hb : Below w.heap.size w w') : SrcU w' v l := by
  rcases h with h | ⟨h0, bb, off, cap, hv, hc, hs⟩
  · exact .inl h
  · exact .inr ⟨h0, bb, off, cap, hv, hc, fun j hj => by
      rw [hb.cell (p := ⟨bb, off + j, none⟩) (World.block_lt_of_cell? w _ (hs j hj))]
      exact hs j hj⟩
end Go.Proofs.YtlfpjfhpleociaaDoor.Sha
