/-
  Texts of this proof joined into one file: Hs, RefSmall. What each holds, and under which conditions, its own first sentence tells.
-/
import Derived.Test.YtdamhoagiooicaaDoorMg08
import Derived.Test.YtdamhoagiooicaaDoorMg03
import Derived.Test.YtdamhoagiooicaaDoorMg10
import Derived.Test.YtdamhoagiooicaaDoorMg07
import Derived.Test.YtdamhoagiooicaaDoorMg06
/-
  Rows of digests: a slice that reads as a list of digests (32 cells each), a row of one's own that grows. No conditions beyond those that each states.
-/
namespace Go.Proofs.YtdamhoagiooicaaDoor.Sha
open Go Go.RowKit
theorem info_hash : (Tryd.prog.info? 24).map (fun i => (i.zero, i.size, i.bytes)) = some (some (.agg (List.replicate 32 (bV 0)).toArray), 32, 32) := by kernel_rfl
/-- Digests of 32 bytes each. -/
def HsOk (l : List (List UInt8)) : Prop := ∀ x ∈ l, x.length = 32
theorem HsOk.get {l : List (List UInt8)} (h : HsOk l) {i : Nat} (hi : i < l.length) : (l.getD i []).length = 32 := by
  rw [List.getD_eq_getElem?_getD, List.getElem?_eq_getElem hi]
  exact h _ (List.getElem_mem _)
theorem HsOk.snoc {l : List (List UInt8)} (h : HsOk l) {x : List UInt8} (hx : x.length = 32) : HsOk (l ++ [x]) := fun y hy => by
  rcases List.mem_append.1 hy with hy | hy
  · exact h y hy
  · rw [List.mem_singleton.1 hy]; exact hx
/-- Their cells. -/
def hsL (l : List (List UInt8)) : List Value := l.flatMap fun x => x.map bV
theorem hsL_snoc (l : List (List UInt8)) (x : List UInt8) : hsL (l ++ [x]) = hsL l ++ x.map bV := by simp [hsL, List.flatMap_append]
theorem hsL_length : ∀ (l : List (List UInt8)), HsOk l → (hsL l).length = l.length * 32
  | [], _ => rfl
  | y :: l, ho => by
    have ih := hsL_length l (fun z hz => ho z (List.mem_cons_of_mem _ hz))
    have hy := ho y List.mem_cons_self
    simp only [hsL] at ih
    simp only [hsL, List.flatMap_cons, List.length_append, List.length_map, ih, hy, List.length_cons]
    omega
theorem hsL_get : ∀ (l : List (List UInt8)) (i : Nat) (y : List UInt8), HsOk l → l[i]? = some y → ∀ j, j < 32 → (hsL l)[i * 32 + j]? = (y.map bV)[j]?
  | z :: l, 0, y, ho, hy, j, hj => by
    simp only [List.getElem?_cons_zero, Option.some.injEq] at hy
    subst hy
    rw [Nat.zero_mul, Nat.zero_add, hsL, List.flatMap_cons, List.getElem?_append_left (by rw [List.length_map, ho z List.mem_cons_self]; exact hj)]
  | z :: l, i + 1, y, ho, hy, j, hj => by
    have e : (z.map bV).length = 32 := by rw [List.length_map, ho z List.mem_cons_self]
    rw [hsL, List.flatMap_cons, List.getElem?_append_right (by omega), e, show (i + 1) * 32 + j - 32 = i * 32 + j by omega]
    exact hsL_get l i y (fun z hz => ho z (List.mem_cons_of_mem _ hz)) (by simpa using hy) j hj
  | [], _, _, _, hy, _, _ => by simp at hy
/-- The slice v reads as these digests. -/
def HsAt (w : World) (v : Value) (l : List (List UInt8)) : Prop :=
  HsOk l ∧ ∃ sp cap, v = .slice sp l.length cap ∧ l.length ≤ cap ∧ (0 < l.length → ∃ b o, sp = some ⟨b, o, none⟩ ∧ ∀ i x, l[i]? = some x → w.rangeAt b (o + i * 32) (x.map bV))
theorem HsAt.below {w w' : World} {v : Value} {l : List (List UInt8)} (h : HsAt w v l) (hb : Below w.heap.size w w') : HsAt w' v l := by
  obtain ⟨h0, sp, cap, h1, h2, h3⟩ := h
  refine ⟨h0, sp, cap, h1, h2, fun h0 => ?_⟩
  obtain ⟨b, o, h4, h5⟩ := h3 h0
  exact ⟨b, o, h4, fun i x hx => range_below (h5 i x hx) hb⟩
theorem HsAt.nil (w : World) (sp : Option Addr) (cap : Nat) : HsAt w (.slice sp 0 cap) [] := ⟨fun x hx => by simp at hx, sp, cap, rfl, by simp, fun h => by simp at h⟩
theorem HsAt.len {w : World} {sp : Option Addr} {n cap : Nat} {l : List (List UInt8)} (h : HsAt w (.slice sp n cap) l) : n = l.length ∧ n ≤ cap := by
  obtain ⟨_, sp', cap', hv, hc, _⟩ := h
  cases hv
  exact ⟨rfl, hc⟩
/-- Where one of them lies. -/
theorem HsAt.get {w : World} {sp : Option Addr} {n cap : Nat} {l : List (List UInt8)} (h : HsAt w (.slice sp n cap) l) (h0 : 0 < n) : ∃ b o, sp = some ⟨b, o, none⟩ ∧ b < w.heap.size ∧ ∀ i, i < n → w.rangeAt b (o + i * 32) ((l.getD i []).map bV) := by
  obtain ⟨ho, sp', cap', hv, hc, hr⟩ := h
  cases hv
  obtain ⟨b, o, hs, hx⟩ := hr h0
  have hg : ∀ i, i < l.length → w.rangeAt b (o + i * 32) ((l.getD i []).map bV) := fun i hi => hx i _ (by rw [List.getD_eq_getElem?_getD, List.getElem?_eq_getElem hi]; rfl)
  refine ⟨b, o, hs, ?_, hg⟩
  obtain ⟨x, hx0⟩ : ∃ x, (l.getD 0 [])[0]? = some x := ⟨_, List.getElem?_eq_getElem (by rw [HsOk.get ho h0]; omega)⟩
  exact World.block_lt_of_cell? w _ (hg 0 h0 0 (bV x) (by rw [List.getElem?_map, hx0]; rfl))
/-- A row of digests of one's own. -/
def HsOwn (base : Nat) (w : World) (v : Value) (l : List (List UInt8)) : Prop := w.ownsRow base 24 32 v l.length (hsL l) ∧ HsOk l
theorem HsOwn.nil (base : Nat) (w : World) : HsOwn base w (.slice none 0 0) [] := ⟨World.ownsRow_nil _ _ _ _, fun _ h => absurd h (by simp)⟩
section
variable {base : Nat} {w w' : World} {v v' : Value} {l : List (List UInt8)}
theorem HsOwn.keep (h : HsOwn base w v l) (hb : Below w.heap.size w w') : HsOwn base w' v l := ⟨own_kept h.1 hb, h.2⟩
theorem HsOwn.kept (h : HsOwn base w v l) {q : Option Nat} (hg : w.grownBy w' q) (hb : v.ownBlock = none ∨ v.ownBlock ≠ q) : HsOwn base w' v l := ⟨h.1.kept hg hb, h.2⟩
theorem HsOwn.push {x : List UInt8} (ho : HsOk l) (hx : x.length = 32) (hown : w'.ownsRow base 24 32 v' (l.length + 1) (hsL l ++ x.map bV)) : HsOwn base w' v' (l ++ [x]) := by
  refine ⟨?_, ho.snoc hx⟩
  rw [hsL_snoc, List.length_append]
  exact hown
/-- Such a row as a slice of digests. -/
theorem HsOwn.at (h : HsOwn base w v l) : HsAt w v l := by
  obtain ⟨h2, h3⟩ := h
  refine ⟨h3, ?_⟩
  rcases h2.2 with ⟨hv, h0⟩ | ⟨g, cap, cur, hv, hb, hc, hn, hm, hs, ht⟩
  · exact ⟨none, 0, by rw [hv, h0], by omega, fun h => by omega⟩
  · subst hv
    refine ⟨_, cap, rfl, hn, fun h0 => ⟨g, 0, rfl, fun i x hx => ?_⟩⟩
    have hi := (List.getElem?_eq_some_iff.1 hx).1
    have hxo := h3 x (List.mem_of_getElem? hx)
    intro j u hj
    have hj32 : j < 32 := by
      have := (List.getElem?_eq_some_iff.1 hj).1
      rwa [List.length_map, hxo] at this
    rw [Nat.zero_add, h2.cellAt (i * 32 + j) (by omega), hsL_get l i x h3 hx j hj32]
    exact hj
end
/-- A part of such a slice. -/
theorem HsAt.cut {w : World} {sp : Option Addr} {n cap : Nat} {l : List (List UInt8)} (h : HsAt w (.slice sp n cap) l) (i r : Nat) (h1 : i ≤ r) (h2 : r ≤ n) : HsAt w (sliced sp i r cap 32) ((l.take r).drop i) := by
  have hn := h.len
  have hok := h.1
  have hl : ((l.take r).drop i).length = r - i := by rw [List.length_drop, List.length_take]; omega
  refine ⟨fun x hx => hok x (List.mem_of_mem_take (List.mem_of_mem_drop hx)), if cap = i then sp else sp.map (·.add (i * 32)), cap - i, by rw [sliced, hl], by omega, fun h0 => ?_⟩
  obtain ⟨b, o, hs, _, _⟩ := h.get (by omega)
  obtain ⟨_, sp', cap', hv, hc, hr⟩ := h
  cases hv
  obtain ⟨b, o, hs, hx⟩ := hr (by omega)
  subst hs
  refine ⟨b, o + i * 32, by rw [if_neg (by omega)]; simp [Addr.add_mid], fun j x hj => ?_⟩
  have hj2 : j < r - i := by have := (List.getElem?_eq_some_iff.1 hj).1; omega
  rw [List.getElem?_drop, List.getElem?_take_of_lt (by omega)] at hj
  have := hx (i + j) x hj
  rwa [show o + (i + j) * 32 = o + i * 32 + j * 32 by omega] at this
/-- One digest in a row of its own. -/
theorem hs_one {w : World} {g : Nat} {x : List UInt8} {T : TypeId} (h : w.heap[g]? = some (.cells (x.map bV).toArray T (0, 0))) : ∀ j u, (x.map bV)[j]? = some u → w.cell? ((⟨g, 0, none⟩ : Addr).add j) = some u := fun j u hj => by
  rw [Addr.add_mid]
  exact range_of_box h j u hj
end Go.Proofs.YtdamhoagiooicaaDoor.Sha

/-
  Small functions of the statements' own SHA-256: a word turned right, the table of the rounds' words, as the chapter gives them. No conditions.
-/
namespace Go.Proofs.YtdamhoagiooicaaDoor.Sha
open Go Go.RowKit
theorem right_fact (x : UInt32) (n : Nat) (h1 : 1 ≤ n) (h2 : n ≤ 31) : bits .or .u32 (wv x / 2 ^ n) (wv x * 2 ^ (32 - n) % 4294967296) = wv (rotr x n) := by
  rw [← IntKind.wrap_u32', wv_shl x _ (by omega), wv_shr x n (by omega), wv_or]
  rfl
set_option maxRecDepth 100000 in
theorem right_any (x : UInt32) (n : Nat) (k : Int) (hk : k = (n : Int)) (h1 : 1 ≤ n) (h2 : n ≤ 31) (w : World) :
    Calls Tryd.prog 67 #[.int .u32 (wv x), .int .u64 k] w fun e w' => e = .returned (.int .u32 (wv (rotr x n))) ∧ w = w' := by
  subst hk
  go_enter Tryd.func67, Tryd.ntmps67
  go_wp2
  go_ret
  exact ⟨ret_int (right_fact x n h1 h2), rfl⟩
theorem right_z (x : UInt32) (k : Int) (h1 : 1 ≤ k) (h2 : k ≤ 31) (w : World) :
    Calls Tryd.prog 67 #[.int .u32 (wv x), .int .u64 k] w fun e w' => e = .returned (.int .u32 (wv (rotr x k.toNat))) ∧ w = w' :=
  right_any x k.toNat k (by omega) (by omega) (by omega) w
theorem wv_sum3 (a b c : UInt32) : (wv a + wv b + wv c) % 4294967296 = wv (a + b + c) := by rw [← wv_sum, ← wv_sum]; omega
theorem wv_sum4 (a b c d : UInt32) : (wv a + wv b + wv c + wv d) % 4294967296 = wv (a + b + c + d) := by rw [← wv_sum, ← wv_sum3]; omega
theorem wv_not (x : UInt32) : bits .xor .u32 IntKind.u32.max (wv x) = wv (~~~x) := by
  rw [show IntKind.u32.max = wv 4294967295 from rfl, wv_xor, show (4294967295 : UInt32) = -1 from rfl, UInt32.neg_one_xor]
set_option maxRecDepth 100000 in
theorem k_any (w : World) : Calls Tryd.prog 66 #[] w fun e w' => e = .returned (.slice (some ⟨w.heap.size, 0, none⟩) 64 64) ∧ w'.heap[w.heap.size]? = some (.cells (kList.map wV).toArray 28 (0, 0)) ∧ Below w.heap.size w w' := by
  go_enter Tryd.func66, Tryd.ntmps66
  go_wp2
  go_ret
  exact ⟨rfl, by rw [heap_alloc_new]; rfl, (Below.refl _ _).alloc (Nat.le_refl _) _⟩
end Go.Proofs.YtdamhoagiooicaaDoor.Sha
