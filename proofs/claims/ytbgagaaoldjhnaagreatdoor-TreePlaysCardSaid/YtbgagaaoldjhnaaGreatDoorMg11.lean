/-
  Texts of this proof joined into one file: CtAt, TxBuilds, TxLits, TxNew, Hs, MkJoin, MkMath, MkSmall, MkHs, MkRow0, MkPath0, HsCopy, MkCalls. What each holds, and under which conditions, its own first sentence tells.
-/
import Derived.Maps.OwnSet
import Derived.DeepKeys4
import Derived.Great.BuildSlice
import Derived.Deep.OwnRows
import Derived.Lib.AppendZerosOnto
import Derived.Lib.Walk
import Derived.Deep.Light
import Derived.IntWalk
import Derived.Maps.AppendAt
import Derived.Test.YtbgagaaoldjhnaaGreatDoorMg10
import Derived.Test.YtbgagaaoldjhnaaGreatDoorMg05
import Derived.Test.YtbgagaaoldjhnaaGreatDoorMg04
import Derived.Test.YtbgagaaoldjhnaaGreatDoorMg09
import Derived.Test.YtbgagaaoldjhnaaGreatDoorMg01
import Derived.Test.YtbgagaaoldjhnaaGreatDoorMg03
/-
  The program's tree in memory: its box, the map of nodes by their ids, each node's box, the rows of those that hang on each. No conditions.
-/
namespace Go.Proofs.YtbgagaaoldjhnaaGreatDoor.Sha
open Go Go.RowKit
structure CNd where
  nd : TNd
  ad : Nat
  kids : Value
def nptr (o : Option Nat) : Value := match o with | some g => .pointer (some ⟨g, 0, none⟩) | none => .pointer none
theorem nptr_one (o : Option Nat) : (nptr o).oneCell' = true := by cases o <;> rfl
/-- A node's cells: p: its parent's block; v: those that hang on it. -/
def cnL (x : TNd) (p : Option Nat) (v : Value) : List Value := x.id.map bV ++ (hdL x.h ++ [.int .i64 x.height, .int .u64 (x.work : Int), nptr p, v])
theorem cnL_length {x : TNd} {p : Option Nat} {v : Value} (h1 : x.id.length = 32) (h2 : HdOk x.h) : (cnL x p v).length = 104 := by simp [cnL, h1, hdL_length h2]
/-- The block of a place of the list. -/
def cnP (M : List CNd) (p : Int) : Option Nat := if p < 0 then none else (M[p.toNat]?).map (·.ad)
theorem cnP_at {M : List CNd} {k : Nat} {c : CNd} (h : M[k]? = some c) : cnP M (k : Int) = some c.ad := by
  unfold cnP
  rw [if_neg (by omega), Int.toNat_natCast, h]
  rfl
theorem cnP_neg {M : List CNd} {p : Int} (h : p < 0) : cnP M p = none := if_pos h
def ndM (M : List CNd) : List TNd := M.map (·.nd)
theorem ndM_at {M : List CNd} {k : Nat} {c : CNd} (h : M[k]? = some c) : (ndM M)[k]? = some c.nd := by unfold ndM; rw [List.getElem?_map, h]; rfl
theorem ndM_get {M : List CNd} {k : Nat} {x : TNd} (h : (ndM M)[k]? = some x) : ∃ c, M[k]? = some c ∧ c.nd = x := by
  unfold ndM at h
  rw [List.getElem?_map] at h
  cases hc : M[k]? with
  | none => rw [hc] at h; cases h
  | some c => rw [hc] at h; exact ⟨c, rfl, by injection h⟩
theorem ndM_length (M : List CNd) : (ndM M).length = M.length := List.length_map _
def idsM (M : List CNd) : List (List UInt8 × Option Nat) := M.map fun c => (c.nd.id, some c.ad)
def kidsM (M : List CNd) (i : Nat) : List (List Value) := (kidsI (ndM M) i).map fun j : Nat => [nptr (cnP M (j : Int))]
theorem mty_nodes : MTy (List UInt8) (Option Nat) 25 70 74 hK nptr (fun h => h.length = 32) none :=
  ⟨cm_hash_law, by kernel_rfl, hash_keyOf, hK_inj, fun w => by kernel_rfl⟩
/-- The tree in box b with its map in block mb, nodes M in order; all lies from block base on. -/
structure CtAt (w : World) (base b mb : Nat) (M : List CNd) : Prop where
  box : w.heap[b]? = some (.cells (((ndM M).getD 0 ndZ).id.map bV ++ [Value.map (some mb)]).toArray 76 (0, 0))
  mp : MpAt hK nptr (fun h => h.length = 32) w mb (idsM M)
  node : ∀ (i : Nat) (c : CNd), M[i]? = some c → w.heap[c.ad]? = some (.cells (cnL c.nd (cnP M c.nd.parent) c.kids).toArray 73 (0, 0))
  kid : ∀ (i : Nat) (c : CNd), M[i]? = some c → RwOwn 1 70 base w c.kids (kidsM M i)
  ne : ∀ (i j : Nat) (c d : CNd), M[i]? = some c → M[j]? = some d → i ≠ j → c.ad ≠ d.ad ∧ (c.kids.ownBlock = none ∨ c.kids.ownBlock ≠ d.kids.ownBlock)
  lo : base ≤ b ∧ base ≤ mb ∧ ∀ c ∈ M, base ≤ c.ad
/-- What the tree's calls leave: all but its map, its nodes, their rows. -/
def CF (mb : Nat) (M : List CNd) (j : Nat) : Prop := j ≠ mb ∧ ∀ c ∈ M, j ≠ c.ad ∧ c.kids.ownBlock ≠ some j
section
variable {w w' : World} {base b mb : Nat} {M : List CNd}
theorem CtAt.kps {F : Nat → Prop} (h : CtAt w base b mb M) (hk : Kps F w w') (h1 : F b) (h2 : F mb) (h3 : ∀ c ∈ M, F c.ad ∧ ∀ g, c.kids.ownBlock = some g → F g) : CtAt w' base b mb M :=
  ⟨row_kps h.box hk h1, h.mp.kps hk h2, fun i c hc => row_kps (h.node i c hc) hk (h3 c (List.mem_of_getElem? hc)).1, fun i c hc => ⟨own_kpsB (h.kid i c hc).1 hk (h3 c (List.mem_of_getElem? hc)).2, (h.kid i c hc).2⟩, h.ne, h.lo⟩
theorem CtAt.at_ (h : CtAt w base b mb M) {c : CNd} (hc : c ∈ M) : ∃ i : Nat, M[i]? = some c := by
  obtain ⟨i, hi, e⟩ := List.getElem_of_mem hc
  exact ⟨i, by rw [List.getElem?_eq_getElem hi, e]⟩
theorem CtAt.below (h : CtAt w base b mb M) (hb : Below w.heap.size w w') : CtAt w' base b mb M :=
  h.kps (F := fun k => k < w.heap.size) (Kps.below hb fun _ h _ => h) (Array.getElem?_eq_some_iff.1 h.box).1 h.mp.lt (fun c hc => by
    obtain ⟨i, hi⟩ := h.at_ hc
    exact ⟨(Array.getElem?_eq_some_iff.1 (h.node i c hi)).1, fun g hg => ((h.kid i c hi).1.lt g hg).2⟩)
/-- A block of cells of another type turns: the tree stays. -/
theorem CtAt.far (h : CtAt w base b mb M) {g : Nat} (hg : w.grownBy w' (some g)) {cs : Array Value} {T : TypeId} {fr : Nat × Nat} (hc : w.heap[g]? = some (.cells cs T fr)) (h1 : T ≠ 76 := by decide) (h2 : T ≠ 73 := by decide) (h3 : 70 ≠ T := by decide) : CtAt w' base b mb M :=
  h.kps (F := fun k => k ≠ g) (Kps.grown hg fun k _ hk e => hk (Option.some.inj e)) (fun e => by subst e; have := h.box; rw [hc] at this; exact h1 (by cases this; rfl)) (fun e => h.mp.ne hc e.symm) (fun c hcm => by
    obtain ⟨i, hi⟩ := h.at_ hcm
    exact ⟨fun e => by have := h.node i c hi; rw [e, hc] at this; exact h2 (by cases this; rfl), fun k hk e => own_ne' (h.kid i c hi).1 hc h3 (by rw [hk, e])⟩)
theorem CtAt.rowF (h : CtAt w base b mb M) {g : Nat} {cs : Array Value} {T : TypeId} {fr : Nat × Nat} (hc : w.heap[g]? = some (.cells cs T fr)) (h2 : T ≠ 73) (h3 : 70 ≠ T) : CF mb M g :=
  ⟨h.mp.ne hc, fun c hcm => by
    obtain ⟨i, hi⟩ := h.at_ hcm
    exact ⟨fun e => by have := h.node i c hi; rw [← e, hc] at this; exact h2 (by cases this; rfl), own_ne' (h.kid i c hi).1 hc h3⟩⟩
theorem CtAt.ownF (h : CtAt w base b mb M) {bs n k : Nat} {T : TypeId} {v : Value} {xs : List Value} (ho : w.ownsRow bs T k v n xs) (h2 : T ≠ 73) (h3 : 70 ≠ T) : ∀ g, v.ownBlock = some g → CF mb M g := fun g hg => by
  obtain ⟨c, fz, hc⟩ := Lib.ownsRow_kind ho g hg
  exact h.rowF hc h2 h3
theorem CtAt.oldF (h : CtAt w base b mb M) {g : Nat} (hg : g < base) : CF mb M g :=
  ⟨by have := h.lo; omega, fun c hcm => by
    obtain ⟨i, hi⟩ := h.at_ hcm
    have := h.lo.2.2 c hcm
    exact ⟨by omega, fun e => by have := ((h.kid i c hi).1.lt g e).1; omega⟩⟩
theorem CtAt.lt (h : CtAt w base b mb M) : b < w.heap.size := (Array.getElem?_eq_some_iff.1 h.box).1
theorem CtAt.mcell (h : CtAt w base b mb M) (hs : ((ndM M).getD 0 ndZ).id.length = 32) : w.cell? ⟨b, 32, none⟩ = some (.map (some mb)) := by
  rw [cell_of_row _ _ _ _ _ _ h.box]
  rw [List.getElem?_toArray, List.getElem?_append_right (by rw [List.length_map, hs]; exact Nat.le_refl _), List.length_map, hs]
  rfl
theorem CtAt.start (h : CtAt w base b mb M) : w.rangeAt b 0 (((ndM M).getD 0 ndZ).id.map bV) := by
  intro j v hj
  rw [Nat.zero_add, cell_of_row _ _ _ _ _ _ h.box, List.getElem?_toArray, List.getElem?_append_left (List.getElem?_eq_some_iff.1 hj).1]
  exact hj
end
section
variable {w : World} {g : Nat} {x : TNd} {p : Option Nat} {v : Value}
theorem cn_id (h : w.heap[g]? = some (.cells (cnL x p v).toArray 73 (0, 0))) : w.rangeAt g 0 (x.id.map bV) := by
  intro j u hj
  rw [Nat.zero_add, cell_of_row _ _ _ _ _ _ h, List.getElem?_toArray]
  unfold cnL
  rw [List.getElem?_append_left (List.getElem?_eq_some_iff.1 hj).1]
  exact hj
theorem cn_head (h : w.heap[g]? = some (.cells (cnL x p v).toArray 73 (0, 0))) (hi : x.id.length = 32) : w.rangeAt g 32 (hdL x.h) := by
  intro j u hj
  rw [cell_of_row _ _ _ _ _ _ h, List.getElem?_toArray]
  unfold cnL
  rw [List.getElem?_append_right (by simp [hi]), List.length_map, hi, Nat.add_sub_cancel_left, List.getElem?_append_left (List.getElem?_eq_some_iff.1 hj).1]
  exact hj
theorem cn_cells (h : w.heap[g]? = some (.cells (cnL x p v).toArray 73 (0, 0))) (hi : x.id.length = 32) (hh : HdOk x.h) : w.cell? ⟨g, 100, none⟩ = some (.int .i64 x.height) ∧ w.cell? ⟨g, 101, none⟩ = some (.int .u64 (x.work : Int)) ∧ w.cell? ⟨g, 102, none⟩ = some (nptr p) ∧ w.cell? ⟨g, 103, none⟩ = some v := by
  have key : ∀ k, k < 4 → (cnL x p v).toArray[100 + k]? = [Value.int .i64 x.height, .int .u64 (x.work : Int), nptr p, v][k]? := fun k hk => by
    rw [List.getElem?_toArray]
    unfold cnL
    rw [List.getElem?_append_right (by simp [hi]; omega), List.getElem?_append_right (by rw [hdL_length hh, List.length_map, hi]; omega), hdL_length hh, List.length_map, hi]
    congr 1
    omega
  refine ⟨?_, ?_, ?_, ?_⟩
  · rw [cell_of_row _ _ _ _ _ _ h]; exact key 0 (by omega)
  · rw [cell_of_row _ _ _ _ _ _ h]; exact key 1 (by omega)
  · rw [cell_of_row _ _ _ _ _ _ h]; exact key 2 (by omega)
  · rw [cell_of_row _ _ _ _ _ _ h]; exact key 3 (by omega)
end
/-- The map tells what the list does. -/
theorem getG_ids {M : List CNd} (hp : (ndM M).Pairwise fun x y => x.id ≠ y.id) {k : Nat} {c : CNd} (hc : M[k]? = some c) : getG (idsM M) c.nd.id = some (some c.ad) := by
  have h2 : (idsM M).Pairwise fun x y => x.1 ≠ y.1 := by
    unfold idsM
    unfold ndM at hp
    rw [List.pairwise_map] at hp ⊢
    exact hp
  have h3 : (idsM M)[k]? = some (c.nd.id, some c.ad) := by unfold idsM; rw [List.getElem?_map, hc]; rfl
  exact getG_some h2 h3 rfl
theorem getG_ids_none {M : List CNd} {id : List UInt8} (h : ∀ x ∈ ndM M, x.id ≠ id) : getG (idsM M) id = none := by
  refine getG_none fun x hx => ?_
  unfold idsM at hx
  obtain ⟨c, hc, rfl⟩ := List.mem_map.1 hx
  exact h c.nd (List.mem_map.2 ⟨c, hc, rfl⟩)
/-- What is found under an id: nothing, or the place. -/
theorem look_ids {M : List CNd} (hp : (ndM M).Pairwise fun x y => x.id ≠ y.id) (id : List UInt8) : (findT (ndM M) id = -1 ∧ getG (idsM M) id = none) ∨ ∃ (k : Nat) (c : CNd), findT (ndM M) id = (k : Int) ∧ M[k]? = some c ∧ c.nd.id = id ∧ getG (idsM M) id = some (some c.ad) := by
  rcases findT_cases (ndM M) id with ⟨h1, h2⟩ | ⟨k, x, h1, h2, h3, _⟩
  · exact .inl ⟨h1, getG_ids_none h2⟩
  · obtain ⟨c, hc, rfl⟩ := ndM_get h2
    exact .inr ⟨k, c, h1, hc, h3, by rw [← h3]; exact getG_ids hp hc⟩
/-- One more node, on the one at place p, whose row is now v. -/
def pushM (M : List CNd) (p : Nat) (v : Value) (x : TNd) (g : Nat) : List CNd := M.mapIdx (fun i c => if i = p then ⟨c.nd, c.ad, v⟩ else c) ++ [⟨x, g, .slice none 0 0⟩]
section
variable {M : List CNd} {p g : Nat} {v : Value} {x : TNd}
theorem pushM_nd : ndM (pushM M p v x g) = ndM M ++ [x] := by
  unfold ndM pushM
  rw [List.map_append, List.map_singleton]
  congr 1
  refine List.ext_getElem? fun i => ?_
  rw [List.getElem?_map, List.getElem?_mapIdx, List.getElem?_map]
  cases M[i]? with
  | none => rfl
  | some c => simp only [Option.map_some]; split <;> rfl
theorem pushM_length : (pushM M p v x g).length = M.length + 1 := by unfold pushM; simp
theorem pushM_at {i : Nat} {c : CNd} (h : (pushM M p v x g)[i]? = some c) : (i = M.length ∧ c = ⟨x, g, .slice none 0 0⟩) ∨ ∃ d, M[i]? = some d ∧ c.nd = d.nd ∧ c.ad = d.ad ∧ (i = p ∧ c.kids = v ∨ i ≠ p ∧ c.kids = d.kids) := by
  unfold pushM at h
  by_cases hi : i < M.length
  · rw [List.getElem?_append_left (by rw [List.length_mapIdx]; exact hi), List.getElem?_mapIdx, List.getElem?_eq_getElem hi] at h
    refine .inr ⟨_, List.getElem?_eq_getElem hi, ?_⟩
    simp only [Option.map_some, Option.some.injEq] at h
    split at h
    · next e => subst h; exact ⟨rfl, rfl, .inl ⟨e, rfl⟩⟩
    · next e => subst h; exact ⟨rfl, rfl, .inr ⟨e, rfl⟩⟩
  · have e : i = M.length := by have := (List.getElem?_eq_some_iff.1 h).1; simp at this; omega
    rw [List.getElem?_append_right (by rw [List.length_mapIdx]; omega), List.length_mapIdx, e, Nat.sub_self] at h
    exact .inl ⟨e, by injection h with h; exact h.symm⟩
theorem pushM_ad {i : Nat} (h : i < M.length) : cnP (pushM M p v x g) (i : Int) = cnP M (i : Int) := by
  obtain ⟨c, hc⟩ : ∃ c, (pushM M p v x g)[i]? = some c := ⟨_, List.getElem?_eq_getElem (by rw [pushM_length]; omega)⟩
  rw [cnP_at hc]
  rcases pushM_at hc with ⟨e, _⟩ | ⟨d, hd, _, e, _⟩
  · omega
  · rw [cnP_at hd, e]
theorem pushM_last : cnP (pushM M p v x g) (M.length : Int) = some g := by
  obtain ⟨c, hc⟩ : ∃ c, (pushM M p v x g)[M.length]? = some c := ⟨_, List.getElem?_eq_getElem (by rw [pushM_length]; omega)⟩
  rw [cnP_at hc]
  rcases pushM_at hc with ⟨_, rfl⟩ | ⟨d, hd, _⟩
  · rfl
  · have := (List.getElem?_eq_some_iff.1 hd).1; omega
theorem pushM_ids : idsM (pushM M p v x g) = idsM M ++ [(x.id, some g)] := by
  unfold idsM pushM
  rw [List.map_append, List.map_singleton]
  congr 1
  refine List.ext_getElem? fun i => ?_
  rw [List.getElem?_map, List.getElem?_mapIdx, List.getElem?_map]
  cases M[i]? with
  | none => rfl
  | some c => simp only [Option.map_some]; split <;> rfl
theorem pushM_kids {i : Nat} : kidsM (pushM M p v x g) i = kidsM M i ++ (if x.parent = (i : Int) then [[nptr (some g)]] else []) := by
  unfold kidsM
  rw [pushM_nd, kidsI_push, List.map_append]
  congr 1
  · refine List.map_congr_left fun j hj => ?_
    rw [pushM_ad (by have := kidsI_lt hj; rwa [ndM_length] at this)]
  · split
    · rw [List.map_singleton, ndM_length, pushM_last]
    · rfl
end
section
variable {w w' : World} {base b mb : Nat} {M : List CNd}
theorem CtAt.push (h : CtAt w base b mb M) (hd : Down (ndM M)) {p : Nat} {c : CNd} (hc : M[p]? = some c) {x : TNd} {g : Nat} {v : Value}
    (hp : x.parent = (p : Int)) (hk : Kps (fun j => j ≠ mb ∧ j ≠ c.ad ∧ c.kids.ownBlock ≠ some j) w w') (hg : w.heap.size ≤ g) (hbs : base ≤ w.heap.size)
    (h1 : w'.heap[c.ad]? = some (.cells (cnL c.nd (cnP M c.nd.parent) v).toArray 73 (0, 0)))
    (h2 : RwOwn 1 70 base w' v (kidsM M p ++ [[nptr (some g)]]))
    (h3 : w'.heap[g]? = some (.cells (cnL x (some c.ad) (.slice none 0 0)).toArray 73 (0, 0)))
    (h4 : v.ownBlock = c.kids.ownBlock ∨ ∃ q, v.ownBlock = some q ∧ w.heap.size ≤ q)
    (h5 : MpAt hK nptr (fun h => h.length = 32) w' mb (idsM M ++ [(x.id, some g)])) : CtAt w' base b mb (pushM M p v x g) := by
  have hpl : p < M.length := (List.getElem?_eq_some_iff.1 hc).1
  have hds : ∀ (i : Nat) (d : CNd), M[i]? = some d → i ≠ p → w'.heap[d.ad]? = w.heap[d.ad]? := fun i d hi hip => by
    refine hk.block _ (Array.getElem?_eq_some_iff.1 (h.node i d hi)).1 ⟨fun e => h.mp.ne (h.node i d hi) e, (h.ne i p d c hi hc hip).1, own_ne' (h.kid p c hc).1 (h.node i d hi) (by decide)⟩
  refine ⟨?_, by rw [pushM_ids]; exact h5, fun i d hi => ?_, fun i d hi => ?_, fun i j d e hi hj hij => ?_, h.lo.1, h.lo.2.1, fun d hdm => ?_⟩
  · have e : (ndM (pushM M p v x g)).getD 0 ndZ = (ndM M).getD 0 ndZ := by
      rw [pushM_nd, List.getD_eq_getElem?_getD, List.getElem?_append_left (by rw [ndM_length]; omega), ← List.getD_eq_getElem?_getD]
    rw [e]
    exact row_kps h.box hk ⟨fun e => h.mp.ne h.box e, fun e => by have q := h.node p c hc; rw [← e, h.box] at q; exact absurd (show 76 = 73 by injection q with q; injection q) (by decide), own_ne' (h.kid p c hc).1 h.box (by decide)⟩
  · rcases pushM_at hi with ⟨e, rfl⟩ | ⟨d', hd', e1, e2, e3⟩
    · show w'.heap[g]? = _
      rw [h3]
      show _ = some (Obj.cells (cnL x (cnP (pushM M p v x g) x.parent) _).toArray _ _)
      rw [hp, pushM_ad hpl, cnP_at hc]
    · have hpar : cnP (pushM M p v x g) d'.nd.parent = cnP M d'.nd.parent := by
        have hdn := hd i d'.nd (ndM_at hd')
        have hil := (List.getElem?_eq_some_iff.1 hd').1
        by_cases hneg : d'.nd.parent < 0
        · rw [cnP_neg hneg, cnP_neg hneg]
        · obtain ⟨q, hq⟩ : ∃ q : Nat, d'.nd.parent = (q : Int) := ⟨d'.nd.parent.toNat, by omega⟩
          rw [hq, pushM_ad (by omega)]
      rw [e1, e2, hpar]
      rcases e3 with ⟨rfl, e3⟩ | ⟨e3, e4⟩
      · rw [hc] at hd'
        cases hd'
        rw [e3]
        exact h1
      · rw [e4, hds i d' hd' e3]
        exact h.node i d' hd'
  · rw [pushM_kids]
    rcases pushM_at hi with ⟨e, rfl⟩ | ⟨d', hd', e1, e2, e3⟩
    · have e0 : kidsM M i = [] := by
        unfold kidsM
        have := kidsI_last hd (y := x) (by rw [hp, ndM_length]; omega)
        rw [kidsI_push, ndM_length, if_neg (by omega), List.append_nil] at this
        rw [e, this]
        rfl
      rw [e0, if_neg (by rw [hp]; omega)]
      exact RwOwn.nil 1 _ base w'
    · rcases e3 with ⟨rfl, e3⟩ | ⟨e3, e4⟩
      · rw [if_pos hp, e3]
        exact h2
      · rw [if_neg (by rw [hp]; omega), List.append_nil, e4]
        refine ⟨own_kpsB (h.kid i d' hd').1 hk fun q hq => ?_, (h.kid i d' hd').2⟩
        refine ⟨fun e => own_nemap h.mp (h.kid i d' hd').1 (by rw [hq, e]), fun e => own_ne' (h.kid i d' hd').1 (h.node p c hc) (by decide) (by rw [hq, e]), fun e => ?_⟩
        rcases (h.ne i p d' c hd' hc e3).2 with hn | hn
        · rw [hn] at hq; cases hq
        · exact hn (by rw [hq, e])
  · have hlt : ∀ (i : Nat) (d : CNd), M[i]? = some d → d.ad < w.heap.size := fun i d hi => (Array.getElem?_eq_some_iff.1 (h.node i d hi)).1
    have hlk : ∀ (i : Nat) (d : CNd), M[i]? = some d → ∀ q, d.kids.ownBlock = some q → q < w.heap.size := fun i d hi q hq => ((h.kid i d hi).1.lt q hq).2
    have hv : ∀ (i : Nat) (d : CNd), M[i]? = some d → i ≠ p → (d.kids.ownBlock = none ∨ d.kids.ownBlock ≠ v.ownBlock) ∧ (v.ownBlock = none ∨ v.ownBlock ≠ d.kids.ownBlock) := fun i d hi hip => by
      rcases h4 with e | ⟨q, e, hq⟩
      · rw [e]
        exact ⟨(h.ne i p d c hi hc hip).2, (h.ne p i c d hc hi (fun e => hip e.symm)).2⟩
      · rw [e]
        exact ⟨.inr fun e2 => by have := hlk i d hi q e2; omega, .inr fun e2 => by have := hlk i d hi q e2.symm; omega⟩
    rcases pushM_at hi with ⟨ei, rfl⟩ | ⟨d', hd', a1, a2, a3⟩
    · rcases pushM_at hj with ⟨ej, rfl⟩ | ⟨d2, hd2, b1, b2, b3⟩
      · omega
      · exact ⟨by rw [b2]; have := hlt j d2 hd2; show g ≠ _; omega, .inl rfl⟩
    · rcases pushM_at hj with ⟨ej, rfl⟩ | ⟨d2, hd2, b1, b2, b3⟩
      · refine ⟨by rw [a2]; have := hlt i d' hd'; show _ ≠ g; omega, ?_⟩
        cases hq : d.kids.ownBlock with
        | none => exact .inl rfl
        | some q => exact .inr (fun e => by cases e)
      · refine ⟨by rw [a2, b2]; exact (h.ne i j d' d2 hd' hd2 hij).1, ?_⟩
        rcases a3 with ⟨rfl, a3⟩ | ⟨a3, a4⟩
        · rcases b3 with ⟨rfl, b3⟩ | ⟨b3, b4⟩
          · exact absurd rfl hij
          · rw [a3, b4]; exact (hv j d2 hd2 b3).2
        · rcases b3 with ⟨rfl, b3⟩ | ⟨b3, b4⟩
          · rw [a4, b3]; exact (hv i d' hd' a3).1
          · rw [a4, b4]; exact (h.ne i j d' d2 hd' hd2 hij).2
  · obtain ⟨i, hi, e⟩ := List.getElem_of_mem hdm
    rcases pushM_at (show (pushM M p v x g)[i]? = some d by rw [List.getElem?_eq_getElem hi, e]) with ⟨_, rfl⟩ | ⟨d', hd', _, e2, _⟩
    · show base ≤ g; omega
    · rw [e2]; exact h.lo.2.2 d' (List.mem_of_getElem? hd')
end
end Go.Proofs.YtbgagaaoldjhnaaGreatDoor.Sha

/-
  What literals of transactions, inputs, outputs and places lay. No conditions beyond those that each states.
-/
namespace Go.Proofs.YtbgagaaoldjhnaaGreatDoor.Sha
open Go Go.RowKit
def zH : List UInt8 := List.replicate 32 0
theorem zH_length : zH.length = 32 := rfl
end Go.Proofs.YtbgagaaoldjhnaaGreatDoor.Sha

/-
  Rows of one or two inputs, or outputs, as slices; what is amiss with transactions of few inputs. Conditions: those that each states.
-/
namespace Go.Proofs.YtbgagaaoldjhnaaGreatDoor.Sha
open Go Go.RowKit
theorem insAt_one {w : World} {g : Nat} {x : TIn} {kv : Value} {fr : Nat × Nat} (h : w.heap[g]? = some (.cells (inL x kv).toArray 130 fr)) (hx : InOk x) (hk : KeyAt w kv x.key) : InsAt w (.slice (some ⟨g, 0, none⟩) 1 1) [x] :=
  ⟨_, 1, rfl, Nat.le_refl _, fun _ => ⟨g, 0, rfl, fun i y hy => by
    have hi := (List.getElem?_eq_some_iff.1 hy).1
    simp at hi
    subst hi
    simp only [List.getElem?_cons_zero, Option.some.injEq] at hy
    subst hy
    exact ⟨hx, kv, hk, range_of_box h⟩⟩⟩
theorem outsAt_one {w : World} {g : Nat} {y : TOut} {fr : Nat × Nat} (h : w.heap[g]? = some (.cells (outL y).toArray 132 fr)) (hy : OutOk y) : OutsAt w (.slice (some ⟨g, 0, none⟩) 1 1) [y] :=
  ⟨_, 1, rfl, Nat.le_refl _, fun _ => ⟨g, 0, rfl, fun i z hz => by
    have hi := (List.getElem?_eq_some_iff.1 hz).1
    simp at hi
    subst hi
    simp only [List.getElem?_cons_zero, Option.some.injEq] at hz
    subst hz
    exact ⟨hy, range_of_box h⟩⟩⟩
end Go.Proofs.YtbgagaaoldjhnaaGreatDoor.Sha

/-
  Numbers written by package compact as new memory; rows that are new grow. No conditions beyond those that each states.
-/
namespace Go.Proofs.YtbgagaaoldjhnaaGreatDoor.Sha
open Go Go.RowKit
/-- New memory that reads as bs is answered. -/
def NewPost (w : World) (bs : List UInt8) (e : Ending) (w' : World) : Prop := ∃ sp n cap, e = .returned (.slice sp n cap) ∧ n = bs.length ∧ CopyB w w' (.slice sp n cap) bs
theorem newB_copy {w w' : World} {k c : Nat} {bs : List UInt8} (h : NewB w w' k c bs) : k = bs.length ∧ CopyB w w' (.slice (some ⟨w.heap.size, 0, none⟩) k c) bs := by
  have hl := own_len h.1
  refine ⟨hl, ?_, h.2⟩
  rw [← hl]
  exact h.1
theorem four_new (bs : List UInt8) (v : Value) (x : Nat) (w : World) (hs : SrcB w v bs) (hn : bs.length ≤ 70368744177664) (hx : x ≤ 4294967295) :
    Calls Tryz.prog 72 #[v, .int .u32 (x : Int)] w (NewPost w (bs ++ leB x 4)) := by
  obtain ⟨sp, cap, rfl⟩ := hs.shape
  refine (four_any bs sp bs.length cap x w hs hn hx).mono ?_
  rintro e w' ⟨rfl, h⟩
  exact ⟨_, _, _, rfl, newB_copy h⟩
theorem CopyB.src {w w' : World} {v : Value} {bs : List UInt8} (h : CopyB w w' v bs) : SrcB w' v bs := src_own h.1
theorem CopyB.keep {w w1 w2 : World} {v : Value} {bs : List UInt8} (h : CopyB w w1 v bs) (hb : Below w1.heap.size w1 w2) : CopyB w w2 v bs := ⟨own_kept h.1 hb, h.2.trans (hb.mono h.2.size)⟩
theorem CopyB.app {w w1 w2 : World} {v v' : Value} {bs cs : List UInt8} (h : CopyB w w1 v bs) (ho : w2.ownsRow w.heap.size 5 1 v' (bs.length + cs.length) (bs.map bV ++ cs.map bV)) (hg : w1.grownBy w2 v.ownBlock) : CopyB w w2 v' (bs ++ cs) :=
  ⟨by rw [List.length_append, List.map_append]; exact ho, own_grown h.2 (Nat.le_refl _) h.2.size h.1 hg⟩
theorem CopyB.start {w0 w w' : World} {v : Value} {bs : List UInt8} (h : CopyB w w' v bs) (hb : Below w0.heap.size w0 w) : CopyB w0 w' v bs := ⟨own_base h.1 hb.size, hb.trans (h.2.mono hb.size)⟩
theorem nil_src (w : World) : SrcB w (.slice none 0 0) [] := .inl ⟨_, _, rfl, rfl⟩
end Go.Proofs.YtbgagaaoldjhnaaGreatDoor.Sha

/-
  Rows of digests: a slice that reads as a list of digests (32 cells each), a row of one's own that grows. No conditions beyond those that each states.
-/
namespace Go.Proofs.YtbgagaaoldjhnaaGreatDoor.Sha
open Go Go.RowKit
theorem info_hash : (Tryz.prog.info? 25).map (fun i => (i.zero, i.size, i.bytes)) = some (some (.agg (List.replicate 32 (bV 0)).toArray), 32, 32) := by kernel_rfl
/-- Digests of 32 bytes each. -/
def HsOk (l : List (List UInt8)) : Prop := ∀ x ∈ l, x.length = 32
theorem HsOk.get {l : List (List UInt8)} (h : HsOk l) {i : Nat} (hi : i < l.length) : (l.getD i []).length = 32 := by
  rw [List.getD_eq_getElem?_getD, List.getElem?_eq_getElem hi]
  exact h _ (List.getElem_mem _)
theorem HsOk.snoc {l : List (List UInt8)} (h : HsOk l) {x : List UInt8} (hx : x.length = 32) : HsOk (l ++ [x]) := fun y hy => by
  rcases List.mem_append.1 hy with hy | hy
  · exact h y hy
  · rw [List.mem_singleton.1 hy]; exact hx
/-- Their cells. -/
def hsL (l : List (List UInt8)) : List Value := l.flatMap fun x => x.map bV
theorem hsL_snoc (l : List (List UInt8)) (x : List UInt8) : hsL (l ++ [x]) = hsL l ++ x.map bV := by simp [hsL, List.flatMap_append]
theorem hsL_get : ∀ (l : List (List UInt8)) (i : Nat) (y : List UInt8), HsOk l → l[i]? = some y → ∀ j, j < 32 → (hsL l)[i * 32 + j]? = (y.map bV)[j]?
  | z :: l, 0, y, ho, hy, j, hj => by
    simp only [List.getElem?_cons_zero, Option.some.injEq] at hy
    subst hy
    rw [Nat.zero_mul, Nat.zero_add, hsL, List.flatMap_cons, List.getElem?_append_left (by rw [List.length_map, ho z List.mem_cons_self]; exact hj)]
  | z :: l, i + 1, y, ho, hy, j, hj => by
    have e : (z.map bV).length = 32 := by rw [List.length_map, ho z List.mem_cons_self]
    rw [hsL, List.flatMap_cons, List.getElem?_append_right (by omega), e, show (i + 1) * 32 + j - 32 = i * 32 + j by omega]
    exact hsL_get l i y (fun z hz => ho z (List.mem_cons_of_mem _ hz)) (by simpa using hy) j hj
  | [], _, _, _, hy, _, _ => by simp at hy
/-- The slice v reads as these digests. -/
def HsAt (w : World) (v : Value) (l : List (List UInt8)) : Prop :=
  HsOk l ∧ ∃ sp cap, v = .slice sp l.length cap ∧ l.length ≤ cap ∧ (0 < l.length → ∃ b o, sp = some ⟨b, o, none⟩ ∧ ∀ i x, l[i]? = some x → w.rangeAt b (o + i * 32) (x.map bV))
theorem HsAt.below {w w' : World} {v : Value} {l : List (List UInt8)} (h : HsAt w v l) (hb : Below w.heap.size w w') : HsAt w' v l := by
  obtain ⟨h0, sp, cap, h1, h2, h3⟩ := h
  refine ⟨h0, sp, cap, h1, h2, fun h0 => ?_⟩
  obtain ⟨b, o, h4, h5⟩ := h3 h0
  exact ⟨b, o, h4, fun i x hx => range_below (h5 i x hx) hb⟩
theorem HsAt.nil (w : World) (sp : Option Addr) (cap : Nat) : HsAt w (.slice sp 0 cap) [] := ⟨fun x hx => by simp at hx, sp, cap, rfl, by simp, fun h => by simp at h⟩
theorem HsAt.len {w : World} {sp : Option Addr} {n cap : Nat} {l : List (List UInt8)} (h : HsAt w (.slice sp n cap) l) : n = l.length ∧ n ≤ cap := by
  obtain ⟨_, sp', cap', hv, hc, _⟩ := h
  cases hv
  exact ⟨rfl, hc⟩
/-- Where one of them lies. -/
theorem HsAt.get {w : World} {sp : Option Addr} {n cap : Nat} {l : List (List UInt8)} (h : HsAt w (.slice sp n cap) l) (h0 : 0 < n) : ∃ b o, sp = some ⟨b, o, none⟩ ∧ b < w.heap.size ∧ ∀ i, i < n → w.rangeAt b (o + i * 32) ((l.getD i []).map bV) := by
  obtain ⟨ho, sp', cap', hv, hc, hr⟩ := h
  cases hv
  obtain ⟨b, o, hs, hx⟩ := hr h0
  have hg : ∀ i, i < l.length → w.rangeAt b (o + i * 32) ((l.getD i []).map bV) := fun i hi => hx i _ (by rw [List.getD_eq_getElem?_getD, List.getElem?_eq_getElem hi]; rfl)
  refine ⟨b, o, hs, ?_, hg⟩
  obtain ⟨x, hx0⟩ : ∃ x, (l.getD 0 [])[0]? = some x := ⟨_, List.getElem?_eq_getElem (by rw [HsOk.get ho h0]; omega)⟩
  exact World.block_lt_of_cell? w _ (hg 0 h0 0 (bV x) (by rw [List.getElem?_map, hx0]; rfl))
/-- A row of digests of one's own. -/
def HsOwn (base : Nat) (w : World) (v : Value) (l : List (List UInt8)) : Prop := w.ownsRow base 25 32 v l.length (hsL l) ∧ HsOk l
theorem HsOwn.nil (base : Nat) (w : World) : HsOwn base w (.slice none 0 0) [] := ⟨World.ownsRow_nil _ _ _ _, fun _ h => absurd h (by simp)⟩
section
variable {base : Nat} {w w' : World} {v v' : Value} {l : List (List UInt8)}
theorem HsOwn.keep (h : HsOwn base w v l) (hb : Below w.heap.size w w') : HsOwn base w' v l := ⟨own_kept h.1 hb, h.2⟩
theorem HsOwn.kept (h : HsOwn base w v l) {q : Option Nat} (hg : w.grownBy w' q) (hb : v.ownBlock = none ∨ v.ownBlock ≠ q) : HsOwn base w' v l := ⟨h.1.kept hg hb, h.2⟩
theorem HsOwn.push {x : List UInt8} (ho : HsOk l) (hx : x.length = 32) (hown : w'.ownsRow base 25 32 v' (l.length + 1) (hsL l ++ x.map bV)) : HsOwn base w' v' (l ++ [x]) := by
  refine ⟨?_, ho.snoc hx⟩
  rw [hsL_snoc, List.length_append]
  exact hown
/-- Such a row as a slice of digests. -/
theorem HsOwn.at (h : HsOwn base w v l) : HsAt w v l := by
  obtain ⟨h2, h3⟩ := h
  refine ⟨h3, ?_⟩
  rcases h2.2 with ⟨hv, h0⟩ | ⟨g, cap, cur, hv, hb, hc, hn, hm, hs, ht⟩
  · exact ⟨none, 0, by rw [hv, h0], by omega, fun h => by omega⟩
  · subst hv
    refine ⟨_, cap, rfl, hn, fun h0 => ⟨g, 0, rfl, fun i x hx => ?_⟩⟩
    have hi := (List.getElem?_eq_some_iff.1 hx).1
    have hxo := h3 x (List.mem_of_getElem? hx)
    intro j u hj
    have hj32 : j < 32 := by
      have := (List.getElem?_eq_some_iff.1 hj).1
      rwa [List.length_map, hxo] at this
    rw [Nat.zero_add, h2.cellAt (i * 32 + j) (by omega), hsL_get l i x h3 hx j hj32]
    exact hj
end
/-- A part of such a slice. -/
theorem HsAt.cut {w : World} {sp : Option Addr} {n cap : Nat} {l : List (List UInt8)} (h : HsAt w (.slice sp n cap) l) (i r : Nat) (h1 : i ≤ r) (h2 : r ≤ n) : HsAt w (sliced sp i r cap 32) ((l.take r).drop i) := by
  have hn := h.len
  have hok := h.1
  have hl : ((l.take r).drop i).length = r - i := by rw [List.length_drop, List.length_take]; omega
  refine ⟨fun x hx => hok x (List.mem_of_mem_take (List.mem_of_mem_drop hx)), if cap = i then sp else sp.map (·.add (i * 32)), cap - i, by rw [sliced, hl], by omega, fun h0 => ?_⟩
  obtain ⟨b, o, hs, _, _⟩ := h.get (by omega)
  obtain ⟨_, sp', cap', hv, hc, hr⟩ := h
  cases hv
  obtain ⟨b, o, hs, hx⟩ := hr (by omega)
  subst hs
  refine ⟨b, o + i * 32, by rw [if_neg (by omega)]; simp [Addr.add_mid], fun j x hj => ?_⟩
  have hj2 : j < r - i := by have := (List.getElem?_eq_some_iff.1 hj).1; omega
  rw [List.getElem?_drop, List.getElem?_take_of_lt (by omega)] at hj
  have := hx (i + j) x hj
  rwa [show o + (i + j) * 32 = o + i * 32 + j * 32 by omega] at this
/-- One digest in a row of its own. -/
theorem hs_one {w : World} {g : Nat} {x : List UInt8} {T : TypeId} (h : w.heap[g]? = some (.cells (x.map bV).toArray T (0, 0))) : ∀ j u, (x.map bV)[j]? = some u → w.cell? ((⟨g, 0, none⟩ : Addr).add j) = some u := fun j u hj => by
  rw [Addr.add_mid]
  exact range_of_box h j u hj
end Go.Proofs.YtbgagaaoldjhnaaGreatDoor.Sha

/-
  Package merkle's join: the digest above two. Nothing that was there turns. Condition: the table is there.
-/
namespace Go.Proofs.YtbgagaaoldjhnaaGreatDoor.Sha
open Go Go.RowKit
/-- The digest above two. -/
def prH (a b : List UInt8) : List UInt8 := sha (sha (a ++ b))
theorem prH_length (a b : List UInt8) : (prH a b).length = 32 := sha_length _
/-- Two boxes and an empty one. -/
theorem boxes_two_zero (w : World) (x y z : Array Value) (T : TypeId) :
    Below w.heap.size w (((w.alloc (.cells x T (0, 0))).alloc (.cells y T (0, 0))).alloc (.cells z T (0, 0)))
    ∧ (((w.alloc (.cells x T (0, 0))).alloc (.cells y T (0, 0))).alloc (.cells z T (0, 0))).heap[w.heap.size]? = some (.cells x T (0, 0))
    ∧ (((w.alloc (.cells x T (0, 0))).alloc (.cells y T (0, 0))).alloc (.cells z T (0, 0))).heap[w.heap.size + 1]? = some (.cells y T (0, 0))
    ∧ (((w.alloc (.cells x T (0, 0))).alloc (.cells y T (0, 0))).alloc (.cells z T (0, 0))).heap[w.heap.size + 2]? = some (.cells z T (0, 0)) := by
  refine ⟨(((Below.refl _ _).alloc (Nat.le_refl _) _).alloc (by simp) _).alloc (by simp; omega) _, ?_, ?_, ?_⟩
  · have h1 := heap_alloc_new w (.cells x T (0, 0))
    have h2 := row_below h1 ((Below.refl _ _).alloc (Nat.le_refl _) (.cells y T (0, 0)))
    exact row_below h2 ((Below.refl _ _).alloc (Nat.le_refl _) (.cells z T (0, 0)))
  · have h1 := heap_alloc_new (w.alloc (.cells x T (0, 0))) (.cells y T (0, 0))
    rw [World.size_alloc] at h1
    exact row_below h1 ((Below.refl _ _).alloc (Nat.le_refl _) (.cells z T (0, 0)))
  · have h1 := heap_alloc_new ((w.alloc (.cells x T (0, 0))).alloc (.cells y T (0, 0))) (.cells z T (0, 0))
    rw [World.size_alloc, World.size_alloc] at h1
    exact h1
theorem one_list {dg : Array Value} (h : dg.all (·.oneCell') = true) : ∀ u ∈ dg.toList, u.oneCell' = true := fun u hu => by
  rw [Array.all_eq_true_iff_forall_mem] at h
  exact h u (by simpa using hu)
end Go.Proofs.YtbgagaaoldjhnaaGreatDoor.Sha

/-
  Plain mathematics of rows of digests: the next row, the root, the way from below, what a leaf and a way make. Nothing of the program. No conditions beyond those that each states.
-/
namespace Go.Proofs.YtbgagaaoldjhnaaGreatDoor.Sha
section
variable {α : Type} (pr : α → α → α) (z : α)
/-- The next row: each two, the last of an odd row with itself. -/
def rowL : List α → List α
  | [] => []
  | [a] => [pr a a]
  | a :: b :: l => pr a b :: rowL l
theorem rowL_length : ∀ l : List α, (rowL pr l).length = (l.length + 1) / 2
  | [] => by simp [rowL]
  | [_] => by simp [rowL]
  | _ :: _ :: l => by
    rw [rowL, List.length_cons, rowL_length l]
    simp only [List.length_cons]
    omega
/-- One of the next row. -/
theorem rowL_get : ∀ (l : List α) (i : Nat), 2 * i < l.length → (rowL pr l).getD i z = pr (l.getD (2 * i) z) (l.getD (if 2 * i + 1 < l.length then 2 * i + 1 else 2 * i) z)
  | [], i, h => by simp at h
  | [a], i, h => by
    obtain rfl : i = 0 := by simp at h; omega
    simp [rowL]
  | a :: b :: l, 0, _ => by simp [rowL]
  | a :: b :: l, i + 1, h => by
    have ih := rowL_get l i (by simp at h; omega)
    rw [rowL, List.getD_cons_succ, ih, show 2 * (i + 1) = 2 * i + 1 + 1 by omega]
    simp only [List.length_cons]
    by_cases h2 : 2 * i + 1 < l.length
    · rw [if_pos h2, if_pos (by omega)]
      simp only [List.getD_cons_succ]
    · rw [if_neg h2, if_neg (by omega)]
      simp only [List.getD_cons_succ]
/-- The root: row by row. -/
def rootL (l : List α) : α := if _h : l.length ≤ 1 then l.getD 0 z else rootL (rowL pr l)
  termination_by l.length
  decreasing_by rw [rowL_length]; omega
theorem rootL_one {l : List α} (h : l.length ≤ 1) : rootL pr z l = l.getD 0 z := by rw [rootL, dif_pos h]
theorem rootL_more {l : List α} (h : 1 < l.length) : rootL pr z l = rootL pr z (rowL pr l) := by rw [rootL, dif_neg (by omega)]
/-- The other one of two. -/
def otherN (i n : Nat) : Nat := if i % 2 = 1 then i - 1 else if i + 1 < n then i + 1 else i
end
end Go.Proofs.YtbgagaaoldjhnaaGreatDoor.Sha

/-
  Package merkle's small functions: half, partner, rowsAbove. No conditions beyond bounds.
-/
namespace Go.Proofs.YtbgagaaoldjhnaaGreatDoor.Sha
open Go Go.RowKit
theorem otherN_lt {i n : Nat} (h : i < n) : otherN i n < n := by unfold otherN; split <;> (try split) <;> omega
end Go.Proofs.YtbgagaaoldjhnaaGreatDoor.Sha

/-
  Rows of digests, roots and ways: lengths, what is kept when another block turns. No conditions beyond those that each states.
-/
namespace Go.Proofs.YtbgagaaoldjhnaaGreatDoor.Sha
open Go Go.RowKit
/-- 32 bytes of 0. -/
def zM : List UInt8 := List.replicate 32 0
theorem zM_length : zM.length = 32 := by simp [zM]
def slLen : Value → Nat
  | .slice _ n _ => n
  | _ => 0
theorem rowL_ok : ∀ l : List (List UInt8), HsOk (rowL prH l)
  | [] => fun x hx => by simp [rowL] at hx
  | [a] => fun x hx => by
    simp only [rowL, List.mem_singleton] at hx
    rw [hx]; exact prH_length _ _
  | a :: b :: l => fun x hx => by
    simp only [rowL, List.mem_cons] at hx
    rcases hx with rfl | hx
    · exact prH_length _ _
    · exact rowL_ok l x hx
theorem hsD_ok {l : List (List UInt8)} (h : HsOk l) (i : Nat) : (l.getD i zM).length = 32 := by
  by_cases hi : i < l.length
  · rw [List.getD_eq_getElem?_getD, List.getElem?_eq_getElem hi]
    exact h _ (List.getElem_mem _)
  · rw [List.getD_eq_getElem?_getD, List.getElem?_eq_none (by omega)]
    exact zM_length
theorem getD_any {l : List (List UInt8)} {i : Nat} (hi : i < l.length) : l.getD i [] = l.getD i zM := by
  rw [List.getD_eq_getElem?_getD, List.getD_eq_getElem?_getD, List.getElem?_eq_getElem hi]
  rfl
theorem rootL_len : ∀ (n : Nat) (l : List (List UInt8)), l.length = n → HsOk l → (rootL prH zM l).length = 32 := by
  intro n
  induction n using Nat.strongRecOn with
  | ind n ih =>
    intro l hl ho
    by_cases h : n ≤ 1
    · rw [rootL_one prH zM (by omega)]
      exact hsD_ok ho 0
    · rw [rootL_more prH zM (by omega)]
      exact ih ((n + 1) / 2) (by omega) _ (by rw [rowL_length, hl]) (rowL_ok l)
theorem HsAt.shape {w : World} {v : Value} {l : List (List UInt8)} (h : HsAt w v l) : ∃ sp cap, v = .slice sp l.length cap := by
  obtain ⟨_, sp, cap, h1, _, _⟩ := h
  exact ⟨sp, cap, h1⟩
theorem HsAt.off {w w' : World} {v : Value} {l : List (List UInt8)} {q : Option Nat} (h : HsAt w v l) (ho : Off v q) (hg : w.grownBy w' q) : HsAt w' v l := by
  obtain ⟨h0, sp, cap, rfl, h2, h3⟩ := h
  refine ⟨h0, sp, cap, rfl, h2, fun h0 => ?_⟩
  obtain ⟨b, o, rfl, h5⟩ := h3 h0
  refine ⟨b, o, rfl, fun i x hx j u hj => ?_⟩
  have h6 := h5 i x hx j u hj
  have hlt := World.block_lt_of_cell? w _ h6
  simp only at hlt
  rw [World.cell?_of_block (hg.block b hlt (fun e => ho _ _ _ rfl h0 e.symm))]
  exact h6
theorem HsAt.fresh {w : World} {v : Value} {l : List (List UInt8)} {k : Nat} (h : HsAt w v l) (hk : w.heap.size ≤ k) : Off v (some k) := fun sp n cap hv hn e => by
  obtain ⟨h0, sp', cap', h1, h2, h3⟩ := h
  rw [h1] at hv
  cases hv
  obtain ⟨b, o, hs, h5⟩ := h3 hn
  obtain ⟨x, hx⟩ : ∃ x, l[0]? = some x := ⟨_, List.getElem?_eq_getElem hn⟩
  have hx32 := h0 x (List.mem_of_getElem? hx)
  obtain ⟨u, hu⟩ : ∃ u, (x.map bV)[0]? = some u := ⟨_, List.getElem?_eq_getElem (by rw [List.length_map]; omega)⟩
  have hlt := World.block_lt_of_cell? w _ (h5 0 x hx 0 u hu)
  simp only at hlt
  have e1 := Option.some.inj e
  rw [Option.some.inj hs] at e1
  simp only at e1
  omega
end Go.Proofs.YtbgagaaoldjhnaaGreatDoor.Sha

/-
  What a loop over a row of digests keeps; a load that may come first. No conditions.
-/
namespace Go.Proofs.YtbgagaaoldjhnaaGreatDoor.Sha
open Go Go.RowKit
def RaInv (l : List (List UInt8)) (n : Nat) (w : World) (vs vi : Value) (wr : World) : Prop :=
  ∃ (k j : Nat) (vb : Value), vb = vs ∧ j ≤ n + 1 ∧ j = 2 * k ∧ vi = .int .i64 j ∧ HsOwn w.heap.size wr vb ((rowL prH l).take k) ∧ Below w.heap.size w wr
end Go.Proofs.YtbgagaaoldjhnaaGreatDoor.Sha

/-
  What a loop that makes a way keeps. No conditions.
-/
namespace Go.Proofs.YtbgagaaoldjhnaaGreatDoor.Sha
open Go Go.RowKit
theorem HsOwn.lt {base : Nat} {w : World} {v : Value} {l : List (List UInt8)} (h : HsOwn base w v l) : ∀ g, v.ownBlock = some g → g < w.heap.size := fun g hg => (h.1.lt g hg).2
end Go.Proofs.YtbgagaaoldjhnaaGreatDoor.Sha

/-
  The statements' own copy of a row of digests: new memory; nothing that was there turns. Conditions: the digests lie where the slice says; at most 2^20 of them.
-/
namespace Go.Proofs.YtbgagaaoldjhnaaGreatDoor.Sha
open Go Go.RowKit
def hsInv (l : List (List UInt8)) (w : World) (vs vi : Value) (wr : World) : Prop :=
  ∃ (k : Nat) (vb : Value), vb = vs ∧ vi = .int .i64 k ∧ k ≤ l.length ∧ HsOwn w.heap.size wr vb (l.take k) ∧ Below w.heap.size w wr
set_option maxHeartbeats 2000000 in
set_option maxRecDepth 100000 in
theorem hashes_any (l : List (List UInt8)) (sp : Option Addr) (n cap : Nat) (w : World) (hl : HsAt w (.slice sp n cap) l) (hn : n ≤ 1048576) :
    Calls Tryz.prog 64 #[.slice sp n cap] w fun e w' => ∃ v, e = .returned v ∧ HsOwn w.heap.size w' v l ∧ Below w.heap.size w w' := by
  obtain ⟨i0, hi, hz0, hz1, hz2⟩ := info_parts info_hash
  have HN := Lib.hid hl.len.1
  have HOK := Lib.hid hl.1
  have HL := Lib.hid hl
  clear hl
  go_enter Tryz.func64, Tryz.ntmps64
  go_wp2_with (at_make; refine wpList_make_own _ rfl _ _ 42 rfl w.heap.size 25 i0 (.agg (List.replicate 32 (bV 0)).toArray) 32 Tryz.underlying42 hi hz0 hz1 _ _ _ n rfl rfl rfl (by rw [hz2]; omega) (by unfold maxLen; omega) (Nat.le_refl _) ?_; intro w2 hown hgrow; have HO0 := Lib.hid hown; have HG0 := Lib.hid hgrow; clear hown hgrow; go_frame)
  have HB0 := Lib.hid ((Below.refl _ _).grown HG0.out (Nat.le_refl _) (fun k hk => by cases hk))
  have HST : Hid (HsOwn w.heap.size w2 (.slice (some ⟨w.heap.size, 0, none⟩) 0 n) (l.take 0)) := ⟨HO0.out, fun x hx => by simp at hx⟩
  clear HO0 HG0
  go_loopw [3, 4] (fun vs vi wr => hsInv l w vs vi wr) (fun _ vi _ => n - (intOf vi).toNat)
  case atStart => exact ⟨0, _, rfl, rfl, Nat.zero_le _, HST.out, HB0.out⟩
  case round =>
    clear HST HB0
    obtain ⟨k, vb, rfl, rfl, hk, ho, hb⟩ := hrel
    have HO := Lib.hid ho
    have B := Lib.hid hb
    clear ho hb
    by_cases hlt : k < n
    · obtain ⟨b, o, rfl, hbw, hg⟩ := (HL.out.below B.out).get (by omega)
      obtain ⟨x, hx⟩ : ∃ x, x = l.getD k [] := ⟨_, rfl⟩
      have HX := Lib.hid (hg k hlt)
      rw [← hx] at HX
      have lx : x.length = 32 := by rw [hx]; exact HOK.out.get (by have := HN.out; omega)
      have LXL := Lib.hid lx
      have LX : Hid ((x.map bV).length = 32) := by show _ = _; rw [List.length_map, lx]
      have ht : l.take (k + 1) = l.take k ++ [x] := by
        rw [List.take_succ_eq_append_getElem (by have := HN.out; omega), hx, List.getD_eq_getElem?_getD, List.getElem?_eq_getElem (by have := HN.out; omega)]
        rfl
      have HT := Lib.hid ht
      have HTL : Hid ((l.take k).length ≤ 1048576) := by show _ ≤ _; rw [List.length_take]; omega
      have p0 : 0 ≤ (k : Int) := by omega
      have q0 : (k : Int) < (n : Int) := by omega
      clear hg hx lx ht
      go_wp2_with (first | ((with_reducible show wpList _ _ _ _ _ _); first | (refine wpList_load_mid rfl 25 (.tmp 17) rfl b (o + k * 32) rfl (x.map bV) _ HX.out Tryz.underlying25 rfl (by rw [LX.out]; kernel_rfl) ?_; go_frame) | (refine wpList_slice_one rfl 42 25 (.tmp 18) rfl (x.map bV) rfl Tryz.underlying42 i0 _ hi hz0 (by rw [hz1, LX.out]) (by rw [LX.out]; omega) (by rw [LX.out]; omega) ?_; have nf := heap_alloc_new wr (.cells (x.map bV).toArray 25 (0, 0)); have bb := (Below.refl wr.heap.size wr).alloc (Nat.le_refl _) (.cells (x.map bV).toArray 25 (0, 0)); obtain ⟨gn, hgn⟩ : ∃ gn, gn = wr.heap.size := ⟨_, rfl⟩; generalize hw2 : World.alloc _ _ = w2; have e2 : wr.alloc (.cells (x.map bV).toArray 25 (0, 0)) = w2 := hw2; rw [e2] at nf bb; rw [← hgn] at nf ⊢; have NF := Lib.hid nf; have HO2 := Lib.hid (HO.out.keep bb); have B2 := Lib.hid (B.out.trans (bb.mono B.out.size)); clear nf bb hw2 e2 hgn; go_frame)) | (at_builtin; refine wpList_append_own_at _ rfl _ _ 42 rfl w.heap.size 25 i0 (.agg (List.replicate 32 (bV 0)).toArray) 32 32 Tryz.underlying42 hi hz0 hz1 hz2 (by kernel_rfl) (by decide) vb _ (hsL (l.take k)) rfl HO2.out.1 ⟨gn, 0, none⟩ 1 1 (x.map bV) rfl (by rw [LX.out]) (hs_one NF.out) (bV_one' _) (by have := HTL.out; unfold maxLen; omega) (by have := HTL.out; omega) B2.out.size ?_; intro v3 w3 q1 q2 _ q4; have HO3 := Lib.hid (HsOwn.push (base := w.heap.size) HO2.out.2 LXL.out q1); have B3 := Lib.hid (own_grown B2.out (Nat.le_refl _) B2.out.size HO2.out.1 q2); clear q1 q2 q4; go_frame))
      go_roundw
      case rel => exact ⟨k + 1, _, rfl, by go_num, by have := HN.out; omega, by rw [HT.out]; exact HO3.out, B3.out⟩
      case measure => simp [intOf]; omega
    · have HF : Hid (HsOwn w.heap.size wr vb l) := by
        have h := HO.out
        rw [List.take_of_length_le (by have := HN.out; omega)] at h
        exact h
      have hge : ¬ (k : Int) < (n : Int) := by omega
      clear HO
      go_wp2_with fail
      go_ret
      exact ⟨_, rfl, HF.out, B.out⟩
end Go.Proofs.YtbgagaaoldjhnaaGreatDoor.Sha

/-
  The calls on rows of digests, for any value that reads so. Nothing that was there turns. Conditions: as told; for package merkle's the table is there.
-/
namespace Go.Proofs.YtbgagaaoldjhnaaGreatDoor.Sha
open Go Go.RowKit
theorem HsOwn.base {b b' : Nat} {w : World} {v : Value} {l : List (List UInt8)} (h : HsOwn b w v l) (hb : b' ≤ b) : HsOwn b' w v l := ⟨own_base h.1 hb, h.2⟩
end Go.Proofs.YtbgagaaoldjhnaaGreatDoor.Sha
