/-
  Texts of this proof joined into one file: CtMath, GMap, OwnMap, CtAt, TxBuilds, TxSize, TxKeys, TxAdds. What each holds, and under which conditions, its own first sentence tells.
-/
import Derived.Lib.OwnKind
import Derived.Test.YtnhmjlljnckieaaDoorMg07
import Derived.Test.YtnhmjlljnckieaaDoorMg10
import Derived.Test.YtnhmjlljnckieaaDoorMg06
import Derived.Test.YtnhmjlljnckieaaDoorMg05
import Derived.Test.YtnhmjlljnckieaaDoorMg04
/-
  The tree of headers as a list of nodes: chains from the start up, ancestors by height, where two chains part; what the list keeps as it grows. No conditions.
-/
namespace Go.Proofs.YtnhmjlljnckieaaDoor.Sha
open Go Go.RowKit
/-- Each node's height is how many stand beneath it. -/
def Tall (L : List TNd) : Prop := ∀ (i : Nat) (x : TNd), L[i]? = some x → x.height + 1 = ((upL L (i : Int)).length : Int)
structure TrL (L : List TNd) : Prop where
  ok : ∀ x ∈ L, NdOk x
  down : Down L
  root : Rooted L
  tall : Tall L
  pos : 0 < L.length
  le : L.length ≤ 4096
  ids : L.Pairwise fun x y => x.id ≠ y.id
theorem parT_push {L : List TNd} {y : TNd} {k : Nat} (h : k < L.length) : parT (L ++ [y]) k = parT L k := by
  unfold parT
  rw [List.getElem?_append_left h]
theorem upF_push {L : List TNd} (hd : Down L) (y : TNd) : ∀ (f : Nat) (k : Int), k < (L.length : Int) → upF (L ++ [y]) f k = upF L f k
  | 0, _, _ => rfl
  | f + 1, k, h => by
    rw [upF, upF]
    by_cases h0 : k < 0
    · rw [if_pos h0, if_pos h0]
    · rw [if_neg h0, if_neg h0]
      have hk : k.toNat < L.length := by omega
      rw [parT_push hk]
      obtain ⟨x, hx⟩ : ∃ x, L[k.toNat]? = some x := ⟨_, List.getElem?_eq_getElem hk⟩
      have hp := hd _ _ hx
      have e : parT L k.toNat = x.parent := by unfold parT; rw [hx]
      rw [e, upF_push hd y f x.parent (by omega)]
theorem upL_push {L : List TNd} (hd : Down L) (y : TNd) {k : Int} (h : k < (L.length : Int)) : upL (L ++ [y]) k = upL L k := upF_push hd y _ k h
theorem getD_at {L : List TNd} {k : Nat} {x : TNd} (h : L[k]? = some x) : L.getD k ndZ = x := by rw [List.getD_eq_getElem?_getD, h]; rfl
theorem getD_int {L : List TNd} {k : Nat} {x : TNd} (h : L[k]? = some x) : L.getD (k : Int).toNat ndZ = x := getD_at (by simpa using h)
theorem TrL.parent {L : List TNd} (h : TrL L) {i : Nat} {x : TNd} (hx : L[i]? = some x) : (i = 0 ∧ x.parent = -1 ∧ x.height = 0) ∨ ∃ (p : Nat) (y : TNd), p < i ∧ x.parent = (p : Int) ∧ L[p]? = some y ∧ x.height = y.height + 1 := by
  have hp := h.down _ _ hx
  have ht := h.tall _ _ hx
  rw [upL_step h.down hx] at ht
  by_cases h0 : i = 0
  · refine Or.inl ⟨h0, by omega, ?_⟩
    rw [upL_neg (by omega)] at ht
    simp at ht
    omega
  · have hr := h.root _ _ hx (by omega)
    have hi : i < L.length := (List.getElem?_eq_some_iff.1 hx).1
    obtain ⟨p, e⟩ : ∃ p : Nat, x.parent = (p : Int) := ⟨x.parent.toNat, by omega⟩
    obtain ⟨y, hy⟩ : ∃ y, L[p]? = some y := ⟨_, List.getElem?_eq_getElem (by omega)⟩
    have hty := h.tall _ _ hy
    rw [e] at ht
    rw [List.length_cons] at ht
    exact Or.inr ⟨p, y, by omega, e, hy, by omega⟩
theorem TrL.height {L : List TNd} (h : TrL L) {i : Nat} {x : TNd} (hx : L[i]? = some x) : 0 ≤ x.height ∧ x.height ≤ (i : Int) := by
  have ht := h.tall _ _ hx
  have hi : i < L.length := (List.getElem?_eq_some_iff.1 hx).1
  have hb := upL_bound h.down i i (Nat.le_refl _) hi
  rw [upL_step h.down hx] at ht hb
  rw [List.length_cons] at ht hb
  omega
theorem stT_tr {h : THd} (hh : HdOk h) : TrL [stT h] := by
  have hd : Down [stT h] := fun i x hx => by
    cases i with
    | zero => cases hx; exact ⟨Int.le_refl _, by show (-1 : Int) < 0; omega⟩
    | succ i => cases hx
  have hw := hh.2.2.2.2.1
  refine ⟨fun x hx => ?_, hd, fun i x hx h0 => ?_, fun i x hx => ?_, Nat.le_refl _, by simp, List.pairwise_singleton _ _⟩
  · rcases List.mem_singleton.1 hx with rfl
    exact ⟨hdId_length h, hh, Int.le_refl _, by show (-1 : Int) ≤ 4096; omega, Int.le_refl _, by show (0 : Int) ≤ 4096; omega, by show h.work ≤ _; omega⟩
  · cases i with
    | zero => omega
    | succ i => cases hx
  · rw [upL_step hd hx]
    cases i with
    | zero => cases hx; rw [upL_neg (by show (-1 : Int) < 0; omega)]; rfl
    | succ i => cases hx
theorem TrL.push {L : List TNd} {hd : THd} (h : TrL L) (hh : HdOk hd) (ha : addE L hd = 0) : TrL (L ++ [nxT L hd]) := by
  unfold addE at ha
  split at ha
  · omega
  split at ha
  · omega
  split at ha
  · omega
  rename_i h1 h2 h3
  obtain ⟨n, x, hf, hx, -, -⟩ : ∃ (k : Nat) (x : TNd), findT L hd.prev = (k : Int) ∧ L[k]? = some x ∧ True ∧ True := by
    rcases findT_cases L hd.prev with ⟨e, _⟩ | ⟨k, x, e, hx, _⟩
    · omega
    · exact ⟨k, x, e, hx, trivial, trivial⟩
  have hn : n < L.length := (List.getElem?_eq_some_iff.1 hx).1
  have hno : ∀ y ∈ L, y.id ≠ hdId hd := by
    rcases findT_cases L (hdId hd) with ⟨_, e⟩ | ⟨k, x, e, _⟩
    · exact e
    · omega
  have eP : (nxT L hd).parent = (n : Int) := hf
  have eH : (nxT L hd).height = x.height + 1 := by unfold nxT; rw [hf]; simp only [getD_int hx]
  have hxh := h.height hx
  have hdn : Down (L ++ [nxT L hd]) := fun i y hy => by
    by_cases hi : i < L.length
    · rw [List.getElem?_append_left hi] at hy
      exact h.down _ _ hy
    · have e : i = L.length := by have := (List.getElem?_eq_some_iff.1 hy).1; simp at this; omega
      rw [e, List.getElem?_append_right (Nat.le_refl _), Nat.sub_self] at hy
      cases hy
      rw [eP]
      omega
  refine ⟨fun y hy => ?_, hdn, fun i y hy h0 => ?_, fun i y hy => ?_, by simp, by rw [List.length_append]; simp; omega, ?_⟩
  · rcases List.mem_append.1 hy with hy | hy
    · exact h.ok _ hy
    · rcases List.mem_singleton.1 hy with rfl
      refine ⟨hdId_length hd, hh, by rw [eP]; omega, by rw [eP]; omega, by rw [eH]; omega, by rw [eH]; omega, ?_⟩
      show (_ + _) % _ ≤ _
      omega
  · by_cases hi : i < L.length
    · rw [List.getElem?_append_left hi] at hy
      exact h.root _ _ hy h0
    · have e : i = L.length := by have := (List.getElem?_eq_some_iff.1 hy).1; simp at this; omega
      rw [e, List.getElem?_append_right (Nat.le_refl _), Nat.sub_self] at hy
      cases hy
      rw [eP]
      omega
  · by_cases hi : i < L.length
    · rw [List.getElem?_append_left hi] at hy
      rw [upL_push h.down _ (by omega)]
      exact h.tall _ _ hy
    · have e : i = L.length := by have := (List.getElem?_eq_some_iff.1 hy).1; simp at this; omega
      rw [upL_step hdn hy, List.length_cons]
      rw [e, List.getElem?_append_right (Nat.le_refl _), Nat.sub_self] at hy
      cases hy
      rw [eP, eH, upL_push h.down _ (by omega)]
      have := h.tall _ _ hx
      omega
  · rw [List.pairwise_append]
    exact ⟨h.ids, List.pairwise_singleton _ _, fun a ha b hb => by rcases List.mem_singleton.1 hb with rfl; exact hno a ha⟩
/-- The chain from the start up to a node. -/
def chainT (L : List TNd) (k : Int) : List Int := (upL L k).reverse
theorem chain_neg {L : List TNd} {k : Int} (h : k < 0) : chainT L k = [] := by unfold chainT; rw [upL_neg h]; rfl
theorem chain_step {L : List TNd} (hd : Down L) {k : Nat} {x : TNd} (hx : L[k]? = some x) : chainT L (k : Int) = chainT L x.parent ++ [(k : Int)] := by
  unfold chainT
  rw [upL_step hd hx, List.reverse_cons]
theorem chain_length {L : List TNd} (h : TrL L) {k : Nat} {x : TNd} (hx : L[k]? = some x) : ((chainT L (k : Int)).length : Int) = x.height + 1 := by
  unfold chainT
  rw [List.length_reverse]
  exact (h.tall _ _ hx).symm
theorem chain_par {L : List TNd} (h : TrL L) {k : Nat} {x : TNd} (hx : L[k]? = some x) : ((chainT L x.parent).length : Int) = x.height := by
  have := chain_length h hx
  rw [chain_step h.down hx, List.length_append, List.length_singleton] at this
  omega
/-- The one of a height on the way down. -/
def ancT (L : List TNd) (k h : Int) : Option Int := if h < 0 then none else (chainT L k)[h.toNat]?
theorem anc_neg {L : List TNd} {k h : Int} (hk : k < 0) : ancT L k h = none := by
  unfold ancT
  rw [chain_neg hk]
  split <;> rfl
theorem anc_self {L : List TNd} (h : TrL L) {k : Nat} {x : TNd} (hx : L[k]? = some x) : ancT L (k : Int) x.height = some (k : Int) := by
  unfold ancT
  have h0 := h.height hx
  rw [if_neg (by omega), chain_step h.down hx]
  have := chain_par h hx
  rw [List.getElem?_append_right (by omega), show x.height.toNat - (chainT L x.parent).length = 0 by omega]
  rfl
theorem anc_step {L : List TNd} (h : TrL L) {k : Nat} {x : TNd} (hx : L[k]? = some x) {t : Int} (ht : t ≠ x.height) : ancT L (k : Int) t = ancT L x.parent t := by
  unfold ancT
  split
  · rfl
  have := chain_par h hx
  rw [chain_step h.down hx]
  by_cases hl : t < x.height
  · rw [List.getElem?_append_left (by omega)]
  · rw [List.getElem?_append_right (by omega), List.getElem?_eq_none (l := [(k : Int)]) (by simp; omega), List.getElem?_eq_none (by omega)]
theorem anc_none {L : List TNd} (h : TrL L) {k : Nat} {x : TNd} (hx : L[k]? = some x) {t : Int} (ht : t < 0 ∨ x.height < t) : ancT L (k : Int) t = none := by
  unfold ancT
  split
  · rfl
  have := chain_length h hx
  rw [List.getElem?_eq_none (by omega)]
theorem anc_is {L : List TNd} (h : TrL L) : ∀ (n k : Nat) (x : TNd) (t : Int), k ≤ n → L[k]? = some x → 0 ≤ t → t ≤ x.height → ∃ (j : Nat) (y : TNd), ancT L (k : Int) t = some (j : Int) ∧ j ≤ k ∧ L[j]? = some y ∧ y.height = t
  | n, k, x, t, hk, hx, h0, h1 => by
    by_cases e : t = x.height
    · exact ⟨k, x, by rw [e]; exact anc_self h hx, Nat.le_refl _, hx, e.symm⟩
    · rw [anc_step h hx e]
      rcases h.parent hx with ⟨_, _, h3⟩ | ⟨p, y, h2, h3, h4, h5⟩
      · omega
      · cases n with
        | zero => omega
        | succ n =>
          obtain ⟨j, z, q1, q2, q3, q4⟩ := anc_is h n p y t (by omega) h4 h0 (by omega)
          exact ⟨j, z, by rw [h3]; exact q1, by omega, q3, q4⟩
/-- Up to an ancestor a chain is that ancestor's. -/
theorem anc_chain {L : List TNd} (h : TrL L) : ∀ (n k : Nat) (x : TNd) (j t : Nat), k ≤ n → L[k]? = some x → (chainT L (k : Int))[t]? = some (j : Int) → (chainT L (k : Int)).take (t + 1) = chainT L (j : Int)
  | n, k, x, j, t, hk, hx, ha => by
    have hl := chain_par h hx
    have hc := chain_step h.down hx
    rw [hc] at ha ⊢
    by_cases e : t < (chainT L x.parent).length
    · rw [List.getElem?_append_left e] at ha
      rw [List.take_append_of_le_length (by omega)]
      rcases h.parent hx with ⟨_, h2, _⟩ | ⟨p, y, h2, h3, h4, h5⟩
      · rw [chain_neg (by omega)] at e
        simp at e
      · rw [h3] at ha ⊢
        cases n with
        | zero => omega
        | succ n => exact anc_chain h n p y j t (by omega) h4 ha
    · have e2 : t = (chainT L x.parent).length := by
        have := (List.getElem?_eq_some_iff.1 ha).1
        simp at this
        omega
      rw [e2, List.getElem?_append_right (Nat.le_refl _), Nat.sub_self] at ha
      have e3 : (k : Int) = (j : Int) := by simpa using ha
      rw [← e3, hc, List.take_of_length_le (by simp; omega)]
theorem com_chain {L : List TNd} (h : TrL L) {a b j t : Nat} {x y : TNd} (hx : L[a]? = some x) (hy : L[b]? = some y) (h1 : (chainT L (a : Int))[t]? = some (j : Int)) (h2 : (chainT L (b : Int))[t]? = some (j : Int)) (hne : ∀ s : Nat, t < s → s < (chainT L (a : Int)).length → s < (chainT L (b : Int)).length → (chainT L (a : Int))[s]? ≠ (chainT L (b : Int))[s]?) : comT L (a : Int) (b : Int) = t + 1 := by
  have q1 := anc_chain h a a x j t (Nat.le_refl _) hx h1
  have q2 := anc_chain h b b y j t (Nat.le_refl _) hy h2
  have l1 := (List.getElem?_eq_some_iff.1 h1).1
  have l2 := (List.getElem?_eq_some_iff.1 h2).1
  refine comP_at _ _ (t + 1) l1 l2 (fun i hi => ?_) ?_
  · have e : ((chainT L (a : Int)).take (t + 1))[i]? = ((chainT L (b : Int)).take (t + 1))[i]? := by rw [q1, q2]
    rw [List.getElem?_take_of_lt hi, List.getElem?_take_of_lt hi] at e
    exact e
  · by_cases e1 : t + 1 = (chainT L (a : Int)).length
    · exact Or.inl e1
    by_cases e2 : t + 1 = (chainT L (b : Int)).length
    · exact Or.inr (Or.inl e2)
    · exact Or.inr (Or.inr (hne (t + 1) (by omega) (by omega) (by omega)))
theorem chain_zero {L : List TNd} (h : TrL L) {k : Nat} {x : TNd} (hx : L[k]? = some x) : (chainT L (k : Int))[0]? = some 0 := by
  have := upL_last h.down h.root k k (Nat.le_refl _) (List.getElem?_eq_some_iff.1 hx).1
  unfold chainT
  rw [← List.head?_eq_getElem?, List.head?_reverse]
  exact this
theorem up_chain {L : List TNd} {k : Int} {p : Nat} (h : p < (chainT L k).length) : (upL L k)[p]? = (chainT L k)[(chainT L k).length - 1 - p]? := by
  unfold chainT at h ⊢
  rw [List.length_reverse] at h ⊢
  rw [List.getElem?_reverse (by omega)]
  congr 1
  omega
/-- Who hangs on a node, in order. -/
def kidsI (L : List TNd) (i : Nat) : List Nat := (List.range L.length).filter fun j => decide (parT L j = (i : Int))
theorem kidsI_push {L : List TNd} {y : TNd} {i : Nat} : kidsI (L ++ [y]) i = kidsI L i ++ (if y.parent = (i : Int) then [L.length] else []) := by
  unfold kidsI
  have e : parT (L ++ [y]) L.length = y.parent := by unfold parT; rw [List.getElem?_append_right (Nat.le_refl _), Nat.sub_self]; rfl
  rw [List.length_append, List.length_singleton, List.range_succ, List.filter_append]
  congr 1
  · refine List.filter_congr fun j hj => ?_
    rw [parT_push (List.mem_range.1 hj)]
  · by_cases h : y.parent = (i : Int)
    · rw [if_pos h]; simp [List.filter_cons, e, h]
    · rw [if_neg h]; simp [List.filter_cons, e, h]
theorem kidsI_lt {L : List TNd} {i j : Nat} (h : j ∈ kidsI L i) : j < L.length := List.mem_range.1 (List.mem_filter.1 h).1
theorem kidsI_par {L : List TNd} {i j : Nat} (h : j ∈ kidsI L i) : parT L j = (i : Int) := by simpa using (List.mem_filter.1 h).2
theorem kidsI_last {L : List TNd} (hd : Down L) {y : TNd} (hn : y.parent < (L.length : Int)) : kidsI (L ++ [y]) L.length = [] := by
  rw [kidsI_push, if_neg (by omega), List.append_nil]
  unfold kidsI
  rw [List.filter_eq_nil_iff]
  intro j hj
  have hj := List.mem_range.1 hj
  obtain ⟨x, hx⟩ : ∃ x, L[j]? = some x := ⟨_, List.getElem?_eq_getElem hj⟩
  have := hd _ _ hx
  unfold parT
  rw [hx]
  simp
  omega
end Go.Proofs.YtnhmjlljnckieaaDoor.Sha

/-
  A map of any keys and values: what is found, put (a new key, or one that is there), taken away, counted; places of coins, and digests, as keys. Conditions: the keys are as the model has them.
-/
namespace Go.Proofs.YtnhmjlljnckieaaDoor.Sha
open Go Go.RowKit Go.MapKept
open Go.ChangeMaps (setBlock heap_setBlock_same heap_setBlock_other)
/-- What a map's types have to give: keys a of α as values kf a, values b of β as vf b; z: the zero value. -/
structure MTy (α β : Type) (kT vT mT : TypeId) (kf : α → Value) (vf : β → Value) (ok : α → Prop) (z : β) : Prop where
  law : WideMaps.KeyLaw Tryd.prog kT
  und : Tryd.prog.underlying mT = some (.map kT vT)
  key : ∀ a, ok a → ∃ l, keyOf Tryd.prog kT (kf a) = some l
  inj : ∀ a b, kf a = kf b → a = b
  zero : ∀ w, (zeroValue vT).run Tryd.prog w = .ok (vf z) w
/-- Block b is a map of these entries. -/
def MpAt {α β : Type} (kf : α → Value) (vf : β → Value) (ok : α → Prop) (w : World) (b : Nat) (l : List (α × β)) : Prop :=
  ∃ es clock, w.heap[b]? = some (.map es clock) ∧ Stamped es clock ∧ es.toList.map kvE = l.map (fun x => (kf x.1, vf x.2)) ∧ ∀ x ∈ l, ok x.1
section
variable {α β : Type} [DecidableEq α]
def getG (l : List (α × β)) (a : α) : Option β := (l.find? (fun x => decide (x.1 = a))).map (·.2)
def delG (l : List (α × β)) (a : α) : List (α × β) := l.filter (fun x => !decide (x.1 = a))
def putG (l : List (α × β)) (a : α) (b : β) : List (α × β) := if (getG l a).isSome then l.map (fun x => if x.1 = a then (a, b) else x) else l ++ [(a, b)]
theorem getG_none {l : List (α × β)} {a : α} (h : ∀ x ∈ l, x.1 ≠ a) : getG l a = none := by
  unfold getG
  rw [List.find?_eq_none.2 (fun x hx => by simpa using h x hx)]
  rfl
theorem getG_ne {l : List (α × β)} {a : α} (h : getG l a = none) : ∀ x ∈ l, x.1 ≠ a := by
  unfold getG at h
  rw [Option.map_eq_none_iff, List.find?_eq_none] at h
  exact fun x hx e => h x hx (by simpa using e)
theorem getG_mem {l : List (α × β)} {a : α} {b : β} (h : getG l a = some b) : (a, b) ∈ l := by
  unfold getG at h
  obtain ⟨x, hx, rfl⟩ := Option.map_eq_some_iff.1 h
  have h1 := List.find?_some hx
  have h2 := List.mem_of_find?_eq_some hx
  have e : x.1 = a := by simpa using h1
  rw [← e]
  exact h2
theorem getG_some : ∀ {l : List (α × β)} {a : α} {j : Nat} {x : α × β}, l.Pairwise (fun x y => x.1 ≠ y.1) → l[j]? = some x → x.1 = a → getG l a = some x.2
  | y :: l, p, 0, x, _, hj, hp => by
    simp only [List.getElem?_cons_zero, Option.some.injEq] at hj
    subst hj
    simp [getG, hp]
  | y :: l, p, j + 1, x, ha, hj, hp => by
    obtain ⟨h1, h2⟩ := List.pairwise_cons.1 ha
    have hj' : l[j]? = some x := by simpa using hj
    have hne : ¬ y.1 = p := fun e => h1 x (List.mem_of_getElem? hj') (by rw [e, hp])
    have := getG_some h2 hj' hp
    unfold getG at this ⊢
    rw [List.find?_cons_of_neg (by simpa using hne)]
    exact this
  | [], _, _, _, _, hj, _ => by simp at hj
theorem delG_idx : ∀ {l : List (α × β)} {a : α} {j : Nat} {x : α × β}, l.Pairwise (fun x y => x.1 ≠ y.1) → l[j]? = some x → x.1 = a → l.eraseIdx j = delG l a
  | y :: l, p, 0, x, ha, hj, hp => by
    simp only [List.getElem?_cons_zero, Option.some.injEq] at hj
    subst hj
    obtain ⟨h1, h2⟩ := List.pairwise_cons.1 ha
    have : delG l p = l := List.filter_eq_self.2 (fun z hz => by simpa using fun e => h1 z hz (by rw [hp, e]))
    show l = (y :: l).filter _
    rw [List.filter_cons_of_neg (by simpa using hp)]
    exact this.symm
  | y :: l, p, j + 1, x, ha, hj, hp => by
    obtain ⟨h1, h2⟩ := List.pairwise_cons.1 ha
    have hj' : l[j]? = some x := by simpa using hj
    have hne : ¬ y.1 = p := fun e => h1 x (List.mem_of_getElem? hj') (by rw [e, hp])
    have := delG_idx h2 hj' hp
    unfold delG at this ⊢
    rw [List.eraseIdx_cons_succ, this, List.filter_cons_of_pos (by simpa using hne)]
  | [], _, _, _, _, hj, _ => by simp at hj
theorem delG_none {l : List (α × β)} {a : α} (h : getG l a = none) : delG l a = l := List.filter_eq_self.2 (fun x hx => by simpa using getG_ne h x hx)
theorem getG_nil (a : α) : getG ([] : List (α × β)) a = none := rfl
theorem getG_push {l : List (α × β)} {a q : α} {b : β} (h : getG l a = none) : getG (l ++ [(a, b)]) q = if q = a then some b else getG l q := by
  unfold getG
  rw [List.find?_append]
  by_cases hq : q = a
  · subst hq
    have := List.find?_eq_none.2 (fun x hx => by simpa using getG_ne h x hx : ∀ x ∈ l, ¬ (decide (x.1 = q)) = true)
    rw [this]
    simp
  · rw [if_neg hq]
    have : List.find? (fun x => decide (x.1 = q)) [(a, b)] = none := by
      rw [List.find?_eq_none]
      intro x hx
      rw [List.mem_singleton.1 hx]
      simpa using fun e => hq (Eq.symm e)
    rw [this, Option.or_none]
theorem getG_del {l : List (α × β)} {a q : α} : getG (delG l a) q = if q = a then none else getG l q := by
  by_cases hq : q = a
  · subst hq
    rw [if_pos rfl]
    refine getG_none fun x hx => ?_
    have := (List.mem_filter.1 hx).2
    simpa using this
  · rw [if_neg hq]
    unfold getG delG
    rw [List.find?_filter]
    congr 1
    congr 1
    funext x
    by_cases hx : x.1 = q
    · simp [hx, hq]
    · simp [hx]
theorem getG_putmap {l : List (α × β)} {a q : α} {b : β} : getG (l.map (fun x => if x.1 = a then (a, b) else x)) q = if q = a then (getG l a).map (fun _ => b) else getG l q := by
  induction l with
  | nil => simp [getG]
  | cons y l ih =>
    unfold getG at ih ⊢
    rw [List.map_cons]
    by_cases hy : y.1 = a
    · rw [if_pos hy]
      by_cases hq : q = a
      · subst hq
        simp [hy]
      · rw [if_neg hq] at ih ⊢
        rw [List.find?_cons_of_neg (by simpa using fun e => hq (Eq.symm e)), List.find?_cons_of_neg (by simpa [hy] using fun e => hq (Eq.symm e)), ih]
    · rw [if_neg hy]
      by_cases hq : q = a
      · subst hq
        rw [if_pos rfl] at ih ⊢
        rw [List.find?_cons_of_neg (by simpa using hy), List.find?_cons_of_neg (by simpa using hy), ih]
      · rw [if_neg hq] at ih ⊢
        by_cases hyq : y.1 = q
        · simp [hyq]
        · rw [List.find?_cons_of_neg (by simpa using hyq), List.find?_cons_of_neg (by simpa using hyq), ih]
theorem getG_put {l : List (α × β)} {a q : α} {b : β} : getG (putG l a b) q = if q = a then some b else getG l q := by
  unfold putG
  cases h : getG l a with
  | none => simpa using getG_push h
  | some c => simp [getG_putmap, h]
variable {kT vT mT : TypeId} {kf : α → Value} {vf : β → Value} {ok : α → Prop} {z : β} {w : World} {b : Nat} {l : List (α × β)}
omit [DecidableEq α] in
theorem gm_get {es : Array MapEntry} (h : es.toList.map kvE = l.map (fun x => (kf x.1, vf x.2))) {j : Nat} {e : MapEntry} (hj : es.toList[j]? = some e) : ∃ x, l[j]? = some x ∧ e.key = kf x.1 ∧ e.val = vf x.2 := by
  have h1 := congrArg (·[j]?) h
  simp only [List.getElem?_map, hj, Option.map_some] at h1
  cases hx : l[j]? with
  | none => simp [hx] at h1
  | some x =>
    rw [hx, Option.map_some, Option.some.injEq, kvE, Prod.mk.injEq] at h1
    exact ⟨x, rfl, h1.1, h1.2⟩
omit [DecidableEq α] in
theorem gm_mem {es : Array MapEntry} (h : es.toList.map kvE = l.map (fun x => (kf x.1, vf x.2))) {e : MapEntry} (he : e ∈ es.toList) : ∃ x ∈ l, e.key = kf x.1 ∧ e.val = vf x.2 := by
  obtain ⟨j, hj⟩ := List.getElem?_of_mem he
  obtain ⟨x, hx, h1⟩ := gm_get h hj
  exact ⟨x, List.mem_of_getElem? hx, h1⟩
omit [DecidableEq α] in
theorem gm_mem' {es : Array MapEntry} (h : es.toList.map kvE = l.map (fun x => (kf x.1, vf x.2))) {x : α × β} (hx : x ∈ l) : ∃ e ∈ es.toList, e.key = kf x.1 ∧ e.val = vf x.2 := by
  have h1 : (kf x.1, vf x.2) ∈ es.toList.map kvE := by rw [h]; exact List.mem_map.2 ⟨x, hx, rfl⟩
  obtain ⟨e, he, h2⟩ := List.mem_map.1 h1
  rw [kvE, Prod.mk.injEq] at h2
  exact ⟨e, he, h2.1, h2.2⟩
omit [DecidableEq α] in
/-- No key has two values. -/
theorem MpAt.apart (h : MpAt kf vf ok w b l) : l.Pairwise (fun x y => x.1 ≠ y.1) := by
  obtain ⟨es, clock, _, hs, he, _⟩ := h
  have h1 := ((stamped_iff es clock).1 hs).2.2
  have h2 : (es.toList.map kvE).Pairwise (fun p q => p.1 ≠ q.1) := by
    rw [List.pairwise_map]
    exact h1
  rw [he, List.pairwise_map] at h2
  exact h2.imp (fun {x y} hne e => hne (by show kf _ = kf _; rw [e]))
omit [DecidableEq α] in
theorem MpAt.oks (h : MpAt kf vf ok w b l) : ∀ x ∈ l, ok x.1 := by
  obtain ⟨_, _, _, _, _, ho⟩ := h
  exact ho
omit [DecidableEq α] in
theorem MpAt.lt (h : MpAt kf vf ok w b l) : b < w.heap.size := by
  obtain ⟨_, _, hb, _⟩ := h
  exact (Array.getElem?_eq_some_iff.1 hb).1
omit [DecidableEq α] in
theorem MpAt.kps {F : Nat → Prop} {w' : World} (h : MpAt kf vf ok w b l) (hk : Kps F w w') (hf : F b) : MpAt kf vf ok w' b l := by
  obtain ⟨es, clock, hb, h2⟩ := h
  exact ⟨es, clock, row_kps hb hk hf, h2⟩
omit [DecidableEq α] in
theorem MpAt.below {w' : World} (h : MpAt kf vf ok w b l) (hb : Below w.heap.size w w') : MpAt kf vf ok w' b l := by
  obtain ⟨es, clock, h1, h2⟩ := h
  exact ⟨es, clock, row_below h1 hb, h2⟩
omit [DecidableEq α] in
/-- A map's block is no block of cells. -/
theorem MpAt.ne (h : MpAt kf vf ok w b l) {x : Nat} {cs : Array Value} {T : TypeId} {fr : Nat × Nat} (hx : w.heap[x]? = some (.cells cs T fr)) : x ≠ b := by
  rintro rfl
  obtain ⟨es, clock, h1, _⟩ := h
  rw [h1] at hx
  cases hx
omit [DecidableEq α] in
theorem gm_find (M : MTy α β kT vT mT kf vf ok z) {es : Array MapEntry} (he : es.toList.map kvE = l.map (fun x => (kf x.1, vf x.2))) (ho : ∀ x ∈ l, ok x.1) (a : α) (ha : ok a) (W : World) :
    ((Instr.findKey kT (kf a) es.toList).run Tryd.prog W = .ok none W ∧ ∀ x ∈ l, x.1 ≠ a) ∨
    ∃ j x, (Instr.findKey kT (kf a) es.toList).run Tryd.prog W = .ok (some (j, vf x.2)) W ∧ l[j]? = some x ∧ x.1 = a := by
  obtain ⟨lx, hlx⟩ := M.key a ha
  rcases M.law.find W hlx es.toList (fun e hem => by
    obtain ⟨x, hx, hk, _⟩ := gm_mem he hem
    rw [hk]
    exact M.key _ (ho x hx)) with ⟨h1, h2⟩ | ⟨j, e, h1, h2, h3⟩
  · refine .inl ⟨h1, fun x hx e => ?_⟩
    obtain ⟨en, hen, hk, _⟩ := gm_mem' he hx
    exact h2 en hen (by rw [hk, e])
  · obtain ⟨x, hx, hk, hv⟩ := gm_get he h2
    exact .inr ⟨j, x, by rw [h1, hv], hx, M.inj _ _ (by rw [← hk, h3])⟩
omit [DecidableEq α] in
theorem gm_check (M : MTy α β kT vT mT kf vf ok z) (em : Bool) (a : α) (ha : ok a) (W : World) : (Instr.checkKey em 10000 kT (kf a)).run Tryd.prog W = .ok () W := by
  obtain ⟨lx, hlx⟩ := M.key a ha
  exact M.law.check W em hlx
/-- 'v, ok := m[a]'. -/
theorem gm_look (M : MTy α β kT vT mT kf vf ok z) (h : MpAt kf vf ok w b l) (a : α) (ha : ok a) :
    (Instr.lookup mT (.map (some b)) (kf a) true).run Tryd.prog w = .ok (.tuple #[vf ((getG l a).getD z), .bool (getG l a).isSome]) w := by
  have hap := MpAt.apart h
  obtain ⟨es, clock, hb, hs, he, ho⟩ := h
  rcases gm_find M he ho a ha w with ⟨h1, h2⟩ | ⟨j, x, h1, h2, h3⟩
  · rw [getG_none h2]
    simp [Instr.lookup, run_underlying M.und, MapKept.run_getObj_map hb, gm_check M _ a ha, h1, M.zero, Result.andThen]
  · rw [getG_some hap h2 h3]
    simp [Instr.lookup, run_underlying M.und, MapKept.run_getObj_map hb, gm_check M _ a ha, h1, Result.andThen]
/-- 'v := m[a]'. -/
theorem gm_look1 (M : MTy α β kT vT mT kf vf ok z) (h : MpAt kf vf ok w b l) (a : α) (ha : ok a) :
    (Instr.lookup mT (.map (some b)) (kf a) false).run Tryd.prog w = .ok (vf ((getG l a).getD z)) w := by
  have hap := MpAt.apart h
  obtain ⟨es, clock, hb, hs, he, ho⟩ := h
  rcases gm_find M he ho a ha w with ⟨h1, h2⟩ | ⟨j, x, h1, h2, h3⟩
  · rw [getG_none h2]
    simp [Instr.lookup, run_underlying M.und, MapKept.run_getObj_map hb, gm_check M _ a ha, h1, M.zero, Result.andThen]
  · rw [getG_some hap h2 h3]
    simp [Instr.lookup, run_underlying M.und, MapKept.run_getObj_map hb, gm_check M _ a ha, h1, Result.andThen]
/-- 'm[a] = c' at a key that is not there. -/
theorem gm_push (M : MTy α β kT vT mT kf vf ok z) (h : MpAt kf vf ok w b l) (a : α) (ha : ok a) (c : β) (hn : getG l a = none) :
    ∃ w', (Instr.mapUpdate mT (.map (some b)) (kf a) (vf c)).run Tryd.prog w = .ok () w' ∧ MpAt kf vf ok w' b (l ++ [(a, c)]) ∧ w.grownBy w' (some b) := by
  obtain ⟨es, clock, hb, hs, he, ho⟩ := h
  rcases gm_find M he ho a ha w with ⟨h1, h2⟩ | ⟨j, x, _, h2, h3⟩
  · refine ⟨setBlock w b (.map (es.push { key := kf a, val := vf c, born := clock }) (clock + 1)), ?_, ⟨_, _, heap_setBlock_same hb _, stamped_push hs (fun e hem => ?_), ?_, fun x hx => ?_⟩, ⟨rfl, rfl, rfl, by simp [setBlock], fun i _ hi => heap_setBlock_other hb _ (fun e => hi (by rw [e]))⟩⟩
    · simp [Instr.mapUpdate, run_underlying M.und, MapKept.run_getObj_map hb, gm_check M _ a ha, h1, MapKept.run_setObj_map _ hb, Result.andThen, setBlock]
    · obtain ⟨x, hx, hk, _⟩ := gm_mem he hem
      rw [hk]
      exact fun e => h2 x hx (M.inj _ _ e)
    · rw [Array.toList_push, List.map_append, List.map_append, he]
      rfl
    · rcases List.mem_append.1 hx with hx | hx
      · exact ho x hx
      · rw [List.mem_singleton.1 hx]
        exact ha
  · exact absurd h3 (getG_ne hn x (List.mem_of_getElem? h2))
theorem putmap_idx : ∀ {l : List (α × β)} {a : α} {j : Nat} {x : α × β} (c : β), l.Pairwise (fun x y => x.1 ≠ y.1) → l[j]? = some x → x.1 = a → l.modify j (fun _ => (a, c)) = l.map (fun x => if x.1 = a then (a, c) else x)
  | y :: l, p, 0, x, c, ha, hj, hp => by
    simp only [List.getElem?_cons_zero, Option.some.injEq] at hj
    subst hj
    obtain ⟨h1, h2⟩ := List.pairwise_cons.1 ha
    have : l.map (fun x => if x.1 = p then (p, c) else x) = l := by
      conv => rhs; rw [← List.map_id l]
      exact List.map_congr_left fun z hz => if_neg fun e => h1 z hz (by rw [hp, e])
    rw [List.map_cons, this, if_pos hp]
    rfl
  | y :: l, p, j + 1, x, c, ha, hj, hp => by
    obtain ⟨h1, h2⟩ := List.pairwise_cons.1 ha
    have hj' : l[j]? = some x := by simpa using hj
    have hne : ¬ y.1 = p := fun e => h1 x (List.mem_of_getElem? hj') (by rw [e, hp])
    have := putmap_idx c h2 hj' hp
    rw [List.map_cons, if_neg hne, ← this]
    rfl
  | [], _, _, _, _, _, hj, _ => by simp at hj
/-- 'm[a] = c', at whatever key. -/
theorem gm_put (M : MTy α β kT vT mT kf vf ok z) (h : MpAt kf vf ok w b l) (a : α) (ha : ok a) (c : β) :
    ∃ w', (Instr.mapUpdate mT (.map (some b)) (kf a) (vf c)).run Tryd.prog w = .ok () w' ∧ MpAt kf vf ok w' b (putG l a c) ∧ w.grownBy w' (some b) := by
  cases hg : getG l a with
  | none =>
    have := gm_push M h a ha c hg
    unfold putG
    rw [hg]
    exact this
  | some c0 =>
    have e : putG l a c = l.map (fun x => if x.1 = a then (a, c) else x) := by unfold putG; rw [hg]; rfl
    rw [e]
    have hap := MpAt.apart h
    obtain ⟨es, clock, hb, hs, he, ho⟩ := h
    rcases gm_find M he ho a ha w with ⟨_, h2⟩ | ⟨j, x, h1, h2, h3⟩
    · rw [getG_none h2] at hg
      cases hg
    · obtain ⟨en, hen, hk⟩ : ∃ en, es[j]? = some en ∧ en.key = kf a := by
        have h4 := congrArg (·[j]?) he
        simp only [List.getElem?_map, h2, Option.map_some] at h4
        cases hx : es.toList[j]? with
        | none => simp [hx] at h4
        | some en =>
          rw [hx, Option.map_some, Option.some.injEq, kvE, Prod.mk.injEq] at h4
          exact ⟨en, by rw [← Array.getElem?_toList]; exact hx, by rw [h4.1, h3]⟩
      obtain ⟨lx, hlx⟩ := M.key a ha
      refine ⟨setBlock w b (.map (es.modify j fun e => { e with key := kf a, val := vf c }) clock), ?_, ⟨_, _, heap_setBlock_same hb _, stamped_modify hs j _ (fun _ _ => rfl) (fun e _ hej => ?_), ?_, fun x hx => ?_⟩, ⟨rfl, rfl, rfl, by simp [setBlock], fun i _ hi => heap_setBlock_other hb _ (fun e => hi (by rw [e]))⟩⟩
      · simp [Instr.mapUpdate, run_underlying M.und, MapKept.run_getObj_map hb, gm_check M _ a ha, h1, hen, hk, M.law.stays w hlx, MapKept.run_setObj_map _ hb, Result.andThen, setBlock]
      · rw [hen, Option.some.injEq] at hej
        rw [← hej]
        exact hk.symm
      · rw [Array.toList_modify, ← putmap_idx c hap h2 h3]
        have h5 : ∀ (L : List MapEntry) (M : List (α × β)) (i : Nat), L.map kvE = M.map (fun x => (kf x.1, vf x.2)) → (L.modify i fun e => { e with key := kf a, val := vf c }).map kvE = (M.modify i fun _ => (a, c)).map (fun x => (kf x.1, vf x.2)) := by
          intro L
          induction L with
          | nil =>
            intro M i hM
            rw [List.map_nil, eq_comm, List.map_eq_nil_iff] at hM
            subst hM
            simp
          | cons y L ih =>
            intro M i hM
            cases M with
            | nil => simp at hM
            | cons m M =>
              rw [List.map_cons, List.map_cons, List.cons.injEq] at hM
              cases i with
              | zero =>
                show kvE { y with key := kf a, val := vf c } :: L.map kvE = (kf a, vf c) :: M.map _
                rw [hM.2]
                rfl
              | succ i =>
                show kvE y :: (L.modify i _).map kvE = (kf m.1, vf m.2) :: (M.modify i _).map _
                rw [ih M i hM.2, hM.1]
        exact h5 _ _ _ he
      · obtain ⟨y, hy, rfl⟩ := List.mem_map.1 hx
        by_cases hya : y.1 = a
        · rw [if_pos hya]
          exact ha
        · rw [if_neg hya]
          exact ho y hy
/-- 'delete(m, a)'. -/
theorem gm_del (M : MTy α β kT vT mT kf vf ok z) (h : MpAt kf vf ok w b l) (a : α) (ha : ok a) (ty : TypeId) :
    ∃ w', (Builtin.delete_ #[mT, kT] ty #[.map (some b), kf a]).run Tryd.prog w = .ok (.tuple #[]) w' ∧ MpAt kf vf ok w' b (delG l a) ∧ w.grownBy w' (some b) := by
  have hap := MpAt.apart h
  obtain ⟨es, clock, hb, hs, he, ho⟩ := h
  have hg : ∀ o, w.grownBy (setBlock w b o) (some b) := fun o => ⟨rfl, rfl, rfl, by simp [setBlock], fun i _ hi => heap_setBlock_other hb _ (fun e => hi (by rw [e]))⟩
  rcases gm_find M he ho a ha w with ⟨h1, h2⟩ | ⟨j, x, h1, h2, h3⟩
  · refine ⟨setBlock w b (.map es clock), ?_, ⟨_, _, heap_setBlock_same hb _, hs, ?_, fun x hx => ho x (List.mem_filter.1 hx).1⟩, hg _⟩
    · simp [Builtin.delete_, run_underlying M.und, MapKept.run_getObj_map hb, gm_check M _ a ha, h1, MapKept.run_setObj_map _ hb, Result.andThen, setBlock]
    · rw [he, delG, List.filter_eq_self.2 (fun x hx => by simpa using h2 x hx)]
  · have hjl : j < es.size := by
      have h4 := congrArg List.length he
      have h5 := (List.getElem?_eq_some_iff.1 h2).1
      simp at h4
      omega
    have hsub : (es.eraseIdxIfInBounds j).toList = es.toList.eraseIdx j := by
      unfold Array.eraseIdxIfInBounds
      rw [dif_pos hjl]
      simp
    refine ⟨setBlock w b (.map (es.eraseIdxIfInBounds j) clock), ?_, ⟨_, _, heap_setBlock_same hb _, stamped_erase hs j, ?_, fun x hx => ho x (List.mem_filter.1 hx).1⟩, hg _⟩
    · simp [Builtin.delete_, run_underlying M.und, MapKept.run_getObj_map hb, gm_check M _ a ha, h1, MapKept.run_setObj_map _ hb, Result.andThen, setBlock]
    · rw [hsub, ← delG_idx hap h2 h3, Go.ChangeMaps.map_eraseIdx, Go.ChangeMaps.map_eraseIdx, he]
omit [DecidableEq α] in
/-- 'len(m)'. -/
theorem gm_len (M : MTy α β kT vT mT kf vf ok z) (h : MpAt kf vf ok w b l) (ty : TypeId) : (Builtin.len_ #[mT] ty #[.map (some b)]).run Tryd.prog w = .ok (.int .i64 (l.length : Int)) w := by
  obtain ⟨es, clock, hb, hs, he, ho⟩ := h
  have h4 := congrArg List.length he
  simp only [List.length_map] at h4
  rw [← h4]
  simp [Builtin.len_, run_underlying M.und, MapKept.run_getObj_map hb, goInt, Result.andThen]
omit [DecidableEq α] in
/-- A map that has just been made. -/
theorem gm_made (w : World) : MpAt kf vf ok (w.alloc (.map #[] 0)) w.heap.size [] := ⟨#[], 0, heap_alloc_new w _, stamped_empty 0, rfl, by simp⟩
/-- 'delete(m, a)' in a region. -/
theorem wp_delete_gm (M : MTy α β kT vT mT kf vf ok z) {op : Oper} {a : Act} {K : Act → World → Prop} {Q : Exit → Act → World → Prop} (x y : Operand) (ho : op.op = Op.call { callee := Callee.builtin Builtin.delete, args := #[x, y], argTypes := #[mT, kT] })
    (p : α) (hp : ok p) (hx : a.eval x = .map (some b)) (hy : a.eval y = kf p) (hm : MpAt kf vf ok w b l) (hK : ∀ w', MpAt kf vf ok w' b (delG l p) → w.grownBy w' (some b) → K (a.put op.dst (.tuple #[])) w') : op.wp Tryd.prog a w K Q := by
  obtain ⟨w', hrun, r1, r2⟩ := gm_del M hm p hp op.type
  unfold Oper.wp
  simp [execOp, ho, resolve, invoke, builtin, hx, hy, hrun, Result.andThen]
  exact hK w' r1 r2
/-- 'm[a] = c' in a region. -/
theorem wp_put_gm (M : MTy α β kT vT mT kf vf ok z) {op : Oper} {a : Act} {K : Act → World → Prop} {Q : Exit → Act → World → Prop} (x y q : Operand) (ho : op.op = Op.mapUpdate mT x y q)
    (p : α) (hp : ok p) (c : β) (hx : a.eval x = .map (some b)) (hy : a.eval y = kf p) (hz : a.eval q = vf c) (hm : MpAt kf vf ok w b l)
    (hK : ∀ w', MpAt kf vf ok w' b (putG l p c) → w.grownBy w' (some b) → K (a.put op.dst undef) w') : op.wp Tryd.prog a w K Q := by
  obtain ⟨w', hrun, r1, r2⟩ := gm_put M hm p hp c
  unfold Oper.wp
  simp [execOp, ho, hx, hy, hz, hrun, Result.andThen]
  exact hK w' r1 r2
end
/-! Digests as keys. -/
theorem hash_keyAt : Tryd.prog.keyTypeAt 2 30 = true := by kernel_rfl
theorem cm_hash_row : 30 < Tryd.prog.types.size := of_decide_eq_true (by kernel_rfl)
theorem cm_hash_key : Tryd.prog.keyType 30 = true := by kernel_rfl
theorem cm_hash_wide : (match Tryd.prog.underlying 30 with | some (.array _ _) | some (.struct _) => true | _ => false) = true := by kernel_rfl
set_option maxRecDepth 100000 in
theorem cm_hash_law : WideMaps.KeyLaw Tryd.prog 30 := deep_law_laid cn_laidOut (m := 2) (by omega) cm_hash_row hash_keyAt cm_hash_wide
theorem hash_keyOf (h : List UInt8) (hh : h.length = 32) : ∃ l, keyOf Tryd.prog 30 (.agg (h.map bV).toArray) = some l := by
  obtain ⟨m, hm⟩ : ∃ m, Tryd.prog.types.size = m + 2 := ⟨Tryd.prog.types.size - 2, by have := types_two; omega⟩
  obtain ⟨l, hl⟩ := cm_lits_hash (m + 1) h hh
  have hfo : Value.formed Tryd.prog 30 (.agg (h.map bV).toArray) = true := by
    have c1 : Tryd.prog.cellsOf 30 = 32 := by kernel_rfl
    simp [Value.formed, Tryd.underlying30, c1, hh]
  refine ⟨.string (keyBytes l), ?_⟩
  have e : (Value.agg (h.map bV).toArray).cells.toList = h.map bV := by simp [Value.cells]
  have hl' : Tryd.prog.keyLits (m + 2 + 1) 30 (h.map bV) = some l := hl
  simp only [keyOf, Tryd.underlying30, cm_hash_key, hfo, Bool.and_self, if_true, e, hm, hl', Option.map_some]
end Go.Proofs.YtnhmjlljnckieaaDoor.Sha

/-
  Digests as keys of maps; rows of one's own beside boxes of other types and beside maps. No conditions.
-/
namespace Go.Proofs.YtnhmjlljnckieaaDoor.Sha
open Go Go.RowKit
def hK (h : List UInt8) : Value := .agg (h.map bV).toArray
theorem hK_inj (a b : List UInt8) (h : hK a = hK b) : a = b := by
  have h1 := Value.agg.inj h
  have h2 := congrArg Array.toList h1
  exact bV_list_inj h2
theorem own_kpsB {F : Nat → Prop} {w w' : World} {base n size : Nat} {e : TypeId} {v : Value} {xs : List Value} (h : w.ownsRow base e size v n xs) (hk : Kps F w w') (hf : ∀ g, v.ownBlock = some g → F g) : w'.ownsRow base e size v n xs := by
  refine ⟨h.1, ?_⟩
  rcases h.2 with hn | ⟨g, cap, cur, rfl, hb, hg, rest⟩
  · exact .inl hn
  · exact .inr ⟨g, cap, cur, rfl, hb, row_kps hg hk (hf g rfl), rest⟩
theorem own_ne' {w : World} {base n k g : Nat} {T T' : TypeId} {v : Value} {xs : List Value} {cs : Array Value} {fr : Nat × Nat} (h : w.ownsRow base T k v n xs) (hg : w.heap[g]? = some (.cells cs T' fr)) (hT : T ≠ T') : v.ownBlock ≠ some g := fun e => by
  obtain ⟨c, fz, hc⟩ := Lib.ownsRow_kind h g e
  rw [hc] at hg
  exact hT (by cases hg; rfl)
theorem own_nemap {α β : Type} {kf : α → Value} {vf : β → Value} {ok : α → Prop} {w : World} {q : Nat} {L : List (α × β)} (hm : MpAt kf vf ok w q L) {base n k : Nat} {T : TypeId} {v : Value} {xs : List Value} (h : w.ownsRow base T k v n xs) : v.ownBlock ≠ some q := fun e => by
  obtain ⟨c, fz, hc⟩ := Lib.ownsRow_kind h q e
  exact hm.ne hc rfl
end Go.Proofs.YtnhmjlljnckieaaDoor.Sha

/-
  The program's tree in memory: its box, the map of nodes by their ids, each node's box, the rows of those that hang on each. No conditions.
-/
namespace Go.Proofs.YtnhmjlljnckieaaDoor.Sha
open Go Go.RowKit
structure CNd where
  nd : TNd
  ad : Nat
  kids : Value
def nptr (o : Option Nat) : Value := match o with | some g => .pointer (some ⟨g, 0, none⟩) | none => .pointer none
theorem nptr_one (o : Option Nat) : (nptr o).oneCell' = true := by cases o <;> rfl
theorem nptr_inj {a b : Nat} (h : nptr (some a) = nptr (some b)) : a = b := by injection h with h; injection h with h; injection h with h
/-- A node's cells: p: its parent's block; v: those that hang on it. -/
def cnL (x : TNd) (p : Option Nat) (v : Value) : List Value := x.id.map bV ++ (hdL x.h ++ [.int .i64 x.height, .int .u64 (x.work : Int), nptr p, v])
theorem cnL_length {x : TNd} {p : Option Nat} {v : Value} (h1 : x.id.length = 32) (h2 : HdOk x.h) : (cnL x p v).length = 104 := by simp [cnL, h1, hdL_length h2]
theorem cnL_one (x : TNd) (p : Option Nat) {v : Value} (hv : v.oneCell' = true) : ∀ u ∈ cnL x p v, u.oneCell' = true := by
  intro u hu
  unfold cnL at hu
  rcases List.mem_append.1 hu with h | h
  · exact bV_one' _ u h
  · rcases List.mem_append.1 h with h | h
    · exact hdL_one' _ u h
    · simp only [List.mem_cons, List.not_mem_nil, or_false] at h
      rcases h with rfl | rfl | rfl | rfl
      · rfl
      · rfl
      · exact nptr_one p
      · exact hv
/-- The block of a place of the list. -/
def cnP (M : List CNd) (p : Int) : Option Nat := if p < 0 then none else (M[p.toNat]?).map (·.ad)
theorem cnP_at {M : List CNd} {k : Nat} {c : CNd} (h : M[k]? = some c) : cnP M (k : Int) = some c.ad := by
  unfold cnP
  rw [if_neg (by omega), Int.toNat_natCast, h]
  rfl
theorem cnP_neg {M : List CNd} {p : Int} (h : p < 0) : cnP M p = none := if_pos h
def ndM (M : List CNd) : List TNd := M.map (·.nd)
theorem ndM_at {M : List CNd} {k : Nat} {c : CNd} (h : M[k]? = some c) : (ndM M)[k]? = some c.nd := by unfold ndM; rw [List.getElem?_map, h]; rfl
theorem ndM_get {M : List CNd} {k : Nat} {x : TNd} (h : (ndM M)[k]? = some x) : ∃ c, M[k]? = some c ∧ c.nd = x := by
  unfold ndM at h
  rw [List.getElem?_map] at h
  cases hc : M[k]? with
  | none => rw [hc] at h; cases h
  | some c => rw [hc] at h; exact ⟨c, rfl, by injection h⟩
theorem ndM_length (M : List CNd) : (ndM M).length = M.length := List.length_map _
def idsM (M : List CNd) : List (List UInt8 × Option Nat) := M.map fun c => (c.nd.id, some c.ad)
def kidsM (M : List CNd) (i : Nat) : List (List Value) := (kidsI (ndM M) i).map fun j : Nat => [nptr (cnP M (j : Int))]
theorem mty_nodes : MTy (List UInt8) (Option Nat) 30 61 65 hK nptr (fun h => h.length = 32) none :=
  ⟨cm_hash_law, by kernel_rfl, hash_keyOf, hK_inj, fun w => by kernel_rfl⟩
/-- The tree in box b with its map in block mb, nodes M in order; all lies from block base on. -/
structure CtAt (w : World) (base b mb : Nat) (M : List CNd) : Prop where
  box : w.heap[b]? = some (.cells (((ndM M).getD 0 ndZ).id.map bV ++ [Value.map (some mb)]).toArray 67 (0, 0))
  mp : MpAt hK nptr (fun h => h.length = 32) w mb (idsM M)
  node : ∀ (i : Nat) (c : CNd), M[i]? = some c → w.heap[c.ad]? = some (.cells (cnL c.nd (cnP M c.nd.parent) c.kids).toArray 64 (0, 0))
  kid : ∀ (i : Nat) (c : CNd), M[i]? = some c → RwOwn 1 61 base w c.kids (kidsM M i)
  ne : ∀ (i j : Nat) (c d : CNd), M[i]? = some c → M[j]? = some d → i ≠ j → c.ad ≠ d.ad ∧ (c.kids.ownBlock = none ∨ c.kids.ownBlock ≠ d.kids.ownBlock)
  lo : base ≤ b ∧ base ≤ mb ∧ ∀ c ∈ M, base ≤ c.ad
/-- What the tree's calls leave: all but its map, its nodes, their rows. -/
def CF (mb : Nat) (M : List CNd) (j : Nat) : Prop := j ≠ mb ∧ ∀ c ∈ M, j ≠ c.ad ∧ c.kids.ownBlock ≠ some j
section
variable {w w' : World} {base b mb : Nat} {M : List CNd}
theorem CtAt.kps {F : Nat → Prop} (h : CtAt w base b mb M) (hk : Kps F w w') (h1 : F b) (h2 : F mb) (h3 : ∀ c ∈ M, F c.ad ∧ ∀ g, c.kids.ownBlock = some g → F g) : CtAt w' base b mb M :=
  ⟨row_kps h.box hk h1, h.mp.kps hk h2, fun i c hc => row_kps (h.node i c hc) hk (h3 c (List.mem_of_getElem? hc)).1, fun i c hc => ⟨own_kpsB (h.kid i c hc).1 hk (h3 c (List.mem_of_getElem? hc)).2, (h.kid i c hc).2⟩, h.ne, h.lo⟩
theorem CtAt.at_ (h : CtAt w base b mb M) {c : CNd} (hc : c ∈ M) : ∃ i : Nat, M[i]? = some c := by
  obtain ⟨i, hi, e⟩ := List.getElem_of_mem hc
  exact ⟨i, by rw [List.getElem?_eq_getElem hi, e]⟩
theorem CtAt.below (h : CtAt w base b mb M) (hb : Below w.heap.size w w') : CtAt w' base b mb M :=
  h.kps (F := fun k => k < w.heap.size) (Kps.below hb fun _ h _ => h) (Array.getElem?_eq_some_iff.1 h.box).1 h.mp.lt (fun c hc => by
    obtain ⟨i, hi⟩ := h.at_ hc
    exact ⟨(Array.getElem?_eq_some_iff.1 (h.node i c hi)).1, fun g hg => ((h.kid i c hi).1.lt g hg).2⟩)
/-- A block of cells of another type turns: the tree stays. -/
theorem CtAt.far (h : CtAt w base b mb M) {g : Nat} (hg : w.grownBy w' (some g)) {cs : Array Value} {T : TypeId} {fr : Nat × Nat} (hc : w.heap[g]? = some (.cells cs T fr)) (h1 : T ≠ 67 := by decide) (h2 : T ≠ 64 := by decide) (h3 : 61 ≠ T := by decide) : CtAt w' base b mb M :=
  h.kps (F := fun k => k ≠ g) (Kps.grown hg fun k _ hk e => hk (Option.some.inj e)) (fun e => by subst e; have := h.box; rw [hc] at this; exact h1 (by cases this; rfl)) (fun e => h.mp.ne hc e.symm) (fun c hcm => by
    obtain ⟨i, hi⟩ := h.at_ hcm
    exact ⟨fun e => by have := h.node i c hi; rw [e, hc] at this; exact h2 (by cases this; rfl), fun k hk e => own_ne' (h.kid i c hi).1 hc h3 (by rw [hk, e])⟩)
theorem CtAt.rowF (h : CtAt w base b mb M) {g : Nat} {cs : Array Value} {T : TypeId} {fr : Nat × Nat} (hc : w.heap[g]? = some (.cells cs T fr)) (h2 : T ≠ 64) (h3 : 61 ≠ T) : CF mb M g :=
  ⟨h.mp.ne hc, fun c hcm => by
    obtain ⟨i, hi⟩ := h.at_ hcm
    exact ⟨fun e => by have := h.node i c hi; rw [← e, hc] at this; exact h2 (by cases this; rfl), own_ne' (h.kid i c hi).1 hc h3⟩⟩
theorem CtAt.ownF (h : CtAt w base b mb M) {bs n k : Nat} {T : TypeId} {v : Value} {xs : List Value} (ho : w.ownsRow bs T k v n xs) (h2 : T ≠ 64) (h3 : 61 ≠ T) : ∀ g, v.ownBlock = some g → CF mb M g := fun g hg => by
  obtain ⟨c, fz, hc⟩ := Lib.ownsRow_kind ho g hg
  exact h.rowF hc h2 h3
theorem CtAt.oldF (h : CtAt w base b mb M) {g : Nat} (hg : g < base) : CF mb M g :=
  ⟨by have := h.lo; omega, fun c hcm => by
    obtain ⟨i, hi⟩ := h.at_ hcm
    have := h.lo.2.2 c hcm
    exact ⟨by omega, fun e => by have := ((h.kid i c hi).1.lt g e).1; omega⟩⟩
theorem CtAt.lt (h : CtAt w base b mb M) : b < w.heap.size := (Array.getElem?_eq_some_iff.1 h.box).1
theorem CtAt.mcell (h : CtAt w base b mb M) (hs : ((ndM M).getD 0 ndZ).id.length = 32) : w.cell? ⟨b, 32, none⟩ = some (.map (some mb)) := by
  rw [cell_of_row _ _ _ _ _ _ h.box]
  rw [List.getElem?_toArray, List.getElem?_append_right (by rw [List.length_map, hs]; exact Nat.le_refl _), List.length_map, hs]
  rfl
theorem CtAt.start (h : CtAt w base b mb M) : w.rangeAt b 0 (((ndM M).getD 0 ndZ).id.map bV) := by
  intro j v hj
  rw [Nat.zero_add, cell_of_row _ _ _ _ _ _ h.box, List.getElem?_toArray, List.getElem?_append_left (List.getElem?_eq_some_iff.1 hj).1]
  exact hj
end
section
variable {w : World} {g : Nat} {x : TNd} {p : Option Nat} {v : Value}
theorem cn_id (h : w.heap[g]? = some (.cells (cnL x p v).toArray 64 (0, 0))) : w.rangeAt g 0 (x.id.map bV) := by
  intro j u hj
  rw [Nat.zero_add, cell_of_row _ _ _ _ _ _ h, List.getElem?_toArray]
  unfold cnL
  rw [List.getElem?_append_left (List.getElem?_eq_some_iff.1 hj).1]
  exact hj
theorem cn_head (h : w.heap[g]? = some (.cells (cnL x p v).toArray 64 (0, 0))) (hi : x.id.length = 32) : w.rangeAt g 32 (hdL x.h) := by
  intro j u hj
  rw [cell_of_row _ _ _ _ _ _ h, List.getElem?_toArray]
  unfold cnL
  rw [List.getElem?_append_right (by simp [hi]), List.length_map, hi, Nat.add_sub_cancel_left, List.getElem?_append_left (List.getElem?_eq_some_iff.1 hj).1]
  exact hj
theorem cn_cells (h : w.heap[g]? = some (.cells (cnL x p v).toArray 64 (0, 0))) (hi : x.id.length = 32) (hh : HdOk x.h) : w.cell? ⟨g, 100, none⟩ = some (.int .i64 x.height) ∧ w.cell? ⟨g, 101, none⟩ = some (.int .u64 (x.work : Int)) ∧ w.cell? ⟨g, 102, none⟩ = some (nptr p) ∧ w.cell? ⟨g, 103, none⟩ = some v := by
  have key : ∀ k, k < 4 → (cnL x p v).toArray[100 + k]? = [Value.int .i64 x.height, .int .u64 (x.work : Int), nptr p, v][k]? := fun k hk => by
    rw [List.getElem?_toArray]
    unfold cnL
    rw [List.getElem?_append_right (by simp [hi]; omega), List.getElem?_append_right (by rw [hdL_length hh, List.length_map, hi]; omega), hdL_length hh, List.length_map, hi]
    congr 1
    omega
  refine ⟨?_, ?_, ?_, ?_⟩
  · rw [cell_of_row _ _ _ _ _ _ h]; exact key 0 (by omega)
  · rw [cell_of_row _ _ _ _ _ _ h]; exact key 1 (by omega)
  · rw [cell_of_row _ _ _ _ _ _ h]; exact key 2 (by omega)
  · rw [cell_of_row _ _ _ _ _ _ h]; exact key 3 (by omega)
end
/-- The map tells what the list does. -/
theorem getG_ids {M : List CNd} (hp : (ndM M).Pairwise fun x y => x.id ≠ y.id) {k : Nat} {c : CNd} (hc : M[k]? = some c) : getG (idsM M) c.nd.id = some (some c.ad) := by
  have h2 : (idsM M).Pairwise fun x y => x.1 ≠ y.1 := by
    unfold idsM
    unfold ndM at hp
    rw [List.pairwise_map] at hp ⊢
    exact hp
  have h3 : (idsM M)[k]? = some (c.nd.id, some c.ad) := by unfold idsM; rw [List.getElem?_map, hc]; rfl
  exact getG_some h2 h3 rfl
theorem getG_ids_none {M : List CNd} {id : List UInt8} (h : ∀ x ∈ ndM M, x.id ≠ id) : getG (idsM M) id = none := by
  refine getG_none fun x hx => ?_
  unfold idsM at hx
  obtain ⟨c, hc, rfl⟩ := List.mem_map.1 hx
  exact h c.nd (List.mem_map.2 ⟨c, hc, rfl⟩)
/-- What is found under an id: nothing, or the place. -/
theorem look_ids {M : List CNd} (hp : (ndM M).Pairwise fun x y => x.id ≠ y.id) (id : List UInt8) : (findT (ndM M) id = -1 ∧ getG (idsM M) id = none) ∨ ∃ (k : Nat) (c : CNd), findT (ndM M) id = (k : Int) ∧ M[k]? = some c ∧ c.nd.id = id ∧ getG (idsM M) id = some (some c.ad) := by
  rcases findT_cases (ndM M) id with ⟨h1, h2⟩ | ⟨k, x, h1, h2, h3, _⟩
  · exact .inl ⟨h1, getG_ids_none h2⟩
  · obtain ⟨c, hc, rfl⟩ := ndM_get h2
    exact .inr ⟨k, c, h1, hc, h3, by rw [← h3]; exact getG_ids hp hc⟩
/-- One more node, on the one at place p, whose row is now v. -/
def pushM (M : List CNd) (p : Nat) (v : Value) (x : TNd) (g : Nat) : List CNd := M.mapIdx (fun i c => if i = p then ⟨c.nd, c.ad, v⟩ else c) ++ [⟨x, g, .slice none 0 0⟩]
section
variable {M : List CNd} {p g : Nat} {v : Value} {x : TNd}
theorem pushM_nd : ndM (pushM M p v x g) = ndM M ++ [x] := by
  unfold ndM pushM
  rw [List.map_append, List.map_singleton]
  congr 1
  refine List.ext_getElem? fun i => ?_
  rw [List.getElem?_map, List.getElem?_mapIdx, List.getElem?_map]
  cases M[i]? with
  | none => rfl
  | some c => simp only [Option.map_some]; split <;> rfl
theorem pushM_length : (pushM M p v x g).length = M.length + 1 := by unfold pushM; simp
theorem pushM_at {i : Nat} {c : CNd} (h : (pushM M p v x g)[i]? = some c) : (i = M.length ∧ c = ⟨x, g, .slice none 0 0⟩) ∨ ∃ d, M[i]? = some d ∧ c.nd = d.nd ∧ c.ad = d.ad ∧ (i = p ∧ c.kids = v ∨ i ≠ p ∧ c.kids = d.kids) := by
  unfold pushM at h
  by_cases hi : i < M.length
  · rw [List.getElem?_append_left (by rw [List.length_mapIdx]; exact hi), List.getElem?_mapIdx, List.getElem?_eq_getElem hi] at h
    refine .inr ⟨_, List.getElem?_eq_getElem hi, ?_⟩
    simp only [Option.map_some, Option.some.injEq] at h
    split at h
    · next e => subst h; exact ⟨rfl, rfl, .inl ⟨e, rfl⟩⟩
    · next e => subst h; exact ⟨rfl, rfl, .inr ⟨e, rfl⟩⟩
  · have e : i = M.length := by have := (List.getElem?_eq_some_iff.1 h).1; simp at this; omega
    rw [List.getElem?_append_right (by rw [List.length_mapIdx]; omega), List.length_mapIdx, e, Nat.sub_self] at h
    exact .inl ⟨e, by injection h with h; exact h.symm⟩
theorem pushM_ad {i : Nat} (h : i < M.length) : cnP (pushM M p v x g) (i : Int) = cnP M (i : Int) := by
  obtain ⟨c, hc⟩ : ∃ c, (pushM M p v x g)[i]? = some c := ⟨_, List.getElem?_eq_getElem (by rw [pushM_length]; omega)⟩
  rw [cnP_at hc]
  rcases pushM_at hc with ⟨e, _⟩ | ⟨d, hd, _, e, _⟩
  · omega
  · rw [cnP_at hd, e]
theorem pushM_last : cnP (pushM M p v x g) (M.length : Int) = some g := by
  obtain ⟨c, hc⟩ : ∃ c, (pushM M p v x g)[M.length]? = some c := ⟨_, List.getElem?_eq_getElem (by rw [pushM_length]; omega)⟩
  rw [cnP_at hc]
  rcases pushM_at hc with ⟨_, rfl⟩ | ⟨d, hd, _⟩
  · rfl
  · have := (List.getElem?_eq_some_iff.1 hd).1; omega
theorem pushM_ids : idsM (pushM M p v x g) = idsM M ++ [(x.id, some g)] := by
  unfold idsM pushM
  rw [List.map_append, List.map_singleton]
  congr 1
  refine List.ext_getElem? fun i => ?_
  rw [List.getElem?_map, List.getElem?_mapIdx, List.getElem?_map]
  cases M[i]? with
  | none => rfl
  | some c => simp only [Option.map_some]; split <;> rfl
theorem pushM_kids {i : Nat} : kidsM (pushM M p v x g) i = kidsM M i ++ (if x.parent = (i : Int) then [[nptr (some g)]] else []) := by
  unfold kidsM
  rw [pushM_nd, kidsI_push, List.map_append]
  congr 1
  · refine List.map_congr_left fun j hj => ?_
    rw [pushM_ad (by have := kidsI_lt hj; rwa [ndM_length] at this)]
  · split
    · rw [List.map_singleton, ndM_length, pushM_last]
    · rfl
end
section
variable {w w' : World} {base b mb : Nat} {M : List CNd}
theorem CtAt.push (h : CtAt w base b mb M) (hd : Down (ndM M)) {p : Nat} {c : CNd} (hc : M[p]? = some c) {x : TNd} {g : Nat} {v : Value}
    (hp : x.parent = (p : Int)) (hk : Kps (fun j => j ≠ mb ∧ j ≠ c.ad ∧ c.kids.ownBlock ≠ some j) w w') (hg : w.heap.size ≤ g) (hbs : base ≤ w.heap.size)
    (h1 : w'.heap[c.ad]? = some (.cells (cnL c.nd (cnP M c.nd.parent) v).toArray 64 (0, 0)))
    (h2 : RwOwn 1 61 base w' v (kidsM M p ++ [[nptr (some g)]]))
    (h3 : w'.heap[g]? = some (.cells (cnL x (some c.ad) (.slice none 0 0)).toArray 64 (0, 0)))
    (h4 : v.ownBlock = c.kids.ownBlock ∨ ∃ q, v.ownBlock = some q ∧ w.heap.size ≤ q)
    (h5 : MpAt hK nptr (fun h => h.length = 32) w' mb (idsM M ++ [(x.id, some g)])) : CtAt w' base b mb (pushM M p v x g) := by
  have hpl : p < M.length := (List.getElem?_eq_some_iff.1 hc).1
  have hds : ∀ (i : Nat) (d : CNd), M[i]? = some d → i ≠ p → w'.heap[d.ad]? = w.heap[d.ad]? := fun i d hi hip => by
    refine hk.block _ (Array.getElem?_eq_some_iff.1 (h.node i d hi)).1 ⟨fun e => h.mp.ne (h.node i d hi) e, (h.ne i p d c hi hc hip).1, own_ne' (h.kid p c hc).1 (h.node i d hi) (by decide)⟩
  refine ⟨?_, by rw [pushM_ids]; exact h5, fun i d hi => ?_, fun i d hi => ?_, fun i j d e hi hj hij => ?_, h.lo.1, h.lo.2.1, fun d hdm => ?_⟩
  · have e : (ndM (pushM M p v x g)).getD 0 ndZ = (ndM M).getD 0 ndZ := by
      rw [pushM_nd, List.getD_eq_getElem?_getD, List.getElem?_append_left (by rw [ndM_length]; omega), ← List.getD_eq_getElem?_getD]
    rw [e]
    exact row_kps h.box hk ⟨fun e => h.mp.ne h.box e, fun e => by have q := h.node p c hc; rw [← e, h.box] at q; exact absurd (show 67 = 64 by injection q with q; injection q) (by decide), own_ne' (h.kid p c hc).1 h.box (by decide)⟩
  · rcases pushM_at hi with ⟨e, rfl⟩ | ⟨d', hd', e1, e2, e3⟩
    · show w'.heap[g]? = _
      rw [h3]
      show _ = some (Obj.cells (cnL x (cnP (pushM M p v x g) x.parent) _).toArray _ _)
      rw [hp, pushM_ad hpl, cnP_at hc]
    · have hpar : cnP (pushM M p v x g) d'.nd.parent = cnP M d'.nd.parent := by
        have hdn := hd i d'.nd (ndM_at hd')
        have hil := (List.getElem?_eq_some_iff.1 hd').1
        by_cases hneg : d'.nd.parent < 0
        · rw [cnP_neg hneg, cnP_neg hneg]
        · obtain ⟨q, hq⟩ : ∃ q : Nat, d'.nd.parent = (q : Int) := ⟨d'.nd.parent.toNat, by omega⟩
          rw [hq, pushM_ad (by omega)]
      rw [e1, e2, hpar]
      rcases e3 with ⟨rfl, e3⟩ | ⟨e3, e4⟩
      · rw [hc] at hd'
        cases hd'
        rw [e3]
        exact h1
      · rw [e4, hds i d' hd' e3]
        exact h.node i d' hd'
  · rw [pushM_kids]
    rcases pushM_at hi with ⟨e, rfl⟩ | ⟨d', hd', e1, e2, e3⟩
    · have e0 : kidsM M i = [] := by
        unfold kidsM
        have := kidsI_last hd (y := x) (by rw [hp, ndM_length]; omega)
        rw [kidsI_push, ndM_length, if_neg (by omega), List.append_nil] at this
        rw [e, this]
        rfl
      rw [e0, if_neg (by rw [hp]; omega)]
      exact RwOwn.nil 1 _ base w'
    · rcases e3 with ⟨rfl, e3⟩ | ⟨e3, e4⟩
      · rw [if_pos hp, e3]
        exact h2
      · rw [if_neg (by rw [hp]; omega), List.append_nil, e4]
        refine ⟨own_kpsB (h.kid i d' hd').1 hk fun q hq => ?_, (h.kid i d' hd').2⟩
        refine ⟨fun e => own_nemap h.mp (h.kid i d' hd').1 (by rw [hq, e]), fun e => own_ne' (h.kid i d' hd').1 (h.node p c hc) (by decide) (by rw [hq, e]), fun e => ?_⟩
        rcases (h.ne i p d' c hd' hc e3).2 with hn | hn
        · rw [hn] at hq; cases hq
        · exact hn (by rw [hq, e])
  · have hlt : ∀ (i : Nat) (d : CNd), M[i]? = some d → d.ad < w.heap.size := fun i d hi => (Array.getElem?_eq_some_iff.1 (h.node i d hi)).1
    have hlk : ∀ (i : Nat) (d : CNd), M[i]? = some d → ∀ q, d.kids.ownBlock = some q → q < w.heap.size := fun i d hi q hq => ((h.kid i d hi).1.lt q hq).2
    have hv : ∀ (i : Nat) (d : CNd), M[i]? = some d → i ≠ p → (d.kids.ownBlock = none ∨ d.kids.ownBlock ≠ v.ownBlock) ∧ (v.ownBlock = none ∨ v.ownBlock ≠ d.kids.ownBlock) := fun i d hi hip => by
      rcases h4 with e | ⟨q, e, hq⟩
      · rw [e]
        exact ⟨(h.ne i p d c hi hc hip).2, (h.ne p i c d hc hi (fun e => hip e.symm)).2⟩
      · rw [e]
        exact ⟨.inr fun e2 => by have := hlk i d hi q e2; omega, .inr fun e2 => by have := hlk i d hi q e2.symm; omega⟩
    rcases pushM_at hi with ⟨ei, rfl⟩ | ⟨d', hd', a1, a2, a3⟩
    · rcases pushM_at hj with ⟨ej, rfl⟩ | ⟨d2, hd2, b1, b2, b3⟩
      · omega
      · exact ⟨by rw [b2]; have := hlt j d2 hd2; show g ≠ _; omega, .inl rfl⟩
    · rcases pushM_at hj with ⟨ej, rfl⟩ | ⟨d2, hd2, b1, b2, b3⟩
      · refine ⟨by rw [a2]; have := hlt i d' hd'; show _ ≠ g; omega, ?_⟩
        cases hq : d.kids.ownBlock with
        | none => exact .inl rfl
        | some q => exact .inr (fun e => by cases e)
      · refine ⟨by rw [a2, b2]; exact (h.ne i j d' d2 hd' hd2 hij).1, ?_⟩
        rcases a3 with ⟨rfl, a3⟩ | ⟨a3, a4⟩
        · rcases b3 with ⟨rfl, b3⟩ | ⟨b3, b4⟩
          · exact absurd rfl hij
          · rw [a3, b4]; exact (hv j d2 hd2 b3).2
        · rcases b3 with ⟨rfl, b3⟩ | ⟨b3, b4⟩
          · rw [a4, b3]; exact (hv i d' hd' a3).1
          · rw [a4, b4]; exact (h.ne i j d' d2 hd' hd2 hij).2
  · obtain ⟨i, hi, e⟩ := List.getElem_of_mem hdm
    rcases pushM_at (show (pushM M p v x g)[i]? = some d by rw [List.getElem?_eq_getElem hi, e]) with ⟨_, rfl⟩ | ⟨d', hd', _, e2, _⟩
    · show base ≤ g; omega
    · rw [e2]; exact h.lo.2.2 d' (List.mem_of_getElem? hd')
end
end Go.Proofs.YtnhmjlljnckieaaDoor.Sha

/-
  What literals of transactions, inputs, outputs and places lay. No conditions beyond those that each states.
-/
namespace Go.Proofs.YtnhmjlljnckieaaDoor.Sha
open Go Go.RowKit
def zH : List UInt8 := List.replicate 32 0
theorem zH_length : zH.length = 32 := rfl
theorem built_ptn (n : Nat) : Tryd.prog.built 88 [(1, .int .u32 (n : Int))] = some (ptL zH n).toArray := by kernel_rfl
theorem built_inp (x : TIn) (hx : x.h.length = 32) (hs : x.seq = 0) : Tryd.prog.built 91 [(0, .agg (ptL x.h x.n).toArray)] = some (inL x (.slice none 0 0)).toArray := by
  have hz : ∀ parts, Tryd.prog.built 91 parts = Instr.fill ([(0, 33), (33, 1), (34, 1)].toArray[·]?) (List.replicate 32 (bV 0) ++ [nV 0, .slice none 0 0, nV 0]).toArray parts := fun parts => by kernel_rfl
  have hl : (ptL x.h x.n).length = 33 := by simp [ptL, hx]
  rw [hz, fill_part _ 0 0 (.agg (ptL x.h x.n).toArray) (ptL x.h x.n) _ _ rfl (by rw [hl]; rfl) (by rw [hl]; simp)]
  rw [List.take_zero, List.nil_append, Nat.zero_add, hl, inL, hs]
  rfl
theorem built_ink (x : TIn) (hx : x.h.length = 32) (kv : Value) (hk : kv.oneCell' = true) (hs : x.seq = 0) : Tryd.prog.built 91 [(0, .agg (ptL x.h x.n).toArray), (1, kv)] = some (inL x kv).toArray := by
  have hz : ∀ parts, Tryd.prog.built 91 parts = Instr.fill ([(0, 33), (33, 1), (34, 1)].toArray[·]?) (List.replicate 32 (bV 0) ++ [nV 0, .slice none 0 0, nV 0]).toArray parts := fun parts => by kernel_rfl
  have hl : (ptL x.h x.n).length = 33 := by simp [ptL, hx]
  rw [hz, fill_part _ 0 0 (.agg (ptL x.h x.n).toArray) (ptL x.h x.n) _ _ rfl (by rw [hl]; rfl) (by rw [hl]; simp)]
  rw [List.take_zero, List.nil_append, Nat.zero_add, hl]
  rw [fill_part _ 1 33 kv [kv] _ _ (cells_one hk) rfl (by simp [hl])]
  have e : List.drop (33 + [kv].length) (ptL x.h x.n ++ List.drop 33 (List.replicate 32 (bV 0) ++ [nV 0, .slice none 0 0, nV 0])) = [nV 0] := by
    rw [show 33 + [kv].length = (ptL x.h x.n).length + 1 by rw [hl]; rfl, ← List.drop_drop, List.drop_left]
    rfl
  rw [List.take_append_of_le_length (by omega), List.take_of_length_le (by omega), e, inL, hs]
  rw [List.append_assoc]
  rfl
theorem built_txs (iv ov : Value) (h1 : iv.oneCell' = true) (h2 : ov.oneCell' = true) : Tryd.prog.built 81 [(1, iv), (2, ov)] = some [nV 0, iv, ov, nV 0].toArray := by
  have hz : ∀ parts, Tryd.prog.built 81 parts = Instr.fill ([(0, 1), (1, 1), (2, 1), (3, 1)].toArray[·]?) [nV 0, .slice none 0 0, .slice none 0 0, nV 0].toArray parts := fun parts => by kernel_rfl
  rw [hz, fill_part _ 1 1 iv [iv] _ _ (cells_one h1) rfl (by simp), fill_part _ 2 2 ov [ov] _ _ (cells_one h2) rfl (by simp)]
  rfl
theorem built_outv (v : Nat) : Tryd.prog.built 93 [(0, .int .u64 (v : Int))] = some (outL ⟨v, zH⟩).toArray := by kernel_rfl
theorem built_out0 : Tryd.prog.built 93 [] = some (outL ⟨0, zH⟩).toArray := by kernel_rfl
end Go.Proofs.YtnhmjlljnckieaaDoor.Sha

/-
  Package tx tells how many bytes a transaction has, and how long its longest key is. Nothing that was there turns. Condition: a transaction of a few inputs and outputs that lies in memory.
-/
namespace Go.Proofs.YtnhmjlljnckieaaDoor.Sha
open Go Go.RowKit
def SzInv (n : Nat) (A : Nat) (t : TTx) (w1 : World) (vs vi : Value) (wr : World) : Prop :=
  ∃ k s : Nat, k ≤ n ∧ vi = .int .i64 k ∧ s = A + (insB (t.ins.take k)).length ∧ vs = .int .i64 s ∧ Below w1.heap.size w1 wr
end Go.Proofs.YtnhmjlljnckieaaDoor.Sha

/-
  Package tx tells how long the longest key of a transaction is, and whether a number is between two. Nothing that was there turns. Condition: a transaction of a few inputs and outputs that lies in memory.
-/
namespace Go.Proofs.YtnhmjlljnckieaaDoor.Sha
open Go Go.RowKit
/-- The longest key of so many inputs. -/
def mostKey (l : List TIn) : Nat := l.foldl (fun m x => max m x.key.length) 0
theorem mostKey_snoc {l : List TIn} {k : Nat} {x : TIn} (h : l[k]? = some x) : mostKey (l.take (k + 1)) = max (mostKey (l.take k)) x.key.length := by
  have hk := List.getElem?_eq_some_iff.1 h
  rw [List.take_succ_eq_append_getElem hk.1, hk.2]
  simp [mostKey, List.foldl_append]
theorem fold_key : ∀ (l : List TIn) (m : Nat), (80 < l.foldl (fun m x => max m x.key.length) m) ↔ (80 < m ∨ ∃ x ∈ l, 80 < x.key.length)
  | [], m => by simp
  | x :: l, m => by
    rw [List.foldl_cons, fold_key l]
    simp only [List.mem_cons, exists_eq_or_imp]
    constructor
    · rintro (h | h)
      · by_cases hm : 80 < m
        · exact .inl hm
        · exact .inr (.inl (by omega))
      · exact .inr (.inr h)
    · rintro (h | h | h)
      · exact .inl (by omega)
      · exact .inl (by omega)
      · exact .inr h
theorem mostKey_over (l : List TIn) : l.any (fun x => decide (80 < x.key.length)) = decide (80 < mostKey l) := by
  rw [Bool.eq_iff_iff, List.any_eq_true, decide_eq_true_eq, mostKey, fold_key]
  simp
def LkInv (n : Nat) (t : TTx) (w1 : World) (vs vi : Value) (wr : World) : Prop :=
  ∃ k s : Nat, k ≤ n ∧ vi = .int .i64 k ∧ s = mostKey (t.ins.take k) ∧ s ≤ 100000 ∧ vs = .int .i64 s ∧ Below w1.heap.size w1 wr
end Go.Proofs.YtnhmjlljnckieaaDoor.Sha

/-
  Package tx tells whether the amounts of a transaction are one that can be. Nothing that was there turns. Condition: a transaction of a few inputs and outputs that lies in memory.
-/
namespace Go.Proofs.YtnhmjlljnckieaaDoor.Sha
open Go Go.RowKit
def AddInv (base n : Nat) (t : TTx) (w1 : World) (vb vi : Value) (wr : World) : Prop :=
  ∃ (k : Nat) (vq : Value), vq = vb ∧ k ≤ n ∧ vi = .int .i64 k ∧ Below w1.heap.size w1 wr ∧ wr.ownsRow base 53 1 vq k (((t.outs.take k).map (·.val)).map uV)
end Go.Proofs.YtnhmjlljnckieaaDoor.Sha
