/-
  Texts of this proof joined into one file: PtLess, PtOrd, CnLay, CnSort, CnSt, CnBuilt, CnAll, CnBytes, CnSum, CnTwo, RefLess, CnRef, CnRefRow, RefHalves, ArgsU32, MedM, PsSort, PsPdq. What each holds, and under which conditions, its own first sentence tells.
-/
import Derived.Sort.Grow
import Derived.Shelf.SlGeneric
import Derived.Shelf.SlSortCmp.WholeK
import Derived.IntWalk
import Derived.Sort.WalkA
import Derived.Sort.Walk13a
import Derived.Sort.LotA
import Derived.Sort.AssemblyPlain
import Derived.Test.YtidmfcamlgeipaaMg02
import Derived.Test.YtidmfcamlgeipaaMg04
import Derived.Test.YtidmfcamlgeipaaMg03
import Derived.Test.YtidmfcamlgeipaaMg01
/-
  spend.Less tells whether one place stands ahead of another: by the digest, then by the number. Nothing that was there turns. Condition: digests of 32 bytes.
-/
namespace Go.Proofs.Ytidmfcamlgeipaa.Sha
open Go Go.RowKit
/-- The order of places. -/
def lessPt (h : List UInt8) (n : Nat) (h' : List UInt8) (n' : Nat) : Bool := if h = h' then decide (n < n') else lessL h h'
end Go.Proofs.Ytidmfcamlgeipaa.Sha

/-
  The order of digests and of places: of two unlike ones just one is less; less and less is less. Condition: digests of one length.
-/
namespace Go.Proofs.Ytidmfcamlgeipaa.Sha
open Go Go.RowKit
theorem less_asym : ∀ (l m : List UInt8), l.length = m.length → lessL l m = true → lessL m l = false
  | [], [], _, h => by cases h
  | x :: l, y :: m, hl, h => by
    rw [less_cons] at h ⊢
    simp only [Bool.or_eq_true, Bool.and_eq_true, decide_eq_true_eq] at h
    rcases h with h | ⟨rfl, h⟩
    · have h1 : ¬ y < x := fun h2 => absurd (UInt8.lt_trans h h2) (UInt8.lt_irrefl x)
      have h2 : ¬ y = x := fun e => by subst e; exact absurd h (UInt8.lt_irrefl y)
      simp [h1, h2]
    · rw [less_asym l m (by simpa using hl) h]
      simp [UInt8.lt_irrefl]
theorem less_total : ∀ (l m : List UInt8), l.length = m.length → l ≠ m → lessL l m = false → lessL m l = true
  | [], [], _, h, _ => absurd rfl h
  | x :: l, y :: m, hl, hne, h => by
    rw [less_cons] at h ⊢
    simp only [Bool.or_eq_false_iff, Bool.and_eq_false_iff, decide_eq_false_iff_not] at h
    by_cases e : x = y
    · subst e
      have h1 : lessL l m = false := by rcases h.2 with h2 | h2 <;> simp_all
      rw [less_total l m (by simpa using hl) (fun e => hne (by rw [e])) h1]
      simp
    · have : y < x := UInt8.lt_of_le_of_ne (UInt8.not_lt.1 h.1) (fun e' => e e'.symm)
      simp [this]
theorem less_trans : ∀ (l m k : List UInt8), l.length = m.length → m.length = k.length → lessL l m = true → lessL m k = true → lessL l k = true
  | [], [], _, _, _, h, _ => by cases h
  | x :: l, y :: m, z :: k, h1, h2, h, h' => by
    rw [less_cons] at h h' ⊢
    simp only [Bool.or_eq_true, Bool.and_eq_true, decide_eq_true_eq] at h h' ⊢
    rcases h with h | ⟨rfl, h⟩ <;> rcases h' with h' | ⟨rfl, h'⟩
    · exact .inl (UInt8.lt_trans h h')
    · exact .inl h
    · exact .inl h'
    · exact .inr ⟨rfl, less_trans l m k (by simpa using h1) (by simpa using h2) h h'⟩
theorem lessPt_asym {a b : List UInt8} {n m : Nat} (hl : a.length = b.length) (h : lessPt a n b m = true) : lessPt b m a n = false := by
  unfold lessPt at h ⊢
  by_cases e : a = b
  · subst e
    simp only [if_true, decide_eq_true_eq] at h ⊢
    exact decide_eq_false (by omega)
  · rw [if_neg e] at h
    rw [if_neg (fun e' => e e'.symm)]
    exact less_asym a b hl h
theorem lessPt_total {a b : List UInt8} {n m : Nat} (hl : a.length = b.length) (hne : (decide (a = b) && decide (n = m)) = false) (h : lessPt a n b m = false) : lessPt b m a n = true := by
  unfold lessPt at h ⊢
  by_cases e : a = b
  · subst e
    simp at h hne ⊢
    omega
  · rw [if_neg e] at h
    rw [if_neg (fun e' => e e'.symm)]
    exact less_total a b hl e h
theorem lessPt_self (a : List UInt8) (n : Nat) : lessPt a n a n = false := by simp [lessPt]
theorem lessPt_ne {a b : List UInt8} {n m : Nat} (h : lessPt a n b m = true) : (decide (a = b) && decide (n = m)) = false := by
  by_cases e : a = b
  · subst e
    by_cases e2 : n = m
    · subst e2
      rw [lessPt_self] at h
      cases h
    · simp [e2]
  · simp [e]
theorem lessPt_trans {a b c : List UInt8} {n m k : Nat} (hl : a.length = b.length) (hl' : b.length = c.length) (h : lessPt a n b m = true) (h' : lessPt b m c k = true) : lessPt a n c k = true := by
  unfold lessPt at h h' ⊢
  by_cases e : a = b
  · subst e
    by_cases e' : a = c
    · subst e'
      simp only [if_true, decide_eq_true_eq] at h h' ⊢
      omega
    · simp only [if_true, if_neg e', decide_eq_true_eq] at h h' ⊢
      exact h'
  · by_cases e' : b = c
    · subst e'
      simp only [if_neg e] at h ⊢
      exact h
    · simp only [if_neg e, if_neg e'] at h h'
      have h2 := less_trans a b c hl hl' h h'
      by_cases e2 : a = c
      · subst e2
        rw [less_self] at h2
        cases h2
      · rw [if_neg e2]
        exact h2
end Go.Proofs.Ytidmfcamlgeipaa.Sha

/-
  Worlds that only grow: blocks are laid behind, orders drawn; digests and places held against each other do no more. Condition: digests of 32 bytes.
-/
namespace Go.Proofs.Ytidmfcamlgeipaa.Sha
open Go Go.RowKit
open Go.Sort (grow grow_empty grow_grow alloc_eq_grow heap_grow_old size_grow)
/-- w' is w with orders drawn and blocks laid behind. -/
def Lay (w w' : World) : Prop := ∃ q os, w' = grow (w.drewN q) os
theorem Lay.refl (w : World) : Lay w w := ⟨0, #[], by rw [grow_empty]; rfl⟩
theorem Lay.alloc {w w1 : World} (h : Lay w w1) (o : Obj) : Lay w (w1.alloc o) := by
  obtain ⟨q, os, rfl⟩ := h
  exact ⟨q, os ++ #[o], by rw [alloc_eq_grow, grow_grow]⟩
theorem Lay.two (w : World) (o o' : Obj) : Lay w ((w.alloc o).alloc o') := ((Lay.refl w).alloc o).alloc o'
theorem Lay.drewN {w w1 : World} (h : Lay w w1) (n : Nat) : Lay w (w1.drewN n) := by
  obtain ⟨q, os, rfl⟩ := h
  exact ⟨q + n, os, by simp [World.drewN, grow, Nat.add_assoc]⟩
theorem Lay.below {w w' : World} (h : Lay w w') : Below w.heap.size w w' := by
  obtain ⟨q, os, rfl⟩ := h
  exact ⟨rfl, rfl, rfl, by simp [World.drewN], fun k hk => heap_grow_old (w.drewN q) os hk⟩
theorem Lay.trans {w w1 w2 : World} (h : Lay w w1) (k : Lay w1 w2) : Lay w w2 := by
  obtain ⟨q, os, rfl⟩ := h
  obtain ⟨q', os', rfl⟩ := k
  exact ⟨q + q', os ++ os', by simp [World.drewN, grow, Nat.add_assoc, Array.append_assoc]⟩
end Go.Proofs.Ytidmfcamlgeipaa.Sha

/-
  The library's sort at coins with their places, by package coins' own order: a row that is the same coins, in the order of their places. Conditions: the row is one's own; no place twice; at most 2^20 coins.
-/
namespace Go.Proofs.Ytidmfcamlgeipaa.Sha
open Go Go.RowKit
open Go.Sort (grow SWO PermIn SortedIn HoldsK flatK putRowK putRow mapBlock size_flatK get_flatK heap_grow_old)
/-- A coin with its place, as the model has one. -/
abbrev OSp : Type := {x : TSp // SpOk x}
instance : Inhabited OSp := ⟨⟨spZ, spZ_ok⟩⟩
/-- One place ahead of another. -/
def ltSp (x y : TSp) : Bool := lessPt x.at_.h x.at_.n y.at_.h y.at_.n
def cfS (x y : OSp) : Int := if ltSp x.1 y.1 then -1 else if ltSp y.1 x.1 then 1 else 0
theorem lt_cfS (x y : OSp) : ltOf cfS x y = ltSp x.1 y.1 := by
  unfold ltOf cfS
  cases ltSp x.1 y.1
  · cases ltSp y.1 x.1 <;> rfl
  · rfl
theorem ltSp_trans {x y z : TSp} (hx : SpOk x) (hy : SpOk y) (hz : SpOk z) (h : ltSp x y = true) (k : ltSp y z = true) : ltSp x z = true :=
  lessPt_trans (by rw [hx.1.1, hy.1.1]) (by rw [hy.1.1, hz.1.1]) h k
theorem ltSp_asym {x y : TSp} (hx : SpOk x) (hy : SpOk y) (h : ltSp x y = true) : ltSp y x = false := lessPt_asym (by rw [hx.1.1, hy.1.1]) h
theorem ltSp_total {x y : TSp} (hx : SpOk x) (hy : SpOk y) (hne : x.at_ ≠ y.at_) (h : ltSp x y = false) : ltSp y x = true := by
  refine lessPt_total (by rw [hx.1.1, hy.1.1]) ?_ h
  by_cases e : x.at_.h = y.at_.h
  · by_cases e' : x.at_.n = y.at_.n
    · refine absurd ?_ hne
      cases hx0 : x.at_
      cases hy0 : y.at_
      rw [hx0, hy0] at e e'
      simp only at e e'
      rw [e, e']
    · simp [e']
  · simp [e]
theorem ltSp_self (x : TSp) : ltSp x x = false := lessPt_self _ _
theorem swoS : SWO (ltOf cfS) where
  irrefl x := by rw [lt_cfS]; exact ltSp_self _
  trans x y z h1 h2 := by rw [lt_cfS] at *; exact ltSp_trans x.2 y.2 z.2 h1 h2
  ntrans x y z h1 h2 := by
    rw [lt_cfS] at *
    cases h3 : ltSp x.1 z.1
    · rfl
    · by_cases e : y.1.at_ = z.1.at_
      · have : ltSp x.1 y.1 = ltSp x.1 z.1 := by unfold ltSp; rw [e]
        rw [this, h3] at h1
        cases h1
      · have h4 := ltSp_total y.2 z.2 e h2
        rw [ltSp_trans x.2 z.2 y.2 h3 h4] at h1
        cases h1
/-- In the order of their places. -/
def SortedC (l : List TSp) : Prop := l.Pairwise (fun x y => ltSp x y = true)
theorem sorted_one : ∀ {l l' : List TSp}, (∀ x ∈ l, SpOk x) → l.Perm l' → SortedC l → SortedC l' → l = l'
  | [], l', _, hp, _, _ => (List.nil_perm.1 hp).symm
  | x :: l, [], _, hp, _, _ => by simp at hp
  | x :: l, y :: l', ho, hp, h1, h2 => by
    obtain ⟨a1, a2⟩ := List.pairwise_cons.1 h1
    obtain ⟨b1, b2⟩ := List.pairwise_cons.1 h2
    have ox := ho x List.mem_cons_self
    have hxm : x ∈ y :: l' := hp.mem_iff.1 List.mem_cons_self
    have hym : y ∈ x :: l := hp.mem_iff.2 List.mem_cons_self
    have e : x = y := by
      rcases List.mem_cons.1 hxm with e | hx
      · exact e
      · rcases List.mem_cons.1 hym with e | hy
        · exact e.symm
        · have c1 := b1 x hx
          have c2 := a1 y hy
          rw [ltSp_asym ox (ho y hym) c2] at c1
          cases c1
    subst e
    rw [sorted_one (fun z hz => ho z (List.mem_cons_of_mem _ hz)) ((List.perm_cons _).1 hp) a2 b2]
theorem lift_ok : ∀ (l : List TSp), (∀ x ∈ l, SpOk x) → ∃ d : List OSp, d.map (·.1) = l
  | [], _ => ⟨[], rfl⟩
  | x :: l, h => by
    obtain ⟨d, hd⟩ := lift_ok l (fun y hy => h y (List.mem_cons_of_mem _ hy))
    exact ⟨⟨x, h x List.mem_cons_self⟩ :: d, by rw [List.map_cons, hd]⟩
def encS (x : OSp) : List Value := spL x.1
theorem encS_len (x : OSp) : (encS x).length = 68 := spL_length x.2
theorem map_encS (d : List OSp) : (d.map (·.1)).map spL = d.map encS := by rw [List.map_map]; rfl
theorem allK_encS (d : List OSp) : AllK 68 (d.map encS) := fun x hx => by
  obtain ⟨y, _, rfl⟩ := List.mem_map.1 hx
  exact encS_len y
theorem flat_cell {d : List OSp} {t : Nat} (ht : t < d.length * 68) : (d.map encS).flatten[t]? = some ((encS d.toArray[t / 68]!)[t % 68]!) := by
  have h1 : t / 68 < d.length := Nat.div_lt_of_lt_mul (by omega)
  have h2 : t % 68 < 68 := Nat.mod_lt _ (by omega)
  have h3 : (d.map encS)[t / 68]? = some (encS (d[t / 68]'h1)) := by rw [List.getElem?_map, List.getElem?_eq_getElem h1]; rfl
  have h4 := flatten_get (d.map encS) (t / 68) _ (allK_encS d) h3 (t % 68) h2
  rw [show t / 68 * 68 + t % 68 = t by omega] at h4
  have h5 : (encS (d[t / 68]'h1)).length = 68 := encS_len _
  rw [h4, getElem!_pos d.toArray (t / 68) (by simpa using h1)]
  simp only [List.getElem_toArray]
  rw [getElem!_pos (encS (d[t / 68]'h1)) (t % 68) (by omega), List.getElem?_eq_getElem (by omega)]
theorem holds_of_own {w : World} {g cap base : Nat} {T : TypeId} {d : List OSp} (h : RwOwn 68 T base w (.slice (some ⟨g, 0, none⟩) (d.map encS).length cap) (d.map encS)) (h0 : g < w.heap.size) : HoldsK encS 68 w g 0 d.toArray := by
  intro t ht
  simp only [size_flatK, List.size_toArray] at ht
  rw [get_flatK _ _ _ _ (by simpa using ht), Nat.zero_add]
  have hl : (d.map encS).length = d.length := List.length_map _
  refine ⟨?_, ?_⟩
  · rw [h.1.cellAt t (by rw [hl]; exact ht), flat_cell ht]
    rfl
  · rcases h.1.2 with ⟨hv, _⟩ | ⟨g', cap', cur, hv, _, hb, _⟩
    · cases hv
    · cases hv
      simp [World.frozen?, hb]
theorem rwAt_of_holds {w : World} {g cap : Nat} {d : List OSp} (h : HoldsK encS 68 w g 0 d.toArray) (hc : d.length ≤ cap) : RwAt 68 w (.slice (some ⟨g, 0, none⟩) (d.map encS).length cap) (d.map encS) := by
  refine ⟨allK_encS d, _, cap, rfl, by rw [List.length_map]; exact hc, fun _ => ⟨g, 0, rfl, fun i x hx j v hv => ?_⟩⟩
  have hi : i < d.length := by have := (List.getElem?_eq_some_iff.1 hx).1; rwa [List.length_map] at this
  have hj : j < 68 := by
    have := (List.getElem?_eq_some_iff.1 hv).1
    rwa [(allK_encS d).get hx] at this
  have ht : i * 68 + j < d.length * 68 := by omega
  have h1 := (h (i * 68 + j) (by simpa using ht)).1
  rw [get_flatK _ _ _ _ (by simpa using ht), Nat.zero_add] at h1
  rw [Nat.zero_add, h1]
  have h2 := flat_cell ht
  rw [flatten_get (d.map encS) i x (allK_encS d) hx j hj, hv] at h2
  exact h2.symm
theorem grown_sortK {w : World} {g n : Nat} {os : Array Obj} (d : Array OSp) : w.grownBy (sortWorldK encS 68 w g 0 n d os) (some g) := by
  refine ⟨rfl, rfl, rfl, ?_, fun k hk hne => ?_⟩
  · simp [sortWorldK, putRowK, putRow, mapBlock, Go.Sort.ahead]
  · unfold sortWorldK
    rw [heap_grow_old _ _ (by simpa [putRowK, putRow, mapBlock, Go.Sort.ahead] using hk)]
    have : g ≠ k := fun e => hne (by rw [e])
    simp [putRowK, putRow, mapBlock, Go.Sort.ahead, Array.getElem?_modify, this]
end Go.Proofs.Ytidmfcamlgeipaa.Sha

/-
  What a set becomes as it is told things: added one by one; a map's block above. No conditions.
-/
namespace Go.Proofs.Ytidmfcamlgeipaa.Sha
open Go Go.RowKit
def topM (n : Nat) : Nat := n % 2100000000000001
theorem topM_le (n : Nat) : topM n ≤ 2100000000000000 := by unfold topM; omega
/-- A coin with its value brought into its bound. -/
def mnT (c : TMn) : TMn := ⟨topM c.val, c.lock, c.height, c.base⟩
def mnF (c : TMn) : TMn := ⟨2100000000000001, c.lock, c.height, c.base⟩
theorem mnT_ok {c : TMn} (h : MnOk c) : MnOk (mnT c) := ⟨h.1, Nat.le_trans (topM_le _) (by omega), h.2.2⟩
theorem mnF_ok {c : TMn} (h : MnOk c) : MnOk (mnF c) := ⟨h.1, by show 2100000000000001 ≤ _; omega, h.2.2⟩
def ptN (p : TPt) : TPt := ⟨p.h, (p.n + 1) % 4294967296⟩
theorem ptN_ok {p : TPt} (h : PtOk p) : PtOk (ptN p) := ⟨h.1, by show (p.n + 1) % 4294967296 ≤ _; omega⟩
theorem ptN_ne {p : TPt} (h : PtOk p) : p ≠ ptN p := fun e => by
  have h1 := congrArg TPt.n e
  have h2 := h.2
  simp only [ptN] at h1
  omega
/-- A map's block is above this one. -/
def HiM (base : Nat) (m : Option Nat) : Prop := ∀ q, m = some q → base ≤ q
theorem HiM.add {base s : Nat} {m m' : Option Nat} (h : HiM base m) (hs : base ≤ s) (hm : m' = m ∨ ∃ b, m' = some b ∧ s ≤ b) : HiM base m' := by
  rcases hm with rfl | ⟨b, rfl, hb⟩
  · exact h
  · intro q e
    cases e
    exact Nat.le_trans hs hb
theorem Below.set {base : Nat} {w0 w w' : World} {a : Nat} {m : Option Nat} (h : Below base w0 w) (hk : Kps (fun j => j ≠ a ∧ m ≠ some j) w w') (ha : base ≤ a) (hm : HiM base m) (hb : base ≤ w.heap.size) : Below base w0 w' :=
  h.trans ⟨hk.os, hk.tape, hk.output, hk.size, fun k hlt => hk.block k (by omega) ⟨by omega, fun e => by have := hm k e; omega⟩⟩
theorem addR_fits {l : List TSp} {p : TPt} {k : TMn} (hv : k.val ≤ 2100000000000000) (hn : getC l p = none) : addR l p k = 0 := by
  unfold addR
  rw [if_neg (by omega), hn]
  rfl
theorem addL_fits {l : List TSp} {p : TPt} {k : TMn} (hv : k.val ≤ 2100000000000000) (hn : getC l p = none) : addL l p k = l ++ [⟨p, k⟩] := by
  unfold addL
  rw [if_pos (addR_fits hv hn)]
theorem addR_there {l : List TSp} {p : TPt} {k : TMn} (hv : k.val ≤ 2100000000000000) (hn : (getC l p).isSome = true) : addR l p k = 6 := by
  unfold addR
  rw [if_neg (by omega), if_pos hn]
theorem addR_great {l : List TSp} {p : TPt} {k : TMn} (hv : 2100000000000000 < k.val) : addR l p k = 5 := by
  unfold addR
  rw [if_pos hv]
theorem addL_not {l : List TSp} {p : TPt} {k : TMn} {c : Nat} (h : addR l p k = c + 1) : addL l p k = l := by
  unfold addL
  rw [if_neg (by omega)]
theorem getC_one (p : TPt) (k : TMn) : getC [⟨p, k⟩] p = some k := by simp [getC]
theorem getC_other {p q : TPt} (k : TMn) (h : p ≠ q) : getC [⟨p, k⟩] q = none := by simp [getC, h]
/-- A coin's cells but for its value. -/
def mnR (c : TMn) : List Value := c.lock.map bV ++ [.int .i64 c.height, .bool c.base]
def addC (s : List TSp) (x : TSp) : List TSp := addL s x.at_ x.coin
/-- All added, one by one. -/
def addsC (l : List TSp) : List TSp := l.foldl addC []
theorem addsC_take {l : List TSp} {k : Nat} {x : TSp} (h : l[k]? = some x) : addsC (l.take (k + 1)) = addC (addsC (l.take k)) x := by
  have hk := (List.getElem?_eq_some_iff.1 h).1
  rw [List.take_succ_eq_append_getElem hk, (List.getElem?_eq_some_iff.1 h).2]
  simp [addsC, List.foldl_append]
theorem addL_zero {l : List TSp} {x : TSp} (h : addR l x.at_ x.coin = 0) : addL l x.at_ x.coin = l ++ [x] := by
  unfold addL
  rw [if_pos h]
theorem addL_succ {l : List TSp} {p : TPt} {k : TMn} {c : Nat} (h : addR l p k = c + 1) : addL l p k = l := addL_not h
theorem addL_len (l : List TSp) (p : TPt) (k : TMn) : (addL l p k).length ≤ l.length + 1 := by
  unfold addL
  split
  · simp
  · omega
theorem foldl_len (l : List TSp) : ∀ s, (l.foldl addC s).length ≤ s.length + l.length := by
  induction l with
  | nil => intro s; simp
  | cons x l ih =>
    intro s
    rw [List.foldl_cons]
    have h1 := ih (addC s x)
    have h2 := addL_len s x.at_ x.coin
    rw [List.length_cons]
    unfold addC at h1 ⊢
    omega
theorem addsC_length (l : List TSp) : (addsC l).length ≤ l.length := by
  have := foldl_len l []
  simpa [addsC] using this
theorem worthC_snoc (l : List TSp) (x : TSp) : worthC (l ++ [x]) = worthC l + x.coin.val := by simp [worthC]
theorem sorted_next {l : List TSp} {j : Nat} {x y : TSp} (h : SortedC l) (hx : l[j]? = some x) (hy : l[j + 1]? = some y) : lessPt x.at_.h x.at_.n y.at_.h y.at_.n = true := by
  obtain ⟨h1, h2⟩ := List.getElem?_eq_some_iff.1 hx
  obtain ⟨h3, h4⟩ := List.getElem?_eq_some_iff.1 hy
  have := (List.pairwise_iff_getElem.1 h) j (j + 1) h1 h3 (Nat.lt_succ_self _)
  rw [h2, h4] at this
  exact this
end Go.Proofs.Ytidmfcamlgeipaa.Sha

/-
  A coin with its place built out of its parts. No conditions beyond those that each states.
-/
namespace Go.Proofs.Ytidmfcamlgeipaa.Sha
open Go Go.RowKit
def ptZ : TPt := ⟨List.replicate 32 0, 0⟩
theorem ptZ_ok : PtOk ptZ := ⟨rfl, Nat.zero_le _⟩
end Go.Proofs.Ytidmfcamlgeipaa.Sha

/-
  All coins of a set with their places, in the places' order: new memory; nothing that was there turns. Conditions: the set lies where the pointer says, at most 2^20 coins.
-/
namespace Go.Proofs.Ytidmfcamlgeipaa.Sha
open Go Go.RowKit
theorem iter_row {w : World} {m : Option Nat} {r k n base : Nat} {rest : List TSp} {T : TypeId} {v : Value} {xs : List Value} (h : IterAt w m r rest) (ho : w.ownsRow base T k v n xs) : v.ownBlock ≠ some r ∧ ∀ b, m = some b → v.ownBlock ≠ some b := by
  rcases ho.2 with ⟨rfl, _⟩ | ⟨g, cap, cur, rfl, _, hg, _⟩
  · exact ⟨fun e => (by cases e), fun b _ e => (by cases e)⟩
  · cases m with
    | none =>
      refine ⟨fun e => ?_, fun b e => (by cases e)⟩
      have e' : g = r := Option.some.inj e
      have h2 := h.2
      rw [← e', hg] at h2
      cases h2
    | some b =>
      obtain ⟨es, clock, since, seen, c0, hb, _, hr, _⟩ := h
      refine ⟨fun e => ?_, fun b' eb e => ?_⟩
      · have e' : g = r := Option.some.inj e
        rw [← e', hg] at hr
        cases hr
      · have e' : g = b' := Option.some.inj e
        have e2 : b = b' := Option.some.inj eb
        rw [e2, ← e', hg] at hb
        cases hb
theorem IterAt.grown {w w' : World} {m : Option Nat} {r : Nat} {q : Option Nat} {rest : List TSp} (h : IterAt w m r rest) (hg : w.grownBy w' q) (h1 : q ≠ some r) (h2 : ∀ b, m = some b → q ≠ some b) : IterAt w' m r rest :=
  h.kps (F := fun k => q ≠ some k) (Kps.grown hg fun k _ hk e => hk e.symm) (fun b hb => h2 b hb) h1
end Go.Proofs.Ytidmfcamlgeipaa.Sha

/-
  A coin's bytes, as a set's digest reads them: package coins writes them into new memory; nothing that was there turns. Conditions: a coin as the model has it.
-/
namespace Go.Proofs.Ytidmfcamlgeipaa.Sha
open Go Go.RowKit
/-- A height's 64 bits. -/
def hN (h : Int) : Nat := (h % 18446744073709551616).toNat
/-- A coin's bytes. -/
def spB (x : TSp) : List UInt8 := x.at_.h ++ leB x.at_.n 4 ++ leB x.coin.val 8 ++ x.coin.lock ++ leB (hN x.coin.height) 4 ++ [if x.coin.base then 1 else 0]
theorem spB_length {x : TSp} (hx : SpOk x) : (spB x).length = 81 := by simp [spB, leB_length, hx.1.1, hx.2.1]
theorem leB_congr : ∀ (k n m : Nat), n % 256 ^ k = m % 256 ^ k → leB n k = leB m k
  | 0, _, _, _ => rfl
  | k + 1, n, m, h => by
    have h1 : n % 256 ^ k = m % 256 ^ k := by
      have e1 : 256 ^ k ∣ 256 ^ (k + 1) := ⟨256, by rw [Nat.pow_succ]⟩
      rw [← Nat.mod_mod_of_dvd n e1, h, Nat.mod_mod_of_dvd m e1]
    have h2 : n / 256 ^ k % 256 = m / 256 ^ k % 256 := by
      rw [Nat.pow_succ] at h
      rw [← Nat.mod_mul_right_div_self, ← Nat.mod_mul_right_div_self, h]
    rw [leB, leB, leB_congr k n m h1]
    congr 2
    rw [← UInt8.toNat_inj, UInt8.toNat_ofNat', UInt8.toNat_ofNat']
    exact h2
def LowestInv (n many base : Nat) (bs : List UInt8) (w : World) (vb vn vi : Value) (wr : World) : Prop :=
  ∃ (k q : Nat), k ≤ many ∧ vi = .int .i64 k ∧ vn = .int .u64 (q : Int) ∧ q = n / 256 ^ k ∧ OwnB base base w wr vb (bs ++ leB n k)
end Go.Proofs.Ytidmfcamlgeipaa.Sha

/-
  A set's digest: of all coins' bytes, in the order of their places; nothing that was there turns. Conditions: the set lies where the pointer says, at most 2^20 coins; the table of the rounds' words is there.
-/
namespace Go.Proofs.Ytidmfcamlgeipaa.Sha
open Go Go.RowKit
theorem RwAt.kps {F : Nat → Prop} {k : Nat} {w w' : World} {v : Value} {L : List (List Value)} (h : RwAt k w v L) (hk : Kps F w w') (h0 : 0 < k) (hf : ∀ sp n cap, v = .slice (some sp) n cap → F sp.block) : RwAt k w' v L := by
  obtain ⟨ho, sp, cap, hv, hc, hr⟩ := h
  refine ⟨ho, sp, cap, hv, hc, fun hl => ?_⟩
  obtain ⟨b, o, hs, hx⟩ := hr hl
  refine ⟨b, o, hs, fun i x hi j u hj => ?_⟩
  have h1 := hx i x hi j u hj
  rw [World.cell?_of_block (hk.block b (World.block_lt_of_cell? w _ h1) (hf ⟨b, o, none⟩ L.length cap (by rw [hv, hs])))]
  exact h1
/-- All coins' bytes. -/
def bytesC (l : List TSp) : List UInt8 := l.flatMap spB
theorem bytesC_take {l : List TSp} {k : Nat} {x : TSp} (h : l[k]? = some x) : bytesC (l.take k) ++ spB x = bytesC (l.take (k + 1)) := by
  have hk := (List.getElem?_eq_some_iff.1 h).1
  rw [List.take_succ_eq_append_getElem hk, (List.getElem?_eq_some_iff.1 h).2]
  simp [bytesC]
theorem bytesC_length : ∀ {l : List TSp}, (∀ x ∈ l, SpOk x) → (bytesC l).length = 81 * l.length
  | [], _ => rfl
  | x :: l, h => by
    have ih := bytesC_length (l := l) (fun y hy => h y (List.mem_cons_of_mem _ hy))
    simp only [bytesC] at ih
    simp only [bytesC, List.flatMap_cons, List.length_append, ih, spB_length (h x List.mem_cons_self), List.length_cons]
    omega
end Go.Proofs.Ytidmfcamlgeipaa.Sha

/-
  Two sets side by side; a set's coins in the one order; a part of a coin written in its box. No conditions beyond those that each states.
-/
namespace Go.Proofs.Ytidmfcamlgeipaa.Sha
open Go Go.RowKit
theorem ex_sorted (l : List TSp) (ho : ∀ x ∈ l, SpOk x) (ha : l.Pairwise (fun x y => x.at_ ≠ y.at_)) : ∃ L, L.Perm l ∧ SortedC L := by
  obtain ⟨d, rfl⟩ := lift_ok l ho
  have ht : ∀ a b c : OSp, (!ltSp b.1 a.1) = true → (!ltSp c.1 b.1) = true → (!ltSp c.1 a.1) = true := fun a b c h1 h2 => by
    have := swoS.ntrans c b a
    rw [lt_cfS, lt_cfS, lt_cfS] at this
    simp only [Bool.not_eq_true'] at h1 h2 ⊢
    exact this h2 h1
  have hto : ∀ a b : OSp, ((!ltSp b.1 a.1) || (!ltSp a.1 b.1)) = true := fun a b => by
    cases h : ltSp b.1 a.1
    · rfl
    · rw [ltSp_asym b.2 a.2 h]; rfl
  have hp := List.mergeSort_perm d (fun a b => !ltSp b.1 a.1)
  have hs := List.pairwise_mergeSort ht hto d
  refine ⟨(d.mergeSort (fun a b => !ltSp b.1 a.1)).map (·.1), hp.map _, ?_⟩
  have ha2 : ((d.mergeSort (fun a b => !ltSp b.1 a.1)).map (·.1)).Pairwise (fun x y => x.at_ ≠ y.at_) := ((hp.map (·.1)).pairwise_iff (fun {x y} h => Ne.symm h)).2 ha
  unfold SortedC
  rw [List.pairwise_map] at ha2 ⊢
  exact (hs.and ha2).imp (fun {a b} ⟨h1, h2⟩ => ltSp_total b.2 a.2 (fun e => h2 e.symm) (by simpa using h1))
section
variable {w w' : World} {a : Nat} {m : Option Nat} {l L : List TSp}
end
section
variable {w w' : World} {a b : Nat} {m m' k : Option Nat} {s s' t : List TSp}
end
section
variable {ops : Array Oper} {rest : List Oper} {op : Oper} {a : Act} {w : World} {Q : Exit → Act → World → Prop} {g : Nat}
end
/-! The coins that the statement makes: each at a place of its own, its value in its bound. -/
def bkX (l : List TSp) (i : Nat) : TSp := ⟨⟨(l.getD i spZ).at_.h, i⟩, mnT (l.getD i spZ).coin⟩
def bkS (l : List TSp) (k : Nat) : List TSp := (List.range k).map (bkX l)
def bkT (l : List TSp) (n k : Nat) : List TSp := (List.range k).map fun i => bkX l (n - 1 - i)
theorem bkX_ok {l : List TSp} (h : ∀ x ∈ l, SpOk x) {i : Nat} (hi : i ≤ 4294967295) : SpOk (bkX l i) := by
  have h2 : SpOk (l.getD i spZ) := by
    rw [List.getD_eq_getElem?_getD]
    cases hx : l[i]? with
    | none => exact spZ_ok
    | some x => exact h x (List.mem_of_getElem? hx)
  exact ⟨⟨h2.1.1, hi⟩, mnT_ok h2.2⟩
theorem bkS_succ (l : List TSp) (k : Nat) : bkS l (k + 1) = bkS l k ++ [bkX l k] := by simp [bkS, List.range_succ]
theorem bkT_succ (l : List TSp) (n k : Nat) : bkT l n (k + 1) = bkT l n k ++ [bkX l (n - 1 - k)] := by simp [bkT, List.range_succ]
theorem bkS_none (l : List TSp) {k i : Nat} (h : k ≤ i) : getC (bkS l k) (bkX l i).at_ = none := getC_none fun x hx e => by
  obtain ⟨j, hj, rfl⟩ := List.mem_map.1 hx
  have hj := List.mem_range.1 hj
  have := congrArg TPt.n e
  simp only [bkX] at this
  omega
theorem bkT_none (l : List TSp) {n k : Nat} (h : k < n) : getC (bkT l n k) (bkX l (n - 1 - k)).at_ = none := getC_none fun x hx e => by
  obtain ⟨j, hj, rfl⟩ := List.mem_map.1 hx
  have hj := List.mem_range.1 hj
  have := congrArg TPt.n e
  simp only [bkX] at this
  omega
theorem bkT_rev (l : List TSp) (n : Nat) : bkT l n n = (bkS l n).reverse := by
  apply List.ext_getElem
  · simp [bkT, bkS]
  · intro i h1 h2
    simp [bkT, bkS]
theorem bk_perm (l : List TSp) (n : Nat) : (bkT l n n).Perm (bkS l n) := by rw [bkT_rev]; exact List.reverse_perm _
theorem bkS_length (l : List TSp) (n : Nat) : (bkS l n).length = n := by simp [bkS]
theorem bkT_length (l : List TSp) (n k : Nat) : (bkT l n k).length = k := by simp [bkT]
theorem bkS_get (l : List TSp) {n i : Nat} (h : i < n) : (bkS l n)[i]? = some (bkX l i) := by
  rw [bkS, List.getElem?_map, List.getElem?_range h]
  rfl
theorem del_length {l : List TSp} {p : TPt} {j : Nat} {x : TSp} (ha : l.Pairwise (fun x y => x.at_ ≠ y.at_)) (hj : l[j]? = some x) (hp : x.at_ = p) : (delC l p).length + 1 = l.length := by
  have hjl := (List.getElem?_eq_some_iff.1 hj).1
  rw [← delC_idx ha hj hp, List.length_eraseIdx_of_lt hjl]
  omega
theorem del_none (l : List TSp) (p : TPt) : getC (delC l p) p = none := getC_none fun x hx e => by
  have := (List.mem_filter.1 hx).2
  simp [e] at this
theorem del_perm {l : List TSp} {p : TPt} {j : Nat} {x : TSp} (ha : l.Pairwise (fun x y => x.at_ ≠ y.at_)) (hj : l[j]? = some x) (hp : x.at_ = p) : (delC l p ++ [x]).Perm l := by
  obtain ⟨hjl, hx⟩ := List.getElem?_eq_some_iff.1 hj
  have e : l = l.take j ++ x :: l.drop (j + 1) := by
    conv => lhs; rw [← List.take_append_drop j l]
    rw [List.drop_eq_getElem_cons hjl, hx]
  rw [← delC_idx ha hj hp, List.eraseIdx_eq_take_drop_succ]
  have h1 : (l.take j ++ x :: l.drop (j + 1)).Perm (x :: (l.take j ++ l.drop (j + 1))) := List.perm_middle
  rw [← e] at h1
  exact (List.perm_append_comm (l₁ := l.take j ++ l.drop (j + 1)) (l₂ := [x])).trans h1.symm
end Go.Proofs.Ytidmfcamlgeipaa.Sha

/-
  The statements' own order of digests, LessHash. Nothing that was there turns. Condition: digests of 32 bytes.
-/
namespace Go.Proofs.Ytidmfcamlgeipaa.Sha
open Go Go.RowKit
theorem lessL_at : ∀ (k : Nat) (l m : List UInt8), (∀ j, j < k → l.getD j 0 = m.getD j 0) → k < l.length → k < m.length → l.getD k 0 ≠ m.getD k 0 → lessL l m = decide (l.getD k 0 < m.getD k 0)
  | 0, x :: l, y :: m, _, _, _, h => by
    have h' : x ≠ y := h
    rw [less_cons, decide_eq_false h']
    simp
  | k + 1, x :: l, y :: m, hp, hl, hm, h => by
    have h0 : x = y := hp 0 (by omega)
    subst h0
    rw [less_cons, lessL_at k l m (fun j hj => hp (j + 1) (by omega)) (by simpa using hl) (by simpa using hm) h]
    simp
theorem bv_lt (x y : UInt8) : decide (bv x < bv y) = decide (x < y) := by
  unfold bv
  by_cases h : x < y
  · rw [decide_eq_true h, decide_eq_true (by rw [UInt8.lt_iff_toNat_lt] at h; omega)]
  · rw [decide_eq_false h, decide_eq_false (by rw [UInt8.lt_iff_toNat_lt] at h; omega)]
end Go.Proofs.Ytidmfcamlgeipaa.Sha

/-
  The statements' own set: a box with an own row of coins in the order of their places; where a place is, or would be. Nothing that was there turns. Conditions: the set lies where the pointer says, in order, at most 2^20 coins.
-/
namespace Go.Proofs.Ytidmfcamlgeipaa.Sha
open Go Go.RowKit
section
variable {w w' : World} {base a : Nat} {v : Value} {L : List TSp}
end
/-! Where a place is, or would be. -/
def ltP (x : TSp) (p : TPt) : Bool := lessPt x.at_.h x.at_.n p.h p.n
def Rank (L : List TSp) (p : TPt) (k : Nat) : Prop := k ≤ L.length ∧ (∀ i x, L[i]? = some x → i < k → ltP x p = true) ∧ (∀ i x, L[i]? = some x → k ≤ i → ltP x p = false)
section
variable {L : List TSp} {p : TPt}
theorem sorted_lt (hs : SortedC L) {i j : Nat} {x y : TSp} (hi : L[i]? = some x) (hj : L[j]? = some y) (h : i < j) : ltSp x y = true := by
  obtain ⟨h1, h2⟩ := List.getElem?_eq_some_iff.1 hi
  obtain ⟨h3, h4⟩ := List.getElem?_eq_some_iff.1 hj
  have := (List.pairwise_iff_getElem.1 hs) i j h1 h3 h
  rwa [h2, h4] at this
theorem rank_up (hs : SortedC L) (ho : ∀ x ∈ L, SpOk x) (hp : PtOk p) {m : Nat} {x : TSp} (hm : L[m]? = some x) (h : ltP x p = true) : ∀ i y, L[i]? = some y → i < m + 1 → ltP y p = true := by
  intro i y hy hi
  rcases Nat.lt_or_ge i m with h1 | h1
  · have oy := ho y (List.mem_of_getElem? hy)
    have ox := ho x (List.mem_of_getElem? hm)
    exact lessPt_trans (by rw [oy.1.1, ox.1.1]) (by rw [ox.1.1, hp.1]) (sorted_lt hs hy hm h1) h
  · have e : i = m := by omega
    rw [e, hm] at hy
    cases hy
    exact h
theorem rank_down (hs : SortedC L) (ho : ∀ x ∈ L, SpOk x) (hp : PtOk p) {m : Nat} {x : TSp} (hm : L[m]? = some x) (h : ltP x p = false) : ∀ i y, L[i]? = some y → m ≤ i → ltP y p = false := by
  intro i y hy hi
  rcases Nat.lt_or_ge m i with h1 | h1
  · cases hc : ltP y p with
    | false => rfl
    | true =>
      have oy := ho y (List.mem_of_getElem? hy)
      have ox := ho x (List.mem_of_getElem? hm)
      have := lessPt_trans (by rw [ox.1.1, oy.1.1]) (by rw [oy.1.1, hp.1]) (sorted_lt hs hm hy h1) hc
      unfold ltP at h
      rw [this] at h
      cases h
  · have e : i = m := by omega
    rw [e, hm] at hy
    cases hy
    exact h
/-- What is there stands at its rank. -/
theorem rank_there (hs : SortedC L) {k : Nat} (hr : Rank L p k) {j : Nat} {x : TSp} (hj : L[j]? = some x) (hx : x.at_ = p) : j = k := by
  have h1 : ltP x p = false := by unfold ltP; rw [hx]; exact lessPt_self _ _
  rcases Nat.lt_trichotomy j k with h | h | h
  · rw [hr.2.1 j x hj h] at h1
    cases h1
  · exact h
  · have hjl := (List.getElem?_eq_some_iff.1 hj).1
    obtain ⟨y, hy⟩ : ∃ y, L[k]? = some y := ⟨_, List.getElem?_eq_getElem (Nat.lt_trans h hjl)⟩
    have h2 := sorted_lt hs hy hj h
    have h3 := hr.2.2 k y hy (Nat.le_refl _)
    unfold ltSp at h2
    unfold ltP at h3
    rw [hx, h3] at h2
    cases h2
theorem getC_at {x : TSp} (ha : L.Pairwise (fun x y => x.at_ ≠ y.at_)) {k : Nat} (hs : SortedC L) (hr : Rank L p k) (hk : L[k]? = some x) : getC L p = if x.at_ = p then some x.coin else none := by
  by_cases h : x.at_ = p
  · rw [if_pos h]
    exact getC_some ha hk h
  · rw [if_neg h]
    refine getC_none fun y hy e => ?_
    obtain ⟨j, hj⟩ := List.getElem?_of_mem hy
    have := rank_there hs hr hj e
    rw [this, hk] at hj
    cases hj
    exact h e
theorem getC_past {k : Nat} (hs : SortedC L) (hr : Rank L p k) (hk : L.length ≤ k) : getC L p = none := by
  refine getC_none fun y hy e => ?_
  obtain ⟨j, hj⟩ := List.getElem?_of_mem hy
  have := rank_there hs hr hj e
  have := (List.getElem?_eq_some_iff.1 hj).1
  omega
theorem sorted_apart (hs : SortedC L) : L.Pairwise (fun x y => x.at_ ≠ y.at_) := hs.imp fun {x y} h e => by
  unfold ltSp at h
  rw [e, lessPt_self] at h
  cases h
end
def CnPlInv (L : List TSp) (p : TPt) (w : World) (vl vh : Value) (wr : World) : Prop :=
  ∃ lo hi : Nat, lo ≤ hi ∧ hi ≤ L.length ∧ vl = .int .i64 (lo : Int) ∧ vh = .int .i64 (hi : Int) ∧ (∀ i x, L[i]? = some x → i < lo → ltP x p = true) ∧ (∀ i x, L[i]? = some x → hi ≤ i → ltP x p = false) ∧ Below w.heap.size w wr
end Go.Proofs.Ytidmfcamlgeipaa.Sha

/-
  The statements' own copy of a row of coins: new memory; a row put behind an own one, whatever stands in either. Nothing that was there turns. Conditions: the coins lie where the slice says, at most 2^20 of them.
-/
namespace Go.Proofs.Ytidmfcamlgeipaa.Sha
open Go Go.RowKit
theorem RwAt.one {k : Nat} {w : World} {g : Nat} {T : TypeId} {fr : Nat × Nat} {x : List Value} (h : w.heap[g]? = some (.cells x.toArray T fr)) (hx : x.length = k) : RwAt k w (.slice (some ⟨g, 0, none⟩) 1 1) [x] := by
  refine ⟨fun y hy => by rw [List.mem_singleton.1 hy]; exact hx, some ⟨g, 0, none⟩, 1, rfl, Nat.le_refl _, fun _ => ⟨g, 0, rfl, fun i y hy => ?_⟩⟩
  match i, hy with
  | 0, hy =>
    simp only [List.getElem?_cons_zero, Option.some.injEq] at hy
    subst hy
    rw [Nat.zero_mul, Nat.zero_add]
    exact range_of_box h
  | i + 1, hy => simp at hy
theorem RwOwn.lower {k : Nat} {T : TypeId} {base base' : Nat} {w : World} {v : Value} {L : List (List Value)} (h : RwOwn k T base w v L) (hb : base' ≤ base) : RwOwn k T base' w v L := ⟨own_base h.1 hb, h.2⟩
theorem sps_one (l : List TSp) : ∀ m ∈ l.map spL, ∀ u ∈ m, u.oneCell' = true := fun m hm => by
  obtain ⟨x, _, rfl⟩ := List.mem_map.1 hm
  exact spL_one x
end Go.Proofs.Ytidmfcamlgeipaa.Sha

/-
  Rows of 32-bit numbers; the statements' own copy of one: new memory. Nothing that was there turns. Condition: at most 2^20 numbers.
-/
namespace Go.Proofs.Ytidmfcamlgeipaa.Sha
open Go Go.RowKit
def u32C (x : Nat) : List Value := [.int .u32 (x : Int)]
theorem info_u32 : (Try.prog.info? 24).map (fun i => (i.zero, i.size, i.bytes)) = some (some (.int .u32 0), 1, 4) := by kernel_rfl
theorem u32C_one (x : Nat) : ∀ v ∈ u32C x, v.oneCell' = true := fun v hv => by
  rw [List.mem_singleton.1 hv]
  rfl
theorem u32s_one (l : List Nat) : ∀ m ∈ l.map u32C, ∀ u ∈ m, u.oneCell' = true := fun m hm => by
  obtain ⟨x, _, rfl⟩ := List.mem_map.1 hm
  exact u32C_one x
theorem u32_cell {w : World} {b o i x : Nat} (h : w.rangeAt b (o + i * 1) (u32C x)) : w.cell? ⟨b, o + i, none⟩ = some (.int .u32 (x : Int)) := by
  have := h 0 _ rfl
  simpa using this
theorem u32_at {w : World} {v : Value} {l : List Nat} (h : RwAt 1 w v (l.map u32C)) : U32At w v l := by
  obtain ⟨sp, cap, rfl⟩ := h.shape
  rw [List.length_map] at h ⊢
  refine ⟨sp, cap, rfl, fun h0 => ⟨h.len.2, ?_⟩⟩
  obtain ⟨b, o, rfl, hg⟩ := h.get h0
  exact ⟨b, o, rfl, fun i x hx => u32_cell (hg i (u32C x) (by rw [List.getElem?_map, hx]; rfl))⟩
def HvInv (l : List Nat) (w : World) (vs vi : Value) (wr : World) : Prop :=
  ∃ (k : Nat) (vb : Value), vb = vs ∧ vi = .int .i64 (k : Int) ∧ k ≤ l.length ∧ RwOwn 1 24 w.heap.size wr vb ((l.take k).map u32C) ∧ Below w.heap.size w wr
set_option maxHeartbeats 2000000 in
set_option maxRecDepth 100000 in
theorem rhalves_any (l : List Nat) (v : Value) (w : World) (hl : RwAt 1 w v (l.map u32C)) (hn : l.length ≤ 1048576) :
    Calls Try.prog 8 #[v] w fun e w' => ∃ v', e = .returned v' ∧ RwOwn 1 24 w.heap.size w' v' (l.map u32C) ∧ Below w.heap.size w w' := by
  obtain ⟨i0, hi, hz0, hz1, hz2⟩ := info_parts info_u32
  obtain ⟨sp, cap, rfl⟩ := hl.shape
  rw [List.length_map] at hl ⊢
  obtain ⟨n, hnl⟩ : ∃ n, n = l.length := ⟨_, rfl⟩
  rw [← hnl] at hl hn ⊢
  have HN := Lib.hid hnl
  have HL := Lib.hid hl
  clear hl hnl
  go_enter Try.func8, Try.ntmps8
  go_wp2_with (at_make; refine wpList_make_own _ rfl _ _ 22 rfl w.heap.size 24 i0 (.int .u32 0) 1 Try.underlying22 hi hz0 hz1 _ _ _ n rfl rfl rfl (by rw [hz2]; omega) (by unfold maxLen; omega) (Nat.le_refl _) ?_; intro w2 hown hgrow; have HO0 := Lib.hid hown; have HG0 := Lib.hid hgrow; clear hown hgrow; go_frame)
  have HB0 := Lib.hid ((Below.refl _ _).grown HG0.out (Nat.le_refl _) (fun k hk => by cases hk))
  have HST : Hid (RwOwn 1 24 w.heap.size w2 (.slice (some ⟨w.heap.size, 0, none⟩) 0 n) ((l.take 0).map u32C)) := ⟨HO0.out, fun x hx => by simp at hx⟩
  clear HO0 HG0
  go_loopw [3, 4] (fun vs vi wr => HvInv l w vs vi wr) (fun _ vi _ => n - (intOf vi).toNat)
  case atStart => exact ⟨0, _, rfl, rfl, Nat.zero_le _, HST.out, HB0.out⟩
  case round =>
    clear HST HB0
    obtain ⟨k, vb, rfl, rfl, hk, ho, hb⟩ := hrel
    have HO := Lib.hid ho
    have B := Lib.hid hb
    clear ho hb
    rw [← HN.out] at hk
    by_cases hlt : k < n
    · obtain ⟨b, o, rfl, hg⟩ := (HL.out.below B.out).get (by omega)
      have hkl : k < l.length := by rw [← HN.out]; exact hlt
      obtain ⟨x, hx⟩ : ∃ x, l[k]? = some x := ⟨_, List.getElem?_eq_getElem hkl⟩
      have cx := u32_cell (hg k (u32C x) (by rw [List.getElem?_map, hx]; rfl))
      have HT : Hid ((l.take (k + 1)).map u32C = (l.take k).map u32C ++ [u32C x]) := by
        show _ = _
        rw [List.take_succ_eq_append_getElem hkl, (List.getElem?_eq_some_iff.1 hx).2, List.map_append, List.map_singleton]
      have HTL : Hid (((l.take k).map u32C).length ≤ 1048576) := by show _ ≤ _; rw [List.length_map, List.length_take]; omega
      have p0 : 0 ≤ (k : Int) := by omega
      have q0 : (k : Int) < (n : Int) := by omega
      clear hg hx hkl
      go_wp2_with (at_builtin; refine wpList_append_own _ rfl _ _ 22 rfl w.heap.size 24 i0 (.int .u32 0) 1 4 Try.underlying22 hi hz0 hz1 hz2 rfl (by decide) vb _ (((l.take k).map u32C).flatten) rfl (HO.out.1.alloc _) ⟨wr.heap.size, 0, none⟩ 1 1 [.int .u32 (x : Int)] rfl rfl (cell_one_new _ _ _) (u32C_one x) (by have := HTL.out; unfold maxLen; omega) (by have := HTL.out; omega) (by have := B.out.size; simp; omega) ?_; intro v3 w3 q1 q2 _; have HO3 : Hid (RwOwn 1 24 w.heap.size w3 v3 (((l.take k).map u32C) ++ [u32C x])) := RwOwn.push HO.out.2 rfl q1; have B3 := Lib.hid (own_grown (B.out.alloc B.out.size _) (Nat.le_refl _) (by have := B.out.size; simp; omega) (HO.out.1.alloc _) q2); clear q1 q2; go_frame)
      go_roundw
      case rel => exact ⟨k + 1, _, rfl, by go_num, by rw [← HN.out]; omega, by rw [HT.out]; exact HO3.out, B3.out⟩
      case measure => simp [intOf]; omega
    · have HF : Hid (RwOwn 1 24 w.heap.size wr vb (l.map u32C)) := by
        have h := HO.out
        rw [List.take_of_length_le (by rw [← HN.out]; omega)] at h
        exact h
      have hge : ¬ (k : Int) < (n : Int) := by omega
      clear HO
      go_wp2_with fail
      go_ret
      exact ⟨_, rfl, HF.out, B.out⟩
end Go.Proofs.Ytidmfcamlgeipaa.Sha

/-
  An argument of type []uint32 reads as a row of numbers. No conditions.
-/
namespace Go.Proofs.Ytidmfcamlgeipaa.Sha
open Go Go.RowKit
theorem u32s_of_row {w : World} {a : Option Addr} {len cap : Nat} {zs : List Int} (h : IsRow .u32 w a len cap zs) : ∃ l : List Nat, RwAt 1 w (.slice a len cap) (l.map u32C) ∧ l.length = len := by
  rcases h with ⟨rfl, rfl, rfl, rfl⟩ | ⟨x, rfl, hl, hm, hz, hc, hw⟩
  · exact ⟨[], RwAt.nil 1 w none 0, rfl⟩
  · by_cases h0 : len = 0
    · subst h0
      exact ⟨[], RwAt.nil 1 w _ cap, rfl⟩
    · obtain ⟨b, off, rfl, hcell⟩ := ints_at hc (by omega)
      have hlen : ((zs.take len).map fun z => z.toNat).length = len := by rw [List.length_map, List.length_take]; omega
      refine ⟨(zs.take len).map fun z => z.toNat, ⟨fun m hm => ?_, _, cap, by rw [List.length_map, hlen], by rw [List.length_map, hlen]; exact hl, fun _ => ⟨b, off, rfl, fun i m hi => ?_⟩⟩, hlen⟩
      · obtain ⟨x, _, rfl⟩ := List.mem_map.1 hm
        rfl
      · rw [List.getElem?_map] at hi
        obtain ⟨y, hy, rfl⟩ := Option.map_eq_some_iff.1 hi
        rw [List.getElem?_map] at hy
        obtain ⟨z, hz1, rfl⟩ := Option.map_eq_some_iff.1 hy
        obtain ⟨hi1, hi2⟩ := List.getElem?_eq_some_iff.1 hz1
        rw [List.length_take] at hi1
        rw [List.getElem_take] at hi2
        have hi3 : i < zs.length := by omega
        have e1 : zs.getD i 0 = z := by simp [List.getD, List.getElem?_eq_getElem hi3, hi2]
        have hb := bounds_u32 (hw z (by rw [← hi2]; exact List.getElem_mem hi3))
        have hci := hcell i hi3
        rw [e1] at hci
        intro j v hv
        rw [Nat.mul_one]
        match j, hv with
        | 0, hv =>
          obtain rfl := Option.some.inj hv
          rw [Nat.add_zero, hci]
          congr 2
          omega
        | j + 1, hv => simp [u32C] at hv
end Go.Proofs.Ytidmfcamlgeipaa.Sha

/-
  The one in the middle of the last eleven of a row of numbers: pure.
-/
namespace Go.Proofs.Ytidmfcamlgeipaa.Sha
open Go Go.RowKit
def insM (s : List Nat) (x : Nat) : List Nat := s.takeWhile (fun y => decide (y ≤ x)) ++ x :: s.dropWhile (fun y => decide (y ≤ x))
def sortM (l : List Nat) : List Nat := l.foldl insM []
def last11 (l : List Nat) : List Nat := l.drop (l.length - 11)
def medN (l : List Nat) : Nat := (sortM (last11 l)).getD ((sortM (last11 l)).length / 2) 0
theorem insM_length (s : List Nat) (x : Nat) : (insM s x).length = s.length + 1 := by
  have h := congrArg List.length (List.takeWhile_append_dropWhile (p := fun y => decide (y ≤ x)) (l := s))
  rw [List.length_append] at h
  unfold insM
  rw [List.length_append, List.length_cons]
  omega
theorem sortM_succ {l : List Nat} {k x : Nat} (h : l[k]? = some x) : sortM (l.take (k + 1)) = insM (sortM (l.take k)) x := by
  have hk := (List.getElem?_eq_some_iff.1 h).1
  unfold sortM
  rw [List.take_succ_eq_append_getElem hk, (List.getElem?_eq_some_iff.1 h).2, List.foldl_append]
  rfl
theorem sortM_length (l : List Nat) : ∀ k, k ≤ l.length → (sortM (l.take k)).length = k
  | 0, _ => rfl
  | k + 1, h => by
    rw [sortM_succ (List.getElem?_eq_getElem (show k < l.length by omega)), insM_length, sortM_length l k (by omega)]
theorem insM_at : ∀ (s : List Nat) (x k : Nat), k ≤ s.length → (∀ j y, j < k → s[j]? = some y → y ≤ x) → (∀ y, s[k]? = some y → ¬ y ≤ x) → insM s x = s.take k ++ x :: s.drop k
  | [], x, k, h, _, _ => by
    obtain rfl : k = 0 := Nat.le_zero.1 h
    rfl
  | y :: s, x, 0, _, _, h2 => by
    have hy := h2 y rfl
    unfold insM
    rw [List.takeWhile_cons_of_neg (by simpa using hy), List.dropWhile_cons_of_neg (by simpa using hy)]
    rfl
  | y :: s, x, k + 1, h, h1, h2 => by
    have hy := h1 0 y (by omega) rfl
    have ih := insM_at s x k (by simpa using h) (fun j z hj hz => h1 (j + 1) z (by omega) (by simpa using hz)) (fun z hz => h2 z (by simpa using hz))
    unfold insM at ih ⊢
    rw [List.takeWhile_cons_of_pos (by simpa using hy), List.dropWhile_cons_of_pos (by simpa using hy), List.cons_append, ih]
    rfl
theorem insM_perm (s : List Nat) (x : Nat) : (insM s x).Perm (x :: s) := by
  unfold insM
  refine List.perm_middle.trans (List.Perm.cons x ?_)
  rw [List.takeWhile_append_dropWhile]
theorem sortM_foldl_perm : ∀ (l s : List Nat), (l.foldl insM s).Perm (l ++ s)
  | [], s => List.Perm.refl s
  | x :: l, s => by
    rw [List.foldl_cons]
    refine (sortM_foldl_perm l (insM s x)).trans ?_
    refine (List.Perm.append_left l (insM_perm s x)).trans ?_
    exact List.perm_middle
theorem sortM_perm (l : List Nat) : (sortM l).Perm l := by
  have h := sortM_foldl_perm l []
  rwa [List.append_nil] at h
theorem insM_cons_le {y x : Nat} {s : List Nat} (h : y ≤ x) : insM (y :: s) x = y :: insM s x := by
  unfold insM
  rw [List.takeWhile_cons_of_pos (by simpa using h), List.dropWhile_cons_of_pos (by simpa using h), List.cons_append]
theorem insM_cons_gt {y x : Nat} {s : List Nat} (h : ¬ y ≤ x) : insM (y :: s) x = x :: y :: s := by
  unfold insM
  rw [List.takeWhile_cons_of_neg (by simpa using h), List.dropWhile_cons_of_neg (by simpa using h), List.nil_append]
theorem insM_sorted : ∀ (s : List Nat) (x : Nat), s.Pairwise (· ≤ ·) → (insM s x).Pairwise (· ≤ ·)
  | [], x, _ => List.pairwise_singleton _ x
  | y :: s, x, h => by
    obtain ⟨h1, h2⟩ := List.pairwise_cons.1 h
    by_cases hy : y ≤ x
    · rw [insM_cons_le hy]
      refine List.pairwise_cons.2 ⟨fun z hz => ?_, insM_sorted s x h2⟩
      rcases List.mem_cons.1 ((insM_perm s x).mem_iff.1 hz) with rfl | hz
      · exact hy
      · exact h1 z hz
    · rw [insM_cons_gt hy]
      refine List.pairwise_cons.2 ⟨fun z hz => ?_, h⟩
      rcases List.mem_cons.1 hz with rfl | hz
      · omega
      · have := h1 z hz; omega
theorem sortM_foldl_sorted : ∀ (l s : List Nat), s.Pairwise (· ≤ ·) → (l.foldl insM s).Pairwise (· ≤ ·)
  | [], _, h => h
  | x :: l, s, h => sortM_foldl_sorted l (insM s x) (insM_sorted s x h)
theorem sortM_sorted (l : List Nat) : (sortM l).Pairwise (· ≤ ·) := sortM_foldl_sorted l [] List.Pairwise.nil
theorem sortM_of {l s : List Nat} (hp : s.Perm l) (hs : s.Pairwise (· ≤ ·)) : s = sortM l :=
  List.Perm.eq_of_pairwise (le := (· ≤ ·)) (fun a b _ _ h1 h2 => Nat.le_antisymm h1 h2) hs (sortM_sorted l) (hp.trans (sortM_perm l).symm)
theorem sortM_len (l : List Nat) : (sortM l).length = l.length := (sortM_perm l).length_eq
theorem sortM_congr {l m : List Nat} (h : l.Perm m) : sortM l = sortM m := sortM_of ((sortM_perm l).trans h) (sortM_sorted l)
theorem last11_small {l : List Nat} (h : l.length ≤ 11) : last11 l = l := by
  unfold last11
  rw [show l.length - 11 = 0 by omega, List.drop_zero]
theorem last11_app (a : List Nat) {b : List Nat} (h : 11 ≤ b.length) : last11 (a ++ b) = b.drop (b.length - 11) := by
  unfold last11
  rw [List.length_append, List.drop_append, List.drop_of_length_le (show a.length ≤ a.length + b.length - 11 by omega), List.nil_append, show a.length + b.length - 11 - a.length = b.length - 11 by omega]
theorem medN_congr {l m : List Nat} (h : l.Perm m) (hl : l.length ≤ 11) : medN l = medN m := by
  have hm : m.length ≤ 11 := by rw [← h.length_eq]; exact hl
  unfold medN
  rw [last11_small hl, last11_small hm, sortM_congr h]
theorem medN_last (a : List Nat) {b : List Nat} (h : 11 ≤ b.length) : medN (a ++ b) = medN (b.drop (b.length - 11)) := by
  have hd : last11 (b.drop (b.length - 11)) = b.drop (b.length - 11) := last11_small (by rw [List.length_drop]; omega)
  unfold medN
  rw [last11_app a h, hd]
theorem sorted_le {s : List Nat} (h : s.Pairwise (· ≤ ·)) {i j x y : Nat} (hij : i ≤ j) (hx : s[i]? = some x) (hy : s[j]? = some y) : x ≤ y := by
  obtain ⟨h1, rfl⟩ := List.getElem?_eq_some_iff.1 hx
  obtain ⟨h2, rfl⟩ := List.getElem?_eq_some_iff.1 hy
  rcases Nat.lt_or_ge i j with hlt | hge
  · exact List.pairwise_iff_getElem.1 h i j h1 h2 hlt
  · obtain rfl : i = j := by omega
    exact Nat.le_refl _
theorem count_le_aux (p : Nat → Bool) (s : List Nat) (k : Nat) (h : ∀ x ∈ s.drop k, p x = false) : s.countP p ≤ k := by
  have e : s.countP p = (s.take k).countP p + (s.drop k).countP p := by rw [← List.countP_append, List.take_append_drop]
  have e0 : (s.drop k).countP p = 0 := List.countP_eq_zero.2 fun x hx => by simp [h x hx]
  have e1 : (s.take k).countP p ≤ (s.take k).length := List.countP_le_length
  rw [List.length_take] at e1
  omega
theorem count_le_aux2 (p : Nat → Bool) (s : List Nat) (k : Nat) (h : ∀ x ∈ s.take k, p x = false) : s.countP p ≤ s.length - k := by
  have e : s.countP p = (s.take k).countP p + (s.drop k).countP p := by rw [← List.countP_append, List.take_append_drop]
  have e0 : (s.take k).countP p = 0 := List.countP_eq_zero.2 fun x hx => by simp [h x hx]
  have e1 : (s.drop k).countP p ≤ (s.drop k).length := List.countP_le_length
  rw [List.length_drop] at e1
  omega
/-- What the one in the middle is: one of them; no more below it, above it, than half. -/
theorem medN_mid {l : List Nat} (h0 : 0 < l.length) (h1 : l.length ≤ 11) : medN l ∈ l ∧ l.countP (fun x => decide (x < medN l)) ≤ l.length / 2 ∧ l.countP (fun x => decide (medN l < x)) ≤ (l.length - 1) / 2 := by
  obtain ⟨s, hs⟩ : ∃ s, s = sortM l := ⟨_, rfl⟩
  have hp : s.Perm l := by rw [hs]; exact sortM_perm l
  have so : s.Pairwise (· ≤ ·) := by rw [hs]; exact sortM_sorted l
  have hl : s.length = l.length := hp.length_eq
  obtain ⟨m, hm⟩ : ∃ m, s[s.length / 2]? = some m := ⟨_, List.getElem?_eq_getElem (by omega)⟩
  have e : medN l = m := by
    unfold medN
    rw [last11_small h1, ← hs, List.getD_eq_getElem?_getD, hm]
    rfl
  rw [e]
  refine ⟨hp.mem_iff.1 (List.mem_of_getElem? hm), ?_, ?_⟩
  · rw [← hp.countP_eq, ← hl]
    refine count_le_aux _ s _ fun x hx => ?_
    obtain ⟨i, hi⟩ := List.getElem?_of_mem hx
    rw [List.getElem?_drop] at hi
    have := sorted_le so (Nat.le_add_right _ i) hm hi
    simpa using this
  · rw [← hp.countP_eq, show (l.length - 1) / 2 = s.length - (s.length / 2 + 1) by omega]
    refine count_le_aux2 _ s _ fun x hx => ?_
    obtain ⟨i, hi⟩ := List.getElem?_of_mem hx
    obtain ⟨hi1, hi2⟩ := List.getElem?_eq_some_iff.1 hi
    rw [List.length_take] at hi1
    rw [List.getElem_take] at hi2
    have := sorted_le so (show i ≤ s.length / 2 by omega) (List.getElem?_eq_some_iff.2 ⟨by omega, hi2⟩) hm
    simpa using this
end Go.Proofs.Ytidmfcamlgeipaa.Sha

/-
  The library's sort of a row of at most twelve 32-bit numbers, in place. Conditions: at most twelve.
-/
namespace Go.Proofs.Ytidmfcamlgeipaa.Sha
open Go Go.RowKit
open Go.Sort (swp insInner insOuter ltInt putRow Holds putRow_self cell?_putRow frozen?_putRow holds_ahead size_swp)
set_option maxHeartbeats 1000000 in
theorem psnan_any (x : Int) (w : World) : Calls Try.prog 28 #[.int .u32 x] w fun e w' => e = .returned (.bool false) ∧ w' = w := by
  go_enter Try.func28, Try.ntmps28
  go_wp2
  go_ret
  exact ⟨by simp, rfl⟩
set_option maxHeartbeats 1000000 in
theorem psless_any (x y : Int) (w : World) : Calls Try.prog 18 #[.int .u32 x, .int .u32 y] w fun e w' => e = .returned (.bool (ltInt x y)) ∧ w' = w := by
  go_enter Try.func18, Try.ntmps18
  go_wp2_with (go_at_call 28; refine (psnan_any _ _).mono ?_; rintro e w' ⟨rfl, rfl⟩)
  go_ret
  exact ⟨rfl, rfl⟩
set_option maxHeartbeats 8000000 in
set_option maxRecDepth 100000 in
theorem psins_any (blk off cap a b : Nat) (d : Array Int) (w : World) (hH : Holds (Value.int .u32) w blk off d) (hab : a ≤ b) (hb : b ≤ d.size) (hsz : d.size < 4611686018427387904) :
    Calls Try.prog 12 #[.slice (some ⟨blk, off, none⟩) d.size cap, .int .i64 a, .int .i64 b] w fun e w' =>
      e = .returned (.tuple #[]) ∧ ∃ n, w' = putRow (Value.int .u32) (Sort.ahead w n) blk off (Sort.insertionSort ltInt d a b) := by
  go_enter Try.func12, Try.ntmps12
  go_wp2
  go_loopw [6] (fun vi wr => ∃ (i n : Nat) (dk : Array Int), vi = .int .i64 i ∧ a < i ∧ i ≤ b + 1 ∧ dk.size = d.size ∧ wr = putRow (Value.int .u32) (Sort.ahead w n) blk off dk ∧
      insOuter ltInt a b i dk = insOuter ltInt a b (a + 1) d) (fun vi _ => b + 1 - (intOf vi).toNat)
  case atStart => exact ⟨a + 1, 0, d, by go_num, by omega, by omega, rfl, (putRow_self _ _ _ _ _ hH).symm, rfl⟩
  case round =>
    obtain ⟨i, n, dk, rfl, hai, hib, hsk, hwr, hO⟩ := hrel
    have HO : Hid (insOuter ltInt a b i dk = insOuter ltInt a b (a + 1) d) := hO
    clear hO
    go_wp2
    · go_loopw [7] (fun vj wr2 => ∃ (j m : Nat) (dj : Array Int), vj = .int .i64 j ∧ a ≤ j ∧ j ≤ i ∧ dj.size = d.size ∧ wr2 = putRow (Value.int .u32) (Sort.ahead w m) blk off dj ∧
          insInner ltInt a j dj = insInner ltInt a i dk) (fun vj _ => (intOf vj).toNat)
      case atStart => exact ⟨i, n, dk, rfl, by omega, Nat.le_refl _, hsk, rfl, rfl⟩
      case round =>
        obtain ⟨j, m, dj, rfl, haj, hji, hsj, hw2, hI⟩ := hrel
        have hlt : i < b := by assumption
        obtain ⟨G, hG⟩ : ∃ G : Nat → Int, ∀ t, G t = dj[t]! := ⟨fun t => dj[t]!, fun _ => rfl⟩
        have hcw : ∀ t, t < d.size → wr.cell? ⟨blk, off + t, none⟩ = some (.int .u32 (G t)) := fun t ht => by
          rw [hw2, hG]; exact cell?_putRow _ _ _ _ d dj (holds_ahead _ _ _ _ _ _ hH) hsj t (by omega)
        have hfw : ∀ t, t < d.size → wr.frozen? ⟨blk, off + t, none⟩ = false := fun t ht => by
          rw [hw2, frozen?_putRow]; exact ((holds_ahead _ _ m _ _ _ hH) t ht).2
        have HW : Hid (wr = putRow (Value.int .u32) (Sort.ahead w m) blk off dj) := hw2
        have HG : Hid (∀ t, G t = dj[t]!) := hG
        have HI : Hid (insInner ltInt a j dj = insInner ltInt a i dk) := hI
        clear hw2 hG hI hH
        have out : (j ≤ a ∨ ltInt dj[j]! dj[j - 1]! = false) → ∀ q, ∃ i' n' dk', Value.int .i64 ((i : Int) + 1) = .int .i64 (i' : Nat) ∧ a < i' ∧ i' ≤ b + 1 ∧ dk'.size = d.size ∧
            wr.drewN q = putRow (Value.int .u32) (Sort.ahead w n') blk off dk' ∧ insOuter ltInt a b i' dk' = insOuter ltInt a b (a + 1) d := fun hs q =>
          ⟨i + 1, m + q, dj, by go_num, by omega, by omega, hsj, by rw [HW.out]; exact putRow_drewN _ _ _ _ _ _ _,
            by rw [← HO.out, insOuter_go _ _ _ _ _ hlt, ← HI.out, insInner_stop _ _ _ _ hs]⟩
        have OUT : Hid _ := out
        clear out
        go_wp2
        by_cases hja : a < j
        · go_quiet (first | (go_at_call 18; refine Calls.quiet_of_same (psless_any _ _ _)))
          go_wp2
          · have hl : ltInt (G j) (G (j - 1)) = true := by assumption
            go_region
            all_goals go_wp2
            go_roundw
            case rel =>
              refine ⟨j - 1, m + (nq + 1), swp dj j (j - 1), by congr 1; omega, by omega, by omega, by rw [size_swp]; exact hsj, ?_, ?_⟩
              · rw [HW.out, HG.out, HG.out]
                exact swap_worldA _ w m (nq + 1) blk off dj j (j - 1) (by omega) (by omega)
              · rw [← HI.out, insInner_go ltInt a j dj hja (by rw [← HG.out, ← HG.out]; exact hl)]
            case measure => simp [intOf]; omega
          · have hl : ltInt (G j) (G (j - 1)) = false := by assumption
            go_roundw
            case rel => exact OUT.out (Or.inr (by rw [← HG.out, ← HG.out]; exact hl)) nq
            case measure => simp [intOf]; omega
        · go_quiet (first | (go_at_call 18; refine Calls.quiet_of_same (psless_any _ _ _)))
          go_wp2
          go_roundw
          case rel => exact OUT.out (Or.inl (by omega)) nq
          case measure => simp [intOf]; omega
    · have hge : ¬ i < b := by assumption
      go_end0
      exact ⟨rfl, n, by unfold Sort.insertionSort; rw [← HO.out, insOuter_stop _ _ _ _ _ hge]⟩
end Go.Proofs.Ytidmfcamlgeipaa.Sha

/-
  The library's sort of a row of at most twelve 32-bit numbers, in place: its entry. Conditions: at most twelve.
-/
namespace Go.Proofs.Ytidmfcamlgeipaa.Sha
open Go Go.RowKit
open Go.Sort (swp insInner insOuter ltInt putRow Holds putRow_self cell?_putRow frozen?_putRow holds_ahead size_swp)
set_option maxHeartbeats 4000000 in
set_option maxRecDepth 100000 in
theorem pslen64_any (x : Nat) (hx : x ≤ 12) (w : World) : Calls Try.prog 22 #[.int .u64 (x : Int)] w fun e w' => (∃ k : Int, e = .returned (.int .i64 k)) ∧ w' = w := by
  have h : x = 0 ∨ x = 1 ∨ x = 2 ∨ x = 3 ∨ x = 4 ∨ x = 5 ∨ x = 6 ∨ x = 7 ∨ x = 8 ∨ x = 9 ∨ x = 10 ∨ x = 11 ∨ x = 12 := by omega
  rcases h with rfl | rfl | rfl | rfl | rfl | rfl | rfl | rfl | rfl | rfl | rfl | rfl | rfl
  all_goals (go_enter Try.func22, Try.ntmps22; go_wp2; go_ret; exact ⟨⟨_, rfl⟩, rfl⟩)
set_option maxHeartbeats 1000000 in
theorem pslen_any (x : Nat) (hx : x ≤ 12) (w : World) : Calls Try.prog 11 #[.int .u64 (x : Int)] w fun e w' => (∃ k : Int, e = .returned (.int .i64 k)) ∧ w' = w := by
  go_enter Try.func11, Try.ntmps11
  go_wp2_with (go_at_call 22; refine (pslen64_any x hx _).mono ?_; rintro e w' ⟨⟨k, rfl⟩, rfl⟩)
  go_ret
  exact ⟨⟨_, rfl⟩, rfl⟩
set_option maxHeartbeats 4000000 in
set_option maxRecDepth 100000 in
theorem pspdq_any (blk off cap : Nat) (d : Array Int) (k : Int) (w : World) (hH : Holds (Value.int .u32) w blk off d) (hsz : d.size ≤ 12) :
    Calls Try.prog 10 #[.slice (some ⟨blk, off, none⟩) d.size cap, .int .i64 0, .int .i64 (d.size : Int), .int .i64 k] w fun e w' =>
      e = .returned (.tuple #[]) ∧ ∃ n, w' = putRow (Value.int .u32) (Sort.ahead w n) blk off (Sort.insertionSort ltInt d 0 d.size) := by
  obtain ⟨n, hn⟩ : ∃ n, n = d.size := ⟨_, rfl⟩
  have HI : Hid (Calls Try.prog 12 #[.slice (some ⟨blk, off, none⟩) n cap, .int .i64 0, .int .i64 (n : Int)] w fun e w' =>
      e = .returned (.tuple #[]) ∧ ∃ q, w' = putRow (Value.int .u32) (Sort.ahead w q) blk off (Sort.insertionSort ltInt d 0 n)) := by
    show Calls _ _ _ _ _
    rw [hn]
    exact psins_any blk off cap 0 d.size d w hH (Nat.zero_le _) (Nat.le_refl _) (by omega)
  rw [← hn] at hsz ⊢
  have le : (n : Int) - 0 ≤ 12 := by omega
  clear hn hH
  go_enter Try.func10, Try.ntmps10
  go_wp2_with fail
  go_loopw [1, 2, 3, 8, 9] (fun s1 s2 s3 s8 s9 wr => s1 = .int .i64 0 ∧ s2 = .int .i64 (n : Int) ∧ s3 = .int .i64 k ∧ s8 = .bool true ∧ s9 = .bool true ∧ w = wr) (fun _ _ _ _ _ _ => 0)
  case atStart => exact ⟨rfl, rfl, rfl, rfl, rfl, rfl⟩
  case round =>
    obtain ⟨rfl, rfl, rfl, rfl, rfl, rfl⟩ := hrel
    go_wp2_with (go_at_call 12; refine HI.out.mono ?_; rintro e w' ⟨rfl, q, hq⟩; have HQ := Lib.hid hq; clear hq)
    (try simp only [Exit.inBlock, Exit.then])
    refine bodyPost_ret (results_none rfl _ _ _) rfl ?_
    exact ⟨rfl, q, HQ.out⟩
set_option maxHeartbeats 2000000 in
set_option maxRecDepth 100000 in
theorem pssort_any (blk off cap : Nat) (d : Array Int) (w : World) (hH : Holds (Value.int .u32) w blk off d) (hsz : d.size ≤ 12) :
    Calls Try.prog 9 #[.slice (some ⟨blk, off, none⟩) d.size cap] w fun e w' =>
      e = .returned (.tuple #[]) ∧ ∃ n, w' = putRow (Value.int .u32) (Sort.ahead w n) blk off (Sort.insertionSort ltInt d 0 d.size) := by
  obtain ⟨n, hn⟩ : ∃ n, n = d.size := ⟨_, rfl⟩
  have HP : Hid (∀ k : Int, Calls Try.prog 10 #[.slice (some ⟨blk, off, none⟩) n cap, .int .i64 0, .int .i64 (n : Int), .int .i64 k] w fun e w' =>
      e = .returned (.tuple #[]) ∧ ∃ q, w' = putRow (Value.int .u32) (Sort.ahead w q) blk off (Sort.insertionSort ltInt d 0 n)) := by
    show ∀ k : Int, _
    intro k
    rw [hn]
    exact pspdq_any blk off cap d k w hH hsz
  rw [← hn] at hsz ⊢
  clear hn hH
  go_enter Try.func9, Try.ntmps9
  go_wp2_with (first | (go_at_call 11; refine (pslen_any n hsz _).mono ?_; rintro e w' ⟨⟨k, rfl⟩, rfl⟩) | (go_at_call 10; refine (HP.out _).mono ?_; rintro e w' ⟨rfl, q, hq⟩; have HQ := Lib.hid hq; clear hq))
  go_end0
  exact ⟨rfl, q, HQ.out⟩
end Go.Proofs.Ytidmfcamlgeipaa.Sha
