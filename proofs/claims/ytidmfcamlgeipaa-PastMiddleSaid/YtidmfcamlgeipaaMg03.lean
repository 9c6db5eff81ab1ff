/-
  Texts of this proof joined into one file: CnVal, Keep, CnMap, StoreW, CnSet, CnSpend, RefRipe, CmpTake, CmpRead, CmpRead2, CmpHash, RdrState, NumMath, Par. What each holds, and under which conditions, its own first sentence tells.
-/
import Derived.DeepKeys4
import Derived.Maps.RangeRun
import Derived.Laws.ResultCell
import Derived.LaidEql
import Derived.Deep.DeepFit
import Derived.Deep.RegionLaw
import Derived.Test.YtidmfcamlgeipaaMg02
import Derived.Test.YtidmfcamlgeipaaMg01
/-
  Coins as the model has them: a coin's 35 cells, a place's 33, a coin with its place 68; rows of elements of so many cells behind a slice, whatever they hold. No conditions beyond those that each states.
-/
namespace Go.Proofs.Ytidmfcamlgeipaa.Sha
open Go Go.RowKit
/-- A place. -/
structure TPt where
  h : List UInt8
  n : Nat
/-- A coin: its value, lock, height, base. -/
structure TMn where
  val : Nat
  lock : List UInt8
  height : Int
  base : Bool
/-- A coin with its place. -/
structure TSp where
  at_ : TPt
  coin : TMn
instance : DecidableEq TPt := fun a b => if h : a.h = b.h ∧ a.n = b.n then isTrue (by cases a; cases b; obtain ⟨h1, h2⟩ := h; subst h1 h2; rfl) else isFalse (fun e => h (by rw [e]; exact ⟨rfl, rfl⟩))
def PtOk (p : TPt) : Prop := p.h.length = 32 ∧ p.n ≤ 4294967295
def MnOk (c : TMn) : Prop := c.lock.length = 32 ∧ c.val ≤ 18446744073709551615 ∧ -9223372036854775808 ≤ c.height ∧ c.height ≤ 9223372036854775807
def SpOk (x : TSp) : Prop := PtOk x.at_ ∧ MnOk x.coin
def ptC (p : TPt) : List Value := ptL p.h p.n
def mnL (c : TMn) : List Value := .int .u64 (c.val : Int) :: (c.lock.map bV ++ [.int .i64 c.height, .bool c.base])
def spL (x : TSp) : List Value := ptC x.at_ ++ mnL x.coin
theorem ptC_length {p : TPt} (h : PtOk p) : (ptC p).length = 33 := by simp [ptC, ptL, h.1]
theorem mnL_length {c : TMn} (h : MnOk c) : (mnL c).length = 35 := by simp [mnL, h.1]
theorem spL_length {x : TSp} (h : SpOk x) : (spL x).length = 68 := by simp [spL, ptC_length h.1, mnL_length h.2]
theorem ptC_size {p : TPt} (h : PtOk p) : (ptC p).toArray.size = 33 := by simp [ptC_length h]
theorem mnL_size {c : TMn} (h : MnOk c) : (mnL c).toArray.size = 35 := by simp [mnL_length h]
theorem spL_size {x : TSp} (h : SpOk x) : (spL x).toArray.size = 68 := by simp [spL_length h]
theorem ptC_one (p : TPt) : ∀ v ∈ ptC p, v.oneCell' = true := ptL_one' _ _
theorem mnL_one (c : TMn) : ∀ v ∈ mnL c, v.oneCell' = true := by
  intro v hv
  simp only [mnL, List.mem_cons, List.mem_append, List.not_mem_nil, or_false] at hv
  rcases hv with rfl | hv | rfl | rfl
  · rfl
  · exact bV_one' _ v hv
  · rfl
  · rfl
theorem spL_one (x : TSp) : ∀ v ∈ spL x, v.oneCell' = true := by
  intro v hv
  rcases List.mem_append.1 hv with h | h
  · exact ptC_one _ v h
  · exact mnL_one _ v h
theorem ptC_all (p : TPt) : (ptC p).toArray.all (·.oneCell') = true := all_oneCell_toArray (ptC_one p)
theorem mnL_all (c : TMn) : (mnL c).toArray.all (·.oneCell') = true := all_oneCell_toArray (mnL_one c)
theorem spL_all (x : TSp) : (spL x).toArray.all (·.oneCell') = true := all_oneCell_toArray (spL_one x)
theorem bV_list_inj : ∀ {l m : List UInt8}, l.map bV = m.map bV → l = m
  | [], [], _ => rfl
  | [], _ :: _, h => by simp at h
  | _ :: _, [], h => by simp at h
  | x :: l, y :: m, h => by
    simp only [List.map_cons, List.cons.injEq, bV, Value.int.injEq, true_and] at h
    rw [bv_inj h.1, bV_list_inj h.2]
theorem ptC_inj {p q : TPt} (h : ptC p = ptC q) : p = q := by
  have hl : p.h.length = q.h.length := by
    have := congrArg List.length h
    simpa [ptC, ptL] using this
  obtain ⟨h1, h2⟩ := List.append_inj h (by simp [hl])
  simp only [List.cons.injEq, and_true, nV, Value.int.injEq, true_and] at h2
  have e1 := bV_list_inj h1
  have e2 : p.n = q.n := by omega
  cases p
  cases q
  simp only at e1 e2
  rw [e1, e2]
theorem ptC_agg_inj {p q : TPt} (h : Value.agg (ptC p).toArray = .agg (ptC q).toArray) : p = q := ptC_inj (by
  have := Value.agg.inj h
  simpa using this)
/-- What of a coin in a box lies where. -/
theorem mn_lock {w : World} {b o : Nat} {c : TMn} (h : w.rangeAt b o (mnL c)) : w.rangeAt b (o + 1) (c.lock.map bV) := fun j v hj => by
  have := h (j + 1) v (by
    rw [mnL, List.getElem?_cons_succ, List.getElem?_append_left (List.getElem?_eq_some_iff.1 hj).1]
    exact hj)
  rwa [show o + (j + 1) = o + 1 + j by omega] at this
theorem mn_val {w : World} {b o : Nat} {c : TMn} (h : w.rangeAt b o (mnL c)) : w.cell? ⟨b, o, none⟩ = some (.int .u64 (c.val : Int)) := h 0 _ rfl
theorem mn_height {w : World} {b o : Nat} {c : TMn} (hl : c.lock.length = 32) (h : w.rangeAt b o (mnL c)) : w.cell? ⟨b, o + 33, none⟩ = some (.int .i64 c.height) := h 33 _ (by
  rw [mnL, List.getElem?_cons_succ, List.getElem?_append_right (by simp [hl])]
  simp [hl])
theorem mn_base {w : World} {b o : Nat} {c : TMn} (hl : c.lock.length = 32) (h : w.rangeAt b o (mnL c)) : w.cell? ⟨b, o + 34, none⟩ = some (.bool c.base) := h 34 _ (by
  rw [mnL, List.getElem?_cons_succ, List.getElem?_append_right (by simp [hl])]
  simp [hl])
theorem sp_pt {w : World} {b o : Nat} {x : TSp} (h : w.rangeAt b o (spL x)) : w.rangeAt b o (ptC x.at_) := fun j v hj => h j v (by
  rw [spL, List.getElem?_append_left (List.getElem?_eq_some_iff.1 hj).1]
  exact hj)
theorem sp_mn {w : World} {b o : Nat} {x : TSp} (hx : SpOk x) (h : w.rangeAt b o (spL x)) : w.rangeAt b (o + 33) (mnL x.coin) := fun j v hj => by
  have := h (33 + j) v (by
    rw [spL, List.getElem?_append_right (by rw [ptC_length hx.1]; omega), ptC_length hx.1, Nat.add_sub_cancel_left]
    exact hj)
  rwa [show o + (33 + j) = o + 33 + j by omega] at this
theorem pt_hash_r {w : World} {b o : Nat} {p : TPt} (h : w.rangeAt b o (ptC p)) : w.rangeAt b o (p.h.map bV) := fun j v hj => h j v (by
  rw [ptC, ptL, List.getElem?_append_left (List.getElem?_eq_some_iff.1 hj).1]
  exact hj)
theorem pt_num_r {w : World} {b o : Nat} {p : TPt} (hp : p.h.length = 32) (h : w.rangeAt b o (ptC p)) : w.cell? ⟨b, o + 32, none⟩ = some (.int .u32 (p.n : Int)) := h 32 _ (by
  rw [ptC, ptL, List.getElem?_append_right (by simp [hp])]
  simp [hp, nV])
/-! Rows of elements of k cells each. -/
/-- All of k cells. -/
def AllK (k : Nat) (L : List (List Value)) : Prop := ∀ x ∈ L, x.length = k
theorem AllK.snoc {k : Nat} {L : List (List Value)} {x : List Value} (h : AllK k L) (hx : x.length = k) : AllK k (L ++ [x]) := fun y hy => by
  rcases List.mem_append.1 hy with hy | hy
  · exact h y hy
  · rw [List.mem_singleton.1 hy]; exact hx
theorem AllK.take {k : Nat} {L : List (List Value)} (h : AllK k L) (n : Nat) : AllK k (L.take n) := fun x hx => h x (List.mem_of_mem_take hx)
theorem AllK.get {k : Nat} {L : List (List Value)} (h : AllK k L) {i : Nat} {x : List Value} (hx : L[i]? = some x) : x.length = k := h x (List.mem_of_getElem? hx)
theorem flatten_snoc (L : List (List Value)) (x : List Value) : (L ++ [x]).flatten = L.flatten ++ x := by simp
theorem flatten_length {k : Nat} : ∀ (L : List (List Value)), AllK k L → L.flatten.length = L.length * k
  | [], _ => by simp
  | y :: L, h => by
    rw [List.flatten_cons, List.length_append, flatten_length L (fun z hz => h z (List.mem_cons_of_mem _ hz)), h y List.mem_cons_self, List.length_cons, Nat.add_mul, Nat.one_mul, Nat.add_comm]
theorem flatten_get {k : Nat} : ∀ (L : List (List Value)) (i : Nat) (y : List Value), AllK k L → L[i]? = some y → ∀ j, j < k → L.flatten[i * k + j]? = y[j]?
  | z :: L, 0, y, h, hy, j, hj => by
    simp only [List.getElem?_cons_zero, Option.some.injEq] at hy
    subst hy
    rw [Nat.zero_mul, Nat.zero_add, List.flatten_cons, List.getElem?_append_left (by rw [h z List.mem_cons_self]; exact hj)]
  | z :: L, i + 1, y, h, hy, j, hj => by
    have e : z.length = k := h z List.mem_cons_self
    rw [List.flatten_cons, List.getElem?_append_right (by rw [e, Nat.add_mul, Nat.one_mul]; omega), e, show (i + 1) * k + j - k = i * k + j by rw [Nat.add_mul, Nat.one_mul]; omega]
    exact flatten_get L i y (fun z hz => h z (List.mem_cons_of_mem _ hz)) (by simpa using hy) j hj
  | [], _, _, _, hy, _, _ => by simp at hy
/-- The slice v reads as these elements. -/
def RwAt (k : Nat) (w : World) (v : Value) (L : List (List Value)) : Prop :=
  AllK k L ∧ ∃ sp cap, v = .slice sp L.length cap ∧ L.length ≤ cap ∧ (0 < L.length → ∃ b o, sp = some ⟨b, o, none⟩ ∧ ∀ i x, L[i]? = some x → w.rangeAt b (o + i * k) x)
theorem RwAt.below {k : Nat} {w w' : World} {v : Value} {L : List (List Value)} (h : RwAt k w v L) (hb : Below w.heap.size w w') : RwAt k w' v L := by
  obtain ⟨h0, sp, cap, h1, h2, h3⟩ := h
  refine ⟨h0, sp, cap, h1, h2, fun h0 => ?_⟩
  obtain ⟨b, o, h4, h5⟩ := h3 h0
  exact ⟨b, o, h4, fun i x hx => range_below (h5 i x hx) hb⟩
theorem RwAt.nil (k : Nat) (w : World) (sp : Option Addr) (cap : Nat) : RwAt k w (.slice sp 0 cap) [] := ⟨fun x hx => by simp at hx, sp, cap, rfl, by simp, fun h => by simp at h⟩
theorem RwAt.len {k : Nat} {w : World} {sp : Option Addr} {n cap : Nat} {L : List (List Value)} (h : RwAt k w (.slice sp n cap) L) : n = L.length ∧ n ≤ cap := by
  obtain ⟨_, sp', cap', hv, hc, _⟩ := h
  cases hv
  exact ⟨rfl, hc⟩
theorem RwAt.shape {k : Nat} {w : World} {v : Value} {L : List (List Value)} (h : RwAt k w v L) : ∃ sp cap, v = .slice sp L.length cap := by
  obtain ⟨_, sp, cap, hv, _⟩ := h
  exact ⟨sp, cap, hv⟩
/-- Where they lie. -/
theorem RwAt.get {k : Nat} {w : World} {sp : Option Addr} {n cap : Nat} {L : List (List Value)} (h : RwAt k w (.slice sp n cap) L) (h0 : 0 < n) : ∃ b o, sp = some ⟨b, o, none⟩ ∧ ∀ i x, L[i]? = some x → w.rangeAt b (o + i * k) x := by
  obtain ⟨ho, sp', cap', hv, hc, hr⟩ := h
  cases hv
  exact hr h0
/-- A row of one's own. -/
def RwOwn (k : Nat) (T : TypeId) (base : Nat) (w : World) (v : Value) (L : List (List Value)) : Prop := w.ownsRow base T k v L.length L.flatten ∧ AllK k L
theorem RwOwn.nil (k : Nat) (T : TypeId) (base : Nat) (w : World) : RwOwn k T base w (.slice none 0 0) [] := ⟨World.ownsRow_nil _ _ _ _, fun _ h => absurd h (by simp)⟩
section
variable {k : Nat} {T : TypeId} {base : Nat} {w w' : World} {v v' : Value} {L : List (List Value)}
theorem RwOwn.keep (h : RwOwn k T base w v L) (hb : Below w.heap.size w w') : RwOwn k T base w' v L := ⟨own_kept h.1 hb, h.2⟩
theorem RwOwn.kept (h : RwOwn k T base w v L) {q : Option Nat} (hg : w.grownBy w' q) (hb : v.ownBlock = none ∨ v.ownBlock ≠ q) : RwOwn k T base w' v L := ⟨h.1.kept hg hb, h.2⟩
theorem RwOwn.push {x : List Value} (ho : AllK k L) (hx : x.length = k) (hown : w'.ownsRow base T k v' (L.length + 1) (L.flatten ++ x)) : RwOwn k T base w' v' (L ++ [x]) := by
  refine ⟨?_, ho.snoc hx⟩
  rw [flatten_snoc, List.length_append]
  exact hown
/-- Such a row as a slice. -/
theorem RwOwn.at (h : RwOwn k T base w v L) (hk : 0 < k) : RwAt k w v L := by
  obtain ⟨h2, h3⟩ := h
  refine ⟨h3, ?_⟩
  rcases h2.2 with ⟨hv, h0⟩ | ⟨g, cap, cur, hv, hb, hc, hn, hm, hs, ht⟩
  · exact ⟨none, 0, by rw [hv, h0], by omega, fun h => by omega⟩
  · subst hv
    refine ⟨_, cap, rfl, hn, fun h0 => ⟨g, 0, rfl, fun i x hx => ?_⟩⟩
    have hi := (List.getElem?_eq_some_iff.1 hx).1
    have hxo := h3.get hx
    intro j u hj
    have hjk : j < k := by
      have := (List.getElem?_eq_some_iff.1 hj).1
      omega
    have hlt : i * k + j < L.length * k := by
      have : (i + 1) * k ≤ L.length * k := Nat.mul_le_mul_right _ hi
      rw [Nat.add_mul, Nat.one_mul] at this
      omega
    rw [Nat.zero_add, h2.cellAt (i * k + j) hlt, flatten_get L i x h3 hx j hjk]
    exact hj
end
/-- A part of such a slice. -/
theorem RwAt.cut {k : Nat} {w : World} {sp : Option Addr} {n cap : Nat} {L : List (List Value)} (h : RwAt k w (.slice sp n cap) L) (i r : Nat) (h1 : i ≤ r) (h2 : r ≤ n) : RwAt k w (sliced sp i r cap k) ((L.take r).drop i) := by
  have hn := h.len
  have hok := h.1
  have hl : ((L.take r).drop i).length = r - i := by rw [List.length_drop, List.length_take]; omega
  refine ⟨fun x hx => hok x (List.mem_of_mem_take (List.mem_of_mem_drop hx)), if cap = i then sp else sp.map (·.add (i * k)), cap - i, by rw [sliced, hl], by omega, fun h0 => ?_⟩
  obtain ⟨_, sp', cap', hv, hc, hr⟩ := h
  cases hv
  obtain ⟨b, o, hs, hx⟩ := hr (by omega)
  subst hs
  refine ⟨b, o + i * k, by rw [if_neg (by omega)]; simp [Addr.add_mid], fun j x hj => ?_⟩
  have hj2 : j < r - i := by have := (List.getElem?_eq_some_iff.1 hj).1; omega
  rw [List.getElem?_drop, List.getElem?_take_of_lt (by omega)] at hj
  have := hx (i + j) x hj
  rwa [show o + (i + j) * k = o + i * k + j * k by rw [Nat.add_mul]; omega] at this
end Go.Proofs.Ytidmfcamlgeipaa.Sha

/-
  What a fact stands on: 'Kps F w w'': w' is w in the blocks of F, and may have more; 'Sty F w P': P holds in each such world. No conditions.
-/
namespace Go.Proofs.Ytidmfcamlgeipaa.Sha
open Go Go.RowKit
/-- In the blocks of F the world w' is as w was; the streams too. -/
structure Kps (F : Nat → Prop) (w w' : World) : Prop where
  os : w'.os = w.os
  tape : w'.tape = w.tape
  output : w'.output = w.output
  size : w.heap.size ≤ w'.heap.size
  block : ∀ k, k < w.heap.size → F k → w'.heap[k]? = w.heap[k]?
theorem Kps.refl (F : Nat → Prop) (w : World) : Kps F w w := ⟨rfl, rfl, rfl, Nat.le_refl _, fun _ _ _ => rfl⟩
theorem Kps.trans {F : Nat → Prop} {a b c : World} (h : Kps F a b) (k : Kps F b c) : Kps F a c :=
  ⟨k.os.trans h.os, k.tape.trans h.tape, k.output.trans h.output, Nat.le_trans h.size k.size, fun i hi hf => (k.block i (Nat.lt_of_lt_of_le hi h.size) hf).trans (h.block i hi hf)⟩
theorem Kps.mono {F G : Nat → Prop} {w w' : World} (h : Kps F w w') (hs : ∀ k, k < w.heap.size → G k → F k) : Kps G w w' :=
  ⟨h.os, h.tape, h.output, h.size, fun k hk hg => h.block k hk (hs k hk hg)⟩
theorem Kps.below {F : Nat → Prop} {B : Nat} {w w' : World} (h : Below B w w') (hs : ∀ k, k < w.heap.size → F k → k < B) : Kps F w w' :=
  ⟨h.os, h.tape, h.output, h.size, fun k hk hf => h.block k (hs k hk hf)⟩
theorem Kps.new {F : Nat → Prop} {w w' : World} (h : Below w.heap.size w w') : Kps F w w' := Kps.below h fun _ hk _ => hk
theorem Kps.grown {F : Nat → Prop} {q : Option Nat} {w w' : World} (h : w.grownBy w' q) (hs : ∀ k, k < w.heap.size → F k → some k ≠ q) : Kps F w w' :=
  ⟨h.os, h.tape, h.output, h.size, fun k hk hf => h.block k hk (hs k hk hf)⟩
theorem Kps.toBelow {F : Nat → Prop} {w w' : World} (h : Kps F w w') (hs : ∀ k, k < w.heap.size → F k) : Below w.heap.size w w' :=
  ⟨h.os, h.tape, h.output, h.size, fun k hk => h.block k hk (hs k hk)⟩
/-- P holds in every world that is as w in the blocks of F. -/
def Sty (F : Nat → Prop) (w : World) (P : World → Prop) : Prop := ∀ w', Kps F w w' → P w'
theorem Sty.now {F : Nat → Prop} {w : World} {P : World → Prop} (h : Sty F w P) : P w := h w (Kps.refl _ _)
theorem Sty.on {F : Nat → Prop} {w w' : World} {P : World → Prop} (h : Sty F w P) (hk : Kps F w w') : Sty F w' P := fun w'' h2 => h w'' (hk.trans h2)
theorem Sty.imp {F G : Nat → Prop} {w : World} {P Q : World → Prop} (h : Sty F w P) (hs : ∀ k, k < w.heap.size → F k → G k) (hq : ∀ w', P w' → Q w') : Sty G w Q :=
  fun w' hk => hq _ (h w' (hk.mono hs))
/-- What stands while old blocks stand. -/
theorem Sty.all {w : World} {P : World → Prop} (h : ∀ w', Below w.heap.size w w' → P w') : Sty (fun k => k < w.heap.size) w P :=
  fun w' hk => h w' (hk.toBelow fun _ h => h)
theorem row_kps {F : Nat → Prop} {w w' : World} {g : Nat} {o : Obj} (h : w.heap[g]? = some o) (hk : Kps F w w') (hf : F g) : w'.heap[g]? = some o := by
  rw [hk.block g (Array.getElem?_eq_some_iff.1 h).1 hf]
  exact h
theorem SrcB.kps {F : Nat → Prop} {w w' : World} {v : Value} {bs : List UInt8} (h : SrcB w v bs) (ho : ∀ sp n cap, v = .slice (some sp) n cap → 0 < n → F sp.block) (hk : Kps F w w') : SrcB w' v bs := by
  rcases h with h | ⟨h0, bb, off, cap, hv, hc, hs⟩
  · exact .inl h
  · refine .inr ⟨h0, bb, off, cap, hv, hc, fun j hj => ?_⟩
    rw [World.cell?_of_block (hk.block bb (SrcB.block h0 hs) (ho _ _ _ hv h0))]
    exact hs j hj
theorem KeyAt.kps {F : Nat → Prop} {w w' : World} {kv : Value} {key : List UInt8} (h : KeyAt w kv key) (ho : ∀ sp n cap, kv = .slice (some sp) n cap → 0 < n → F sp.block) (hk : Kps F w w') : KeyAt w' kv key := ⟨h.1.kps ho hk, h.2⟩
theorem own_kps {F : Nat → Prop} {w w' : World} {base n size : Nat} {e : TypeId} {v : Value} {xs : List Value} (h : w.ownsRow base e size v n xs) (hk : Kps F w w') (hf : ∀ k, base ≤ k → F k) : w'.ownsRow base e size v n xs := by
  refine ⟨h.1, ?_⟩
  rcases h.2 with hn | ⟨g, cap, cur, rfl, hb, hg, rest⟩
  · exact .inl hn
  · exact .inr ⟨g, cap, cur, rfl, hb, row_kps hg hk (hf g hb), rest⟩
/-- What stands on new blocks stands while one old block turns. -/
theorem sty_old {w w' : World} {P : World → Prop} (h : Sty (fun k => w.heap.size ≤ k) w' P) : ∀ q, q < w.heap.size → ∀ w'', w'.grownBy w'' (some q) → P w'' := fun q hq w'' hw =>
  h w'' (Kps.grown hw fun k _ hk e => by have := Option.some.inj e; omega)
/-- A transaction in memory that was made since w. -/
def TxNew (w w' : World) (v : Value) (t : TTx) : Prop := Sty (fun k => w.heap.size ≤ k) w' (fun W => TxAt W v t)
theorem TxNew.at {w w' : World} {v : Value} {t : TTx} (h : TxNew w w' v t) : TxAt w' v t := h.now
end Go.Proofs.Ytidmfcamlgeipaa.Sha

/-
  A map of coins by their places: what is found, put, taken away, counted, ranged over. Conditions: places and coins as the model has them.
-/
namespace Go.Proofs.Ytidmfcamlgeipaa.Sha
open Go Go.RowKit Go.MapKept
open Go.ChangeMaps (setBlock heap_setBlock_same heap_setBlock_other)
theorem cn_laidOut : laidOutB Try.prog = true := by kernel_rfl
theorem types_two : 2 ≤ Try.prog.types.size := of_decide_eq_true (by kernel_rfl)
theorem mapM_some {α β : Type} {f : α → Option β} : ∀ (L : List α), (∀ i ∈ L, ∃ y, f i = some y) → ∃ ys, L.mapM f = some ys
  | [], _ => ⟨[], rfl⟩
  | a :: L, h => by
    obtain ⟨y, hy⟩ := h a List.mem_cons_self
    obtain ⟨ys, hys⟩ := mapM_some L (fun i hi => h i (List.mem_cons_of_mem _ hi))
    exact ⟨y :: ys, by simp [List.mapM_cons, hy, hys]⟩
theorem cm_lits_u8 (D : Nat) (x : UInt8) : Try.prog.keyLits (D + 1) 5 [bV x] = some [.int .u8 (bv x)] := by
  have hw : (Lit.int .u8 (bv x)).wf = true := by
    have := bv_bd x
    simp [Lit.wf, IntKind.min, IntKind.max, IntKind.signed, IntKind.bits]
    omega
  simp [Program.keyLits, Try.underlying5, bV, hw]
theorem keyLits_arr {P : Program} {D n : Nat} {e t : TypeId} (hu : P.underlying t = some (.array n e)) (cs : List Value) (hl : cs.length = P.cellsOf t) :
    P.keyLits (D + 1) t cs = ((List.range n).mapM fun i => P.keyLits D e ((cs.drop (i * P.cellsOf e)).take (P.cellsOf e))).map List.flatten := by
  conv => lhs; unfold Program.keyLits
  simp only [hu]
  rw [if_pos hl]
theorem keyLits_struct {P : Program} {D : Nat} {fs : Array Field} {t : TypeId} (hu : P.underlying t = some (.struct fs)) (cs : List Value) (hl : cs.length = P.cellsOf t) (hn : fs.all (·.name != "_") = true) :
    P.keyLits (D + 1) t cs = (fs.toList.mapM fun f => P.keyLits D f.type ((cs.drop f.offset).take (P.cellsOf f.type))).map List.flatten := by
  conv => lhs; unfold Program.keyLits
  simp only [hu]
  rw [if_pos ⟨hl, hn⟩]
theorem lits_num (D n : Nat) (hn : n ≤ 4294967295) : Try.prog.keyLits (D + 1) 24 [nV n] = some [.int .u32 (n : Int)] := by
  have hw : (Lit.int .u32 (n : Int)).wf = true := by
    simp [Lit.wf, IntKind.min, IntKind.max, IntKind.signed, IntKind.bits]
    omega
  simp [Program.keyLits, Try.underlying24, nV, hw]
/-- A permutation of a list's images is the image of a permutation. -/
theorem perm_map_ex {α β : Type} {f : α → β} : ∀ {l : List α} {m : List β}, (l.map f).Perm m → ∃ l', l.Perm l' ∧ m = l'.map f := by
  intro l m h
  generalize hk : l.map f = k at h
  induction h generalizing l with
  | nil => exact ⟨[], by rw [List.map_eq_nil_iff.1 hk], rfl⟩
  | cons x h ih =>
    cases l with
    | nil => simp at hk
    | cons a l =>
      rw [List.map_cons, List.cons.injEq] at hk
      obtain ⟨l', h1, h2⟩ := ih hk.2
      exact ⟨a :: l', h1.cons a, by rw [List.map_cons, hk.1, h2]⟩
  | swap x y r =>
    cases l with
    | nil => simp at hk
    | cons a l =>
      cases l with
      | nil => simp at hk
      | cons b l =>
        simp only [List.map_cons, List.cons.injEq] at hk
        exact ⟨b :: a :: l, List.Perm.swap _ _ _, by simp [hk.1, hk.2.1, hk.2.2]⟩
  | trans h1 h2 ih1 ih2 =>
    obtain ⟨l1, p1, e1⟩ := ih1 hk
    obtain ⟨l2, p2, e2⟩ := ih2 e1.symm
    exact ⟨l2, p1.trans p2, e2⟩
/-! The map. -/
def enE (x : TSp) : Value × Value := (.agg (ptC x.at_).toArray, .agg (mnL x.coin).toArray)
def kvE (e : MapEntry) : Value × Value := (e.key, e.val)
/-- Block b is a map of these coins. -/
def MapAt (w : World) (b : Nat) (l : List TSp) : Prop :=
  ∃ es clock, w.heap[b]? = some (.map es clock) ∧ Stamped es clock ∧ es.toList.map kvE = l.map enE ∧ ∀ x ∈ l, SpOk x
/-- A map's value: none, or a block. -/
def MapO (w : World) (m : Option Nat) (l : List TSp) : Prop :=
  match m with
  | none => l = []
  | some b => MapAt w b l
/-- What is at a place. -/
def getC (l : List TSp) (p : TPt) : Option TMn := (l.find? (fun x => decide (x.at_ = p))).map (·.coin)
def delC (l : List TSp) (p : TPt) : List TSp := l.filter (fun x => !decide (x.at_ = p))
def mnZ : TMn := ⟨0, List.replicate 32 0, 0, false⟩
theorem mnZ_ok : MnOk mnZ := ⟨rfl, by show 0 ≤ _; omega, by show _ ≤ (0 : Int); omega, by show (0 : Int) ≤ _; omega⟩
/-- A coin of zeros, at the place of zeros. -/
def spZ : TSp := ⟨⟨List.replicate 32 0, 0⟩, mnZ⟩
theorem spZ_ok : SpOk spZ := ⟨⟨rfl, Nat.zero_le _⟩, mnZ_ok⟩
section
variable {w : World} {b : Nat} {l : List TSp}
theorem enE_get {es : Array MapEntry} (h : es.toList.map kvE = l.map enE) {j : Nat} {e : MapEntry} (hj : es.toList[j]? = some e) : ∃ x, l[j]? = some x ∧ e.key = .agg (ptC x.at_).toArray ∧ e.val = .agg (mnL x.coin).toArray := by
  have h1 := congrArg (·[j]?) h
  simp only [List.getElem?_map, hj, Option.map_some] at h1
  cases hx : l[j]? with
  | none => simp [hx] at h1
  | some x =>
    rw [hx, Option.map_some, Option.some.injEq, kvE, enE, Prod.mk.injEq] at h1
    exact ⟨x, rfl, h1.1, h1.2⟩
theorem enE_mem {es : Array MapEntry} (h : es.toList.map kvE = l.map enE) {e : MapEntry} (he : e ∈ es.toList) : ∃ x ∈ l, e.key = .agg (ptC x.at_).toArray ∧ e.val = .agg (mnL x.coin).toArray := by
  obtain ⟨j, hj⟩ := List.getElem?_of_mem he
  obtain ⟨x, hx, h1⟩ := enE_get h hj
  exact ⟨x, List.mem_of_getElem? hx, h1⟩
theorem enE_mem' {es : Array MapEntry} (h : es.toList.map kvE = l.map enE) {x : TSp} (hx : x ∈ l) : ∃ e ∈ es.toList, e.key = .agg (ptC x.at_).toArray ∧ e.val = .agg (mnL x.coin).toArray := by
  have h1 : enE x ∈ es.toList.map kvE := by rw [h]; exact List.mem_map.2 ⟨x, hx, rfl⟩
  obtain ⟨e, he, h2⟩ := List.mem_map.1 h1
  rw [kvE, enE, Prod.mk.injEq] at h2
  exact ⟨e, he, h2.1, h2.2⟩
/-- No place has two coins. -/
theorem MapAt.apart (h : MapAt w b l) : l.Pairwise (fun x y => x.at_ ≠ y.at_) := by
  obtain ⟨es, clock, _, hs, he, _⟩ := h
  have h1 := ((stamped_iff es clock).1 hs).2.2
  have h2 : (es.toList.map kvE).Pairwise (fun p q => p.1 ≠ q.1) := by
    rw [List.pairwise_map]
    exact h1
  rw [he, List.pairwise_map] at h2
  exact h2.imp (fun {x y} hne e => hne (by show Value.agg _ = .agg _; rw [e]))
theorem MapAt.ok (h : MapAt w b l) : ∀ x ∈ l, SpOk x := by
  obtain ⟨_, _, _, _, _, ho⟩ := h
  exact ho
theorem MapAt.lt (h : MapAt w b l) : b < w.heap.size := by
  obtain ⟨_, _, hb, _⟩ := h
  exact (Array.getElem?_eq_some_iff.1 hb).1
theorem MapAt.kps {F : Nat → Prop} {w' : World} (h : MapAt w b l) (hk : Kps F w w') (hf : F b) : MapAt w' b l := by
  obtain ⟨es, clock, hb, h2⟩ := h
  exact ⟨es, clock, row_kps hb hk hf, h2⟩
theorem MapO.apart {m : Option Nat} (h : MapO w m l) : l.Pairwise (fun x y => x.at_ ≠ y.at_) := by
  cases m with
  | none => rw [show l = [] from h]; exact List.Pairwise.nil
  | some b => exact MapAt.apart h
theorem MapO.ok {m : Option Nat} (h : MapO w m l) : ∀ x ∈ l, SpOk x := by
  cases m with
  | none => rw [show l = [] from h]; simp
  | some b => exact MapAt.ok h
theorem MapO.kps {F : Nat → Prop} {w' : World} {m : Option Nat} (h : MapO w m l) (hk : Kps F w w') (hf : ∀ b, m = some b → F b) : MapO w' m l := by
  cases m with
  | none => exact h
  | some b => exact MapAt.kps h hk (hf b rfl)
theorem getC_none {p : TPt} (h : ∀ x ∈ l, x.at_ ≠ p) : getC l p = none := by
  unfold getC
  rw [List.find?_eq_none.2 (fun x hx => by simpa using h x hx)]
  rfl
theorem getC_ne {p : TPt} (h : getC l p = none) : ∀ x ∈ l, x.at_ ≠ p := by
  unfold getC at h
  rw [Option.map_eq_none_iff, List.find?_eq_none] at h
  exact fun x hx e => h x hx (by simpa using e)
theorem getC_some : ∀ {l : List TSp} {p : TPt} {j : Nat} {x : TSp}, l.Pairwise (fun x y => x.at_ ≠ y.at_) → l[j]? = some x → x.at_ = p → getC l p = some x.coin
  | y :: l, p, 0, x, _, hj, hp => by
    simp only [List.getElem?_cons_zero, Option.some.injEq] at hj
    subst hj
    simp [getC, hp]
  | y :: l, p, j + 1, x, ha, hj, hp => by
    obtain ⟨h1, h2⟩ := List.pairwise_cons.1 ha
    have hj' : l[j]? = some x := by simpa using hj
    have hne : ¬ y.at_ = p := fun e => h1 x (List.mem_of_getElem? hj') (by rw [e, hp])
    have := getC_some h2 hj' hp
    unfold getC at this ⊢
    rw [List.find?_cons_of_neg (by simpa using hne)]
    exact this
  | [], _, _, _, _, hj, _ => by simp at hj
theorem delC_idx : ∀ {l : List TSp} {p : TPt} {j : Nat} {x : TSp}, l.Pairwise (fun x y => x.at_ ≠ y.at_) → l[j]? = some x → x.at_ = p → l.eraseIdx j = delC l p
  | y :: l, p, 0, x, ha, hj, hp => by
    simp only [List.getElem?_cons_zero, Option.some.injEq] at hj
    subst hj
    obtain ⟨h1, h2⟩ := List.pairwise_cons.1 ha
    have : delC l p = l := List.filter_eq_self.2 (fun z hz => by simpa using fun e => h1 z hz (by rw [hp, e]))
    show l = (y :: l).filter _
    rw [List.filter_cons_of_neg (by simpa using hp)]
    exact this.symm
  | y :: l, p, j + 1, x, ha, hj, hp => by
    obtain ⟨h1, h2⟩ := List.pairwise_cons.1 ha
    have hj' : l[j]? = some x := by simpa using hj
    have hne : ¬ y.at_ = p := fun e => h1 x (List.mem_of_getElem? hj') (by rw [e, hp])
    have := delC_idx h2 hj' hp
    unfold delC at this ⊢
    rw [List.eraseIdx_cons_succ, this, List.filter_cons_of_pos (by simpa using hne)]
  | [], _, _, _, _, hj, _ => by simp at hj
/-- A map that has just been made. -/
theorem map_made (w : World) : MapAt (w.alloc (.map #[] 0)) w.heap.size [] := ⟨#[], 0, heap_alloc_new w _, stamped_empty 0, rfl, by simp⟩
/-! Ranging. -/
/-- Block r goes over the map m; these are still to come. -/
def IterAt (w : World) (m : Option Nat) (r : Nat) (rest : List TSp) : Prop :=
  match m with
  | none => rest = [] ∧ w.heap[r]? = some (.mapIter none 0 #[] 0)
  | some b => ∃ es clock since seen c0, w.heap[b]? = some (.map es clock) ∧ Stamped es clock ∧ w.heap[r]? = some (.mapIter (some b) since seen c0) ∧ (∀ x ∈ es.toList, x.born < since) ∧ since ≤ c0 ∧ since ≤ clock ∧
    (leftOf es seen).toList.map kvE = rest.map enE ∧ ∀ x ∈ rest, SpOk x
theorem IterAt.kps {F : Nat → Prop} {w' : World} {m : Option Nat} {r : Nat} {rest : List TSp} (h : IterAt w m r rest) (hk : Kps F w w') (hf : ∀ b, m = some b → F b) (hr : F r) : IterAt w' m r rest := by
  cases m with
  | none => exact ⟨h.1, row_kps h.2 hk hr⟩
  | some b =>
    obtain ⟨es, clock, since, seen, c0, hb, h1, h2, h3⟩ := h
    exact ⟨es, clock, since, seen, c0, row_kps hb hk (hf b rfl), h1, row_kps h2 hk hr, h3⟩
theorem IterAt.below {w' : World} {m : Option Nat} {r : Nat} {rest : List TSp} (h : IterAt w m r rest) (hb : Below w.heap.size w w') : IterAt w' m r rest := by
  cases m with
  | none => exact ⟨h.1, row_below h.2 hb⟩
  | some b =>
    obtain ⟨es, clock, since, seen, c0, h0, h1, h2, h3⟩ := h
    exact ⟨es, clock, since, seen, c0, row_below h0 hb, h1, row_below h2 hb, h3⟩
theorem left_perm {es : Array MapEntry} {seen : Array Nat} {e : MapEntry} (hn : (es.toList.map (·.born)).Nodup) (he : e ∈ (leftOf es seen).toList) :
    (leftOf es seen).toList.Perm (e :: (leftOf es (seen.push e.born)).toList) := by
  have h1 : ∀ s, (leftOf es s).toList = es.toList.filter fun x => !s.contains x.born := fun s => by
    unfold leftOf
    rw [← Array.toList_filter]
  obtain ⟨hm, hc⟩ := mem_left he
  rw [h1, h1]
  have key : ∀ L : List MapEntry, (L.map (·.born)).Nodup → e ∈ L → (L.filter fun x => !seen.contains x.born).Perm (e :: L.filter fun x => !(seen.push e.born).contains x.born) := by
    intro L
    induction L with
    | nil => intro _ h; simp at h
    | cons y L ih =>
      intro hnd hme
      rw [List.map_cons, List.nodup_cons] at hnd
      rcases List.mem_cons.1 hme with rfl | hme'
      · have : (L.filter fun x => !(seen.push e.born).contains x.born) = L.filter fun x => !seen.contains x.born := by
          apply List.filter_congr
          intro x hx
          rw [contains_push]
          have : (x.born == e.born) = false := by
            rw [beq_eq_false_iff_ne]
            exact fun h => hnd.1 (List.mem_map.2 ⟨x, hx, h⟩)
          rw [this, Bool.or_false]
        rw [List.filter_cons_of_pos (by rw [hc]; rfl), List.filter_cons_of_neg (by rw [contains_push]; simp), this]
      · have hne : (y.born == e.born) = false := by
          rw [beq_eq_false_iff_ne]
          exact fun h => hnd.1 (List.mem_map.2 ⟨e, hme', h.symm⟩)
        have ih' := ih hnd.2 hme'
        by_cases hs : seen.contains y.born = true
        · rw [List.filter_cons_of_neg (by rw [hs]; simp), List.filter_cons_of_neg (by rw [contains_push, hs]; simp)]
          exact ih'
        · have hs' : seen.contains y.born = false := by simpa using hs
          rw [List.filter_cons_of_pos (by rw [hs']; rfl), List.filter_cons_of_pos (by rw [contains_push, hs', hne]; rfl)]
          exact (ih'.cons y).trans (List.Perm.swap _ _ _)
  exact key es.toList hn hm
theorem run_next_cn {m : Option Nat} {r : Nat} {rest : List TSp} (h : IterAt w m r rest) (hrm : m ≠ some r) (ty : TypeId) :
    (rest = [] ∧ (Instr.next (.pointer (some ⟨r, 0, none⟩)) false ty).run Try.prog w = .ok (.tuple #[.bool false]) w) ∨
    ∃ x rest' w', rest.Perm (x :: rest') ∧ SpOk x ∧ (Instr.next (.pointer (some ⟨r, 0, none⟩)) false ty).run Try.prog w = .ok (.tuple #[.bool true, .agg (ptC x.at_).toArray, .agg (mnL x.coin).toArray]) w' ∧ IterAt w' m r rest' ∧ w.grownBy w' (some r) ∧ w'.heap.size = w.heap.size ∧
      (Instr.entry (.pointer (some ⟨r, 0, none⟩))).run Try.prog w' = .ok (.tuple #[.agg (ptC x.at_).toArray, .agg (mnL x.coin).toArray]) w' := by
  cases m with
  | none =>
    refine .inl ⟨h.1, ?_⟩
    have h2 := h.2
    simp only [Instr.next, getObj, Sem.run_bind, Sem.run, h2, Result.andThen]
    rfl
  | some b =>
    obtain ⟨es, clock, since, seen, c0, hb, hs, hr, hold, hsc, hsk, he, ho⟩ := h
    have hst := (stamped_iff es clock).1 hs
    rcases run_next_at (P := Try.prog) w ty r b since c0 seen es clock hr hb hold hsc with ⟨h0, hrun⟩ | ⟨e, hem, w1, hal, hrun⟩
    · refine .inl ⟨?_, hrun⟩
      have h4 := congrArg List.length he
      simp only [List.length_map, Array.length_toList, h0] at h4
      exact List.eq_nil_of_length_eq_zero h4.symm
    · obtain ⟨hm, hc⟩ := mem_left hem
      have hne : r ≠ b := fun e => hrm (by rw [e])
      have hr1 : w1.heap[r]? = some (.mapIter (some b) since seen c0) := by rcases hal with rfl | rfl <;> exact hr
      have hb1 : w1.heap[b]? = some (.map es clock) := by rcases hal with rfl | rfl <;> exact hb
      have hset := heap_set (o' := .mapIter (some b) since (seen.push e.born) clock) hr1
      have hb' : (setBlock w1 r (.mapIter (some b) since (seen.push e.born) clock)).heap[b]? = some (.map es clock) := (hset.2 b (fun e1 => hne e1.symm)).trans hb1
      have hperm := (left_perm hst.2.1 hem).map kvE
      rw [he, List.map_cons] at hperm
      -- the coin that came, and those behind it
      have hmem : kvE e ∈ rest.map enE := hperm.mem_iff.2 List.mem_cons_self
      obtain ⟨x, hx, hxe⟩ := List.mem_map.1 hmem
      obtain ⟨s, t, rfl⟩ := List.append_of_mem hx
      have hp1 : (s ++ x :: t).Perm (x :: (s ++ t)) := List.perm_middle
      have hp2 : ((s ++ t).map enE).Perm ((leftOf es (seen.push e.born)).toList.map kvE) := by
        have h5 := (hp1.map enE).symm.trans hperm
        rw [List.map_cons, hxe] at h5
        exact (List.perm_cons _).1 h5
      obtain ⟨rest', hp3, hr'⟩ : ∃ rest', (s ++ t).Perm rest' ∧ (leftOf es (seen.push e.born)).toList.map kvE = rest'.map enE := perm_map_ex hp2
      rw [kvE, enE, Prod.mk.injEq] at hxe
      refine .inr ⟨x, rest', _, hp1.trans (hp3.cons x), ho x hx, by rw [hxe.1, hxe.2]; exact hrun, ⟨es, clock, since, seen.push e.born, clock, hb', hs, hset.1, hold, hsk, hsk, hr', fun y hy => ho y (hp1.mem_iff.2 (List.mem_cons_of_mem _ (hp3.mem_iff.2 hy)))⟩, ?_, ?_, ?_⟩
      · rcases hal with rfl | rfl <;> exact ⟨rfl, rfl, rfl, by simp [setBlock], fun i _ hi => hset.2 i (fun e1 => hi (by rw [e1]))⟩
      · rcases hal with rfl | rfl <;> simp [setBlock]
      · rw [hxe.1, hxe.2]
        exact run_entry_at _ r b since seen es clock e hset.1 hb' hm hst.2.1
end
end Go.Proofs.Ytidmfcamlgeipaa.Sha

/-
  A value stored into a box, or into a part of a block of one's own, the new world hidden; two boxes; a box and a value as results. No conditions beyond those that each states.
-/
namespace Go.Proofs.Ytidmfcamlgeipaa.Sha
open Go Go.RowKit
section
variable {P : Program}
theorem setRow_grown {w : World} {g : Nat} (cs : Array Value) : w.grownBy (w.setRow g cs) (some g) := by
  refine ⟨rfl, rfl, rfl, by simp [World.setRow], fun k _ hk => ?_⟩
  simp only [World.setRow]
  rw [Array.getElem?_modify, if_neg (fun e => hk (by rw [e]))]
theorem run_store_part {w : World} (ty : TypeId) (g o : Nat) (A old C new : List Value) (T : TypeId) (v : Value) (hv : v.cells = new.toArray) (hA : A.length = o) (hlen : old.length = new.length)
    (hg : w.heap[g]? = some (.cells (A ++ old ++ C).toArray T (0, 0))) (hi : (P.info? ty).map (·.size) = some new.length) (h1 : ∀ u ∈ new, u.oneCell' = true) :
    (storeVar ty ⟨g, o, none⟩ v).run P w = .ok () (w.setRow g (A ++ new ++ C).toArray) := by
  have h := run_storeCells_at P g o T new 0 (A ++ old ++ C).toArray w hg (by simp; omega) h1
  have e : ((A ++ old ++ C).toArray.toList.take (o + 0) ++ new ++ (A ++ old ++ C).toArray.toList.drop (o + 0 + new.length)).toArray = (A ++ new ++ C).toArray := by
    congr 1
    subst hA
    simp only [Nat.add_zero]
    rw [List.append_assoc A old C, List.take_left, ← List.drop_drop, List.drop_left, ← hlen, List.drop_left]
  rw [e] at h
  cases hq : P.info? ty with
  | none => simp [hq] at hi
  | some i =>
    have hs : i.size = new.length := by simpa [hq] using hi
    simp [storeVar, sizeOf, typeInfo, hq, hv, hs]
    simpa using h
theorem wp_store_part {op : Oper} {a : Act} {w : World} {K : Act → World → Prop} {Q : Exit → Act → World → Prop} (ty : TypeId) (x y : Operand) (ho : op.op = .store ty x y)
    (g o : Nat) (A old C new : List Value) (T : TypeId) (v : Value) (hx : a.eval x = .pointer (some ⟨g, o, none⟩)) (hy : a.eval y = v) (hv : v.cells = new.toArray) (hA : A.length = o) (hlen : old.length = new.length)
    (hg : w.heap[g]? = some (.cells (A ++ old ++ C).toArray T (0, 0))) (hi : (P.info? ty).map (·.size) = some new.length) (h1 : ∀ u ∈ new, u.oneCell' = true)
    (h : ∀ w', w'.heap[g]? = some (.cells (A ++ new ++ C).toArray T (0, 0)) → w.grownBy w' (some g) → K (a.put op.dst undef) w') : op.wp P a w K Q := by
  unfold Oper.wp execOp
  simp only [ho, hx, hy, Instr.storeAt, Instr.sureAddr, Sem.run_bind, Sem.run_pure, Result.andThen_ok, run_store_part ty g o A old C new T v hv hA hlen hg hi h1]
  exact h _ (setRow_heap _ _ _ _ _ _ hg) (setRow_grown _)
theorem wpList_store_part {ops : Array Oper} {rest : List Oper} {op : Oper} {a : Act} {w : World} {Q : Exit → Act → World → Prop} (hgd : op.guard = none) (ty : TypeId) (x y : Operand) (ho : op.op = .store ty x y)
    (g o : Nat) (A old C new : List Value) (T : TypeId) (v : Value) (hx : a.eval x = .pointer (some ⟨g, o, none⟩)) (hy : a.eval y = v) (hv : v.cells = new.toArray) (hA : A.length = o) (hlen : old.length = new.length)
    (hg : w.heap[g]? = some (.cells (A ++ old ++ C).toArray T (0, 0))) (hi : (P.info? ty).map (·.size) = some new.length) (h1 : ∀ u ∈ new, u.oneCell' = true)
    (h : ∀ w', w'.heap[g]? = some (.cells (A ++ new ++ C).toArray T (0, 0)) → w.grownBy w' (some g) → wpList P ops Q rest (a.put op.dst undef) w') : wpList P ops Q (op :: rest) a w :=
  wpList_plain hgd fun _ hK => wp_store_part ty x y ho g o A old C new T v hx hy hv hA hlen hg hi h1 (fun w' a1 a2 => hK _ _ (h w' a1 a2))
end
theorem row_far {w w' : World} {g : Nat} {q : Option Nat} {o : Obj} (h : w.heap[g]? = some o) (hg : w.grownBy w' q) (hq : q ≠ some g) : w'.heap[g]? = some o := by
  rw [hg.block g (Array.getElem?_eq_some_iff.1 h).1 (fun e => hq e.symm)]
  exact h
theorem gr_low {w0 w w' : World} {r : Option Nat} {g : Nat} (h : w0.grownBy w r) (hg : w.grownBy w' (some g)) (hq : w0.heap.size ≤ g) : w0.grownBy w' r := grown_over h hg (.inr ⟨g, rfl, hq⟩)
theorem own_off {w : World} {base n k : Nat} {e : TypeId} {v : Value} {xs : List Value} {size : Nat} (h : w.ownsRow base e size v n xs) (hk : k < base) : Off v (some k) := fun sp m cap hv _ e => by
  have h1 := (h.lt sp.block (by rw [hv]; rfl)).1
  have := Option.some.inj e
  omega
section
variable {P : Program}
theorem wpList_store_whole {ops : Array Oper} {rest : List Oper} {op : Oper} {a : Act} {w : World} {Q : Exit → Act → World → Prop} (hgd : op.guard = none) (ty : TypeId) (x y : Operand) (ho : op.op = .store ty x y)
    (g : Nat) (old new : List Value) (T : TypeId) (hx : a.eval x = .pointer (some ⟨g, 0, none⟩)) (hy : a.eval y = .agg new.toArray) (hlen : old.length = new.length) (hrow : w.heap[g]? = some (.cells old.toArray T (0, 0)))
    (hi : (P.info? ty).map (·.size) = some new.length) (h1 : new.toArray.all (·.oneCell') = true)
    (h : ∀ w', w'.heap[g]? = some (.cells new.toArray T (0, 0)) → w.grownBy w' (some g) → wpList P ops Q rest (a.put op.dst undef) w') : wpList P ops Q (op :: rest) a w :=
  wpList_store_row hgd ty x y ho g new.toArray hx hy T old.toArray hrow (by simpa using hi) (by simpa using hlen) h1 (h _ (setRow_heap _ _ _ _ _ _ hrow) (setRow_grown _))
theorem wp_store_whole {op : Oper} {a : Act} {w : World} {K : Act → World → Prop} {Q : Exit → Act → World → Prop} (ty : TypeId) (x y : Operand) (ho : op.op = .store ty x y)
    (g : Nat) (old new : List Value) (T : TypeId) (hx : a.eval x = .pointer (some ⟨g, 0, none⟩)) (hy : a.eval y = .agg new.toArray) (hlen : old.length = new.length) (hrow : w.heap[g]? = some (.cells old.toArray T (0, 0)))
    (hi : (P.info? ty).map (·.size) = some new.length) (h1 : new.toArray.all (·.oneCell') = true)
    (h : ∀ w', w'.heap[g]? = some (.cells new.toArray T (0, 0)) → w.grownBy w' (some g) → K (a.put op.dst undef) w') : op.wp P a w K Q :=
  wp_store_row ty x y ho g new.toArray hx hy T old.toArray hrow (by simpa using hi) (by simpa using hlen) h1 (h _ (setRow_heap _ _ _ _ _ _ hrow) (setRow_grown _))
end
/-- Two boxes. -/
theorem boxes_two (w : World) (x y : Array Value) (T : TypeId) :
    Below w.heap.size w ((w.alloc (.cells x T (0, 0))).alloc (.cells y T (0, 0)))
    ∧ ((w.alloc (.cells x T (0, 0))).alloc (.cells y T (0, 0))).heap[w.heap.size]? = some (.cells x T (0, 0))
    ∧ ((w.alloc (.cells x T (0, 0))).alloc (.cells y T (0, 0))).heap[w.heap.size + 1]? = some (.cells y T (0, 0)) := by
  refine ⟨((Below.refl _ _).alloc (Nat.le_refl _) _).alloc (by simp) _, ?_, ?_⟩
  · have h1 := heap_alloc_new w (.cells x T (0, 0))
    exact row_below h1 ((Below.refl _ _).alloc (Nat.le_refl _) (.cells y T (0, 0)))
  · have h1 := heap_alloc_new (w.alloc (.cells x T (0, 0))) (.cells y T (0, 0))
    rw [World.size_alloc] at h1
    exact h1
theorem results_row_tmp {P : Program} {fn : Func} {p u : Tmp} {ty : TypeId} (h : fn.results = #[.cell p ty, .tmp u]) (tmps : Array Value) (w : World) (g : Nat) (t : TypeId) (cs : Array Value) (fr : Nat × Nat) (d : TypeDesc)
    (hx : tmps.getD p undef = .pointer (some ⟨g, 0, none⟩)) (hg : w.heap[g]? = some (.cells cs t fr)) (hu : P.underlying ty = some d) (hd : (match d with | .struct _ | .array _ _ => true | _ => false) = true) (hi : (P.info? ty).map (·.size) = some cs.size) :
    (results fn tmps).run P w = .ok (.tuple #[.agg cs, tmps.getD u undef]) w := by
  rw [results_cell_tmp h, hx]
  simp [asAddr, Result.andThen, run_loadVar_row (P := P) w g t ty cs fr d hg hu hd hi]
end Go.Proofs.Ytidmfcamlgeipaa.Sha

/-
  A set of coins in memory: how many, what is at a place. Nothing that was there turns. Conditions: the set lies where the pointer says; a place as the model has it.
-/
namespace Go.Proofs.Ytidmfcamlgeipaa.Sha
open Go Go.RowKit
theorem yieldsIf_lookup {P : Program} {ops : Array Oper} {S : World → Prop} {op : Oper} {a : Act} (hw : Region.wanted op (yielded ops a.tmps) = true) (t : TypeId) (x y : Operand) (c : Bool) (ho : op.op = .lookup t x y c)
    (u v z : Value) (hx : a.eval x = u) (hy : a.eval y = v) (h : ∀ w, S w → (Instr.lookup t u v c).run P w = .ok z w) : YieldsIf P ops S op z a :=
  .inl ⟨hw, fun w hw' => by
    unfold execOp
    simp [ho, hx, hy, h w hw', Sem.run_bind, Result.andThen]⟩
section
variable {w w' : World} {a : Nat} {m : Option Nat} {l : List TSp}
theorem MapO.lt (h : MapO w m l) : ∀ b, m = some b → b < w.heap.size := fun b e => by
  subst e
  exact MapAt.lt h
theorem getD_ok (h : ∀ x ∈ l, SpOk x) (p : TPt) : MnOk ((getC l p).getD mnZ) := by
  unfold getC
  cases hf : l.find? (fun x => decide (x.at_ = p)) with
  | none => exact mnZ_ok
  | some x => exact (h x (List.mem_of_find?_eq_some hf)).2
end
end Go.Proofs.Ytidmfcamlgeipaa.Sha

/-
  A coin is spent, or added; the map alone turns, and the set's box where it had none. Conditions: the set lies where the pointer says; a place, a coin as the model has them; the errors are there.
-/
namespace Go.Proofs.Ytidmfcamlgeipaa.Sha
open Go Go.RowKit
theorem Kps.far {F : Nat → Prop} {w w1 w2 : World} {g : Nat} (h : Kps F w w1) (hg : w1.grownBy w2 (some g)) (hge : w.heap.size ≤ g) : Kps F w w2 :=
  ⟨hg.os.trans h.os, hg.tape.trans h.tape, hg.output.trans h.output, Nat.le_trans h.size hg.size, fun k hk hf => (hg.block k (Nat.lt_of_lt_of_le hk h.size) (fun e => by have := Option.some.inj e; omega)).trans (h.block k hk hf)⟩
theorem cell_below {w w' : World} {p : Addr} {v : Value} (h : w.cell? p = some v) (hb : Below w.heap.size w w') : w'.cell? p = some v := by
  rw [hb.cell (World.block_lt_of_cell? w _ h)]
  exact h
theorem getC_opt {l : List TSp} {p : TPt} (h : (getC l p).isSome = false) : getC l p = none := by
  cases hg : getC l p with
  | none => rfl
  | some c => rw [hg] at h; cases h
theorem delC_none {l : List TSp} {p : TPt} (h : getC l p = none) : delC l p = l := List.filter_eq_self.2 (fun x hx => by simpa using getC_ne h x hx)
end Go.Proofs.Ytidmfcamlgeipaa.Sha

/-
  The statements' own: whether a coin is ripe; the past behind a height. Nothing that was there turns. Conditions: numbers that an int holds; the row of pasts lies in memory and is not empty.
-/
namespace Go.Proofs.Ytidmfcamlgeipaa.Sha
open Go Go.RowKit
/-- A slice of 32-bit numbers. -/
def U32At (w : World) (v : Value) (l : List Nat) : Prop := ∃ sp cap, v = .slice sp l.length cap ∧ (0 < l.length → l.length ≤ cap ∧ ∃ b o, sp = some ⟨b, o, none⟩ ∧ ∀ (i x : Nat), l[i]? = some x → w.cell? ⟨b, o + i, none⟩ = some (.int .u32 (x : Int)))
def ripeB (c : TMn) (height maturity : Int) : Bool := !c.base || decide (c.height + maturity ≤ height)
def behI (l : List Nat) (height : Int) : Nat := min (max (height - 1) 0).toNat (l.length - 1)
end Go.Proofs.Ytidmfcamlgeipaa.Sha

/-
  A Reader's inner call takes so many bytes, or tells that there are too few, or that an error was met; Left and Err tell what is left and the first error; Read makes a Reader. Conditions: the Reader stands as it should; the three errors are there.
-/
namespace Go.Proofs.Ytidmfcamlgeipaa.Sha
open Go Go.RowKit
/-- Where an own row lies. -/
theorem own_at {w : World} {base n : Nat} {v : Value} {xs : List Value} {e : TypeId} (h : w.ownsRow base e 1 v n xs) : ∃ m, AtB v m ∧ m ≠ w.heap.size ∧ (0 < n → base ≤ m) := by
  rcases h.2 with ⟨h', h0⟩ | ⟨g, cap', cur, h', hg, hc, _⟩
  · exact ⟨w.heap.size + 1, (fun sp k cap hv hk => by rw [hv] at h'; cases h'), by omega, fun h1 => by omega⟩
  · refine ⟨g, (fun sp k cap hv hk => ?_), ?_, fun _ => hg⟩
    · rw [hv] at h'; cases h'; rfl
    · have := (Array.getElem?_eq_some_iff.1 hc).1
      omega
theorem cut_shape {v : Value} {sp : Option Addr} {l r cap : Nat} (h : Hid (v = sliced sp l r cap 1)) : ∃ x, v = .slice x (r - l) (cap - l) := ⟨_, h.out⟩
end Go.Proofs.Ytidmfcamlgeipaa.Sha

/-
  A Reader's Num, Four, Eight, Bytes and Hash answer what the chapter says, and leave what it says. Conditions: the Reader stands as it should; the three errors are there.
-/
namespace Go.Proofs.Ytidmfcamlgeipaa.Sha
open Go Go.RowKit
theorem takeL_le (k : Nat) (bs : List UInt8) (c : Nat) : (takeL k bs c).1.length ≤ k := by
  unfold takeL
  split
  · simp
  · split
    · simp
    · simp [List.length_take]; omega
/-- What Num answers, leaves and meets. -/
def numL (most : Nat) (bs : List UInt8) (c : Nat) : Nat × List UInt8 × Nat :=
  let t := takeL 1 bs c
  let k := widN (leN t.1)
  let u := if k = 0 then t else takeL k t.2.1 t.2.2
  if u.2.2 ≠ 0 then (0, u.2.1, u.2.2) else if lenN (leN u.1) ≠ 1 + k then (0, u.2.1, 2) else if most < leN u.1 then (0, u.2.1, 4) else (leN u.1, u.2.1, 0)
theorem widN_le (n : Nat) : widN n ≤ 8 := by unfold widN; split <;> (try split) <;> (try split) <;> omega
end Go.Proofs.Ytidmfcamlgeipaa.Sha

/-
  A Reader's Four, Eight and Bytes answer what the chapter says, and leave what it says; Hash behind an error answers no digest. Conditions: the Reader stands as it should; the three errors are there.
-/
namespace Go.Proofs.Ytidmfcamlgeipaa.Sha
open Go Go.RowKit
theorem grownBy_below' {w w1 w2 : World} {row : Option Nat} (h : w.grownBy w1 row) (hb : Below w1.heap.size w1 w2) : w.grownBy w2 row := grownBy_trans h (grownBy_of_below hb row)
end Go.Proofs.Ytidmfcamlgeipaa.Sha

/-
  A Reader's Hash answers the next 32 bytes, or no digest, and leaves what the chapter says. Conditions: the Reader stands as it should; the three errors are there.
-/
namespace Go.Proofs.Ytidmfcamlgeipaa.Sha
open Go Go.RowKit
/-- Bytes filled up to a digest's 32. -/
def padH (x : List UInt8) : List UInt8 := x ++ List.replicate (32 - x.length) 0
theorem padH_length {x : List UInt8} (h : x.length ≤ 32) : (padH x).length = 32 := by simp [padH]; omega
theorem splice_zero (x : List UInt8) (_ : x.length ≤ 32) : splice (List.replicate 32 (bV 0)) 0 (x.map bV) = (padH x).map bV := by
  have e : List.drop x.length (List.replicate 32 (bV 0)) = List.replicate (32 - x.length) (bV 0) := List.drop_replicate ..
  unfold splice padH
  rw [List.length_map, Nat.zero_add, e, List.take_zero, List.nil_append, List.map_append, List.map_replicate]
theorem hash_end {w w1 w2 : World} {r : Nat} {o : Obj} (_ : r < w.heap.size) (g1 : (w.alloc o).drew.grownBy w1 (some r)) (h : Below w.heap.size w1 w2) : w.grownBy w2 (some r) := by
  refine ⟨h.os.trans g1.os, h.tape.trans g1.tape, h.output.trans g1.output, ?_, fun k hk hne => ?_⟩
  · have h1 := g1.size
    have h2 := h.size
    have h3 : (w.alloc o).drew.heap.size = w.heap.size + 1 := by simp [World.drew]
    omega
  · rw [h.block k hk, g1.block k (by simp [World.drew]; omega) hne]
    exact ((Below.refl w.heap.size w).alloc (Nat.le_refl _) o).drew.block k hk
theorem grown_then {w w2 w3 : World} {r : Nat} (h : w.grownBy w2 (some r)) (hb : Below w.heap.size w2 w3) : w.grownBy w3 (some r) :=
  ⟨hb.os.trans h.os, hb.tape.trans h.tape, hb.output.trans h.output, Nat.le_trans h.size hb.size, fun k hk hne => by rw [hb.block k hk]; exact h.block k hk hne⟩
theorem hash_row {w w1 : World} {r : Nat} {o : Obj} (hr : r < w.heap.size) (g1 : (w.alloc o).drew.grownBy w1 (some r)) : w1.heap[w.heap.size]? = some o := by
  rw [g1.block w.heap.size (by simp [World.drew]) (fun e => by have := Option.some.inj e; omega)]
  exact heap_alloc_new _ _
theorem src_cells {w : World} {sp : Option Addr} {n cap : Nat} {bs : List UInt8} (h : SrcB w (.slice sp n cap) bs) (g off : Nat) (h0 : 0 < (bs.map bV).length) : (some ⟨g, off, none⟩ : Option Addr) = some ⟨g, off, none⟩ ∧ ∃ ad, sp = some ad ∧ ∀ j v, (bs.map bV)[j]? = some v → w.cell? (ad.add j) = some v := by
  refine ⟨rfl, ?_⟩
  rcases h with ⟨sp', cap', hv, rfl⟩ | ⟨h1, bb, o, cap', hv, _, hc⟩
  · simp at h0
  · cases hv
    refine ⟨_, rfl, fun j v hj => ?_⟩
    rw [List.getElem?_map] at hj
    obtain ⟨b, hb, rfl⟩ := Option.map_eq_some_iff.1 hj
    have hlt := (List.getElem?_eq_some_iff.1 hb).1
    rw [Addr.add_mid, hc j hlt]
    simp [bV, List.getD, hb]
end Go.Proofs.Ytidmfcamlgeipaa.Sha

/-
  A Reader in a walk: how it stands behind each step, whatever else makes memory. Conditions: those that each states.
-/
namespace Go.Proofs.Ytidmfcamlgeipaa.Sha
open Go Go.RowKit
variable {E : Nat → Addr} {m r c d : Nat} {W w w' : World} {bs b : List UInt8}
/-- A literal of bytes. -/
theorem lit_src {w : World} (l : List UInt8) (T : TypeId) (h0 : 0 < l.length) : SrcB (w.alloc (.cells (l.map bV).toArray T)) (.slice (some ⟨w.heap.size, 0, none⟩) l.length l.length) l := src_row rfl h0 (heap_alloc_new _ _)
theorem mask_nat (n k : Nat) (hn : n < 18446744073709551616) (hk : 2 ^ k - 1 < 18446744073709551616) : bits .and .u64 (n : Int) ((2 ^ k - 1 : Nat) : Int) = ((n % 2 ^ k : Nat) : Int) := by
  rw [u64_and_nat _ _ hn hk, Nat.and_two_pow_sub_one_eq_mod]
/-- A row that is not the Reader's. -/
theorem row_grown {w w' : World} {g r : Nat} {o : Obj} (h : w.heap[g]? = some o) (hg : w.grownBy w' (some r)) (hne : r < g) : w'.heap[g]? = some o := by
  rw [hg.block g (Array.getElem?_eq_some_iff.1 h).1 (fun e => by have := Option.some.inj e; omega)]
  exact h
theorem takeL_err (k : Nat) (bs : List UInt8) (c : Nat) (h : c ≠ 0) : takeL k bs c = ([], bs, c) := by unfold takeL; rw [if_pos h]
theorem takeL_end (k : Nat) (bs : List UInt8) (h : bs.length < k) : takeL k bs 0 = ([], bs, 1) := by unfold takeL; rw [if_neg (by omega), if_pos h]
theorem takeL_ok (k : Nat) (bs : List UInt8) (h : k ≤ bs.length) : takeL k bs 0 = (bs.take k, bs.drop k, 0) := by unfold takeL; rw [if_neg (by omega), if_neg (by omega)]
theorem takeL_app (xs ys : List UInt8) (k : Nat) (h : xs.length = k) : takeL k (xs ++ ys) 0 = (xs, ys, 0) := by
  subst h
  rw [takeL_ok _ _ (by simp)]
  simp
theorem numL_err (most : Nat) (bs : List UInt8) (c : Nat) (h : c ≠ 0) : numL most bs c = (0, bs, c) := by
  have e : widN (leN []) = 0 := rfl
  unfold numL
  simp only [takeL_err _ _ _ h, e, if_pos]
  rw [if_pos h]
end Go.Proofs.Ytidmfcamlgeipaa.Sha

/-
  Plain mathematics of a Reader's Num: what it answers of bytes that Put wrote, that are cut off, that are too many. No conditions beyond those that each states.
-/
namespace Go.Proofs.Ytidmfcamlgeipaa.Sha
open Go Go.RowKit
theorem leN_one (x : UInt8) : leN [x] = x.toNat := by simp [leN]
theorem takeL_one (x : UInt8) (ys : List UInt8) : takeL 1 (x :: ys) 0 = ([x], ys, 0) := takeL_app [x] ys 1 rfl
/-- A mark, and the bytes that it asks for. -/
theorem numL_mark (most : Nat) (f : UInt8) (k : Nat) (xs tail : List UInt8) (hk : widN f.toNat = k) (h0 : 0 < k) (hl : xs.length = k) :
    numL most (f :: (xs ++ tail)) 0 = if lenN (leN xs) ≠ 1 + k then (0, tail, 2) else if most < leN xs then (0, tail, 4) else (leN xs, tail, 0) := by
  have hk0 : ¬ k = 0 := by omega
  unfold numL
  simp only [takeL_one, leN_one, hk, if_neg hk0, takeL_app xs tail k hl]
  rw [if_neg (show ¬ (0 : Nat) ≠ 0 by omega)]
/-- A mark, and too few bytes behind it. -/
theorem numL_short (most : Nat) (f : UInt8) (k : Nat) (xs : List UInt8) (hk : widN f.toNat = k) (hl : xs.length < k) : numL most (f :: xs) 0 = (0, xs, 1) := by
  have hk0 : ¬ k = 0 := by omega
  unfold numL
  simp only [takeL_one, leN_one, hk, if_neg hk0, takeL_end k xs hl]
  rw [if_pos (show (1 : Nat) ≠ 0 by omega)]
theorem numL_nil (most : Nat) : numL most [] 0 = (0, [], 1) := by
  unfold numL
  have e : takeL 1 [] 0 = ([], [], 1) := takeL_end 1 [] (by simp)
  have e2 : widN (leN []) = 0 := rfl
  simp only [e, e2, if_pos]
  rw [if_pos (by omega)]
/-- A first byte that is the number. -/
theorem numL_small (most : Nat) (f : UInt8) (tail : List UInt8) (hf : f.toNat < 253) : numL most (f :: tail) 0 = if most < f.toNat then (0, tail, 4) else (f.toNat, tail, 0) := by
  have hk : widN f.toNat = 0 := by unfold widN; rw [if_neg (by omega), if_neg (by omega), if_neg (by omega)]
  have hl : lenN f.toNat = 1 := by unfold lenN; rw [if_pos hf]
  unfold numL
  simp only [takeL_one, leN_one, hk, if_pos]
  rw [if_neg (show ¬ (0 : Nat) ≠ 0 by omega), hl, if_neg (show ¬ (1 : Nat) ≠ 1 + 0 by omega)]
/-- What Put wrote is read again. -/
theorem numL_put (most n : Nat) (tail : List UInt8) (hn : n ≤ 18446744073709551615) : numL most (putL n ++ tail) 0 = if most < n then (0, tail, 4) else (n, tail, 0) := by
  unfold putL
  by_cases h1 : n < 253
  · rw [if_pos h1]
    have e : (UInt8.ofNat n).toNat = n := by rw [UInt8.toNat_ofNat']; omega
    have h := numL_small most (UInt8.ofNat n) tail (by omega)
    rw [e] at h
    exact h
  rw [if_neg h1]
  by_cases h2 : n ≤ 65535
  · rw [if_pos h2]
    have e : leN (leB n 2) = n := leN_leB_of (by omega)
    have hl : lenN n = 3 := by unfold lenN; rw [if_neg h1, if_pos h2]
    have h := numL_mark most 253 2 (leB n 2) tail rfl (by omega) (leB_length n 2)
    rw [e, hl, if_neg (by omega)] at h
    exact h
  rw [if_neg h2]
  by_cases h3 : n ≤ 4294967295
  · rw [if_pos h3]
    have e : leN (leB n 4) = n := leN_leB_of (by omega)
    have hl : lenN n = 5 := by unfold lenN; rw [if_neg h1, if_neg h2, if_pos h3]
    have h := numL_mark most 254 4 (leB n 4) tail rfl (by omega) (leB_length n 4)
    rw [e, hl, if_neg (by omega)] at h
    exact h
  · rw [if_neg h3]
    have e : leN (leB n 8) = n := leN_leB_of (by omega)
    have hl : lenN n = 9 := by unfold lenN; rw [if_neg h1, if_neg h2, if_neg h3]
    have h := numL_mark most 255 8 (leB n 8) tail rfl (by omega) (leB_length n 8)
    rw [e, hl, if_neg (by omega)] at h
    exact h
/-- What Put wrote, cut off: it ends too early. -/
theorem numL_cut (most n k : Nat) (hk : k < lenN n) : ∃ b, numL most ((putL n).take k) 0 = (0, b, 1) := by
  cases k with
  | zero => exact ⟨[], by rw [List.take_zero]; exact numL_nil most⟩
  | succ k =>
    rcases lenN_eq n with ⟨e, _⟩ | ⟨e, p⟩ | ⟨e, p⟩ | ⟨e, p⟩
    · omega
    · rw [p, List.take_succ_cons]
      exact ⟨_, numL_short most 253 2 _ rfl (by rw [List.length_take, leB_length]; omega)⟩
    · rw [p, List.take_succ_cons]
      exact ⟨_, numL_short most 254 4 _ rfl (by rw [List.length_take, leB_length]; omega)⟩
    · rw [p, List.take_succ_cons]
      exact ⟨_, numL_short most 255 8 _ rfl (by rw [List.length_take, leB_length]; omega)⟩
end Go.Proofs.Ytidmfcamlgeipaa.Sha

/-
  Plain mathematics of readers of bytes, one behind the other: what was written is read again; cut off it ends too early; what is read has just these bytes. No conditions beyond those that each states.
-/
namespace Go.Proofs.Ytidmfcamlgeipaa.Sha
open Go Go.RowKit
/-- A reader of bytes: what it answers, what it leaves, what it met. -/
abbrev Par (α : Type) := List UInt8 → Nat → α × List UInt8 × Nat
def thenP {α β : Type} (p : Par α) (q : α → Par β) : Par β := fun bs c => q (p bs c).1 (p bs c).2.1 (p bs c).2.2
def mapP {α β : Type} (f : α → β) (p : Par α) : Par β := fun bs c => (f (p bs c).1, (p bs c).2)
def manyP {α : Type} (p : Par α) : Nat → Par (List α)
  | 0, bs, c => ([], bs, c)
  | n + 1, bs, c => if c ≠ 0 then ([], bs, c) else thenP p (fun a => mapP (a :: ·) (manyP p n)) bs c
/-- Bytes that it reads whole, whatever stands behind; cut off, they end too early. -/
def Good {α : Type} (p : Par α) (a : α) (x : List UInt8) : Prop := (∀ y, p (x ++ y) 0 = (a, y, 0)) ∧ ∀ k, k < x.length → (p (x.take k) 0).2.2 = 1
/-- An error stays. -/
def Stay {α : Type} (p : Par α) : Prop := ∀ bs c, c ≠ 0 → (p bs c).2.2 = c
/-- What is read stands so to the bytes that it was read from. -/
def BackR {α : Type} (p : Par α) (R : α → List UInt8 → Prop) : Prop := ∀ bs a r, p bs 0 = (a, r, 0) → ∃ x, bs = x ++ r ∧ R a x
section
variable {α β : Type} {p : Par α} {q : α → Par β} {a : α} {b : β} {x y : List UInt8}
theorem Good.andThen (h1 : Good p a x) (h2 : Good (q a) b y) (hs : ∀ a, Stay (q a)) : Good (thenP p q) b (x ++ y) := by
  refine ⟨fun z => ?_, fun k hk => ?_⟩
  · unfold thenP
    rw [List.append_assoc, h1.1]
    exact h2.1 z
  · by_cases h : k < x.length
    · rw [List.take_append_of_le_length (by omega)]
      unfold thenP
      rw [h1.2 k h]
      exact hs _ _ 1 (by omega)
    · rw [List.take_append, List.take_of_length_le (by omega)]
      unfold thenP
      rw [h1.1]
      exact h2.2 (k - x.length) (by rw [List.length_append] at hk; omega)
theorem Good.map (f : α → β) (h : Good p a x) : Good (mapP f p) (f a) x :=
  ⟨fun z => by unfold mapP; rw [h.1], fun k hk => h.2 k hk⟩
theorem Stay.andThen (h1 : Stay p) (h2 : ∀ a, Stay (q a)) : Stay (thenP p q) := fun bs c hc => by
  unfold thenP
  have e := h1 bs c hc
  rw [h2 _ _ _ (by rw [e]; exact hc), e]
theorem Stay.map (f : α → β) (h : Stay p) : Stay (mapP f p) := fun bs c hc => h bs c hc
theorem BackR.andThen {R : α → List UInt8 → Prop} {S : α → β → List UInt8 → Prop} (h1 : BackR p R) (h2 : ∀ a, BackR (q a) (S a)) (hs : ∀ a, Stay (q a)) : BackR (thenP p q) (fun b z => ∃ a x y, z = x ++ y ∧ R a x ∧ S a b y) := by
  intro bs b r h
  unfold thenP at h
  have hc : (p bs 0).2.2 = 0 := by
    by_cases h0 : (p bs 0).2.2 = 0
    · exact h0
    · have e := hs (p bs 0).1 (p bs 0).2.1 (p bs 0).2.2 h0
      rw [h] at e
      exact e.symm
  rw [hc] at h
  obtain ⟨x, e1, r1⟩ := h1 bs (p bs 0).1 (p bs 0).2.1 (Prod.ext rfl (Prod.ext rfl hc))
  obtain ⟨y, e2, r2⟩ := h2 _ _ _ _ h
  exact ⟨x ++ y, by rw [List.append_assoc, ← e2]; exact e1, _, x, y, rfl, r1, r2⟩
theorem BackR.map {R : α → List UInt8 → Prop} (f : α → β) (h : BackR p R) : BackR (mapP f p) (fun b z => ∃ a, b = f a ∧ R a z) := by
  intro bs b r h1
  unfold mapP at h1
  simp only [Prod.mk.injEq] at h1
  obtain ⟨x, e, hr⟩ := h bs (p bs 0).1 r (by rw [← h1.2])
  exact ⟨x, e, _, h1.1.symm, hr⟩
theorem BackR.weak {R S : α → List UInt8 → Prop} (h : BackR p R) (hw : ∀ a x, R a x → S a x) : BackR p S := fun bs a r h1 => by
  obtain ⟨x, e, hr⟩ := h bs a r h1
  exact ⟨x, e, hw _ _ hr⟩
theorem stay_many : ∀ n, Stay (manyP p n)
  | 0, bs, c, hc => rfl
  | n + 1, bs, c, hc => by unfold manyP; rw [if_pos hc]
theorem good_many (enc : α → List UInt8) : ∀ (l : List α), (∀ z ∈ l, Good p z (enc z)) → Good (manyP p l.length) l (l.flatMap enc)
  | [], _ => ⟨fun y => rfl, fun k hk => absurd hk (by simp)⟩
  | z :: l, h => by
    have ih := good_many enc l (fun u hu => h u (List.mem_cons_of_mem _ hu))
    have g := (h z List.mem_cons_self).andThen (q := fun a => mapP (a :: ·) (manyP p l.length)) (ih.map (z :: ·)) (fun a => (stay_many _).map _)
    rw [List.flatMap_cons]
    refine ⟨fun y => ?_, fun k hk => ?_⟩
    · show manyP p (l.length + 1) _ 0 = _
      unfold manyP
      rw [if_neg (by omega)]
      exact g.1 y
    · show (manyP p (l.length + 1) _ 0).2.2 = 1
      unfold manyP
      rw [if_neg (by omega)]
      exact g.2 k hk
theorem back_many (enc : α → List UInt8) (V : α → Prop) (h : BackR p (fun a x => x = enc a ∧ V a)) : ∀ n, BackR (manyP p n) (fun l x => x = l.flatMap enc ∧ (∀ z ∈ l, V z) ∧ l.length = n)
  | 0, bs, l, r, e => by
    unfold manyP at e
    simp only [Prod.mk.injEq, and_true] at e
    refine ⟨[], by rw [e.2]; rfl, ?_⟩
    rw [← e.1]
    exact ⟨rfl, fun z hz => absurd hz (by simp), rfl⟩
  | n + 1, bs, l, r, e => by
    unfold manyP at e
    rw [if_neg (by omega)] at e
    obtain ⟨x, e1, a, y, z, e2, ⟨e3, v⟩, l2, e4, e5, v2, e6⟩ := (h.andThen (q := fun a => mapP (a :: ·) (manyP p n)) (fun a => (back_many enc V h n).map (a :: ·)) (fun a => (stay_many n).map _)) _ _ _ e
    refine ⟨x, e1, ?_⟩
    rw [e4, e2, e3, e5]
    exact ⟨by rw [List.flatMap_cons], fun u hu => (List.mem_cons.1 hu).elim (fun e => e ▸ v) (v2 u), by rw [List.length_cons, e6]⟩
end
theorem stay_take (k : Nat) : Stay (takeL k) := fun bs c hc => by rw [takeL_err k bs c hc]
theorem stay_num (most : Nat) : Stay (numL most) := fun bs c hc => by rw [numL_err most bs c hc]
theorem good_take (x : List UInt8) (k : Nat) (h : x.length = k) : Good (takeL k) x x :=
  ⟨fun y => takeL_app x y k h, fun j hj => by rw [takeL_end k _ (by rw [List.length_take]; omega)]⟩
theorem back_take (k : Nat) : BackR (takeL k) (fun a x => x = a ∧ a.length = k) := fun bs a r h => by
  unfold takeL at h
  rw [if_neg (by omega)] at h
  split at h
  · simp at h
  · simp only [Prod.mk.injEq, and_true] at h
    exact ⟨a, by rw [← h.1, ← h.2, List.take_append_drop], rfl, by rw [← h.1, List.length_take]; omega⟩
/-- So many bytes as a number. -/
def leP (k : Nat) : Par Nat := mapP leN (takeL k)
theorem stay_le (k : Nat) : Stay (leP k) := (stay_take k).map _
theorem leN_inj : ∀ (l m : List UInt8), l.length = m.length → leN l = leN m → l = m
  | [], [], _, _ => rfl
  | x :: l, y :: m, hl, h => by
    have h1 : x.toNat + 256 * leN l = y.toNat + 256 * leN m := h
    have hx := x.toNat_lt
    have hy := y.toNat_lt
    have e1 : x.toNat = y.toNat := by omega
    have e2 : leN l = leN m := by omega
    rw [leN_inj l m (by simpa using hl) e2, UInt8.toNat_inj.1 e1]
theorem leB_leN (l : List UInt8) : leB (leN l) l.length = l :=
  leN_inj _ _ (leB_length _ _) (leN_leB_of (leN_lt l))
theorem good_le (n k : Nat) (h : n < 256 ^ k) : Good (leP k) n (leB n k) := by
  have g := (good_take (leB n k) k (leB_length n k)).map leN
  rw [leN_leB_of h] at g
  exact g
theorem back_le (k : Nat) : BackR (leP k) (fun n x => x = leB n k ∧ n < 256 ^ k) := ((back_take k).map leN).weak fun n x ⟨a, e, e1, e2⟩ => by
  subst e e1 e2
  exact ⟨(leB_leN _).symm, leN_lt _⟩
theorem good_num (most n : Nat) (h : n ≤ most) (hm : most ≤ 18446744073709551615) : Good (numL most) n (putL n) :=
  ⟨fun y => by rw [numL_put most n y (by omega), if_neg (by omega)], fun k hk => by
    rw [putL_length] at hk
    obtain ⟨b, e⟩ := numL_cut most n k hk
    rw [e]⟩
theorem widN_cases (n : Nat) : (widN n = 2 ∧ n = 253) ∨ (widN n = 4 ∧ n = 254) ∨ (widN n = 8 ∧ n = 255) ∨ (widN n = 0 ∧ n ≠ 253 ∧ n ≠ 254 ∧ n ≠ 255) := by
  unfold widN
  split
  · exact .inl ⟨rfl, by assumption⟩
  · split
    · exact .inr (.inl ⟨rfl, by assumption⟩)
    · split
      · exact .inr (.inr (.inl ⟨rfl, by assumption⟩))
      · exact .inr (.inr (.inr ⟨rfl, by assumption, by assumption, by assumption⟩))
theorem back_num (most : Nat) : BackR (numL most) (fun n x => x = putL n ∧ n ≤ most) := fun bs n r h => by
  cases bs with
  | nil => rw [numL_nil] at h; simp at h
  | cons f xs =>
    have hf := f.toNat_lt
    have ef : UInt8.ofNat f.toNat = f := by simp
    have mark : ∀ k, 0 < k → widN f.toNat = k → (∀ z : List UInt8, z.length = k → lenN (leN z) = 1 + k → putL (leN z) = f :: leB (leN z) k) → ∃ x, f :: xs = x ++ r ∧ x = putL n ∧ n ≤ most := by
      intro k h0 hk hp
      by_cases hl : xs.length < k
      · rw [numL_short most f k xs hk hl] at h; simp at h
      · obtain ⟨z, y, e, hz⟩ : ∃ z y, xs = z ++ y ∧ z.length = k := ⟨xs.take k, xs.drop k, (List.take_append_drop k xs).symm, by rw [List.length_take]; omega⟩
        rw [e, numL_mark most f k z y hk h0 hz] at h
        split at h
        · simp at h
        · rename_i h1
          split at h
          · simp at h
          · rename_i h2
            simp only [Prod.mk.injEq, and_true] at h
            have h3 := hp z hz (by omega)
            rw [← hz, leB_leN] at h3
            refine ⟨f :: z, by rw [e, ← h.2]; rfl, ?_, by rw [← h.1]; omega⟩
            rw [← h.1, h3]
    have put : ∀ (z : List UInt8) (k : Nat) (g : UInt8), lenN (leN z) = 1 + k → 0 < k → (k = 2 → g = 253) → (k = 4 → g = 254) → (k = 8 → g = 255) → putL (leN z) = g :: leB (leN z) k := by
      intro z k g hl h0 g1 g2 g3
      rcases lenN_eq (leN z) with ⟨a, b⟩ | ⟨a, b⟩ | ⟨a, b⟩ | ⟨a, b⟩
      · omega
      · rw [b, g1 (by omega), show k = 2 by omega]
      · rw [b, g2 (by omega), show k = 4 by omega]
      · rw [b, g3 (by omega), show k = 8 by omega]
    have fz : ∀ m : Nat, f.toNat = m → f = UInt8.ofNat m := fun m e => by rw [← e, ef]
    rcases widN_cases f.toNat with ⟨e, e2⟩ | ⟨e, e2⟩ | ⟨e, e2⟩ | ⟨e, e2, e3, e4⟩
    · exact mark 2 (by omega) e (fun z _ hl => put z 2 f hl (by omega) (fun _ => fz 253 e2) (fun h => by omega) (fun h => by omega))
    · exact mark 4 (by omega) e (fun z _ hl => put z 4 f hl (by omega) (fun h => by omega) (fun _ => fz 254 e2) (fun h => by omega))
    · exact mark 8 (by omega) e (fun z _ hl => put z 8 f hl (by omega) (fun h => by omega) (fun h => by omega) (fun _ => fz 255 e2))
    · rw [numL_small most f xs (by omega)] at h
      split at h
      · simp at h
      · simp only [Prod.mk.injEq, and_true] at h
        refine ⟨[f], by rw [← h.2]; rfl, ?_, by rw [← h.1]; omega⟩
        rw [← h.1]
        unfold putL
        rw [if_pos (by omega), ef]
end Go.Proofs.Ytidmfcamlgeipaa.Sha
