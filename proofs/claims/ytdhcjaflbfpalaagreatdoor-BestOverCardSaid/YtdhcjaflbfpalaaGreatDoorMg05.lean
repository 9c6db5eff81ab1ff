/-
  Texts of this proof joined into one file: TxC2, HdVal, CnVal, Keep, CnMap, CnSet, CnSpend, RefTree, RefTree2, PathM, RefSmall. What each holds, and under which conditions, its own first sentence tells.
-/
import Derived.LaidEql
import Derived.Deep.DeepFit
import Derived.DeepKeys4
import Derived.Maps.RangeRun
import Derived.Test.YtdhcjaflbfpalaaGreatDoorMg03
import Derived.Test.YtdhcjaflbfpalaaGreatDoorMg04
import Derived.Test.YtdhcjaflbfpalaaGreatDoorMg01
/-
  What package tx is shown to answer of bytes as a transaction, as a hypothesis; what is read is small. No conditions.
-/
namespace Go.Proofs.YtdhcjaflbfpalaaGreatDoor.Sha
open Go Go.RowKit
/-- What bytes are as a transaction. -/
structure ReadIs (bs : List UInt8) (t : TTx) (c : Nat) : Prop where
  eq : readTx bs = (t, c)
end Go.Proofs.YtdhcjaflbfpalaaGreatDoor.Sha

/-
  A block's header as the model has it: 68 cells; where its parts lie. Conditions: digests of 32 bytes.
-/
namespace Go.Proofs.YtdhcjaflbfpalaaGreatDoor.Sha
open Go Go.RowKit
/-- A header's cells. -/
def hdL (h : THd) : List Value := nV h.ver :: (h.prev.map bV ++ (h.root.map bV ++ [nV h.time, nV h.work, nV h.nonce]))
theorem hdL_length {h : THd} (hh : HdOk h) : (hdL h).length = 68 := by simp [hdL, hh.2.1, hh.2.2.1]
theorem hdL_size {h : THd} (hh : HdOk h) : (hdL h).toArray.size = 68 := by rw [List.size_toArray]; exact hdL_length hh
theorem hdL_one' (h : THd) : ∀ v ∈ hdL h, v.oneCell' = true := by
  intro v hv
  rcases List.mem_cons.1 hv with rfl | h1
  · rfl
  rcases List.mem_append.1 h1 with h1 | h1
  · exact bV_one' _ v h1
  rcases List.mem_append.1 h1 with h1 | h1
  · exact bV_one' _ v h1
  · simp only [List.mem_cons, List.not_mem_nil, or_false] at h1
    rcases h1 with rfl | rfl | rfl <;> rfl
/-- The parts' cells. -/
theorem hdL_at {h : THd} (hh : HdOk h) : (hdL h)[0]? = some (nV h.ver) ∧ (hdL h)[65]? = some (nV h.time) ∧ (hdL h)[66]? = some (nV h.work) ∧ (hdL h)[67]? = some (nV h.nonce) := by
  have h1 : (h.prev.map bV).length = 32 := by simp [hh.2.1]
  have h2 : (h.root.map bV).length = 32 := by simp [hh.2.2.1]
  have e : hdL h = [nV h.ver] ++ h.prev.map bV ++ h.root.map bV ++ [nV h.time, nV h.work, nV h.nonce] := by simp [hdL]
  refine ⟨rfl, ?_, ?_, ?_⟩ <;> (rw [e, List.getElem?_append_right (by simp only [List.length_append, h1, h2, List.length_cons, List.length_nil]; omega)]; simp only [List.length_append, h1, h2, List.length_cons, List.length_nil]; rfl)
theorem range_part {w : World} {b o : Nat} {xs ys zs : List Value} (h : w.rangeAt b o (xs ++ (ys ++ zs))) : w.rangeAt b (o + xs.length) ys := fun j v hj => by
  rw [Nat.add_assoc]
  refine h (xs.length + j) v ?_
  rw [List.getElem?_append_right (by omega), Nat.add_sub_cancel_left, List.getElem?_append_left (List.getElem?_eq_some_iff.1 hj).1]
  exact hj
theorem hd_prev {w : World} {b o : Nat} {h : THd} (hg : w.rangeAt b o (hdL h)) : w.rangeAt b (o + 1) (h.prev.map bV) :=
  range_part (xs := [nV h.ver]) (ys := h.prev.map bV) hg
theorem hd_root {w : World} {b o : Nat} {h : THd} (hh : HdOk h) (hg : w.rangeAt b o (hdL h)) : w.rangeAt b (o + 33) (h.root.map bV) := by
  have e : hdL h = (nV h.ver :: h.prev.map bV) ++ (h.root.map bV ++ [nV h.time, nV h.work, nV h.nonce]) := by simp [hdL]
  rw [e] at hg
  have h := range_part hg
  simpa [hh.2.1] using h
/-- What a box with a header in it holds. -/
structure HdBox (w : World) (g : Nat) (h : THd) : Prop where
  row : w.heap[g]? = some (.cells (hdL h).toArray 28 (0, 0))
theorem HdBox.below {w w' : World} {g : Nat} {h : THd} (k : HdBox w g h) (hb : Below w.heap.size w w') : HdBox w' g h := ⟨row_below k.row hb⟩
theorem HdBox.lt {w : World} {g : Nat} {h : THd} (k : HdBox w g h) : g < w.heap.size := (Array.getElem?_eq_some_iff.1 k.row).1
theorem HdBox.cells {w : World} {g : Nat} {h : THd} (k : HdBox w g h) (hh : HdOk h) : w.cell? ⟨g, 0, none⟩ = some (.int .u32 (h.ver : Int)) ∧ w.cell? ⟨g, 65, none⟩ = some (.int .u32 (h.time : Int)) ∧ w.cell? ⟨g, 66, none⟩ = some (.int .u32 (h.work : Int)) ∧ w.cell? ⟨g, 67, none⟩ = some (.int .u32 (h.nonce : Int)) := by
  obtain ⟨h1, h2, h3, h4⟩ := hdL_at hh
  refine ⟨?_, ?_, ?_, ?_⟩ <;> (rw [cell_of_row _ _ _ _ _ _ k.row, List.getElem?_toArray]; assumption)
theorem HdBox.prev {w : World} {g : Nat} {h : THd} (k : HdBox w g h) : w.rangeAt g 1 (h.prev.map bV) := by simpa using hd_prev (range_of_box k.row)
theorem HdBox.root {w : World} {g : Nat} {h : THd} (k : HdBox w g h) (hh : HdOk h) : w.rangeAt g 33 (h.root.map bV) := by simpa using hd_root hh (range_of_box k.row)
end Go.Proofs.YtdhcjaflbfpalaaGreatDoor.Sha

/-
  Coins as the model has them: a coin's 35 cells, a place's 33, a coin with its place 68; rows of elements of so many cells behind a slice, whatever they hold. No conditions beyond those that each states.
-/
namespace Go.Proofs.YtdhcjaflbfpalaaGreatDoor.Sha
open Go Go.RowKit
/-- A place. -/
structure TPt where
  h : List UInt8
  n : Nat
/-- A coin: its value, lock, height, base. -/
structure TMn where
  val : Nat
  lock : List UInt8
  height : Int
  base : Bool
/-- A coin with its place. -/
structure TSp where
  at_ : TPt
  coin : TMn
instance : DecidableEq TPt := fun a b => if h : a.h = b.h ∧ a.n = b.n then isTrue (by cases a; cases b; obtain ⟨h1, h2⟩ := h; subst h1 h2; rfl) else isFalse (fun e => h (by rw [e]; exact ⟨rfl, rfl⟩))
def PtOk (p : TPt) : Prop := p.h.length = 32 ∧ p.n ≤ 4294967295
def MnOk (c : TMn) : Prop := c.lock.length = 32 ∧ c.val ≤ 18446744073709551615 ∧ -9223372036854775808 ≤ c.height ∧ c.height ≤ 9223372036854775807
def SpOk (x : TSp) : Prop := PtOk x.at_ ∧ MnOk x.coin
def ptC (p : TPt) : List Value := ptL p.h p.n
def mnL (c : TMn) : List Value := .int .u64 (c.val : Int) :: (c.lock.map bV ++ [.int .i64 c.height, .bool c.base])
theorem bV_list_inj : ∀ {l m : List UInt8}, l.map bV = m.map bV → l = m
  | [], [], _ => rfl
  | [], _ :: _, h => by simp at h
  | _ :: _, [], h => by simp at h
  | x :: l, y :: m, h => by
    simp only [List.map_cons, List.cons.injEq, bV, Value.int.injEq, true_and] at h
    rw [bv_inj h.1, bV_list_inj h.2]
/-! Rows of elements of k cells each. -/
/-- All of k cells. -/
def AllK (k : Nat) (L : List (List Value)) : Prop := ∀ x ∈ L, x.length = k
theorem AllK.snoc {k : Nat} {L : List (List Value)} {x : List Value} (h : AllK k L) (hx : x.length = k) : AllK k (L ++ [x]) := fun y hy => by
  rcases List.mem_append.1 hy with hy | hy
  · exact h y hy
  · rw [List.mem_singleton.1 hy]; exact hx
theorem AllK.take {k : Nat} {L : List (List Value)} (h : AllK k L) (n : Nat) : AllK k (L.take n) := fun x hx => h x (List.mem_of_mem_take hx)
theorem AllK.get {k : Nat} {L : List (List Value)} (h : AllK k L) {i : Nat} {x : List Value} (hx : L[i]? = some x) : x.length = k := h x (List.mem_of_getElem? hx)
theorem flatten_snoc (L : List (List Value)) (x : List Value) : (L ++ [x]).flatten = L.flatten ++ x := by simp
theorem flatten_length {k : Nat} : ∀ (L : List (List Value)), AllK k L → L.flatten.length = L.length * k
  | [], _ => by simp
  | y :: L, h => by
    rw [List.flatten_cons, List.length_append, flatten_length L (fun z hz => h z (List.mem_cons_of_mem _ hz)), h y List.mem_cons_self, List.length_cons, Nat.add_mul, Nat.one_mul, Nat.add_comm]
theorem flatten_get {k : Nat} : ∀ (L : List (List Value)) (i : Nat) (y : List Value), AllK k L → L[i]? = some y → ∀ j, j < k → L.flatten[i * k + j]? = y[j]?
  | z :: L, 0, y, h, hy, j, hj => by
    simp only [List.getElem?_cons_zero, Option.some.injEq] at hy
    subst hy
    rw [Nat.zero_mul, Nat.zero_add, List.flatten_cons, List.getElem?_append_left (by rw [h z List.mem_cons_self]; exact hj)]
  | z :: L, i + 1, y, h, hy, j, hj => by
    have e : z.length = k := h z List.mem_cons_self
    rw [List.flatten_cons, List.getElem?_append_right (by rw [e, Nat.add_mul, Nat.one_mul]; omega), e, show (i + 1) * k + j - k = i * k + j by rw [Nat.add_mul, Nat.one_mul]; omega]
    exact flatten_get L i y (fun z hz => h z (List.mem_cons_of_mem _ hz)) (by simpa using hy) j hj
  | [], _, _, _, hy, _, _ => by simp at hy
/-- The slice v reads as these elements. -/
def RwAt (k : Nat) (w : World) (v : Value) (L : List (List Value)) : Prop :=
  AllK k L ∧ ∃ sp cap, v = .slice sp L.length cap ∧ L.length ≤ cap ∧ (0 < L.length → ∃ b o, sp = some ⟨b, o, none⟩ ∧ ∀ i x, L[i]? = some x → w.rangeAt b (o + i * k) x)
theorem RwAt.below {k : Nat} {w w' : World} {v : Value} {L : List (List Value)} (h : RwAt k w v L) (hb : Below w.heap.size w w') : RwAt k w' v L := by
  obtain ⟨h0, sp, cap, h1, h2, h3⟩ := h
  refine ⟨h0, sp, cap, h1, h2, fun h0 => ?_⟩
  obtain ⟨b, o, h4, h5⟩ := h3 h0
  exact ⟨b, o, h4, fun i x hx => range_below (h5 i x hx) hb⟩
theorem RwAt.nil (k : Nat) (w : World) (sp : Option Addr) (cap : Nat) : RwAt k w (.slice sp 0 cap) [] := ⟨fun x hx => by simp at hx, sp, cap, rfl, by simp, fun h => by simp at h⟩
theorem RwAt.len {k : Nat} {w : World} {sp : Option Addr} {n cap : Nat} {L : List (List Value)} (h : RwAt k w (.slice sp n cap) L) : n = L.length ∧ n ≤ cap := by
  obtain ⟨_, sp', cap', hv, hc, _⟩ := h
  cases hv
  exact ⟨rfl, hc⟩
theorem RwAt.shape {k : Nat} {w : World} {v : Value} {L : List (List Value)} (h : RwAt k w v L) : ∃ sp cap, v = .slice sp L.length cap := by
  obtain ⟨_, sp, cap, hv, _⟩ := h
  exact ⟨sp, cap, hv⟩
/-- Where they lie. -/
theorem RwAt.get {k : Nat} {w : World} {sp : Option Addr} {n cap : Nat} {L : List (List Value)} (h : RwAt k w (.slice sp n cap) L) (h0 : 0 < n) : ∃ b o, sp = some ⟨b, o, none⟩ ∧ ∀ i x, L[i]? = some x → w.rangeAt b (o + i * k) x := by
  obtain ⟨ho, sp', cap', hv, hc, hr⟩ := h
  cases hv
  exact hr h0
/-- A row of one's own. -/
def RwOwn (k : Nat) (T : TypeId) (base : Nat) (w : World) (v : Value) (L : List (List Value)) : Prop := w.ownsRow base T k v L.length L.flatten ∧ AllK k L
theorem RwOwn.nil (k : Nat) (T : TypeId) (base : Nat) (w : World) : RwOwn k T base w (.slice none 0 0) [] := ⟨World.ownsRow_nil _ _ _ _, fun _ h => absurd h (by simp)⟩
section
variable {k : Nat} {T : TypeId} {base : Nat} {w w' : World} {v v' : Value} {L : List (List Value)}
theorem RwOwn.keep (h : RwOwn k T base w v L) (hb : Below w.heap.size w w') : RwOwn k T base w' v L := ⟨own_kept h.1 hb, h.2⟩
theorem RwOwn.kept (h : RwOwn k T base w v L) {q : Option Nat} (hg : w.grownBy w' q) (hb : v.ownBlock = none ∨ v.ownBlock ≠ q) : RwOwn k T base w' v L := ⟨h.1.kept hg hb, h.2⟩
theorem RwOwn.push {x : List Value} (ho : AllK k L) (hx : x.length = k) (hown : w'.ownsRow base T k v' (L.length + 1) (L.flatten ++ x)) : RwOwn k T base w' v' (L ++ [x]) := by
  refine ⟨?_, ho.snoc hx⟩
  rw [flatten_snoc, List.length_append]
  exact hown
/-- Such a row as a slice. -/
theorem RwOwn.at (h : RwOwn k T base w v L) (hk : 0 < k) : RwAt k w v L := by
  obtain ⟨h2, h3⟩ := h
  refine ⟨h3, ?_⟩
  rcases h2.2 with ⟨hv, h0⟩ | ⟨g, cap, cur, hv, hb, hc, hn, hm, hs, ht⟩
  · exact ⟨none, 0, by rw [hv, h0], by omega, fun h => by omega⟩
  · subst hv
    refine ⟨_, cap, rfl, hn, fun h0 => ⟨g, 0, rfl, fun i x hx => ?_⟩⟩
    have hi := (List.getElem?_eq_some_iff.1 hx).1
    have hxo := h3.get hx
    intro j u hj
    have hjk : j < k := by
      have := (List.getElem?_eq_some_iff.1 hj).1
      omega
    have hlt : i * k + j < L.length * k := by
      have : (i + 1) * k ≤ L.length * k := Nat.mul_le_mul_right _ hi
      rw [Nat.add_mul, Nat.one_mul] at this
      omega
    rw [Nat.zero_add, h2.cellAt (i * k + j) hlt, flatten_get L i x h3 hx j hjk]
    exact hj
end
end Go.Proofs.YtdhcjaflbfpalaaGreatDoor.Sha

/-
  What a fact stands on: 'Kps F w w'': w' is w in the blocks of F, and may have more; 'Sty F w P': P holds in each such world. No conditions.
-/
namespace Go.Proofs.YtdhcjaflbfpalaaGreatDoor.Sha
open Go Go.RowKit
/-- In the blocks of F the world w' is as w was; the streams too. -/
structure Kps (F : Nat → Prop) (w w' : World) : Prop where
  os : w'.os = w.os
  tape : w'.tape = w.tape
  output : w'.output = w.output
  size : w.heap.size ≤ w'.heap.size
  block : ∀ k, k < w.heap.size → F k → w'.heap[k]? = w.heap[k]?
theorem Kps.refl (F : Nat → Prop) (w : World) : Kps F w w := ⟨rfl, rfl, rfl, Nat.le_refl _, fun _ _ _ => rfl⟩
theorem Kps.trans {F : Nat → Prop} {a b c : World} (h : Kps F a b) (k : Kps F b c) : Kps F a c :=
  ⟨k.os.trans h.os, k.tape.trans h.tape, k.output.trans h.output, Nat.le_trans h.size k.size, fun i hi hf => (k.block i (Nat.lt_of_lt_of_le hi h.size) hf).trans (h.block i hi hf)⟩
theorem Kps.mono {F G : Nat → Prop} {w w' : World} (h : Kps F w w') (hs : ∀ k, k < w.heap.size → G k → F k) : Kps G w w' :=
  ⟨h.os, h.tape, h.output, h.size, fun k hk hg => h.block k hk (hs k hk hg)⟩
theorem Kps.below {F : Nat → Prop} {B : Nat} {w w' : World} (h : Below B w w') (hs : ∀ k, k < w.heap.size → F k → k < B) : Kps F w w' :=
  ⟨h.os, h.tape, h.output, h.size, fun k hk hf => h.block k (hs k hk hf)⟩
theorem Kps.new {F : Nat → Prop} {w w' : World} (h : Below w.heap.size w w') : Kps F w w' := Kps.below h fun _ hk _ => hk
theorem Kps.grown {F : Nat → Prop} {q : Option Nat} {w w' : World} (h : w.grownBy w' q) (hs : ∀ k, k < w.heap.size → F k → some k ≠ q) : Kps F w w' :=
  ⟨h.os, h.tape, h.output, h.size, fun k hk hf => h.block k hk (hs k hk hf)⟩
theorem Kps.toBelow {F : Nat → Prop} {w w' : World} (h : Kps F w w') (hs : ∀ k, k < w.heap.size → F k) : Below w.heap.size w w' :=
  ⟨h.os, h.tape, h.output, h.size, fun k hk => h.block k hk (hs k hk)⟩
/-- P holds in every world that is as w in the blocks of F. -/
def Sty (F : Nat → Prop) (w : World) (P : World → Prop) : Prop := ∀ w', Kps F w w' → P w'
theorem Sty.now {F : Nat → Prop} {w : World} {P : World → Prop} (h : Sty F w P) : P w := h w (Kps.refl _ _)
theorem Sty.on {F : Nat → Prop} {w w' : World} {P : World → Prop} (h : Sty F w P) (hk : Kps F w w') : Sty F w' P := fun w'' h2 => h w'' (hk.trans h2)
theorem Sty.imp {F G : Nat → Prop} {w : World} {P Q : World → Prop} (h : Sty F w P) (hs : ∀ k, k < w.heap.size → F k → G k) (hq : ∀ w', P w' → Q w') : Sty G w Q :=
  fun w' hk => hq _ (h w' (hk.mono hs))
/-- What stands while old blocks stand. -/
theorem Sty.all {w : World} {P : World → Prop} (h : ∀ w', Below w.heap.size w w' → P w') : Sty (fun k => k < w.heap.size) w P :=
  fun w' hk => h w' (hk.toBelow fun _ h => h)
theorem row_kps {F : Nat → Prop} {w w' : World} {g : Nat} {o : Obj} (h : w.heap[g]? = some o) (hk : Kps F w w') (hf : F g) : w'.heap[g]? = some o := by
  rw [hk.block g (Array.getElem?_eq_some_iff.1 h).1 hf]
  exact h
theorem SrcB.kps {F : Nat → Prop} {w w' : World} {v : Value} {bs : List UInt8} (h : SrcB w v bs) (ho : ∀ sp n cap, v = .slice (some sp) n cap → 0 < n → F sp.block) (hk : Kps F w w') : SrcB w' v bs := by
  rcases h with h | ⟨h0, bb, off, cap, hv, hc, hs⟩
  · exact .inl h
  · refine .inr ⟨h0, bb, off, cap, hv, hc, fun j hj => ?_⟩
    rw [World.cell?_of_block (hk.block bb (SrcB.block h0 hs) (ho _ _ _ hv h0))]
    exact hs j hj
theorem KeyAt.kps {F : Nat → Prop} {w w' : World} {kv : Value} {key : List UInt8} (h : KeyAt w kv key) (ho : ∀ sp n cap, kv = .slice (some sp) n cap → 0 < n → F sp.block) (hk : Kps F w w') : KeyAt w' kv key := ⟨h.1.kps ho hk, h.2⟩
theorem own_kps {F : Nat → Prop} {w w' : World} {base n size : Nat} {e : TypeId} {v : Value} {xs : List Value} (h : w.ownsRow base e size v n xs) (hk : Kps F w w') (hf : ∀ k, base ≤ k → F k) : w'.ownsRow base e size v n xs := by
  refine ⟨h.1, ?_⟩
  rcases h.2 with hn | ⟨g, cap, cur, rfl, hb, hg, rest⟩
  · exact .inl hn
  · exact .inr ⟨g, cap, cur, rfl, hb, row_kps hg hk (hf g hb), rest⟩
theorem InsOwn.kps {F : Nat → Prop} {w w' : World} {base : Nat} {v : Value} {l : List TIn} {ks : List Value} (h : InsOwn base w v l ks) (hk : Kps F w w') (hf : ∀ k, base ≤ k → F k) : InsOwn base w' v l ks :=
  ⟨h.1, own_kps h.2.1 hk hf, h.2.2.1, fun i x kv hx hkv => ⟨(h.2.2.2 i x kv hx hkv).1.kps (fun sp n cap hv h0 => hf _ (Nat.le_of_not_lt fun hlt => (h.2.2.2 i x kv hx hkv).2.1 sp.block hlt sp n cap hv h0 rfl)) hk, (h.2.2.2 i x kv hx hkv).2⟩⟩
theorem OutsOwn.kps {F : Nat → Prop} {w w' : World} {base : Nat} {v : Value} {m : List TOut} (h : OutsOwn base w v m) (hk : Kps F w w') (hf : ∀ k, base ≤ k → F k) : OutsOwn base w' v m := ⟨own_kps h.1 hk hf, h.2⟩
/-- A transaction in memory that was made since w. -/
def TxNew (w w' : World) (v : Value) (t : TTx) : Prop := Sty (fun k => w.heap.size ≤ k) w' (fun W => TxAt W v t)
theorem TxNew.at {w w' : World} {v : Value} {t : TTx} (h : TxNew w w' v t) : TxAt w' v t := h.now
end Go.Proofs.YtdhcjaflbfpalaaGreatDoor.Sha

/-
  A map of coins by their places: what is found, put, taken away, counted, ranged over. Conditions: places and coins as the model has them.
-/
namespace Go.Proofs.YtdhcjaflbfpalaaGreatDoor.Sha
open Go Go.RowKit Go.MapKept
open Go.ChangeMaps (setBlock heap_setBlock_same heap_setBlock_other)
theorem cn_laidOut : laidOutB Tryz.prog = true := by kernel_rfl
theorem types_two : 2 ≤ Tryz.prog.types.size := of_decide_eq_true (by kernel_rfl)
theorem mapM_some {α β : Type} {f : α → Option β} : ∀ (L : List α), (∀ i ∈ L, ∃ y, f i = some y) → ∃ ys, L.mapM f = some ys
  | [], _ => ⟨[], rfl⟩
  | a :: L, h => by
    obtain ⟨y, hy⟩ := h a List.mem_cons_self
    obtain ⟨ys, hys⟩ := mapM_some L (fun i hi => h i (List.mem_cons_of_mem _ hi))
    exact ⟨y :: ys, by simp [List.mapM_cons, hy, hys]⟩
theorem cm_lits_u8 (D : Nat) (x : UInt8) : Tryz.prog.keyLits (D + 1) 5 [bV x] = some [.int .u8 (bv x)] := by
  have hw : (Lit.int .u8 (bv x)).wf = true := by
    have := bv_bd x
    simp [Lit.wf, IntKind.min, IntKind.max, IntKind.signed, IntKind.bits]
    omega
  simp [Program.keyLits, Tryz.underlying5, bV, hw]
theorem keyLits_arr {P : Program} {D n : Nat} {e t : TypeId} (hu : P.underlying t = some (.array n e)) (cs : List Value) (hl : cs.length = P.cellsOf t) :
    P.keyLits (D + 1) t cs = ((List.range n).mapM fun i => P.keyLits D e ((cs.drop (i * P.cellsOf e)).take (P.cellsOf e))).map List.flatten := by
  conv => lhs; unfold Program.keyLits
  simp only [hu]
  rw [if_pos hl]
theorem cm_lits_hash (D : Nat) (h : List UInt8) (hh : h.length = 32) : ∃ l, Tryz.prog.keyLits (D + 2) 26 (h.map bV) = some l := by
  have c1 : Tryz.prog.cellsOf 26 = 32 := by kernel_rfl
  have c2 : Tryz.prog.cellsOf 5 = 1 := by kernel_rfl
  obtain ⟨ys, hys⟩ := mapM_some (f := fun i => Tryz.prog.keyLits (D + 1) 5 (((h.map bV).drop (i * 1)).take 1)) (List.range 32) (fun i hi => by
    have hi2 : i < h.length := by rw [hh]; exact List.mem_range.1 hi
    have e : ((h.map bV).drop (i * 1)).take 1 = [bV (h[i]'hi2)] := by
      rw [Nat.mul_one, ← List.map_drop, List.drop_eq_getElem_cons hi2]
      rfl
    exact ⟨_, by show Tryz.prog.keyLits (D + 1) _ _ = _; rw [e]; exact cm_lits_u8 D _⟩)
  refine ⟨ys.flatten, ?_⟩
  rw [keyLits_arr Tryz.underlying26 _ (by rw [List.length_map, hh, c1]), c2, hys]
  rfl
/-! The map. -/
def enE (x : TSp) : Value × Value := (.agg (ptC x.at_).toArray, .agg (mnL x.coin).toArray)
def kvE (e : MapEntry) : Value × Value := (e.key, e.val)
/-- Block b is a map of these coins. -/
def MapAt (w : World) (b : Nat) (l : List TSp) : Prop :=
  ∃ es clock, w.heap[b]? = some (.map es clock) ∧ Stamped es clock ∧ es.toList.map kvE = l.map enE ∧ ∀ x ∈ l, SpOk x
/-- A map's value: none, or a block. -/
def MapO (w : World) (m : Option Nat) (l : List TSp) : Prop :=
  match m with
  | none => l = []
  | some b => MapAt w b l
section
variable {w : World} {b : Nat} {l : List TSp}
/-- No place has two coins. -/
theorem MapAt.apart (h : MapAt w b l) : l.Pairwise (fun x y => x.at_ ≠ y.at_) := by
  obtain ⟨es, clock, _, hs, he, _⟩ := h
  have h1 := ((stamped_iff es clock).1 hs).2.2
  have h2 : (es.toList.map kvE).Pairwise (fun p q => p.1 ≠ q.1) := by
    rw [List.pairwise_map]
    exact h1
  rw [he, List.pairwise_map] at h2
  exact h2.imp (fun {x y} hne e => hne (by show Value.agg _ = .agg _; rw [e]))
theorem MapAt.ok (h : MapAt w b l) : ∀ x ∈ l, SpOk x := by
  obtain ⟨_, _, _, _, _, ho⟩ := h
  exact ho
theorem MapAt.lt (h : MapAt w b l) : b < w.heap.size := by
  obtain ⟨_, _, hb, _⟩ := h
  exact (Array.getElem?_eq_some_iff.1 hb).1
theorem MapAt.kps {F : Nat → Prop} {w' : World} (h : MapAt w b l) (hk : Kps F w w') (hf : F b) : MapAt w' b l := by
  obtain ⟨es, clock, hb, h2⟩ := h
  exact ⟨es, clock, row_kps hb hk hf, h2⟩
theorem MapO.apart {m : Option Nat} (h : MapO w m l) : l.Pairwise (fun x y => x.at_ ≠ y.at_) := by
  cases m with
  | none => rw [show l = [] from h]; exact List.Pairwise.nil
  | some b => exact MapAt.apart h
theorem MapO.ok {m : Option Nat} (h : MapO w m l) : ∀ x ∈ l, SpOk x := by
  cases m with
  | none => rw [show l = [] from h]; simp
  | some b => exact MapAt.ok h
theorem MapO.kps {F : Nat → Prop} {w' : World} {m : Option Nat} (h : MapO w m l) (hk : Kps F w w') (hf : ∀ b, m = some b → F b) : MapO w' m l := by
  cases m with
  | none => exact h
  | some b => exact MapAt.kps h hk (hf b rfl)
/-! Ranging. -/
/-- Block r goes over the map m; these are still to come. -/
def IterAt (w : World) (m : Option Nat) (r : Nat) (rest : List TSp) : Prop :=
  match m with
  | none => rest = [] ∧ w.heap[r]? = some (.mapIter none 0 #[] 0)
  | some b => ∃ es clock since seen c0, w.heap[b]? = some (.map es clock) ∧ Stamped es clock ∧ w.heap[r]? = some (.mapIter (some b) since seen c0) ∧ (∀ x ∈ es.toList, x.born < since) ∧ since ≤ c0 ∧ since ≤ clock ∧
    (leftOf es seen).toList.map kvE = rest.map enE ∧ ∀ x ∈ rest, SpOk x
theorem IterAt.kps {F : Nat → Prop} {w' : World} {m : Option Nat} {r : Nat} {rest : List TSp} (h : IterAt w m r rest) (hk : Kps F w w') (hf : ∀ b, m = some b → F b) (hr : F r) : IterAt w' m r rest := by
  cases m with
  | none => exact ⟨h.1, row_kps h.2 hk hr⟩
  | some b =>
    obtain ⟨es, clock, since, seen, c0, hb, h1, h2, h3⟩ := h
    exact ⟨es, clock, since, seen, c0, row_kps hb hk (hf b rfl), h1, row_kps h2 hk hr, h3⟩
theorem IterAt.below {w' : World} {m : Option Nat} {r : Nat} {rest : List TSp} (h : IterAt w m r rest) (hb : Below w.heap.size w w') : IterAt w' m r rest := by
  cases m with
  | none => exact ⟨h.1, row_below h.2 hb⟩
  | some b =>
    obtain ⟨es, clock, since, seen, c0, h0, h1, h2, h3⟩ := h
    exact ⟨es, clock, since, seen, c0, row_below h0 hb, h1, row_below h2 hb, h3⟩
end
end Go.Proofs.YtdhcjaflbfpalaaGreatDoor.Sha

/-
  A set of coins in memory: how many, what is at a place. Nothing that was there turns. Conditions: the set lies where the pointer says; a place as the model has it.
-/
namespace Go.Proofs.YtdhcjaflbfpalaaGreatDoor.Sha
open Go Go.RowKit
theorem yieldsIf_lookup {P : Program} {ops : Array Oper} {S : World → Prop} {op : Oper} {a : Act} (hw : Region.wanted op (yielded ops a.tmps) = true) (t : TypeId) (x y : Operand) (c : Bool) (ho : op.op = .lookup t x y c)
    (u v z : Value) (hx : a.eval x = u) (hy : a.eval y = v) (h : ∀ w, S w → (Instr.lookup t u v c).run P w = .ok z w) : YieldsIf P ops S op z a :=
  .inl ⟨hw, fun w hw' => by
    unfold execOp
    simp [ho, hx, hy, h w hw', Sem.run_bind, Result.andThen]⟩
section
variable {w w' : World} {a : Nat} {m : Option Nat} {l : List TSp}
theorem MapO.lt (h : MapO w m l) : ∀ b, m = some b → b < w.heap.size := fun b e => by
  subst e
  exact MapAt.lt h
end
end Go.Proofs.YtdhcjaflbfpalaaGreatDoor.Sha

/-
  A coin is spent, or added; the map alone turns, and the set's box where it had none. Conditions: the set lies where the pointer says; a place, a coin as the model has them; the errors are there.
-/
namespace Go.Proofs.YtdhcjaflbfpalaaGreatDoor.Sha
open Go Go.RowKit
theorem Kps.far {F : Nat → Prop} {w w1 w2 : World} {g : Nat} (h : Kps F w w1) (hg : w1.grownBy w2 (some g)) (hge : w.heap.size ≤ g) : Kps F w w2 :=
  ⟨hg.os.trans h.os, hg.tape.trans h.tape, hg.output.trans h.output, Nat.le_trans h.size hg.size, fun k hk hf => (hg.block k (Nat.lt_of_lt_of_le hk h.size) (fun e => by have := Option.some.inj e; omega)).trans (h.block k hk hf)⟩
theorem cell_below {w w' : World} {p : Addr} {v : Value} (h : w.cell? p = some v) (hb : Below w.heap.size w w') : w'.cell? p = some v := by
  rw [hb.cell (World.block_lt_of_cell? w _ h)]
  exact h
end Go.Proofs.YtdhcjaflbfpalaaGreatDoor.Sha

/-
  The statements' own tree: a box with an own row of nodes; where a block is. Nothing that was there turns. Conditions: the tree lies where the pointer says, nodes as the model has them, at most 4096.
-/
namespace Go.Proofs.YtdhcjaflbfpalaaGreatDoor.Sha
open Go Go.RowKit
/-- A node. -/
structure TNd where
  id : List UInt8
  h : THd
  parent : Int
  height : Int
  work : Nat
  bad : Bool
def ndL (x : TNd) : List Value := x.id.map bV ++ (hdL x.h ++ [.int .i64 x.parent, .int .i64 x.height, .int .u64 (x.work : Int), .bool x.bad])
def NdOk (x : TNd) : Prop := x.id.length = 32 ∧ HdOk x.h ∧ -1 ≤ x.parent ∧ x.parent ≤ 4096 ∧ 0 ≤ x.height ∧ x.height ≤ 4096 ∧ x.work ≤ 18446744073709551615
def ndZ : TNd := ⟨List.replicate 32 0, ⟨0, List.replicate 32 0, List.replicate 32 0, 0, 0, 0⟩, 0, 0, 0, false⟩
/-- The tree: its row is one's own. -/
structure TreeAt (w : World) (base a : Nat) (v : Value) (L : List TNd) : Prop where
  box : w.heap[a]? = some (.cells #[v] 88 (0, 0))
  row : RwOwn 104 85 base w v (L.map ndL)
section
variable {w w' : World} {base a : Nat} {v : Value} {L : List TNd}
theorem TreeAt.below (h : TreeAt w base a v L) (hb : Below w.heap.size w w') : TreeAt w' base a v L := ⟨row_below h.box hb, h.row.keep hb⟩
theorem TreeAt.at (h : TreeAt w base a v L) : RwAt 104 w v (L.map ndL) := h.row.at (by omega)
theorem TreeAt.cell (h : TreeAt w base a v L) : w.cell? ⟨a, 0, none⟩ = some v := by
  rw [cell_of_row _ _ _ _ _ _ h.box]
  rfl
theorem TreeAt.kps {F : Nat → Prop} (h : TreeAt w base a v L) (hk : Kps F w w') (ha : F a) (hf : ∀ b, v.ownBlock = some b → F b) : TreeAt w' base a v L := by
  refine ⟨row_kps h.box hk ha, ?_, h.row.2⟩
  obtain ⟨h1, h2⟩ := h.row.1
  refine ⟨h1, ?_⟩
  rcases h2 with h2 | ⟨g, cap, cur, hv, hb, hc, h3⟩
  · exact .inl h2
  · exact .inr ⟨g, cap, cur, hv, hb, row_kps hc hk (hf g (by rw [hv]; rfl)), h3⟩
/-- Where its nodes lie. -/
theorem TreeAt.get {sp : Option Addr} {n cap : Nat} (h : TreeAt w base a (.slice sp n cap) L) (h0 : 0 < n) : ∃ b o, sp = some ⟨b, o, none⟩ ∧ ∀ i x, L[i]? = some x → w.rangeAt b (o + i * 104) (ndL x) := by
  obtain ⟨b, o, hs, hg⟩ := h.at.get h0
  exact ⟨b, o, hs, fun i x hx => hg i (ndL x) (by rw [List.getElem?_map, hx]; rfl)⟩
end
/-- Where a block is; -1. -/
def findT (L : List TNd) (id : List UInt8) : Int := match L.findIdx? (fun x => decide (x.id = id)) with | some k => (k : Int) | none => -1
theorem findT_some {L : List TNd} {id : List UInt8} {k : Nat} {x : TNd} (hx : L[k]? = some x) (hi : x.id = id) (hlt : ∀ (j : Nat) (y : TNd), j < k → L[j]? = some y → y.id ≠ id) : findT L id = (k : Int) := by
  have h : L.findIdx? (fun x => decide (x.id = id)) = some k := by
    rw [List.findIdx?_eq_some_iff_getElem]
    obtain ⟨hk, e⟩ := List.getElem?_eq_some_iff.1 hx
    exact ⟨hk, by rw [e]; simp [hi], fun j hj => by
      have := hlt j L[j] hj (List.getElem?_eq_getElem (by omega))
      simp [this]⟩
  unfold findT
  rw [h]
theorem findT_cases (L : List TNd) (id : List UInt8) : (findT L id = -1 ∧ ∀ x ∈ L, x.id ≠ id) ∨ ∃ (k : Nat) (x : TNd), findT L id = (k : Int) ∧ L[k]? = some x ∧ x.id = id ∧ ∀ (j : Nat) (y : TNd), j < k → L[j]? = some y → y.id ≠ id := by
  cases h : L.findIdx? (fun x => decide (x.id = id)) with
  | none =>
    refine .inl ⟨by unfold findT; rw [h], fun x hx => ?_⟩
    have := List.findIdx?_eq_none_iff.1 h x hx
    simpa using this
  | some k =>
    obtain ⟨hk, h1, h2⟩ := List.findIdx?_eq_some_iff_getElem.1 h
    refine .inr ⟨k, L[k], by unfold findT; rw [h], List.getElem?_eq_getElem hk, by simpa using h1, fun j y hj hy => ?_⟩
    have := h2 j hj
    obtain ⟨hj2, e⟩ := List.getElem?_eq_some_iff.1 hy
    rw [← e]
    simpa using this
end Go.Proofs.YtdhcjaflbfpalaaGreatDoor.Sha

/-
  The statements' own tree: the places from one down to the start; whether one is below another one. Nothing that was there turns. Conditions: the tree lies where the pointer says; each node's parent stands ahead of it, at most 4096.
-/
namespace Go.Proofs.YtdhcjaflbfpalaaGreatDoor.Sha
open Go Go.RowKit
/-- Each one's parent stands ahead of it. -/
def Down (L : List TNd) : Prop := ∀ (i : Nat) x, L[i]? = some x → -1 ≤ x.parent ∧ x.parent < (i : Int)
def parT (L : List TNd) (k : Nat) : Int := match L[k]? with | some x => x.parent | none => -1
/-- From one down to the start. -/
def upF (L : List TNd) : Nat → Int → List Int
  | 0, _ => []
  | f + 1, k => if k < 0 then [] else k :: upF L f (parT L k.toNat)
def upL (L : List TNd) (k : Int) : List Int := upF L (k.toNat + 1) k
theorem upF_more (L : List TNd) (hd : Down L) : ∀ (f g : Nat) (k : Int), k.toNat < f → k.toNat < g → k < (L.length : Int) → upF L f k = upF L g k
  | 0, _, _, h, _, _ => absurd h (by omega)
  | _ + 1, 0, _, _, h, _ => absurd h (by omega)
  | f + 1, g + 1, k, h1, h2, hk => by
    rw [upF, upF]
    by_cases h0 : k < 0
    · rw [if_pos h0, if_pos h0]
    · rw [if_neg h0, if_neg h0]
      congr 1
      obtain ⟨x, hx⟩ : ∃ x, L[k.toNat]? = some x := ⟨_, List.getElem?_eq_getElem (by omega)⟩
      have hp := hd _ _ hx
      have e : parT L k.toNat = x.parent := by unfold parT; rw [hx]
      rw [e]
      by_cases hn : x.parent < 0
      · cases f with
        | zero => cases g with
          | zero => rfl
          | succ g => rw [upF, upF, if_pos hn]
        | succ f => cases g with
          | zero => rw [upF, upF, if_pos hn]
          | succ g => rw [upF, upF, if_pos hn, if_pos hn]
      · exact upF_more L hd f g x.parent (by omega) (by omega) (by omega)
theorem upL_neg {L : List TNd} {k : Int} (h : k < 0) : upL L k = [] := by
  unfold upL
  rw [upF, if_pos h]
theorem upL_step {L : List TNd} (hd : Down L) {k : Nat} {x : TNd} (hx : L[k]? = some x) : upL L (k : Int) = (k : Int) :: upL L x.parent := by
  have hk := (List.getElem?_eq_some_iff.1 hx).1
  have hp := hd k x hx
  have e : parT L k = x.parent := by unfold parT; rw [hx]
  unfold upL
  rw [upF, if_neg (by omega), Int.toNat_natCast, e]
  congr 1
  by_cases h0 : x.parent < 0
  · rw [upF, if_pos h0]
    cases k with
    | zero => rfl
    | succ k => rw [upF, if_pos h0]
  · exact upF_more L hd _ _ _ (by omega) (by omega) (by omega)
theorem upL_bound {L : List TNd} (hd : Down L) : ∀ (n k : Nat), k ≤ n → k < L.length → (upL L (k : Int)).length ≤ k + 1
  | n, k, hkn, hk => by
    obtain ⟨x, hx⟩ : ∃ x, L[k]? = some x := ⟨_, List.getElem?_eq_getElem hk⟩
    have hp := hd k x hx
    rw [upL_step hd hx, List.length_cons]
    by_cases h0 : x.parent < 0
    · rw [upL_neg h0]; simp
    · obtain ⟨p, hpe⟩ : ∃ p : Nat, x.parent = (p : Int) := ⟨x.parent.toNat, by omega⟩
      rw [hpe]
      match n, hkn with
      | 0, h => exact absurd (show p < 0 by omega) (by omega)
      | n + 1, h =>
        have := upL_bound hd n p (by omega) (by omega)
        omega
/-- Is one below another one, or it? -/
def belT (L : List TNd) (k u : Int) : Bool := (upL L k).contains u
end Go.Proofs.YtdhcjaflbfpalaaGreatDoor.Sha

/-
  The tree of headers as a list: chains from a node down to the start, what two chains have in common, the ids of places. No conditions.
-/
namespace Go.Proofs.YtdhcjaflbfpalaaGreatDoor.Sha
open Go Go.RowKit
theorem upL_mem {L : List TNd} (hd : Down L) : ∀ (n k : Nat), k ≤ n → k < L.length → ∀ j ∈ upL L (k : Int), 0 ≤ j ∧ j < (L.length : Int)
  | n, k, hkn, hk, j, hj => by
    obtain ⟨x, hx⟩ : ∃ x, L[k]? = some x := ⟨_, List.getElem?_eq_getElem hk⟩
    have hp := hd k x hx
    rw [upL_step hd hx] at hj
    rcases List.mem_cons.1 hj with rfl | hj
    · omega
    · by_cases h0 : x.parent < 0
      · rw [upL_neg h0] at hj
        cases hj
      · obtain ⟨p, hpe⟩ : ∃ p : Nat, x.parent = (p : Int) := ⟨x.parent.toNat, by omega⟩
        rw [hpe] at hj
        match n, hkn with
        | 0, h => exact absurd (show p < 0 by omega) (by omega)
        | n + 1, h => exact upL_mem hd n p (by omega) (by omega) j hj
/-- The start alone has no parent. -/
def Rooted (L : List TNd) : Prop := ∀ (i : Nat) x, L[i]? = some x → 0 < i → 0 ≤ x.parent
/-- How many two lists have in common from the first on. -/
def comP : List Int → List Int → Nat
  | x :: l, y :: m => if x = y then comP l m + 1 else 0
  | _, _ => 0
theorem upL_last {L : List TNd} (hd : Down L) (hr : Rooted L) : ∀ (n k : Nat), k ≤ n → k < L.length → (upL L (k : Int)).getLast? = some 0
  | n, k, hkn, hk => by
    obtain ⟨x, hx⟩ : ∃ x, L[k]? = some x := ⟨_, List.getElem?_eq_getElem hk⟩
    have hp := hd k x hx
    rw [upL_step hd hx]
    by_cases h0 : k = 0
    · subst h0
      rw [upL_neg (by omega)]
      rfl
    · have hx0 := hr k x hx (by omega)
      obtain ⟨p, hpe⟩ : ∃ p : Nat, x.parent = (p : Int) := ⟨x.parent.toNat, by omega⟩
      rw [hpe]
      match n, hkn with
      | 0, h => exact absurd h (by omega)
      | n + 1, h =>
        have ih := upL_last hd hr n p (by omega) (by omega)
        rw [List.getLast?_cons, ih]
        rfl
/-- The ids of these places. -/
def idsT (L : List TNd) (l : List Int) : List (List UInt8) := l.map fun j => (L.getD j.toNat ndZ).id
def comT (L : List TNd) (x y : Int) : Nat := comP (upL L x).reverse (upL L y).reverse
def backT (L : List TNd) (x y : Int) : List (List UInt8) := idsT L ((upL L x).take ((upL L x).length - comT L x y))
def onT (L : List TNd) (x y : Int) : List (List UInt8) := idsT L (((upL L y).take ((upL L y).length - comT L x y)).reverse)
def meetT (L : List TNd) (x y : Int) : List UInt8 := (L.getD ((upL L x).getD ((upL L x).length - comT L x y) 0).toNat ndZ).id
end Go.Proofs.YtdhcjaflbfpalaaGreatDoor.Sha

/-
  Small functions of the statements' own SHA-256: a word turned right, the table of the rounds' words, as the chapter gives them. No conditions.
-/
namespace Go.Proofs.YtdhcjaflbfpalaaGreatDoor.Sha
open Go Go.RowKit
theorem right_fact (x : UInt32) (n : Nat) (h1 : 1 ≤ n) (h2 : n ≤ 31) : bits .or .u32 (wv x / 2 ^ n) (wv x * 2 ^ (32 - n) % 4294967296) = wv (rotr x n) := by
  rw [← IntKind.wrap_u32', wv_shl x _ (by omega), wv_shr x n (by omega), wv_or]
  rfl
set_option maxRecDepth 100000 in
theorem right_any (x : UInt32) (n : Nat) (k : Int) (hk : k = (n : Int)) (h1 : 1 ≤ n) (h2 : n ≤ 31) (w : World) :
    Calls Tryz.prog 55 #[.int .u32 (wv x), .int .u64 k] w fun e w' => e = .returned (.int .u32 (wv (rotr x n))) ∧ w = w' := by
  subst hk
  go_enter Tryz.func55, Tryz.ntmps55
  go_wp2
  go_ret
  exact ⟨ret_int (right_fact x n h1 h2), rfl⟩
theorem right_z (x : UInt32) (k : Int) (h1 : 1 ≤ k) (h2 : k ≤ 31) (w : World) :
    Calls Tryz.prog 55 #[.int .u32 (wv x), .int .u64 k] w fun e w' => e = .returned (.int .u32 (wv (rotr x k.toNat))) ∧ w = w' :=
  right_any x k.toNat k (by omega) (by omega) (by omega) w
theorem wv_sum3 (a b c : UInt32) : (wv a + wv b + wv c) % 4294967296 = wv (a + b + c) := by rw [← wv_sum, ← wv_sum]; omega
theorem wv_sum4 (a b c d : UInt32) : (wv a + wv b + wv c + wv d) % 4294967296 = wv (a + b + c + d) := by rw [← wv_sum, ← wv_sum3]; omega
theorem wv_not (x : UInt32) : bits .xor .u32 IntKind.u32.max (wv x) = wv (~~~x) := by
  rw [show IntKind.u32.max = wv 4294967295 from rfl, wv_xor, show (4294967295 : UInt32) = -1 from rfl, UInt32.neg_one_xor]
set_option maxRecDepth 100000 in
theorem k_any (w : World) : Calls Tryz.prog 54 #[] w fun e w' => e = .returned (.slice (some ⟨w.heap.size, 0, none⟩) 64 64) ∧ w'.heap[w.heap.size]? = some (.cells (kList.map wV).toArray 24 (0, 0)) ∧ Below w.heap.size w w' := by
  go_enter Tryz.func54, Tryz.ntmps54
  go_wp2
  go_ret
  exact ⟨rfl, by rw [heap_alloc_new]; rfl, (Below.refl _ _).alloc (Nat.le_refl _) _⟩
end Go.Proofs.YtdhcjaflbfpalaaGreatDoor.Sha
