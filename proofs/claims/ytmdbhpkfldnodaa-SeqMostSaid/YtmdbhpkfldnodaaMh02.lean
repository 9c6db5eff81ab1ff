/-
  Texts of this proof joined into one file: CnSpend, CmpRead, CmpHash, Par, TxRead2, TxTakeM, TxTakeIn, TxTakeW0, ShaMath, ShaMath2, CnLay, CnSt, CnAll, CnSum, RefHalves, HeldEnd, HdMath, TxC2, RefTree, RefTree2, RefPasts, ArgsI64, RefNeed, SqM, SqMax. What each holds, and under which conditions, its own first sentence tells.
-/
import Derived.LaidEql
import Derived.Deep.DeepFit
import Derived.Deep.RegionLaw
import Derived.Maps.AppendAt
import Derived.WalkKit
import Derived.Sort.Grow
import Derived.Lib.Bytealg
import Derived.Lib.BytesEntry
import Derived.LoopN
import Derived.Deep.DeepCutAuto
import Derived.StillTailTactics
import Derived.Deep.Light
import Derived.LoopTactic
import Derived.Laws.CopyOwn
import Derived.Lib.Hide
import Derived.WalkSmall
import Derived.Maps.RangeWalk
import Derived.RegionTactic
import Derived.Deep.QuietTactic
import Derived.BigQuiet
import Derived.Deep.MidRow
import Derived.WalkSpells
import Derived.Carry
import Derived.Shelf.SlGeneric
import Derived.Shelf.SlSortCmp.WholeK
import Derived.IntWalk
import Derived.Lib.OwnKind
import Derived.Test.YtmdbhpkfldnodaaMh01
import Derived.Test.YtmdbhpkfldnodaaProg
/-
  A coin is spent, or added; the map alone turns, and the set's box where it had none. Conditions: the set lies where the pointer says; a place, a coin as the model has them; the errors are there.
-/
namespace Go.Proofs.Ytmdbhpkfldnodaa.Sha
open Go Go.RowKit
theorem cell_below {w w' : World} {p : Addr} {v : Value} (h : w.cell? p = some v) (hb : Below w.heap.size w w') : w'.cell? p = some v := by
  rw [hb.cell (World.block_lt_of_cell? w _ h)]
  exact h
end Go.Proofs.Ytmdbhpkfldnodaa.Sha

/-
  A Reader's Num, Four, Eight, Bytes and Hash answer what the chapter says, and leave what it says. Conditions: the Reader stands as it should; the three errors are there.
-/
namespace Go.Proofs.Ytmdbhpkfldnodaa.Sha
open Go Go.RowKit
/-- What Num answers, leaves and meets. -/
def numL (most : Nat) (bs : List UInt8) (c : Nat) : Nat × List UInt8 × Nat :=
  let t := takeL 1 bs c
  let k := widN (leN t.1)
  let u := if k = 0 then t else takeL k t.2.1 t.2.2
  if u.2.2 ≠ 0 then (0, u.2.1, u.2.2) else if lenN (leN u.1) ≠ 1 + k then (0, u.2.1, 2) else if most < leN u.1 then (0, u.2.1, 4) else (leN u.1, u.2.1, 0)
end Go.Proofs.Ytmdbhpkfldnodaa.Sha

/-
  A Reader's Hash answers the next 32 bytes, or no digest, and leaves what the chapter says. Conditions: the Reader stands as it should; the three errors are there.
-/
namespace Go.Proofs.Ytmdbhpkfldnodaa.Sha
open Go Go.RowKit
/-- Bytes filled up to a digest's 32. -/
def padH (x : List UInt8) : List UInt8 := x ++ List.replicate (32 - x.length) 0
end Go.Proofs.Ytmdbhpkfldnodaa.Sha

/-
  Plain mathematics of readers of bytes, one behind the other: what was written is read again; cut off it ends too early; what is read has just these bytes. No conditions beyond those that each states.
-/
namespace Go.Proofs.Ytmdbhpkfldnodaa.Sha
open Go Go.RowKit
/-- A reader of bytes: what it answers, what it leaves, what it met. -/
abbrev Par (α : Type) := List UInt8 → Nat → α × List UInt8 × Nat
def thenP {α β : Type} (p : Par α) (q : α → Par β) : Par β := fun bs c => q (p bs c).1 (p bs c).2.1 (p bs c).2.2
def mapP {α β : Type} (f : α → β) (p : Par α) : Par β := fun bs c => (f (p bs c).1, (p bs c).2)
def manyP {α : Type} (p : Par α) : Nat → Par (List α)
  | 0, bs, c => ([], bs, c)
  | n + 1, bs, c => if c ≠ 0 then ([], bs, c) else thenP p (fun a => mapP (a :: ·) (manyP p n)) bs c
/-- Bytes that it reads whole, whatever stands behind; cut off, they end too early. -/
def Good {α : Type} (p : Par α) (a : α) (x : List UInt8) : Prop := (∀ y, p (x ++ y) 0 = (a, y, 0)) ∧ ∀ k, k < x.length → (p (x.take k) 0).2.2 = 1
/-- An error stays. -/
def Stay {α : Type} (p : Par α) : Prop := ∀ bs c, c ≠ 0 → (p bs c).2.2 = c
/-- What is read stands so to the bytes that it was read from. -/
def BackR {α : Type} (p : Par α) (R : α → List UInt8 → Prop) : Prop := ∀ bs a r, p bs 0 = (a, r, 0) → ∃ x, bs = x ++ r ∧ R a x
section
variable {α β : Type} {p : Par α} {q : α → Par β} {a : α} {b : β} {x y : List UInt8}
theorem Good.andThen (h1 : Good p a x) (h2 : Good (q a) b y) (hs : ∀ a, Stay (q a)) : Good (thenP p q) b (x ++ y) := by
  refine ⟨fun z => ?_, fun k hk => ?_⟩
  · unfold thenP
    rw [List.append_assoc, h1.1]
    exact h2.1 z
  · by_cases h : k < x.length
    · rw [List.take_append_of_le_length (by omega)]
      unfold thenP
      rw [h1.2 k h]
      exact hs _ _ 1 (by omega)
    · rw [List.take_append, List.take_of_length_le (by omega)]
      unfold thenP
      rw [h1.1]
      exact h2.2 (k - x.length) (by rw [List.length_append] at hk; omega)
theorem Good.map (f : α → β) (h : Good p a x) : Good (mapP f p) (f a) x :=
  ⟨fun z => by unfold mapP; rw [h.1], fun k hk => h.2 k hk⟩
theorem Stay.andThen (h1 : Stay p) (h2 : ∀ a, Stay (q a)) : Stay (thenP p q) := fun bs c hc => by
  unfold thenP
  have e := h1 bs c hc
  rw [h2 _ _ _ (by rw [e]; exact hc), e]
theorem Stay.map (f : α → β) (h : Stay p) : Stay (mapP f p) := fun bs c hc => h bs c hc
theorem BackR.andThen {R : α → List UInt8 → Prop} {S : α → β → List UInt8 → Prop} (h1 : BackR p R) (h2 : ∀ a, BackR (q a) (S a)) (hs : ∀ a, Stay (q a)) : BackR (thenP p q) (fun b z => ∃ a x y, z = x ++ y ∧ R a x ∧ S a b y) := by
  intro bs b r h
  unfold thenP at h
  have hc : (p bs 0).2.2 = 0 := by
    by_cases h0 : (p bs 0).2.2 = 0
    · exact h0
    · have e := hs (p bs 0).1 (p bs 0).2.1 (p bs 0).2.2 h0
      rw [h] at e
      exact e.symm
  rw [hc] at h
  obtain ⟨x, e1, r1⟩ := h1 bs (p bs 0).1 (p bs 0).2.1 (Prod.ext rfl (Prod.ext rfl hc))
  obtain ⟨y, e2, r2⟩ := h2 _ _ _ _ h
  exact ⟨x ++ y, by rw [List.append_assoc, ← e2]; exact e1, _, x, y, rfl, r1, r2⟩
theorem BackR.map {R : α → List UInt8 → Prop} (f : α → β) (h : BackR p R) : BackR (mapP f p) (fun b z => ∃ a, b = f a ∧ R a z) := by
  intro bs b r h1
  unfold mapP at h1
  simp only [Prod.mk.injEq] at h1
  obtain ⟨x, e, hr⟩ := h bs (p bs 0).1 r (by rw [← h1.2])
  exact ⟨x, e, _, h1.1.symm, hr⟩
end
/-- So many bytes as a number. -/
def leP (k : Nat) : Par Nat := mapP leN (takeL k)
end Go.Proofs.Ytmdbhpkfldnodaa.Sha

/-
  Plain mathematics of a transaction read out of bytes: an input, an output, the whole; all that is in the bytes, and what is amiss. No conditions beyond those that each states.
-/
namespace Go.Proofs.Ytmdbhpkfldnodaa.Sha
open Go Go.RowKit
def inP : Par TIn := thenP (takeL 32) fun h => thenP (leP 4) fun n => thenP (numL 80) fun k => thenP (takeL k) fun key => mapP (fun s => ⟨padH h, n, key, s⟩) (leP 4)
def outP : Par TOut := thenP (leP 8) fun v => mapP (fun h => ⟨v, padH h⟩) (takeL 32)
def txP : Par TTx := thenP (leP 4) fun v => thenP (numL 50) fun n => thenP (manyP inP n) fun is => thenP (numL 50) fun m => thenP (manyP outP m) fun os => mapP (fun t => ⟨v, is, os, t⟩) (leP 4)
def noTx : TTx := ⟨0, [], [], 0⟩
/-- Bytes as a transaction, or what is amiss. -/
def readTx (bs : List UInt8) : TTx × Nat := if (txP bs 0).2.2 ≠ 0 then (noTx, (txP bs 0).2.2) else if (txP bs 0).2.1 ≠ [] then (noTx, 2) else ((txP bs 0).1, 0)
end Go.Proofs.Ytmdbhpkfldnodaa.Sha

/-
  Plain mathematics of so many things read one behind the other, whether or not an error was met between: they leave and meet what those do that stop at the first error. No conditions.
-/
namespace Go.Proofs.Ytmdbhpkfldnodaa.Sha
open Go Go.RowKit
section
variable {α β : Type} {p q : Par α}
/-- Behind an error nothing is read. -/
def Still (p : Par α) : Prop := ∀ bs c, c ≠ 0 → (p bs c).2 = (bs, c)
theorem Still.andThen {f : α → Par β} (h1 : Still p) (h2 : ∀ a, Still (f a)) : Still (thenP p f) := fun bs c hc => by
  have e := h1 bs c hc
  unfold thenP
  rw [e]
  exact h2 _ bs c hc
theorem Still.map (f : α → β) (h : Still p) : Still (mapP f p) := fun bs c hc => h bs c hc
/-- Two that leave and meet the same, and are the same where nothing is met. -/
def Sim (p q : Par α) : Prop := ∀ bs c, (p bs c).2 = (q bs c).2 ∧ ((p bs c).2.2 = 0 → p bs c = q bs c)
theorem Sim.refl (p : Par α) : Sim p p := fun _ _ => ⟨rfl, fun _ => rfl⟩
theorem Sim.andThen {f g : α → Par β} (h1 : Sim p q) (h2 : ∀ a, Sim (f a) (g a)) (s1 : ∀ a, Still (f a)) (s2 : ∀ a, Still (g a)) : Sim (thenP p f) (thenP q g) := fun bs c => by
  obtain ⟨e1, e2⟩ := h1 bs c
  unfold thenP
  by_cases hd : (p bs c).2.2 = 0
  · have e := e2 hd
    rw [← e]
    exact h2 _ _ _
  · rw [← e1]
    have a1 := s1 (p bs c).1 (p bs c).2.1 (p bs c).2.2 hd
    have a2 := s2 (q bs c).1 (p bs c).2.1 (p bs c).2.2 hd
    exact ⟨a1.trans a2.symm, fun h0 => by rw [a1] at h0; exact absurd h0 hd⟩
theorem Sim.map (f : α → β) (h : Sim p q) : Sim (mapP f p) (mapP f q) := fun bs c => by
  obtain ⟨e1, e2⟩ := h bs c
  unfold mapP
  exact ⟨e1, fun h0 => by rw [e2 h0]⟩
end
/-- What is left is no longer than what was there. -/
def Less {α : Type} (p : Par α) : Prop := ∀ bs c, (p bs c).2.1.length ≤ bs.length
theorem Less.andThen {α β : Type} {p : Par α} {f : α → Par β} (h1 : Less p) (h2 : ∀ a, Less (f a)) : Less (thenP p f) := fun bs c => Nat.le_trans (h2 _ _ _) (h1 bs c)
theorem Less.map {α β : Type} {p : Par α} (f : α → β) (h : Less p) : Less (mapP f p) := h
end Go.Proofs.Ytmdbhpkfldnodaa.Sha

/-
  Package tx takes an input, and an output, from a Reader. Nothing that was there turns but the Reader. Conditions: the Reader stands as it should; the errors are there.
-/
namespace Go.Proofs.Ytmdbhpkfldnodaa.Sha
open Go Go.RowKit
theorem one_mem {v : Value} (h : v.oneCell' = true) : ∀ u ∈ [v], u.oneCell' = true := fun u hu => by rw [List.mem_singleton.1 hu]; exact h
end Go.Proofs.Ytmdbhpkfldnodaa.Sha

/-
  Loads and appends of structures where a region draws its order; rows that stay where others grow. No conditions beyond those that each states.
-/
namespace Go.Proofs.Ytmdbhpkfldnodaa.Sha
open Go Go.RowKit
section
variable {P : Program}
theorem wp_append_row (w : World) {o : Oper} {a : Act} {K : Act → World → Prop} {Q : Exit → Act → World → Prop} (s x : Operand) (t : TypeId)
    (ho : o.op = Op.call { callee := Callee.builtin Builtin.append, args := #[s, x], argTypes := #[t, t] })
    (base : Nat) (e : TypeId) (i : TypeInfo) (z : Value) (size bytes : Nat) (ht : P.underlying t = some (.slice e)) (hi : P.info? e = some i) (hz : i.zero = some z)
    (hsize : i.size = size) (hby : i.bytes = bytes) (hzs : z.cells.size = size) (hsz : 0 < size)
    (v : Value) (n : Nat) (xs : List Value) (hs : a.eval s = v) (hown : w.ownsRow base e size v n xs)
    (ad : Addr) (m c : Nat) (news : List Value) (hx : a.eval x = .slice (some ad) m c) (hl : news.length = m * size) (hnews : ∀ j u, news[j]? = some u → w.cell? (ad.add j) = some u) (h1 : ∀ u ∈ news, u.oneCell' = true)
    (h63 : n + m ≤ maxLen) (hbytes : (n + m) * bytes ≤ 140737488355328) (hbase : base ≤ w.heap.size)
    (h : ∀ v' w', w'.ownsRow base e size v' (n + m) (xs ++ news) → w.grownBy w' v.ownBlock → (v'.ownBlock = v.ownBlock ∨ v'.ownBlock = some w.heap.size) → K (a.put o.dst v') w') : o.wp P a w K Q := by
  obtain ⟨v', w', hr, h2, h3, _, h5⟩ := run_append_own_at (P := P) w base t o.type e i z size bytes ht hi hz hsize hby hzs hsz v n xs hown ad m c news hl hnews h1 h63 hbytes hbase
  unfold Oper.wp execOp
  simp only [ho, resolve, invoke, builtin, Sem.run_bind, Sem.run_pure, Result.andThen_ok, List.map_toArray, List.map_cons, List.map_nil, hs, hx, hr]
  exact h v' w' h2 h3 h5
end
theorem own_one {w : World} {base n size : Nat} {e : TypeId} {v : Value} {xs : List Value} (h : w.ownsRow base e size v n xs) : v.oneCell' = true := by
  rcases h.2 with ⟨rfl, _⟩ | ⟨g, cap, cur, rfl, _⟩ <;> rfl
theorem cells_one {v : Value} (h : v.oneCell' = true) : v.cells = [v].toArray := by cases v <;> first | rfl | cases h
/-- All of a row's memory lies below. -/
def InsLow (B : Nat) (v : Value) (ks : List Value) : Prop := ∀ j, B ≤ j → v.ownBlock ≠ some j ∧ ∀ (i : Nat) kv, ks[i]? = some kv → Off kv (some j)
theorem InsOwn.low {base : Nat} {w : World} {v : Value} {l : List TIn} {ks : List Value} (h : InsOwn base w v l ks) : InsLow w.heap.size v ks := fun j hj => by
  refine ⟨fun e => ?_, fun i kv hk => ?_⟩
  · have := (h.2.1.lt j e).2
    omega
  · obtain ⟨x, hx⟩ : ∃ x, l[i]? = some x := ⟨_, List.getElem?_eq_getElem (by have := (List.getElem?_eq_some_iff.1 hk).1; have := h.1; omega)⟩
    exact (h.2.2.2 i x kv hx hk).1.fresh hj
end Go.Proofs.Ytmdbhpkfldnodaa.Sha

/-
  Plain mathematics of SHA-256 on 32-bit words, as the chapter gives it, and how the model's integers of kind u32 compute with such words. No program is imported. No conditions.
-/
namespace Go.Proofs.Ytmdbhpkfldnodaa.Sha
open Go
/-- A word as the model's integer. -/
def wv (x : UInt32) : Int := x.toNat
theorem wv_or (x y : UInt32) : bits .or .u32 (wv x) (wv y) = wv (x ||| y) := by
  unfold wv
  rw [u32_or_nat _ _ x.toNat_lt y.toNat_lt, UInt32.toNat_or]
theorem wv_and (x y : UInt32) : bits .and .u32 (wv x) (wv y) = wv (x &&& y) := by
  unfold wv
  rw [u32_and_nat _ _ x.toNat_lt y.toNat_lt, UInt32.toNat_and]
/-- A word turned right by n bits. -/
def rotr (x : UInt32) (n : Nat) : UInt32 := (x >>> UInt32.ofNat n) ||| (x <<< UInt32.ofNat (32 - n))
def sS0 (x : UInt32) : UInt32 := rotr x 7 ^^^ rotr x 18 ^^^ (x >>> UInt32.ofNat 3)
def sS1 (x : UInt32) : UInt32 := rotr x 17 ^^^ rotr x 19 ^^^ (x >>> UInt32.ofNat 10)
def wV (x : UInt32) : Value := .int .u32 (wv x)
/-- Four bytes read as a word, the highest first. -/
def rd (b : Nat → UInt8) (t : Nat) : UInt32 := ((b (4 * t)).toUInt32 <<< UInt32.ofNat 24) ||| ((b (4 * t + 1)).toUInt32 <<< UInt32.ofNat 16) ||| ((b (4 * t + 2)).toUInt32 <<< UInt32.ofNat 8) ||| (b (4 * t + 3)).toUInt32
def nextW (b : Nat → UInt8) (t : Nat) (l : List UInt32) : UInt32 :=
  if t < 16 then rd b t else sS1 (l.getD (t - 2) 0) + l.getD (t - 7) 0 + sS0 (l.getD (t - 15) 0) + l.getD (t - 16) 0
/-- The schedule's first t words. -/
def row (b : Nat → UInt8) : Nat → List UInt32
  | 0 => []
  | t + 1 => row b t ++ [nextW b t (row b t)]
/-- The eight words while a block is worked in. -/
structure St where
  a : UInt32
  b : UInt32
  c : UInt32
  d : UInt32
  e : UInt32
  f : UInt32
  g : UInt32
  h : UInt32
def St.cells (s : St) : List Value := [wV s.a, wV s.b, wV s.c, wV s.d, wV s.e, wV s.f, wV s.g, wV s.h]
end Go.Proofs.Ytmdbhpkfldnodaa.Sha

/-
  Plain mathematics: a message as a list of bytes, padded, cut into blocks, and its digest. No program is imported. No conditions.
-/
namespace Go.Proofs.Ytmdbhpkfldnodaa.Sha
open Go
def wordBytes (x : UInt32) : List UInt8 := [(x >>> UInt32.ofNat 24).toUInt8, (x >>> UInt32.ofNat 16).toUInt8, (x >>> UInt32.ofNat 8).toUInt8, x.toUInt8]
def St.list (s : St) : List UInt32 := [s.a, s.b, s.c, s.d, s.e, s.f, s.g, s.h]
def St.bytes (s : St) : List UInt8 := s.list.flatMap wordBytes
end Go.Proofs.Ytmdbhpkfldnodaa.Sha

/-
  Worlds that only grow: blocks are laid behind, orders drawn; digests and places held against each other do no more. Condition: digests of 32 bytes.
-/
namespace Go.Proofs.Ytmdbhpkfldnodaa.Sha
open Go Go.RowKit
open Go.Sort (grow grow_empty grow_grow alloc_eq_grow heap_grow_old size_grow)
/-- w' is w with orders drawn and blocks laid behind. -/
def Lay (w w' : World) : Prop := ∃ q os, w' = grow (w.drewN q) os
theorem Lay.refl (w : World) : Lay w w := ⟨0, #[], by rw [grow_empty]; rfl⟩
theorem Lay.alloc {w w1 : World} (h : Lay w w1) (o : Obj) : Lay w (w1.alloc o) := by
  obtain ⟨q, os, rfl⟩ := h
  exact ⟨q, os ++ #[o], by rw [alloc_eq_grow, grow_grow]⟩
theorem Lay.drewN {w w1 : World} (h : Lay w w1) (n : Nat) : Lay w (w1.drewN n) := by
  obtain ⟨q, os, rfl⟩ := h
  exact ⟨q + n, os, by simp [World.drewN, grow, Nat.add_assoc]⟩
theorem Lay.below {w w' : World} (h : Lay w w') : Below w.heap.size w w' := by
  obtain ⟨q, os, rfl⟩ := h
  exact ⟨rfl, rfl, rfl, by simp [World.drewN], fun k hk => heap_grow_old (w.drewN q) os hk⟩
theorem Lay.trans {w w1 w2 : World} (h : Lay w w1) (k : Lay w1 w2) : Lay w w2 := by
  obtain ⟨q, os, rfl⟩ := h
  obtain ⟨q', os', rfl⟩ := k
  exact ⟨q + q', os ++ os', by simp [World.drewN, grow, Nat.add_assoc, Array.append_assoc]⟩
end Go.Proofs.Ytmdbhpkfldnodaa.Sha

/-
  What a set becomes as it is told things: added one by one; a map's block above. No conditions.
-/
namespace Go.Proofs.Ytmdbhpkfldnodaa.Sha
open Go Go.RowKit
/-- A map's block is above this one. -/
def HiM (base : Nat) (m : Option Nat) : Prop := ∀ q, m = some q → base ≤ q
theorem HiM.add {base s : Nat} {m m' : Option Nat} (h : HiM base m) (hs : base ≤ s) (hm : m' = m ∨ ∃ b, m' = some b ∧ s ≤ b) : HiM base m' := by
  rcases hm with rfl | ⟨b, rfl, hb⟩
  · exact h
  · intro q e
    cases e
    exact Nat.le_trans hs hb
theorem Below.set {base : Nat} {w0 w w' : World} {a : Nat} {m : Option Nat} (h : Below base w0 w) (hk : Kps (fun j => j ≠ a ∧ m ≠ some j) w w') (ha : base ≤ a) (hm : HiM base m) (hb : base ≤ w.heap.size) : Below base w0 w' :=
  h.trans ⟨hk.os, hk.tape, hk.output, hk.size, fun k hlt => hk.block k (by omega) ⟨by omega, fun e => by have := hm k e; omega⟩⟩
end Go.Proofs.Ytmdbhpkfldnodaa.Sha

/-
  All coins of a set with their places, in the places' order: new memory; nothing that was there turns. Conditions: the set lies where the pointer says, at most 2^20 coins.
-/
namespace Go.Proofs.Ytmdbhpkfldnodaa.Sha
open Go Go.RowKit
theorem IterAt.grown {w w' : World} {m : Option Nat} {r : Nat} {q : Option Nat} {rest : List TSp} (h : IterAt w m r rest) (hg : w.grownBy w' q) (h1 : q ≠ some r) (h2 : ∀ b, m = some b → q ≠ some b) : IterAt w' m r rest :=
  h.kps (F := fun k => q ≠ some k) (Kps.grown hg fun k _ hk e => hk e.symm) (fun b hb => h2 b hb) h1
end Go.Proofs.Ytmdbhpkfldnodaa.Sha

/-
  A set's digest: of all coins' bytes, in the order of their places; nothing that was there turns. Conditions: the set lies where the pointer says, at most 2^20 coins; the table of the rounds' words is there.
-/
namespace Go.Proofs.Ytmdbhpkfldnodaa.Sha
open Go Go.RowKit
theorem RwAt.kps {F : Nat → Prop} {k : Nat} {w w' : World} {v : Value} {L : List (List Value)} (h : RwAt k w v L) (hk : Kps F w w') (h0 : 0 < k) (hf : ∀ sp n cap, v = .slice (some sp) n cap → F sp.block) : RwAt k w' v L := by
  obtain ⟨ho, sp, cap, hv, hc, hr⟩ := h
  refine ⟨ho, sp, cap, hv, hc, fun hl => ?_⟩
  obtain ⟨b, o, hs, hx⟩ := hr hl
  refine ⟨b, o, hs, fun i x hi j u hj => ?_⟩
  have h1 := hx i x hi j u hj
  rw [World.cell?_of_block (hk.block b (World.block_lt_of_cell? w _ h1) (hf ⟨b, o, none⟩ L.length cap (by rw [hv, hs])))]
  exact h1
end Go.Proofs.Ytmdbhpkfldnodaa.Sha

/-
  Rows of 32-bit numbers; the statements' own copy of one: new memory. Nothing that was there turns. Condition: at most 2^20 numbers.
-/
namespace Go.Proofs.Ytmdbhpkfldnodaa.Sha
open Go Go.RowKit
def u32C (x : Nat) : List Value := [.int .u32 (x : Int)]
theorem info_u32 : (Try.prog.info? 22).map (fun i => (i.zero, i.size, i.bytes)) = some (some (.int .u32 0), 1, 4) := by kernel_rfl
theorem u32_cell {w : World} {b o i x : Nat} (h : w.rangeAt b (o + i * 1) (u32C x)) : w.cell? ⟨b, o + i, none⟩ = some (.int .u32 (x : Int)) := by
  have := h 0 _ rfl
  simpa using this
end Go.Proofs.Ytmdbhpkfldnodaa.Sha

/-
  What may be read first in a region that draws its order and whose last operations (Z) write into what was read: the condition on the world need not hold behind those. No conditions beyond those that each states.
-/
namespace Go.Proofs.Ytmdbhpkfldnodaa.Sha
open Go Go.RowKit
section
variable {P : Program} {md : Region.Mode} {ops : Array Oper} {Q : Exit → Act → World → Prop} {S T : World → Prop} {Z : List Nat}
/-- None of Z has come up. -/
def endOpen (Z : List Nat) (done : Array Bool) : Bool := Z.all fun z => !done.getD z true
/-- Any order; the condition behind each operation while none of Z has come up. -/
def EndAny (P : Program) (md : Region.Mode) (ops : Array Oper) (Q : Exit → Act → World → Prop) (S : World → Prop) (Z : List Nat) : Nat → Array Bool → Act → World → Prop
  | 0, done, a, w => Region.ready md ops done = [] ∧ Q .normal a w
  | f + 1, done, a, w => (Region.ready md ops done = [] → Q .normal a w) ∧ ∀ j ∈ Region.ready md ops done, wpOp P ops Q j (fun b u => (endOpen Z (done.setIfInBounds j true) = true → S u) ∧ EndAny P md ops Q S Z f (done.setIfInBounds j true) b u) a w
theorem EndAny.any : ∀ (f : Nat) (done : Array Bool) (a : Act) (w : World), EndAny P md ops Q S Z f done a w → wpAny P md ops Q f done a w
  | 0, _, _, _, h => h
  | f + 1, _, _, _, h => ⟨h.1, fun j hj => wpOp_mono (fun b u hb => EndAny.any f _ b u hb.2) (h.2 j hj)⟩
/-- j waits for i, at once or through others. -/
def endAnc (md : Region.Mode) (ops : Array Oper) (i : Nat) : Nat → Nat → Bool
  | 0, _ => false
  | f + 1, j => match ops[j]? with | none => false | some o => o.after.any fun e => Region.binds md e && (e.on == i || endAnc md ops i f e.on)
def endWaits (md : Region.Mode) (ops : Array Oper) (Z : List Nat) (i : Nat) : Bool := Z.all fun z => endAnc md ops i ops.size z
/-- Who has come up has all come up that it waits for. -/
def EndClosed (md : Region.Mode) (ops : Array Oper) (done : Array Bool) : Prop := ∀ (j : Nat) (o : Oper), ops[j]? = some o → done.getD j true = true → ∀ e ∈ o.after, Region.binds md e = true → done.getD e.on false = true
def endClosed (md : Region.Mode) (ops : Array Oper) (done : Array Bool) : Bool := (List.range ops.size).all fun j => match ops[j]? with | none => true | some o => !done.getD j true || o.after.all fun e => !Region.binds md e || done.getD e.on false
theorem endClosed_spec {done : Array Bool} (h : endClosed md ops done = true) : EndClosed md ops done := by
  intro j o hj hd e he hb
  have h1 := List.all_eq_true.1 h j (List.mem_range.2 (Array.getElem?_eq_some_iff.1 hj).1)
  rw [hj] at h1
  simp only [hd, Bool.not_true, Bool.false_or] at h1
  obtain ⟨x, hx, rfl⟩ := Array.getElem_of_mem he
  have h2 := Array.all_eq_true.1 h1 x hx
  rw [hb, Bool.not_true, Bool.false_or] at h2
  exact h2
theorem getD_both {done : Array Bool} {i : Nat} (h0 : done.getD i true = false) (h1 : done.getD i false = true) : False := by
  by_cases hlt : i < done.size
  · simp only [Array.getD, hlt, dif_pos] at h0 h1
    rw [h0] at h1
    cases h1
  · simp only [Array.getD, hlt, dif_neg, not_false_eq_true] at h1
    cases h1
theorem getD_up {done : Array Bool} {i : Nat} (h : done.getD i false = true) : done.getD i true = true := by
  by_cases hlt : i < done.size
  · simp only [Array.getD, hlt, dif_pos] at h ⊢
    exact h
  · simp [Array.getD, hlt]
theorem endAnc_done {done : Array Bool} {i : Nat} (hc : EndClosed md ops done) : ∀ (f j : Nat) (o : Oper), ops[j]? = some o → (∀ e ∈ o.after, Region.binds md e = true → done.getD e.on false = true) → endAnc md ops i f j = true → done.getD i false = true
  | 0, _, _, _, _, h => by cases h
  | f + 1, j, o, hj, ha, h => by
    rw [endAnc, hj] at h
    have h : o.after.any (fun e => Region.binds md e && (e.on == i || endAnc md ops i f e.on)) = true := h
    obtain ⟨x, hx, h2⟩ := Array.any_eq_true.1 h
    rw [Bool.and_eq_true, Bool.or_eq_true, beq_iff_eq] at h2
    have hd := ha _ (Array.getElem_mem hx) h2.1
    rcases h2.2 with h3 | h3
    · rw [← h3]
      exact hd
    · cases hk : ops[(o.after[x]).on]? with
      | none =>
        cases f with
        | zero => cases h3
        | succ f => rw [endAnc, hk] at h3; cases h3
      | some ok => exact endAnc_done hc f _ ok hk (hc _ ok hk (getD_up hd)) h3
theorem endOpen_back {done : Array Bool} {i : Nat} (h : endOpen Z (done.setIfInBounds i true) = true) : endOpen Z done = true := by
  rw [endOpen, List.all_eq_true] at h ⊢
  intro z hz
  have h1 := h z hz
  by_cases hiz : i = z
  · subst hiz
    rw [Bool.not_eq_true'] at h1
    by_cases hlt : i < done.size
    · simp [Array.getD, hlt] at h1
    · simp [Array.getD, hlt] at h1
  · rwa [getD_set_ne true hiz] at h1
theorem endOpen_other {done : Array Bool} {i : Nat} (hi : i ∉ Z) (h : endOpen Z done = true) : endOpen Z (done.setIfInBounds i true) = true := by
  rw [endOpen, List.all_eq_true] at h ⊢
  intro z hz
  have h1 := h z hz
  rw [getD_set_ne true (fun e => hi (by rw [e]; exact hz))]
  exact h1
theorem endOpen_of {done : Array Bool} {i j : Nat} {oj : Oper} (hc : EndClosed md ops done) (hz : endWaits md ops Z i = true) (h0 : done.getD i true = false) (hoj : ops[j]? = some oj) (hall : ∀ e ∈ oj.after, Region.binds md e = true → done.getD e.on false = true) : endOpen Z (done.setIfInBounds j true) = true := by
  rw [endOpen, List.all_eq_true]
  intro z hm
  have h1 := List.all_eq_true.1 hz z hm
  have hjz : j ≠ z := fun e => by
    rw [← e] at h1
    exact getD_both h0 (endAnc_done hc _ j oj hoj hall h1)
  rw [getD_set_ne true hjz, Bool.not_eq_true']
  cases hd : done.getD z true with
  | false => rfl
  | true =>
    cases hk : ops[z]? with
    | none =>
      cases hs : ops.size with
      | zero => rw [hs] at h1; cases h1
      | succ f => rw [hs, endAnc, hk] at h1; cases h1
    | some ok => exact (getD_both h0 (endAnc_done hc _ z ok hk (hc z ok hk hd) h1)).elim
theorem EndAny.first {i : Nat} {oi : Oper} {v : Value} (hi : ops[i]? = some oi) (hiz : i ∉ Z) (hz : (∀ w, T w) ∨ (endWaits md ops Z i = true ∧ ∀ w, S w → T w)) (hsel : ∀ (j : Nat) (o : Oper) cs b, ops[j]? = some o → o.op ≠ .select cs b) (hQ : ∀ c a w, Q (.panic c) (a.put oi.dst v) w → Q (.panic c) a w) :
    ∀ (f : Nat) (done : Array Bool) (a : Act) (w : World), EndClosed md ops done → (∀ j oj, ops[j]? = some oj → j ≠ i → done.getD j true = false → (∀ e ∈ oj.after, Region.binds md e = true → e.on ≠ i) → oi.apart ops oj = true) →
      i ∈ Region.ready md ops done → YieldsIf P ops T oi v a → T w → (endOpen Z done = true → S w) → EndAny P md ops Q S Z f (done.setIfInBounds i true) (a.put oi.dst v) w → EndAny P md ops Q S Z (f + 1) done a w := by
  have lone : ∀ {f : Nat} {done : Array Bool} {a : Act} {w : World}, YieldsIf P ops T oi v a → T w → (endOpen Z done = true → S w) → EndAny P md ops Q S Z f (done.setIfInBounds i true) (a.put oi.dst v) w →
      wpOp P ops Q i (fun b u => (endOpen Z (done.setIfInBounds i true) = true → S u) ∧ EndAny P md ops Q S Z f (done.setIfInBounds i true) b u) a w := fun hy hw hs h => hy.wpOp hi hw ⟨fun ho => hs (endOpen_back ho), h⟩
  intro f
  induction f with
  | zero =>
    intro done a w _ _ hr hy hw hs h
    constructor
    · intro h0
      exact absurd hr (by rw [h0]; simp)
    · intro j hj
      by_cases hji : j = i
      · rw [hji]
        exact lone hy hw hs h
      · have h2 := ready_mono hj hji
        rw [h.1] at h2
        exact absurd h2 (by simp)
  | succ f ih =>
    intro done a w hcl hfree hr hy hw hs h
    constructor
    · intro h0
      exact absurd hr (by rw [h0]; simp)
    · intro j hj
      by_cases hji : j = i
      · rw [hji]
        exact lone hy hw hs h
      · obtain ⟨un, oj, hoj, hall⟩ := mem_ready.1 hj
        have h0 := (mem_ready.1 hr).1
        -- i has not come up yet: who comes up now does not wait for it
        have alone : ∀ e ∈ oj.after, Region.binds md e = true → e.on ≠ i := fun e he hb hei => by
          have h1 := hall e he hb
          rw [hei] at h1
          exact getD_both h0 h1
        have hk := wpOp_putIf hoj (hfree j oj hoj hji un alone) (fun cs b => hsel i oi cs b hi) (fun cs b => hsel j oj cs b hoj) hQ hy (h.2 j (ready_mono hj hji))
        refine wpOp_mono (fun b u hb => ?_) hk
        have hcl' : EndClosed md ops (done.setIfInBounds j true) := by
          intro k ok hok hd e he hb2
          by_cases hjk : j = k
          · rw [← hjk, hoj] at hok
            cases hok
            exact getD_set_true (hall e he hb2)
          · rw [getD_set_ne true hjk] at hd
            exact getD_set_true (hcl k ok hok hd e he hb2)
        have hs2 : endOpen Z (done.setIfInBounds j true) = true → S u := fun ho => hb.2.1 (by
          rw [Array.setIfInBounds_comm _ _ (fun e => hji e.symm)]
          exact endOpen_other hiz ho)
        have ht : T u := by
          rcases hz with hz | ⟨hz, hst⟩
          · exact hz u
          · exact hst u (hs2 (endOpen_of hcl hz h0 hoj hall))
        refine ⟨hs2, ih _ b u hcl' (fun k ok hok hki hun hno => hfree k ok hok hki ?_ hno) (ready_mono hr (fun e => hji e.symm)) hb.1 ht hs2 ?_⟩
        · by_cases hjk : j = k
          · rw [← hjk]
            exact un
          · rw [getD_set_ne true hjk] at hun
            exact hun
        · have := hb.2.2
          rwa [Array.setIfInBounds_comm _ _ hji]
end
section
variable {P : Program} {md : Region.Mode} {l : List Oper} {Q : Exit → Act → World → Prop} {S : World → Prop} {Z : List Nat}
/-- What every world of the condition yields, and all of Z wait for, is taken first. -/
theorem end_take {i : Nat} {oi : Oper} {rest : List Oper} {v : Value} {f : Nat} {done : Array Bool} {a : Act} {w : World} (hd : l.drop i = oi :: rest) (hz : (endWaits md l.toArray Z i && !Z.contains i && endClosed md l.toArray done) = true)
    (hs : Region.noSelect l.toArray = true) (hf : Region.free md l.toArray done i = true) (hr : (Region.ready md l.toArray done).contains i = true)
    (hQ : ∀ c a w, Q (.panic c) (a.put oi.dst v) w → Q (.panic c) a w) (hy : YieldsIf P l.toArray S oi v a) (hS : S w)
    (h : EndAny P md l.toArray Q S Z f (done.setIfInBounds i true) (a.put oi.dst v) w) : EndAny P md l.toArray Q S Z (f + 1) done a w := by
  have hi : l.toArray[i]? = some oi := by rw [List.getElem?_toArray]; exact get_of_drop hd
  rw [Bool.and_eq_true, Bool.and_eq_true, Bool.not_eq_true'] at hz
  exact EndAny.first (T := S) hi (fun hm => by have := hz.1.2; simp [hm] at this) (.inr ⟨hz.1.1, fun _ h => h⟩) (Region.noSelect_spec hs) hQ f done a w (endClosed_spec hz.2) (Region.free_spec hi hf) (by simpa using hr) hy hS (fun _ => hS) h
/-- One of Z comes up, or one behind: nothing is asked of the world any more. -/
theorem end_last {f i : Nat} {done : Array Bool} {a : Act} {w : World} {o : Oper} {rest : List Oper} (hr : Region.ready md l.toArray done = [i]) (ho : endOpen Z (done.setIfInBounds i true) = false) (hd : l.drop i = o :: rest)
    (h : ∀ K' : Act → World → Prop, Shut (∀ a w, EndAny P md l.toArray Q S Z f (done.setIfInBounds i true) a w → K' a w) → if Region.wanted o (yielded l.toArray a.tmps) = true then Oper.wp P o a w K' Q else K' (a.put o.dst undef) w) :
    EndAny P md l.toArray Q S Z (f + 1) done a w := by
  refine ⟨fun h0 => (by rw [hr] at h0; cases h0), fun j hj => ?_⟩
  rw [hr] at hj
  obtain rfl := List.mem_singleton.1 hj
  exact wpOp_step (by rw [List.getElem?_toArray]; exact get_of_drop hd) (fun K' hK => h K' (fun a w hW => hK a w ⟨fun h => absurd h (by rw [ho]; decide), hW⟩))
theorem end_done {done : Array Bool} {a : Act} {w : World} (hr : Region.ready md l.toArray done = []) (h : Q .normal a w) : ∀ f, EndAny P md l.toArray Q S Z f done a w
  | 0 => ⟨hr, h⟩
  | _ + 1 => ⟨fun _ => h, fun j hj => by rw [hr] at hj; cases hj⟩
/-- The region's head. -/
theorem wp_region_end (S : World → Prop) (Z : List Nat) {id : Nat} {a : Act} {w : World} (hm : P.follows .mixedOrders = true) (hS : S w.drew) (h : S w.drew → EndAny P .any l.toArray Q S Z l.toArray.size (Array.replicate l.toArray.size false) a w.drew) :
    (Code.region id l.toArray true).wp P Q a w := wp_region_any hm (EndAny.any _ _ _ _ (h hS))
end
end Go.Proofs.Ytmdbhpkfldnodaa.Sha

/-
  Plain mathematics of a block's header: its bytes; read out of bytes it is what was written, cut off it ends too early, longer it has another shape; any 80 bytes are one header's. No conditions beyond those that each states.
-/
namespace Go.Proofs.Ytmdbhpkfldnodaa.Sha
open Go Go.RowKit
structure THd where
  ver : Nat
  prev : List UInt8
  root : List UInt8
  time : Nat
  work : Nat
  nonce : Nat
end Go.Proofs.Ytmdbhpkfldnodaa.Sha

/-
  What package tx is shown to answer of bytes as a transaction, as a hypothesis; what is read is small. No conditions.
-/
namespace Go.Proofs.Ytmdbhpkfldnodaa.Sha
open Go Go.RowKit
/-- What bytes are as a transaction. -/
structure ReadIs (bs : List UInt8) (t : TTx) (c : Nat) : Prop where
  eq : readTx bs = (t, c)
theorem tx_one {w : World} {t : TTx} {iv ov : Value} (h1 : InsAt w iv t.ins) (h2 : OutsAt w ov t.outs) : (txL t iv ov).toArray.all (·.oneCell') = true := by
  obtain ⟨_, _, rfl, _⟩ := h1
  obtain ⟨_, _, rfl, _⟩ := h2
  rw [Array.all_eq_true_iff_forall_mem]
  intro x hx
  simp [txL] at hx
  rcases hx with rfl | rfl | rfl | rfl <;> rfl
end Go.Proofs.Ytmdbhpkfldnodaa.Sha

/-
  The statements' own tree: a box with an own row of nodes; where a block is. Nothing that was there turns. Conditions: the tree lies where the pointer says, nodes as the model has them, at most 4096.
-/
namespace Go.Proofs.Ytmdbhpkfldnodaa.Sha
open Go Go.RowKit
/-- A node. -/
structure TNd where
  id : List UInt8
  h : THd
  parent : Int
  height : Int
  work : Nat
  bad : Bool
section
variable {w w' : World} {base a : Nat} {v : Value} {L : List TNd}
end
end Go.Proofs.Ytmdbhpkfldnodaa.Sha

/-
  The statements' own tree: the places from one down to the start; whether one is below another one. Nothing that was there turns. Conditions: the tree lies where the pointer says; each node's parent stands ahead of it, at most 4096.
-/
namespace Go.Proofs.Ytmdbhpkfldnodaa.Sha
open Go Go.RowKit
theorem info_int : (Try.prog.info? 3).map (fun i => (i.zero, i.size, i.bytes)) = some (some (.int .i64 0), 1, 8) := by kernel_rfl
end Go.Proofs.Ytmdbhpkfldnodaa.Sha

/-
  The statements' own tree: the past of each block of a branch. Nothing that was there turns. Conditions: the tree lies where the pointer says, parents stand ahead, at most 4096 blocks.
-/
namespace Go.Proofs.Ytmdbhpkfldnodaa.Sha
open Go Go.RowKit
def intC (x : Int) : List Value := [.int .i64 x]
theorem int_cell {w : World} {b o i : Nat} {x : Int} (h : w.rangeAt b (o + i * 1) (intC x)) : w.cell? ⟨b, o + i, none⟩ = some (.int .i64 x) := by
  have := h 0 _ rfl
  simpa using this
theorem ne_swap {a b : Option Nat} (h : a = none ∨ a ≠ b) : b = none ∨ b ≠ a := by
  cases b with
  | none => exact .inl rfl
  | some b =>
    right
    intro e
    rcases h with h | h
    · rw [h] at e; cases e
    · exact h e.symm
theorem ne_new {a b b' : Option Nat} {g : Nat} (h : a = none ∨ a ≠ b) (hb : b' = b ∨ b' = some g) (ha : ∀ q, a = some q → q < g) : a = none ∨ a ≠ b' := by
  rcases hb with rfl | rfl
  · exact h
  · cases a with
    | none => exact .inl rfl
    | some q =>
      right
      intro e
      have := ha q rfl
      have := Option.some.inj e
      omega
end Go.Proofs.Ytmdbhpkfldnodaa.Sha

/-
  Arguments of type []int and []uint32 as rows of numbers, with their bounds. No conditions.
-/
namespace Go.Proofs.Ytmdbhpkfldnodaa.Sha
open Go Go.RowKit
theorem u32s_of_row2 {w : World} {a : Option Addr} {len cap : Nat} {zs : List Int} (h : IsRow .u32 w a len cap zs) : ∃ l : List Nat, RwAt 1 w (.slice a len cap) (l.map u32C) ∧ l.length = len ∧ ∀ x ∈ l, x ≤ 4294967295 := by
  rcases h with ⟨rfl, rfl, rfl, rfl⟩ | ⟨x, rfl, hl, hm, hz, hc, hw⟩
  · exact ⟨[], RwAt.nil 1 w none 0, rfl, fun x hx => by cases hx⟩
  · by_cases h0 : len = 0
    · subst h0
      exact ⟨[], RwAt.nil 1 w _ cap, rfl, fun x hx => by cases hx⟩
    · obtain ⟨b, off, rfl, hcell⟩ := ints_at hc (by omega)
      have hlen : ((zs.take len).map fun z => z.toNat).length = len := by rw [List.length_map, List.length_take]; omega
      refine ⟨(zs.take len).map fun z => z.toNat, ⟨fun m hm => ?_, _, cap, by rw [List.length_map, hlen], by rw [List.length_map, hlen]; exact hl, fun _ => ⟨b, off, rfl, fun i m hi => ?_⟩⟩, hlen, fun x hx => ?_⟩
      · obtain ⟨x, _, rfl⟩ := List.mem_map.1 hm
        rfl
      · rw [List.getElem?_map] at hi
        obtain ⟨y, hy, rfl⟩ := Option.map_eq_some_iff.1 hi
        rw [List.getElem?_map] at hy
        obtain ⟨z, hz1, rfl⟩ := Option.map_eq_some_iff.1 hy
        obtain ⟨hi1, hi2⟩ := List.getElem?_eq_some_iff.1 hz1
        rw [List.length_take] at hi1
        rw [List.getElem_take] at hi2
        have hi3 : i < zs.length := by omega
        have e1 : zs.getD i 0 = z := by simp [List.getD, List.getElem?_eq_getElem hi3, hi2]
        have hb := bounds_u32 (hw z (by rw [← hi2]; exact List.getElem_mem hi3))
        have hci := hcell i hi3
        rw [e1] at hci
        intro j v hv
        rw [Nat.mul_one]
        match j, hv with
        | 0, hv =>
          obtain rfl := Option.some.inj hv
          rw [Nat.add_zero, hci]
          congr 2
          omega
        | j + 1, hv => simp [u32C] at hv
      · obtain ⟨z, hz1, rfl⟩ := List.mem_map.1 hx
        have := bounds_u32 (hw z (List.mem_of_mem_take hz1))
        omega
theorem ints_of_row {w : World} {a : Option Addr} {len cap : Nat} {zs : List Int} (h : IsRow .i64 w a len cap zs) : ∃ l : List Int, RwAt 1 w (.slice a len cap) (l.map intC) ∧ l.length = len ∧ ∀ x ∈ l, -9223372036854775808 ≤ x ∧ x ≤ 9223372036854775807 := by
  rcases h with ⟨rfl, rfl, rfl, rfl⟩ | ⟨x, rfl, hl, hm, hz, hc, hw⟩
  · exact ⟨[], RwAt.nil 1 w none 0, rfl, fun x hx => by cases hx⟩
  · by_cases h0 : len = 0
    · subst h0
      exact ⟨[], RwAt.nil 1 w _ cap, rfl, fun x hx => by cases hx⟩
    · obtain ⟨b, off, rfl, hcell⟩ := ints_at hc (by omega)
      have hlen : (zs.take len).length = len := by rw [List.length_take]; omega
      refine ⟨zs.take len, ⟨fun m hm => ?_, _, cap, by rw [List.length_map, hlen], by rw [List.length_map, hlen]; exact hl, fun _ => ⟨b, off, rfl, fun i m hi => ?_⟩⟩, hlen, fun x hx => ?_⟩
      · obtain ⟨x, _, rfl⟩ := List.mem_map.1 hm
        rfl
      · rw [List.getElem?_map] at hi
        obtain ⟨y, hy, rfl⟩ := Option.map_eq_some_iff.1 hi
        obtain ⟨z, hz1, rfl⟩ : ∃ z, (zs.take len)[i]? = some z ∧ z = y := ⟨y, hy, rfl⟩
        obtain ⟨hi1, hi2⟩ := List.getElem?_eq_some_iff.1 hz1
        rw [List.length_take] at hi1
        rw [List.getElem_take] at hi2
        have hi3 : i < zs.length := by omega
        have e1 : zs.getD i 0 = z := by simp [List.getD, List.getElem?_eq_getElem hi3, hi2]
        have hb := bounds_i64 (hw z (by rw [← hi2]; exact List.getElem_mem hi3))
        have hci := hcell i hi3
        rw [e1] at hci
        intro j v hv
        rw [Nat.mul_one]
        match j, hv with
        | 0, hv =>
          obtain rfl := Option.some.inj hv
          rw [Nat.add_zero, hci]
        | j + 1, hv => simp [intC] at hv
      · exact bounds_i64 (hw x (List.mem_of_mem_take hx))
end Go.Proofs.Ytmdbhpkfldnodaa.Sha

/-
  The statements' own: until when a transaction has to wait. Nothing that was there turns. Conditions: the transaction and the rows lie in memory, at most a million inputs; sums of heights go round as the statement's do.
-/
namespace Go.Proofs.Ytmdbhpkfldnodaa.Sha
open Go Go.RowKit
theorem bits_nat {a b : Nat} (ha : a ≤ 4294967295) (hb : b ≤ 4294967295) : bits .and .u32 (a : Int) (b : Int) = ((a &&& b : Nat) : Int) := by
  have h := wv_and (UInt32.ofNat a) (UInt32.ofNat b)
  have e1 : wv (UInt32.ofNat a) = (a : Int) := by unfold wv; rw [UInt32.toNat_ofNat']; omega
  have e2 : wv (UInt32.ofNat b) = (b : Int) := by unfold wv; rw [UInt32.toNat_ofNat']; omega
  rw [e1, e2] at h
  rw [h]
  unfold wv
  rw [UInt32.toNat_and, UInt32.toNat_ofNat', UInt32.toNat_ofNat', Nat.mod_eq_of_lt (by omega), Nat.mod_eq_of_lt (by omega)]
def lockB (s : Nat) : Bool := decide (s &&& 2147483648 ≠ 0)
def timeB (s : Nat) : Bool := decide (s &&& 4194304 ≠ 0)
def addH (h : Int) (n : Nat) : Int := IntKind.i64.wrap (IntKind.i64.wrap (h + (n : Int)) - 1)
def needStep (st : Int × Int) (e : Nat × Int × Nat) : Int × Int :=
  if lockB e.1 then st else if timeB e.1 then (st.1, max st.2 ((e.2.2 : Int) + 512 * ((e.1 &&& 65535 : Nat) : Int) - 1)) else (max st.1 (addH e.2.1 (e.1 &&& 65535)), st.2)
def needE (t : TTx) (hs : List Int) (ps : List Nat) : List (Nat × Int × Nat) := (t.ins.map (·.seq)).zip (hs.zip ps)
def needL (t : TTx) (hs : List Int) (ps : List Nat) : Int × Int := if t.ver < 2 then (-1, -1) else (needE t hs ps).foldl needStep (-1, -1)
theorem needE_get {t : TTx} {hs : List Int} {ps : List Nat} {i : Nat} {x : TIn} {h : Int} {p : Nat} (h1 : t.ins[i]? = some x) (h2 : hs[i]? = some h) (h3 : ps[i]? = some p) : (needE t hs ps)[i]? = some (x.seq, h, p) := by
  unfold needE
  rw [List.getElem?_zip_eq_some]
  exact ⟨by rw [List.getElem?_map, h1]; rfl, by rw [List.getElem?_zip_eq_some]; exact ⟨h2, h3⟩⟩
theorem results_t3 {P : Program} {fn : Func} {u1 u2 u3 : Tmp} (h : fn.results = #[.tmp u1, .tmp u2, .tmp u3]) (tmps : Array Value) (w : World) : (results fn tmps).run P w = .ok (.tuple #[tmps.getD u1 undef, tmps.getD u2 undef, tmps.getD u3 undef]) w := by
  simp [results, h, Result.andThen]
end Go.Proofs.Ytmdbhpkfldnodaa.Sha

/-
  Which of a transaction's inputs wait, and the greatest of two lists: pure. Conditions: none.
-/
namespace Go.Proofs.Ytmdbhpkfldnodaa.Sha
open Go Go.RowKit
def grI : List Int → Int
  | [] => -1
  | x :: r => r.foldl max x
theorem grI_snoc {l : List Int} (h : l ≠ []) (y : Int) : grI (l ++ [y]) = max (grI l) y := by
  match l, h with
  | x :: r, _ => show (r ++ [y]).foldl max x = max (r.foldl max x) y; rw [List.foldl_append]; rfl
theorem grI_neg : ∀ {l : List Int}, (∀ x ∈ l, -1 ≤ x) → grI l = l.foldl max (-1)
  | [], _ => rfl
  | x :: r, h => by
    show r.foldl max x = r.foldl max (max (-1) x)
    rw [Int.max_eq_right (h x (List.mem_cons_self ..))]
def spanN (s : Nat) : Nat := s &&& 65535
theorem spanN_le (s : Nat) : spanN s ≤ 65535 := Nat.and_le_right
def hSel (e : Nat × Int × Nat) : Option Int := if lockB e.1 then none else if timeB e.1 then none else some (e.2.1 + (spanN e.1 : Int) - 1)
def pSel (e : Nat × Int × Nat) : Option Int := if lockB e.1 then none else if timeB e.1 then some ((e.2.2 : Int) + 512 * (spanN e.1 : Int) - 1) else none
def hLs (E : List (Nat × Int × Nat)) : List Int := E.filterMap hSel
def pLs (E : List (Nat × Int × Nat)) : List Int := E.filterMap pSel
theorem sel_succ {α β : Type} (f : α → Option β) {E : List α} {i : Nat} {e : α} (h : E[i]? = some e) : (E.take (i + 1)).filterMap f = (E.take i).filterMap f ++ (f e).toList := by
  rw [List.take_succ_eq_append_getElem (List.getElem?_eq_some_iff.1 h).1, (List.getElem?_eq_some_iff.1 h).2, List.filterMap_append]
  have h2 : [e].filterMap f = (f e).toList := by cases hf : f e <;> simp [hf]
  rw [h2]
theorem sel_length {α β : Type} (f : α → Option β) (E : List α) : (E.filterMap f).length ≤ E.length := List.length_filterMap_le _ _
def HtOk (h : Int) : Prop := -1 ≤ h ∧ h ≤ 1099511627776
theorem addH_ok {h : Int} {s : Nat} (hh : HtOk h) : addH h (spanN s) = h + (spanN s : Int) - 1 := by
  have := spanN_le s
  obtain ⟨h1, h2⟩ := hh
  unfold addH
  rw [IntWalk.i64_in (h + (spanN s : Int)) (by omega), IntWalk.i64_in (h + (spanN s : Int) - 1) (by omega)]
theorem need_fold : ∀ (E : List (Nat × Int × Nat)) (a b : Int), (∀ e ∈ E, HtOk e.2.1) → E.foldl needStep (a, b) = ((hLs E).foldl max a, (pLs E).foldl max b)
  | [], _, _, _ => rfl
  | e :: r, a, b, h => by
    have hr := fun x y => need_fold r x y (fun z hz => h z (List.mem_cons_of_mem _ hz))
    have he := addH_ok (s := e.1) (h e (List.mem_cons_self ..))
    have ehl : hLs (e :: r) = (hSel e).toList ++ hLs r := by
      unfold hLs
      cases hf : hSel e <;> simp [hf]
    have epl : pLs (e :: r) = (pSel e).toList ++ pLs r := by
      unfold pLs
      cases hf : pSel e <;> simp [hf]
    rw [ehl, epl, List.foldl_append, List.foldl_append]
    have hst : needStep (a, b) e = if lockB e.1 then (a, b) else if timeB e.1 then (a, max b ((e.2.2 : Int) + 512 * (spanN e.1 : Int) - 1)) else (max a (addH e.2.1 (spanN e.1)), b) := rfl
    have hhs : hSel e = if lockB e.1 then none else if timeB e.1 then none else some (e.2.1 + (spanN e.1 : Int) - 1) := rfl
    have hps : pSel e = if lockB e.1 then none else if timeB e.1 then some ((e.2.2 : Int) + 512 * (spanN e.1 : Int) - 1) else none := rfl
    rw [List.foldl_cons, hst, hhs, hps, he]
    by_cases hl : lockB e.1 = true
    · rw [if_pos hl, if_pos hl, if_pos hl, hr]
      rfl
    · rw [if_neg hl, if_neg hl, if_neg hl]
      by_cases ht : timeB e.1 = true
      · rw [if_pos ht, if_pos ht, if_pos ht, hr]
        rfl
      · rw [if_neg ht, if_neg ht, if_neg ht, hr]
        rfl
theorem need_gr {E : List (Nat × Int × Nat)} (h : ∀ e ∈ E, 0 ≤ e.2.1 ∧ e.2.1 ≤ 1099511627776) : (grI (hLs E), grI (pLs E)) = E.foldl needStep (-1, -1) := by
  rw [need_fold E (-1) (-1) (fun e he => ⟨by have := (h e he).1; omega, (h e he).2⟩)]
  have h1 : ∀ x ∈ hLs E, -1 ≤ x := fun x hx => by
    obtain ⟨e, he, hf⟩ := List.mem_filterMap.1 hx
    have := (h e he).1
    unfold hSel at hf
    split at hf
    · cases hf
    · split at hf
      · cases hf
      · obtain rfl := Option.some.inj hf
        omega
  have h2 : ∀ x ∈ pLs E, -1 ≤ x := fun x hx => by
    obtain ⟨e, he, hf⟩ := List.mem_filterMap.1 hx
    unfold pSel at hf
    split at hf
    · cases hf
    · split at hf
      · obtain rfl := Option.some.inj hf
        omega
      · cases hf
  rw [grI_neg h1, grI_neg h2]
end Go.Proofs.Ytmdbhpkfldnodaa.Sha

/-
  The library's greatest of a list of numbers, and the project's own of a list that may be empty. Nothing that was there turns. Conditions: the list lies in memory.
-/
namespace Go.Proofs.Ytmdbhpkfldnodaa.Sha
open Go Go.RowKit
def MxI (l : List Int) (n : Nat) (w : World) (vm vi : Value) (wr : World) : Prop :=
  ∃ (i : Nat) (m : Int), vm = .int .i64 m ∧ vi = .int .i64 (i : Int) ∧ 1 ≤ i ∧ i ≤ n ∧ grI (l.take i) = m ∧ Below w.heap.size w wr
set_option maxHeartbeats 2000000 in
set_option maxRecDepth 100000 in
theorem sqmax_any (l : List Int) (v : Value) (w : World) (h : RwAt 1 w v (l.map intC)) (h0 : 0 < l.length) (hn : l.length ≤ 4611686018427387904) :
    Calls Try.prog 12 #[v] w fun e w' => e = .returned (.int .i64 (grI l)) ∧ Below w.heap.size w w' := by
  obtain ⟨s, c, rfl⟩ := h.shape
  rw [List.length_map] at h ⊢
  obtain ⟨n, hnl⟩ : ∃ n, n = l.length := ⟨_, rfl⟩
  rw [← hnl] at h h0 hn ⊢
  have N := Lib.hid hnl
  obtain ⟨b, o, rfl, hg0⟩ := h.get h0
  have HG : Hid (∀ W, Below w.heap.size w W → ∀ i x, l[i]? = some x → W.cell? ⟨b, o + i, none⟩ = some (.int .i64 x)) := fun W hW i x hx => by
    obtain ⟨b', o', e, hg⟩ := (h.below hW).get h0
    cases e
    exact int_cell (hg i (intC x) (by rw [List.getElem?_map, hx]; rfl))
  obtain ⟨x0, hx0⟩ : ∃ x, l[0]? = some x := ⟨_, List.getElem?_eq_getElem (by omega)⟩
  have c0 := HG.out w (Below.refl _ _) 0 x0 hx0
  have G0 : Hid (grI (l.take 1) = x0) := by
    show _ = _
    match l, hx0 with
    | y :: r, hx0 => obtain rfl := Option.some.inj hx0; rfl
  obtain ⟨R, hR⟩ : ∃ R, R = grI l := ⟨_, rfl⟩
  have RE := Lib.hid hR
  rw [← hR]
  clear h hnl hg0 hx0 hR
  rw [Nat.add_zero] at c0
  have n1 : ¬ (n : Int) < 1 := by omega
  have n0 : (0 : Int) < (n : Int) := by omega
  go_enter Try.func12, Try.ntmps12
  go_wp2_with fail
  go_loopw [3, 4] (fun vm vi wr => MxI l n w vm vi wr) (fun _ vi _ => n - (intOf vi).toNat)
  case atStart => exact ⟨1, x0, rfl, rfl, Nat.le_refl _, by omega, G0.out, Below.refl _ _⟩
  case round =>
    clear c0
    obtain ⟨i, m, rfl, rfl, h1, h2, hm, hb⟩ := hrel
    have M := Lib.hid hm
    have B := Lib.hid hb
    clear hm hb
    by_cases hlt : i < n
    · obtain ⟨x, hx⟩ : ∃ x, l[i]? = some x := ⟨_, List.getElem?_eq_getElem (by rw [← N.out]; exact hlt)⟩
      have ci := HG.out _ B.out i x hx
      have MS : Hid (grI (l.take (i + 1)) = max m x) := by
        show _ = _
        rw [List.take_succ_eq_append_getElem (List.getElem?_eq_some_iff.1 hx).1, (List.getElem?_eq_some_iff.1 hx).2, grI_snoc (fun e => by have := congrArg List.length e; rw [List.length_take, List.length_nil] at this; have := N.out; omega), M.out]
      have i0 : 0 ≤ (i : Int) := by omega
      have i1 : (i : Int) < (n : Int) := by omega
      clear hx
      by_cases hc : m < x
      · have c2 : ¬ x < m := by omega
        have MV : Hid (grI (l.take (i + 1)) = x) := by show _ = _; rw [MS.out, Int.max_eq_right (by omega)]
        go_wp2_with fail
        go_roundw
        case rel => exact ⟨i + 1, x, congrArg (Value.int .i64) (by omega), by go_num, by omega, by omega, MV.out, B.out⟩
        case measure => simp [intOf] <;> omega
      · have c2 : x ≤ m := by omega
        have MV : Hid (grI (l.take (i + 1)) = m) := by show _ = _; rw [MS.out, Int.max_eq_left (by omega)]
        go_wp2_with fail
        go_roundw
        case rel => exact ⟨i + 1, m, congrArg (Value.int .i64) (by omega), by go_num, by omega, by omega, MV.out, B.out⟩
        case measure => simp [intOf] <;> omega
    · have hin : i = n := by omega
      have RV : Hid (R = m) := by
        have h := M.out
        rw [hin, List.take_of_length_le (by rw [← N.out]; exact Nat.le_refl _)] at h
        rw [RE.out]
        exact h
      have i1 : ¬ (i : Int) < (n : Int) := by omega
      clear hin hlt M
      go_wp2_with fail
      go_ret
      exact ⟨by rw [RV.out]; rfl, B.out⟩
set_option maxHeartbeats 2000000 in
set_option maxRecDepth 100000 in
theorem sqgreat_any (l : List Int) (v : Value) (w : World) (h : RwAt 1 w v (l.map intC)) (hn : l.length ≤ 4611686018427387904) :
    Calls Try.prog 10 #[v] w fun e w' => e = .returned (.int .i64 (grI l)) ∧ Below w.heap.size w w' := by
  have MX : Hid (0 < l.length → Calls Try.prog 12 #[v] w fun e w' => e = .returned (.int .i64 (grI l)) ∧ Below w.heap.size w w') := fun h0 => sqmax_any l v w h h0 hn
  obtain ⟨s, c, rfl⟩ := h.shape
  rw [List.length_map] at h MX ⊢
  have E0 : Hid (l.length = 0 → grI l = -1) := fun e => by rw [List.length_eq_zero_iff.1 e]; rfl
  obtain ⟨R, hR⟩ : ∃ R, R = grI l := ⟨_, rfl⟩
  rw [← hR] at MX E0 ⊢
  obtain ⟨n, hnl⟩ : ∃ n, n = l.length := ⟨_, rfl⟩
  rw [← hnl] at MX hn E0 ⊢
  clear h hnl hR
  go_enter Try.func10, Try.ntmps10
  by_cases h0 : n = 0
  · have RV := Lib.hid (E0.out h0)
    subst h0
    go_wp2_with fail
    go_ret
    exact ⟨by rw [RV.out]; rfl, Below.refl _ _⟩
  · have MX := Lib.hid (MX.out (by omega))
    have n0 : ((n : Int) == 0) = false := by simp; omega
    clear h0 E0
    go_wp2_with (go_at_call 12; refine MX.out.mono ?_; rintro e w1 ⟨rfl, hb⟩; have B1 := Lib.hid hb; clear hb)
    go_ret
    exact ⟨rfl, B1.out⟩
end Go.Proofs.Ytmdbhpkfldnodaa.Sha
