/-
  Texts of this proof joined into one file: Par, TxRead2, TxTakeM, TxTakeW0, ShaMath, ShaMath2, CnLay, CnSt, CnAll, CnSum, RefHalves, HeldEnd, HdMath, TxC2, RefTree, RefTree2, RefPasts, RefNeed, SqM, SqMax, SqNeed, TxBuilds, TxLits. What each holds, and under which conditions, its own first sentence tells.
-/
import Derived.LaidEql
import Derived.Deep.DeepFit
import Derived.Maps.AppendAt
import Derived.WalkKit
import Derived.Sort.Grow
import Derived.Lib.Bytealg
import Derived.Lib.BytesEntry
import Derived.LoopN
import Derived.Deep.DeepCutAuto
import Derived.StillTailTactics
import Derived.Deep.Light
import Derived.LoopTactic
import Derived.Laws.CopyOwn
import Derived.Lib.Hide
import Derived.WalkSmall
import Derived.Maps.RangeWalk
import Derived.RegionTactic
import Derived.Deep.QuietTactic
import Derived.BigQuiet
import Derived.Deep.MidRow
import Derived.WalkSpells
import Derived.Carry
import Derived.Shelf.SlGeneric
import Derived.Shelf.SlSortCmp.WholeK
import Derived.IntWalk
import Derived.Lib.OwnKind
import Derived.Maps.OwnSet
import Derived.DeepKeys4
import Derived.Great.BuildSlice
import Derived.Test.YtmdbhpkfldnodaaMg01
import Derived.Test.YtmdbhpkfldnodaaProg
/-
  Plain mathematics of readers of bytes, one behind the other: what was written is read again; cut off it ends too early; what is read has just these bytes. No conditions beyond those that each states.
-/
namespace Go.Proofs.Ytmdbhpkfldnodaa.Sha
open Go Go.RowKit
/-- A reader of bytes: what it answers, what it leaves, what it met. -/
abbrev Par (α : Type) := List UInt8 → Nat → α × List UInt8 × Nat
def thenP {α β : Type} (p : Par α) (q : α → Par β) : Par β := fun bs c => q (p bs c).1 (p bs c).2.1 (p bs c).2.2
def mapP {α β : Type} (f : α → β) (p : Par α) : Par β := fun bs c => (f (p bs c).1, (p bs c).2)
def manyP {α : Type} (p : Par α) : Nat → Par (List α)
  | 0, bs, c => ([], bs, c)
  | n + 1, bs, c => if c ≠ 0 then ([], bs, c) else thenP p (fun a => mapP (a :: ·) (manyP p n)) bs c
/-- Bytes that it reads whole, whatever stands behind; cut off, they end too early. -/
def Good {α : Type} (p : Par α) (a : α) (x : List UInt8) : Prop := (∀ y, p (x ++ y) 0 = (a, y, 0)) ∧ ∀ k, k < x.length → (p (x.take k) 0).2.2 = 1
/-- An error stays. -/
def Stay {α : Type} (p : Par α) : Prop := ∀ bs c, c ≠ 0 → (p bs c).2.2 = c
/-- What is read stands so to the bytes that it was read from. -/
def BackR {α : Type} (p : Par α) (R : α → List UInt8 → Prop) : Prop := ∀ bs a r, p bs 0 = (a, r, 0) → ∃ x, bs = x ++ r ∧ R a x
section
variable {α β : Type} {p : Par α} {q : α → Par β} {a : α} {b : β} {x y : List UInt8}
theorem Good.andThen (h1 : Good p a x) (h2 : Good (q a) b y) (hs : ∀ a, Stay (q a)) : Good (thenP p q) b (x ++ y) := by
  refine ⟨fun z => ?_, fun k hk => ?_⟩
  · unfold thenP
    rw [List.append_assoc, h1.1]
    exact h2.1 z
  · by_cases h : k < x.length
    · rw [List.take_append_of_le_length (by omega)]
      unfold thenP
      rw [h1.2 k h]
      exact hs _ _ 1 (by omega)
    · rw [List.take_append, List.take_of_length_le (by omega)]
      unfold thenP
      rw [h1.1]
      exact h2.2 (k - x.length) (by rw [List.length_append] at hk; omega)
theorem Good.map (f : α → β) (h : Good p a x) : Good (mapP f p) (f a) x :=
  ⟨fun z => by unfold mapP; rw [h.1], fun k hk => h.2 k hk⟩
theorem Stay.andThen (h1 : Stay p) (h2 : ∀ a, Stay (q a)) : Stay (thenP p q) := fun bs c hc => by
  unfold thenP
  have e := h1 bs c hc
  rw [h2 _ _ _ (by rw [e]; exact hc), e]
theorem Stay.map (f : α → β) (h : Stay p) : Stay (mapP f p) := fun bs c hc => h bs c hc
theorem BackR.andThen {R : α → List UInt8 → Prop} {S : α → β → List UInt8 → Prop} (h1 : BackR p R) (h2 : ∀ a, BackR (q a) (S a)) (hs : ∀ a, Stay (q a)) : BackR (thenP p q) (fun b z => ∃ a x y, z = x ++ y ∧ R a x ∧ S a b y) := by
  intro bs b r h
  unfold thenP at h
  have hc : (p bs 0).2.2 = 0 := by
    by_cases h0 : (p bs 0).2.2 = 0
    · exact h0
    · have e := hs (p bs 0).1 (p bs 0).2.1 (p bs 0).2.2 h0
      rw [h] at e
      exact e.symm
  rw [hc] at h
  obtain ⟨x, e1, r1⟩ := h1 bs (p bs 0).1 (p bs 0).2.1 (Prod.ext rfl (Prod.ext rfl hc))
  obtain ⟨y, e2, r2⟩ := h2 _ _ _ _ h
  exact ⟨x ++ y, by rw [List.append_assoc, ← e2]; exact e1, _, x, y, rfl, r1, r2⟩
theorem BackR.map {R : α → List UInt8 → Prop} (f : α → β) (h : BackR p R) : BackR (mapP f p) (fun b z => ∃ a, b = f a ∧ R a z) := by
  intro bs b r h1
  unfold mapP at h1
  simp only [Prod.mk.injEq] at h1
  obtain ⟨x, e, hr⟩ := h bs (p bs 0).1 r (by rw [← h1.2])
  exact ⟨x, e, _, h1.1.symm, hr⟩
end
/-- So many bytes as a number. -/
def leP (k : Nat) : Par Nat := mapP leN (takeL k)
end Go.Proofs.Ytmdbhpkfldnodaa.Sha

/-
  Plain mathematics of a transaction read out of bytes: an input, an output, the whole; all that is in the bytes, and what is amiss. No conditions beyond those that each states.
-/
namespace Go.Proofs.Ytmdbhpkfldnodaa.Sha
open Go Go.RowKit
def inP : Par TIn := thenP (takeL 32) fun h => thenP (leP 4) fun n => thenP (numL 80) fun k => thenP (takeL k) fun key => mapP (fun s => ⟨padH h, n, key, s⟩) (leP 4)
def outP : Par TOut := thenP (leP 8) fun v => mapP (fun h => ⟨v, padH h⟩) (takeL 32)
def txP : Par TTx := thenP (leP 4) fun v => thenP (numL 50) fun n => thenP (manyP inP n) fun is => thenP (numL 50) fun m => thenP (manyP outP m) fun os => mapP (fun t => ⟨v, is, os, t⟩) (leP 4)
def noTx : TTx := ⟨0, [], [], 0⟩
/-- Bytes as a transaction, or what is amiss. -/
def readTx (bs : List UInt8) : TTx × Nat := if (txP bs 0).2.2 ≠ 0 then (noTx, (txP bs 0).2.2) else if (txP bs 0).2.1 ≠ [] then (noTx, 2) else ((txP bs 0).1, 0)
end Go.Proofs.Ytmdbhpkfldnodaa.Sha

/-
  Plain mathematics of so many things read one behind the other, whether or not an error was met between: they leave and meet what those do that stop at the first error. No conditions.
-/
namespace Go.Proofs.Ytmdbhpkfldnodaa.Sha
open Go Go.RowKit
section
variable {α β : Type} {p q : Par α}
/-- Behind an error nothing is read. -/
def Still (p : Par α) : Prop := ∀ bs c, c ≠ 0 → (p bs c).2 = (bs, c)
theorem Still.andThen {f : α → Par β} (h1 : Still p) (h2 : ∀ a, Still (f a)) : Still (thenP p f) := fun bs c hc => by
  have e := h1 bs c hc
  unfold thenP
  rw [e]
  exact h2 _ bs c hc
theorem Still.map (f : α → β) (h : Still p) : Still (mapP f p) := fun bs c hc => h bs c hc
/-- Two that leave and meet the same, and are the same where nothing is met. -/
def Sim (p q : Par α) : Prop := ∀ bs c, (p bs c).2 = (q bs c).2 ∧ ((p bs c).2.2 = 0 → p bs c = q bs c)
theorem Sim.refl (p : Par α) : Sim p p := fun _ _ => ⟨rfl, fun _ => rfl⟩
theorem Sim.andThen {f g : α → Par β} (h1 : Sim p q) (h2 : ∀ a, Sim (f a) (g a)) (s1 : ∀ a, Still (f a)) (s2 : ∀ a, Still (g a)) : Sim (thenP p f) (thenP q g) := fun bs c => by
  obtain ⟨e1, e2⟩ := h1 bs c
  unfold thenP
  by_cases hd : (p bs c).2.2 = 0
  · have e := e2 hd
    rw [← e]
    exact h2 _ _ _
  · rw [← e1]
    have a1 := s1 (p bs c).1 (p bs c).2.1 (p bs c).2.2 hd
    have a2 := s2 (q bs c).1 (p bs c).2.1 (p bs c).2.2 hd
    exact ⟨a1.trans a2.symm, fun h0 => by rw [a1] at h0; exact absurd h0 hd⟩
theorem Sim.map (f : α → β) (h : Sim p q) : Sim (mapP f p) (mapP f q) := fun bs c => by
  obtain ⟨e1, e2⟩ := h bs c
  unfold mapP
  exact ⟨e1, fun h0 => by rw [e2 h0]⟩
end
/-- What is left is no longer than what was there. -/
def Less {α : Type} (p : Par α) : Prop := ∀ bs c, (p bs c).2.1.length ≤ bs.length
theorem Less.andThen {α β : Type} {p : Par α} {f : α → Par β} (h1 : Less p) (h2 : ∀ a, Less (f a)) : Less (thenP p f) := fun bs c => Nat.le_trans (h2 _ _ _) (h1 bs c)
theorem Less.map {α β : Type} {p : Par α} (f : α → β) (h : Less p) : Less (mapP f p) := h
end Go.Proofs.Ytmdbhpkfldnodaa.Sha

/-
  Loads and appends of structures where a region draws its order; rows that stay where others grow. No conditions beyond those that each states.
-/
namespace Go.Proofs.Ytmdbhpkfldnodaa.Sha
open Go Go.RowKit
section
variable {P : Program}
end
/-- All of a row's memory lies below. -/
def InsLow (B : Nat) (v : Value) (ks : List Value) : Prop := ∀ j, B ≤ j → v.ownBlock ≠ some j ∧ ∀ (i : Nat) kv, ks[i]? = some kv → Off kv (some j)
theorem InsOwn.low {base : Nat} {w : World} {v : Value} {l : List TIn} {ks : List Value} (h : InsOwn base w v l ks) : InsLow w.heap.size v ks := fun j hj => by
  refine ⟨fun e => ?_, fun i kv hk => ?_⟩
  · have := (h.2.1.lt j e).2
    omega
  · obtain ⟨x, hx⟩ : ∃ x, l[i]? = some x := ⟨_, List.getElem?_eq_getElem (by have := (List.getElem?_eq_some_iff.1 hk).1; have := h.1; omega)⟩
    exact (h.2.2.2 i x kv hx hk).1.fresh hj
end Go.Proofs.Ytmdbhpkfldnodaa.Sha

/-
  Plain mathematics of SHA-256 on 32-bit words, as the chapter gives it, and how the model's integers of kind u32 compute with such words. No program is imported. No conditions.
-/
namespace Go.Proofs.Ytmdbhpkfldnodaa.Sha
open Go
/-- A word as the model's integer. -/
def wv (x : UInt32) : Int := x.toNat
theorem wv_or (x y : UInt32) : bits .or .u32 (wv x) (wv y) = wv (x ||| y) := by
  unfold wv
  rw [u32_or_nat _ _ x.toNat_lt y.toNat_lt, UInt32.toNat_or]
theorem wv_and (x y : UInt32) : bits .and .u32 (wv x) (wv y) = wv (x &&& y) := by
  unfold wv
  rw [u32_and_nat _ _ x.toNat_lt y.toNat_lt, UInt32.toNat_and]
/-- A word turned right by n bits. -/
def rotr (x : UInt32) (n : Nat) : UInt32 := (x >>> UInt32.ofNat n) ||| (x <<< UInt32.ofNat (32 - n))
def sS0 (x : UInt32) : UInt32 := rotr x 7 ^^^ rotr x 18 ^^^ (x >>> UInt32.ofNat 3)
def sS1 (x : UInt32) : UInt32 := rotr x 17 ^^^ rotr x 19 ^^^ (x >>> UInt32.ofNat 10)
def wV (x : UInt32) : Value := .int .u32 (wv x)
/-- Four bytes read as a word, the highest first. -/
def rd (b : Nat → UInt8) (t : Nat) : UInt32 := ((b (4 * t)).toUInt32 <<< UInt32.ofNat 24) ||| ((b (4 * t + 1)).toUInt32 <<< UInt32.ofNat 16) ||| ((b (4 * t + 2)).toUInt32 <<< UInt32.ofNat 8) ||| (b (4 * t + 3)).toUInt32
def nextW (b : Nat → UInt8) (t : Nat) (l : List UInt32) : UInt32 :=
  if t < 16 then rd b t else sS1 (l.getD (t - 2) 0) + l.getD (t - 7) 0 + sS0 (l.getD (t - 15) 0) + l.getD (t - 16) 0
/-- The schedule's first t words. -/
def row (b : Nat → UInt8) : Nat → List UInt32
  | 0 => []
  | t + 1 => row b t ++ [nextW b t (row b t)]
/-- The eight words while a block is worked in. -/
structure St where
  a : UInt32
  b : UInt32
  c : UInt32
  d : UInt32
  e : UInt32
  f : UInt32
  g : UInt32
  h : UInt32
def St.cells (s : St) : List Value := [wV s.a, wV s.b, wV s.c, wV s.d, wV s.e, wV s.f, wV s.g, wV s.h]
end Go.Proofs.Ytmdbhpkfldnodaa.Sha

/-
  Plain mathematics: a message as a list of bytes, padded, cut into blocks, and its digest. No program is imported. No conditions.
-/
namespace Go.Proofs.Ytmdbhpkfldnodaa.Sha
open Go
def wordBytes (x : UInt32) : List UInt8 := [(x >>> UInt32.ofNat 24).toUInt8, (x >>> UInt32.ofNat 16).toUInt8, (x >>> UInt32.ofNat 8).toUInt8, x.toUInt8]
def St.list (s : St) : List UInt32 := [s.a, s.b, s.c, s.d, s.e, s.f, s.g, s.h]
def St.bytes (s : St) : List UInt8 := s.list.flatMap wordBytes
end Go.Proofs.Ytmdbhpkfldnodaa.Sha

/-
  Worlds that only grow: blocks are laid behind, orders drawn; digests and places held against each other do no more. Condition: digests of 32 bytes.
-/
namespace Go.Proofs.Ytmdbhpkfldnodaa.Sha
open Go Go.RowKit
open Go.Sort (grow grow_empty grow_grow alloc_eq_grow heap_grow_old size_grow)
/-- w' is w with orders drawn and blocks laid behind. -/
def Lay (w w' : World) : Prop := ∃ q os, w' = grow (w.drewN q) os
theorem Lay.refl (w : World) : Lay w w := ⟨0, #[], by rw [grow_empty]; rfl⟩
theorem Lay.alloc {w w1 : World} (h : Lay w w1) (o : Obj) : Lay w (w1.alloc o) := by
  obtain ⟨q, os, rfl⟩ := h
  exact ⟨q, os ++ #[o], by rw [alloc_eq_grow, grow_grow]⟩
theorem Lay.drewN {w w1 : World} (h : Lay w w1) (n : Nat) : Lay w (w1.drewN n) := by
  obtain ⟨q, os, rfl⟩ := h
  exact ⟨q + n, os, by simp [World.drewN, grow, Nat.add_assoc]⟩
theorem Lay.below {w w' : World} (h : Lay w w') : Below w.heap.size w w' := by
  obtain ⟨q, os, rfl⟩ := h
  exact ⟨rfl, rfl, rfl, by simp [World.drewN], fun k hk => heap_grow_old (w.drewN q) os hk⟩
theorem Lay.trans {w w1 w2 : World} (h : Lay w w1) (k : Lay w1 w2) : Lay w w2 := by
  obtain ⟨q, os, rfl⟩ := h
  obtain ⟨q', os', rfl⟩ := k
  exact ⟨q + q', os ++ os', by simp [World.drewN, grow, Nat.add_assoc, Array.append_assoc]⟩
end Go.Proofs.Ytmdbhpkfldnodaa.Sha

/-
  What a set becomes as it is told things: added one by one; a map's block above. No conditions.
-/
namespace Go.Proofs.Ytmdbhpkfldnodaa.Sha
open Go Go.RowKit
/-- A map's block is above this one. -/
def HiM (base : Nat) (m : Option Nat) : Prop := ∀ q, m = some q → base ≤ q
theorem Below.set {base : Nat} {w0 w w' : World} {a : Nat} {m : Option Nat} (h : Below base w0 w) (hk : Kps (fun j => j ≠ a ∧ m ≠ some j) w w') (ha : base ≤ a) (hm : HiM base m) (hb : base ≤ w.heap.size) : Below base w0 w' :=
  h.trans ⟨hk.os, hk.tape, hk.output, hk.size, fun k hlt => hk.block k (by omega) ⟨by omega, fun e => by have := hm k e; omega⟩⟩
end Go.Proofs.Ytmdbhpkfldnodaa.Sha

/-
  All coins of a set with their places, in the places' order: new memory; nothing that was there turns. Conditions: the set lies where the pointer says, at most 2^20 coins.
-/
namespace Go.Proofs.Ytmdbhpkfldnodaa.Sha
open Go Go.RowKit
theorem IterAt.grown {w w' : World} {m : Option Nat} {r : Nat} {q : Option Nat} {rest : List TSp} (h : IterAt w m r rest) (hg : w.grownBy w' q) (h1 : q ≠ some r) (h2 : ∀ b, m = some b → q ≠ some b) : IterAt w' m r rest :=
  h.kps (F := fun k => q ≠ some k) (Kps.grown hg fun k _ hk e => hk e.symm) (fun b hb => h2 b hb) h1
end Go.Proofs.Ytmdbhpkfldnodaa.Sha

/-
  A set's digest: of all coins' bytes, in the order of their places; nothing that was there turns. Conditions: the set lies where the pointer says, at most 2^20 coins; the table of the rounds' words is there.
-/
namespace Go.Proofs.Ytmdbhpkfldnodaa.Sha
open Go Go.RowKit
theorem RwAt.kps {F : Nat → Prop} {k : Nat} {w w' : World} {v : Value} {L : List (List Value)} (h : RwAt k w v L) (hk : Kps F w w') (h0 : 0 < k) (hf : ∀ sp n cap, v = .slice (some sp) n cap → F sp.block) : RwAt k w' v L := by
  obtain ⟨ho, sp, cap, hv, hc, hr⟩ := h
  refine ⟨ho, sp, cap, hv, hc, fun hl => ?_⟩
  obtain ⟨b, o, hs, hx⟩ := hr hl
  refine ⟨b, o, hs, fun i x hi j u hj => ?_⟩
  have h1 := hx i x hi j u hj
  rw [World.cell?_of_block (hk.block b (World.block_lt_of_cell? w _ h1) (hf ⟨b, o, none⟩ L.length cap (by rw [hv, hs])))]
  exact h1
end Go.Proofs.Ytmdbhpkfldnodaa.Sha

/-
  Rows of 32-bit numbers; the statements' own copy of one: new memory. Nothing that was there turns. Condition: at most 2^20 numbers.
-/
namespace Go.Proofs.Ytmdbhpkfldnodaa.Sha
open Go Go.RowKit
def u32C (x : Nat) : List Value := [.int .u32 (x : Int)]
theorem info_u32 : (Try.prog.info? 22).map (fun i => (i.zero, i.size, i.bytes)) = some (some (.int .u32 0), 1, 4) := by kernel_rfl
theorem u32_cell {w : World} {b o i x : Nat} (h : w.rangeAt b (o + i * 1) (u32C x)) : w.cell? ⟨b, o + i, none⟩ = some (.int .u32 (x : Int)) := by
  have := h 0 _ rfl
  simpa using this
end Go.Proofs.Ytmdbhpkfldnodaa.Sha

/-
  What may be read first in a region that draws its order and whose last operations (Z) write into what was read: the condition on the world need not hold behind those. No conditions beyond those that each states.
-/
namespace Go.Proofs.Ytmdbhpkfldnodaa.Sha
open Go Go.RowKit
section
variable {P : Program} {md : Region.Mode} {ops : Array Oper} {Q : Exit → Act → World → Prop} {S T : World → Prop} {Z : List Nat}
/-- None of Z has come up. -/
def endOpen (Z : List Nat) (done : Array Bool) : Bool := Z.all fun z => !done.getD z true
/-- Any order; the condition behind each operation while none of Z has come up. -/
def EndAny (P : Program) (md : Region.Mode) (ops : Array Oper) (Q : Exit → Act → World → Prop) (S : World → Prop) (Z : List Nat) : Nat → Array Bool → Act → World → Prop
  | 0, done, a, w => Region.ready md ops done = [] ∧ Q .normal a w
  | f + 1, done, a, w => (Region.ready md ops done = [] → Q .normal a w) ∧ ∀ j ∈ Region.ready md ops done, wpOp P ops Q j (fun b u => (endOpen Z (done.setIfInBounds j true) = true → S u) ∧ EndAny P md ops Q S Z f (done.setIfInBounds j true) b u) a w
theorem EndAny.any : ∀ (f : Nat) (done : Array Bool) (a : Act) (w : World), EndAny P md ops Q S Z f done a w → wpAny P md ops Q f done a w
  | 0, _, _, _, h => h
  | f + 1, _, _, _, h => ⟨h.1, fun j hj => wpOp_mono (fun b u hb => EndAny.any f _ b u hb.2) (h.2 j hj)⟩
/-- j waits for i, at once or through others. -/
def endAnc (md : Region.Mode) (ops : Array Oper) (i : Nat) : Nat → Nat → Bool
  | 0, _ => false
  | f + 1, j => match ops[j]? with | none => false | some o => o.after.any fun e => Region.binds md e && (e.on == i || endAnc md ops i f e.on)
def endWaits (md : Region.Mode) (ops : Array Oper) (Z : List Nat) (i : Nat) : Bool := Z.all fun z => endAnc md ops i ops.size z
/-- Who has come up has all come up that it waits for. -/
def EndClosed (md : Region.Mode) (ops : Array Oper) (done : Array Bool) : Prop := ∀ (j : Nat) (o : Oper), ops[j]? = some o → done.getD j true = true → ∀ e ∈ o.after, Region.binds md e = true → done.getD e.on false = true
def endClosed (md : Region.Mode) (ops : Array Oper) (done : Array Bool) : Bool := (List.range ops.size).all fun j => match ops[j]? with | none => true | some o => !done.getD j true || o.after.all fun e => !Region.binds md e || done.getD e.on false
theorem endClosed_spec {done : Array Bool} (h : endClosed md ops done = true) : EndClosed md ops done := by
  intro j o hj hd e he hb
  have h1 := List.all_eq_true.1 h j (List.mem_range.2 (Array.getElem?_eq_some_iff.1 hj).1)
  rw [hj] at h1
  simp only [hd, Bool.not_true, Bool.false_or] at h1
  obtain ⟨x, hx, rfl⟩ := Array.getElem_of_mem he
  have h2 := Array.all_eq_true.1 h1 x hx
  rw [hb, Bool.not_true, Bool.false_or] at h2
  exact h2
theorem getD_both {done : Array Bool} {i : Nat} (h0 : done.getD i true = false) (h1 : done.getD i false = true) : False := by
  by_cases hlt : i < done.size
  · simp only [Array.getD, hlt, dif_pos] at h0 h1
    rw [h0] at h1
    cases h1
  · simp only [Array.getD, hlt, dif_neg, not_false_eq_true] at h1
    cases h1
theorem getD_up {done : Array Bool} {i : Nat} (h : done.getD i false = true) : done.getD i true = true := by
  by_cases hlt : i < done.size
  · simp only [Array.getD, hlt, dif_pos] at h ⊢
    exact h
  · simp [Array.getD, hlt]
theorem endAnc_done {done : Array Bool} {i : Nat} (hc : EndClosed md ops done) : ∀ (f j : Nat) (o : Oper), ops[j]? = some o → (∀ e ∈ o.after, Region.binds md e = true → done.getD e.on false = true) → endAnc md ops i f j = true → done.getD i false = true
  | 0, _, _, _, _, h => by cases h
  | f + 1, j, o, hj, ha, h => by
    rw [endAnc, hj] at h
    have h : o.after.any (fun e => Region.binds md e && (e.on == i || endAnc md ops i f e.on)) = true := h
    obtain ⟨x, hx, h2⟩ := Array.any_eq_true.1 h
    rw [Bool.and_eq_true, Bool.or_eq_true, beq_iff_eq] at h2
    have hd := ha _ (Array.getElem_mem hx) h2.1
    rcases h2.2 with h3 | h3
    · rw [← h3]
      exact hd
    · cases hk : ops[(o.after[x]).on]? with
      | none =>
        cases f with
        | zero => cases h3
        | succ f => rw [endAnc, hk] at h3; cases h3
      | some ok => exact endAnc_done hc f _ ok hk (hc _ ok hk (getD_up hd)) h3
theorem endOpen_back {done : Array Bool} {i : Nat} (h : endOpen Z (done.setIfInBounds i true) = true) : endOpen Z done = true := by
  rw [endOpen, List.all_eq_true] at h ⊢
  intro z hz
  have h1 := h z hz
  by_cases hiz : i = z
  · subst hiz
    rw [Bool.not_eq_true'] at h1
    by_cases hlt : i < done.size
    · simp [Array.getD, hlt] at h1
    · simp [Array.getD, hlt] at h1
  · rwa [getD_set_ne true hiz] at h1
theorem endOpen_other {done : Array Bool} {i : Nat} (hi : i ∉ Z) (h : endOpen Z done = true) : endOpen Z (done.setIfInBounds i true) = true := by
  rw [endOpen, List.all_eq_true] at h ⊢
  intro z hz
  have h1 := h z hz
  rw [getD_set_ne true (fun e => hi (by rw [e]; exact hz))]
  exact h1
theorem endOpen_of {done : Array Bool} {i j : Nat} {oj : Oper} (hc : EndClosed md ops done) (hz : endWaits md ops Z i = true) (h0 : done.getD i true = false) (hoj : ops[j]? = some oj) (hall : ∀ e ∈ oj.after, Region.binds md e = true → done.getD e.on false = true) : endOpen Z (done.setIfInBounds j true) = true := by
  rw [endOpen, List.all_eq_true]
  intro z hm
  have h1 := List.all_eq_true.1 hz z hm
  have hjz : j ≠ z := fun e => by
    rw [← e] at h1
    exact getD_both h0 (endAnc_done hc _ j oj hoj hall h1)
  rw [getD_set_ne true hjz, Bool.not_eq_true']
  cases hd : done.getD z true with
  | false => rfl
  | true =>
    cases hk : ops[z]? with
    | none =>
      cases hs : ops.size with
      | zero => rw [hs] at h1; cases h1
      | succ f => rw [hs, endAnc, hk] at h1; cases h1
    | some ok => exact (getD_both h0 (endAnc_done hc _ z ok hk (hc z ok hk hd) h1)).elim
theorem EndAny.first {i : Nat} {oi : Oper} {v : Value} (hi : ops[i]? = some oi) (hiz : i ∉ Z) (hz : (∀ w, T w) ∨ (endWaits md ops Z i = true ∧ ∀ w, S w → T w)) (hsel : ∀ (j : Nat) (o : Oper) cs b, ops[j]? = some o → o.op ≠ .select cs b) (hQ : ∀ c a w, Q (.panic c) (a.put oi.dst v) w → Q (.panic c) a w) :
    ∀ (f : Nat) (done : Array Bool) (a : Act) (w : World), EndClosed md ops done → (∀ j oj, ops[j]? = some oj → j ≠ i → done.getD j true = false → (∀ e ∈ oj.after, Region.binds md e = true → e.on ≠ i) → oi.apart ops oj = true) →
      i ∈ Region.ready md ops done → YieldsIf P ops T oi v a → T w → (endOpen Z done = true → S w) → EndAny P md ops Q S Z f (done.setIfInBounds i true) (a.put oi.dst v) w → EndAny P md ops Q S Z (f + 1) done a w := by
  have lone : ∀ {f : Nat} {done : Array Bool} {a : Act} {w : World}, YieldsIf P ops T oi v a → T w → (endOpen Z done = true → S w) → EndAny P md ops Q S Z f (done.setIfInBounds i true) (a.put oi.dst v) w →
      wpOp P ops Q i (fun b u => (endOpen Z (done.setIfInBounds i true) = true → S u) ∧ EndAny P md ops Q S Z f (done.setIfInBounds i true) b u) a w := fun hy hw hs h => hy.wpOp hi hw ⟨fun ho => hs (endOpen_back ho), h⟩
  intro f
  induction f with
  | zero =>
    intro done a w _ _ hr hy hw hs h
    constructor
    · intro h0
      exact absurd hr (by rw [h0]; simp)
    · intro j hj
      by_cases hji : j = i
      · rw [hji]
        exact lone hy hw hs h
      · have h2 := ready_mono hj hji
        rw [h.1] at h2
        exact absurd h2 (by simp)
  | succ f ih =>
    intro done a w hcl hfree hr hy hw hs h
    constructor
    · intro h0
      exact absurd hr (by rw [h0]; simp)
    · intro j hj
      by_cases hji : j = i
      · rw [hji]
        exact lone hy hw hs h
      · obtain ⟨un, oj, hoj, hall⟩ := mem_ready.1 hj
        have h0 := (mem_ready.1 hr).1
        -- i has not come up yet: who comes up now does not wait for it
        have alone : ∀ e ∈ oj.after, Region.binds md e = true → e.on ≠ i := fun e he hb hei => by
          have h1 := hall e he hb
          rw [hei] at h1
          exact getD_both h0 h1
        have hk := wpOp_putIf hoj (hfree j oj hoj hji un alone) (fun cs b => hsel i oi cs b hi) (fun cs b => hsel j oj cs b hoj) hQ hy (h.2 j (ready_mono hj hji))
        refine wpOp_mono (fun b u hb => ?_) hk
        have hcl' : EndClosed md ops (done.setIfInBounds j true) := by
          intro k ok hok hd e he hb2
          by_cases hjk : j = k
          · rw [← hjk, hoj] at hok
            cases hok
            exact getD_set_true (hall e he hb2)
          · rw [getD_set_ne true hjk] at hd
            exact getD_set_true (hcl k ok hok hd e he hb2)
        have hs2 : endOpen Z (done.setIfInBounds j true) = true → S u := fun ho => hb.2.1 (by
          rw [Array.setIfInBounds_comm _ _ (fun e => hji e.symm)]
          exact endOpen_other hiz ho)
        have ht : T u := by
          rcases hz with hz | ⟨hz, hst⟩
          · exact hz u
          · exact hst u (hs2 (endOpen_of hcl hz h0 hoj hall))
        refine ⟨hs2, ih _ b u hcl' (fun k ok hok hki hun hno => hfree k ok hok hki ?_ hno) (ready_mono hr (fun e => hji e.symm)) hb.1 ht hs2 ?_⟩
        · by_cases hjk : j = k
          · rw [← hjk]
            exact un
          · rw [getD_set_ne true hjk] at hun
            exact hun
        · have := hb.2.2
          rwa [Array.setIfInBounds_comm _ _ hji]
end
section
variable {P : Program} {md : Region.Mode} {l : List Oper} {Q : Exit → Act → World → Prop} {S : World → Prop} {Z : List Nat}
/-- What every world of the condition yields, and all of Z wait for, is taken first. -/
theorem end_take {i : Nat} {oi : Oper} {rest : List Oper} {v : Value} {f : Nat} {done : Array Bool} {a : Act} {w : World} (hd : l.drop i = oi :: rest) (hz : (endWaits md l.toArray Z i && !Z.contains i && endClosed md l.toArray done) = true)
    (hs : Region.noSelect l.toArray = true) (hf : Region.free md l.toArray done i = true) (hr : (Region.ready md l.toArray done).contains i = true)
    (hQ : ∀ c a w, Q (.panic c) (a.put oi.dst v) w → Q (.panic c) a w) (hy : YieldsIf P l.toArray S oi v a) (hS : S w)
    (h : EndAny P md l.toArray Q S Z f (done.setIfInBounds i true) (a.put oi.dst v) w) : EndAny P md l.toArray Q S Z (f + 1) done a w := by
  have hi : l.toArray[i]? = some oi := by rw [List.getElem?_toArray]; exact get_of_drop hd
  rw [Bool.and_eq_true, Bool.and_eq_true, Bool.not_eq_true'] at hz
  exact EndAny.first (T := S) hi (fun hm => by have := hz.1.2; simp [hm] at this) (.inr ⟨hz.1.1, fun _ h => h⟩) (Region.noSelect_spec hs) hQ f done a w (endClosed_spec hz.2) (Region.free_spec hi hf) (by simpa using hr) hy hS (fun _ => hS) h
/-- One of Z comes up, or one behind: nothing is asked of the world any more. -/
theorem end_last {f i : Nat} {done : Array Bool} {a : Act} {w : World} {o : Oper} {rest : List Oper} (hr : Region.ready md l.toArray done = [i]) (ho : endOpen Z (done.setIfInBounds i true) = false) (hd : l.drop i = o :: rest)
    (h : ∀ K' : Act → World → Prop, Shut (∀ a w, EndAny P md l.toArray Q S Z f (done.setIfInBounds i true) a w → K' a w) → if Region.wanted o (yielded l.toArray a.tmps) = true then Oper.wp P o a w K' Q else K' (a.put o.dst undef) w) :
    EndAny P md l.toArray Q S Z (f + 1) done a w := by
  refine ⟨fun h0 => (by rw [hr] at h0; cases h0), fun j hj => ?_⟩
  rw [hr] at hj
  obtain rfl := List.mem_singleton.1 hj
  exact wpOp_step (by rw [List.getElem?_toArray]; exact get_of_drop hd) (fun K' hK => h K' (fun a w hW => hK a w ⟨fun h => absurd h (by rw [ho]; decide), hW⟩))
theorem end_done {done : Array Bool} {a : Act} {w : World} (hr : Region.ready md l.toArray done = []) (h : Q .normal a w) : ∀ f, EndAny P md l.toArray Q S Z f done a w
  | 0 => ⟨hr, h⟩
  | _ + 1 => ⟨fun _ => h, fun j hj => by rw [hr] at hj; cases hj⟩
/-- The region's head. -/
theorem wp_region_end (S : World → Prop) (Z : List Nat) {id : Nat} {a : Act} {w : World} (hm : P.follows .mixedOrders = true) (hS : S w.drew) (h : S w.drew → EndAny P .any l.toArray Q S Z l.toArray.size (Array.replicate l.toArray.size false) a w.drew) :
    (Code.region id l.toArray true).wp P Q a w := wp_region_any hm (EndAny.any _ _ _ _ (h hS))
end
end Go.Proofs.Ytmdbhpkfldnodaa.Sha

/-
  Plain mathematics of a block's header: its bytes; read out of bytes it is what was written, cut off it ends too early, longer it has another shape; any 80 bytes are one header's. No conditions beyond those that each states.
-/
namespace Go.Proofs.Ytmdbhpkfldnodaa.Sha
open Go Go.RowKit
structure THd where
  ver : Nat
  prev : List UInt8
  root : List UInt8
  time : Nat
  work : Nat
  nonce : Nat
end Go.Proofs.Ytmdbhpkfldnodaa.Sha

/-
  What package tx is shown to answer of bytes as a transaction, as a hypothesis; what is read is small. No conditions.
-/
namespace Go.Proofs.Ytmdbhpkfldnodaa.Sha
open Go Go.RowKit
/-- What bytes are as a transaction. -/
structure ReadIs (bs : List UInt8) (t : TTx) (c : Nat) : Prop where
  eq : readTx bs = (t, c)
theorem tx_one {w : World} {t : TTx} {iv ov : Value} (h1 : InsAt w iv t.ins) (h2 : OutsAt w ov t.outs) : (txL t iv ov).toArray.all (·.oneCell') = true := by
  obtain ⟨_, _, rfl, _⟩ := h1
  obtain ⟨_, _, rfl, _⟩ := h2
  rw [Array.all_eq_true_iff_forall_mem]
  intro x hx
  simp [txL] at hx
  rcases hx with rfl | rfl | rfl | rfl <;> rfl
end Go.Proofs.Ytmdbhpkfldnodaa.Sha

/-
  The statements' own tree: a box with an own row of nodes; where a block is. Nothing that was there turns. Conditions: the tree lies where the pointer says, nodes as the model has them, at most 4096.
-/
namespace Go.Proofs.Ytmdbhpkfldnodaa.Sha
open Go Go.RowKit
/-- A node. -/
structure TNd where
  id : List UInt8
  h : THd
  parent : Int
  height : Int
  work : Nat
  bad : Bool
section
variable {w w' : World} {base a : Nat} {v : Value} {L : List TNd}
end
end Go.Proofs.Ytmdbhpkfldnodaa.Sha

/-
  The statements' own tree: the places from one down to the start; whether one is below another one. Nothing that was there turns. Conditions: the tree lies where the pointer says; each node's parent stands ahead of it, at most 4096.
-/
namespace Go.Proofs.Ytmdbhpkfldnodaa.Sha
open Go Go.RowKit
theorem info_int : (Try.prog.info? 3).map (fun i => (i.zero, i.size, i.bytes)) = some (some (.int .i64 0), 1, 8) := by kernel_rfl
end Go.Proofs.Ytmdbhpkfldnodaa.Sha

/-
  The statements' own tree: the past of each block of a branch. Nothing that was there turns. Conditions: the tree lies where the pointer says, parents stand ahead, at most 4096 blocks.
-/
namespace Go.Proofs.Ytmdbhpkfldnodaa.Sha
open Go Go.RowKit
def intC (x : Int) : List Value := [.int .i64 x]
theorem int_cell {w : World} {b o i : Nat} {x : Int} (h : w.rangeAt b (o + i * 1) (intC x)) : w.cell? ⟨b, o + i, none⟩ = some (.int .i64 x) := by
  have := h 0 _ rfl
  simpa using this
theorem ne_swap {a b : Option Nat} (h : a = none ∨ a ≠ b) : b = none ∨ b ≠ a := by
  cases b with
  | none => exact .inl rfl
  | some b =>
    right
    intro e
    rcases h with h | h
    · rw [h] at e; cases e
    · exact h e.symm
theorem ne_new {a b b' : Option Nat} {g : Nat} (h : a = none ∨ a ≠ b) (hb : b' = b ∨ b' = some g) (ha : ∀ q, a = some q → q < g) : a = none ∨ a ≠ b' := by
  rcases hb with rfl | rfl
  · exact h
  · cases a with
    | none => exact .inl rfl
    | some q =>
      right
      intro e
      have := ha q rfl
      have := Option.some.inj e
      omega
end Go.Proofs.Ytmdbhpkfldnodaa.Sha

/-
  The statements' own: until when a transaction has to wait. Nothing that was there turns. Conditions: the transaction and the rows lie in memory, at most a million inputs; sums of heights go round as the statement's do.
-/
namespace Go.Proofs.Ytmdbhpkfldnodaa.Sha
open Go Go.RowKit
theorem bits_nat {a b : Nat} (ha : a ≤ 4294967295) (hb : b ≤ 4294967295) : bits .and .u32 (a : Int) (b : Int) = ((a &&& b : Nat) : Int) := by
  have h := wv_and (UInt32.ofNat a) (UInt32.ofNat b)
  have e1 : wv (UInt32.ofNat a) = (a : Int) := by unfold wv; rw [UInt32.toNat_ofNat']; omega
  have e2 : wv (UInt32.ofNat b) = (b : Int) := by unfold wv; rw [UInt32.toNat_ofNat']; omega
  rw [e1, e2] at h
  rw [h]
  unfold wv
  rw [UInt32.toNat_and, UInt32.toNat_ofNat', UInt32.toNat_ofNat', Nat.mod_eq_of_lt (by omega), Nat.mod_eq_of_lt (by omega)]
def lockB (s : Nat) : Bool := decide (s &&& 2147483648 ≠ 0)
def timeB (s : Nat) : Bool := decide (s &&& 4194304 ≠ 0)
def addH (h : Int) (n : Nat) : Int := IntKind.i64.wrap (IntKind.i64.wrap (h + (n : Int)) - 1)
def needStep (st : Int × Int) (e : Nat × Int × Nat) : Int × Int :=
  if lockB e.1 then st else if timeB e.1 then (st.1, max st.2 ((e.2.2 : Int) + 512 * ((e.1 &&& 65535 : Nat) : Int) - 1)) else (max st.1 (addH e.2.1 (e.1 &&& 65535)), st.2)
def needE (t : TTx) (hs : List Int) (ps : List Nat) : List (Nat × Int × Nat) := (t.ins.map (·.seq)).zip (hs.zip ps)
def needL (t : TTx) (hs : List Int) (ps : List Nat) : Int × Int := if t.ver < 2 then (-1, -1) else (needE t hs ps).foldl needStep (-1, -1)
theorem needE_get {t : TTx} {hs : List Int} {ps : List Nat} {i : Nat} {x : TIn} {h : Int} {p : Nat} (h1 : t.ins[i]? = some x) (h2 : hs[i]? = some h) (h3 : ps[i]? = some p) : (needE t hs ps)[i]? = some (x.seq, h, p) := by
  unfold needE
  rw [List.getElem?_zip_eq_some]
  exact ⟨by rw [List.getElem?_map, h1]; rfl, by rw [List.getElem?_zip_eq_some]; exact ⟨h2, h3⟩⟩
theorem results_t3 {P : Program} {fn : Func} {u1 u2 u3 : Tmp} (h : fn.results = #[.tmp u1, .tmp u2, .tmp u3]) (tmps : Array Value) (w : World) : (results fn tmps).run P w = .ok (.tuple #[tmps.getD u1 undef, tmps.getD u2 undef, tmps.getD u3 undef]) w := by
  simp [results, h, Result.andThen]
end Go.Proofs.Ytmdbhpkfldnodaa.Sha

/-
  Which of a transaction's inputs wait, and the greatest of two lists: pure. Conditions: none.
-/
namespace Go.Proofs.Ytmdbhpkfldnodaa.Sha
open Go Go.RowKit
def grI : List Int → Int
  | [] => -1
  | x :: r => r.foldl max x
theorem grI_snoc {l : List Int} (h : l ≠ []) (y : Int) : grI (l ++ [y]) = max (grI l) y := by
  match l, h with
  | x :: r, _ => show (r ++ [y]).foldl max x = max (r.foldl max x) y; rw [List.foldl_append]; rfl
theorem grI_neg : ∀ {l : List Int}, (∀ x ∈ l, -1 ≤ x) → grI l = l.foldl max (-1)
  | [], _ => rfl
  | x :: r, h => by
    show r.foldl max x = r.foldl max (max (-1) x)
    rw [Int.max_eq_right (h x (List.mem_cons_self ..))]
def spanN (s : Nat) : Nat := s &&& 65535
theorem spanN_le (s : Nat) : spanN s ≤ 65535 := Nat.and_le_right
def hSel (e : Nat × Int × Nat) : Option Int := if lockB e.1 then none else if timeB e.1 then none else some (e.2.1 + (spanN e.1 : Int) - 1)
def pSel (e : Nat × Int × Nat) : Option Int := if lockB e.1 then none else if timeB e.1 then some ((e.2.2 : Int) + 512 * (spanN e.1 : Int) - 1) else none
def hLs (E : List (Nat × Int × Nat)) : List Int := E.filterMap hSel
def pLs (E : List (Nat × Int × Nat)) : List Int := E.filterMap pSel
theorem sel_succ {α β : Type} (f : α → Option β) {E : List α} {i : Nat} {e : α} (h : E[i]? = some e) : (E.take (i + 1)).filterMap f = (E.take i).filterMap f ++ (f e).toList := by
  rw [List.take_succ_eq_append_getElem (List.getElem?_eq_some_iff.1 h).1, (List.getElem?_eq_some_iff.1 h).2, List.filterMap_append]
  have h2 : [e].filterMap f = (f e).toList := by cases hf : f e <;> simp [hf]
  rw [h2]
theorem sel_length {α β : Type} (f : α → Option β) (E : List α) : (E.filterMap f).length ≤ E.length := List.length_filterMap_le _ _
def HtOk (h : Int) : Prop := -1 ≤ h ∧ h ≤ 1099511627776
theorem addH_ok {h : Int} {s : Nat} (hh : HtOk h) : addH h (spanN s) = h + (spanN s : Int) - 1 := by
  have := spanN_le s
  obtain ⟨h1, h2⟩ := hh
  unfold addH
  rw [IntWalk.i64_in (h + (spanN s : Int)) (by omega), IntWalk.i64_in (h + (spanN s : Int) - 1) (by omega)]
theorem need_fold : ∀ (E : List (Nat × Int × Nat)) (a b : Int), (∀ e ∈ E, HtOk e.2.1) → E.foldl needStep (a, b) = ((hLs E).foldl max a, (pLs E).foldl max b)
  | [], _, _, _ => rfl
  | e :: r, a, b, h => by
    have hr := fun x y => need_fold r x y (fun z hz => h z (List.mem_cons_of_mem _ hz))
    have he := addH_ok (s := e.1) (h e (List.mem_cons_self ..))
    have ehl : hLs (e :: r) = (hSel e).toList ++ hLs r := by
      unfold hLs
      cases hf : hSel e <;> simp [hf]
    have epl : pLs (e :: r) = (pSel e).toList ++ pLs r := by
      unfold pLs
      cases hf : pSel e <;> simp [hf]
    rw [ehl, epl, List.foldl_append, List.foldl_append]
    have hst : needStep (a, b) e = if lockB e.1 then (a, b) else if timeB e.1 then (a, max b ((e.2.2 : Int) + 512 * (spanN e.1 : Int) - 1)) else (max a (addH e.2.1 (spanN e.1)), b) := rfl
    have hhs : hSel e = if lockB e.1 then none else if timeB e.1 then none else some (e.2.1 + (spanN e.1 : Int) - 1) := rfl
    have hps : pSel e = if lockB e.1 then none else if timeB e.1 then some ((e.2.2 : Int) + 512 * (spanN e.1 : Int) - 1) else none := rfl
    rw [List.foldl_cons, hst, hhs, hps, he]
    by_cases hl : lockB e.1 = true
    · rw [if_pos hl, if_pos hl, if_pos hl, hr]
      rfl
    · rw [if_neg hl, if_neg hl, if_neg hl]
      by_cases ht : timeB e.1 = true
      · rw [if_pos ht, if_pos ht, if_pos ht, hr]
        rfl
      · rw [if_neg ht, if_neg ht, if_neg ht, hr]
        rfl
theorem need_gr {E : List (Nat × Int × Nat)} (h : ∀ e ∈ E, 0 ≤ e.2.1 ∧ e.2.1 ≤ 1099511627776) : (grI (hLs E), grI (pLs E)) = E.foldl needStep (-1, -1) := by
  rw [need_fold E (-1) (-1) (fun e he => ⟨by have := (h e he).1; omega, (h e he).2⟩)]
  have h1 : ∀ x ∈ hLs E, -1 ≤ x := fun x hx => by
    obtain ⟨e, he, hf⟩ := List.mem_filterMap.1 hx
    have := (h e he).1
    unfold hSel at hf
    split at hf
    · cases hf
    · split at hf
      · cases hf
      · obtain rfl := Option.some.inj hf
        omega
  have h2 : ∀ x ∈ pLs E, -1 ≤ x := fun x hx => by
    obtain ⟨e, he, hf⟩ := List.mem_filterMap.1 hx
    unfold pSel at hf
    split at hf
    · cases hf
    · split at hf
      · obtain rfl := Option.some.inj hf
        omega
      · cases hf
  rw [grI_neg h1, grI_neg h2]
end Go.Proofs.Ytmdbhpkfldnodaa.Sha

/-
  The library's greatest of a list of numbers, and the project's own of a list that may be empty. Nothing that was there turns. Conditions: the list lies in memory.
-/
namespace Go.Proofs.Ytmdbhpkfldnodaa.Sha
open Go Go.RowKit
def MxI (l : List Int) (n : Nat) (w : World) (vm vi : Value) (wr : World) : Prop :=
  ∃ (i : Nat) (m : Int), vm = .int .i64 m ∧ vi = .int .i64 (i : Int) ∧ 1 ≤ i ∧ i ≤ n ∧ grI (l.take i) = m ∧ Below w.heap.size w wr
set_option maxHeartbeats 2000000 in
set_option maxRecDepth 100000 in
theorem sqmax_any (l : List Int) (v : Value) (w : World) (h : RwAt 1 w v (l.map intC)) (h0 : 0 < l.length) (hn : l.length ≤ 4611686018427387904) :
    Calls Try.prog 12 #[v] w fun e w' => e = .returned (.int .i64 (grI l)) ∧ Below w.heap.size w w' := by
  obtain ⟨s, c, rfl⟩ := h.shape
  rw [List.length_map] at h ⊢
  obtain ⟨n, hnl⟩ : ∃ n, n = l.length := ⟨_, rfl⟩
  rw [← hnl] at h h0 hn ⊢
  have N := Lib.hid hnl
  obtain ⟨b, o, rfl, hg0⟩ := h.get h0
  have HG : Hid (∀ W, Below w.heap.size w W → ∀ i x, l[i]? = some x → W.cell? ⟨b, o + i, none⟩ = some (.int .i64 x)) := fun W hW i x hx => by
    obtain ⟨b', o', e, hg⟩ := (h.below hW).get h0
    cases e
    exact int_cell (hg i (intC x) (by rw [List.getElem?_map, hx]; rfl))
  obtain ⟨x0, hx0⟩ : ∃ x, l[0]? = some x := ⟨_, List.getElem?_eq_getElem (by omega)⟩
  have c0 := HG.out w (Below.refl _ _) 0 x0 hx0
  have G0 : Hid (grI (l.take 1) = x0) := by
    show _ = _
    match l, hx0 with
    | y :: r, hx0 => obtain rfl := Option.some.inj hx0; rfl
  obtain ⟨R, hR⟩ : ∃ R, R = grI l := ⟨_, rfl⟩
  have RE := Lib.hid hR
  rw [← hR]
  clear h hnl hg0 hx0 hR
  rw [Nat.add_zero] at c0
  have n1 : ¬ (n : Int) < 1 := by omega
  have n0 : (0 : Int) < (n : Int) := by omega
  go_enter Try.func12, Try.ntmps12
  go_wp2_with fail
  go_loopw [3, 4] (fun vm vi wr => MxI l n w vm vi wr) (fun _ vi _ => n - (intOf vi).toNat)
  case atStart => exact ⟨1, x0, rfl, rfl, Nat.le_refl _, by omega, G0.out, Below.refl _ _⟩
  case round =>
    clear c0
    obtain ⟨i, m, rfl, rfl, h1, h2, hm, hb⟩ := hrel
    have M := Lib.hid hm
    have B := Lib.hid hb
    clear hm hb
    by_cases hlt : i < n
    · obtain ⟨x, hx⟩ : ∃ x, l[i]? = some x := ⟨_, List.getElem?_eq_getElem (by rw [← N.out]; exact hlt)⟩
      have ci := HG.out _ B.out i x hx
      have MS : Hid (grI (l.take (i + 1)) = max m x) := by
        show _ = _
        rw [List.take_succ_eq_append_getElem (List.getElem?_eq_some_iff.1 hx).1, (List.getElem?_eq_some_iff.1 hx).2, grI_snoc (fun e => by have := congrArg List.length e; rw [List.length_take, List.length_nil] at this; have := N.out; omega), M.out]
      have i0 : 0 ≤ (i : Int) := by omega
      have i1 : (i : Int) < (n : Int) := by omega
      clear hx
      by_cases hc : m < x
      · have c2 : ¬ x < m := by omega
        have MV : Hid (grI (l.take (i + 1)) = x) := by show _ = _; rw [MS.out, Int.max_eq_right (by omega)]
        go_wp2_with fail
        go_roundw
        case rel => exact ⟨i + 1, x, congrArg (Value.int .i64) (by omega), by go_num, by omega, by omega, MV.out, B.out⟩
        case measure => simp [intOf] <;> omega
      · have c2 : x ≤ m := by omega
        have MV : Hid (grI (l.take (i + 1)) = m) := by show _ = _; rw [MS.out, Int.max_eq_left (by omega)]
        go_wp2_with fail
        go_roundw
        case rel => exact ⟨i + 1, m, congrArg (Value.int .i64) (by omega), by go_num, by omega, by omega, MV.out, B.out⟩
        case measure => simp [intOf] <;> omega
    · have hin : i = n := by omega
      have RV : Hid (R = m) := by
        have h := M.out
        rw [hin, List.take_of_length_le (by rw [← N.out]; exact Nat.le_refl _)] at h
        rw [RE.out]
        exact h
      have i1 : ¬ (i : Int) < (n : Int) := by omega
      clear hin hlt M
      go_wp2_with fail
      go_ret
      exact ⟨by rw [RV.out]; rfl, B.out⟩
set_option maxHeartbeats 2000000 in
set_option maxRecDepth 100000 in
theorem sqgreat_any (l : List Int) (v : Value) (w : World) (h : RwAt 1 w v (l.map intC)) (hn : l.length ≤ 4611686018427387904) :
    Calls Try.prog 10 #[v] w fun e w' => e = .returned (.int .i64 (grI l)) ∧ Below w.heap.size w w' := by
  have MX : Hid (0 < l.length → Calls Try.prog 12 #[v] w fun e w' => e = .returned (.int .i64 (grI l)) ∧ Below w.heap.size w w') := fun h0 => sqmax_any l v w h h0 hn
  obtain ⟨s, c, rfl⟩ := h.shape
  rw [List.length_map] at h MX ⊢
  have E0 : Hid (l.length = 0 → grI l = -1) := fun e => by rw [List.length_eq_zero_iff.1 e]; rfl
  obtain ⟨R, hR⟩ : ∃ R, R = grI l := ⟨_, rfl⟩
  rw [← hR] at MX E0 ⊢
  obtain ⟨n, hnl⟩ : ∃ n, n = l.length := ⟨_, rfl⟩
  rw [← hnl] at MX hn E0 ⊢
  clear h hnl hR
  go_enter Try.func10, Try.ntmps10
  by_cases h0 : n = 0
  · have RV := Lib.hid (E0.out h0)
    subst h0
    go_wp2_with fail
    go_ret
    exact ⟨by rw [RV.out]; rfl, Below.refl _ _⟩
  · have MX := Lib.hid (MX.out (by omega))
    have n0 : ((n : Int) == 0) = false := by simp; omega
    clear h0 E0
    go_wp2_with (go_at_call 12; refine MX.out.mono ?_; rintro e w1 ⟨rfl, hb⟩; have B1 := Lib.hid hb; clear hb)
    go_ret
    exact ⟨rfl, B1.out⟩
end Go.Proofs.Ytmdbhpkfldnodaa.Sha

/-
  The project's own: until when a transaction has to wait. Nothing that was there turns. Conditions: the transaction and the rows lie in memory, at most a million inputs, heights from -1 on.
-/
namespace Go.Proofs.Ytmdbhpkfldnodaa.Sha
open Go Go.RowKit
theorem info_i64 : (Try.prog.info? 2).map (fun i => (i.zero, i.size, i.bytes)) = some (some (.int .i64 0), 1, 8) := by kernel_rfl
theorem intC_one (x : Int) : ∀ v ∈ intC x, v.oneCell' = true := by
  intro v hv
  obtain rfl := List.mem_singleton.1 hv
  rfl
def SqI (E : List (Nat × Int × Nat)) (n : Nat) (w : World) (vh vp vi : Value) (wr : World) : Prop :=
  ∃ (i : Nat) (ah ap : Value), ah = vh ∧ ap = vp ∧ vi = .int .i64 (i : Int) ∧ i ≤ n ∧ RwOwn 1 2 w.heap.size wr ah ((hLs (E.take i)).map intC) ∧ RwOwn 1 2 w.heap.size wr ap ((pLs (E.take i)).map intC) ∧ (ah.ownBlock = none ∨ ah.ownBlock ≠ ap.ownBlock) ∧ Below w.heap.size w wr
/-- What Need answers. -/
def sqV (t : TTx) (hs : List Int) (ps : List Nat) : Int × Int := if t.ver < 2 then (-1, -1) else (grI (hLs (needE t hs ps)), grI (pLs (needE t hs ps)))
theorem sqV_needL {t : TTx} {hs : List Int} {ps : List Nat} (h : ∀ x ∈ hs, 0 ≤ x ∧ x ≤ 1099511627776) : sqV t hs ps = needL t hs ps := by
  unfold sqV needL
  by_cases hv : t.ver < 2
  · rw [if_pos hv, if_pos hv]
  · rw [if_neg hv, if_neg hv]
    refine need_gr (fun e he => ?_)
    unfold needE at he
    obtain ⟨_, h2⟩ := List.of_mem_zip (a := e.1) (b := e.2) he
    obtain ⟨h3, _⟩ := List.of_mem_zip (a := e.2.1) (b := e.2.2) h2
    exact h _ h3
set_option maxHeartbeats 4000000 in
set_option maxRecDepth 100000 in
theorem sqneed_any (w : World) (v vh vp : Value) (t : TTx) (hs : List Int) (ps : List Nat) (h : TxAt w v t) (hh : RwAt 1 w vh (hs.map intC)) (hp : RwAt 1 w vp (ps.map u32C)) (hl1 : hs.length = t.ins.length) (hl2 : ps.length = t.ins.length) (hm : t.ins.length ≤ 1000000) (hho : ∀ x ∈ hs, HtOk x) (hb : ∀ p ∈ ps, p ≤ 4294967295) :
    Calls Try.prog 8 #[v, vh, vp] w fun e w' => e = .returned (.tuple #[.int .i64 (sqV t hs ps).1, .int .i64 (sqV t hs ps).2, .bool true]) ∧ Below w.heap.size w w' := by
  obtain ⟨i0, hi, hz0, hz1, hz2⟩ := info_parts info_i64
  obtain ⟨_, iv, ov, rfl, hin, hou⟩ := h
  have TONE : Hid ((txL t iv ov).toArray.all (·.oneCell') = true) := tx_one hin hou
  have LT : Hid ((txL t iv ov).toArray.size = 4) := rfl
  have CO : Hid (∀ (W : World) (g : Nat), W.heap[g]? = some (.cells (txL t iv ov).toArray 35 (0, 0)) → W.cell? ⟨g, 0, none⟩ = some (.int .u32 (t.ver : Int)) ∧ W.cell? ⟨g, 1, none⟩ = some iv) := fun W g hg => ⟨(tx_cells hg).1, (tx_cells hg).2.1⟩
  obtain ⟨si, ci, rfl, _, hgi⟩ := hin
  obtain ⟨sh, ch, rfl⟩ := hh.shape
  obtain ⟨sp, cp, rfl⟩ := hp.shape
  simp only [List.length_map] at hh hp ⊢
  rw [hl1] at hh ⊢
  rw [hl2] at hp ⊢
  obtain ⟨n, hn⟩ : ∃ n, n = t.ins.length := ⟨_, rfl⟩
  rw [← hn] at hl1 hl2 hh hp hm CO TONE LT hgi ⊢
  have N := Lib.hid hn
  have HI := Lib.hid hgi
  have HH := Lib.hid hh
  have HP := Lib.hid hp
  have L1 := Lib.hid hl1
  have L2 := Lib.hid hl2
  have HPB := Lib.hid hb
  have HHO := Lib.hid hho
  have NM := Lib.hid hm
  obtain ⟨E, hE⟩ : ∃ E, E = needE t hs ps := ⟨_, rfl⟩
  have EL : Hid (E.length = n) := by show _ = _; rw [hE]; unfold needE; simp; omega
  have EG : Hid (∀ (i : Nat) (x : TIn) (h : Int) (p : Nat), t.ins[i]? = some x → hs[i]? = some h → ps[i]? = some p → E[i]? = some (x.seq, h, p)) := fun i x h p h1 h2 h3 => by rw [hE]; exact needE_get h1 h2 h3
  have NE : Hid (sqV t hs ps = if t.ver < 2 then (-1, -1) else (grI (hLs E), grI (pLs E))) := by rw [hE]; rfl
  obtain ⟨R, hR⟩ : ∃ R, R = sqV t hs ps := ⟨_, rfl⟩
  rw [← hR] at NE ⊢
  obtain ⟨vr, hvr⟩ : ∃ vr, vr = t.ver := ⟨_, rfl⟩
  rw [← hvr] at NE CO
  obtain ⟨ct, hct⟩ : ∃ ct, ct = txL t (.slice si n ci) ov := ⟨_, rfl⟩
  rw [← hct] at TONE LT CO ⊢
  clear hn hgi hh hp hl1 hl2 hE hR hvr hct hou hb hho hm
  go_enter Try.func8, Try.ntmps8
  go_upto_region 1 with fail
  have f3 := heap_alloc_new w (.cells ct.toArray 35 (0, 0))
  have b1 := (Below.refl w.heap.size w).alloc (Nat.le_refl _) (.cells ct.toArray 35 (0, 0))
  generalize hw1 : World.alloc _ _ = w1
  have e1 : w.alloc (.cells ct.toArray 35 (0, 0)) = w1 := hw1
  rw [e1] at f3 b1
  obtain ⟨g3, hg3⟩ : ∃ g3, g3 = w.heap.size := ⟨_, rfl⟩
  rw [← hg3] at f3 ⊢
  have F3 := Lib.hid f3
  have B1 := Lib.hid b1
  have c0 := (CO.out _ _ F3.out).1
  have c1 := (CO.out _ _ F3.out).2
  clear f3 b1 hw1 e1 hg3
  by_cases hv2 : vr < 2
  · have v2 : (vr : Int) < 2 := by omega
    have RE : Hid (R = (-1, -1)) := by show _ = _; rw [NE.out, if_pos hv2]
    clear hv2
    go_wp2_with fail
    refine bodyPost_ret (results_t3 rfl _ _) rfl ?_
    exact ⟨by rw [RE.out]; rfl, B1.out⟩
  · have v2 : ¬ (vr : Int) < 2 := by omega
    have RE : Hid (R = (grI (hLs E), grI (pLs E))) := by show _ = _; rw [NE.out, if_neg hv2]
    clear hv2
    go_wp2_with fail
    clear c0 c1
    go_loopw [9, 10, 34] (fun vh vp vi wr => SqI E n w1 vh vp vi wr) (fun _ _ vi _ => n - (intOf vi).toNat)
    case atStart => exact ⟨0, _, _, rfl, rfl, rfl, Nat.zero_le _, RwOwn.nil _ _ _ _, RwOwn.nil _ _ _ _, .inl rfl, Below.refl _ _⟩
    case round =>
      obtain ⟨i, ah, ap, rfl, rfl, rfl, hi2, h1, h2, hne, hb⟩ := hrel
      have AH := Lib.hid h1
      have AP := Lib.hid h2
      have NE2 := Lib.hid hne
      have B := Lib.hid hb
      have BB := Lib.hid (B1.out.trans (hb.mono B1.out.size))
      have F3R := row_below F3.out hb
      have c0 := (CO.out _ _ F3R).1
      have c1 := (CO.out _ _ F3R).2
      clear h1 h2 hne hb F3R
      by_cases hlt : i < n
      · obtain ⟨x, hx⟩ : ∃ x, t.ins[i]? = some x := ⟨_, List.getElem?_eq_getElem (by rw [← N.out]; exact hlt)⟩
        obtain ⟨hv, hhv⟩ : ∃ hv, hs[i]? = some hv := ⟨_, List.getElem?_eq_getElem (by rw [L1.out]; exact hlt)⟩
        obtain ⟨pv, hpv⟩ : ∃ pv, ps[i]? = some pv := ⟨_, List.getElem?_eq_getElem (by rw [L2.out]; exact hlt)⟩
        obtain ⟨bi, oi, rfl, hg⟩ := HI.out (by omega)
        have hin := (hg i x hx).below BB.out
        obtain ⟨ox, kv, hkv, hr⟩ := hin
        have IL : Hid ((inL x kv).toArray.size = 35) := by show _ = _; rw [List.size_toArray, inL_length x kv ox.1]
        have IR := Lib.hid hr
        have IO : Hid ((inL x kv).toArray.all (·.oneCell') = true) := in_one x kv (by obtain ⟨_, _, e⟩ := hkv.2; rw [e]; rfl)
        obtain ⟨bh, oh, rfl, hgh⟩ := (HH.out.below BB.out).get (by omega)
        have ch1 := int_cell (hgh i (intC hv) (by rw [List.getElem?_map, hhv]; rfl))
        obtain ⟨bp, op, rfl, hgp⟩ := (HP.out.below BB.out).get (by omega)
        have cp1 := u32_cell (hgp i (u32C pv) (by rw [List.getElem?_map, hpv]; rfl))
        have pb := HPB.out pv (List.mem_of_getElem? hpv)
        have hvb := HHO.out hv (List.mem_of_getElem? hhv)
        have EI := Lib.hid (EG.out i x hv pv hx hhv hpv)
        have SH := Lib.hid (sel_succ hSel EI.out)
        have SP := Lib.hid (sel_succ pSel EI.out)
        obtain ⟨sq, hsq⟩ : ∃ sq, sq = x.seq := ⟨_, rfl⟩
        have X34 : Hid ((inL x kv)[34]? = some (.int .u32 (sq : Int))) := by show _ = _; rw [inL, List.getElem?_append_right (by simp [ptL, ox.1]), hsq]; simp [ptL, ox.1, nV]
        have sb : sq ≤ 4294967295 := by rw [hsq]; exact ox.2.2
        rw [← hsq] at SH SP
        have LX : Hid ((inL x kv).length = 35) := inL_length x kv ox.1
        obtain ⟨cs, hcs⟩ : ∃ cs, cs = inL x kv := ⟨_, rfl⟩
        rw [← hcs] at X34 IL IR IO LX
        have bm : bits .and .u32 (sq : Int) 65535 = ((sq &&& 65535 : Nat) : Int) := bits_nat (b := 65535) sb (by omega)
        have bl : bits .and .u32 (sq : Int) 2147483648 = ((sq &&& 2147483648 : Nat) : Int) := bits_nat (b := 2147483648) sb (by omega)
        have bt : bits .and .u32 (sq : Int) 4194304 = ((sq &&& 4194304 : Nat) : Int) := bits_nat (b := 4194304) sb (by omega)
        have nb : (sq &&& 65535) ≤ 65535 := Nat.and_le_right
        have HS : Hid (hSel (sq, hv, pv) = if lockB sq then none else if timeB sq then none else some (hv + (spanN sq : Int) - 1)) := rfl
        have PS : Hid (pSel (sq, hv, pv) = if lockB sq then none else if timeB sq then some ((pv : Int) + 512 * (spanN sq : Int) - 1) else none) := rfl
        have LB : Hid (lockB sq = decide (sq &&& 2147483648 ≠ 0)) := rfl
        have TB : Hid (timeB sq = decide (sq &&& 4194304 ≠ 0)) := rfl
        have SN : spanN sq = sq &&& 65535 := rfl
        rw [SN] at HS PS
        obtain ⟨nn, hnn⟩ : ∃ nn, nn = sq &&& 65535 := ⟨_, rfl⟩
        rw [← hnn] at bm nb HS PS
        obtain ⟨lk, hlk⟩ : ∃ lk, lk = sq &&& 2147483648 := ⟨_, rfl⟩
        rw [← hlk] at bl LB
        obtain ⟨tk, htk⟩ : ∃ tk, tk = sq &&& 4194304 := ⟨_, rfl⟩
        rw [← htk] at bt TB
        have DAH : Hid (((hLs (E.take i)).map intC).length ≤ 1000000) := by show _ ≤ _; rw [List.length_map]; have h1 := sel_length hSel (E.take i); rw [List.length_take] at h1; have := NM.out; exact Nat.le_trans h1 (by omega)
        have DAP : Hid (((pLs (E.take i)).map intC).length ≤ 1000000) := by show _ ≤ _; rw [List.length_map]; have h1 := sel_length pSel (E.take i); rw [List.length_take] at h1; have := NM.out; exact Nat.le_trans h1 (by omega)
        have hm := NM.out
        have p0 : 0 ≤ (i : Int) := by omega
        have p1 : (i : Int) < (n : Int) := by omega
        have hv1 : -1 ≤ hv := hvb.1
        have hv2 : hv ≤ 1099511627776 := hvb.2
        have HB1 := Lib.hid hv1
        have HB2 := Lib.hid hv2
        have PB1 := Lib.hid pb
        clear hx hhv hpv hg hr ox hgh hgp hsq hnn hlk htk hcs hkv SN hvb hv1 hv2 pb sb
        obtain ⟨g5, hg5⟩ : ∃ g5, g5 = wr.heap.size := ⟨_, rfl⟩
        obtain ⟨_, f2, f3, f4⟩ := fill_setup (Below.refl wr.heap.size wr) (List.replicate 32 (bV 0) ++ [nV 0, .slice none 0 0, nV 0]).toArray cs.toArray 31
        go_upto_region 9 with ((with_reducible show wpList _ _ _ _ _ _); first | (refine wpList_load_mid rfl 31 (.tmp 37) rfl bi (oi + i * 35) rfl cs _ IR.out Try.underlying31 rfl (by rw [LX.out]; kernel_rfl) ?_; go_frame) | (refine wpList_store_row rfl 31 (.tmp 12) (.tmp 38) rfl wr.heap.size cs.toArray rfl rfl 31 _ (heap_alloc_new _ _) (by rw [IL.out]; kernel_rfl) (by rw [IL.out]; rfl) IO.out ?_; go_frame))
        rw [← hg5] at f2 f3 f4 ⊢
        generalize hw5 : World.setRow _ _ _ = w5
        have e5 : World.setRow (wr.alloc (.cells (List.replicate 32 (bV 0) ++ [nV 0, .slice none 0 0, nV 0]).toArray 31)) g5 cs.toArray = w5 := hw5
        rw [e5] at f2 f4
        rw [hg5] at f4
        have c5 : w5.cell? ⟨g5, 34, none⟩ = some (.int .u32 (sq : Int)) := by rw [cell_of_row _ _ _ _ _ _ f2, List.getElem?_toArray]; exact X34.out
        have B5 := Lib.hid (B.out.trans (f4.mono B.out.size))
        have AH5 := Lib.hid (AH.out.keep f4)
        have AP5 := Lib.hid (AP.out.keep f4)
        have ch5 := cell_below ch1 f4
        have cp5 := cell_below cp1 f4
        clear f2 f3 f4 hg5 hw5 e5 c0 c1 ch1 cp1 IR B AH AP
        by_cases hl0 : lk = 0
        · have l0 : ((lk : Int) != 0) = false := by simp; omega
          have LF : Hid (lockB sq = false) := by show _ = _; rw [LB.out]; simpa using hl0
          clear hl0
          by_cases ht0 : tk = 0
          · have t0 : ((tk : Int) != 0) = false := by simp; omega
            have TF : Hid (timeB sq = false) := by show _ = _; rw [TB.out]; simpa using ht0
            clear ht0
            have hv1 := HB1.out
            have hv2 := HB2.out
            have m1 : IntKind.i64.wrap (hv + (nn : Int)) = hv + (nn : Int) := IntWalk.i64_in _ (by omega)
            have m2 : IntKind.i64.wrap (hv + (nn : Int) - 1) = hv + (nn : Int) - 1 := IntWalk.i64_in _ (by omega)
            have SV : Hid (hLs (E.take (i + 1)) = hLs (E.take i) ++ [hv + (nn : Int) - 1]) := by show _ = _; unfold hLs; rw [SH.out, HS.out, LF.out, TF.out]; rfl
            have SW : Hid (pLs (E.take (i + 1)) = pLs (E.take i)) := by show _ = _; unfold pLs; rw [SP.out, PS.out, LF.out, TF.out]; simp
            go_wp2_with (at_builtin; refine wpList_append_own_at _ rfl _ _ 44 rfl w1.heap.size 2 i0 (.int .i64 0) 1 8 Try.underlying44 hi hz0 hz1 hz2 rfl (by decide) ah _ ((hLs (E.take i)).map intC).flatten rfl (AH5.out.1.alloc _) ⟨w5.heap.size, 0, none⟩ 1 1 [.int .i64 (hv + (nn : Int) - 1)] rfl rfl (cell_one_new _ _ _) (intC_one _) (by have := DAH.out; unfold maxLen; omega) (by have := DAH.out; omega) (by have := B5.out.size; simp; omega) ?_; intro v3 w3 q1 q2 _ q4; have NV : Hid (RwOwn 1 2 w1.heap.size w3 v3 ((hLs (E.take i)).map intC ++ [intC (hv + (nn : Int) - 1)])) := RwOwn.push AH5.out.2 rfl q1; have B6 := Lib.hid (own_grown (B5.out.alloc B5.out.size _) (Nat.le_refl _) (by have := B5.out.size; simp; omega) (AH5.out.1.alloc _) q2); have al := (Below.refl w5.heap.size w5).alloc (Nat.le_refl _) (.cells #[.int .i64 (hv + (nn : Int) - 1)] 2 (0, 0)); have OV := Lib.hid ((AP5.out.keep al).kept q2 (ne_swap NE2.out)); have NN : Hid (ap.ownBlock = none ∨ ap.ownBlock ≠ v3.ownBlock) := ne_new (ne_swap NE2.out) q4 (fun q hq => ((AP5.out.keep al).1.lt q hq).2); clear q1 q2 q4 al; go_frame)
            go_roundw
            case rel =>
              refine ⟨i + 1, _, _, rfl, rfl, by go_num, by omega, ?_, ?_, ne_swap NN.out, B6.out⟩
              · rw [SV.out, List.map_append]; exact NV.out
              · rw [SW.out]; exact OV.out
            case measure => simp [intOf] <;> omega
          · have t0 : ((tk : Int) != 0) = true := by simp; omega
            have TF : Hid (timeB sq = true) := by show _ = _; rw [TB.out]; simpa using ht0
            clear ht0
            have pb := PB1.out
            have m1 : IntKind.i64.wrap (512 * (nn : Int)) = 512 * (nn : Int) := IntWalk.i64_in _ (by omega)
            have m2 : IntKind.i64.wrap ((pv : Int) + 512 * (nn : Int)) = (pv : Int) + 512 * (nn : Int) := IntWalk.i64_in _ (by omega)
            have m3 : IntKind.i64.wrap ((pv : Int) + 512 * (nn : Int) - 1) = (pv : Int) + 512 * (nn : Int) - 1 := IntWalk.i64_in _ (by omega)
            have SV : Hid (pLs (E.take (i + 1)) = pLs (E.take i) ++ [(pv : Int) + 512 * (nn : Int) - 1]) := by show _ = _; unfold pLs; rw [SP.out, PS.out, LF.out, TF.out]; rfl
            have SW : Hid (hLs (E.take (i + 1)) = hLs (E.take i)) := by show _ = _; unfold hLs; rw [SH.out, HS.out, LF.out, TF.out]; simp
            go_wp2_with (at_builtin; refine wpList_append_own_at _ rfl _ _ 44 rfl w1.heap.size 2 i0 (.int .i64 0) 1 8 Try.underlying44 hi hz0 hz1 hz2 rfl (by decide) ap _ ((pLs (E.take i)).map intC).flatten rfl (AP5.out.1.alloc _) ⟨w5.heap.size, 0, none⟩ 1 1 [.int .i64 ((pv : Int) + 512 * (nn : Int) - 1)] rfl rfl (cell_one_new _ _ _) (intC_one _) (by have := DAP.out; unfold maxLen; omega) (by have := DAP.out; omega) (by have := B5.out.size; simp; omega) ?_; intro v3 w3 q1 q2 _ q4; have NV : Hid (RwOwn 1 2 w1.heap.size w3 v3 ((pLs (E.take i)).map intC ++ [intC ((pv : Int) + 512 * (nn : Int) - 1)])) := RwOwn.push AP5.out.2 rfl q1; have B6 := Lib.hid (own_grown (B5.out.alloc B5.out.size _) (Nat.le_refl _) (by have := B5.out.size; simp; omega) (AP5.out.1.alloc _) q2); have al := (Below.refl w5.heap.size w5).alloc (Nat.le_refl _) (.cells #[.int .i64 ((pv : Int) + 512 * (nn : Int) - 1)] 2 (0, 0)); have OV := Lib.hid ((AH5.out.keep al).kept q2 NE2.out); have NN : Hid (ah.ownBlock = none ∨ ah.ownBlock ≠ v3.ownBlock) := ne_new NE2.out q4 (fun q hq => ((AH5.out.keep al).1.lt q hq).2); clear q1 q2 q4 al; go_frame)
            go_roundw
            case rel =>
              refine ⟨i + 1, _, _, rfl, rfl, by go_num, by omega, ?_, ?_, NN.out, B6.out⟩
              · rw [SW.out]; exact OV.out
              · rw [SV.out, List.map_append]; exact NV.out
            case measure => simp [intOf] <;> omega
        · have l0 : ((lk : Int) != 0) = true := by simp; omega
          have LF : Hid (lockB sq = true) := by show _ = _; rw [LB.out]; simpa using hl0
          clear hl0
          have SV : Hid (pLs (E.take (i + 1)) = pLs (E.take i)) := by show _ = _; unfold pLs; rw [SP.out, PS.out, LF.out]; simp
          have SW : Hid (hLs (E.take (i + 1)) = hLs (E.take i)) := by show _ = _; unfold hLs; rw [SH.out, HS.out, LF.out]; simp
          go_wp2_with fail
          go_roundw
          case rel => exact ⟨i + 1, _, _, rfl, rfl, by go_num, by omega, by rw [SW.out]; exact AH5.out, by rw [SV.out]; exact AP5.out, NE2.out, B5.out⟩
          case measure => simp [intOf] <;> omega
      · have hin : i = n := by omega
        have TE : Hid (E.take i = E) := List.take_of_length_le (by rw [EL.out, hin]; exact Nat.le_refl _)
        have LE1 : Hid ((hLs E).length ≤ 4611686018427387904) := by show _ ≤ _; have h1 := sel_length hSel E; rw [EL.out] at h1; have := NM.out; exact Nat.le_trans h1 (by omega)
        have LE2 : Hid ((pLs E).length ≤ 4611686018427387904) := by show _ ≤ _; have h1 := sel_length pSel E; rw [EL.out] at h1; have := NM.out; exact Nat.le_trans h1 (by omega)
        rw [TE.out] at AH AP
        have G1 : Hid (∀ W, Below wr.heap.size wr W → Calls Try.prog 10 #[ah] W fun e w' => e = .returned (.int .i64 (grI (hLs E))) ∧ Below W.heap.size W w') := fun W hW => sqgreat_any _ _ W ((AH.out.keep hW).at (by decide)) LE1.out
        have G2 : Hid (∀ W, Below wr.heap.size wr W → Calls Try.prog 10 #[ap] W fun e w' => e = .returned (.int .i64 (grI (pLs E))) ∧ Below W.heap.size W w') := fun W hW => sqgreat_any _ _ W ((AP.out.keep hW).at (by decide)) LE2.out
        have i1 : ¬ (i : Int) < (n : Int) := by omega
        clear hin hlt
        go_wp2_with fail
        refine (G1.out _ (Below.refl _ _)).mono ?_
        rintro e w3 ⟨rfl, bb⟩
        have B3 := Lib.hid bb
        clear bb
        go_wp2_with fail
        refine (G2.out _ B3.out).mono ?_
        rintro e w4 ⟨rfl, bb⟩
        have B4 := Lib.hid (BB.out.trans ((B3.out.trans (bb.mono B3.out.size)).mono BB.out.size))
        clear bb
        go_wp2_with fail
        refine bodyPost_ret (results_t3 rfl _ _) rfl ?_
        exact ⟨by rw [RE.out]; rfl, B4.out⟩
end Go.Proofs.Ytmdbhpkfldnodaa.Sha

/-
  What literals of transactions, inputs, outputs and places lay. No conditions beyond those that each states.
-/
namespace Go.Proofs.Ytmdbhpkfldnodaa.Sha
open Go Go.RowKit
def zH : List UInt8 := List.replicate 32 0
theorem zH_length : zH.length = 32 := rfl
end Go.Proofs.Ytmdbhpkfldnodaa.Sha

/-
  Rows of one or two inputs, or outputs, as slices; what is amiss with transactions of few inputs. Conditions: those that each states.
-/
namespace Go.Proofs.Ytmdbhpkfldnodaa.Sha
open Go Go.RowKit
theorem insAt_one {w : World} {g : Nat} {x : TIn} {kv : Value} {fr : Nat × Nat} (h : w.heap[g]? = some (.cells (inL x kv).toArray 31 fr)) (hx : InOk x) (hk : KeyAt w kv x.key) : InsAt w (.slice (some ⟨g, 0, none⟩) 1 1) [x] :=
  ⟨_, 1, rfl, Nat.le_refl _, fun _ => ⟨g, 0, rfl, fun i y hy => by
    have hi := (List.getElem?_eq_some_iff.1 hy).1
    simp at hi
    subst hi
    simp only [List.getElem?_cons_zero, Option.some.injEq] at hy
    subst hy
    exact ⟨hx, kv, hk, range_of_box h⟩⟩⟩
theorem nil_key (w : World) : KeyAt w (.slice none 0 0) [] := ⟨.inl ⟨_, _, rfl, rfl⟩, _, _, rfl⟩
end Go.Proofs.Ytmdbhpkfldnodaa.Sha
