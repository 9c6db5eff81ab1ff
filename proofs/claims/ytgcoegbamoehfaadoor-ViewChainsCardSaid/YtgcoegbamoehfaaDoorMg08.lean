/-
  Texts of this proof joined into one file: CmpRead, CmpRead2, CmpHash, RdrState, NumMath, Par, TxRead2, TxTakeM, TxTakeIn, TxTakeW0, TxBuilds, VwAt, CnSpend. What each holds, and under which conditions, its own first sentence tells.
-/
import Derived.Deep.RegionLaw
import Derived.Maps.AppendAt
import Derived.Lib.OwnKind
import Derived.Lib.SmallJoins
import Derived.Test.YtgcoegbamoehfaaDoorMg04
import Derived.Test.YtgcoegbamoehfaaDoorMg07
import Derived.Test.YtgcoegbamoehfaaDoorMg03
import Derived.Test.YtgcoegbamoehfaaDoorMg01
import Derived.Test.YtgcoegbamoehfaaDoorMg06
/-
  A Reader's Num, Four, Eight, Bytes and Hash answer what the chapter says, and leave what it says. Conditions: the Reader stands as it should; the three errors are there.
-/
namespace Go.Proofs.YtgcoegbamoehfaaDoor.Sha
open Go Go.RowKit
/-- The three errors, none of them at block r. -/
def ErR (w : World) (E : Nat → Addr) (r : Nat) : Prop := Er w E ∧ 4 ≠ r ∧ 5 ≠ r ∧ 7 ≠ r
theorem ErR.grown {w w' : World} {E : Nat → Addr} {r : Nat} (h : ErR w E r) (hg : w.grownBy w' (some r)) : ErR w' E r := by
  obtain ⟨⟨a, b, c⟩, p, q, s⟩ := h
  exact ⟨⟨hg.cell a (fun e => p (Option.some.inj e)), hg.cell b (fun e => q (Option.some.inj e)), hg.cell c (fun e => s (Option.some.inj e))⟩, p, q, s⟩
theorem ErR.below {w w' : World} {E : Nat → Addr} {r : Nat} (h : ErR w E r) (hb : Below w.heap.size w w') : ErR w' E r := ⟨h.1.below hb, h.2⟩
theorem takeL_le (k : Nat) (bs : List UInt8) (c : Nat) : (takeL k bs c).1.length ≤ k := by
  unfold takeL
  split
  · simp
  · split
    · simp
    · simp [List.length_take]; omega
/-- What Num answers, leaves and meets. -/
def numL (most : Nat) (bs : List UInt8) (c : Nat) : Nat × List UInt8 × Nat :=
  let t := takeL 1 bs c
  let k := widN (leN t.1)
  let u := if k = 0 then t else takeL k t.2.1 t.2.2
  if u.2.2 ≠ 0 then (0, u.2.1, u.2.2) else if lenN (leN u.1) ≠ 1 + k then (0, u.2.1, 2) else if most < leN u.1 then (0, u.2.1, 4) else (leN u.1, u.2.1, 0)
theorem widN_le (n : Nat) : widN n ≤ 8 := by unfold widN; split <;> (try split) <;> (try split) <;> omega
end Go.Proofs.YtgcoegbamoehfaaDoor.Sha

/-
  A Reader's Four, Eight and Bytes answer what the chapter says, and leave what it says; Hash behind an error answers no digest. Conditions: the Reader stands as it should; the three errors are there.
-/
namespace Go.Proofs.YtgcoegbamoehfaaDoor.Sha
open Go Go.RowKit
theorem grownBy_below' {w w1 w2 : World} {row : Option Nat} (h : w.grownBy w1 row) (hb : Below w1.heap.size w1 w2) : w.grownBy w2 row := grownBy_trans h (grownBy_of_below hb row)
end Go.Proofs.YtgcoegbamoehfaaDoor.Sha

/-
  A Reader's Hash answers the next 32 bytes, or no digest, and leaves what the chapter says. Conditions: the Reader stands as it should; the three errors are there.
-/
namespace Go.Proofs.YtgcoegbamoehfaaDoor.Sha
open Go Go.RowKit
/-- Bytes filled up to a digest's 32. -/
def padH (x : List UInt8) : List UInt8 := x ++ List.replicate (32 - x.length) 0
theorem padH_length {x : List UInt8} (h : x.length ≤ 32) : (padH x).length = 32 := by simp [padH]; omega
theorem splice_zero (x : List UInt8) (_ : x.length ≤ 32) : splice (List.replicate 32 (bV 0)) 0 (x.map bV) = (padH x).map bV := by
  have e : List.drop x.length (List.replicate 32 (bV 0)) = List.replicate (32 - x.length) (bV 0) := List.drop_replicate ..
  unfold splice padH
  rw [List.length_map, Nat.zero_add, e, List.take_zero, List.nil_append, List.map_append, List.map_replicate]
theorem hash_end {w w1 w2 : World} {r : Nat} {o : Obj} (_ : r < w.heap.size) (g1 : (w.alloc o).drew.grownBy w1 (some r)) (h : Below w.heap.size w1 w2) : w.grownBy w2 (some r) := by
  refine ⟨h.os.trans g1.os, h.tape.trans g1.tape, h.output.trans g1.output, ?_, fun k hk hne => ?_⟩
  · have h1 := g1.size
    have h2 := h.size
    have h3 : (w.alloc o).drew.heap.size = w.heap.size + 1 := by simp [World.drew]
    omega
  · rw [h.block k hk, g1.block k (by simp [World.drew]; omega) hne]
    exact ((Below.refl w.heap.size w).alloc (Nat.le_refl _) o).drew.block k hk
theorem grown_then {w w2 w3 : World} {r : Nat} (h : w.grownBy w2 (some r)) (hb : Below w.heap.size w2 w3) : w.grownBy w3 (some r) :=
  ⟨hb.os.trans h.os, hb.tape.trans h.tape, hb.output.trans h.output, Nat.le_trans h.size hb.size, fun k hk hne => by rw [hb.block k hk]; exact h.block k hk hne⟩
theorem hash_row {w w1 : World} {r : Nat} {o : Obj} (hr : r < w.heap.size) (g1 : (w.alloc o).drew.grownBy w1 (some r)) : w1.heap[w.heap.size]? = some o := by
  rw [g1.block w.heap.size (by simp [World.drew]) (fun e => by have := Option.some.inj e; omega)]
  exact heap_alloc_new _ _
theorem src_cells {w : World} {sp : Option Addr} {n cap : Nat} {bs : List UInt8} (h : SrcB w (.slice sp n cap) bs) (g off : Nat) (h0 : 0 < (bs.map bV).length) : (some ⟨g, off, none⟩ : Option Addr) = some ⟨g, off, none⟩ ∧ ∃ ad, sp = some ad ∧ ∀ j v, (bs.map bV)[j]? = some v → w.cell? (ad.add j) = some v := by
  refine ⟨rfl, ?_⟩
  rcases h with ⟨sp', cap', hv, rfl⟩ | ⟨h1, bb, o, cap', hv, _, hc⟩
  · simp at h0
  · cases hv
    refine ⟨_, rfl, fun j v hj => ?_⟩
    rw [List.getElem?_map] at hj
    obtain ⟨b, hb, rfl⟩ := Option.map_eq_some_iff.1 hj
    have hlt := (List.getElem?_eq_some_iff.1 hb).1
    rw [Addr.add_mid, hc j hlt]
    simp [bV, List.getD, hb]
theorem copy_fact {w1 : World} {g n cap : Nat} {sp : Option Addr} {x : List UInt8} {T : TypeId} (hs : SrcB w1 (.slice sp n cap) x) (hn : n = x.length) (hx : x.length ≤ 32) (hg : w1.heap[g]? = some (.cells (List.replicate 32 (bV 0)).toArray T (0, 0))) :
    ∃ w2, (∀ ty, (Builtin.copy_ #[41, 41] ty #[.slice (some ⟨g, 0, none⟩) 32 32, .slice sp n cap]).run Tryd.prog w1 = .ok (goInt n) w2) ∧ w2.heap[g]? = some (.cells ((padH x).map bV).toArray T (0, 0)) ∧ Below g w1 w2 := by
  have hsz : (Tryd.prog.info? 5).map (·.size) = some 1 := by kernel_rfl
  have hmin : Nat.min n 32 = n := Nat.min_eq_left (by omega)
  by_cases h0 : n = 0
  · have hx0 : x = [] := List.eq_nil_of_length_eq_zero (by omega)
    refine ⟨w1, fun ty => ?_, ?_, Below.refl _ _⟩
    · rw [h0]
      exact run_copy_none w1 41 41 ty 5 (some ⟨g, 0, none⟩) sp 32 32 0 cap Tryd.underlying41 hsz rfl
    · rw [hx0, hg]
      simp [padH]
  · obtain ⟨-, ad, rfl, hc⟩ := src_cells hs g 0 (by simp; omega)
    refine ⟨_, fun ty => ?_, setRow_heap w1 g _ _ _ _ hg, below_setRow (Below.refl _ _) (Nat.le_refl _) _⟩
    have h := run_copy_row (P := Tryd.prog) w1 41 41 ty 5 g 0 32 32 ad n cap _ T (x.map bV) Tryd.underlying41 hsz hg (by rw [List.length_map, hmin, hn]) hc (by simp; omega) (bV_one' _)
    have e := splice_zero x hx
    unfold splice at e
    rw [List.length_map] at e h
    rw [← hn] at h e
    rw [← List.append_assoc] at e
    simp only [] at h
    rw [e] at h
    exact h
end Go.Proofs.YtgcoegbamoehfaaDoor.Sha

/-
  A Reader in a walk: how it stands behind each step, whatever else makes memory. Conditions: those that each states.
-/
namespace Go.Proofs.YtgcoegbamoehfaaDoor.Sha
open Go Go.RowKit
variable {E : Nat → Addr} {m r c d : Nat} {W w w' : World} {bs b : List UInt8}
/-- A literal of bytes. -/
theorem lit_src {w : World} (l : List UInt8) (T : TypeId) (h0 : 0 < l.length) : SrcB (w.alloc (.cells (l.map bV).toArray T)) (.slice (some ⟨w.heap.size, 0, none⟩) l.length l.length) l := src_row rfl h0 (heap_alloc_new _ _)
theorem mask_nat (n k : Nat) (hn : n < 18446744073709551616) (hk : 2 ^ k - 1 < 18446744073709551616) : bits .and .u64 (n : Int) ((2 ^ k - 1 : Nat) : Int) = ((n % 2 ^ k : Nat) : Int) := by
  rw [u64_and_nat _ _ hn hk, Nat.and_two_pow_sub_one_eq_mod]
/-- A row that is not the Reader's. -/
theorem row_grown {w w' : World} {g r : Nat} {o : Obj} (h : w.heap[g]? = some o) (hg : w.grownBy w' (some r)) (hne : r < g) : w'.heap[g]? = some o := by
  rw [hg.block g (Array.getElem?_eq_some_iff.1 h).1 (fun e => by have := Option.some.inj e; omega)]
  exact h
theorem takeL_err (k : Nat) (bs : List UInt8) (c : Nat) (h : c ≠ 0) : takeL k bs c = ([], bs, c) := by unfold takeL; rw [if_pos h]
theorem takeL_end (k : Nat) (bs : List UInt8) (h : bs.length < k) : takeL k bs 0 = ([], bs, 1) := by unfold takeL; rw [if_neg (by omega), if_pos h]
theorem takeL_ok (k : Nat) (bs : List UInt8) (h : k ≤ bs.length) : takeL k bs 0 = (bs.take k, bs.drop k, 0) := by unfold takeL; rw [if_neg (by omega), if_neg (by omega)]
theorem takeL_app (xs ys : List UInt8) (k : Nat) (h : xs.length = k) : takeL k (xs ++ ys) 0 = (xs, ys, 0) := by
  subst h
  rw [takeL_ok _ _ (by simp)]
  simp
theorem numL_err (most : Nat) (bs : List UInt8) (c : Nat) (h : c ≠ 0) : numL most bs c = (0, bs, c) := by
  have e : widN (leN []) = 0 := rfl
  unfold numL
  simp only [takeL_err _ _ _ h, e, if_pos]
  rw [if_pos h]
end Go.Proofs.YtgcoegbamoehfaaDoor.Sha

/-
  Plain mathematics of a Reader's Num: what it answers of bytes that Put wrote, that are cut off, that are too many. No conditions beyond those that each states.
-/
namespace Go.Proofs.YtgcoegbamoehfaaDoor.Sha
open Go Go.RowKit
theorem leN_one (x : UInt8) : leN [x] = x.toNat := by simp [leN]
theorem takeL_one (x : UInt8) (ys : List UInt8) : takeL 1 (x :: ys) 0 = ([x], ys, 0) := takeL_app [x] ys 1 rfl
/-- A mark, and the bytes that it asks for. -/
theorem numL_mark (most : Nat) (f : UInt8) (k : Nat) (xs tail : List UInt8) (hk : widN f.toNat = k) (h0 : 0 < k) (hl : xs.length = k) :
    numL most (f :: (xs ++ tail)) 0 = if lenN (leN xs) ≠ 1 + k then (0, tail, 2) else if most < leN xs then (0, tail, 4) else (leN xs, tail, 0) := by
  have hk0 : ¬ k = 0 := by omega
  unfold numL
  simp only [takeL_one, leN_one, hk, if_neg hk0, takeL_app xs tail k hl]
  rw [if_neg (show ¬ (0 : Nat) ≠ 0 by omega)]
/-- A mark, and too few bytes behind it. -/
theorem numL_short (most : Nat) (f : UInt8) (k : Nat) (xs : List UInt8) (hk : widN f.toNat = k) (hl : xs.length < k) : numL most (f :: xs) 0 = (0, xs, 1) := by
  have hk0 : ¬ k = 0 := by omega
  unfold numL
  simp only [takeL_one, leN_one, hk, if_neg hk0, takeL_end k xs hl]
  rw [if_pos (show (1 : Nat) ≠ 0 by omega)]
theorem numL_nil (most : Nat) : numL most [] 0 = (0, [], 1) := by
  unfold numL
  have e : takeL 1 [] 0 = ([], [], 1) := takeL_end 1 [] (by simp)
  have e2 : widN (leN []) = 0 := rfl
  simp only [e, e2, if_pos]
  rw [if_pos (by omega)]
/-- A first byte that is the number. -/
theorem numL_small (most : Nat) (f : UInt8) (tail : List UInt8) (hf : f.toNat < 253) : numL most (f :: tail) 0 = if most < f.toNat then (0, tail, 4) else (f.toNat, tail, 0) := by
  have hk : widN f.toNat = 0 := by unfold widN; rw [if_neg (by omega), if_neg (by omega), if_neg (by omega)]
  have hl : lenN f.toNat = 1 := by unfold lenN; rw [if_pos hf]
  unfold numL
  simp only [takeL_one, leN_one, hk, if_pos]
  rw [if_neg (show ¬ (0 : Nat) ≠ 0 by omega), hl, if_neg (show ¬ (1 : Nat) ≠ 1 + 0 by omega)]
/-- What Put wrote is read again. -/
theorem numL_put (most n : Nat) (tail : List UInt8) (hn : n ≤ 18446744073709551615) : numL most (putL n ++ tail) 0 = if most < n then (0, tail, 4) else (n, tail, 0) := by
  unfold putL
  by_cases h1 : n < 253
  · rw [if_pos h1]
    have e : (UInt8.ofNat n).toNat = n := by rw [UInt8.toNat_ofNat']; omega
    have h := numL_small most (UInt8.ofNat n) tail (by omega)
    rw [e] at h
    exact h
  rw [if_neg h1]
  by_cases h2 : n ≤ 65535
  · rw [if_pos h2]
    have e : leN (leB n 2) = n := leN_leB_of (by omega)
    have hl : lenN n = 3 := by unfold lenN; rw [if_neg h1, if_pos h2]
    have h := numL_mark most 253 2 (leB n 2) tail rfl (by omega) (leB_length n 2)
    rw [e, hl, if_neg (by omega)] at h
    exact h
  rw [if_neg h2]
  by_cases h3 : n ≤ 4294967295
  · rw [if_pos h3]
    have e : leN (leB n 4) = n := leN_leB_of (by omega)
    have hl : lenN n = 5 := by unfold lenN; rw [if_neg h1, if_neg h2, if_pos h3]
    have h := numL_mark most 254 4 (leB n 4) tail rfl (by omega) (leB_length n 4)
    rw [e, hl, if_neg (by omega)] at h
    exact h
  · rw [if_neg h3]
    have e : leN (leB n 8) = n := leN_leB_of (by omega)
    have hl : lenN n = 9 := by unfold lenN; rw [if_neg h1, if_neg h2, if_neg h3]
    have h := numL_mark most 255 8 (leB n 8) tail rfl (by omega) (leB_length n 8)
    rw [e, hl, if_neg (by omega)] at h
    exact h
/-- What Put wrote, cut off: it ends too early. -/
theorem numL_cut (most n k : Nat) (hk : k < lenN n) : ∃ b, numL most ((putL n).take k) 0 = (0, b, 1) := by
  cases k with
  | zero => exact ⟨[], by rw [List.take_zero]; exact numL_nil most⟩
  | succ k =>
    rcases lenN_eq n with ⟨e, _⟩ | ⟨e, p⟩ | ⟨e, p⟩ | ⟨e, p⟩
    · omega
    · rw [p, List.take_succ_cons]
      exact ⟨_, numL_short most 253 2 _ rfl (by rw [List.length_take, leB_length]; omega)⟩
    · rw [p, List.take_succ_cons]
      exact ⟨_, numL_short most 254 4 _ rfl (by rw [List.length_take, leB_length]; omega)⟩
    · rw [p, List.take_succ_cons]
      exact ⟨_, numL_short most 255 8 _ rfl (by rw [List.length_take, leB_length]; omega)⟩
end Go.Proofs.YtgcoegbamoehfaaDoor.Sha

/-
  Plain mathematics of readers of bytes, one behind the other: what was written is read again; cut off it ends too early; what is read has just these bytes. No conditions beyond those that each states.
-/
namespace Go.Proofs.YtgcoegbamoehfaaDoor.Sha
open Go Go.RowKit
/-- A reader of bytes: what it answers, what it leaves, what it met. -/
abbrev Par (α : Type) := List UInt8 → Nat → α × List UInt8 × Nat
def thenP {α β : Type} (p : Par α) (q : α → Par β) : Par β := fun bs c => q (p bs c).1 (p bs c).2.1 (p bs c).2.2
def mapP {α β : Type} (f : α → β) (p : Par α) : Par β := fun bs c => (f (p bs c).1, (p bs c).2)
def manyP {α : Type} (p : Par α) : Nat → Par (List α)
  | 0, bs, c => ([], bs, c)
  | n + 1, bs, c => if c ≠ 0 then ([], bs, c) else thenP p (fun a => mapP (a :: ·) (manyP p n)) bs c
/-- Bytes that it reads whole, whatever stands behind; cut off, they end too early. -/
def Good {α : Type} (p : Par α) (a : α) (x : List UInt8) : Prop := (∀ y, p (x ++ y) 0 = (a, y, 0)) ∧ ∀ k, k < x.length → (p (x.take k) 0).2.2 = 1
/-- An error stays. -/
def Stay {α : Type} (p : Par α) : Prop := ∀ bs c, c ≠ 0 → (p bs c).2.2 = c
/-- What is read stands so to the bytes that it was read from. -/
def BackR {α : Type} (p : Par α) (R : α → List UInt8 → Prop) : Prop := ∀ bs a r, p bs 0 = (a, r, 0) → ∃ x, bs = x ++ r ∧ R a x
section
variable {α β : Type} {p : Par α} {q : α → Par β} {a : α} {b : β} {x y : List UInt8}
theorem Good.andThen (h1 : Good p a x) (h2 : Good (q a) b y) (hs : ∀ a, Stay (q a)) : Good (thenP p q) b (x ++ y) := by
  refine ⟨fun z => ?_, fun k hk => ?_⟩
  · unfold thenP
    rw [List.append_assoc, h1.1]
    exact h2.1 z
  · by_cases h : k < x.length
    · rw [List.take_append_of_le_length (by omega)]
      unfold thenP
      rw [h1.2 k h]
      exact hs _ _ 1 (by omega)
    · rw [List.take_append, List.take_of_length_le (by omega)]
      unfold thenP
      rw [h1.1]
      exact h2.2 (k - x.length) (by rw [List.length_append] at hk; omega)
theorem Good.map (f : α → β) (h : Good p a x) : Good (mapP f p) (f a) x :=
  ⟨fun z => by unfold mapP; rw [h.1], fun k hk => h.2 k hk⟩
theorem Stay.andThen (h1 : Stay p) (h2 : ∀ a, Stay (q a)) : Stay (thenP p q) := fun bs c hc => by
  unfold thenP
  have e := h1 bs c hc
  rw [h2 _ _ _ (by rw [e]; exact hc), e]
theorem Stay.map (f : α → β) (h : Stay p) : Stay (mapP f p) := fun bs c hc => h bs c hc
theorem BackR.andThen {R : α → List UInt8 → Prop} {S : α → β → List UInt8 → Prop} (h1 : BackR p R) (h2 : ∀ a, BackR (q a) (S a)) (hs : ∀ a, Stay (q a)) : BackR (thenP p q) (fun b z => ∃ a x y, z = x ++ y ∧ R a x ∧ S a b y) := by
  intro bs b r h
  unfold thenP at h
  have hc : (p bs 0).2.2 = 0 := by
    by_cases h0 : (p bs 0).2.2 = 0
    · exact h0
    · have e := hs (p bs 0).1 (p bs 0).2.1 (p bs 0).2.2 h0
      rw [h] at e
      exact e.symm
  rw [hc] at h
  obtain ⟨x, e1, r1⟩ := h1 bs (p bs 0).1 (p bs 0).2.1 (Prod.ext rfl (Prod.ext rfl hc))
  obtain ⟨y, e2, r2⟩ := h2 _ _ _ _ h
  exact ⟨x ++ y, by rw [List.append_assoc, ← e2]; exact e1, _, x, y, rfl, r1, r2⟩
theorem BackR.map {R : α → List UInt8 → Prop} (f : α → β) (h : BackR p R) : BackR (mapP f p) (fun b z => ∃ a, b = f a ∧ R a z) := by
  intro bs b r h1
  unfold mapP at h1
  simp only [Prod.mk.injEq] at h1
  obtain ⟨x, e, hr⟩ := h bs (p bs 0).1 r (by rw [← h1.2])
  exact ⟨x, e, _, h1.1.symm, hr⟩
theorem BackR.weak {R S : α → List UInt8 → Prop} (h : BackR p R) (hw : ∀ a x, R a x → S a x) : BackR p S := fun bs a r h1 => by
  obtain ⟨x, e, hr⟩ := h bs a r h1
  exact ⟨x, e, hw _ _ hr⟩
theorem stay_many : ∀ n, Stay (manyP p n)
  | 0, bs, c, hc => rfl
  | n + 1, bs, c, hc => by unfold manyP; rw [if_pos hc]
theorem good_many (enc : α → List UInt8) : ∀ (l : List α), (∀ z ∈ l, Good p z (enc z)) → Good (manyP p l.length) l (l.flatMap enc)
  | [], _ => ⟨fun y => rfl, fun k hk => absurd hk (by simp)⟩
  | z :: l, h => by
    have ih := good_many enc l (fun u hu => h u (List.mem_cons_of_mem _ hu))
    have g := (h z List.mem_cons_self).andThen (q := fun a => mapP (a :: ·) (manyP p l.length)) (ih.map (z :: ·)) (fun a => (stay_many _).map _)
    rw [List.flatMap_cons]
    refine ⟨fun y => ?_, fun k hk => ?_⟩
    · show manyP p (l.length + 1) _ 0 = _
      unfold manyP
      rw [if_neg (by omega)]
      exact g.1 y
    · show (manyP p (l.length + 1) _ 0).2.2 = 1
      unfold manyP
      rw [if_neg (by omega)]
      exact g.2 k hk
theorem back_many (enc : α → List UInt8) (V : α → Prop) (h : BackR p (fun a x => x = enc a ∧ V a)) : ∀ n, BackR (manyP p n) (fun l x => x = l.flatMap enc ∧ (∀ z ∈ l, V z) ∧ l.length = n)
  | 0, bs, l, r, e => by
    unfold manyP at e
    simp only [Prod.mk.injEq, and_true] at e
    refine ⟨[], by rw [e.2]; rfl, ?_⟩
    rw [← e.1]
    exact ⟨rfl, fun z hz => absurd hz (by simp), rfl⟩
  | n + 1, bs, l, r, e => by
    unfold manyP at e
    rw [if_neg (by omega)] at e
    obtain ⟨x, e1, a, y, z, e2, ⟨e3, v⟩, l2, e4, e5, v2, e6⟩ := (h.andThen (q := fun a => mapP (a :: ·) (manyP p n)) (fun a => (back_many enc V h n).map (a :: ·)) (fun a => (stay_many n).map _)) _ _ _ e
    refine ⟨x, e1, ?_⟩
    rw [e4, e2, e3, e5]
    exact ⟨by rw [List.flatMap_cons], fun u hu => (List.mem_cons.1 hu).elim (fun e => e ▸ v) (v2 u), by rw [List.length_cons, e6]⟩
end
theorem stay_take (k : Nat) : Stay (takeL k) := fun bs c hc => by rw [takeL_err k bs c hc]
theorem stay_num (most : Nat) : Stay (numL most) := fun bs c hc => by rw [numL_err most bs c hc]
theorem good_take (x : List UInt8) (k : Nat) (h : x.length = k) : Good (takeL k) x x :=
  ⟨fun y => takeL_app x y k h, fun j hj => by rw [takeL_end k _ (by rw [List.length_take]; omega)]⟩
theorem back_take (k : Nat) : BackR (takeL k) (fun a x => x = a ∧ a.length = k) := fun bs a r h => by
  unfold takeL at h
  rw [if_neg (by omega)] at h
  split at h
  · simp at h
  · simp only [Prod.mk.injEq, and_true] at h
    exact ⟨a, by rw [← h.1, ← h.2, List.take_append_drop], rfl, by rw [← h.1, List.length_take]; omega⟩
/-- So many bytes as a number. -/
def leP (k : Nat) : Par Nat := mapP leN (takeL k)
theorem stay_le (k : Nat) : Stay (leP k) := (stay_take k).map _
theorem leN_inj : ∀ (l m : List UInt8), l.length = m.length → leN l = leN m → l = m
  | [], [], _, _ => rfl
  | x :: l, y :: m, hl, h => by
    have h1 : x.toNat + 256 * leN l = y.toNat + 256 * leN m := h
    have hx := x.toNat_lt
    have hy := y.toNat_lt
    have e1 : x.toNat = y.toNat := by omega
    have e2 : leN l = leN m := by omega
    rw [leN_inj l m (by simpa using hl) e2, UInt8.toNat_inj.1 e1]
theorem leB_leN (l : List UInt8) : leB (leN l) l.length = l :=
  leN_inj _ _ (leB_length _ _) (leN_leB_of (leN_lt l))
theorem good_le (n k : Nat) (h : n < 256 ^ k) : Good (leP k) n (leB n k) := by
  have g := (good_take (leB n k) k (leB_length n k)).map leN
  rw [leN_leB_of h] at g
  exact g
theorem back_le (k : Nat) : BackR (leP k) (fun n x => x = leB n k ∧ n < 256 ^ k) := ((back_take k).map leN).weak fun n x ⟨a, e, e1, e2⟩ => by
  subst e e1 e2
  exact ⟨(leB_leN _).symm, leN_lt _⟩
theorem good_num (most n : Nat) (h : n ≤ most) (hm : most ≤ 18446744073709551615) : Good (numL most) n (putL n) :=
  ⟨fun y => by rw [numL_put most n y (by omega), if_neg (by omega)], fun k hk => by
    rw [putL_length] at hk
    obtain ⟨b, e⟩ := numL_cut most n k hk
    rw [e]⟩
theorem widN_cases (n : Nat) : (widN n = 2 ∧ n = 253) ∨ (widN n = 4 ∧ n = 254) ∨ (widN n = 8 ∧ n = 255) ∨ (widN n = 0 ∧ n ≠ 253 ∧ n ≠ 254 ∧ n ≠ 255) := by
  unfold widN
  split
  · exact .inl ⟨rfl, by assumption⟩
  · split
    · exact .inr (.inl ⟨rfl, by assumption⟩)
    · split
      · exact .inr (.inr (.inl ⟨rfl, by assumption⟩))
      · exact .inr (.inr (.inr ⟨rfl, by assumption, by assumption, by assumption⟩))
theorem back_num (most : Nat) : BackR (numL most) (fun n x => x = putL n ∧ n ≤ most) := fun bs n r h => by
  cases bs with
  | nil => rw [numL_nil] at h; simp at h
  | cons f xs =>
    have hf := f.toNat_lt
    have ef : UInt8.ofNat f.toNat = f := by simp
    have mark : ∀ k, 0 < k → widN f.toNat = k → (∀ z : List UInt8, z.length = k → lenN (leN z) = 1 + k → putL (leN z) = f :: leB (leN z) k) → ∃ x, f :: xs = x ++ r ∧ x = putL n ∧ n ≤ most := by
      intro k h0 hk hp
      by_cases hl : xs.length < k
      · rw [numL_short most f k xs hk hl] at h; simp at h
      · obtain ⟨z, y, e, hz⟩ : ∃ z y, xs = z ++ y ∧ z.length = k := ⟨xs.take k, xs.drop k, (List.take_append_drop k xs).symm, by rw [List.length_take]; omega⟩
        rw [e, numL_mark most f k z y hk h0 hz] at h
        split at h
        · simp at h
        · rename_i h1
          split at h
          · simp at h
          · rename_i h2
            simp only [Prod.mk.injEq, and_true] at h
            have h3 := hp z hz (by omega)
            rw [← hz, leB_leN] at h3
            refine ⟨f :: z, by rw [e, ← h.2]; rfl, ?_, by rw [← h.1]; omega⟩
            rw [← h.1, h3]
    have put : ∀ (z : List UInt8) (k : Nat) (g : UInt8), lenN (leN z) = 1 + k → 0 < k → (k = 2 → g = 253) → (k = 4 → g = 254) → (k = 8 → g = 255) → putL (leN z) = g :: leB (leN z) k := by
      intro z k g hl h0 g1 g2 g3
      rcases lenN_eq (leN z) with ⟨a, b⟩ | ⟨a, b⟩ | ⟨a, b⟩ | ⟨a, b⟩
      · omega
      · rw [b, g1 (by omega), show k = 2 by omega]
      · rw [b, g2 (by omega), show k = 4 by omega]
      · rw [b, g3 (by omega), show k = 8 by omega]
    have fz : ∀ m : Nat, f.toNat = m → f = UInt8.ofNat m := fun m e => by rw [← e, ef]
    rcases widN_cases f.toNat with ⟨e, e2⟩ | ⟨e, e2⟩ | ⟨e, e2⟩ | ⟨e, e2, e3, e4⟩
    · exact mark 2 (by omega) e (fun z _ hl => put z 2 f hl (by omega) (fun _ => fz 253 e2) (fun h => by omega) (fun h => by omega))
    · exact mark 4 (by omega) e (fun z _ hl => put z 4 f hl (by omega) (fun h => by omega) (fun _ => fz 254 e2) (fun h => by omega))
    · exact mark 8 (by omega) e (fun z _ hl => put z 8 f hl (by omega) (fun h => by omega) (fun h => by omega) (fun _ => fz 255 e2))
    · rw [numL_small most f xs (by omega)] at h
      split at h
      · simp at h
      · simp only [Prod.mk.injEq, and_true] at h
        refine ⟨[f], by rw [← h.2]; rfl, ?_, by rw [← h.1]; omega⟩
        rw [← h.1]
        unfold putL
        rw [if_pos (by omega), ef]
end Go.Proofs.YtgcoegbamoehfaaDoor.Sha

/-
  Plain mathematics of a transaction read out of bytes: an input, an output, the whole; all that is in the bytes, and what is amiss. No conditions beyond those that each states.
-/
namespace Go.Proofs.YtgcoegbamoehfaaDoor.Sha
open Go Go.RowKit
def inP : Par TIn := thenP (takeL 32) fun h => thenP (leP 4) fun n => thenP (numL 80) fun k => thenP (takeL k) fun key => mapP (fun s => ⟨padH h, n, key, s⟩) (leP 4)
def outP : Par TOut := thenP (leP 8) fun v => mapP (fun h => ⟨v, padH h⟩) (takeL 32)
def txP : Par TTx := thenP (leP 4) fun v => thenP (numL 50) fun n => thenP (manyP inP n) fun is => thenP (numL 50) fun m => thenP (manyP outP m) fun os => mapP (fun t => ⟨v, is, os, t⟩) (leP 4)
def noTx : TTx := ⟨0, [], [], 0⟩
/-- A transaction out of a Reader: none where an error was met. -/
def takeTx (bs : List UInt8) (c : Nat) : TTx × List UInt8 × Nat := if (txP bs c).2.2 = 0 then txP bs c else (noTx, (txP bs c).2)
/-- Bytes as a transaction, or what is amiss. -/
def readTx (bs : List UInt8) : TTx × Nat := if (txP bs 0).2.2 ≠ 0 then (noTx, (txP bs 0).2.2) else if (txP bs 0).2.1 ≠ [] then (noTx, 2) else ((txP bs 0).1, 0)
theorem padH_whole {x : List UInt8} (h : x.length = 32) : padH x = x := by unfold padH; rw [h]; simp
theorem stay_in : Stay inP := (stay_take 32).andThen fun _ => (stay_le 4).andThen fun _ => (stay_num 80).andThen fun k => (stay_take k).andThen fun _ => (stay_le 4).map _
theorem stay_out : Stay outP := (stay_le 8).andThen fun _ => (stay_take 32).map _
theorem stay_tx : Stay txP := (stay_le 4).andThen fun _ => (stay_num 50).andThen fun n => (stay_many n).andThen fun _ => (stay_num 50).andThen fun m => (stay_many m).andThen fun _ => (stay_le 4).map _
theorem good_in (x : TIn) (h : InOk x) (hk : x.key.length ≤ 80) : Good inP x (inB x) := by
  obtain ⟨h1, h2, h3⟩ := h
  obtain ⟨a, b, c, d⟩ := x
  simp only at h1 h2 h3 hk
  have g := (good_take a 32 h1).andThen (q := fun h => thenP (leP 4) fun n => thenP (numL 80) fun k => thenP (takeL k) fun key => mapP (fun s => (⟨padH h, n, key, s⟩ : TIn)) (leP 4))
    ((good_le b 4 (by omega)).andThen (q := fun n => thenP (numL 80) fun k => thenP (takeL k) fun key => mapP (fun s => (⟨padH a, n, key, s⟩ : TIn)) (leP 4))
      ((good_num 80 c.length hk (by omega)).andThen (q := fun k => thenP (takeL k) fun key => mapP (fun s => (⟨padH a, b, key, s⟩ : TIn)) (leP 4))
        ((good_take c c.length rfl).andThen (q := fun key => mapP (fun s => (⟨padH a, b, key, s⟩ : TIn)) (leP 4))
          ((good_le d 4 (by omega)).map _) (fun _ => (stay_le 4).map _)) (fun k => (stay_take k).andThen fun _ => (stay_le 4).map _)) (fun _ => (stay_num 80).andThen fun k => (stay_take k).andThen fun _ => (stay_le 4).map _))
      (fun _ => (stay_le 4).andThen fun _ => (stay_num 80).andThen fun k => (stay_take k).andThen fun _ => (stay_le 4).map _)
  rw [padH_whole h1] at g
  simp only [inB, List.append_assoc]
  exact g
theorem good_out (y : TOut) (h : OutOk y) : Good outP y (outB y) := by
  obtain ⟨h1, h2⟩ := h
  obtain ⟨a, b⟩ := y
  simp only at h1 h2
  have g := (good_le a 8 (by omega)).andThen (q := fun v => mapP (fun h => (⟨v, padH h⟩ : TOut)) (takeL 32)) ((good_take b 32 h1).map _) (fun _ => (stay_take 32).map _)
  rw [padH_whole h1] at g
  exact g
/-- What a transaction must be to be read again. -/
def TxRead (t : TTx) : Prop := TxOk t ∧ InsOk t.ins ∧ OutsOk t.outs ∧ KeysLe t.ins 80 ∧ t.ins.length ≤ 50 ∧ t.outs.length ≤ 50
theorem TxRead.fit {t : TTx} (h : TxRead t) : TxFit t := ⟨h.1, h.2.1, h.2.2.1, fun x hx => Nat.le_trans (h.2.2.2.1 x hx) (by omega), Nat.le_trans h.2.2.2.2.1 (by omega), Nat.le_trans h.2.2.2.2.2 (by omega)⟩
theorem good_tx (t : TTx) (h : TxRead t) : Good txP t (txB t) := by
  obtain ⟨⟨h1, h2⟩, h3, h4, h5, h6, h7⟩ := h
  obtain ⟨a, b, c, d⟩ := t
  simp only at h1 h2 h3 h4 h5 h6 h7
  have g := (good_le a 4 (by omega)).andThen (q := fun v => thenP (numL 50) fun n => thenP (manyP inP n) fun is => thenP (numL 50) fun m => thenP (manyP outP m) fun os => mapP (fun t => (⟨v, is, os, t⟩ : TTx)) (leP 4))
    ((good_num 50 b.length h6 (by omega)).andThen (q := fun n => thenP (manyP inP n) fun is => thenP (numL 50) fun m => thenP (manyP outP m) fun os => mapP (fun t => (⟨a, is, os, t⟩ : TTx)) (leP 4))
      ((good_many inB b (fun z hz => good_in z (h3 z hz) (h5 z hz))).andThen (q := fun is => thenP (numL 50) fun m => thenP (manyP outP m) fun os => mapP (fun t => (⟨a, is, os, t⟩ : TTx)) (leP 4))
        ((good_num 50 c.length h7 (by omega)).andThen (q := fun m => thenP (manyP outP m) fun os => mapP (fun t => (⟨a, b, os, t⟩ : TTx)) (leP 4))
          ((good_many outB c (fun z hz => good_out z (h4 z hz))).andThen (q := fun os => mapP (fun t => (⟨a, b, os, t⟩ : TTx)) (leP 4))
            ((good_le d 4 (by omega)).map _) (fun _ => (stay_le 4).map _)) (fun m => (stay_many m).andThen fun _ => (stay_le 4).map _)) (fun _ => (stay_num 50).andThen fun m => (stay_many m).andThen fun _ => (stay_le 4).map _))
        (fun n => (stay_many n).andThen fun _ => (stay_num 50).andThen fun m => (stay_many m).andThen fun _ => (stay_le 4).map _))
      (fun _ => (stay_num 50).andThen fun n => (stay_many n).andThen fun _ => (stay_num 50).andThen fun m => (stay_many m).andThen fun _ => (stay_le 4).map _)
  simp only [txB, insB, outsB, List.append_assoc]
  exact g
theorem back_in : BackR inP (fun a x => x = inB a ∧ InOk a ∧ a.key.length ≤ 80) := by
  refine BackR.weak ((back_take 32).andThen (fun h => (back_le 4).andThen (fun n => (back_num 80).andThen (fun k => (back_take k).andThen (fun key => (back_le 4).map _) (fun _ => (stay_le 4).map _)) (fun k => (stay_take k).andThen fun _ => (stay_le 4).map _)) (fun _ => (stay_num 80).andThen fun k => (stay_take k).andThen fun _ => (stay_le 4).map _)) (fun _ => (stay_le 4).andThen fun _ => (stay_num 80).andThen fun k => (stay_take k).andThen fun _ => (stay_le 4).map _)) ?_
  rintro a x ⟨h, x1, x2, rfl, ⟨rfl, hh⟩, n, x3, x4, rfl, ⟨rfl, hn⟩, k, x5, x6, rfl, ⟨rfl, hk⟩, key, x7, x8, rfl, ⟨rfl, hkey⟩, s, rfl, rfl, hs⟩
  subst hkey
  rw [padH_whole hh]
  exact ⟨by simp only [inB, List.append_assoc], ⟨hh, Nat.le_of_lt_succ hn, Nat.le_of_lt_succ hs⟩, hk⟩
theorem back_out : BackR outP (fun a x => x = outB a ∧ OutOk a) := by
  refine BackR.weak ((back_le 8).andThen (fun v => (back_take 32).map _) (fun _ => (stay_take 32).map _)) ?_
  rintro a x ⟨v, x1, x2, rfl, ⟨rfl, hv⟩, h, rfl, rfl, hh⟩
  rw [padH_whole hh]
  exact ⟨rfl, hh, Nat.le_of_lt_succ hv⟩
theorem back_tx : BackR txP (fun t x => x = txB t ∧ TxRead t) := by
  refine BackR.weak ((back_le 4).andThen (fun v => (back_num 50).andThen (fun n => (back_many inB _ back_in n).andThen (fun is => (back_num 50).andThen (fun m => (back_many outB _ back_out m).andThen (fun os => (back_le 4).map _) (fun _ => (stay_le 4).map _)) (fun m => (stay_many m).andThen fun _ => (stay_le 4).map _)) (fun _ => (stay_num 50).andThen fun m => (stay_many m).andThen fun _ => (stay_le 4).map _)) (fun n => (stay_many n).andThen fun _ => (stay_num 50).andThen fun m => (stay_many m).andThen fun _ => (stay_le 4).map _)) (fun _ => (stay_num 50).andThen fun n => (stay_many n).andThen fun _ => (stay_num 50).andThen fun m => (stay_many m).andThen fun _ => (stay_le 4).map _)) ?_
  rintro a x ⟨v, x1, x2, rfl, ⟨rfl, hv⟩, n, x3, x4, rfl, ⟨rfl, hn⟩, is, x5, x6, rfl, ⟨rfl, hi, hil⟩, m, x7, x8, rfl, ⟨rfl, hm⟩, os, x9, x10, rfl, ⟨rfl, ho, hol⟩, s, rfl, rfl, hs⟩
  subst hil hol
  exact ⟨by simp only [txB, insB, outsB, List.append_assoc], ⟨Nat.le_of_lt_succ hv, Nat.le_of_lt_succ hs⟩, fun z hz => (hi z hz).1, ho, fun z hz => (hi z hz).2, hn, hm⟩
/-- What was written is read again. -/
theorem read_own {t : TTx} (h : TxRead t) : readTx (txB t) = (t, 0) := by
  have g := (good_tx t h).1 []
  rw [List.append_nil] at g
  unfold readTx
  rw [g]
  rfl
theorem take_own {t : TTx} (h : TxRead t) (y : List UInt8) : takeTx (txB t ++ y) 0 = (t, y, 0) := by
  unfold takeTx
  rw [(good_tx t h).1 y, if_pos rfl]
/-- Cut off, it ends too early. -/
theorem read_cut {t : TTx} (h : TxRead t) {k : Nat} (hk : k < (txB t).length) : readTx ((txB t).take k) = (noTx, 1) := by
  have g := (good_tx t h).2 k hk
  unfold readTx
  rw [g, if_pos (by omega)]
/-- Longer, it has another shape. -/
theorem read_long {t : TTx} (h : TxRead t) {y : List UInt8} (hy : y ≠ []) : readTx (txB t ++ y) = (noTx, 2) := by
  unfold readTx
  rw [(good_tx t h).1 y, if_neg (by simp), if_pos hy]
/-- What is read has just these bytes. -/
theorem read_back {b : List UInt8} (h : (readTx b).2 = 0) : b = txB (readTx b).1 ∧ TxRead (readTx b).1 := by
  obtain ⟨p, hp⟩ : ∃ p, txP b 0 = p := ⟨_, rfl⟩
  unfold readTx at h ⊢
  rw [hp] at h ⊢
  obtain ⟨a, r, c⟩ := p
  by_cases h1 : c ≠ 0
  · rw [if_pos (show (a, r, c).2.2 ≠ 0 from h1)] at h
    exact absurd h h1
  · have h1 : c = 0 := by omega
    subst h1
    by_cases h2 : r ≠ []
    · rw [if_neg (show ¬ (a, r, 0).2.2 ≠ 0 from fun h => h rfl), if_pos (show (a, r, 0).2.1 ≠ [] from h2)] at h
      exact absurd h (by simp)
    · have h2 : r = [] := by simpa using h2
      subst h2
      obtain ⟨x, e, e2, hr⟩ := back_tx b a [] hp
      rw [List.append_nil] at e
      exact ⟨e.trans e2, hr⟩
/-- What may be is read again. -/
theorem read_fine {t : TTx} (h : TxFit t) (hc : checkN t = 0) : TxRead t := by
  unfold checkN at hc
  split at hc
  · omega
  rename_i h1
  split at hc
  · omega
  split at hc
  · omega
  rename_i h3
  refine ⟨h.1, h.2.1, h.2.2.1, fun x hx => ?_, by omega, by omega⟩
  simp only [List.any_eq_true, decide_eq_true_eq, not_exists, not_and] at h3
  have := h3 x hx
  omega
end Go.Proofs.YtgcoegbamoehfaaDoor.Sha

/-
  Plain mathematics of so many things read one behind the other, whether or not an error was met between: they leave and meet what those do that stop at the first error. No conditions.
-/
namespace Go.Proofs.YtgcoegbamoehfaaDoor.Sha
open Go Go.RowKit
section
variable {α β : Type} {p q : Par α}
/-- So many, whatever is met. -/
def manyS (p : Par α) : Nat → Par (List α)
  | 0, bs, c => ([], bs, c)
  | n + 1, bs, c => ((manyS p n bs c).1 ++ [(p (manyS p n bs c).2.1 (manyS p n bs c).2.2).1], (p (manyS p n bs c).2.1 (manyS p n bs c).2.2).2)
theorem manyS_cons (p : Par α) : ∀ (n : Nat) (bs : List UInt8) (c : Nat), manyS p (n + 1) bs c = thenP p (fun a => mapP (a :: ·) (manyS p n)) bs c
  | 0, bs, c => rfl
  | n + 1, bs, c => by
    have ih := manyS_cons p n bs c
    rw [manyS, ih]
    rfl
theorem manyS_length (p : Par α) : ∀ (n : Nat) (bs : List UInt8) (c : Nat), (manyS p n bs c).1.length = n
  | 0, _, _ => rfl
  | n + 1, bs, c => by
    rw [manyS]
    simp [manyS_length p n bs c]
/-- Behind an error nothing is read. -/
def Still (p : Par α) : Prop := ∀ bs c, c ≠ 0 → (p bs c).2 = (bs, c)
theorem Still.andThen {f : α → Par β} (h1 : Still p) (h2 : ∀ a, Still (f a)) : Still (thenP p f) := fun bs c hc => by
  have e := h1 bs c hc
  unfold thenP
  rw [e]
  exact h2 _ bs c hc
theorem Still.map (f : α → β) (h : Still p) : Still (mapP f p) := fun bs c hc => h bs c hc
theorem still_manyS (h : Still p) : ∀ n, Still (manyS p n)
  | 0 => fun _ _ _ => rfl
  | n + 1 => fun bs c hc => by
    have e := still_manyS h n bs c hc
    rw [manyS, e]
    exact h bs c hc
theorem still_manyP (_h : Still p) : ∀ n, Still (manyP p n)
  | 0 => fun _ _ _ => rfl
  | n + 1 => fun bs c hc => by
    rw [manyP, if_pos hc]
/-- Two that leave and meet the same, and are the same where nothing is met. -/
def Sim (p q : Par α) : Prop := ∀ bs c, (p bs c).2 = (q bs c).2 ∧ ((p bs c).2.2 = 0 → p bs c = q bs c)
theorem Sim.refl (p : Par α) : Sim p p := fun _ _ => ⟨rfl, fun _ => rfl⟩
theorem Sim.andThen {f g : α → Par β} (h1 : Sim p q) (h2 : ∀ a, Sim (f a) (g a)) (s1 : ∀ a, Still (f a)) (s2 : ∀ a, Still (g a)) : Sim (thenP p f) (thenP q g) := fun bs c => by
  obtain ⟨e1, e2⟩ := h1 bs c
  unfold thenP
  by_cases hd : (p bs c).2.2 = 0
  · have e := e2 hd
    rw [← e]
    exact h2 _ _ _
  · rw [← e1]
    have a1 := s1 (p bs c).1 (p bs c).2.1 (p bs c).2.2 hd
    have a2 := s2 (q bs c).1 (p bs c).2.1 (p bs c).2.2 hd
    exact ⟨a1.trans a2.symm, fun h0 => by rw [a1] at h0; exact absurd h0 hd⟩
theorem Sim.map (f : α → β) (h : Sim p q) : Sim (mapP f p) (mapP f q) := fun bs c => by
  obtain ⟨e1, e2⟩ := h bs c
  unfold mapP
  exact ⟨e1, fun h0 => by rw [e2 h0]⟩
theorem sim_many (h : Still p) : ∀ n, Sim (manyP p n) (manyS p n)
  | 0 => fun _ _ => ⟨rfl, fun _ => rfl⟩
  | n + 1 => fun bs c => by
    by_cases hc : c ≠ 0
    · have e := still_manyS h (n + 1) bs c hc
      rw [e, manyP, if_pos hc]
      exact ⟨rfl, fun h0 => absurd h0 hc⟩
    · rw [manyS_cons, manyP, if_neg hc]
      exact (Sim.refl p).andThen (fun a => (sim_many h n).map (a :: ·)) (fun a => (still_manyP h n).map _) (fun a => (still_manyS h n).map _) bs c
end
theorem still_take (k : Nat) : Still (takeL k) := fun bs c hc => by rw [takeL_err k bs c hc]
theorem still_num (most : Nat) : Still (numL most) := fun bs c hc => by rw [numL_err most bs c hc]
theorem still_le (k : Nat) : Still (leP k) := (still_take k).map _
theorem still_in : Still inP := (still_take 32).andThen fun _ => (still_le 4).andThen fun _ => (still_num 80).andThen fun k => (still_take k).andThen fun _ => (still_le 4).map _
theorem still_out : Still outP := (still_le 8).andThen fun _ => (still_take 32).map _
/-- A transaction, whatever is met between. -/
def txS : Par TTx := thenP (leP 4) fun v => thenP (numL 50) fun n => thenP (manyS inP n) fun is => thenP (numL 50) fun m => thenP (manyS outP m) fun os => mapP (fun t => ⟨v, is, os, t⟩) (leP 4)
theorem sim_tx : Sim txP txS :=
  (Sim.refl _).andThen (fun _ => (Sim.refl _).andThen (fun n => (sim_many still_in n).andThen (fun _ => (Sim.refl _).andThen (fun m => (sim_many still_out m).andThen (fun _ => Sim.refl _) (fun _ => (still_le 4).map _) (fun _ => (still_le 4).map _))
    (fun m => (still_manyP still_out m).andThen fun _ => (still_le 4).map _) (fun m => (still_manyS still_out m).andThen fun _ => (still_le 4).map _))
    (fun _ => (still_num 50).andThen fun m => (still_manyP still_out m).andThen fun _ => (still_le 4).map _) (fun _ => (still_num 50).andThen fun m => (still_manyS still_out m).andThen fun _ => (still_le 4).map _))
    (fun n => (still_manyP still_in n).andThen fun _ => (still_num 50).andThen fun m => (still_manyP still_out m).andThen fun _ => (still_le 4).map _) (fun n => (still_manyS still_in n).andThen fun _ => (still_num 50).andThen fun m => (still_manyS still_out m).andThen fun _ => (still_le 4).map _))
    (fun _ => (still_num 50).andThen fun n => (still_manyP still_in n).andThen fun _ => (still_num 50).andThen fun m => (still_manyP still_out m).andThen fun _ => (still_le 4).map _) (fun _ => (still_num 50).andThen fun n => (still_manyS still_in n).andThen fun _ => (still_num 50).andThen fun m => (still_manyS still_out m).andThen fun _ => (still_le 4).map _)
theorem takeTx_S (bs : List UInt8) (c : Nat) : takeTx bs c = if (txS bs c).2.2 = 0 then txS bs c else (noTx, (txS bs c).2) := by
  obtain ⟨e1, e2⟩ := sim_tx bs c
  unfold takeTx
  rw [← e1]
  split
  · rename_i h
    exact e2 h
  · rfl
/-- What is left is no longer than what was there. -/
def Less {α : Type} (p : Par α) : Prop := ∀ bs c, (p bs c).2.1.length ≤ bs.length
theorem less_take (k : Nat) : Less (takeL k) := fun bs c => by
  unfold takeL
  split
  · exact Nat.le_refl _
  · split
    · exact Nat.le_refl _
    · rw [List.length_drop]; omega
theorem Less.andThen {α β : Type} {p : Par α} {f : α → Par β} (h1 : Less p) (h2 : ∀ a, Less (f a)) : Less (thenP p f) := fun bs c => Nat.le_trans (h2 _ _ _) (h1 bs c)
theorem Less.map {α β : Type} {p : Par α} (f : α → β) (h : Less p) : Less (mapP f p) := h
theorem less_le (k : Nat) : Less (leP k) := (less_take k).map _
/-- What Num answers out of the bytes that it took. -/
def numEnd (most k : Nat) (u : List UInt8 × List UInt8 × Nat) : Nat × List UInt8 × Nat :=
  if u.2.2 ≠ 0 then (0, u.2.1, u.2.2) else if lenN (leN u.1) ≠ 1 + k then (0, u.2.1, 2) else if most < leN u.1 then (0, u.2.1, 4) else (leN u.1, u.2.1, 0)
theorem numL_end (most : Nat) (bs : List UInt8) (c : Nat) : numL most bs c = numEnd most (widN (leN (takeL 1 bs c).1)) (if widN (leN (takeL 1 bs c).1) = 0 then takeL 1 bs c else takeL (widN (leN (takeL 1 bs c).1)) (takeL 1 bs c).2.1 (takeL 1 bs c).2.2) := rfl
theorem numEnd_le (most k : Nat) (u : List UInt8 × List UInt8 × Nat) : (numEnd most k u).1 ≤ most ∧ (numEnd most k u).2.1 = u.2.1 := by
  unfold numEnd
  split
  · exact ⟨Nat.zero_le _, rfl⟩
  · split
    · exact ⟨Nat.zero_le _, rfl⟩
    · split
      · exact ⟨Nat.zero_le _, rfl⟩
      · rename_i h
        exact ⟨Nat.le_of_not_lt h, rfl⟩
theorem less_num (most : Nat) : Less (numL most) := fun bs c => by
  have h1 := less_take 1 bs c
  have h2 := less_take (widN (leN (takeL 1 bs c).1)) (takeL 1 bs c).2.1 (takeL 1 bs c).2.2
  rw [numL_end, (numEnd_le _ _ _).2]
  split
  · exact h1
  · exact Nat.le_trans h2 h1
theorem less_manyS {α : Type} {p : Par α} (h : Less p) : ∀ n, Less (manyS p n)
  | 0 => fun _ _ => Nat.le_refl _
  | n + 1 => fun bs c => Nat.le_trans (h _ _) (less_manyS h n bs c)
theorem less_in : Less inP := (less_take 32).andThen fun _ => (less_le 4).andThen fun _ => (less_num 80).andThen fun k => (less_take k).andThen fun _ => (less_le 4).map _
theorem less_out : Less outP := (less_le 8).andThen fun _ => (less_take 32).map _
theorem numL_most (most : Nat) (bs : List UInt8) (c : Nat) : (numL most bs c).1 ≤ most := by
  rw [numL_end]
  exact (numEnd_le _ _ _).1
theorem leP_lt (k : Nat) (bs : List UInt8) (c : Nat) : (leP k bs c).1 < 256 ^ k := by
  have h := takeL_le k bs c
  exact Nat.lt_of_lt_of_le (leN_lt _) (Nat.pow_le_pow_right (by omega) h)
theorem pow4 : (256 : Nat) ^ 4 = 4294967296 := by decide
theorem pow8 : (256 : Nat) ^ 8 = 18446744073709551616 := by decide
theorem le4 (bs : List UInt8) (c : Nat) : (leP 4 bs c).1 ≤ 4294967295 := by
  have := leP_lt 4 bs c
  rw [pow4] at this
  omega
theorem le8 (bs : List UInt8) (c : Nat) : (leP 8 bs c).1 ≤ 18446744073709551615 := by
  have := leP_lt 8 bs c
  rw [pow8] at this
  omega
theorem inP_laid (bs x1 b1 b2 b3 x3 b4 b5 : List UInt8) (c d1 d2 d3 d4 d5 n k s : Nat) (h1 : takeL 32 bs c = (x1, b1, d1)) (h2 : leP 4 b1 d1 = (n, b2, d2)) (h3 : numL 80 b2 d2 = (k, b3, d3)) (h4 : takeL k b3 d3 = (x3, b4, d4)) (h5 : leP 4 b4 d4 = (s, b5, d5)) :
    inP bs c = (⟨padH x1, n, x3, s⟩, b5, d5) := by
  simp only [inP, thenP, mapP, h1, h2, h3, h4, h5]
theorem inP_ok (bs : List UInt8) (c : Nat) : InOk (inP bs c).1 := by
  obtain ⟨x1, b1, d1, h1⟩ : ∃ x b d, takeL 32 bs c = (x, b, d) := ⟨_, _, _, rfl⟩
  obtain ⟨n, b2, d2, h2⟩ : ∃ x b d, leP 4 b1 d1 = (x, b, d) := ⟨_, _, _, rfl⟩
  obtain ⟨k, b3, d3, h3⟩ : ∃ x b d, numL 80 b2 d2 = (x, b, d) := ⟨_, _, _, rfl⟩
  obtain ⟨x3, b4, d4, h4⟩ : ∃ x b d, takeL k b3 d3 = (x, b, d) := ⟨_, _, _, rfl⟩
  obtain ⟨s, b5, d5, h5⟩ : ∃ x b d, leP 4 b4 d4 = (x, b, d) := ⟨_, _, _, rfl⟩
  rw [inP_laid bs x1 b1 b2 b3 x3 b4 b5 c d1 d2 d3 d4 d5 n k s h1 h2 h3 h4 h5]
  have a1 := takeL_le 32 bs c
  have a2 := le4 b1 d1
  have a3 := le4 b4 d4
  rw [h1] at a1
  rw [h2] at a2
  rw [h5] at a3
  exact ⟨padH_length a1, a2, a3⟩
theorem outP_laid (bs x2 b1 b2 : List UInt8) (c d1 d2 v : Nat) (h1 : leP 8 bs c = (v, b1, d1)) (h2 : takeL 32 b1 d1 = (x2, b2, d2)) : outP bs c = (⟨v, padH x2⟩, b2, d2) := by
  simp only [outP, thenP, mapP, h1, h2]
theorem outP_ok (bs : List UInt8) (c : Nat) : OutOk (outP bs c).1 := by
  obtain ⟨v, b1, d1, h1⟩ : ∃ x b d, leP 8 bs c = (x, b, d) := ⟨_, _, _, rfl⟩
  obtain ⟨x2, b2, d2, h2⟩ : ∃ x b d, takeL 32 b1 d1 = (x, b, d) := ⟨_, _, _, rfl⟩
  rw [outP_laid bs x2 b1 b2 c d1 d2 v h1 h2]
  have a1 := le8 bs c
  have a2 := takeL_le 32 b1 d1
  rw [h1] at a1
  rw [h2] at a2
  exact ⟨padH_length a2, a1⟩
end Go.Proofs.YtgcoegbamoehfaaDoor.Sha

/-
  Package tx takes an input, and an output, from a Reader. Nothing that was there turns but the Reader. Conditions: the Reader stands as it should; the errors are there.
-/
namespace Go.Proofs.YtgcoegbamoehfaaDoor.Sha
open Go Go.RowKit
theorem leP_of {k : Nat} {bs x b : List UInt8} {c d : Nat} (h : takeL k bs c = (x, b, d)) : leP k bs c = (leN x, b, d) := by simp only [leP, mapP, h]
theorem one_mem {v : Value} (h : v.oneCell' = true) : ∀ u ∈ [v], u.oneCell' = true := fun u hu => by rw [List.mem_singleton.1 hu]; exact h
end Go.Proofs.YtgcoegbamoehfaaDoor.Sha

/-
  Loads and appends of structures where a region draws its order; rows that stay where others grow. No conditions beyond those that each states.
-/
namespace Go.Proofs.YtgcoegbamoehfaaDoor.Sha
open Go Go.RowKit
section
variable {P : Program}
theorem wp_load_cell {op : Oper} {a : Act} {w : World} {K : Act → World → Prop} {Q : Exit → Act → World → Prop} (ty : TypeId) (x : Operand) (ho : op.op = .load ty x) (b off : Nat) (hx : a.eval x = .pointer (some ⟨b, off, none⟩)) (v : Value) (d : TypeDesc)
    (hc : w.cell? ⟨b, off, none⟩ = some v) (hu : P.underlying ty = some d) (hd : d.isRow = false) (h : K (a.put op.dst v) w) : op.wp P a w K Q := by
  have hagg : (isAgg ty).run P w = .ok false w := by
    unfold isAgg
    rw [Sem.run_bind, run_underlying hu w]
    cases d <;> simp_all
  unfold Oper.wp execOp
  simp [ho, hx, Instr.loadAt, Instr.sureAddr, Sem.run_bind, loadVar, hagg, hc]
  exact h
theorem wp_append_row (w : World) {o : Oper} {a : Act} {K : Act → World → Prop} {Q : Exit → Act → World → Prop} (s x : Operand) (t : TypeId)
    (ho : o.op = Op.call { callee := Callee.builtin Builtin.append, args := #[s, x], argTypes := #[t, t] })
    (base : Nat) (e : TypeId) (i : TypeInfo) (z : Value) (size bytes : Nat) (ht : P.underlying t = some (.slice e)) (hi : P.info? e = some i) (hz : i.zero = some z)
    (hsize : i.size = size) (hby : i.bytes = bytes) (hzs : z.cells.size = size) (hsz : 0 < size)
    (v : Value) (n : Nat) (xs : List Value) (hs : a.eval s = v) (hown : w.ownsRow base e size v n xs)
    (ad : Addr) (m c : Nat) (news : List Value) (hx : a.eval x = .slice (some ad) m c) (hl : news.length = m * size) (hnews : ∀ j u, news[j]? = some u → w.cell? (ad.add j) = some u) (h1 : ∀ u ∈ news, u.oneCell' = true)
    (h63 : n + m ≤ maxLen) (hbytes : (n + m) * bytes ≤ 140737488355328) (hbase : base ≤ w.heap.size)
    (h : ∀ v' w', w'.ownsRow base e size v' (n + m) (xs ++ news) → w.grownBy w' v.ownBlock → (v'.ownBlock = v.ownBlock ∨ v'.ownBlock = some w.heap.size) → K (a.put o.dst v') w') : o.wp P a w K Q := by
  obtain ⟨v', w', hr, h2, h3, _, h5⟩ := run_append_own_at (P := P) w base t o.type e i z size bytes ht hi hz hsize hby hzs hsz v n xs hown ad m c news hl hnews h1 h63 hbytes hbase
  unfold Oper.wp execOp
  simp only [ho, resolve, invoke, builtin, Sem.run_bind, Sem.run_pure, Result.andThen_ok, List.map_toArray, List.map_cons, List.map_nil, hs, hx, hr]
  exact h v' w' h2 h3 h5
end
theorem own_one {w : World} {base n size : Nat} {e : TypeId} {v : Value} {xs : List Value} (h : w.ownsRow base e size v n xs) : v.oneCell' = true := by
  rcases h.2 with ⟨rfl, _⟩ | ⟨g, cap, cur, rfl, _⟩ <;> rfl
theorem cells_one {v : Value} (h : v.oneCell' = true) : v.cells = [v].toArray := by cases v <;> first | rfl | cases h
theorem in_mem_one (x : TIn) (kv : Value) (hk : kv.oneCell' = true) : ∀ u ∈ inL x kv, u.oneCell' = true := fun u hu => by
  have := in_one x kv hk
  rw [Array.all_eq_true_iff_forall_mem] at this
  exact this u (by simpa using hu)
theorem out_mem_one (y : TOut) : ∀ u ∈ outL y, u.oneCell' = true := fun u hu => by
  have := out_one y
  rw [Array.all_eq_true_iff_forall_mem] at this
  exact this u (by simpa using hu)
theorem InsOwn.grow {base : Nat} {w w' : World} {v : Value} {l : List TIn} {ks : List Value} {q : Option Nat} (h : InsOwn base w v l ks) (hg : w.grownBy w' q) (hq : ∀ j, q = some j → v.ownBlock ≠ some j ∧ ∀ (i : Nat) kv, ks[i]? = some kv → Off kv (some j)) : InsOwn base w' v l ks := by
  cases q with
  | none => exact h.keep (below_made hg)
  | some j =>
    obtain ⟨a, b⟩ := hq j rfl
    exact ⟨h.1, h.2.1.kept hg (.inr a), h.2.2.1, fun i x kv hx hk => ⟨(h.2.2.2 i x kv hx hk).1.off (b i kv hk) hg, (h.2.2.2 i x kv hx hk).2⟩⟩
/-- All of a row's memory lies below. -/
def InsLow (B : Nat) (v : Value) (ks : List Value) : Prop := ∀ j, B ≤ j → v.ownBlock ≠ some j ∧ ∀ (i : Nat) kv, ks[i]? = some kv → Off kv (some j)
theorem InsOwn.low {base : Nat} {w : World} {v : Value} {l : List TIn} {ks : List Value} (h : InsOwn base w v l ks) : InsLow w.heap.size v ks := fun j hj => by
  refine ⟨fun e => ?_, fun i kv hk => ?_⟩
  · have := (h.2.1.lt j e).2
    omega
  · obtain ⟨x, hx⟩ : ∃ x, l[i]? = some x := ⟨_, List.getElem?_eq_getElem (by have := (List.getElem?_eq_some_iff.1 hk).1; have := h.1; omega)⟩
    exact (h.2.2.2 i x kv hx hk).1.fresh hj
theorem txS_laid (bs x1 b1 b2 b3 b4 b5 x6 b6 : List UInt8) (c d1 d2 d3 d4 d5 d6 n1 n2 : Nat) (l1 : List TIn) (l2 : List TOut) (h1 : takeL 4 bs c = (x1, b1, d1)) (h2 : numL 50 b1 d1 = (n1, b2, d2)) (h3 : manyS inP n1 b2 d2 = (l1, b3, d3))
    (h4 : numL 50 b3 d3 = (n2, b4, d4)) (h5 : manyS outP n2 b4 d4 = (l2, b5, d5)) (h6 : takeL 4 b5 d5 = (x6, b6, d6)) : txS bs c = (⟨leN x1, l1, l2, leN x6⟩, b6, d6) := by
  simp only [txS, thenP, mapP, leP_of h1, h2, h3, h4, h5, leP_of h6]
theorem gr_own {w0 w w' : World} {r q : Option Nat} {B : Nat} (h : w0.grownBy w r) (hg : w.grownBy w' q) (hq : ∀ k, q = some k → B ≤ k) (hB : w0.heap.size ≤ B) : w0.grownBy w' r :=
  ⟨hg.os.trans h.os, hg.tape.trans h.tape, hg.output.trans h.output, Nat.le_trans h.size hg.size, fun k hk hne => by
    rw [hg.block k (Nat.lt_of_lt_of_le hk h.size) (fun e => by have := hq k e.symm; omega)]
    exact h.block k hk hne⟩
theorem row_own {w w' : World} {g : Nat} {o : Obj} {q : Option Nat} {B : Nat} (h : w.heap[g]? = some o) (hg : w.grownBy w' q) (hq : ∀ k, q = some k → B ≤ k) (hB : g < B) : w'.heap[g]? = some o :=
  row_far h hg (fun e => by have := hq g e; omega)
end Go.Proofs.YtgcoegbamoehfaaDoor.Sha

/-
  What literals of transactions, inputs, outputs and places lay. No conditions beyond those that each states.
-/
namespace Go.Proofs.YtgcoegbamoehfaaDoor.Sha
open Go Go.RowKit
def zH : List UInt8 := List.replicate 32 0
theorem zH_length : zH.length = 32 := rfl
theorem built_ptn (n : Nat) : Tryd.prog.built 28 [(1, .int .u32 (n : Int))] = some (ptL zH n).toArray := by kernel_rfl
theorem built_inp (x : TIn) (hx : x.h.length = 32) (hs : x.seq = 0) : Tryd.prog.built 43 [(0, .agg (ptL x.h x.n).toArray)] = some (inL x (.slice none 0 0)).toArray := by
  have hz : ∀ parts, Tryd.prog.built 43 parts = Instr.fill ([(0, 33), (33, 1), (34, 1)].toArray[·]?) (List.replicate 32 (bV 0) ++ [nV 0, .slice none 0 0, nV 0]).toArray parts := fun parts => by kernel_rfl
  have hl : (ptL x.h x.n).length = 33 := by simp [ptL, hx]
  rw [hz, fill_part _ 0 0 (.agg (ptL x.h x.n).toArray) (ptL x.h x.n) _ _ rfl (by rw [hl]; rfl) (by rw [hl]; simp)]
  rw [List.take_zero, List.nil_append, Nat.zero_add, hl, inL, hs]
  rfl
theorem built_ink (x : TIn) (hx : x.h.length = 32) (kv : Value) (hk : kv.oneCell' = true) (hs : x.seq = 0) : Tryd.prog.built 43 [(0, .agg (ptL x.h x.n).toArray), (1, kv)] = some (inL x kv).toArray := by
  have hz : ∀ parts, Tryd.prog.built 43 parts = Instr.fill ([(0, 33), (33, 1), (34, 1)].toArray[·]?) (List.replicate 32 (bV 0) ++ [nV 0, .slice none 0 0, nV 0]).toArray parts := fun parts => by kernel_rfl
  have hl : (ptL x.h x.n).length = 33 := by simp [ptL, hx]
  rw [hz, fill_part _ 0 0 (.agg (ptL x.h x.n).toArray) (ptL x.h x.n) _ _ rfl (by rw [hl]; rfl) (by rw [hl]; simp)]
  rw [List.take_zero, List.nil_append, Nat.zero_add, hl]
  rw [fill_part _ 1 33 kv [kv] _ _ (cells_one hk) rfl (by simp [hl])]
  have e : List.drop (33 + [kv].length) (ptL x.h x.n ++ List.drop 33 (List.replicate 32 (bV 0) ++ [nV 0, .slice none 0 0, nV 0])) = [nV 0] := by
    rw [show 33 + [kv].length = (ptL x.h x.n).length + 1 by rw [hl]; rfl, ← List.drop_drop, List.drop_left]
    rfl
  rw [List.take_append_of_le_length (by omega), List.take_of_length_le (by omega), e, inL, hs]
  rw [List.append_assoc]
  rfl
theorem built_txs (iv ov : Value) (h1 : iv.oneCell' = true) (h2 : ov.oneCell' = true) : Tryd.prog.built 49 [(1, iv), (2, ov)] = some [nV 0, iv, ov, nV 0].toArray := by
  have hz : ∀ parts, Tryd.prog.built 49 parts = Instr.fill ([(0, 1), (1, 1), (2, 1), (3, 1)].toArray[·]?) [nV 0, .slice none 0 0, .slice none 0 0, nV 0].toArray parts := fun parts => by kernel_rfl
  rw [hz, fill_part _ 1 1 iv [iv] _ _ (cells_one h1) rfl (by simp), fill_part _ 2 2 ov [ov] _ _ (cells_one h2) rfl (by simp)]
  rfl
theorem built_outv (v : Nat) : Tryd.prog.built 46 [(0, .int .u64 (v : Int))] = some (outL ⟨v, zH⟩).toArray := by kernel_rfl
theorem built_out0 : Tryd.prog.built 46 [] = some (outL ⟨0, zH⟩).toArray := by kernel_rfl
end Go.Proofs.YtgcoegbamoehfaaDoor.Sha

/-
  A view in memory: the set that it is over, what was made by whom, what is spent by whom; which coin is at a place. Conditions: places and coins as the model has them.
-/
namespace Go.Proofs.YtgcoegbamoehfaaDoor.Sha
open Go Go.RowKit
def hK (h : List UInt8) : Value := .agg (h.map bV).toArray
def pK (p : TPt) : Value := .agg (ptC p).toArray
abbrev Made := List (List UInt8 × (Value × List TMn))
abbrev Gone := List (TPt × List UInt8)
theorem hK_inj (a b : List UInt8) (h : hK a = hK b) : a = b := by
  have h1 := Value.agg.inj h
  have h2 := congrArg Array.toList h1
  exact bV_list_inj h2
theorem mty_made : MTy (List UInt8) (Value × List TMn) 25 66 62 hK (fun x => x.1) (fun h => h.length = 32) (.slice none 0 0, []) :=
  ⟨cm_hash_law, by kernel_rfl, hash_keyOf, hK_inj, fun w => by kernel_rfl⟩
theorem mty_spent : MTy TPt (List UInt8) 28 25 63 pK hK PtOk zH :=
  ⟨cm_pt_law, by kernel_rfl, pt_keyOf, fun _ _ => ptC_agg_inj, fun w => by kernel_rfl⟩
/-- A view's box: over the set in box a, with the maps in blocks mb (what was made) and sb (what is spent). -/
structure ViewAt (w : World) (b a : Nat) (m : Option Nat) (mb sb : Nat) (l : List TSp) (made : Made) (gone : Gone) : Prop where
  box : w.heap[b]? = some (.cells #[.pointer (some ⟨a, 0, none⟩), .map (some mb), .map (some sb)] 65 (0, 0))
  set : SetAt w a m l
  mp : MpAt hK (fun x => x.1) (fun h => h.length = 32) w mb made
  gp : MpAt pK hK PtOk w sb gone
  outs : ∀ x ∈ made, RwOwn 35 37 0 w x.2.1 (x.2.2.map mnL) ∧ (∀ c ∈ x.2.2, MnOk c) ∧ x.2.2.length ≤ 1000
  ids : ∀ x ∈ gone, x.2.length = 32
  ne : mb ≠ sb ∧ m ≠ some mb ∧ m ≠ some sb
theorem own_kpsB {F : Nat → Prop} {w w' : World} {base n size : Nat} {e : TypeId} {v : Value} {xs : List Value} (h : w.ownsRow base e size v n xs) (hk : Kps F w w') (hf : ∀ g, v.ownBlock = some g → F g) : w'.ownsRow base e size v n xs := by
  refine ⟨h.1, ?_⟩
  rcases h.2 with hn | ⟨g, cap, cur, rfl, hb, hg, rest⟩
  · exact .inl hn
  · exact .inr ⟨g, cap, cur, rfl, hb, row_kps hg hk (hf g rfl), rest⟩
theorem own_ne' {w : World} {base n k g : Nat} {T T' : TypeId} {v : Value} {xs : List Value} {cs : Array Value} {fr : Nat × Nat} (h : w.ownsRow base T k v n xs) (hg : w.heap[g]? = some (.cells cs T' fr)) (hT : T ≠ T') : v.ownBlock ≠ some g := fun e => by
  obtain ⟨c, fz, hc⟩ := Lib.ownsRow_kind h g e
  rw [hc] at hg
  exact hT (by cases hg; rfl)
theorem own_nemap {α β : Type} {kf : α → Value} {vf : β → Value} {ok : α → Prop} {w : World} {q : Nat} {L : List (α × β)} (hm : MpAt kf vf ok w q L) {base n k : Nat} {T : TypeId} {v : Value} {xs : List Value} (h : w.ownsRow base T k v n xs) : v.ownBlock ≠ some q := fun e => by
  obtain ⟨c, fz, hc⟩ := Lib.ownsRow_kind h q e
  exact hm.ne hc rfl
section
variable {w w' : World} {b a mb sb : Nat} {m : Option Nat} {l : List TSp} {made : Made} {gone : Gone}
theorem ViewAt.kps {F : Nat → Prop} (h : ViewAt w b a m mb sb l made gone) (hk : Kps F w w') (h1 : F b) (h2 : F a) (h3 : ∀ q, m = some q → F q) (h4 : F mb) (h5 : F sb) (h6 : ∀ x ∈ made, ∀ g, x.2.1.ownBlock = some g → F g) : ViewAt w' b a m mb sb l made gone :=
  ⟨row_kps h.box hk h1, h.set.kps hk h2 h3, h.mp.kps hk h4, h.gp.kps hk h5, fun x hx => ⟨⟨own_kpsB (h.outs x hx).1.1 hk (h6 x hx), (h.outs x hx).1.2⟩, (h.outs x hx).2⟩, h.ids, h.ne⟩
theorem ViewAt.below (h : ViewAt w b a m mb sb l made gone) (hb : Below w.heap.size w w') : ViewAt w' b a m mb sb l made gone :=
  h.kps (F := fun k => k < w.heap.size) (Kps.below hb fun _ h _ => h) (Array.getElem?_eq_some_iff.1 h.box).1 (Array.getElem?_eq_some_iff.1 h.set.box).1 h.set.map.lt h.mp.lt h.gp.lt (fun x hx g hg => ((h.outs x hx).1.1.lt g hg).2)
/-- A box of another type turns: the view stays. -/
theorem ViewAt.far (h : ViewAt w b a m mb sb l made gone) {g : Nat} (hg : w.grownBy w' (some g)) {cs : Array Value} {T : TypeId} {fr : Nat × Nat} (hc : w.heap[g]? = some (.cells cs T fr)) (h1 : T ≠ 65 := by decide) (h2 : T ≠ 32 := by decide) (h3 : 37 ≠ T := by decide) : ViewAt w' b a m mb sb l made gone :=
  h.kps (F := fun k => k ≠ g) (Kps.grown hg fun k _ hk e => hk (Option.some.inj e)) (fun e => by subst e; have := h.box; rw [hc] at this; exact h1 (by cases this; rfl)) (fun e => (h.set.boxne h2 hc) e.symm) (fun q hq e => h.set.rowne hc (by rw [hq, e])) (fun e => h.mp.ne hc e.symm) (fun e => h.gp.ne hc e.symm) (fun x hx k hk e => own_ne' (h.outs x hx).1.1 hc h3 (by rw [hk, e]))
/-- Whatever leaves blocks of cells of other types leaves those facts; what a view's calls leave: all but its two maps. -/
def VF (mb sb : Nat) (k : Nat) : Prop := k ≠ mb ∧ k ≠ sb
theorem ViewAt.rowF (h : ViewAt w b a m mb sb l made gone) {g : Nat} {cs : Array Value} {T : TypeId} {fr : Nat × Nat} (hc : w.heap[g]? = some (.cells cs T fr)) : VF mb sb g := ⟨h.mp.ne hc, h.gp.ne hc⟩
theorem ViewAt.ownF (h : ViewAt w b a m mb sb l made gone) {base n k : Nat} {T : TypeId} {v : Value} {xs : List Value} (ho : w.ownsRow base T k v n xs) : ∀ g, v.ownBlock = some g → VF mb sb g := fun g hg =>
  ⟨fun e => own_nemap h.mp ho (by rw [hg, e]), fun e => own_nemap h.gp ho (by rw [hg, e])⟩
theorem ViewAt.ptr (h : ViewAt w b a m mb sb l made gone) : w.cell? ⟨b, 0, none⟩ = some (.pointer (some ⟨a, 0, none⟩)) := by rw [cell_of_row _ _ _ _ _ _ h.box]; rfl
theorem ViewAt.mcell (h : ViewAt w b a m mb sb l made gone) : w.cell? ⟨b, 1, none⟩ = some (.map (some mb)) := by rw [cell_of_row _ _ _ _ _ _ h.box]; rfl
theorem ViewAt.scell (h : ViewAt w b a m mb sb l made gone) : w.cell? ⟨b, 2, none⟩ = some (.map (some sb)) := by rw [cell_of_row _ _ _ _ _ _ h.box]; rfl
/-- What was put under an id made these coins. -/
def outsV (made : Made) (h : List UInt8) : List TMn := ((getG made h).getD (.slice none 0 0, [])).2
theorem ViewAt.look (h : ViewAt w b a m mb sb l made gone) (i : List UInt8) : RwAt 35 w ((getG made i).getD (.slice none 0 0, [])).1 ((outsV made i).map mnL) ∧ (∀ c ∈ outsV made i, MnOk c) ∧ (outsV made i).length ≤ 1000 := by
  unfold outsV
  cases hg : getG made i with
  | none =>
    refine ⟨RwAt.nil 35 w none 0, fun c hc => ?_, Nat.zero_le _⟩
    simp at hc
  | some x =>
    have h1 := h.outs _ (getG_mem hg)
    exact ⟨h1.1.at (by omega), h1.2⟩
/-- The coin at a place, if there is one that is not spent. -/
def vGet (l : List TSp) (made : Made) (gone : Gone) (p : TPt) : Option TMn :=
  if (getG gone p).isSome then none else if (getC l p).isSome then getC l p else (outsV made p.h)[p.n]?
theorem ViewAt.ok (h : ViewAt w b a m mb sb l made gone) (p : TPt) : MnOk ((vGet l made gone p).getD mnZ) := by
  unfold vGet
  split
  · exact mnZ_ok
  · split
    · exact getD_ok h.set.map.ok p
    · cases hx : (outsV made p.h)[p.n]? with
      | none => exact mnZ_ok
      | some c => exact (h.look p.h).2.1 c (List.mem_of_getElem? hx)
end
/-- What an input spends. -/
def ptIn (x : TIn) : TPt := ⟨x.h, x.n⟩
theorem vtx_parts {W : World} {t : TTx} {iv ov : Value} (h : TxAt W (.agg (txL t iv ov).toArray) t) : InsAt W iv t.ins ∧ OutsAt W ov t.outs := by
  obtain ⟨_, iv', ov', e, h1, h2⟩ := h
  have e1 := congrArg Array.toList (Value.agg.inj e)
  simp only [txL, List.cons.injEq] at e1
  obtain ⟨_, rfl, rfl, _⟩ := e1
  exact ⟨h1, h2⟩
set_option maxRecDepth 100000 in
theorem vwlen_any (w : World) (b a mb sb : Nat) (m : Option Nat) (l : List TSp) (made : Made) (gone : Gone) (h : ViewAt w b a m mb sb l made gone) :
    Calls Tryd.prog 11 #[.pointer (some ⟨b, 0, none⟩)] w fun e w' => e = .returned (.int .i64 (made.length : Int)) ∧ w = w' := by
  have c0 := h.mcell
  have hq := fun ty => gm_len mty_made h.mp ty
  clear h
  go_enter Tryd.func11, Tryd.ntmps11
  go_wp2
  go_ret
  exact ⟨rfl, rfl⟩
end Go.Proofs.YtgcoegbamoehfaaDoor.Sha

/-
  A coin is spent, or added; the map alone turns, and the set's box where it had none. Conditions: the set lies where the pointer says; a place, a coin as the model has them; the errors are there.
-/
namespace Go.Proofs.YtgcoegbamoehfaaDoor.Sha
open Go Go.RowKit
theorem wp_delete_cn {op : Oper} {a : Act} {w : World} {K : Act → World → Prop} {Q : Exit → Act → World → Prop} (x y : Operand) (ho : op.op = Op.call { callee := Callee.builtin Builtin.delete, args := #[x, y], argTypes := #[30, 28] })
    (b : Nat) (l : List TSp) (p : TPt) (hp : PtOk p) (hx : a.eval x = .map (some b)) (hy : a.eval y = .agg (ptC p).toArray) (hm : MapAt w b l) (hK : ∀ w', MapAt w' b (delC l p) → w.grownBy w' (some b) → K (a.put op.dst (.tuple #[])) w') : op.wp Tryd.prog a w K Q := by
  obtain ⟨w', hrun, r1, r2⟩ := map_del hm p hp op.type
  unfold Oper.wp
  simp [execOp, ho, resolve, invoke, builtin, hx, hy, hrun, Result.andThen]
  exact hK w' r1 r2
theorem wp_put_cn {op : Oper} {a : Act} {w : World} {K : Act → World → Prop} {Q : Exit → Act → World → Prop} (x y z : Operand) (ho : op.op = Op.mapUpdate 30 x y z)
    (b : Nat) (l : List TSp) (p : TPt) (hp : PtOk p) (c : TMn) (hc : MnOk c) (hn : getC l p = none) (hx : a.eval x = .map (some b)) (hy : a.eval y = .agg (ptC p).toArray) (hz : a.eval z = .agg (mnL c).toArray) (hm : MapAt w b l)
    (hK : ∀ w', MapAt w' b (l ++ [⟨p, c⟩]) → w.grownBy w' (some b) → K (a.put op.dst undef) w') : op.wp Tryd.prog a w K Q := by
  obtain ⟨w', hrun, r1, r2⟩ := map_put hm p hp c hc hn
  unfold Oper.wp
  simp [execOp, ho, hx, hy, hz, hrun, Result.andThen]
  exact hK w' r1 r2
theorem Kps.far {F : Nat → Prop} {w w1 w2 : World} {g : Nat} (h : Kps F w w1) (hg : w1.grownBy w2 (some g)) (hge : w.heap.size ≤ g) : Kps F w w2 :=
  ⟨hg.os.trans h.os, hg.tape.trans h.tape, hg.output.trans h.output, Nat.le_trans h.size hg.size, fun k hk hf => (hg.block k (Nat.lt_of_lt_of_le hk h.size) (fun e => by have := Option.some.inj e; omega)).trans (h.block k hk hf)⟩
/-- The errors that a set tells. -/
structure EC (w : World) (E : Nat → Addr) : Prop where
  value : w.cell? ⟨0, 0, none⟩ = some (errV E 5)
  twice : w.cell? ⟨1, 0, none⟩ = some (errV E 6)
  missing : w.cell? ⟨2, 0, none⟩ = some (errV E 13)
theorem EC.of {w : World} {E : Nat → Addr} (h : Errs w E) : EC w E := ⟨(h.1 4 (by omega)).1, (h.1 5 (by omega)).1, (h.1 12 (by omega)).1⟩
theorem cell_below {w w' : World} {p : Addr} {v : Value} (h : w.cell? p = some v) (hb : Below w.heap.size w w') : w'.cell? p = some v := by
  rw [hb.cell (World.block_lt_of_cell? w _ h)]
  exact h
theorem EC.below {w w' : World} {E : Nat → Addr} (h : EC w E) (hb : Below w.heap.size w w') : EC w' E := ⟨cell_below h.value hb, cell_below h.twice hb, cell_below h.missing hb⟩
theorem getC_opt {l : List TSp} {p : TPt} (h : (getC l p).isSome = false) : getC l p = none := by
  cases hg : getC l p with
  | none => rfl
  | some c => rw [hg] at h; cases h
theorem delC_none {l : List TSp} {p : TPt} (h : getC l p = none) : delC l p = l := List.filter_eq_self.2 (fun x hx => by simpa using getC_ne h x hx)
end Go.Proofs.YtgcoegbamoehfaaDoor.Sha
