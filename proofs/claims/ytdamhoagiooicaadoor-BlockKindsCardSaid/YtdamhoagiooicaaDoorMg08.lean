/-
  Texts of this proof joined into one file: TxTakeM, TxStore, TxC, TxC2, HdVal, Keep, Txs, HdStore, TxTakeIn, TxTakeW0, BlStore, MkConcat, BlConcat, TxBuilds. What each holds, and under which conditions, its own first sentence tells.
-/
import Derived.Maps.AppendAt
import Derived.Lib.AppendZerosOnto
import Derived.Lib.Walk
import Derived.IntWalk
import Derived.Test.YtdamhoagiooicaaDoorMg07
import Derived.Test.YtdamhoagiooicaaDoorMg06
import Derived.Test.YtdamhoagiooicaaDoorMg04
import Derived.Test.YtdamhoagiooicaaDoorMg02
import Derived.Test.YtdamhoagiooicaaDoorMg03
import Derived.Test.YtdamhoagiooicaaDoorMg01
/-
  Plain mathematics of so many things read one behind the other, whether or not an error was met between: they leave and meet what those do that stop at the first error. No conditions.
-/
namespace Go.Proofs.YtdamhoagiooicaaDoor.Sha
open Go Go.RowKit
section
variable {α β : Type} {p q : Par α}
/-- So many, whatever is met. -/
def manyS (p : Par α) : Nat → Par (List α)
  | 0, bs, c => ([], bs, c)
  | n + 1, bs, c => ((manyS p n bs c).1 ++ [(p (manyS p n bs c).2.1 (manyS p n bs c).2.2).1], (p (manyS p n bs c).2.1 (manyS p n bs c).2.2).2)
theorem manyS_cons (p : Par α) : ∀ (n : Nat) (bs : List UInt8) (c : Nat), manyS p (n + 1) bs c = thenP p (fun a => mapP (a :: ·) (manyS p n)) bs c
  | 0, bs, c => rfl
  | n + 1, bs, c => by
    have ih := manyS_cons p n bs c
    rw [manyS, ih]
    rfl
theorem manyS_length (p : Par α) : ∀ (n : Nat) (bs : List UInt8) (c : Nat), (manyS p n bs c).1.length = n
  | 0, _, _ => rfl
  | n + 1, bs, c => by
    rw [manyS]
    simp [manyS_length p n bs c]
/-- Behind an error nothing is read. -/
def Still (p : Par α) : Prop := ∀ bs c, c ≠ 0 → (p bs c).2 = (bs, c)
theorem Still.andThen {f : α → Par β} (h1 : Still p) (h2 : ∀ a, Still (f a)) : Still (thenP p f) := fun bs c hc => by
  have e := h1 bs c hc
  unfold thenP
  rw [e]
  exact h2 _ bs c hc
theorem Still.map (f : α → β) (h : Still p) : Still (mapP f p) := fun bs c hc => h bs c hc
theorem still_manyS (h : Still p) : ∀ n, Still (manyS p n)
  | 0 => fun _ _ _ => rfl
  | n + 1 => fun bs c hc => by
    have e := still_manyS h n bs c hc
    rw [manyS, e]
    exact h bs c hc
theorem still_manyP (_h : Still p) : ∀ n, Still (manyP p n)
  | 0 => fun _ _ _ => rfl
  | n + 1 => fun bs c hc => by
    rw [manyP, if_pos hc]
/-- Two that leave and meet the same, and are the same where nothing is met. -/
def Sim (p q : Par α) : Prop := ∀ bs c, (p bs c).2 = (q bs c).2 ∧ ((p bs c).2.2 = 0 → p bs c = q bs c)
theorem Sim.refl (p : Par α) : Sim p p := fun _ _ => ⟨rfl, fun _ => rfl⟩
theorem Sim.andThen {f g : α → Par β} (h1 : Sim p q) (h2 : ∀ a, Sim (f a) (g a)) (s1 : ∀ a, Still (f a)) (s2 : ∀ a, Still (g a)) : Sim (thenP p f) (thenP q g) := fun bs c => by
  obtain ⟨e1, e2⟩ := h1 bs c
  unfold thenP
  by_cases hd : (p bs c).2.2 = 0
  · have e := e2 hd
    rw [← e]
    exact h2 _ _ _
  · rw [← e1]
    have a1 := s1 (p bs c).1 (p bs c).2.1 (p bs c).2.2 hd
    have a2 := s2 (q bs c).1 (p bs c).2.1 (p bs c).2.2 hd
    exact ⟨a1.trans a2.symm, fun h0 => by rw [a1] at h0; exact absurd h0 hd⟩
theorem Sim.map (f : α → β) (h : Sim p q) : Sim (mapP f p) (mapP f q) := fun bs c => by
  obtain ⟨e1, e2⟩ := h bs c
  unfold mapP
  exact ⟨e1, fun h0 => by rw [e2 h0]⟩
theorem sim_many (h : Still p) : ∀ n, Sim (manyP p n) (manyS p n)
  | 0 => fun _ _ => ⟨rfl, fun _ => rfl⟩
  | n + 1 => fun bs c => by
    by_cases hc : c ≠ 0
    · have e := still_manyS h (n + 1) bs c hc
      rw [e, manyP, if_pos hc]
      exact ⟨rfl, fun h0 => absurd h0 hc⟩
    · rw [manyS_cons, manyP, if_neg hc]
      exact (Sim.refl p).andThen (fun a => (sim_many h n).map (a :: ·)) (fun a => (still_manyP h n).map _) (fun a => (still_manyS h n).map _) bs c
end
theorem still_take (k : Nat) : Still (takeL k) := fun bs c hc => by rw [takeL_err k bs c hc]
theorem still_num (most : Nat) : Still (numL most) := fun bs c hc => by rw [numL_err most bs c hc]
theorem still_le (k : Nat) : Still (leP k) := (still_take k).map _
theorem still_in : Still inP := (still_take 32).andThen fun _ => (still_le 4).andThen fun _ => (still_num 80).andThen fun k => (still_take k).andThen fun _ => (still_le 4).map _
theorem still_out : Still outP := (still_le 8).andThen fun _ => (still_take 32).map _
/-- A transaction, whatever is met between. -/
def txS : Par TTx := thenP (leP 4) fun v => thenP (numL 50) fun n => thenP (manyS inP n) fun is => thenP (numL 50) fun m => thenP (manyS outP m) fun os => mapP (fun t => ⟨v, is, os, t⟩) (leP 4)
theorem sim_tx : Sim txP txS :=
  (Sim.refl _).andThen (fun _ => (Sim.refl _).andThen (fun n => (sim_many still_in n).andThen (fun _ => (Sim.refl _).andThen (fun m => (sim_many still_out m).andThen (fun _ => Sim.refl _) (fun _ => (still_le 4).map _) (fun _ => (still_le 4).map _))
    (fun m => (still_manyP still_out m).andThen fun _ => (still_le 4).map _) (fun m => (still_manyS still_out m).andThen fun _ => (still_le 4).map _))
    (fun _ => (still_num 50).andThen fun m => (still_manyP still_out m).andThen fun _ => (still_le 4).map _) (fun _ => (still_num 50).andThen fun m => (still_manyS still_out m).andThen fun _ => (still_le 4).map _))
    (fun n => (still_manyP still_in n).andThen fun _ => (still_num 50).andThen fun m => (still_manyP still_out m).andThen fun _ => (still_le 4).map _) (fun n => (still_manyS still_in n).andThen fun _ => (still_num 50).andThen fun m => (still_manyS still_out m).andThen fun _ => (still_le 4).map _))
    (fun _ => (still_num 50).andThen fun n => (still_manyP still_in n).andThen fun _ => (still_num 50).andThen fun m => (still_manyP still_out m).andThen fun _ => (still_le 4).map _) (fun _ => (still_num 50).andThen fun n => (still_manyS still_in n).andThen fun _ => (still_num 50).andThen fun m => (still_manyS still_out m).andThen fun _ => (still_le 4).map _)
theorem takeTx_S (bs : List UInt8) (c : Nat) : takeTx bs c = if (txS bs c).2.2 = 0 then txS bs c else (noTx, (txS bs c).2) := by
  obtain ⟨e1, e2⟩ := sim_tx bs c
  unfold takeTx
  rw [← e1]
  split
  · rename_i h
    exact e2 h
  · rfl
/-- What is left is no longer than what was there. -/
def Less {α : Type} (p : Par α) : Prop := ∀ bs c, (p bs c).2.1.length ≤ bs.length
theorem less_take (k : Nat) : Less (takeL k) := fun bs c => by
  unfold takeL
  split
  · exact Nat.le_refl _
  · split
    · exact Nat.le_refl _
    · rw [List.length_drop]; omega
theorem Less.andThen {α β : Type} {p : Par α} {f : α → Par β} (h1 : Less p) (h2 : ∀ a, Less (f a)) : Less (thenP p f) := fun bs c => Nat.le_trans (h2 _ _ _) (h1 bs c)
theorem Less.map {α β : Type} {p : Par α} (f : α → β) (h : Less p) : Less (mapP f p) := h
theorem less_le (k : Nat) : Less (leP k) := (less_take k).map _
/-- What Num answers out of the bytes that it took. -/
def numEnd (most k : Nat) (u : List UInt8 × List UInt8 × Nat) : Nat × List UInt8 × Nat :=
  if u.2.2 ≠ 0 then (0, u.2.1, u.2.2) else if lenN (leN u.1) ≠ 1 + k then (0, u.2.1, 2) else if most < leN u.1 then (0, u.2.1, 4) else (leN u.1, u.2.1, 0)
theorem numL_end (most : Nat) (bs : List UInt8) (c : Nat) : numL most bs c = numEnd most (widN (leN (takeL 1 bs c).1)) (if widN (leN (takeL 1 bs c).1) = 0 then takeL 1 bs c else takeL (widN (leN (takeL 1 bs c).1)) (takeL 1 bs c).2.1 (takeL 1 bs c).2.2) := rfl
theorem numEnd_le (most k : Nat) (u : List UInt8 × List UInt8 × Nat) : (numEnd most k u).1 ≤ most ∧ (numEnd most k u).2.1 = u.2.1 := by
  unfold numEnd
  split
  · exact ⟨Nat.zero_le _, rfl⟩
  · split
    · exact ⟨Nat.zero_le _, rfl⟩
    · split
      · exact ⟨Nat.zero_le _, rfl⟩
      · rename_i h
        exact ⟨Nat.le_of_not_lt h, rfl⟩
theorem less_num (most : Nat) : Less (numL most) := fun bs c => by
  have h1 := less_take 1 bs c
  have h2 := less_take (widN (leN (takeL 1 bs c).1)) (takeL 1 bs c).2.1 (takeL 1 bs c).2.2
  rw [numL_end, (numEnd_le _ _ _).2]
  split
  · exact h1
  · exact Nat.le_trans h2 h1
theorem less_manyS {α : Type} {p : Par α} (h : Less p) : ∀ n, Less (manyS p n)
  | 0 => fun _ _ => Nat.le_refl _
  | n + 1 => fun bs c => Nat.le_trans (h _ _) (less_manyS h n bs c)
theorem less_in : Less inP := (less_take 32).andThen fun _ => (less_le 4).andThen fun _ => (less_num 80).andThen fun k => (less_take k).andThen fun _ => (less_le 4).map _
theorem less_out : Less outP := (less_le 8).andThen fun _ => (less_take 32).map _
theorem numL_most (most : Nat) (bs : List UInt8) (c : Nat) : (numL most bs c).1 ≤ most := by
  rw [numL_end]
  exact (numEnd_le _ _ _).1
theorem leP_lt (k : Nat) (bs : List UInt8) (c : Nat) : (leP k bs c).1 < 256 ^ k := by
  have h := takeL_le k bs c
  exact Nat.lt_of_lt_of_le (leN_lt _) (Nat.pow_le_pow_right (by omega) h)
theorem pow4 : (256 : Nat) ^ 4 = 4294967296 := by decide
theorem pow8 : (256 : Nat) ^ 8 = 18446744073709551616 := by decide
theorem le4 (bs : List UInt8) (c : Nat) : (leP 4 bs c).1 ≤ 4294967295 := by
  have := leP_lt 4 bs c
  rw [pow4] at this
  omega
theorem le8 (bs : List UInt8) (c : Nat) : (leP 8 bs c).1 ≤ 18446744073709551615 := by
  have := leP_lt 8 bs c
  rw [pow8] at this
  omega
theorem inP_laid (bs x1 b1 b2 b3 x3 b4 b5 : List UInt8) (c d1 d2 d3 d4 d5 n k s : Nat) (h1 : takeL 32 bs c = (x1, b1, d1)) (h2 : leP 4 b1 d1 = (n, b2, d2)) (h3 : numL 80 b2 d2 = (k, b3, d3)) (h4 : takeL k b3 d3 = (x3, b4, d4)) (h5 : leP 4 b4 d4 = (s, b5, d5)) :
    inP bs c = (⟨padH x1, n, x3, s⟩, b5, d5) := by
  simp only [inP, thenP, mapP, h1, h2, h3, h4, h5]
theorem inP_ok (bs : List UInt8) (c : Nat) : InOk (inP bs c).1 := by
  obtain ⟨x1, b1, d1, h1⟩ : ∃ x b d, takeL 32 bs c = (x, b, d) := ⟨_, _, _, rfl⟩
  obtain ⟨n, b2, d2, h2⟩ : ∃ x b d, leP 4 b1 d1 = (x, b, d) := ⟨_, _, _, rfl⟩
  obtain ⟨k, b3, d3, h3⟩ : ∃ x b d, numL 80 b2 d2 = (x, b, d) := ⟨_, _, _, rfl⟩
  obtain ⟨x3, b4, d4, h4⟩ : ∃ x b d, takeL k b3 d3 = (x, b, d) := ⟨_, _, _, rfl⟩
  obtain ⟨s, b5, d5, h5⟩ : ∃ x b d, leP 4 b4 d4 = (x, b, d) := ⟨_, _, _, rfl⟩
  rw [inP_laid bs x1 b1 b2 b3 x3 b4 b5 c d1 d2 d3 d4 d5 n k s h1 h2 h3 h4 h5]
  have a1 := takeL_le 32 bs c
  have a2 := le4 b1 d1
  have a3 := le4 b4 d4
  rw [h1] at a1
  rw [h2] at a2
  rw [h5] at a3
  exact ⟨padH_length a1, a2, a3⟩
theorem outP_laid (bs x2 b1 b2 : List UInt8) (c d1 d2 v : Nat) (h1 : leP 8 bs c = (v, b1, d1)) (h2 : takeL 32 b1 d1 = (x2, b2, d2)) : outP bs c = (⟨v, padH x2⟩, b2, d2) := by
  simp only [outP, thenP, mapP, h1, h2]
theorem outP_ok (bs : List UInt8) (c : Nat) : OutOk (outP bs c).1 := by
  obtain ⟨v, b1, d1, h1⟩ : ∃ x b d, leP 8 bs c = (x, b, d) := ⟨_, _, _, rfl⟩
  obtain ⟨x2, b2, d2, h2⟩ : ∃ x b d, takeL 32 b1 d1 = (x, b, d) := ⟨_, _, _, rfl⟩
  rw [outP_laid bs x2 b1 b2 c d1 d2 v h1 h2]
  have a1 := le8 bs c
  have a2 := takeL_le 32 b1 d1
  rw [h1] at a1
  rw [h2] at a2
  exact ⟨padH_length a2, a1⟩
end Go.Proofs.YtdamhoagiooicaaDoor.Sha

/-
  A value is stored into a part of a block of one's own; a Reader that stands on low memory. No conditions beyond those that each states.
-/
namespace Go.Proofs.YtdamhoagiooicaaDoor.Sha
open Go Go.RowKit
section
variable {P : Program}
theorem setRow_grown {w : World} {g : Nat} (cs : Array Value) : w.grownBy (w.setRow g cs) (some g) := by
  refine ⟨rfl, rfl, rfl, by simp [World.setRow], fun k _ hk => ?_⟩
  simp only [World.setRow]
  rw [Array.getElem?_modify, if_neg (fun e => hk (by rw [e]))]
theorem run_store_part {w : World} (ty : TypeId) (g o : Nat) (A old C new : List Value) (T : TypeId) (v : Value) (hv : v.cells = new.toArray) (hA : A.length = o) (hlen : old.length = new.length)
    (hg : w.heap[g]? = some (.cells (A ++ old ++ C).toArray T (0, 0))) (hi : (P.info? ty).map (·.size) = some new.length) (h1 : ∀ u ∈ new, u.oneCell' = true) :
    (storeVar ty ⟨g, o, none⟩ v).run P w = .ok () (w.setRow g (A ++ new ++ C).toArray) := by
  have h := run_storeCells_at P g o T new 0 (A ++ old ++ C).toArray w hg (by simp; omega) h1
  have e : ((A ++ old ++ C).toArray.toList.take (o + 0) ++ new ++ (A ++ old ++ C).toArray.toList.drop (o + 0 + new.length)).toArray = (A ++ new ++ C).toArray := by
    congr 1
    subst hA
    simp only [Nat.add_zero]
    rw [List.append_assoc A old C, List.take_left, ← List.drop_drop, List.drop_left, ← hlen, List.drop_left]
  rw [e] at h
  cases hq : P.info? ty with
  | none => simp [hq] at hi
  | some i =>
    have hs : i.size = new.length := by simpa [hq] using hi
    simp [storeVar, sizeOf, typeInfo, hq, hv, hs]
    simpa using h
theorem wp_store_part {op : Oper} {a : Act} {w : World} {K : Act → World → Prop} {Q : Exit → Act → World → Prop} (ty : TypeId) (x y : Operand) (ho : op.op = .store ty x y)
    (g o : Nat) (A old C new : List Value) (T : TypeId) (v : Value) (hx : a.eval x = .pointer (some ⟨g, o, none⟩)) (hy : a.eval y = v) (hv : v.cells = new.toArray) (hA : A.length = o) (hlen : old.length = new.length)
    (hg : w.heap[g]? = some (.cells (A ++ old ++ C).toArray T (0, 0))) (hi : (P.info? ty).map (·.size) = some new.length) (h1 : ∀ u ∈ new, u.oneCell' = true)
    (h : ∀ w', w'.heap[g]? = some (.cells (A ++ new ++ C).toArray T (0, 0)) → w.grownBy w' (some g) → K (a.put op.dst undef) w') : op.wp P a w K Q := by
  unfold Oper.wp execOp
  simp only [ho, hx, hy, Instr.storeAt, Instr.sureAddr, Sem.run_bind, Sem.run_pure, Result.andThen_ok, run_store_part ty g o A old C new T v hv hA hlen hg hi h1]
  exact h _ (setRow_heap _ _ _ _ _ _ hg) (setRow_grown _)
theorem wpList_store_part {ops : Array Oper} {rest : List Oper} {op : Oper} {a : Act} {w : World} {Q : Exit → Act → World → Prop} (hgd : op.guard = none) (ty : TypeId) (x y : Operand) (ho : op.op = .store ty x y)
    (g o : Nat) (A old C new : List Value) (T : TypeId) (v : Value) (hx : a.eval x = .pointer (some ⟨g, o, none⟩)) (hy : a.eval y = v) (hv : v.cells = new.toArray) (hA : A.length = o) (hlen : old.length = new.length)
    (hg : w.heap[g]? = some (.cells (A ++ old ++ C).toArray T (0, 0))) (hi : (P.info? ty).map (·.size) = some new.length) (h1 : ∀ u ∈ new, u.oneCell' = true)
    (h : ∀ w', w'.heap[g]? = some (.cells (A ++ new ++ C).toArray T (0, 0)) → w.grownBy w' (some g) → wpList P ops Q rest (a.put op.dst undef) w') : wpList P ops Q (op :: rest) a w :=
  wpList_plain hgd fun _ hK => wp_store_part ty x y ho g o A old C new T v hx hy hv hA hlen hg hi h1 (fun w' a1 a2 => hK _ _ (h w' a1 a2))
end
theorem row_far {w w' : World} {g : Nat} {q : Option Nat} {o : Obj} (h : w.heap[g]? = some o) (hg : w.grownBy w' q) (hq : q ≠ some g) : w'.heap[g]? = some o := by
  rw [hg.block g (Array.getElem?_eq_some_iff.1 h).1 (fun e => hq e.symm)]
  exact h
theorem gr_low {w0 w w' : World} {r : Option Nat} {g : Nat} (h : w0.grownBy w r) (hg : w.grownBy w' (some g)) (hq : w0.heap.size ≤ g) : w0.grownBy w' r := grown_over h hg (.inr ⟨g, rfl, hq⟩)
theorem own_off {w : World} {base n k : Nat} {e : TypeId} {v : Value} {xs : List Value} {size : Nat} (h : w.ownsRow base e size v n xs) (hk : k < base) : Off v (some k) := fun sp m cap hv _ e => by
  have h1 := (h.lt sp.block (by rw [hv]; rfl)).1
  have := Option.some.inj e
  omega
end Go.Proofs.YtdamhoagiooicaaDoor.Sha

/-
  What package tx is shown to answer of a transaction's digest, as a hypothesis for the statements' walks. No conditions.
-/
namespace Go.Proofs.YtdamhoagiooicaaDoor.Sha
open Go Go.RowKit
def IdC : Prop := ∀ (t : TTx) (v : Value) (w : World), KTab w → TxAt w v t → TxSmall t →
  Calls Tryd.prog 57 #[v] w fun e w' => e = .returned (.agg ((sha (sha (txB t))).map bV).toArray) ∧ Below w.heap.size w w'
end Go.Proofs.YtdamhoagiooicaaDoor.Sha

/-
  What package tx is shown to answer of bytes as a transaction, as a hypothesis; what is read is small. No conditions.
-/
namespace Go.Proofs.YtdamhoagiooicaaDoor.Sha
open Go Go.RowKit
/-- What bytes are as a transaction. -/
structure ReadIs (bs : List UInt8) (t : TTx) (c : Nat) : Prop where
  eq : readTx bs = (t, c)
theorem ReadIs.back {bs : List UInt8} {t : TTx} {c : Nat} (h : ReadIs bs t c) (hc : c = 0) : bs = txB t ∧ TxRead t := by
  have h2 := read_back (b := bs) ((congrArg Prod.snd h.eq).trans hc)
  rw [h.eq] at h2
  exact h2
theorem TxRead.small {t : TTx} (h : TxRead t) : TxSmall t :=
  ⟨⟨h.1, h.2.1, h.2.2.1, fun x hx => Nat.le_trans (h.2.2.2.1 x hx) (by omega), Nat.le_trans h.2.2.2.2.1 (by omega), Nat.le_trans h.2.2.2.2.2 (by omega)⟩, Nat.le_trans h.2.2.2.2.1 (by omega), Nat.le_trans h.2.2.2.2.2 (by omega), fun x hx => Nat.le_trans (h.2.2.2.1 x hx) (by omega)⟩
theorem tx_one {w : World} {t : TTx} {iv ov : Value} (h1 : InsAt w iv t.ins) (h2 : OutsAt w ov t.outs) : (txL t iv ov).toArray.all (·.oneCell') = true := by
  obtain ⟨_, _, rfl, _⟩ := h1
  obtain ⟨_, _, rfl, _⟩ := h2
  rw [Array.all_eq_true_iff_forall_mem]
  intro x hx
  simp [txL] at hx
  rcases hx with rfl | rfl | rfl | rfl <;> rfl
theorem box1 (w : World) (x : List Value) (T : TypeId) : Below w.heap.size w (w.alloc (.cells x.toArray T)) ∧ (w.alloc (.cells x.toArray T)).heap[w.heap.size]? = some (.cells x.toArray T (0, 0)) :=
  ⟨(Below.refl _ _).alloc (Nat.le_refl _) _, heap_alloc_new _ _⟩
theorem read_pair (bs : List UInt8) : ∃ u c, ReadIs bs u c := by
  obtain ⟨u, c, h⟩ : ∃ u c, readTx bs = (u, c) := by
    generalize readTx bs = p
    exact ⟨p.1, p.2, rfl⟩
  exact ⟨u, c, ⟨h⟩⟩
theorem txB_ten (t : TTx) : 10 ≤ (txB t).length := by
  have h1 := lenN_bd t.ins.length
  have h2 := lenN_bd t.outs.length
  simp only [txB, List.length_append, leB_length, putL_length]
  omega
/-- A transaction's zero cells. -/
def txZ : Array Value := #[.int .u32 0, .slice none 0 0, .slice none 0 0, .int .u32 0]
theorem fine_check {t : TTx} (h : checkC t = 0) : checkN t = 0 := by
  unfold checkC checkN at *
  split at h
  · omega
  rename_i h1
  rw [if_neg h1]
  split at h
  · omega
  rename_i h2
  rw [if_neg h2]
  split at h
  · omega
  rename_i h3
  rw [if_neg h3]
  split at h
  · omega
  rename_i h4
  rw [if_neg h4]
  split at h
  · omega
  rename_i h5
  rw [if_neg h5]
  split at h
  · rename_i h6
    rw [if_pos h6]
    split at h
    · omega
    · rename_i h7
      rw [if_neg h7]
  · rename_i h6
    rw [if_neg h6]
    split at h
    · omega
    · rename_i h7
      rw [if_neg h7]
end Go.Proofs.YtdamhoagiooicaaDoor.Sha

/-
  A block's header as the model has it: 68 cells; where its parts lie. Conditions: digests of 32 bytes.
-/
namespace Go.Proofs.YtdamhoagiooicaaDoor.Sha
open Go Go.RowKit
/-- A header's cells. -/
def hdL (h : THd) : List Value := nV h.ver :: (h.prev.map bV ++ (h.root.map bV ++ [nV h.time, nV h.work, nV h.nonce]))
theorem hdL_length {h : THd} (hh : HdOk h) : (hdL h).length = 68 := by simp [hdL, hh.2.1, hh.2.2.1]
theorem hdL_size {h : THd} (hh : HdOk h) : (hdL h).toArray.size = 68 := by rw [List.size_toArray]; exact hdL_length hh
theorem hdL_one' (h : THd) : ∀ v ∈ hdL h, v.oneCell' = true := by
  intro v hv
  rcases List.mem_cons.1 hv with rfl | h1
  · rfl
  rcases List.mem_append.1 h1 with h1 | h1
  · exact bV_one' _ v h1
  rcases List.mem_append.1 h1 with h1 | h1
  · exact bV_one' _ v h1
  · simp only [List.mem_cons, List.not_mem_nil, or_false] at h1
    rcases h1 with rfl | rfl | rfl <;> rfl
theorem hdL_one (h : THd) : (hdL h).toArray.all (·.oneCell') = true := all_oneCell_toArray (hdL_one' h)
/-- The parts' cells. -/
theorem hdL_at {h : THd} (hh : HdOk h) : (hdL h)[0]? = some (nV h.ver) ∧ (hdL h)[65]? = some (nV h.time) ∧ (hdL h)[66]? = some (nV h.work) ∧ (hdL h)[67]? = some (nV h.nonce) := by
  have h1 : (h.prev.map bV).length = 32 := by simp [hh.2.1]
  have h2 : (h.root.map bV).length = 32 := by simp [hh.2.2.1]
  have e : hdL h = [nV h.ver] ++ h.prev.map bV ++ h.root.map bV ++ [nV h.time, nV h.work, nV h.nonce] := by simp [hdL]
  refine ⟨rfl, ?_, ?_, ?_⟩ <;> (rw [e, List.getElem?_append_right (by simp only [List.length_append, h1, h2, List.length_cons, List.length_nil]; omega)]; simp only [List.length_append, h1, h2, List.length_cons, List.length_nil]; rfl)
theorem range_part {w : World} {b o : Nat} {xs ys zs : List Value} (h : w.rangeAt b o (xs ++ (ys ++ zs))) : w.rangeAt b (o + xs.length) ys := fun j v hj => by
  rw [Nat.add_assoc]
  refine h (xs.length + j) v ?_
  rw [List.getElem?_append_right (by omega), Nat.add_sub_cancel_left, List.getElem?_append_left (List.getElem?_eq_some_iff.1 hj).1]
  exact hj
theorem hd_prev {w : World} {b o : Nat} {h : THd} (hg : w.rangeAt b o (hdL h)) : w.rangeAt b (o + 1) (h.prev.map bV) :=
  range_part (xs := [nV h.ver]) (ys := h.prev.map bV) hg
theorem hd_root {w : World} {b o : Nat} {h : THd} (hh : HdOk h) (hg : w.rangeAt b o (hdL h)) : w.rangeAt b (o + 33) (h.root.map bV) := by
  have e : hdL h = (nV h.ver :: h.prev.map bV) ++ (h.root.map bV ++ [nV h.time, nV h.work, nV h.nonce]) := by simp [hdL]
  rw [e] at hg
  have h := range_part hg
  simpa [hh.2.1] using h
/-- What a box with a header in it holds. -/
structure HdBox (w : World) (g : Nat) (h : THd) : Prop where
  row : w.heap[g]? = some (.cells (hdL h).toArray 36 (0, 0))
theorem HdBox.below {w w' : World} {g : Nat} {h : THd} (k : HdBox w g h) (hb : Below w.heap.size w w') : HdBox w' g h := ⟨row_below k.row hb⟩
theorem HdBox.lt {w : World} {g : Nat} {h : THd} (k : HdBox w g h) : g < w.heap.size := (Array.getElem?_eq_some_iff.1 k.row).1
theorem HdBox.cells {w : World} {g : Nat} {h : THd} (k : HdBox w g h) (hh : HdOk h) : w.cell? ⟨g, 0, none⟩ = some (.int .u32 (h.ver : Int)) ∧ w.cell? ⟨g, 65, none⟩ = some (.int .u32 (h.time : Int)) ∧ w.cell? ⟨g, 66, none⟩ = some (.int .u32 (h.work : Int)) ∧ w.cell? ⟨g, 67, none⟩ = some (.int .u32 (h.nonce : Int)) := by
  obtain ⟨h1, h2, h3, h4⟩ := hdL_at hh
  refine ⟨?_, ?_, ?_, ?_⟩ <;> (rw [cell_of_row _ _ _ _ _ _ k.row, List.getElem?_toArray]; assumption)
theorem HdBox.prev {w : World} {g : Nat} {h : THd} (k : HdBox w g h) : w.rangeAt g 1 (h.prev.map bV) := by simpa using hd_prev (range_of_box k.row)
theorem HdBox.root {w : World} {g : Nat} {h : THd} (k : HdBox w g h) (hh : HdOk h) : w.rangeAt g 33 (h.root.map bV) := by simpa using hd_root hh (range_of_box k.row)
theorem hd_box (w : World) (h : THd) : Below w.heap.size w (w.alloc (.cells (hdL h).toArray 36)) ∧ HdBox (w.alloc (.cells (hdL h).toArray 36)) w.heap.size h :=
  ⟨(Below.refl _ _).alloc (Nat.le_refl _) _, ⟨heap_alloc_new _ _⟩⟩
end Go.Proofs.YtdamhoagiooicaaDoor.Sha

/-
  What a fact stands on: 'Kps F w w'': w' is w in the blocks of F, and may have more; 'Sty F w P': P holds in each such world. No conditions.
-/
namespace Go.Proofs.YtdamhoagiooicaaDoor.Sha
open Go Go.RowKit
/-- In the blocks of F the world w' is as w was; the streams too. -/
structure Kps (F : Nat → Prop) (w w' : World) : Prop where
  os : w'.os = w.os
  tape : w'.tape = w.tape
  output : w'.output = w.output
  size : w.heap.size ≤ w'.heap.size
  block : ∀ k, k < w.heap.size → F k → w'.heap[k]? = w.heap[k]?
theorem Kps.refl (F : Nat → Prop) (w : World) : Kps F w w := ⟨rfl, rfl, rfl, Nat.le_refl _, fun _ _ _ => rfl⟩
theorem Kps.trans {F : Nat → Prop} {a b c : World} (h : Kps F a b) (k : Kps F b c) : Kps F a c :=
  ⟨k.os.trans h.os, k.tape.trans h.tape, k.output.trans h.output, Nat.le_trans h.size k.size, fun i hi hf => (k.block i (Nat.lt_of_lt_of_le hi h.size) hf).trans (h.block i hi hf)⟩
theorem Kps.mono {F G : Nat → Prop} {w w' : World} (h : Kps F w w') (hs : ∀ k, k < w.heap.size → G k → F k) : Kps G w w' :=
  ⟨h.os, h.tape, h.output, h.size, fun k hk hg => h.block k hk (hs k hk hg)⟩
theorem Kps.below {F : Nat → Prop} {B : Nat} {w w' : World} (h : Below B w w') (hs : ∀ k, k < w.heap.size → F k → k < B) : Kps F w w' :=
  ⟨h.os, h.tape, h.output, h.size, fun k hk hf => h.block k (hs k hk hf)⟩
theorem Kps.new {F : Nat → Prop} {w w' : World} (h : Below w.heap.size w w') : Kps F w w' := Kps.below h fun _ hk _ => hk
theorem Kps.grown {F : Nat → Prop} {q : Option Nat} {w w' : World} (h : w.grownBy w' q) (hs : ∀ k, k < w.heap.size → F k → some k ≠ q) : Kps F w w' :=
  ⟨h.os, h.tape, h.output, h.size, fun k hk hf => h.block k hk (hs k hk hf)⟩
theorem Kps.toBelow {F : Nat → Prop} {w w' : World} (h : Kps F w w') (hs : ∀ k, k < w.heap.size → F k) : Below w.heap.size w w' :=
  ⟨h.os, h.tape, h.output, h.size, fun k hk => h.block k hk (hs k hk)⟩
/-- P holds in every world that is as w in the blocks of F. -/
def Sty (F : Nat → Prop) (w : World) (P : World → Prop) : Prop := ∀ w', Kps F w w' → P w'
theorem Sty.now {F : Nat → Prop} {w : World} {P : World → Prop} (h : Sty F w P) : P w := h w (Kps.refl _ _)
theorem Sty.on {F : Nat → Prop} {w w' : World} {P : World → Prop} (h : Sty F w P) (hk : Kps F w w') : Sty F w' P := fun w'' h2 => h w'' (hk.trans h2)
theorem Sty.imp {F G : Nat → Prop} {w : World} {P Q : World → Prop} (h : Sty F w P) (hs : ∀ k, k < w.heap.size → F k → G k) (hq : ∀ w', P w' → Q w') : Sty G w Q :=
  fun w' hk => hq _ (h w' (hk.mono hs))
/-- What stands while old blocks stand. -/
theorem Sty.all {w : World} {P : World → Prop} (h : ∀ w', Below w.heap.size w w' → P w') : Sty (fun k => k < w.heap.size) w P :=
  fun w' hk => h w' (hk.toBelow fun _ h => h)
theorem row_kps {F : Nat → Prop} {w w' : World} {g : Nat} {o : Obj} (h : w.heap[g]? = some o) (hk : Kps F w w') (hf : F g) : w'.heap[g]? = some o := by
  rw [hk.block g (Array.getElem?_eq_some_iff.1 h).1 hf]
  exact h
theorem SrcB.kps {F : Nat → Prop} {w w' : World} {v : Value} {bs : List UInt8} (h : SrcB w v bs) (ho : ∀ sp n cap, v = .slice (some sp) n cap → 0 < n → F sp.block) (hk : Kps F w w') : SrcB w' v bs := by
  rcases h with h | ⟨h0, bb, off, cap, hv, hc, hs⟩
  · exact .inl h
  · refine .inr ⟨h0, bb, off, cap, hv, hc, fun j hj => ?_⟩
    rw [World.cell?_of_block (hk.block bb (SrcB.block h0 hs) (ho _ _ _ hv h0))]
    exact hs j hj
theorem KeyAt.kps {F : Nat → Prop} {w w' : World} {kv : Value} {key : List UInt8} (h : KeyAt w kv key) (ho : ∀ sp n cap, kv = .slice (some sp) n cap → 0 < n → F sp.block) (hk : Kps F w w') : KeyAt w' kv key := ⟨h.1.kps ho hk, h.2⟩
theorem own_kps {F : Nat → Prop} {w w' : World} {base n size : Nat} {e : TypeId} {v : Value} {xs : List Value} (h : w.ownsRow base e size v n xs) (hk : Kps F w w') (hf : ∀ k, base ≤ k → F k) : w'.ownsRow base e size v n xs := by
  refine ⟨h.1, ?_⟩
  rcases h.2 with hn | ⟨g, cap, cur, rfl, hb, hg, rest⟩
  · exact .inl hn
  · exact .inr ⟨g, cap, cur, rfl, hb, row_kps hg hk (hf g hb), rest⟩
theorem InsOwn.kps {F : Nat → Prop} {w w' : World} {base : Nat} {v : Value} {l : List TIn} {ks : List Value} (h : InsOwn base w v l ks) (hk : Kps F w w') (hf : ∀ k, base ≤ k → F k) : InsOwn base w' v l ks :=
  ⟨h.1, own_kps h.2.1 hk hf, h.2.2.1, fun i x kv hx hkv => ⟨(h.2.2.2 i x kv hx hkv).1.kps (fun sp n cap hv h0 => hf _ (Nat.le_of_not_lt fun hlt => (h.2.2.2 i x kv hx hkv).2.1 sp.block hlt sp n cap hv h0 rfl)) hk, (h.2.2.2 i x kv hx hkv).2⟩⟩
theorem OutsOwn.kps {F : Nat → Prop} {w w' : World} {base : Nat} {v : Value} {m : List TOut} (h : OutsOwn base w v m) (hk : Kps F w w') (hf : ∀ k, base ≤ k → F k) : OutsOwn base w' v m := ⟨own_kps h.1 hk hf, h.2⟩
/-- What stands on new blocks stands while one old block turns. -/
theorem sty_old {w w' : World} {P : World → Prop} (h : Sty (fun k => w.heap.size ≤ k) w' P) : ∀ q, q < w.heap.size → ∀ w'', w'.grownBy w'' (some q) → P w'' := fun q hq w'' hw =>
  h w'' (Kps.grown hw fun k _ hk e => by have := Option.some.inj e; omega)
/-- A transaction in memory that was made since w. -/
def TxNew (w w' : World) (v : Value) (t : TTx) : Prop := Sty (fun k => w.heap.size ≤ k) w' (fun W => TxAt W v t)
theorem TxNew.at {w w' : World} {v : Value} {t : TTx} (h : TxNew w w' v t) : TxAt w' v t := h.now
end Go.Proofs.YtdamhoagiooicaaDoor.Sha

/-
  Rows of transactions, and blocks, as the model has them: four cells each behind a slice; a header's cells and a slice. No conditions.
-/
namespace Go.Proofs.YtdamhoagiooicaaDoor.Sha
open Go Go.RowKit
/-- A transaction stands in block b from o on. -/
def TxIn (w : World) (b o : Nat) (t : TTx) : Prop := TxOk t ∧ ∃ iv ov, w.rangeAt b o (txL t iv ov) ∧ InsAt w iv t.ins ∧ OutsAt w ov t.outs
theorem TxIn.below {w w' : World} {b o : Nat} {t : TTx} (h : TxIn w b o t) (hb : Below w.heap.size w w') : TxIn w' b o t := by
  obtain ⟨h0, iv, ov, h1, h2, h3⟩ := h
  exact ⟨h0, iv, ov, range_below h1 hb, h2.below hb, h3.below hb⟩
/-- A row of transactions behind a slice. -/
def TxsAt (w : World) (v : Value) (l : List TTx) : Prop :=
  ∃ sp cap, v = .slice sp l.length cap ∧ l.length ≤ cap ∧ (0 < l.length → ∃ b o, sp = some ⟨b, o, none⟩ ∧ ∀ i t, l[i]? = some t → TxIn w b (o + i * 4) t)
theorem TxsAt.below {w w' : World} {v : Value} {l : List TTx} (h : TxsAt w v l) (hb : Below w.heap.size w w') : TxsAt w' v l := by
  obtain ⟨sp, cap, h1, h2, h3⟩ := h
  refine ⟨sp, cap, h1, h2, fun h0 => ?_⟩
  obtain ⟨b, o, h4, h5⟩ := h3 h0
  exact ⟨b, o, h4, fun i x hx => (h5 i x hx).below hb⟩
theorem TxsAt.nil (w : World) (sp : Option Addr) (cap : Nat) : TxsAt w (.slice sp 0 cap) [] := ⟨sp, cap, rfl, Nat.zero_le _, fun h => absurd h (by simp)⟩
theorem TxsAt.shape {w : World} {v : Value} {l : List TTx} (h : TxsAt w v l) : ∃ sp cap, v = .slice sp l.length cap := by
  obtain ⟨sp, cap, h1, _⟩ := h
  exact ⟨sp, cap, h1⟩
theorem TxsAt.len {w : World} {sp : Option Addr} {n cap : Nat} {l : List TTx} (h : TxsAt w (.slice sp n cap) l) : n = l.length ∧ n ≤ cap := by
  obtain ⟨sp', cap', h1, h2, _⟩ := h
  cases h1
  exact ⟨rfl, h2⟩
/-- One of them, by its place. -/
theorem TxsAt.get {w : World} {sp : Option Addr} {n cap : Nat} {l : List TTx} (h : TxsAt w (.slice sp n cap) l) (h0 : 0 < n) :
    ∃ b o, sp = some ⟨b, o, none⟩ ∧ b < w.heap.size ∧ ∀ i t, l[i]? = some t → ∃ iv ov, w.rangeAt b (o + i * 4) (txL t iv ov) ∧ TxAt w (.agg (txL t iv ov).toArray) t := by
  obtain ⟨sp', cap', h1, h2, h3⟩ := h
  cases h1
  obtain ⟨b, o, rfl, h5⟩ := h3 h0
  refine ⟨b, o, rfl, ?_, fun i t ht => ?_⟩
  · obtain ⟨_, iv, ov, h6, _⟩ := h5 0 (l[0]) (List.getElem?_eq_getElem h0)
    exact World.block_lt_of_cell? w _ (h6 0 _ rfl)
  · obtain ⟨a, iv, ov, h6, h7, h8⟩ := h5 i t ht
    exact ⟨iv, ov, h6, a, iv, ov, rfl, h7, h8⟩
/-- A block: a header, and transactions. -/
structure TBlk where
  head : THd
  txs : List TTx
/-- A block's cells. -/
def blL (h : THd) (tv : Value) : List Value := hdL h ++ [tv]
theorem blL_length {h : THd} (hh : HdOk h) (tv : Value) : (blL h tv).length = 69 := by simp [blL, hdL_length hh]
theorem blL_size {h : THd} (hh : HdOk h) (tv : Value) : (blL h tv).toArray.size = 69 := by simp [blL, hdL_length hh]
/-- A block by value. -/
def BlkAt (w : World) (v : Value) (x : TBlk) : Prop := HdOk x.head ∧ ∃ tv, v = .agg (blL x.head tv).toArray ∧ TxsAt w tv x.txs
theorem BlkAt.below {w w' : World} {v : Value} {x : TBlk} (h : BlkAt w v x) (hb : Below w.heap.size w w') : BlkAt w' v x := by
  obtain ⟨h0, tv, h1, h2⟩ := h
  exact ⟨h0, tv, h1, h2.below hb⟩
/-- A block in a box. -/
structure BlBox (w : World) (g : Nat) (h : THd) (tv : Value) : Prop where
  row : w.heap[g]? = some (.cells (blL h tv).toArray 39 (0, 0))
theorem BlBox.below {w w' : World} {g : Nat} {h : THd} {tv : Value} (k : BlBox w g h tv) (hb : Below w.heap.size w w') : BlBox w' g h tv := ⟨row_below k.row hb⟩
theorem BlBox.range {w : World} {g : Nat} {h : THd} {tv : Value} (k : BlBox w g h tv) : w.rangeAt g 0 (blL h tv) := fun j v hj => by
  rw [Nat.zero_add, cell_of_row _ _ _ _ _ _ k.row]
  simpa using hj
theorem BlBox.lt {w : World} {g : Nat} {h : THd} {tv : Value} (k : BlBox w g h tv) : g < w.heap.size := (Array.getElem?_eq_some_iff.1 k.row).1
/-- The header's cells in a block's box. -/
theorem BlBox.head {w : World} {g : Nat} {h : THd} {tv : Value} (k : BlBox w g h tv) : w.rangeAt g 0 (hdL h) := fun j v hj => k.range j v (by
  rw [blL, List.getElem?_append_left (List.getElem?_eq_some_iff.1 hj).1]
  exact hj)
theorem BlBox.root {w : World} {g : Nat} {h : THd} {tv : Value} (k : BlBox w g h tv) (hh : HdOk h) : w.rangeAt g 33 (h.root.map bV) := by
  have := hd_root hh k.head
  rwa [Nat.zero_add] at this
theorem BlBox.txs {w : World} {g : Nat} {h : THd} {tv : Value} (k : BlBox w g h tv) (hh : HdOk h) : w.cell? ⟨g, 68, none⟩ = some tv := by
  have := k.range 68 tv (by rw [blL, List.getElem?_append_right (by rw [hdL_length hh]; exact Nat.le_refl _), hdL_length hh]; rfl)
  rwa [Nat.zero_add] at this
theorem blL_one {h : THd} {tv : Value} (ht : tv.oneCell' = true) : (blL h tv).toArray.all (·.oneCell') = true := by
  rw [Array.all_eq_true_iff_forall_mem]
  intro u hu
  rw [List.mem_toArray, blL, List.mem_append, List.mem_singleton] at hu
  rcases hu with hu | rfl
  · exact hdL_one' h u hu
  · exact ht
theorem TxsAt.one {w : World} {tv : Value} {l : List TTx} (h : TxsAt w tv l) : tv.oneCell' = true := by
  obtain ⟨sp, cap, rfl, _⟩ := h
  rfl
end Go.Proofs.YtdamhoagiooicaaDoor.Sha

/-
  A store into a header's box turns just that part. Conditions: digests of 32 bytes.
-/
namespace Go.Proofs.YtdamhoagiooicaaDoor.Sha
open Go Go.RowKit
/-- The header of zeros. -/
def hdZ : THd := ⟨0, List.replicate 32 0, List.replicate 32 0, 0, 0, 0⟩
theorem hdZ_ok : HdOk hdZ := ⟨by simp [hdZ], by simp [hdZ], by simp [hdZ], by simp [hdZ], by simp [hdZ], by simp [hdZ]⟩
theorem hd_zero : Tryd.zeroCells36 = (hdL hdZ).toArray := by kernel_rfl
theorem nV_ones (n : Nat) : ∀ u ∈ [nV n], u.oneCell' = true := by
  intro u hu
  simp only [List.mem_cons, List.not_mem_nil, or_false] at hu
  subst hu
  rfl
theorem HdBox.far {w w' : World} {g q : Nat} {h : THd} (k : HdBox w g h) (hg : w.grownBy w' (some q)) (hq : q ≠ g) : HdBox w' g h := ⟨row_far k.row hg (fun e => hq (Option.some.inj e))⟩
section
variable {ops : Array Oper} {rest : List Oper} {op : Oper} {a : Act} {w : World} {Q : Exit → Act → World → Prop} {g : Nat} {h : THd}
theorem st_ver (hgd : op.guard = none) (x y : Operand) (ho : op.op = .store 28 x y) (hx : a.eval x = .pointer (some ⟨g, 0, none⟩)) (n : Nat) (hy : a.eval y = nV n) (hh : HdOk h) (k : HdBox w g h)
    (hK : ∀ w', HdBox w' g { h with ver := n } → w.grownBy w' (some g) → wpList Tryd.prog ops Q rest (a.put op.dst undef) w') : wpList Tryd.prog ops Q (op :: rest) a w := by
  refine wpList_store_part hgd 28 x y ho g 0 [] [nV h.ver] (h.prev.map bV ++ (h.root.map bV ++ [nV h.time, nV h.work, nV h.nonce])) [nV n] 36 (nV n) hx hy rfl (by simp [hh.2.1, hh.2.2.1]) (by simp) (by rw [k.row]; simp [hdL]) (by kernel_rfl) (nV_ones n) ?_
  intro w' q1 q2
  exact hK w' ⟨by rw [q1]; simp [hdL]⟩ q2
theorem st_prev (hgd : op.guard = none) (x y : Operand) (ho : op.op = .store 24 x y) (hx : a.eval x = .pointer (some ⟨g, 1, none⟩)) (p : List UInt8) (hp : p.length = 32) (hy : a.eval y = .agg (p.map bV).toArray) (hh : HdOk h) (k : HdBox w g h)
    (hK : ∀ w', HdBox w' g { h with prev := p } → w.grownBy w' (some g) → wpList Tryd.prog ops Q rest (a.put op.dst undef) w') : wpList Tryd.prog ops Q (op :: rest) a w := by
  refine wpList_store_part hgd 24 x y ho g 1 [nV h.ver] (h.prev.map bV) (h.root.map bV ++ [nV h.time, nV h.work, nV h.nonce]) (p.map bV) 36 (.agg (p.map bV).toArray) hx hy rfl (by simp [hh.2.1, hh.2.2.1]) (by simp [hp, hh.2.1, hh.2.2.1]) (by rw [k.row]; simp [hdL]) (by rw [List.length_map, hp]; kernel_rfl) (bV_one' p) ?_
  intro w' q1 q2
  exact hK w' ⟨by rw [q1]; simp [hdL]⟩ q2
theorem st_root (hgd : op.guard = none) (x y : Operand) (ho : op.op = .store 24 x y) (hx : a.eval x = .pointer (some ⟨g, 33, none⟩)) (p : List UInt8) (hp : p.length = 32) (hy : a.eval y = .agg (p.map bV).toArray) (hh : HdOk h) (k : HdBox w g h)
    (hK : ∀ w', HdBox w' g { h with root := p } → w.grownBy w' (some g) → wpList Tryd.prog ops Q rest (a.put op.dst undef) w') : wpList Tryd.prog ops Q (op :: rest) a w := by
  refine wpList_store_part hgd 24 x y ho g 33 (nV h.ver :: h.prev.map bV) (h.root.map bV) [nV h.time, nV h.work, nV h.nonce] (p.map bV) 36 (.agg (p.map bV).toArray) hx hy rfl (by simp [hh.2.1, hh.2.2.1]) (by simp [hp, hh.2.1, hh.2.2.1]) (by rw [k.row]; simp [hdL]) (by rw [List.length_map, hp]; kernel_rfl) (bV_one' p) ?_
  intro w' q1 q2
  exact hK w' ⟨by rw [q1]; simp [hdL]⟩ q2
theorem st_time (hgd : op.guard = none) (x y : Operand) (ho : op.op = .store 28 x y) (hx : a.eval x = .pointer (some ⟨g, 65, none⟩)) (n : Nat) (hy : a.eval y = nV n) (hh : HdOk h) (k : HdBox w g h)
    (hK : ∀ w', HdBox w' g { h with time := n } → w.grownBy w' (some g) → wpList Tryd.prog ops Q rest (a.put op.dst undef) w') : wpList Tryd.prog ops Q (op :: rest) a w := by
  refine wpList_store_part hgd 28 x y ho g 65 (nV h.ver :: (h.prev.map bV ++ h.root.map bV)) [nV h.time] [nV h.work, nV h.nonce] [nV n] 36 (nV n) hx hy rfl (by simp [hh.2.1, hh.2.2.1]) (by simp) (by rw [k.row]; simp [hdL]) (by kernel_rfl) (nV_ones n) ?_
  intro w' q1 q2
  exact hK w' ⟨by rw [q1]; simp [hdL]⟩ q2
theorem st_work (hgd : op.guard = none) (x y : Operand) (ho : op.op = .store 28 x y) (hx : a.eval x = .pointer (some ⟨g, 66, none⟩)) (n : Nat) (hy : a.eval y = nV n) (hh : HdOk h) (k : HdBox w g h)
    (hK : ∀ w', HdBox w' g { h with work := n } → w.grownBy w' (some g) → wpList Tryd.prog ops Q rest (a.put op.dst undef) w') : wpList Tryd.prog ops Q (op :: rest) a w := by
  refine wpList_store_part hgd 28 x y ho g 66 (nV h.ver :: (h.prev.map bV ++ (h.root.map bV ++ [nV h.time]))) [nV h.work] [nV h.nonce] [nV n] 36 (nV n) hx hy rfl (by simp [hh.2.1, hh.2.2.1]) (by simp) (by rw [k.row]; simp [hdL]) (by kernel_rfl) (nV_ones n) ?_
  intro w' q1 q2
  exact hK w' ⟨by rw [q1]; simp [hdL]⟩ q2
theorem st_nonce (hgd : op.guard = none) (x y : Operand) (ho : op.op = .store 28 x y) (hx : a.eval x = .pointer (some ⟨g, 67, none⟩)) (n : Nat) (hy : a.eval y = nV n) (hh : HdOk h) (k : HdBox w g h)
    (hK : ∀ w', HdBox w' g { h with nonce := n } → w.grownBy w' (some g) → wpList Tryd.prog ops Q rest (a.put op.dst undef) w') : wpList Tryd.prog ops Q (op :: rest) a w := by
  refine wpList_store_part hgd 28 x y ho g 67 (nV h.ver :: (h.prev.map bV ++ (h.root.map bV ++ [nV h.time, nV h.work]))) [nV h.nonce] [] [nV n] 36 (nV n) hx hy rfl (by simp [hh.2.1, hh.2.2.1]) (by simp) (by rw [k.row]; simp [hdL]) (by kernel_rfl) (nV_ones n) ?_
  intro w' q1 q2
  exact hK w' ⟨by rw [q1]; simp [hdL]⟩ q2
end
end Go.Proofs.YtdamhoagiooicaaDoor.Sha

/-
  Package tx takes an input, and an output, from a Reader. Nothing that was there turns but the Reader. Conditions: the Reader stands as it should; the errors are there.
-/
namespace Go.Proofs.YtdamhoagiooicaaDoor.Sha
open Go Go.RowKit
theorem leP_of {k : Nat} {bs x b : List UInt8} {c d : Nat} (h : takeL k bs c = (x, b, d)) : leP k bs c = (leN x, b, d) := by simp only [leP, mapP, h]
theorem one_mem {v : Value} (h : v.oneCell' = true) : ∀ u ∈ [v], u.oneCell' = true := fun u hu => by rw [List.mem_singleton.1 hu]; exact h
end Go.Proofs.YtdamhoagiooicaaDoor.Sha

/-
  Loads and appends of structures where a region draws its order; rows that stay where others grow. No conditions beyond those that each states.
-/
namespace Go.Proofs.YtdamhoagiooicaaDoor.Sha
open Go Go.RowKit
section
variable {P : Program}
theorem wp_load_cell {op : Oper} {a : Act} {w : World} {K : Act → World → Prop} {Q : Exit → Act → World → Prop} (ty : TypeId) (x : Operand) (ho : op.op = .load ty x) (b off : Nat) (hx : a.eval x = .pointer (some ⟨b, off, none⟩)) (v : Value) (d : TypeDesc)
    (hc : w.cell? ⟨b, off, none⟩ = some v) (hu : P.underlying ty = some d) (hd : d.isRow = false) (h : K (a.put op.dst v) w) : op.wp P a w K Q := by
  have hagg : (isAgg ty).run P w = .ok false w := by
    unfold isAgg
    rw [Sem.run_bind, run_underlying hu w]
    cases d <;> simp_all
  unfold Oper.wp execOp
  simp [ho, hx, Instr.loadAt, Instr.sureAddr, Sem.run_bind, loadVar, hagg, hc]
  exact h
theorem wp_append_row (w : World) {o : Oper} {a : Act} {K : Act → World → Prop} {Q : Exit → Act → World → Prop} (s x : Operand) (t : TypeId)
    (ho : o.op = Op.call { callee := Callee.builtin Builtin.append, args := #[s, x], argTypes := #[t, t] })
    (base : Nat) (e : TypeId) (i : TypeInfo) (z : Value) (size bytes : Nat) (ht : P.underlying t = some (.slice e)) (hi : P.info? e = some i) (hz : i.zero = some z)
    (hsize : i.size = size) (hby : i.bytes = bytes) (hzs : z.cells.size = size) (hsz : 0 < size)
    (v : Value) (n : Nat) (xs : List Value) (hs : a.eval s = v) (hown : w.ownsRow base e size v n xs)
    (ad : Addr) (m c : Nat) (news : List Value) (hx : a.eval x = .slice (some ad) m c) (hl : news.length = m * size) (hnews : ∀ j u, news[j]? = some u → w.cell? (ad.add j) = some u) (h1 : ∀ u ∈ news, u.oneCell' = true)
    (h63 : n + m ≤ maxLen) (hbytes : (n + m) * bytes ≤ 140737488355328) (hbase : base ≤ w.heap.size)
    (h : ∀ v' w', w'.ownsRow base e size v' (n + m) (xs ++ news) → w.grownBy w' v.ownBlock → (v'.ownBlock = v.ownBlock ∨ v'.ownBlock = some w.heap.size) → K (a.put o.dst v') w') : o.wp P a w K Q := by
  obtain ⟨v', w', hr, h2, h3, _, h5⟩ := run_append_own_at (P := P) w base t o.type e i z size bytes ht hi hz hsize hby hzs hsz v n xs hown ad m c news hl hnews h1 h63 hbytes hbase
  unfold Oper.wp execOp
  simp only [ho, resolve, invoke, builtin, Sem.run_bind, Sem.run_pure, Result.andThen_ok, List.map_toArray, List.map_cons, List.map_nil, hs, hx, hr]
  exact h v' w' h2 h3 h5
end
theorem own_one {w : World} {base n size : Nat} {e : TypeId} {v : Value} {xs : List Value} (h : w.ownsRow base e size v n xs) : v.oneCell' = true := by
  rcases h.2 with ⟨rfl, _⟩ | ⟨g, cap, cur, rfl, _⟩ <;> rfl
theorem cells_one {v : Value} (h : v.oneCell' = true) : v.cells = [v].toArray := by cases v <;> first | rfl | cases h
theorem in_mem_one (x : TIn) (kv : Value) (hk : kv.oneCell' = true) : ∀ u ∈ inL x kv, u.oneCell' = true := fun u hu => by
  have := in_one x kv hk
  rw [Array.all_eq_true_iff_forall_mem] at this
  exact this u (by simpa using hu)
theorem out_mem_one (y : TOut) : ∀ u ∈ outL y, u.oneCell' = true := fun u hu => by
  have := out_one y
  rw [Array.all_eq_true_iff_forall_mem] at this
  exact this u (by simpa using hu)
theorem InsOwn.grow {base : Nat} {w w' : World} {v : Value} {l : List TIn} {ks : List Value} {q : Option Nat} (h : InsOwn base w v l ks) (hg : w.grownBy w' q) (hq : ∀ j, q = some j → v.ownBlock ≠ some j ∧ ∀ (i : Nat) kv, ks[i]? = some kv → Off kv (some j)) : InsOwn base w' v l ks := by
  cases q with
  | none => exact h.keep (below_made hg)
  | some j =>
    obtain ⟨a, b⟩ := hq j rfl
    exact ⟨h.1, h.2.1.kept hg (.inr a), h.2.2.1, fun i x kv hx hk => ⟨(h.2.2.2 i x kv hx hk).1.off (b i kv hk) hg, (h.2.2.2 i x kv hx hk).2⟩⟩
/-- All of a row's memory lies below. -/
def InsLow (B : Nat) (v : Value) (ks : List Value) : Prop := ∀ j, B ≤ j → v.ownBlock ≠ some j ∧ ∀ (i : Nat) kv, ks[i]? = some kv → Off kv (some j)
theorem InsOwn.low {base : Nat} {w : World} {v : Value} {l : List TIn} {ks : List Value} (h : InsOwn base w v l ks) : InsLow w.heap.size v ks := fun j hj => by
  refine ⟨fun e => ?_, fun i kv hk => ?_⟩
  · have := (h.2.1.lt j e).2
    omega
  · obtain ⟨x, hx⟩ : ∃ x, l[i]? = some x := ⟨_, List.getElem?_eq_getElem (by have := (List.getElem?_eq_some_iff.1 hk).1; have := h.1; omega)⟩
    exact (h.2.2.2 i x kv hx hk).1.fresh hj
theorem txS_laid (bs x1 b1 b2 b3 b4 b5 x6 b6 : List UInt8) (c d1 d2 d3 d4 d5 d6 n1 n2 : Nat) (l1 : List TIn) (l2 : List TOut) (h1 : takeL 4 bs c = (x1, b1, d1)) (h2 : numL 50 b1 d1 = (n1, b2, d2)) (h3 : manyS inP n1 b2 d2 = (l1, b3, d3))
    (h4 : numL 50 b3 d3 = (n2, b4, d4)) (h5 : manyS outP n2 b4 d4 = (l2, b5, d5)) (h6 : takeL 4 b5 d5 = (x6, b6, d6)) : txS bs c = (⟨leN x1, l1, l2, leN x6⟩, b6, d6) := by
  simp only [txS, thenP, mapP, leP_of h1, h2, h3, h4, h5, leP_of h6]
theorem gr_own {w0 w w' : World} {r q : Option Nat} {B : Nat} (h : w0.grownBy w r) (hg : w.grownBy w' q) (hq : ∀ k, q = some k → B ≤ k) (hB : w0.heap.size ≤ B) : w0.grownBy w' r :=
  ⟨hg.os.trans h.os, hg.tape.trans h.tape, hg.output.trans h.output, Nat.le_trans h.size hg.size, fun k hk hne => by
    rw [hg.block k (Nat.lt_of_lt_of_le hk h.size) (fun e => by have := hq k e.symm; omega)]
    exact h.block k hk hne⟩
theorem row_own {w w' : World} {g : Nat} {o : Obj} {q : Option Nat} {B : Nat} (h : w.heap[g]? = some o) (hg : w.grownBy w' q) (hq : ∀ k, q = some k → B ≤ k) (hB : g < B) : w'.heap[g]? = some o :=
  row_far h hg (fun e => by have := hq g e; omega)
end Go.Proofs.YtdamhoagiooicaaDoor.Sha

/-
  Stores into one part of a block's box; the zero block; one transaction in a row. No conditions beyond those that each states.
-/
namespace Go.Proofs.YtdamhoagiooicaaDoor.Sha
open Go Go.RowKit
theorem bl_zero : Tryd.zeroCells39 = (blL hdZ (.slice none 0 0)).toArray := by kernel_rfl
theorem info_txc : (Tryd.prog.info? 32).map (fun i => (i.zero, i.size, i.bytes)) = some (some (.agg [nV 0, .slice none 0 0, .slice none 0 0, nV 0].toArray), 4, 64) := by kernel_rfl
section
variable {ops : Array Oper} {rest : List Oper} {op : Oper} {a : Act} {w : World} {Q : Exit → Act → World → Prop} {g : Nat} {h : THd} {tv : Value}
theorem st_blroot (hgd : op.guard = none) (x y : Operand) (ho : op.op = .store 24 x y) (hx : a.eval x = .pointer (some ⟨g, 33, none⟩)) (p : List UInt8) (hp : p.length = 32) (hy : a.eval y = .agg (p.map bV).toArray) (hh : HdOk h) (k : BlBox w g h tv)
    (hK : ∀ w', BlBox w' g { h with root := p } tv → w.grownBy w' (some g) → wpList Tryd.prog ops Q rest (a.put op.dst undef) w') : wpList Tryd.prog ops Q (op :: rest) a w := by
  refine wpList_store_part hgd 24 x y ho g 33 (nV h.ver :: h.prev.map bV) (h.root.map bV) [nV h.time, nV h.work, nV h.nonce, tv] (p.map bV) 39 (.agg (p.map bV).toArray) hx hy rfl (by simp [hh.2.1]) (by simp [hp, hh.2.2.1]) (by rw [k.row]; simp [blL, hdL]) (by rw [List.length_map, hp]; kernel_rfl) (bV_one' p) ?_
  intro w' q1 q2
  exact hK w' ⟨by rw [q1]; simp [blL, hdL]⟩ q2
theorem st_bltxs (hgd : op.guard = none) (x y : Operand) (ho : op.op = .store 37 x y) (hx : a.eval x = .pointer (some ⟨g, 68, none⟩)) (u : Value) (hy : a.eval y = u) (h1 : u.oneCell' = true) (hh : HdOk h) (k : BlBox w g h tv)
    (hK : ∀ w', BlBox w' g h u → w.grownBy w' (some g) → wpList Tryd.prog ops Q rest (a.put op.dst undef) w') : wpList Tryd.prog ops Q (op :: rest) a w := by
  refine wpList_store_part hgd 37 x y ho g 68 (hdL h) [tv] [] [u] 39 u hx hy (cells_one h1) (hdL_length hh) rfl (by rw [k.row]; simp [blL]) (by kernel_rfl) (by intro v hv; rw [List.mem_singleton] at hv; rw [hv]; exact h1) ?_
  intro w' q1 q2
  exact hK w' ⟨by rw [q1]; simp [blL]⟩ q2
end
theorem BlBox.far {w w' : World} {g : Nat} {h : THd} {tv : Value} {q : Option Nat} (k : BlBox w g h tv) (hg : w.grownBy w' q) (hq : q ≠ some g) : BlBox w' g h tv := ⟨row_far k.row hg hq⟩
/-- A row of one. -/
theorem txsAt_one {w : World} {g : Nat} {t : TTx} {iv ov : Value} {fr : Nat × Nat} (h : w.heap[g]? = some (.cells (txL t iv ov).toArray 32 fr)) (ht : TxAt w (.agg (txL t iv ov).toArray) t) : TxsAt w (.slice (some ⟨g, 0, none⟩) 1 1) [t] := by
  obtain ⟨h0, iv', ov', e, h1, h2⟩ := ht
  have e : txL t iv ov = txL t iv' ov' := by simpa using e
  refine ⟨_, _, rfl, Nat.le_refl _, fun _ => ⟨g, 0, rfl, fun i u hu => ?_⟩⟩
  obtain ⟨rfl, rfl⟩ : i = 0 ∧ t = u := by
    cases i with
    | zero => exact ⟨rfl, by simpa using hu⟩
    | succ i => simp at hu
  refine ⟨h0, iv', ov', fun j v hj => ?_, h1, h2⟩
  rw [cell_of_row _ _ _ _ _ _ h, List.getElem?_toArray, e]
  simpa using hj
end Go.Proofs.YtdamhoagiooicaaDoor.Sha

/-
  slices.Grow of nil, slices.Concat of two digests' bytes: new memory. Condition: the bytes lie where the slices say.
-/
namespace Go.Proofs.YtdamhoagiooicaaDoor.Sha
open Go Go.RowKit
set_option maxHeartbeats 1000000 in
set_option maxRecDepth 100000 in
theorem grow_nil (n : Nat) (w : World) (h0 : 0 < n) (h1 : n ≤ 70368744177664) :
    Calls Tryd.prog 58 #[.slice none 0 0, .int .i64 n] w fun e w' => ∃ cap, n ≤ cap ∧ e = .returned (.slice (some ⟨w.heap.size, 0, none⟩) 0 cap) ∧ w'.ownsRow w.heap.size 5 1 (.slice (some ⟨w.heap.size, 0, none⟩) 0 cap) 0 [] ∧ Below w.heap.size w w' := by
  obtain ⟨i0, hi, hz0, hz1, hz2⟩ := info_parts info_u8
  have hneg : ¬ ((n : Int) < 0) := by omega
  have hpos : (n : Int) > 0 := by omega
  have hrz : ∀ ty, (Builtin.append_ #[25, 3] ty #[.slice none 0 0, .int .i64 n]).run Tryd.prog w =
      .ok (.slice (some ⟨w.heap.size, 0, none⟩) n (grownCap w n 0 5)) (w.drew.alloc (.cells (Builtin.zeroCells #[.int .u8 0] n ++ Builtin.zeroCells #[.int .u8 0] (grownCap w n 0 5 - n)) 5)) := fun ty => by
    have h := Lib.run_append_grow_zeros (P := Tryd.prog) w 25 3 ty 5 i0 (.int .u8 0) .i64 .i64 Tryd.underlying25 Tryd.underlying3 hi hz0 none 0 0 []
      (by rw [hz1]; exact run_firstCells_none w.drew 1 0 0 0) n h0 (by rw [hz1]; omega) (by omega) (by omega) (by rw [hz2]; omega) (by rw [Nat.zero_add]; exact growslice_fits (by omega) (by rw [hz2]; omega))
    simp only [Nat.zero_add] at h
    rw [h]
    simp [Value.cells]
  have hG := grownCap_ge w n 0 5
  have hG63 := grownCap_le_maxLen w n 0 5 (by unfold maxLen; omega)
  obtain ⟨G, hGe⟩ : ∃ G, G = grownCap w n 0 5 := ⟨_, rfl⟩
  rw [← hGe] at hrz hG hG63
  have hsz : (Builtin.zeroCells #[.int .u8 0] n ++ Builtin.zeroCells #[.int .u8 0] (G - n)).size = G := by
    simp [Builtin.zeroCells]
    omega
  obtain ⟨cs, hcs⟩ : ∃ cs, cs = Builtin.zeroCells #[.int .u8 0] n ++ Builtin.zeroCells #[.int .u8 0] (G - n) := ⟨_, rfl⟩
  rw [← hcs] at hrz hsz
  have HS := Lib.hid hsz
  have hG63' : (G : Int) ≤ 9223372036854775807 := by unfold maxLen at hG63; omega
  clear hGe hcs hsz
  go_enter Tryd.func58, Tryd.ntmps58
  go_wp2_with (at_builtin; refine Lib.wpList_append_run _ rfl _ _ _ _ rfl _ _ rfl rfl _ _ (hrz _) ?_)
  go_ret
  refine ⟨G, hG, rfl, ⟨rfl, .inr ⟨w.heap.size, G, cs, rfl, Nat.le_refl _, ?_, Nat.zero_le _, hG63, by rw [HS.out, Nat.mul_one], by simp⟩⟩, ?_⟩
  · exact heap_alloc_new w.drew _
  · exact (Below.drew (Below.refl _ _)).alloc (Nat.le_refl _) _
set_option maxHeartbeats 1000000 in
set_option maxRecDepth 100000 in
theorem concat_two (a b : List UInt8) (ha : a.length = 32) (hb : b.length = 32) (gs g1 g2 : Nat) (w : World) (h0 : w.cell? ⟨gs, 0, none⟩ = some (.slice (some ⟨g1, 0, none⟩) 32 32)) (h1 : w.cell? ⟨gs, 1, none⟩ = some (.slice (some ⟨g2, 0, none⟩) 32 32))
    (s1 : SrcB w (.slice (some ⟨g1, 0, none⟩) 32 32) a) (s2 : SrcB w (.slice (some ⟨g2, 0, none⟩) 32 32) b) :
    Calls Tryd.prog 31 #[.slice (some ⟨gs, 0, none⟩) 2 2] w fun e w' => ∃ v, e = .returned v ∧ SrcB w' v (a ++ b) ∧ Below w.heap.size w w' := by
  obtain ⟨i0, hi, hz0, hz1, hz2⟩ := info_parts info_u8
  have HA := Lib.hid ha
  have HB := Lib.hid hb
  have S1 := Lib.hid s1
  have S2 := Lib.hid s2
  have hlt := World.block_lt_of_cell? w _ h0
  simp only at hlt
  have H0 := Lib.hid h0
  have H1 := Lib.hid h1
  clear ha hb s1 s2
  go_enter Tryd.func31, Tryd.ntmps31
  go_wp2_with fail
  refine wp_loop_rounds 3 ?_
  rw [rounds_succ]
  go_wp2_with fail
  rw [rounds_succ]
  go_wp2_with fail
  rw [rounds_succ]
  go_wp2_with fail
  refine (grow_nil 64 w (by omega) (by omega)).mono ?_
  rintro e w1 ⟨cap, hcap, rfl, ho, hb1⟩
  have c0 : w1.cell? ⟨gs, 0, none⟩ = some (.slice (some ⟨g1, 0, none⟩) 32 32) := by rw [hb1.cell (p := ⟨gs, 0, none⟩) hlt]; exact h0
  have HO := Lib.hid ho
  have HB1 := Lib.hid hb1
  have S1' := Lib.hid (S1.out.below hb1)
  clear ho hb1 h0 h1
  go_wp2_with fail
  refine wp_loop_rounds 3 ?_
  rw [rounds_succ]
  go_wp2_with (at_builtin; refine wpList_append_src _ rfl _ _ 25 rfl w.heap.size 5 i0 Tryd.underlying25 hi hz1 w.heap.size 0 cap [] rfl HO.out _ a rfl S1'.out (by have := HA.out; omega) ?_; intro w2 q1 q2; have HO2 : Hid (w2.ownsRow w.heap.size 5 1 (.slice (some ⟨w.heap.size, 0, none⟩) 32 cap) 32 (a.map bV)) := (by have h := q1.out; rw [HA.out, Nat.zero_add, List.nil_append] at h; exact h); have G2 := Lib.hid q2.out; clear q1 q2; rw [HA.out, Nat.zero_add]; have c1 : w2.cell? ⟨gs, 1, none⟩ = some (.slice (some ⟨g2, 0, none⟩) 32 32) := (by rw [World.cell?_of_block (G2.out.block gs (Nat.lt_of_lt_of_le hlt HB1.out.size) (fun e => by have := Option.some.inj e; omega)), HB1.out.cell (p := ⟨gs, 1, none⟩) hlt]; exact H1.out); clear c0; go_frame)
  have B2 := Lib.hid (HB1.out.grown G2.out HB1.out.size (fun k hk => by cases hk; exact Nat.le_refl _))
  have S2' := Lib.hid (S2.out.below B2.out)
  rw [rounds_succ]
  go_wp2_with (at_builtin; refine wpList_append_src _ rfl _ _ 25 rfl w.heap.size 5 i0 Tryd.underlying25 hi hz1 w.heap.size 32 cap (a.map bV) rfl HO2.out _ b rfl S2'.out (by have := HB.out; omega) ?_; intro w3 q1 q2; have HO3 : Hid (w3.ownsRow w.heap.size 5 1 (.slice (some ⟨w.heap.size, 0, none⟩) 64 cap) 64 ((a ++ b).map bV)) := (by have h := q1.out; rw [HB.out] at h; rw [List.map_append]; exact h); have G3 := Lib.hid q2.out; clear q1 q2; rw [HB.out]; go_frame)
  have B3 := Lib.hid (B2.out.grown G3.out B2.out.size (fun k hk => by cases hk; exact Nat.le_refl _))
  rw [rounds_succ]
  go_wp2_with fail
  go_ret
  exact ⟨_, rfl, src_own HO3.out, B3.out⟩
end Go.Proofs.YtdamhoagiooicaaDoor.Sha

/-
  slices.Concat of any two rows of bytes that are not both empty: new memory. Condition: the bytes lie where the slices say; few enough.
-/
namespace Go.Proofs.YtdamhoagiooicaaDoor.Sha
open Go Go.RowKit
set_option maxHeartbeats 1000000 in
set_option maxRecDepth 100000 in
theorem concat_any (a b : List UInt8) (v1 v2 : Value) (gs : Nat) (w : World) (h0 : w.cell? ⟨gs, 0, none⟩ = some v1) (h1 : w.cell? ⟨gs, 1, none⟩ = some v2) (s1 : SrcB w v1 a) (s2 : SrcB w v2 b) (hp : 0 < a.length) (ha : a.length ≤ 1000) (hb : b.length ≤ 70368744170000) :
    Calls Tryd.prog 31 #[.slice (some ⟨gs, 0, none⟩) 2 2] w fun e w' => ∃ gk nk ck, e = .returned (.slice (some ⟨gk, 0, none⟩) nk ck) ∧ w.heap.size ≤ gk ∧ KeyAt w' (.slice (some ⟨gk, 0, none⟩) nk ck) (a ++ b) ∧ Below w.heap.size w w' := by
  obtain ⟨i0, hi, hz0, hz1, hz2⟩ := info_parts info_u8
  obtain ⟨p1, n1, c1, rfl, hn1, _⟩ := s1.shape'
  obtain ⟨p2, n2, c2, rfl, hn2, _⟩ := s2.shape'
  have HA := Lib.hid hn1.symm
  have HB := Lib.hid hn2.symm
  have S1 := Lib.hid s1
  have S2 := Lib.hid s2
  have hlt := World.block_lt_of_cell? w _ h0
  simp only at hlt
  have H1 := Lib.hid h1
  rw [← hn1] at hp ha
  rw [← hn2] at hb
  obtain ⟨m, hm⟩ : ∃ m, m = n1 + n2 := ⟨_, rfl⟩
  have u1 : IntKind.i64.wrap (n1 : Int) = (n1 : Int) := IntWalk.i64_in _ (by omega)
  have u2 : IntKind.i64.wrap ((n1 : Int) + (n2 : Int)) = (m : Int) := by rw [IntWalk.i64_in _ (by omega)]; omega
  have u3 : (n1 : Int) + (n2 : Int) = (m : Int) := by omega
  have b1 : ¬ (n1 : Int) < 0 := by omega
  have b2 : ¬ (m : Int) < 0 := by omega
  have GN : Hid (Calls Tryd.prog 58 #[.slice none 0 0, .int .i64 m] w fun e w' => ∃ cap, m ≤ cap ∧ e = .returned (.slice (some ⟨w.heap.size, 0, none⟩) 0 cap) ∧ w'.ownsRow w.heap.size 5 1 (.slice (some ⟨w.heap.size, 0, none⟩) 0 cap) 0 [] ∧ Below w.heap.size w w') := grow_nil m w (by omega) (by omega)
  have HM := Lib.hid hm
  clear hm hn1 hn2 s1 s2
  go_enter Tryd.func31, Tryd.ntmps31
  go_wp2_with fail
  refine wp_loop_rounds 3 ?_
  rw [rounds_succ]
  go_wp2_with fail
  rw [rounds_succ]
  go_wp2_with fail
  rw [rounds_succ]
  go_wp2_with fail
  refine GN.out.mono ?_
  rintro e w1 ⟨cap, hcap, rfl, ho, hb1⟩
  have c0 : w1.cell? ⟨gs, 0, none⟩ = some (.slice p1 n1 c1) := by rw [hb1.cell (p := ⟨gs, 0, none⟩) hlt]; exact h0
  have HO := Lib.hid ho
  have HB1 := Lib.hid hb1
  have S1' := Lib.hid (S1.out.below hb1)
  have HC := Lib.hid hcap
  clear ho hb1 h0 h1 u1 u2 u3 b1 b2 hcap GN
  go_wp2_with fail
  refine wp_loop_rounds 3 ?_
  rw [rounds_succ]
  go_wp2_with (at_builtin; refine wpList_append_src _ rfl _ _ 25 rfl w.heap.size 5 i0 Tryd.underlying25 hi hz1 w.heap.size 0 cap [] rfl HO.out _ a rfl S1'.out (by have := HA.out; have := HC.out; have := HM.out; omega) ?_; intro w2 q1 q2; have HO2 : Hid (w2.ownsRow w.heap.size 5 1 (.slice (some ⟨w.heap.size, 0, none⟩) n1 cap) n1 (a.map bV)) := (by have h := q1.out; rw [HA.out, Nat.zero_add, List.nil_append] at h; exact h); have G2 := Lib.hid q2.out; clear q1 q2; rw [HA.out, Nat.zero_add]; have c1 : w2.cell? ⟨gs, 1, none⟩ = some (.slice p2 n2 c2) := (by rw [World.cell?_of_block (G2.out.block gs (Nat.lt_of_lt_of_le hlt HB1.out.size) (fun e => by have := Option.some.inj e; omega)), HB1.out.cell (p := ⟨gs, 1, none⟩) hlt]; exact H1.out); clear c0; go_frame)
  have B2 := Lib.hid (HB1.out.grown G2.out HB1.out.size (fun k hk => by cases hk; exact Nat.le_refl _))
  have S2' := Lib.hid (S2.out.below B2.out)
  rw [rounds_succ]
  go_wp2_with (at_builtin; refine wpList_append_src _ rfl _ _ 25 rfl w.heap.size 5 i0 Tryd.underlying25 hi hz1 w.heap.size n1 cap (a.map bV) rfl HO2.out _ b rfl S2'.out (by have := HB.out; have := HC.out; have := HM.out; omega) ?_; intro w3 q1 q2; have HO3 : Hid (w3.ownsRow w.heap.size 5 1 (.slice (some ⟨w.heap.size, 0, none⟩) (n1 + n2) cap) (n1 + n2) ((a ++ b).map bV)) := (by have h := q1.out; rw [HB.out] at h; rw [List.map_append]; exact h); have G3 := Lib.hid q2.out; clear q1 q2; rw [HB.out]; go_frame)
  have B3 := Lib.hid (B2.out.grown G3.out B2.out.size (fun k hk => by cases hk; exact Nat.le_refl _))
  rw [rounds_succ]
  go_wp2_with fail
  go_ret
  exact ⟨w.heap.size, n1 + n2, cap, rfl, Nat.le_refl _, ⟨src_own HO3.out, some ⟨w.heap.size, 0, none⟩, cap, by rw [List.length_append, HA.out, HB.out]⟩, B3.out⟩
end Go.Proofs.YtdamhoagiooicaaDoor.Sha

/-
  What literals of transactions, inputs, outputs and places lay. No conditions beyond those that each states.
-/
namespace Go.Proofs.YtdamhoagiooicaaDoor.Sha
open Go Go.RowKit
def zH : List UInt8 := List.replicate 32 0
theorem zH_length : zH.length = 32 := rfl
theorem built_ptn (n : Nat) : Tryd.prog.built 44 [(1, .int .u32 (n : Int))] = some (ptL zH n).toArray := by kernel_rfl
theorem built_inp (x : TIn) (hx : x.h.length = 32) (hs : x.seq = 0) : Tryd.prog.built 46 [(0, .agg (ptL x.h x.n).toArray)] = some (inL x (.slice none 0 0)).toArray := by
  have hz : ∀ parts, Tryd.prog.built 46 parts = Instr.fill ([(0, 33), (33, 1), (34, 1)].toArray[·]?) (List.replicate 32 (bV 0) ++ [nV 0, .slice none 0 0, nV 0]).toArray parts := fun parts => by kernel_rfl
  have hl : (ptL x.h x.n).length = 33 := by simp [ptL, hx]
  rw [hz, fill_part _ 0 0 (.agg (ptL x.h x.n).toArray) (ptL x.h x.n) _ _ rfl (by rw [hl]; rfl) (by rw [hl]; simp)]
  rw [List.take_zero, List.nil_append, Nat.zero_add, hl, inL, hs]
  rfl
theorem built_ink (x : TIn) (hx : x.h.length = 32) (kv : Value) (hk : kv.oneCell' = true) (hs : x.seq = 0) : Tryd.prog.built 46 [(0, .agg (ptL x.h x.n).toArray), (1, kv)] = some (inL x kv).toArray := by
  have hz : ∀ parts, Tryd.prog.built 46 parts = Instr.fill ([(0, 33), (33, 1), (34, 1)].toArray[·]?) (List.replicate 32 (bV 0) ++ [nV 0, .slice none 0 0, nV 0]).toArray parts := fun parts => by kernel_rfl
  have hl : (ptL x.h x.n).length = 33 := by simp [ptL, hx]
  rw [hz, fill_part _ 0 0 (.agg (ptL x.h x.n).toArray) (ptL x.h x.n) _ _ rfl (by rw [hl]; rfl) (by rw [hl]; simp)]
  rw [List.take_zero, List.nil_append, Nat.zero_add, hl]
  rw [fill_part _ 1 33 kv [kv] _ _ (cells_one hk) rfl (by simp [hl])]
  have e : List.drop (33 + [kv].length) (ptL x.h x.n ++ List.drop 33 (List.replicate 32 (bV 0) ++ [nV 0, .slice none 0 0, nV 0])) = [nV 0] := by
    rw [show 33 + [kv].length = (ptL x.h x.n).length + 1 by rw [hl]; rfl, ← List.drop_drop, List.drop_left]
    rfl
  rw [List.take_append_of_le_length (by omega), List.take_of_length_le (by omega), e, inL, hs]
  rw [List.append_assoc]
  rfl
theorem built_txs (iv ov : Value) (h1 : iv.oneCell' = true) (h2 : ov.oneCell' = true) : Tryd.prog.built 32 [(1, iv), (2, ov)] = some [nV 0, iv, ov, nV 0].toArray := by
  have hz : ∀ parts, Tryd.prog.built 32 parts = Instr.fill ([(0, 1), (1, 1), (2, 1), (3, 1)].toArray[·]?) [nV 0, .slice none 0 0, .slice none 0 0, nV 0].toArray parts := fun parts => by kernel_rfl
  rw [hz, fill_part _ 1 1 iv [iv] _ _ (cells_one h1) rfl (by simp), fill_part _ 2 2 ov [ov] _ _ (cells_one h2) rfl (by simp)]
  rfl
theorem built_outv (v : Nat) : Tryd.prog.built 48 [(0, .int .u64 (v : Int))] = some (outL ⟨v, zH⟩).toArray := by kernel_rfl
theorem built_out0 : Tryd.prog.built 48 [] = some (outL ⟨0, zH⟩).toArray := by kernel_rfl
end Go.Proofs.YtdamhoagiooicaaDoor.Sha
