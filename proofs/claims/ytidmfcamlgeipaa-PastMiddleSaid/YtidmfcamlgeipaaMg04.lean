/-
  Texts of this proof joined into one file: TxRead2, TxTakeM, TxTakeIn, TxTakeW0, CutS, RwApp, CnAdd, CnTotal, ShaMath, ShaMix, ShaMath2, ShaSmall, ShaBytes, ShaWrite, ShaSum, ShaCmp. What each holds, and under which conditions, its own first sentence tells.
-/
import Derived.Maps.AppendAt
import Derived.WalkSpells
import Derived.Carry
import Derived.WalkKit
import Derived.Deep.Light
import Derived.StillTailTactics
import Derived.LoopTactic
import Derived.RegionTactic
import Derived.Deep.QuietTactic
import Derived.BigQuiet
import Derived.Laws.CopyOwn
import Derived.Lib.Hide
import Derived.WalkSmall
import Derived.Maps.RangeWalk
import Derived.Deep.DeepFit
import Derived.Deep.DeepCutAuto
import Derived.LoopN
import Derived.Lib.Bytealg
import Derived.Lib.BytesEntry
import Derived.Test.YtidmfcamlgeipaaMg03
import Derived.Test.YtidmfcamlgeipaaMg02
import Derived.Test.YtidmfcamlgeipaaMg01
import Derived.Test.YtidmfcamlgeipaaProg
/-
  Plain mathematics of a transaction read out of bytes: an input, an output, the whole; all that is in the bytes, and what is amiss. No conditions beyond those that each states.
-/
namespace Go.Proofs.Ytidmfcamlgeipaa.Sha
open Go Go.RowKit
def inP : Par TIn := thenP (takeL 32) fun h => thenP (leP 4) fun n => thenP (numL 80) fun k => thenP (takeL k) fun key => mapP (fun s => ⟨padH h, n, key, s⟩) (leP 4)
def outP : Par TOut := thenP (leP 8) fun v => mapP (fun h => ⟨v, padH h⟩) (takeL 32)
def txP : Par TTx := thenP (leP 4) fun v => thenP (numL 50) fun n => thenP (manyP inP n) fun is => thenP (numL 50) fun m => thenP (manyP outP m) fun os => mapP (fun t => ⟨v, is, os, t⟩) (leP 4)
def noTx : TTx := ⟨0, [], [], 0⟩
/-- A transaction out of a Reader: none where an error was met. -/
def takeTx (bs : List UInt8) (c : Nat) : TTx × List UInt8 × Nat := if (txP bs c).2.2 = 0 then txP bs c else (noTx, (txP bs c).2)
/-- Bytes as a transaction, or what is amiss. -/
def readTx (bs : List UInt8) : TTx × Nat := if (txP bs 0).2.2 ≠ 0 then (noTx, (txP bs 0).2.2) else if (txP bs 0).2.1 ≠ [] then (noTx, 2) else ((txP bs 0).1, 0)
theorem padH_whole {x : List UInt8} (h : x.length = 32) : padH x = x := by unfold padH; rw [h]; simp
theorem stay_in : Stay inP := (stay_take 32).andThen fun _ => (stay_le 4).andThen fun _ => (stay_num 80).andThen fun k => (stay_take k).andThen fun _ => (stay_le 4).map _
theorem stay_out : Stay outP := (stay_le 8).andThen fun _ => (stay_take 32).map _
theorem stay_tx : Stay txP := (stay_le 4).andThen fun _ => (stay_num 50).andThen fun n => (stay_many n).andThen fun _ => (stay_num 50).andThen fun m => (stay_many m).andThen fun _ => (stay_le 4).map _
theorem good_in (x : TIn) (h : InOk x) (hk : x.key.length ≤ 80) : Good inP x (inB x) := by
  obtain ⟨h1, h2, h3⟩ := h
  obtain ⟨a, b, c, d⟩ := x
  simp only at h1 h2 h3 hk
  have g := (good_take a 32 h1).andThen (q := fun h => thenP (leP 4) fun n => thenP (numL 80) fun k => thenP (takeL k) fun key => mapP (fun s => (⟨padH h, n, key, s⟩ : TIn)) (leP 4))
    ((good_le b 4 (by omega)).andThen (q := fun n => thenP (numL 80) fun k => thenP (takeL k) fun key => mapP (fun s => (⟨padH a, n, key, s⟩ : TIn)) (leP 4))
      ((good_num 80 c.length hk (by omega)).andThen (q := fun k => thenP (takeL k) fun key => mapP (fun s => (⟨padH a, b, key, s⟩ : TIn)) (leP 4))
        ((good_take c c.length rfl).andThen (q := fun key => mapP (fun s => (⟨padH a, b, key, s⟩ : TIn)) (leP 4))
          ((good_le d 4 (by omega)).map _) (fun _ => (stay_le 4).map _)) (fun k => (stay_take k).andThen fun _ => (stay_le 4).map _)) (fun _ => (stay_num 80).andThen fun k => (stay_take k).andThen fun _ => (stay_le 4).map _))
      (fun _ => (stay_le 4).andThen fun _ => (stay_num 80).andThen fun k => (stay_take k).andThen fun _ => (stay_le 4).map _)
  rw [padH_whole h1] at g
  simp only [inB, List.append_assoc]
  exact g
theorem good_out (y : TOut) (h : OutOk y) : Good outP y (outB y) := by
  obtain ⟨h1, h2⟩ := h
  obtain ⟨a, b⟩ := y
  simp only at h1 h2
  have g := (good_le a 8 (by omega)).andThen (q := fun v => mapP (fun h => (⟨v, padH h⟩ : TOut)) (takeL 32)) ((good_take b 32 h1).map _) (fun _ => (stay_take 32).map _)
  rw [padH_whole h1] at g
  exact g
/-- What a transaction must be to be read again. -/
def TxRead (t : TTx) : Prop := TxOk t ∧ InsOk t.ins ∧ OutsOk t.outs ∧ KeysLe t.ins 80 ∧ t.ins.length ≤ 50 ∧ t.outs.length ≤ 50
theorem TxRead.fit {t : TTx} (h : TxRead t) : TxFit t := ⟨h.1, h.2.1, h.2.2.1, fun x hx => Nat.le_trans (h.2.2.2.1 x hx) (by omega), Nat.le_trans h.2.2.2.2.1 (by omega), Nat.le_trans h.2.2.2.2.2 (by omega)⟩
theorem good_tx (t : TTx) (h : TxRead t) : Good txP t (txB t) := by
  obtain ⟨⟨h1, h2⟩, h3, h4, h5, h6, h7⟩ := h
  obtain ⟨a, b, c, d⟩ := t
  simp only at h1 h2 h3 h4 h5 h6 h7
  have g := (good_le a 4 (by omega)).andThen (q := fun v => thenP (numL 50) fun n => thenP (manyP inP n) fun is => thenP (numL 50) fun m => thenP (manyP outP m) fun os => mapP (fun t => (⟨v, is, os, t⟩ : TTx)) (leP 4))
    ((good_num 50 b.length h6 (by omega)).andThen (q := fun n => thenP (manyP inP n) fun is => thenP (numL 50) fun m => thenP (manyP outP m) fun os => mapP (fun t => (⟨a, is, os, t⟩ : TTx)) (leP 4))
      ((good_many inB b (fun z hz => good_in z (h3 z hz) (h5 z hz))).andThen (q := fun is => thenP (numL 50) fun m => thenP (manyP outP m) fun os => mapP (fun t => (⟨a, is, os, t⟩ : TTx)) (leP 4))
        ((good_num 50 c.length h7 (by omega)).andThen (q := fun m => thenP (manyP outP m) fun os => mapP (fun t => (⟨a, b, os, t⟩ : TTx)) (leP 4))
          ((good_many outB c (fun z hz => good_out z (h4 z hz))).andThen (q := fun os => mapP (fun t => (⟨a, b, os, t⟩ : TTx)) (leP 4))
            ((good_le d 4 (by omega)).map _) (fun _ => (stay_le 4).map _)) (fun m => (stay_many m).andThen fun _ => (stay_le 4).map _)) (fun _ => (stay_num 50).andThen fun m => (stay_many m).andThen fun _ => (stay_le 4).map _))
        (fun n => (stay_many n).andThen fun _ => (stay_num 50).andThen fun m => (stay_many m).andThen fun _ => (stay_le 4).map _))
      (fun _ => (stay_num 50).andThen fun n => (stay_many n).andThen fun _ => (stay_num 50).andThen fun m => (stay_many m).andThen fun _ => (stay_le 4).map _)
  simp only [txB, insB, outsB, List.append_assoc]
  exact g
theorem back_in : BackR inP (fun a x => x = inB a ∧ InOk a ∧ a.key.length ≤ 80) := by
  refine BackR.weak ((back_take 32).andThen (fun h => (back_le 4).andThen (fun n => (back_num 80).andThen (fun k => (back_take k).andThen (fun key => (back_le 4).map _) (fun _ => (stay_le 4).map _)) (fun k => (stay_take k).andThen fun _ => (stay_le 4).map _)) (fun _ => (stay_num 80).andThen fun k => (stay_take k).andThen fun _ => (stay_le 4).map _)) (fun _ => (stay_le 4).andThen fun _ => (stay_num 80).andThen fun k => (stay_take k).andThen fun _ => (stay_le 4).map _)) ?_
  rintro a x ⟨h, x1, x2, rfl, ⟨rfl, hh⟩, n, x3, x4, rfl, ⟨rfl, hn⟩, k, x5, x6, rfl, ⟨rfl, hk⟩, key, x7, x8, rfl, ⟨rfl, hkey⟩, s, rfl, rfl, hs⟩
  subst hkey
  rw [padH_whole hh]
  exact ⟨by simp only [inB, List.append_assoc], ⟨hh, Nat.le_of_lt_succ hn, Nat.le_of_lt_succ hs⟩, hk⟩
theorem back_out : BackR outP (fun a x => x = outB a ∧ OutOk a) := by
  refine BackR.weak ((back_le 8).andThen (fun v => (back_take 32).map _) (fun _ => (stay_take 32).map _)) ?_
  rintro a x ⟨v, x1, x2, rfl, ⟨rfl, hv⟩, h, rfl, rfl, hh⟩
  rw [padH_whole hh]
  exact ⟨rfl, hh, Nat.le_of_lt_succ hv⟩
theorem back_tx : BackR txP (fun t x => x = txB t ∧ TxRead t) := by
  refine BackR.weak ((back_le 4).andThen (fun v => (back_num 50).andThen (fun n => (back_many inB _ back_in n).andThen (fun is => (back_num 50).andThen (fun m => (back_many outB _ back_out m).andThen (fun os => (back_le 4).map _) (fun _ => (stay_le 4).map _)) (fun m => (stay_many m).andThen fun _ => (stay_le 4).map _)) (fun _ => (stay_num 50).andThen fun m => (stay_many m).andThen fun _ => (stay_le 4).map _)) (fun n => (stay_many n).andThen fun _ => (stay_num 50).andThen fun m => (stay_many m).andThen fun _ => (stay_le 4).map _)) (fun _ => (stay_num 50).andThen fun n => (stay_many n).andThen fun _ => (stay_num 50).andThen fun m => (stay_many m).andThen fun _ => (stay_le 4).map _)) ?_
  rintro a x ⟨v, x1, x2, rfl, ⟨rfl, hv⟩, n, x3, x4, rfl, ⟨rfl, hn⟩, is, x5, x6, rfl, ⟨rfl, hi, hil⟩, m, x7, x8, rfl, ⟨rfl, hm⟩, os, x9, x10, rfl, ⟨rfl, ho, hol⟩, s, rfl, rfl, hs⟩
  subst hil hol
  exact ⟨by simp only [txB, insB, outsB, List.append_assoc], ⟨Nat.le_of_lt_succ hv, Nat.le_of_lt_succ hs⟩, fun z hz => (hi z hz).1, ho, fun z hz => (hi z hz).2, hn, hm⟩
/-- What was written is read again. -/
theorem read_own {t : TTx} (h : TxRead t) : readTx (txB t) = (t, 0) := by
  have g := (good_tx t h).1 []
  rw [List.append_nil] at g
  unfold readTx
  rw [g]
  rfl
theorem take_own {t : TTx} (h : TxRead t) (y : List UInt8) : takeTx (txB t ++ y) 0 = (t, y, 0) := by
  unfold takeTx
  rw [(good_tx t h).1 y, if_pos rfl]
/-- Cut off, it ends too early. -/
theorem read_cut {t : TTx} (h : TxRead t) {k : Nat} (hk : k < (txB t).length) : readTx ((txB t).take k) = (noTx, 1) := by
  have g := (good_tx t h).2 k hk
  unfold readTx
  rw [g, if_pos (by omega)]
/-- Longer, it has another shape. -/
theorem read_long {t : TTx} (h : TxRead t) {y : List UInt8} (hy : y ≠ []) : readTx (txB t ++ y) = (noTx, 2) := by
  unfold readTx
  rw [(good_tx t h).1 y, if_neg (by simp), if_pos hy]
/-- What is read has just these bytes. -/
theorem read_back {b : List UInt8} (h : (readTx b).2 = 0) : b = txB (readTx b).1 ∧ TxRead (readTx b).1 := by
  obtain ⟨p, hp⟩ : ∃ p, txP b 0 = p := ⟨_, rfl⟩
  unfold readTx at h ⊢
  rw [hp] at h ⊢
  obtain ⟨a, r, c⟩ := p
  by_cases h1 : c ≠ 0
  · rw [if_pos (show (a, r, c).2.2 ≠ 0 from h1)] at h
    exact absurd h h1
  · have h1 : c = 0 := by omega
    subst h1
    by_cases h2 : r ≠ []
    · rw [if_neg (show ¬ (a, r, 0).2.2 ≠ 0 from fun h => h rfl), if_pos (show (a, r, 0).2.1 ≠ [] from h2)] at h
      exact absurd h (by simp)
    · have h2 : r = [] := by simpa using h2
      subst h2
      obtain ⟨x, e, e2, hr⟩ := back_tx b a [] hp
      rw [List.append_nil] at e
      exact ⟨e.trans e2, hr⟩
/-- What may be is read again. -/
theorem read_fine {t : TTx} (h : TxFit t) (hc : checkN t = 0) : TxRead t := by
  unfold checkN at hc
  split at hc
  · omega
  rename_i h1
  split at hc
  · omega
  split at hc
  · omega
  rename_i h3
  refine ⟨h.1, h.2.1, h.2.2.1, fun x hx => ?_, by omega, by omega⟩
  simp only [List.any_eq_true, decide_eq_true_eq, not_exists, not_and] at h3
  have := h3 x hx
  omega
end Go.Proofs.Ytidmfcamlgeipaa.Sha

/-
  Plain mathematics of so many things read one behind the other, whether or not an error was met between: they leave and meet what those do that stop at the first error. No conditions.
-/
namespace Go.Proofs.Ytidmfcamlgeipaa.Sha
open Go Go.RowKit
section
variable {α β : Type} {p q : Par α}
/-- So many, whatever is met. -/
def manyS (p : Par α) : Nat → Par (List α)
  | 0, bs, c => ([], bs, c)
  | n + 1, bs, c => ((manyS p n bs c).1 ++ [(p (manyS p n bs c).2.1 (manyS p n bs c).2.2).1], (p (manyS p n bs c).2.1 (manyS p n bs c).2.2).2)
theorem manyS_cons (p : Par α) : ∀ (n : Nat) (bs : List UInt8) (c : Nat), manyS p (n + 1) bs c = thenP p (fun a => mapP (a :: ·) (manyS p n)) bs c
  | 0, bs, c => rfl
  | n + 1, bs, c => by
    have ih := manyS_cons p n bs c
    rw [manyS, ih]
    rfl
theorem manyS_length (p : Par α) : ∀ (n : Nat) (bs : List UInt8) (c : Nat), (manyS p n bs c).1.length = n
  | 0, _, _ => rfl
  | n + 1, bs, c => by
    rw [manyS]
    simp [manyS_length p n bs c]
/-- Behind an error nothing is read. -/
def Still (p : Par α) : Prop := ∀ bs c, c ≠ 0 → (p bs c).2 = (bs, c)
theorem Still.andThen {f : α → Par β} (h1 : Still p) (h2 : ∀ a, Still (f a)) : Still (thenP p f) := fun bs c hc => by
  have e := h1 bs c hc
  unfold thenP
  rw [e]
  exact h2 _ bs c hc
theorem Still.map (f : α → β) (h : Still p) : Still (mapP f p) := fun bs c hc => h bs c hc
theorem still_manyS (h : Still p) : ∀ n, Still (manyS p n)
  | 0 => fun _ _ _ => rfl
  | n + 1 => fun bs c hc => by
    have e := still_manyS h n bs c hc
    rw [manyS, e]
    exact h bs c hc
theorem still_manyP (_h : Still p) : ∀ n, Still (manyP p n)
  | 0 => fun _ _ _ => rfl
  | n + 1 => fun bs c hc => by
    rw [manyP, if_pos hc]
/-- Two that leave and meet the same, and are the same where nothing is met. -/
def Sim (p q : Par α) : Prop := ∀ bs c, (p bs c).2 = (q bs c).2 ∧ ((p bs c).2.2 = 0 → p bs c = q bs c)
theorem Sim.refl (p : Par α) : Sim p p := fun _ _ => ⟨rfl, fun _ => rfl⟩
theorem Sim.andThen {f g : α → Par β} (h1 : Sim p q) (h2 : ∀ a, Sim (f a) (g a)) (s1 : ∀ a, Still (f a)) (s2 : ∀ a, Still (g a)) : Sim (thenP p f) (thenP q g) := fun bs c => by
  obtain ⟨e1, e2⟩ := h1 bs c
  unfold thenP
  by_cases hd : (p bs c).2.2 = 0
  · have e := e2 hd
    rw [← e]
    exact h2 _ _ _
  · rw [← e1]
    have a1 := s1 (p bs c).1 (p bs c).2.1 (p bs c).2.2 hd
    have a2 := s2 (q bs c).1 (p bs c).2.1 (p bs c).2.2 hd
    exact ⟨a1.trans a2.symm, fun h0 => by rw [a1] at h0; exact absurd h0 hd⟩
theorem Sim.map (f : α → β) (h : Sim p q) : Sim (mapP f p) (mapP f q) := fun bs c => by
  obtain ⟨e1, e2⟩ := h bs c
  unfold mapP
  exact ⟨e1, fun h0 => by rw [e2 h0]⟩
theorem sim_many (h : Still p) : ∀ n, Sim (manyP p n) (manyS p n)
  | 0 => fun _ _ => ⟨rfl, fun _ => rfl⟩
  | n + 1 => fun bs c => by
    by_cases hc : c ≠ 0
    · have e := still_manyS h (n + 1) bs c hc
      rw [e, manyP, if_pos hc]
      exact ⟨rfl, fun h0 => absurd h0 hc⟩
    · rw [manyS_cons, manyP, if_neg hc]
      exact (Sim.refl p).andThen (fun a => (sim_many h n).map (a :: ·)) (fun a => (still_manyP h n).map _) (fun a => (still_manyS h n).map _) bs c
end
theorem still_take (k : Nat) : Still (takeL k) := fun bs c hc => by rw [takeL_err k bs c hc]
theorem still_num (most : Nat) : Still (numL most) := fun bs c hc => by rw [numL_err most bs c hc]
theorem still_le (k : Nat) : Still (leP k) := (still_take k).map _
theorem still_in : Still inP := (still_take 32).andThen fun _ => (still_le 4).andThen fun _ => (still_num 80).andThen fun k => (still_take k).andThen fun _ => (still_le 4).map _
theorem still_out : Still outP := (still_le 8).andThen fun _ => (still_take 32).map _
/-- A transaction, whatever is met between. -/
def txS : Par TTx := thenP (leP 4) fun v => thenP (numL 50) fun n => thenP (manyS inP n) fun is => thenP (numL 50) fun m => thenP (manyS outP m) fun os => mapP (fun t => ⟨v, is, os, t⟩) (leP 4)
theorem sim_tx : Sim txP txS :=
  (Sim.refl _).andThen (fun _ => (Sim.refl _).andThen (fun n => (sim_many still_in n).andThen (fun _ => (Sim.refl _).andThen (fun m => (sim_many still_out m).andThen (fun _ => Sim.refl _) (fun _ => (still_le 4).map _) (fun _ => (still_le 4).map _))
    (fun m => (still_manyP still_out m).andThen fun _ => (still_le 4).map _) (fun m => (still_manyS still_out m).andThen fun _ => (still_le 4).map _))
    (fun _ => (still_num 50).andThen fun m => (still_manyP still_out m).andThen fun _ => (still_le 4).map _) (fun _ => (still_num 50).andThen fun m => (still_manyS still_out m).andThen fun _ => (still_le 4).map _))
    (fun n => (still_manyP still_in n).andThen fun _ => (still_num 50).andThen fun m => (still_manyP still_out m).andThen fun _ => (still_le 4).map _) (fun n => (still_manyS still_in n).andThen fun _ => (still_num 50).andThen fun m => (still_manyS still_out m).andThen fun _ => (still_le 4).map _))
    (fun _ => (still_num 50).andThen fun n => (still_manyP still_in n).andThen fun _ => (still_num 50).andThen fun m => (still_manyP still_out m).andThen fun _ => (still_le 4).map _) (fun _ => (still_num 50).andThen fun n => (still_manyS still_in n).andThen fun _ => (still_num 50).andThen fun m => (still_manyS still_out m).andThen fun _ => (still_le 4).map _)
theorem takeTx_S (bs : List UInt8) (c : Nat) : takeTx bs c = if (txS bs c).2.2 = 0 then txS bs c else (noTx, (txS bs c).2) := by
  obtain ⟨e1, e2⟩ := sim_tx bs c
  unfold takeTx
  rw [← e1]
  split
  · rename_i h
    exact e2 h
  · rfl
/-- What is left is no longer than what was there. -/
def Less {α : Type} (p : Par α) : Prop := ∀ bs c, (p bs c).2.1.length ≤ bs.length
theorem less_take (k : Nat) : Less (takeL k) := fun bs c => by
  unfold takeL
  split
  · exact Nat.le_refl _
  · split
    · exact Nat.le_refl _
    · rw [List.length_drop]; omega
theorem Less.andThen {α β : Type} {p : Par α} {f : α → Par β} (h1 : Less p) (h2 : ∀ a, Less (f a)) : Less (thenP p f) := fun bs c => Nat.le_trans (h2 _ _ _) (h1 bs c)
theorem Less.map {α β : Type} {p : Par α} (f : α → β) (h : Less p) : Less (mapP f p) := h
theorem less_le (k : Nat) : Less (leP k) := (less_take k).map _
/-- What Num answers out of the bytes that it took. -/
def numEnd (most k : Nat) (u : List UInt8 × List UInt8 × Nat) : Nat × List UInt8 × Nat :=
  if u.2.2 ≠ 0 then (0, u.2.1, u.2.2) else if lenN (leN u.1) ≠ 1 + k then (0, u.2.1, 2) else if most < leN u.1 then (0, u.2.1, 4) else (leN u.1, u.2.1, 0)
theorem numL_end (most : Nat) (bs : List UInt8) (c : Nat) : numL most bs c = numEnd most (widN (leN (takeL 1 bs c).1)) (if widN (leN (takeL 1 bs c).1) = 0 then takeL 1 bs c else takeL (widN (leN (takeL 1 bs c).1)) (takeL 1 bs c).2.1 (takeL 1 bs c).2.2) := rfl
theorem numEnd_le (most k : Nat) (u : List UInt8 × List UInt8 × Nat) : (numEnd most k u).1 ≤ most ∧ (numEnd most k u).2.1 = u.2.1 := by
  unfold numEnd
  split
  · exact ⟨Nat.zero_le _, rfl⟩
  · split
    · exact ⟨Nat.zero_le _, rfl⟩
    · split
      · exact ⟨Nat.zero_le _, rfl⟩
      · rename_i h
        exact ⟨Nat.le_of_not_lt h, rfl⟩
theorem less_num (most : Nat) : Less (numL most) := fun bs c => by
  have h1 := less_take 1 bs c
  have h2 := less_take (widN (leN (takeL 1 bs c).1)) (takeL 1 bs c).2.1 (takeL 1 bs c).2.2
  rw [numL_end, (numEnd_le _ _ _).2]
  split
  · exact h1
  · exact Nat.le_trans h2 h1
theorem less_manyS {α : Type} {p : Par α} (h : Less p) : ∀ n, Less (manyS p n)
  | 0 => fun _ _ => Nat.le_refl _
  | n + 1 => fun bs c => Nat.le_trans (h _ _) (less_manyS h n bs c)
theorem less_in : Less inP := (less_take 32).andThen fun _ => (less_le 4).andThen fun _ => (less_num 80).andThen fun k => (less_take k).andThen fun _ => (less_le 4).map _
theorem less_out : Less outP := (less_le 8).andThen fun _ => (less_take 32).map _
theorem numL_most (most : Nat) (bs : List UInt8) (c : Nat) : (numL most bs c).1 ≤ most := by
  rw [numL_end]
  exact (numEnd_le _ _ _).1
theorem leP_lt (k : Nat) (bs : List UInt8) (c : Nat) : (leP k bs c).1 < 256 ^ k := by
  have h := takeL_le k bs c
  exact Nat.lt_of_lt_of_le (leN_lt _) (Nat.pow_le_pow_right (by omega) h)
theorem pow4 : (256 : Nat) ^ 4 = 4294967296 := by decide
theorem pow8 : (256 : Nat) ^ 8 = 18446744073709551616 := by decide
theorem le4 (bs : List UInt8) (c : Nat) : (leP 4 bs c).1 ≤ 4294967295 := by
  have := leP_lt 4 bs c
  rw [pow4] at this
  omega
theorem le8 (bs : List UInt8) (c : Nat) : (leP 8 bs c).1 ≤ 18446744073709551615 := by
  have := leP_lt 8 bs c
  rw [pow8] at this
  omega
theorem inP_laid (bs x1 b1 b2 b3 x3 b4 b5 : List UInt8) (c d1 d2 d3 d4 d5 n k s : Nat) (h1 : takeL 32 bs c = (x1, b1, d1)) (h2 : leP 4 b1 d1 = (n, b2, d2)) (h3 : numL 80 b2 d2 = (k, b3, d3)) (h4 : takeL k b3 d3 = (x3, b4, d4)) (h5 : leP 4 b4 d4 = (s, b5, d5)) :
    inP bs c = (⟨padH x1, n, x3, s⟩, b5, d5) := by
  simp only [inP, thenP, mapP, h1, h2, h3, h4, h5]
theorem inP_ok (bs : List UInt8) (c : Nat) : InOk (inP bs c).1 := by
  obtain ⟨x1, b1, d1, h1⟩ : ∃ x b d, takeL 32 bs c = (x, b, d) := ⟨_, _, _, rfl⟩
  obtain ⟨n, b2, d2, h2⟩ : ∃ x b d, leP 4 b1 d1 = (x, b, d) := ⟨_, _, _, rfl⟩
  obtain ⟨k, b3, d3, h3⟩ : ∃ x b d, numL 80 b2 d2 = (x, b, d) := ⟨_, _, _, rfl⟩
  obtain ⟨x3, b4, d4, h4⟩ : ∃ x b d, takeL k b3 d3 = (x, b, d) := ⟨_, _, _, rfl⟩
  obtain ⟨s, b5, d5, h5⟩ : ∃ x b d, leP 4 b4 d4 = (x, b, d) := ⟨_, _, _, rfl⟩
  rw [inP_laid bs x1 b1 b2 b3 x3 b4 b5 c d1 d2 d3 d4 d5 n k s h1 h2 h3 h4 h5]
  have a1 := takeL_le 32 bs c
  have a2 := le4 b1 d1
  have a3 := le4 b4 d4
  rw [h1] at a1
  rw [h2] at a2
  rw [h5] at a3
  exact ⟨padH_length a1, a2, a3⟩
theorem outP_laid (bs x2 b1 b2 : List UInt8) (c d1 d2 v : Nat) (h1 : leP 8 bs c = (v, b1, d1)) (h2 : takeL 32 b1 d1 = (x2, b2, d2)) : outP bs c = (⟨v, padH x2⟩, b2, d2) := by
  simp only [outP, thenP, mapP, h1, h2]
theorem outP_ok (bs : List UInt8) (c : Nat) : OutOk (outP bs c).1 := by
  obtain ⟨v, b1, d1, h1⟩ : ∃ x b d, leP 8 bs c = (x, b, d) := ⟨_, _, _, rfl⟩
  obtain ⟨x2, b2, d2, h2⟩ : ∃ x b d, takeL 32 b1 d1 = (x, b, d) := ⟨_, _, _, rfl⟩
  rw [outP_laid bs x2 b1 b2 c d1 d2 v h1 h2]
  have a1 := le8 bs c
  have a2 := takeL_le 32 b1 d1
  rw [h1] at a1
  rw [h2] at a2
  exact ⟨padH_length a2, a1⟩
end Go.Proofs.Ytidmfcamlgeipaa.Sha

/-
  Package tx takes an input, and an output, from a Reader. Nothing that was there turns but the Reader. Conditions: the Reader stands as it should; the errors are there.
-/
namespace Go.Proofs.Ytidmfcamlgeipaa.Sha
open Go Go.RowKit
theorem leP_of {k : Nat} {bs x b : List UInt8} {c d : Nat} (h : takeL k bs c = (x, b, d)) : leP k bs c = (leN x, b, d) := by simp only [leP, mapP, h]
theorem one_mem {v : Value} (h : v.oneCell' = true) : ∀ u ∈ [v], u.oneCell' = true := fun u hu => by rw [List.mem_singleton.1 hu]; exact h
end Go.Proofs.Ytidmfcamlgeipaa.Sha

/-
  Loads and appends of structures where a region draws its order; rows that stay where others grow. No conditions beyond those that each states.
-/
namespace Go.Proofs.Ytidmfcamlgeipaa.Sha
open Go Go.RowKit
section
variable {P : Program}
theorem wp_load_cell {op : Oper} {a : Act} {w : World} {K : Act → World → Prop} {Q : Exit → Act → World → Prop} (ty : TypeId) (x : Operand) (ho : op.op = .load ty x) (b off : Nat) (hx : a.eval x = .pointer (some ⟨b, off, none⟩)) (v : Value) (d : TypeDesc)
    (hc : w.cell? ⟨b, off, none⟩ = some v) (hu : P.underlying ty = some d) (hd : d.isRow = false) (h : K (a.put op.dst v) w) : op.wp P a w K Q := by
  have hagg : (isAgg ty).run P w = .ok false w := by
    unfold isAgg
    rw [Sem.run_bind, run_underlying hu w]
    cases d <;> simp_all
  unfold Oper.wp execOp
  simp [ho, hx, Instr.loadAt, Instr.sureAddr, Sem.run_bind, loadVar, hagg, hc]
  exact h
theorem wp_append_row (w : World) {o : Oper} {a : Act} {K : Act → World → Prop} {Q : Exit → Act → World → Prop} (s x : Operand) (t : TypeId)
    (ho : o.op = Op.call { callee := Callee.builtin Builtin.append, args := #[s, x], argTypes := #[t, t] })
    (base : Nat) (e : TypeId) (i : TypeInfo) (z : Value) (size bytes : Nat) (ht : P.underlying t = some (.slice e)) (hi : P.info? e = some i) (hz : i.zero = some z)
    (hsize : i.size = size) (hby : i.bytes = bytes) (hzs : z.cells.size = size) (hsz : 0 < size)
    (v : Value) (n : Nat) (xs : List Value) (hs : a.eval s = v) (hown : w.ownsRow base e size v n xs)
    (ad : Addr) (m c : Nat) (news : List Value) (hx : a.eval x = .slice (some ad) m c) (hl : news.length = m * size) (hnews : ∀ j u, news[j]? = some u → w.cell? (ad.add j) = some u) (h1 : ∀ u ∈ news, u.oneCell' = true)
    (h63 : n + m ≤ maxLen) (hbytes : (n + m) * bytes ≤ 140737488355328) (hbase : base ≤ w.heap.size)
    (h : ∀ v' w', w'.ownsRow base e size v' (n + m) (xs ++ news) → w.grownBy w' v.ownBlock → (v'.ownBlock = v.ownBlock ∨ v'.ownBlock = some w.heap.size) → K (a.put o.dst v') w') : o.wp P a w K Q := by
  obtain ⟨v', w', hr, h2, h3, _, h5⟩ := run_append_own_at (P := P) w base t o.type e i z size bytes ht hi hz hsize hby hzs hsz v n xs hown ad m c news hl hnews h1 h63 hbytes hbase
  unfold Oper.wp execOp
  simp only [ho, resolve, invoke, builtin, Sem.run_bind, Sem.run_pure, Result.andThen_ok, List.map_toArray, List.map_cons, List.map_nil, hs, hx, hr]
  exact h v' w' h2 h3 h5
end
theorem own_one {w : World} {base n size : Nat} {e : TypeId} {v : Value} {xs : List Value} (h : w.ownsRow base e size v n xs) : v.oneCell' = true := by
  rcases h.2 with ⟨rfl, _⟩ | ⟨g, cap, cur, rfl, _⟩ <;> rfl
theorem cells_one {v : Value} (h : v.oneCell' = true) : v.cells = [v].toArray := by cases v <;> first | rfl | cases h
theorem in_mem_one (x : TIn) (kv : Value) (hk : kv.oneCell' = true) : ∀ u ∈ inL x kv, u.oneCell' = true := fun u hu => by
  have := in_one x kv hk
  rw [Array.all_eq_true_iff_forall_mem] at this
  exact this u (by simpa using hu)
theorem out_mem_one (y : TOut) : ∀ u ∈ outL y, u.oneCell' = true := fun u hu => by
  have := out_one y
  rw [Array.all_eq_true_iff_forall_mem] at this
  exact this u (by simpa using hu)
/-- All of a row's memory lies below. -/
def InsLow (B : Nat) (v : Value) (ks : List Value) : Prop := ∀ j, B ≤ j → v.ownBlock ≠ some j ∧ ∀ (i : Nat) kv, ks[i]? = some kv → Off kv (some j)
theorem txS_laid (bs x1 b1 b2 b3 b4 b5 x6 b6 : List UInt8) (c d1 d2 d3 d4 d5 d6 n1 n2 : Nat) (l1 : List TIn) (l2 : List TOut) (h1 : takeL 4 bs c = (x1, b1, d1)) (h2 : numL 50 b1 d1 = (n1, b2, d2)) (h3 : manyS inP n1 b2 d2 = (l1, b3, d3))
    (h4 : numL 50 b3 d3 = (n2, b4, d4)) (h5 : manyS outP n2 b4 d4 = (l2, b5, d5)) (h6 : takeL 4 b5 d5 = (x6, b6, d6)) : txS bs c = (⟨leN x1, l1, l2, leN x6⟩, b6, d6) := by
  simp only [txS, thenP, mapP, leP_of h1, h2, h3, h4, h5, leP_of h6]
theorem gr_own {w0 w w' : World} {r q : Option Nat} {B : Nat} (h : w0.grownBy w r) (hg : w.grownBy w' q) (hq : ∀ k, q = some k → B ≤ k) (hB : w0.heap.size ≤ B) : w0.grownBy w' r :=
  ⟨hg.os.trans h.os, hg.tape.trans h.tape, hg.output.trans h.output, Nat.le_trans h.size hg.size, fun k hk hne => by
    rw [hg.block k (Nat.lt_of_lt_of_le hk h.size) (fun e => by have := hq k e.symm; omega)]
    exact h.block k hk hne⟩
theorem row_own {w w' : World} {g : Nat} {o : Obj} {q : Option Nat} {B : Nat} (h : w.heap[g]? = some o) (hg : w.grownBy w' q) (hq : ∀ k, q = some k → B ≤ k) (hB : g < B) : w'.heap[g]? = some o :=
  row_far h hg (fun e => by have := hq g e; omega)
end Go.Proofs.Ytidmfcamlgeipaa.Sha

/-
  Parts of a slice of elements of any size; a literal in a region that draws its order. No conditions beyond those that each states.
-/
namespace Go.Proofs.Ytidmfcamlgeipaa.Sha
open Go Go.RowKit
theorem run_cutS_lh {P : Program} {w : World} (t e : TypeId) (s : Nat) (sp : Option Addr) (n cap l r : Nat) (hu : P.underlying t = some (.slice e)) (hsz : (P.info? e).map (·.size) = some s) (h1 : l ≤ r) (h2 : r ≤ cap) :
    (Instr.sliceAt t (.slice sp n cap) (some (.int .i64 l)) (some (.int .i64 r)) none).run P w = .ok (sliced sp l r cap s) w := by
  obtain ⟨i, hi, hs⟩ := Option.map_eq_some_iff.1 hsz
  have hu' : P.underlying t = some (.slice (P.elem t)) := by rw [elem_of hu]; exact hu
  rw [run_sliceAt_slice _ _ _ _ _ _ hu', run_slice_lh _ _ _ _ _ hu' _ _ _ _ (by omega) (by omega) (by omega), elem_of hu]
  simp [sizeOf, typeInfo, hi, hs, sliced, go_sem]
theorem run_cutS_h {P : Program} {w : World} (t e : TypeId) (s : Nat) (sp : Option Addr) (n cap r : Nat) (hu : P.underlying t = some (.slice e)) (hsz : (P.info? e).map (·.size) = some s) (h2 : r ≤ cap) :
    (Instr.sliceAt t (.slice sp n cap) none (some (.int .i64 r)) none).run P w = .ok (sliced sp 0 r cap s) w := by
  obtain ⟨i, hi, hs⟩ := Option.map_eq_some_iff.1 hsz
  have hu' : P.underlying t = some (.slice (P.elem t)) := by rw [elem_of hu]; exact hu
  rw [run_sliceAt_slice _ _ _ _ _ _ hu', run_slice_h _ _ _ _ _ hu' _ _ (by omega) (by omega), elem_of hu]
  simp [sizeOf, typeInfo, hi, hs, sliced, go_sem]
theorem run_cutS_l {P : Program} {w : World} (t e : TypeId) (s : Nat) (sp : Option Addr) (n cap l : Nat) (hu : P.underlying t = some (.slice e)) (hsz : (P.info? e).map (·.size) = some s) (h1 : l ≤ n) :
    (Instr.sliceAt t (.slice sp n cap) (some (.int .i64 l)) none none).run P w = .ok (sliced sp l n cap s) w := by
  obtain ⟨i, hi, hs⟩ := Option.map_eq_some_iff.1 hsz
  have hu' : P.underlying t = some (.slice (P.elem t)) := by rw [elem_of hu]; exact hu
  rw [run_sliceAt_slice _ _ _ _ _ _ hu', run_slice_l _ _ _ _ _ hu' _ _ (by omega) (by omega), elem_of hu]
  simp [sizeOf, typeInfo, hi, hs, sliced, go_sem]
section
variable {P : Program} {w : World} {ops : Array Oper} {rest : List Oper} {o : Oper} {a : Act} {Q : Exit → Act → World → Prop}
theorem wpList_cutS_lh (hgd : o.guard = none) (t : TypeId) (x lo hi : Operand) (ho : o.op = .slice t x (some lo) (some hi) none) (e : TypeId) (s : Nat) (hu : P.underlying t = some (.slice e)) (hsz : (P.info? e).map (·.size) = some s)
    (sp : Option Addr) (n cap : Nat) (l r : Nat) (hx : a.eval x = .slice sp n cap) (hl : a.eval lo = .int .i64 l) (hr : a.eval hi = .int .i64 r) (h1 : l ≤ r) (h2 : r ≤ cap)
    (h : ∀ v, Hid (v = sliced sp l r cap s) → wpList P ops Q rest (a.put o.dst v) w) : wpList P ops Q (o :: rest) a w := by
  refine wpList_plain hgd fun K hK => ?_
  unfold Oper.wp
  simp [execOp, ho, hx, hl, hr, run_cutS_lh (w := w) t e s sp n cap l r hu hsz h1 h2, Result.andThen]
  exact hK _ _ (h _ rfl)
theorem wpList_cutS_h (hgd : o.guard = none) (t : TypeId) (x hi : Operand) (ho : o.op = .slice t x none (some hi) none) (e : TypeId) (s : Nat) (hu : P.underlying t = some (.slice e)) (hsz : (P.info? e).map (·.size) = some s)
    (sp : Option Addr) (n cap : Nat) (r : Nat) (hx : a.eval x = .slice sp n cap) (hr : a.eval hi = .int .i64 r) (h2 : r ≤ cap)
    (h : ∀ v, Hid (v = sliced sp 0 r cap s) → wpList P ops Q rest (a.put o.dst v) w) : wpList P ops Q (o :: rest) a w := by
  refine wpList_plain hgd fun K hK => ?_
  unfold Oper.wp
  simp [execOp, ho, hx, hr, run_cutS_h (w := w) t e s sp n cap r hu hsz h2, Result.andThen]
  exact hK _ _ (h _ rfl)
theorem wpList_cutS_l (hgd : o.guard = none) (t : TypeId) (x lo : Operand) (ho : o.op = .slice t x (some lo) none none) (e : TypeId) (s : Nat) (hu : P.underlying t = some (.slice e)) (hsz : (P.info? e).map (·.size) = some s)
    (sp : Option Addr) (n cap : Nat) (l : Nat) (hx : a.eval x = .slice sp n cap) (hl : a.eval lo = .int .i64 l) (h1 : l ≤ n)
    (h : ∀ v, Hid (v = sliced sp l n cap s) → wpList P ops Q rest (a.put o.dst v) w) : wpList P ops Q (o :: rest) a w := by
  refine wpList_plain hgd fun K hK => ?_
  unfold Oper.wp
  simp [execOp, ho, hx, hl, run_cutS_l (w := w) t e s sp n cap l hu hsz h1, Result.andThen]
  exact hK _ _ (h _ rfl)
theorem yields_cutS_l {S : World → Prop} (hw : Region.wanted o (yielded ops a.tmps) = true) (t : TypeId) (x lo : Operand) (ho : o.op = .slice t x (some lo) none none) (e : TypeId) (s : Nat) (hu : P.underlying t = some (.slice e)) (hsz : (P.info? e).map (·.size) = some s)
    (sp : Option Addr) (n cap l : Nat) (v : Value) (hx : a.eval x = .slice sp n cap) (hl : a.eval lo = .int .i64 l) (h1 : l ≤ n) (hv : v = sliced sp l n cap s) : YieldsIf P ops S o v a :=
  .inl ⟨hw, fun w _ => by simp [execOp, ho, hx, hl, run_cutS_l (w := w) t e s sp n cap l hu hsz h1, Result.andThen, hv]⟩
theorem yields_cutS_h {S : World → Prop} (hw : Region.wanted o (yielded ops a.tmps) = true) (t : TypeId) (x hi : Operand) (ho : o.op = .slice t x none (some hi) none) (e : TypeId) (s : Nat) (hu : P.underlying t = some (.slice e)) (hsz : (P.info? e).map (·.size) = some s)
    (sp : Option Addr) (n cap r : Nat) (v : Value) (hx : a.eval x = .slice sp n cap) (hr : a.eval hi = .int .i64 r) (h2 : r ≤ cap) (hv : v = sliced sp 0 r cap s) : YieldsIf P ops S o v a :=
  .inl ⟨hw, fun w _ => by simp [execOp, ho, hx, hr, run_cutS_h (w := w) t e s sp n cap r hu hsz h2, Result.andThen, hv]⟩
end
theorem yieldsIf_build {P : Program} {ops : Array Oper} {S : World → Prop} {op : Oper} {a : Act} (hw : Region.wanted op (yielded ops a.tmps) = true) (t : TypeId) (parts : Array (Nat × Operand)) (ho : op.op = .build t parts) (ps : List (Nat × Value)) (hps : (parts.map fun (i, x) => (i, a.eval x)).toList = ps) (cs : Array Value)
    (hf : P.built t ps = some cs) : YieldsIf P ops S op (.agg cs) a :=
  .inl ⟨hw, fun w _ => by
    unfold execOp
    subst hps
    simp only [ho, Sem.run_bind, run_build w t _ _ hf, Result.andThen_ok, Sem.run_pure]⟩
end Go.Proofs.Ytidmfcamlgeipaa.Sha

/-
  A row put behind an own one, whatever stands in either. No conditions beyond those that each states.
-/
namespace Go.Proofs.Ytidmfcamlgeipaa.Sha
open Go Go.RowKit
theorem RwAt.flat {k : Nat} {w : World} {b o : Nat} {L : List (List Value)} (ha : AllK k L) (h : ∀ i x, L[i]? = some x → w.rangeAt b (o + i * k) x) : w.rangeAt b o L.flatten := by
  intro j u hj
  have hjl := (List.getElem?_eq_some_iff.1 hj).1
  rw [flatten_length L ha] at hjl
  have hk : 0 < k := by
    rcases Nat.eq_zero_or_pos k with h0 | h0
    · rw [h0, Nat.mul_zero] at hjl; omega
    · exact h0
  have hq : j / k < L.length := Nat.div_lt_of_lt_mul (by rw [Nat.mul_comm]; exact hjl)
  obtain ⟨x, hx⟩ : ∃ x, L[j / k]? = some x := ⟨_, List.getElem?_eq_getElem hq⟩
  have hm := Nat.div_add_mod j k
  have hr := Nat.mod_lt j hk
  have h1 := flatten_get L (j / k) x ha hx (j % k) hr
  rw [Nat.mul_comm] at hm
  rw [hm, hj] at h1
  have h2 := h (j / k) x hx (j % k) u h1.symm
  rwa [Nat.add_assoc, hm] at h2
/-- A row put behind an own one, whatever stands in either. -/
theorem wp_append_rw (w : World) {op : Oper} {a : Act} {K : Act → World → Prop} {Q : Exit → Act → World → Prop} (s x : Operand) (t : TypeId)
    (hop : op.op = Op.call { callee := Callee.builtin Builtin.append, args := #[s, x], argTypes := #[t, t] })
    (base : Nat) (e : TypeId) (i : TypeInfo) (z : Value) (k bytes : Nat) (h1 : Try.prog.underlying t = some (.slice e)) (h2 : Try.prog.info? e = some i) (hz : i.zero = some z) (hk : i.size = k) (hb : i.bytes = bytes) (hzs : z.cells.size = k) (hk0 : 0 < k)
    (v : Value) (L : List (List Value)) (hs : a.eval s = v) (hown : RwOwn k e base w v L) (y : Value) (M : List (List Value)) (hx : a.eval x = y) (hsrc : RwAt k w y M) (hone : ∀ m ∈ M, ∀ u ∈ m, u.oneCell' = true)
    (hlen : (L.length + M.length) * bytes ≤ 140737488355328) (hmax : L.length + M.length ≤ maxLen) (hbase : base ≤ w.heap.size)
    (hK : ∀ v' w', RwOwn k e base w' v' (L ++ M) → w.grownBy w' v.ownBlock → K (a.put op.dst v') w') : op.wp Try.prog a w K Q := by
  obtain ⟨hM, sp, cap, rfl, hc, hr⟩ := hsrc
  cases M with
  | nil =>
    have hrun := run_append_any0 (P := Try.prog) (w := w) base t op.type e i h1 h2 v L.length L.flatten (by rw [hk]; exact hown.1) sp cap
    unfold Oper.wp
    simp [execOp, hop, resolve, invoke, builtin, hs, hx, hrun, Result.andThen]
    refine hK v w ?_ (grownBy_refl _ _)
    rw [List.append_nil]
    exact hown
  | cons m M =>
    obtain ⟨b, o, rfl, hr2⟩ := hr (by simp)
    have hf := RwAt.flat hM hr2
    obtain ⟨v', w', hrun, a1, a2, _, _⟩ := run_append_own_at (P := Try.prog) w base t op.type e i z k bytes h1 h2 hz hk hb hzs hk0 v L.length L.flatten hown.1 ⟨b, o, none⟩ (m :: M).length cap (m :: M).flatten (flatten_length _ hM)
      (fun j u hu => by rw [Addr.add_mid]; exact hf j u hu) (fun u hu => by
        obtain ⟨q, hq, hu⟩ := List.mem_flatten.1 hu
        exact hone q hq u hu) hmax hlen hbase
    unfold Oper.wp execOp
    simp only [hop, resolve, invoke, builtin, Sem.run_bind, Sem.run_pure, Result.andThen_ok, List.map_toArray, List.map_cons, List.map_nil, hs, hx, hrun]
    refine hK v' w' ⟨?_, fun q hq => ?_⟩ a2
    · rw [List.length_append, List.flatten_append]
      exact a1
    · rcases List.mem_append.1 hq with h | h
      · exact hown.2 q h
      · exact hM q h
theorem wpList_append_rw (w : World) {ops : Array Oper} {rest : List Oper} {op : Oper} {a : Act} {Q : Exit → Act → World → Prop} (hg : op.guard = none) (s x : Operand) (t : TypeId)
    (hop : op.op = Op.call { callee := Callee.builtin Builtin.append, args := #[s, x], argTypes := #[t, t] })
    (base : Nat) (e : TypeId) (i : TypeInfo) (z : Value) (k bytes : Nat) (h1 : Try.prog.underlying t = some (.slice e)) (h2 : Try.prog.info? e = some i) (hz : i.zero = some z) (hk : i.size = k) (hb : i.bytes = bytes) (hzs : z.cells.size = k) (hk0 : 0 < k)
    (v : Value) (L : List (List Value)) (hs : a.eval s = v) (hown : RwOwn k e base w v L) (y : Value) (M : List (List Value)) (hx : a.eval x = y) (hsrc : RwAt k w y M) (hone : ∀ m ∈ M, ∀ u ∈ m, u.oneCell' = true)
    (hlen : (L.length + M.length) * bytes ≤ 140737488355328) (hmax : L.length + M.length ≤ maxLen) (hbase : base ≤ w.heap.size)
    (hK : ∀ v' w', RwOwn k e base w' v' (L ++ M) → w.grownBy w' v.ownBlock → wpList Try.prog ops Q rest (a.put op.dst v') w') : wpList Try.prog ops Q (op :: rest) a w :=
  wpList_plain hg fun _ hK' => wp_append_rw w s x t hop base e i z k bytes h1 h2 hz hk hb hzs hk0 v L hs hown y M hx hsrc hone hlen hmax hbase fun v' w' q1 q2 => hK' _ _ (hK v' w' q1 q2)
end Go.Proofs.Ytidmfcamlgeipaa.Sha

/-
  A coin is added to a set: its map turns, or is made. Conditions: the set lies where the pointer says; a place, a coin as the model has them; the errors are there.
-/
namespace Go.Proofs.Ytidmfcamlgeipaa.Sha
open Go Go.RowKit
/-- What a set says to a coin more. -/
def addR (l : List TSp) (p : TPt) (k : TMn) : Nat := if 2100000000000000 < k.val then 5 else if (getC l p).isSome then 6 else 0
def addL (l : List TSp) (p : TPt) (k : TMn) : List TSp := if addR l p k = 0 then l ++ [⟨p, k⟩] else l
theorem Kps.trans' {F : Nat → Prop} {w w1 w2 : World} {q : Nat} (h : Kps F w w1) (k : Kps (fun j => j ≠ q) w1 w2) (hq : w.heap.size < q) : Kps F w w2 :=
  ⟨k.os.trans h.os, k.tape.trans h.tape, k.output.trans h.output, Nat.le_trans h.size k.size, fun j hj hf => (k.block j (Nat.lt_of_lt_of_le hj h.size) (by omega)).trans (h.block j hj hf)⟩
end Go.Proofs.Ytidmfcamlgeipaa.Sha

/-
  Ranging over a set's map, at the operations; what all coins are worth together. Nothing that was there turns. Conditions: the set lies where the pointer says.
-/
namespace Go.Proofs.Ytidmfcamlgeipaa.Sha
open Go Go.RowKit
/-- How many are still to come, read off the world. -/
def iterLeft (m : Option Nat) (r : Nat) (w : World) : Nat :=
  match m with
  | none => 0
  | some b => w.rangeLeft b r
theorem IterAt.left {w : World} {m : Option Nat} {r : Nat} {rest : List TSp} (h : IterAt w m r rest) : iterLeft m r w = rest.length := by
  cases m with
  | none => rw [show rest = [] from h.1]; rfl
  | some b =>
    obtain ⟨es, clock, since, seen, c0, hb, _, hr, _, _, _, he, _⟩ := h
    have h4 := congrArg List.length he
    simp only [List.length_map, Array.length_toList] at h4
    show w.rangeLeft b r = _
    simp only [World.rangeLeft, hb, hr]
    exact h4
section
variable {ops : Array Oper} {rest : List Oper} {o : Oper} {a : Act} {w : World} {Q : Exit → Act → World → Prop}
theorem wpList_next_cn (hg : o.guard = none) (it : Operand) (hop : o.op = Op.next it false) (m : Option Nat) (r : Nat) (l : List TSp) (hit : a.eval it = .pointer (some ⟨r, 0, none⟩)) (h : IterAt w m r l) (hm : m ≠ some r)
    (hDone : l = [] → wpList Try.prog ops Q rest (a.put o.dst (.tuple #[.bool false])) w)
    (hMore : ∀ (x : TSp) (l' : List TSp) (w' : World), l.Perm (x :: l') → SpOk x → IterAt w' m r l' → w.grownBy w' (some r) → w'.heap.size = w.heap.size →
      (Instr.entry (.pointer (some ⟨r, 0, none⟩))).run Try.prog w' = .ok (.tuple #[.agg (ptC x.at_).toArray, .agg (mnL x.coin).toArray]) w' → wpList Try.prog ops Q rest (a.put o.dst (.tuple #[.bool true, .agg (ptC x.at_).toArray, .agg (mnL x.coin).toArray])) w') :
    wpList Try.prog ops Q (o :: rest) a w := by
  refine wpList_plain hg fun K' hK' => ?_
  unfold Oper.wp
  rcases run_next_cn h hm o.type with ⟨h0, hrun⟩ | ⟨x, l', w', hp, hx, hrun, hi, hgr, hsz, hen⟩
  · simp [execOp, hop, hit, hrun, Result.andThen]
    exact hK' _ _ (hDone h0)
  · simp [execOp, hop, hit, hrun, Result.andThen]
    exact hK' _ _ (hMore x l' w' hp hx hi hgr hsz hen)
end
/-- All values together. -/
def worthC (l : List TSp) : Nat := (l.map (·.coin.val)).sum
theorem worthC_perm {l l' : List TSp} (h : l.Perm l') : worthC l = worthC l' := (h.map _).sum_nat
def TotInv (m : Option Nat) (r : Nat) (l : List TSp) (w : World) (vt : Value) (wr : World) : Prop :=
  ∃ (d rest : List TSp) (t : Nat), vt = .int .u64 (t : Int) ∧ t = worthC d % 18446744073709551616 ∧ IterAt wr m r rest ∧ (d ++ rest).Perm l ∧ Below w.heap.size w wr
end Go.Proofs.Ytidmfcamlgeipaa.Sha

/-
  Plain mathematics of SHA-256 on 32-bit words, as the chapter gives it, and how the model's integers of kind u32 compute with such words. No program is imported. No conditions.
-/
namespace Go.Proofs.Ytidmfcamlgeipaa.Sha
open Go
/-- A word as the model's integer. -/
def wv (x : UInt32) : Int := x.toNat
theorem wv_bd (x : UInt32) : 0 ≤ wv x ∧ wv x ≤ 4294967295 := by
  have := x.toNat_lt
  unfold wv
  omega
theorem wv_inj {x y : UInt32} (h : wv x = wv y) : x = y := by
  unfold wv at h
  exact UInt32.toNat_inj.1 (by omega)
theorem wv_add (x y : UInt32) : IntKind.u32.wrap (wv x + wv y) = wv (x + y) := by
  unfold wv
  rw [IntKind.wrap_u32', UInt32.toNat_add]
  omega
theorem wv_sum (x y : UInt32) : (wv x + wv y) % 4294967296 = wv (x + y) := by
  rw [← wv_add, IntKind.wrap_u32']
theorem wv_xor (x y : UInt32) : bits .xor .u32 (wv x) (wv y) = wv (x ^^^ y) := by
  unfold wv
  rw [u32_xor_nat _ _ x.toNat_lt y.toNat_lt, UInt32.toNat_xor]
theorem wv_or (x y : UInt32) : bits .or .u32 (wv x) (wv y) = wv (x ||| y) := by
  unfold wv
  rw [u32_or_nat _ _ x.toNat_lt y.toNat_lt, UInt32.toNat_or]
theorem wv_and (x y : UInt32) : bits .and .u32 (wv x) (wv y) = wv (x &&& y) := by
  unfold wv
  rw [u32_and_nat _ _ x.toNat_lt y.toNat_lt, UInt32.toNat_and]
theorem wv_andNot (x y : UInt32) : bits .andNot .u32 (wv x) (wv y) = wv (x &&& ~~~y) := by
  unfold wv
  rw [u32_andNot_nat _ _ x.toNat_lt y.toNat_lt, UInt32.toNat_and, UInt32.toNat_not]
  rfl
/-- A word turned right by n bits. -/
def rotr (x : UInt32) (n : Nat) : UInt32 := (x >>> UInt32.ofNat n) ||| (x <<< UInt32.ofNat (32 - n))
theorem wv_shr (x : UInt32) (n : Nat) (h : n < 32) : wv x / 2 ^ n = wv (x >>> UInt32.ofNat n) := by
  unfold wv
  rw [UInt32.toNat_shiftRight, UInt32.toNat_ofNat_of_lt' (by show n < 2 ^ 32; omega), Nat.mod_eq_of_lt h, Nat.shiftRight_eq_div_pow]
  simp
theorem wv_shl (x : UInt32) (n : Nat) (h : n < 32) : IntKind.u32.wrap (wv x * 2 ^ n) = wv (x <<< UInt32.ofNat n) := by
  unfold wv
  rw [IntKind.wrap_u32', UInt32.toNat_shiftLeft, UInt32.toNat_ofNat_of_lt' (by show n < 2 ^ 32; omega), Nat.mod_eq_of_lt h, Nat.shiftLeft_eq]
  simp
theorem low5 (n : Nat) (h1 : 1 ≤ n) (h2 : n ≤ 31) : bits .and .u64 (IntKind.u64.wrap (-(n : Int))) 31 = 32 - (n : Int) := by
  have e : IntKind.u64.wrap (-(n : Int)) = ((18446744073709551616 - n : Nat) : Int) := by rw [IntKind.wrap_u64]; omega
  rw [e, show (31 : Int) = ((31 : Nat) : Int) from rfl, u64_and_nat _ _ (by omega) (by omega), show (31 : Nat) = 2 ^ 5 - 1 from rfl, Nat.and_two_pow_sub_one_eq_mod]
  omega
theorem rot_fact (x : UInt32) (n : Nat) (h1 : 1 ≤ n) (h2 : n ≤ 31) : bits .or .u32 (wv x * 2 ^ (32 - n) % 4294967296) (wv x / 2 ^ (32 - (32 - n))) = wv (rotr x n) := by
  rw [show 32 - (32 - n) = n by omega, ← IntKind.wrap_u32', wv_shl x _ (by omega), wv_shr x n (by omega), wv_or]
  unfold rotr
  rw [UInt32.or_comm]
def sS0 (x : UInt32) : UInt32 := rotr x 7 ^^^ rotr x 18 ^^^ (x >>> UInt32.ofNat 3)
def sS1 (x : UInt32) : UInt32 := rotr x 17 ^^^ rotr x 19 ^^^ (x >>> UInt32.ofNat 10)
def bS0 (x : UInt32) : UInt32 := rotr x 2 ^^^ rotr x 13 ^^^ rotr x 22
def bS1 (x : UInt32) : UInt32 := rotr x 6 ^^^ rotr x 11 ^^^ rotr x 25
theorem wv_shr3 (x : UInt32) : wv x / 8 = wv (x >>> UInt32.ofNat 3) := wv_shr x 3 (by omega)
theorem wv_shr10 (x : UInt32) : wv x / 1024 = wv (x >>> UInt32.ofNat 10) := wv_shr x 10 (by omega)
def wV (x : UInt32) : Value := .int .u32 (wv x)
/-- Four bytes read as a word, the highest first. -/
def rd (b : Nat → UInt8) (t : Nat) : UInt32 := ((b (4 * t)).toUInt32 <<< UInt32.ofNat 24) ||| ((b (4 * t + 1)).toUInt32 <<< UInt32.ofNat 16) ||| ((b (4 * t + 2)).toUInt32 <<< UInt32.ofNat 8) ||| (b (4 * t + 3)).toUInt32
def nextW (b : Nat → UInt8) (t : Nat) (l : List UInt32) : UInt32 :=
  if t < 16 then rd b t else sS1 (l.getD (t - 2) 0) + l.getD (t - 7) 0 + sS0 (l.getD (t - 15) 0) + l.getD (t - 16) 0
/-- The schedule's first t words. -/
def row (b : Nat → UInt8) : Nat → List UInt32
  | 0 => []
  | t + 1 => row b t ++ [nextW b t (row b t)]
theorem row_length (b : Nat → UInt8) : ∀ t, (row b t).length = t
  | 0 => rfl
  | t + 1 => by simp [row, row_length b t]
/-- The schedule's cells when t words stand. -/
def rowV (b : Nat → UInt8) (t : Nat) : List Value := (row b t).map wV ++ List.replicate (64 - t) (wV 0)
theorem rowV_length (b : Nat → UInt8) (t : Nat) (h : t ≤ 64) : (rowV b t).length = 64 := by simp [rowV, row_length]; omega
theorem rowV_set (b : Nat → UInt8) (t : Nat) (h : t < 64) : (rowV b t).toArray.setIfInBounds t (wV (nextW b t (row b t))) = (rowV b (t + 1)).toArray := by
  rw [List.setIfInBounds_toArray]
  congr 1
  unfold rowV
  rw [List.set_append_right _ _ (by simp [row_length])]
  simp only [List.length_map, row_length, Nat.sub_self]
  rw [show 64 - t = (64 - (t + 1)) + 1 by omega, List.replicate_succ, List.set_cons_zero]
  simp [row]
theorem rowV_get (b : Nat → UInt8) (t j : Nat) (h : j < t) : (rowV b t).toArray[j]? = some (.int .u32 (wv ((row b t).getD j 0))) := by
  unfold rowV
  rw [List.getElem?_toArray, List.getElem?_append_left (by simp [row_length]; omega), List.getElem?_map, List.getElem?_eq_getElem (by rw [row_length]; exact h)]
  simp [wV, List.getD, List.getElem?_eq_getElem (show j < (row b t).length by rw [row_length]; exact h)]
theorem wv_byte (x : UInt8) : bv x = wv x.toUInt32 := by
  unfold bv wv
  simp
theorem wv_shl24 (x : UInt32) : wv x * 16777216 % 4294967296 = wv (x <<< UInt32.ofNat 24) := by
  rw [← wv_shl x 24 (by omega), IntKind.wrap_u32']; rfl
theorem wv_shl16 (x : UInt32) : wv x * 65536 % 4294967296 = wv (x <<< UInt32.ofNat 16) := by
  rw [← wv_shl x 16 (by omega), IntKind.wrap_u32']; rfl
theorem wv_shl8 (x : UInt32) : wv x * 256 % 4294967296 = wv (x <<< UInt32.ofNat 8) := by
  rw [← wv_shl x 8 (by omega), IntKind.wrap_u32']; rfl
theorem bv_u32 (x : UInt8) : bv x % 4294967296 = wv x.toUInt32 := by
  have := bv_bd x
  rw [← wv_byte]
  omega
theorem bv_u32' (x : UInt8) : IntKind.u32.wrap (bv x) = wv x.toUInt32 := by rw [IntKind.wrap_u32', bv_u32]
theorem wr_shl24 (x : UInt32) : IntKind.u32.wrap (wv x * 16777216) = wv (x <<< UInt32.ofNat 24) := by rw [IntKind.wrap_u32', wv_shl24]
theorem wr_shl16 (x : UInt32) : IntKind.u32.wrap (wv x * 65536) = wv (x <<< UInt32.ofNat 16) := by rw [IntKind.wrap_u32', wv_shl16]
theorem wr_shl8 (x : UInt32) : IntKind.u32.wrap (wv x * 256) = wv (x <<< UInt32.ofNat 8) := by rw [IntKind.wrap_u32', wv_shl8]
theorem rowV_zero (b : Nat → UInt8) (t j : Nat) (h1 : t ≤ j) (h2 : j < 64) : (rowV b t).toArray[j]? = some (wV 0) := by
  unfold rowV
  rw [List.getElem?_toArray, List.getElem?_append_right (by simp [row_length]; omega), List.length_map, row_length, List.getElem?_replicate, if_pos (by omega)]
theorem nextW_low (b : Nat → UInt8) (t : Nat) (l : List UInt32) (h : t < 16) : nextW b t l = rd b t := by unfold nextW; rw [if_pos h]
theorem nextW_high (b : Nat → UInt8) (t : Nat) (l : List UInt32) (h : 16 ≤ t) : nextW b t l = sS1 (l.getD (t - 2) 0) + l.getD (t - 7) 0 + sS0 (l.getD (t - 15) 0) + l.getD (t - 16) 0 := by
  unfold nextW; rw [if_neg (by omega)]
theorem wV_one (l : List UInt32) : (l.map wV).toArray.all (·.oneCell') = true := by
  rw [Array.all_eq_true_iff_forall_mem]
  intro x hx
  simp at hx
  obtain ⟨a, _, rfl⟩ := hx
  rfl
theorem rowV_all (b : Nat → UInt8) : rowV b 64 = (row b 64).map wV := by simp [rowV]
/-- The eight words while a block is worked in. -/
structure St where
  a : UInt32
  b : UInt32
  c : UInt32
  d : UInt32
  e : UInt32
  f : UInt32
  g : UInt32
  h : UInt32
def St.cells (s : St) : List Value := [wV s.a, wV s.b, wV s.c, wV s.d, wV s.e, wV s.f, wV s.g, wV s.h]
def T1 (s : St) (k w : UInt32) : UInt32 := s.h + bS1 s.e + ((s.e &&& s.f) ^^^ (s.g &&& ~~~s.e)) + k + w
def T2 (s : St) : UInt32 := bS0 s.a + ((s.a &&& s.b) ^^^ (s.a &&& s.c) ^^^ (s.b &&& s.c))
def St.round (s : St) (k w : UInt32) : St := ⟨T1 s k w + T2 s, s.a, s.b, s.c, s.d + T1 s k w, s.e, s.f, s.g⟩
def kList : List UInt32 := [
  1116352408, 1899447441, 3049323471, 3921009573, 961987163, 1508970993, 2453635748, 2870763221,
  3624381080, 310598401, 607225278, 1426881987, 1925078388, 2162078206, 2614888103, 3248222580,
  3835390401, 4022224774, 264347078, 604807628, 770255983, 1249150122, 1555081692, 1996064986,
  2554220882, 2821834349, 2952996808, 3210313671, 3336571891, 3584528711, 113926993, 338241895,
  666307205, 773529912, 1294757372, 1396182291, 1695183700, 1986661051, 2177026350, 2456956037,
  2730485921, 2820302411, 3259730800, 3345764771, 3516065817, 3600352804, 4094571909, 275423344,
  430227734, 506948616, 659060556, 883997877, 958139571, 1322822218, 1537002063, 1747873779,
  1955562222, 2024104815, 2227730452, 2361852424, 2428436474, 2756734187, 3204031479, 3329325298]
def kW (t : Nat) : UInt32 := kList.getD t 0
/-- t rounds over a schedule. -/
def rounds (l : List UInt32) (s : St) : Nat → St
  | 0 => s
  | t + 1 => (rounds l s t).round (kW t) (l.getD t 0)
def St.plus (s r : St) : St := ⟨s.a + r.a, s.b + r.b, s.c + r.c, s.d + r.d, s.e + r.e, s.f + r.f, s.g + r.g, s.h + r.h⟩
/-- One block of 64 bytes worked in. -/
def compress (s : St) (b : Nat → UInt8) : St := s.plus (rounds (row b 64) s 64)
def start : St := ⟨0x6a09e667, 0xbb67ae85, 0x3c6ef372, 0xa54ff53a, 0x510e527f, 0x9b05688c, 0x1f83d9ab, 0x5be0cd19⟩
theorem St.cells_length (s : St) : s.cells.length = 8 := rfl
theorem wV_get (l : List UInt32) (j : Nat) (h : j < l.length) : (l.map wV).toArray[j]? = some (.int .u32 (wv (l.getD j 0))) := by
  simp [wV, List.getD, List.getElem?_eq_getElem h]
end Go.Proofs.Ytidmfcamlgeipaa.Sha

/-
  digest.startWords answers the eight words that the chapter gives; digest.mix works one block of 64 bytes into eight words that lie at the head of a block of memory, as the chapter gives it; nothing else that was there turns. Conditions: the bytes, the words and the table lie where they should.
-/
namespace Go.Proofs.Ytidmfcamlgeipaa.Sha
open Go Go.RowKit
/-- What stands at the head of each round: t rounds are done. -/
def MxInv (l : List UInt32) (s : St) (w : World) (va vb vc vd ve vf vg vh i : Value) (wr : World) : Prop :=
  ∃ t : Nat, t ≤ 64 ∧ i = .int .i64 t ∧ va = .int .u32 (wv (rounds l s t).a) ∧ vb = .int .u32 (wv (rounds l s t).b) ∧ vc = .int .u32 (wv (rounds l s t).c) ∧ vd = .int .u32 (wv (rounds l s t).d)
    ∧ ve = .int .u32 (wv (rounds l s t).e) ∧ vf = .int .u32 (wv (rounds l s t).f) ∧ vg = .int .u32 (wv (rounds l s t).g) ∧ vh = .int .u32 (wv (rounds l s t).h) ∧ Below w.heap.size w wr
theorem after_spread {w w1 : World} (hb1 : Below w.heap.size w w1) (o : Obj) (cs old : Array Value) (T : TypeId) (ho : o = .cells old T (0, 0)) :
    Below w.heap.size w ((w1.alloc o).setRow w1.heap.size cs) ∧ ((w1.alloc o).setRow w1.heap.size cs).heap[w1.heap.size]? = some (.cells cs T (0, 0)) := by
  subst ho
  exact ⟨below_setRow (hb1.alloc hb1.size _) hb1.size _, setRow_heap _ _ _ _ _ _ (heap_alloc_new _ _)⟩
theorem grownBy_setCell_drew {w wr : World} {B : Nat} (h : w.grownBy wr (some B)) (i : Nat) (v : Value) : w.grownBy (wr.setCell ⟨B, i, none⟩ v).drew (some B) :=
  ⟨h.os, h.tape, h.output, by have := h.size; simp [World.drew, World.setCell]; omega, fun k hk hne => by
    rw [heap_drew, heap_setCell_other _ _ _ _ (fun e => hne (by rw [e]))]
    exact h.block k hk hne⟩
theorem store_step {w wr : World} {B T : Nat} {cs : List Value} (hB : wr.heap[B]? = some (.cells cs.toArray T (0, 0))) (hG : w.grownBy wr (some B)) (i : Nat) (v : Value) (cs' : List Value) (hs : cs.set i v = cs') :
    (wr.setCell ⟨B, i, none⟩ v).drew.heap[B]? = some (.cells cs'.toArray T (0, 0)) ∧ w.grownBy (wr.setCell ⟨B, i, none⟩ v).drew (some B) := by
  refine ⟨?_, grownBy_setCell_drew hG i v⟩
  rw [heap_drew, heap_setCell_same wr B i _ _ _ hB, List.setIfInBounds_toArray, hs]
attribute [local go_sem] wv_add wv_sum wv_xor wv_and wv_andNot
end Go.Proofs.Ytidmfcamlgeipaa.Sha

/-
  Plain mathematics: a message as a list of bytes, padded, cut into blocks, and its digest. No program is imported. No conditions.
-/
namespace Go.Proofs.Ytidmfcamlgeipaa.Sha
open Go
/-- Block number i of a message. -/
def blk (l : List UInt8) (i : Nat) : Nat → UInt8 := fun j => l.getD (64 * i + j) 0
/-- What the first n blocks come to. -/
def blocks (l : List UInt8) : Nat → St
  | 0 => start
  | n + 1 => compress (blocks l n) (blk l n)
def padLen (n : Nat) : Nat := if n % 64 < 56 then 56 - n % 64 else 120 - n % 64
theorem padLen_bd (n : Nat) : 1 ≤ padLen n ∧ padLen n ≤ 64 ∧ (n + padLen n + 8) % 64 = 0 := by unfold padLen; split <;> omega
def pad (n : Nat) : List UInt8 := 0x80 :: List.replicate (padLen n - 1) 0
theorem pad_length (n : Nat) : (pad n).length = padLen n := by have := padLen_bd n; simp [pad]; omega
def lenByte (n k : Nat) : UInt8 := UInt8.ofNat (8 * n / 2 ^ (56 - 8 * k))
def len8 (n : Nat) : List UInt8 := [lenByte n 0, lenByte n 1, lenByte n 2, lenByte n 3, lenByte n 4, lenByte n 5, lenByte n 6, lenByte n 7]
theorem len8_length (n : Nat) : (len8 n).length = 8 := rfl
def wordBytes (x : UInt32) : List UInt8 := [(x >>> UInt32.ofNat 24).toUInt8, (x >>> UInt32.ofNat 16).toUInt8, (x >>> UInt32.ofNat 8).toUInt8, x.toUInt8]
def St.list (s : St) : List UInt32 := [s.a, s.b, s.c, s.d, s.e, s.f, s.g, s.h]
def St.bytes (s : St) : List UInt8 := s.list.flatMap wordBytes
/-- A message with all that stands behind it. -/
def padded (l : List UInt8) : List UInt8 := l ++ pad l.length ++ len8 l.length
theorem padded_length (l : List UInt8) : (padded l).length = l.length + padLen l.length + 8 := by simp [padded, pad_length, len8_length]; omega
/-- SHA-256. -/
def sha (l : List UInt8) : List UInt8 := (blocks (padded l) ((padded l).length / 64)).bytes
theorem St.list_length (s : St) : s.list.length = 8 := rfl
theorem St.cells_list (s : St) : s.cells = s.list.map wV := rfl
theorem bytes_length (s : St) : s.bytes.length = 32 := rfl
theorem sha_length (l : List UInt8) : (sha l).length = 32 := rfl
theorem rd_congr {b b' : Nat → UInt8} (h : ∀ j, j < 64 → b j = b' j) {t : Nat} (ht : t < 16) : rd b t = rd b' t := by
  unfold rd
  rw [h (4 * t) (by omega), h (4 * t + 1) (by omega), h (4 * t + 2) (by omega), h (4 * t + 3) (by omega)]
theorem row_congr {b b' : Nat → UInt8} (h : ∀ j, j < 64 → b j = b' j) : ∀ t, row b t = row b' t
  | 0 => rfl
  | t + 1 => by
    have ih := row_congr h t
    show row b t ++ [nextW b t (row b t)] = row b' t ++ [nextW b' t (row b' t)]
    rw [ih]
    unfold nextW
    split
    · rename_i ht; rw [rd_congr h ht]
    · rfl
theorem compress_congr {b b' : Nat → UInt8} (h : ∀ j, j < 64 → b j = b' j) (s : St) : compress s b = compress s b' := by
  unfold compress
  rw [row_congr h]
theorem blk_append (l r : List UInt8) (i j : Nat) (h : 64 * i + j < l.length) : blk (l ++ r) i j = blk l i j := by
  simp [blk, List.getD, List.getElem?_append_left h]
theorem blocks_append (l r : List UInt8) : ∀ n, 64 * n ≤ l.length → blocks (l ++ r) n = blocks l n
  | 0, _ => rfl
  | n + 1, h => by
    show compress (blocks (l ++ r) n) (blk (l ++ r) n) = compress (blocks l n) (blk l n)
    rw [blocks_append l r n (by omega), compress_congr (fun j hj => blk_append l r n j (by omega))]
/-- The next block, wherever its 64 bytes stand. -/
theorem blocks_next (l : List UInt8) (n : Nat) (b : Nat → UInt8) (h : ∀ j, j < 64 → b j = l.getD (64 * n + j) 0) : compress (blocks l n) b = blocks l (n + 1) :=
  compress_congr h _
theorem bv_wv (x : UInt32) : IntKind.u8.wrap (wv x) = bv x.toUInt8 := by
  unfold bv wv
  rw [IntKind.wrap_u8', UInt32.toNat_toUInt8]
  simp
theorem bv_wv' (x : UInt32) : wv x % 256 = bv x.toUInt8 := by rw [← bv_wv, IntKind.wrap_u8']
theorem wv_shr24 (x : UInt32) : wv x / 16777216 = wv (x >>> UInt32.ofNat 24) := wv_shr x 24 (by omega)
theorem wv_shr16 (x : UInt32) : wv x / 65536 = wv (x >>> UInt32.ofNat 16) := wv_shr x 16 (by omega)
theorem wv_shr8 (x : UInt32) : wv x / 256 = wv (x >>> UInt32.ofNat 8) := wv_shr x 8 (by omega)
/-- The bytes of the first k words. -/
def bytesTo (s : St) (k : Nat) : List UInt8 := (s.list.take k).flatMap wordBytes
theorem bytesTo_length (s : St) (k : Nat) (h : k ≤ 8) : (bytesTo s k).length = 4 * k := by
  match k, h with
  | 0, _ => rfl
  | 1, _ => rfl
  | 2, _ => rfl
  | 3, _ => rfl
  | 4, _ => rfl
  | 5, _ => rfl
  | 6, _ => rfl
  | 7, _ => rfl
  | 8, _ => rfl
theorem bytesTo_succ (s : St) (k : Nat) (h : k < 8) : bytesTo s (k + 1) = bytesTo s k ++ wordBytes (s.list.getD k 0) := by
  match k, h with
  | 0, _ => rfl
  | 1, _ => rfl
  | 2, _ => rfl
  | 3, _ => rfl
  | 4, _ => rfl
  | 5, _ => rfl
  | 6, _ => rfl
  | 7, _ => rfl
def outV (s : St) (k : Nat) : List Value := (bytesTo s k).map bV ++ List.replicate (32 - 4 * k) (bV 0)
theorem outV_split (s : St) (k : Nat) (h : k < 8) : outV s k = (bytesTo s k).map bV ++ (bV 0 :: bV 0 :: bV 0 :: bV 0 :: List.replicate (32 - 4 * (k + 1)) (bV 0)) := by
  unfold outV
  rw [show 32 - 4 * k = (32 - 4 * (k + 1)) + 4 by omega]
  rfl
theorem outV_next (s : St) (k : Nat) (h : k < 8) (x : UInt32) (hx : s.list.getD k 0 = x) : (bytesTo s k).map bV ++ ((wordBytes x).map bV ++ List.replicate (32 - 4 * (k + 1)) (bV 0)) = outV s (k + 1) := by
  unfold outV
  rw [bytesTo_succ s k h, hx, List.map_append, List.append_assoc]
theorem outV_all (s : St) : outV s 8 = s.bytes.map bV := by
  unfold outV
  simp
  rfl
end Go.Proofs.Ytidmfcamlgeipaa.Sha

/-
  The small functions of digest's Writer: how long the padding is, the length in eight bytes, the words written down, how much was written. Conditions: sizes of messages that lie in memory.
-/
namespace Go.Proofs.Ytidmfcamlgeipaa.Sha
open Go Go.RowKit
/-- k bytes of the length stand. -/
def LbInv (n B g : Nat) (w : World) (v i : Value) (wr : World) : Prop :=
  ∃ k : Nat, k ≤ 8 ∧ i = .int .i64 (56 - 8 * (k : Int)) ∧ v = .slice (some ⟨g, 0, none⟩) k 8 ∧ wr.ownsRow B 5 1 v k (((len8 n).take k).map bV) ∧ Below B w wr
theorem len8_snoc (n k : Nat) (h : k < 8) : (len8 n).take (k + 1) = (len8 n).take k ++ [lenByte n k] := by
  match k, h with
  | 0, _ => rfl
  | 1, _ => rfl
  | 2, _ => rfl
  | 3, _ => rfl
  | 4, _ => rfl
  | 5, _ => rfl
  | 6, _ => rfl
  | 7, _ => rfl
theorem lb_value (n k : Nat) : IntKind.u8.wrap (((n : Int) * 8) / 2 ^ (56 - 8 * k)) = bv (lenByte n k) := by
  unfold lenByte
  rw [← bv_of, Nat.mul_comm 8 n]
  congr 1
end Go.Proofs.Ytidmfcamlgeipaa.Sha

/-
  digest.bytesOf writes the eight words down, the highest byte of each first; nothing that was there turns. No conditions.
-/
namespace Go.Proofs.Ytidmfcamlgeipaa.Sha
open Go Go.RowKit
theorem set4 {w : World} {g T n : Nat} {A Z : List Value} (z0 z1 z2 z3 a b c d : Value) (hA : A.length = n) (h : w.heap[g]? = some (.cells (A ++ (z0 :: z1 :: z2 :: z3 :: Z)).toArray T (0, 0))) :
    ((((w.setCell ⟨g, n, none⟩ a).setCell ⟨g, n + 1, none⟩ b).setCell ⟨g, n + 2, none⟩ c).setCell ⟨g, n + 3, none⟩ d).heap[g]? = some (.cells (A ++ ([a, b, c, d] ++ Z)).toArray T (0, 0)) := by
  have h1 := heap_setCell_same w g n _ _ a h
  have e0 := set_mid A n 0 (z0 :: z1 :: z2 :: z3 :: Z) a hA
  rw [Nat.add_zero] at e0
  rw [List.setIfInBounds_toArray, e0] at h1
  have h2 := heap_setCell_same _ g (n + 1) _ _ b h1
  rw [List.setIfInBounds_toArray, set_mid A n 1 _ _ hA] at h2
  have h3 := heap_setCell_same _ g (n + 2) _ _ c h2
  rw [List.setIfInBounds_toArray, set_mid A n 2 _ _ hA] at h3
  have h4 := heap_setCell_same _ g (n + 3) _ _ d h3
  rw [List.setIfInBounds_toArray, set_mid A n 3 _ _ hA] at h4
  exact h4
attribute [local go_sem] wv_shr24 wv_shr16 wv_shr8 bv_wv bv_wv'
end Go.Proofs.Ytidmfcamlgeipaa.Sha

/-
  digest's Writer.Write takes bytes behind those that came before: what the whole blocks came to, what is left over and how much was written stand as they should; nothing else that was there turns. Conditions: the bytes lie where the slice says, in another block of memory than the Writer; the table is there; all bytes together are fewer than 2^60.
-/
namespace Go.Proofs.Ytidmfcamlgeipaa.Sha
open Go Go.RowKit
theorem splice_part (s : St) (p : List UInt8) (x : Value) (o : Nat) (cs : List UInt8) (hp : p.length = 64) (h : o + cs.length ≤ 64) :
    splice (s.cells ++ (p.map bV ++ [x])) (8 + o) (cs.map bV) = s.cells ++ ((splice p o cs).map bV ++ [x]) := by
  have e1 : (s.cells ++ (p.map bV ++ [x])).take (8 + o) = s.cells ++ (p.take o).map bV := by
    rw [List.take_append, List.take_of_length_le (by rw [St.cells_length]; omega), St.cells_length, show 8 + o - 8 = o by omega, List.take_append, List.length_map, hp, show o - 64 = 0 by omega]
    simp
  have e2 : (s.cells ++ (p.map bV ++ [x])).drop (8 + o + (cs.map bV).length) = (p.drop (o + cs.length)).map bV ++ [x] := by
    rw [List.length_map, List.drop_append, List.drop_of_length_le (by rw [St.cells_length]; omega), St.cells_length, show 8 + o + cs.length - 8 = o + cs.length by omega, List.drop_append, List.length_map, hp, show o + cs.length - 64 = 0 by omega]
    simp
  unfold splice
  rw [e1, e2]
  simp
theorem splice_take {p cs : List UInt8} {o : Nat} (h : o + cs.length ≤ p.length) : (splice p o cs).take (o + cs.length) = p.take o ++ cs := by
  have hl : (p.take o).length = o := by rw [List.length_take]; omega
  unfold splice
  rw [← List.append_assoc, List.take_append_of_le_length (by rw [List.length_append, hl]; omega), List.take_of_length_le (by rw [List.length_append, hl]; omega)]
theorem full_get {p l bs : List UInt8} (hp : p.take (l.length % 64) = l.drop (64 * (l.length / 64))) (h64 : p.length = 64) (h : 64 ≤ l.length % 64 + bs.length) (j : Nat) (hj : j < 64) :
    (splice p (l.length % 64) (bs.take (64 - l.length % 64))).getD j 0 = (l ++ bs).getD (64 * (l.length / 64) + j) 0 := by
  have hl : (bs.take (64 - l.length % 64)).length = 64 - l.length % 64 := by rw [List.length_take]; omega
  have e : splice p (l.length % 64) (bs.take (64 - l.length % 64)) = l.drop (64 * (l.length / 64)) ++ bs.take (64 - l.length % 64) := by
    have e0 := splice_take (p := p) (cs := bs.take (64 - l.length % 64)) (o := l.length % 64) (by rw [hl]; omega)
    rw [hl, List.take_of_length_le (by rw [length_splice _ _ _ (by rw [hl]; omega)]; omega)] at e0
    rw [e0, hp]
  have hd : (l.drop (64 * (l.length / 64))).length = l.length % 64 := by rw [List.length_drop]; omega
  rw [e]
  simp only [List.getD, List.getElem?_append, hd]
  by_cases h1 : j < l.length % 64
  · rw [if_pos h1, if_pos (by omega), List.getElem?_drop]
  · rw [if_neg h1, if_neg (by omega), List.getElem?_take_of_lt (by omega)]
    congr 2
    omega
theorem full_step {u n0 n1 tk : Nat} {s : St} {p l bs X : List UInt8} (h0 : n0 = l.length) (h1 : n1 = bs.length) (hu : u = n0 % 64) (hX : X = bs.take (64 - u)) (htk : tk = 64 - u) (hge : 64 ≤ u + n1) (hu0 : 0 < u)
    (hs : s = blocks l (n0 / 64)) (hp : p.take (l.length % 64) = l.drop (64 * (l.length / 64))) (h64 : p.length = 64) :
    compress s (fun j => (splice p u X).getD j 0) = blocks (l ++ bs) ((l.length + tk) / 64) := by
  subst h0 h1 hu hX htk hs
  rw [show (l.length + (64 - l.length % 64)) / 64 = l.length / 64 + 1 by omega, ← blocks_append l bs _ (by omega)]
  exact blocks_next _ _ _ (fun j hj => full_get hp h64 hge j hj)
theorem grownBy_of_drew {a w w' : World} {row : Option Nat} (h : a.grownBy w row) (k : w.drew.grownBy w' row) : a.grownBy w' row := grownBy_trans h ⟨k.os, k.tape, k.output, k.size, k.block⟩
def lenOf : Value → Nat
  | .slice _ n _ => n
  | _ => 0
theorem round_src {l bs : List UInt8} {c m j : Nat} (hm : m = (l.length + c) / 64) (h64 : (l.length + c) % 64 = 0) (_h : c + j < bs.length) : (l ++ bs).getD (64 * m + j) 0 = bs.getD (c + j) 0 := by
  simp only [List.getD]
  rw [List.getElem?_append_right (by omega)]
  congr 2
  omega
end Go.Proofs.Ytidmfcamlgeipaa.Sha

/-
  digest's Writer.Sum answers the SHA-256 of all that was written, and turns nothing that was there. Conditions: the Writer stands as it should, the table is there, fewer than 2^59 bytes were written.
-/
namespace Go.Proofs.Ytidmfcamlgeipaa.Sha
open Go Go.RowKit
def zeroSt : St := ⟨0, 0, 0, 0, 0, 0, 0, 0⟩
/-- A new Writer's cells. -/
def zeroW : Array Value := (zeroSt.cells ++ ((List.replicate 64 0).map bV ++ [Value.int .i64 (0 : Nat)])).toArray
/-- The padding's cells, as they stand. -/
def padV : List Value := bV 0x80 :: List.replicate 63 (bV 0)
theorem padV_get (n j : Nat) (h : j < padLen n) : padV[j]? = some (.int .u8 (bv ((pad n).getD j 0))) := by
  have hb := padLen_bd n
  cases j with
  | zero => rfl
  | succ j =>
    have e1 : padV[j + 1]? = (List.replicate 63 (bV 0))[j]? := rfl
    have e2 : (pad n).getD (j + 1) 0 = 0 := by
      show (0x80 :: List.replicate (padLen n - 1) (0 : UInt8)).getD (j + 1) 0 = 0
      simp [List.getD, List.getElem?_replicate]
      split <;> rfl
    rw [e1, e2, List.getElem?_replicate, if_pos (by omega)]
    rfl
theorem sum_setup2 {w w2 : World} (o : Obj) (f1 : Below w.heap.size w w2) (f2 : w2.heap.size = w.heap.size + 2) {x y : Obj} (f3 : w2.heap[w.heap.size + 1]? = some x) (f4 : w2.heap[w.heap.size]? = some y) :
    Below w.heap.size w (w2.alloc o) ∧ (w2.alloc o).heap.size = w.heap.size + 3 ∧ (w2.alloc o).heap[w.heap.size + 1]? = some x ∧ (w2.alloc o).heap[w.heap.size]? = some y ∧ (w2.alloc o).heap[w.heap.size + 2]? = some o := by
  refine ⟨f1.alloc (by omega) _, by simp [f2], ?_, ?_, ?_⟩
  · rw [Below.heap_alloc _ _ _ (by omega)]; exact f3
  · rw [Below.heap_alloc _ _ _ (by omega)]; exact f4
  · rw [← f2]; exact heap_alloc_new _ _
end Go.Proofs.Ytidmfcamlgeipaa.Sha

/-
  digest.Less tells whether one digest stands ahead of another, byte by byte; nothing that was there turns. Condition: digests of 32 bytes.
-/
namespace Go.Proofs.Ytidmfcamlgeipaa.Sha
open Go Go.RowKit
theorem bytesOf_bv (l : List UInt8) : Lib.bytesOf (l.map bv) = l := by
  unfold Lib.bytesOf
  rw [List.map_map]
  conv => rhs; rw [← List.map_id l]
  apply List.map_congr_left
  intro x _
  show _ = x
  simp [bv]
theorem run_bytes {P : Program} {w : World} (l : List UInt8) (b off cap : Nat) (h : ∀ j, j < l.length → w.cell? ⟨b, off + j, none⟩ = some (.int .u8 (bv (l.getD j 0)))) :
    (Extern.Bytes.bytesOf (.slice (some ⟨b, off, none⟩) l.length cap)).run P w = .ok ⟨l.toArray⟩ w := by
  have := Lib.run_loadBytesX (P := P) w (l.map bv) ⟨b, off, none⟩ .empty (fun j x hj => by
    have hj1 : j < l.length := by have := (List.getElem?_eq_some_iff.1 hj).1; rwa [List.length_map] at this
    rw [Addr.add_mid, h j hj1]
    rw [List.getElem?_map, List.getElem?_eq_getElem hj1] at hj
    simp only [Option.map_some, Option.some.injEq] at hj
    rw [← hj]
    simp [List.getD, List.getElem?_eq_getElem hj1])
  rw [List.length_map, bytesOf_bv] at this
  show (Extern.Bytes.loadBytes _ _ _).run P w = _
  rw [this]
  simp
theorem run_compare {P : Program} {w : World} (l m : List UInt8) (b c off off' cap cap' : Nat) (h : ∀ j, j < l.length → w.cell? ⟨b, off + j, none⟩ = some (.int .u8 (bv (l.getD j 0))))
    (h' : ∀ j, j < m.length → w.cell? ⟨c, off' + j, none⟩ = some (.int .u8 (bv (m.getD j 0)))) :
    (Extern.BytealgCompare.compare #[.slice (some ⟨b, off, none⟩) l.length cap, .slice (some ⟨c, off', none⟩) m.length cap']).run P w = .ok (.int .i64 (Lib.compareBytes l m)) w := by
  change Sem.run P (do pure (goInt (Extern.BytealgCompare.cmp (← Extern.Bytes.bytesOf (.slice (some ⟨b, off, none⟩) l.length cap)) (← Extern.Bytes.bytesOf (.slice (some ⟨c, off', none⟩) m.length cap'))))) w = _
  simp only [Sem.run_bind, run_bytes l b off cap h, run_bytes m c off' cap' h', Sem.run_pure, Result.andThen]
  rw [Lib.cmp_eq]
  rfl
def lessL (l m : List UInt8) : Bool := decide (Lib.compareBytes l m < 0)
theorem less_cons (x y : UInt8) (l m : List UInt8) : lessL (x :: l) (y :: m) = (decide (x < y) || (decide (x = y) && lessL l m)) := by
  unfold lessL
  simp only [Lib.compareBytes]
  by_cases h1 : x < y
  · simp [h1]
  · by_cases h2 : y < x
    · have h3 : ¬ x = y := fun e => by subst e; exact h1 h2
      simp [h1, h2, h3]
    · have h3 : x = y := UInt8.le_antisymm (UInt8.not_lt.1 h2) (UInt8.not_lt.1 h1)
      subst h3
      simp [h1]
theorem less_self (l : List UInt8) : lessL l l = false := by
  induction l with
  | nil => rfl
  | cons x l ih => rw [less_cons, ih]; simp
end Go.Proofs.Ytidmfcamlgeipaa.Sha
