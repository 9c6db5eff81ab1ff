/-
  Texts of this proof joined into one file: Base, Args, RewM, VlRew, RefNumb, VlHalvesWalk, Pt, TxData, TxSame, RefBuf, CnVal, RipeM, VlRipe, StoreW, Par, TxTakeM, VlRipeWalk. What each holds, and under which conditions, its own first sentence tells.
-/
import Derived.WalkKit
import Derived.Deep.Light
import Derived.StillTailTactics
import Derived.LoopTactic
import Derived.LoopN
import Derived.RegionTactic
import Derived.Deep.QuietTactic
import Derived.BigQuiet
import Derived.Laws.CopyOwn
import Derived.Laws.OwnMore
import Derived.Lib.Hide
import Derived.WalkSmall
import Derived.Maps.RangeWalk
import Derived.Maps.AppendAt
import Derived.Deep.DeepFit
import Derived.Deep.MidRow
import Derived.ProofKit
import Derived.OpenShut
import Derived.ShutString
import Derived.ChangeOld
import Derived.Deep.DeepHandedRow
import Derived.Lib.LaidTab
import Derived.Stop.BytesEq
import Derived.LaidEql
import Derived.Stop.IfaceNil
import Derived.Laws.Bits64
import Derived.Laws.Bits64b
import Derived.Laws.BitsAllLaws
import Derived.Deep.Slices
import Derived.Deep.RegionHeld3
import Derived.Great.BuildSlice
import Derived.IntWalk
import Derived.Laws.ResultCell
import Derived.Deep.RegionLaw
import Derived.Test.YtlpdgjneoahdeaaProg
/-
  What every seat's texts stand on: bytes as the model's integers, slices that read as bytes, cuts of them, memory that is new or the caller's, laws for walks of no program. No conditions beyond those that each states.
-/
namespace Go.Proofs.Ytlpdgjneoahdeaa.Sha
open Go Go.RowKit
/-- A byte as the model's integer. -/
def bv (x : UInt8) : Int := x.toNat
def bV (x : UInt8) : Value := .int .u8 (bv x)
theorem bV_one' (l : List UInt8) : ∀ v ∈ l.map bV, v.oneCell' = true := by
  intro v hv
  simp at hv
  obtain ⟨a, _, rfl⟩ := hv
  rfl
theorem tmod_bd (x n : Int) (h : 1 ≤ n) : -n < x.tmod n ∧ x.tmod n < n := by
  have h1 := Int.tmod_lt_of_pos x (show 0 < n by omega)
  refine ⟨?_, h1⟩
  by_cases hx : 0 ≤ x
  · have := Int.tmod_nonneg n hx
    omega
  · have h2 := Int.tmod_lt_of_pos (-x) (show 0 < n by omega)
    rw [Int.neg_tmod] at h2
    omega
/-- A number brought into its bound. -/
def numb (x n : Int) : Int := if x.tmod n < 0 then x.tmod n + n else x.tmod n
theorem numb_bd (x n : Int) (h : 1 ≤ n) : 0 ≤ numb x n ∧ numb x n < n := by
  have := tmod_bd x n h
  unfold numb
  split <;> omega
/-- The slice v reads as the bytes bs. -/
def SrcB (w : World) (v : Value) (bs : List UInt8) : Prop :=
  (∃ sp cap, v = .slice sp 0 cap ∧ bs = []) ∨
  (0 < bs.length ∧ ∃ bb off cap, v = .slice (some ⟨bb, off, none⟩) bs.length cap ∧ bs.length ≤ cap ∧ ∀ j, j < bs.length → w.cell? ⟨bb, off + j, none⟩ = some (.int .u8 (bv (bs.getD j 0))))
theorem SrcB.block {w : World} {bs : List UInt8} {bb off : Nat} (h0 : 0 < bs.length) (h : ∀ j, j < bs.length → w.cell? ⟨bb, off + j, none⟩ = some (.int .u8 (bv (bs.getD j 0)))) : bb < w.heap.size :=
  World.block_lt_of_cell? w _ (h 0 h0)
/-- A block of bytes that has just been laid and filled. -/
theorem fill_setup {w w1 : World} (hb : Below w.heap.size w w1) (z cs : Array Value) (T : TypeId) : Below w.heap.size w ((w1.alloc (.cells z T)).setRow w1.heap.size cs)
    ∧ ((w1.alloc (.cells z T)).setRow w1.heap.size cs).heap[w1.heap.size]? = some (.cells cs T (0, 0)) ∧ ((w1.alloc (.cells z T)).setRow w1.heap.size cs).heap.size = w1.heap.size + 1
    ∧ Below w1.heap.size w1 ((w1.alloc (.cells z T)).setRow w1.heap.size cs) :=
  ⟨below_setRow (hb.alloc hb.size _) hb.size _, setRow_heap _ _ _ _ _ _ (heap_alloc_new _ _), by simp, below_setRow ((Below.refl _ _).alloc (Nat.le_refl _) _) (Nat.le_refl _) _⟩
theorem row_below {w w' : World} {g : Nat} {o : Obj} (h : w.heap[g]? = some o) (hb : Below w.heap.size w w') : w'.heap[g]? = some o := by
  rw [hb.block g (Array.getElem?_eq_some_iff.1 h).1]
  exact h
theorem grownBy_below {w w4 : World} {g : Nat} {a b : World} (h : w.grownBy w4 (some g)) (hb : Below a.heap.size b w) (ha : a.heap.size ≤ g) (hs : a.heap.size ≤ w.heap.size) : Below a.heap.size b w4 :=
  hb.trans ⟨h.os, h.tape, h.output, h.size, fun k hk => h.block k (by omega) (fun e => by have := Option.some.inj e; omega)⟩
section
variable {P : Program} {w : World} {ops : Array Oper} {rest : List Oper} {o : Oper} {a : Act} {Q : Exit → Act → World → Prop}
end
end Go.Proofs.Ytlpdgjneoahdeaa.Sha

/-
  How the statements' arguments read: a slice of bytes or numbers that came in; a start that fits. No conditions.
-/
namespace Go.Proofs.Ytlpdgjneoahdeaa.Sha
open Go Go.ChangeShapes Go.WideShapes Go.ChangeAt Go.RowKit
theorem own : ownKnob Try.prog.godebug = none := by kernel_rfl
/-- The settled world. -/
noncomputable def plainWorld (os : Os) : World := World.holding Try.prog os ⟨#[], #[], []⟩
end Go.Proofs.Ytlpdgjneoahdeaa.Sha

/-
  The reward at a height, as a number: pure. Conditions: none.
-/
namespace Go.Proofs.Ytlpdgjneoahdeaa.Sha
open Go Go.RowKit
def rewN (height halving : Int) : Nat := if height < 0 ∨ halving < 1 ∨ 64 ≤ height.tdiv halving then 0 else 5000000000 / 2 ^ (height.tdiv halving).toNat
def rewK (k : Nat) : Nat := if 64 ≤ k then 0 else 5000000000 / 2 ^ k
theorem rewN_at (k h o : Int) (hk : 0 ≤ k) (hh : 1 ≤ h) (h0 : 0 ≤ o) (ho : o < h) : rewN (k * h + o) h = rewK k.toNat := by
  have hp : 0 ≤ k * h := Int.mul_nonneg hk (by omega)
  have e : (k * h + o).tdiv h = k := by
    rw [Int.tdiv_eq_ediv_of_nonneg (by omega), Int.add_comm, Int.add_mul_ediv_right _ _ (by omega), Int.ediv_eq_zero_of_lt h0 ho, Int.zero_add]
  unfold rewN rewK
  rw [e]
  by_cases h6 : 64 ≤ k
  · rw [if_pos (.inr (.inr h6)), if_pos (by omega)]
  · rw [if_neg (by omega), if_neg (by omega)]
theorem rewN_neg (h : Int) : rewN (-1) h = 0 := by unfold rewN; rw [if_pos (.inl (by omega))]
theorem rewK_half (k : Nat) : rewK (k + 1) = rewK k / 2 := by
  unfold rewK
  by_cases h : 64 ≤ k
  · rw [if_pos h, if_pos (by omega)]
  · rw [if_neg h]
    by_cases h3 : k = 63
    · subst h3
      decide
    · rw [if_neg (by omega), Nat.div_div_eq_div_mul, Nat.pow_succ]
theorem rewK_le (k : Nat) : rewK k ≤ 5000000000 := by
  unfold rewK
  split
  · omega
  · exact Nat.div_le_self _ _
theorem rewK_none (k : Nat) (h : 64 ≤ k) : rewK k = 0 := by unfold rewK; rw [if_pos h]
end Go.Proofs.Ytlpdgjneoahdeaa.Sha

/-
  Package value's reward at a height; the law's own examples. Nothing that was there turns. Conditions: numbers that an int holds.
-/
namespace Go.Proofs.Ytlpdgjneoahdeaa.Sha
open Go Go.RowKit
set_option maxHeartbeats 1000000 in
set_option maxRecDepth 100000 in
theorem vlreward_any (w : World) (height halving : Int) (h0 : -9223372036854775808 ≤ height) (h1 : height ≤ 9223372036854775807) :
    Calls Try.prog 7 #[.int .i64 height, .int .i64 halving] w fun e w' => e = .returned (.int .u64 (rewN height halving : Int)) ∧ w = w' := by
  by_cases hn : height < 0
  · have AE : Hid (rewN height halving = 0) := by show _ = _; unfold rewN; rw [if_pos (.inl hn)]
    go_enter Try.func7, Try.ntmps7
    go_wp2_with fail
    go_ret
    exact ⟨by rw [AE.out]; rfl, rfl⟩
  by_cases hv : halving < 1
  · have AE : Hid (rewN height halving = 0) := by show _ = _; unfold rewN; rw [if_pos (.inr (.inl hv))]
    go_enter Try.func7, Try.ntmps7
    go_wp2_with fail
    go_ret
    exact ⟨by rw [AE.out]; rfl, rfl⟩
  have hw : IntKind.i64.wrap (height.tdiv halving) = height.tdiv halving := wrap_i64_tdiv height halving (by omega) h1 (by omega)
  have hz : (halving == 0) = false := beq_eq_false_iff_ne.2 (by omega)
  have hp : 0 ≤ height.tdiv halving := Int.tdiv_nonneg (by omega) (by omega)
  obtain ⟨q, hq⟩ : ∃ q : Nat, height.tdiv halving = (q : Int) := ⟨(height.tdiv halving).toNat, by omega⟩
  have AE : Hid ((5000000000 / 2 ^ min q 64 : Int) = (rewN height halving : Int)) := by
    show _ = _
    have e : (rewN height halving) = 5000000000 / 2 ^ min q 64 := by
      unfold rewN
      by_cases h64 : 64 ≤ height.tdiv halving
      · rw [if_pos (.inr (.inr h64)), Nat.min_eq_right (by omega)]
      · rw [if_neg (by omega), hq, Int.toNat_natCast, Nat.min_eq_left (by omega)]
    rw [e]
    simp
  rw [hq] at hw hp
  go_enter Try.func7, Try.ntmps7
  go_wp2_with fail
  go_ret
  exact ⟨by rw [← AE.out]; rfl, rfl⟩
set_option maxHeartbeats 1000000 in
set_option maxRecDepth 100000 in
theorem vlfirst_any (w : World) : Calls Try.prog 5 #[] w fun e w' => e = .returned (.bool true) ∧ w = w' := by
  have R1 : Hid (∀ W, Calls Try.prog 7 #[.int .i64 0, .int .i64 10] W fun e w' => e = .returned (.int .u64 5000000000) ∧ W = w') := fun W => vlreward_any W 0 10 (by omega) (by omega)
  have R2 : Hid (∀ W, Calls Try.prog 7 #[.int .i64 10, .int .i64 10] W fun e w' => e = .returned (.int .u64 2500000000) ∧ W = w') := fun W => vlreward_any W 10 10 (by omega) (by omega)
  go_enter Try.func5, Try.ntmps5
  go_wp2_with fail
  refine (R1.out _).mono ?_
  rintro e w2 ⟨rfl, rfl⟩
  go_wp2_with fail
  refine (R2.out _).mono ?_
  rintro e w2 ⟨rfl, rfl⟩
  go_wp2_with fail
  go_ret
  exact ⟨rfl, rfl⟩
end Go.Proofs.Ytlpdgjneoahdeaa.Sha

/-
  The statements' own Number brings any number into its bound; nothing that was there turns. Condition: a bound from 1 on.
-/
namespace Go.Proofs.Ytlpdgjneoahdeaa.Sha
open Go Go.RowKit
set_option maxRecDepth 100000 in
theorem numb_any (x n : Int) (hn : 1 ≤ n) (hn2 : n ≤ 4611686018427387904) (hx : -9223372036854775808 ≤ x ∧ x ≤ 9223372036854775807) (w : World) :
    Calls Try.prog 6 #[.int .i64 x, .int .i64 n] w fun e w' => e = .returned (.int .i64 (numb x n)) ∧ w = w' := by
  have hb := tmod_bd x n hn
  obtain ⟨hb1, hb2⟩ := hb
  have hnz : (n == 0) = false := by rw [beq_eq_false_iff_ne]; omega
  have hnz' : ¬ n = 0 := by omega
  obtain ⟨hx1, hx2⟩ := hx
  obtain ⟨m, hm⟩ : ∃ m, x.tmod n = m := ⟨_, rfl⟩
  have hq : numb x n = if m < 0 then m + n else m := by unfold numb; rw [hm]
  rw [hm] at hb1 hb2
  have HQ := Lib.hid hq
  clear hq
  by_cases h : m < 0
  · go_enter Try.func6, Try.ntmps6
    go_wp2
    go_ret
    exact ⟨by rw [HQ.out, if_pos h]; rfl, rfl⟩
  · go_enter Try.func6, Try.ntmps6
    go_wp2
    go_ret
    exact ⟨by rw [HQ.out, if_neg (by omega)]; rfl, rfl⟩
end Go.Proofs.Ytlpdgjneoahdeaa.Sha

/-
  Each halving has half the reward of the one ahead. Conditions: numbers that an int holds.
-/
namespace Go.Proofs.Ytlpdgjneoahdeaa.Sha
open Go Go.RowKit
set_option maxHeartbeats 2000000 in
set_option maxRecDepth 100000 in
theorem halves_main (x y z : Int) (w : World) (hx : -9223372036854775808 ≤ x ∧ x ≤ 9223372036854775807) (hy : -9223372036854775808 ≤ y ∧ y ≤ 9223372036854775807) (hz : -9223372036854775808 ≤ z ∧ z ≤ 9223372036854775807) :
    Calls Try.prog 3 #[.int .i64 x, .int .i64 y, .int .i64 z] w fun e w' => e = .returned (.bool true) ∧ w = w' := by
  obtain ⟨k, hk⟩ : ∃ k, k = numb x 70 := ⟨_, rfl⟩
  obtain ⟨k0, k1⟩ := numb_bd x 70 (by omega)
  obtain ⟨h0, h1⟩ := numb_bd y 10000 (by omega)
  have N1 : Hid (∀ W, Calls Try.prog 6 #[.int .i64 x, .int .i64 70] W fun e w' => e = .returned (.int .i64 (numb x 70)) ∧ W = w') := fun W => numb_any x 70 (by omega) (by omega) (by omega) W
  have N2 : Hid (∀ W, Calls Try.prog 6 #[.int .i64 y, .int .i64 10000] W fun e w' => e = .returned (.int .i64 (numb y 10000)) ∧ W = w') := fun W => numb_any y 10000 (by omega) (by omega) (by omega) W
  rw [← hk] at N1 k0 k1
  obtain ⟨hv, hhv⟩ : ∃ hv, hv = numb y 10000 := ⟨_, rfl⟩
  rw [← hhv] at N2 h0 h1
  obtain ⟨h, hh⟩ : ∃ h, h = hv + 1 := ⟨_, rfl⟩
  have w1 : IntKind.i64.wrap (hv + 1) = h := by rw [IntWalk.i64_in _ (by omega), hh]
  obtain ⟨o0, o1⟩ := numb_bd z h (by omega)
  have N3 : Hid (∀ W, Calls Try.prog 6 #[.int .i64 z, .int .i64 h] W fun e w' => e = .returned (.int .i64 (numb z h)) ∧ W = w') := fun W => numb_any z h (by omega) (by omega) (by omega) W
  obtain ⟨o, ho⟩ : ∃ o, o = numb z h := ⟨_, rfl⟩
  rw [← ho] at N3 o0 o1
  have b1 : 0 ≤ k * h := Int.mul_nonneg k0 (by omega)
  have b2 : k * h ≤ 70 * 10000 := Int.mul_le_mul (by omega) (by omega) (by omega) (by omega)
  have e2 : (k + 1) * h = k * h + h := by rw [Int.add_mul, Int.one_mul]
  have RA := rewN_at k h 0 k0 (by omega) (by omega) (by omega)
  have RB := rewN_at k h o k0 (by omega) o0 o1
  have RC := rewN_at (k + 1) h 0 (by omega) (by omega) (by omega) (by omega)
  rw [Int.add_zero] at RA RC
  rw [show (k + 1).toNat = k.toNat + 1 from by omega, rewK_half] at RC
  rw [e2] at RC
  have RL := rewK_le k.toNat
  have RN := fun h6 : 64 ≤ k => rewK_none k.toNat (by omega)
  obtain ⟨p, hp⟩ : ∃ p, p = k * h := ⟨_, rfl⟩
  obtain ⟨a, ha⟩ : ∃ a, a = rewK k.toNat := ⟨_, rfl⟩
  rw [← ha] at RA RB RC RL RN
  rw [← hp] at b1 b2 RA RB RC e2
  have R1 : Hid (∀ W, Calls Try.prog 7 #[.int .i64 p, .int .i64 h] W fun e w' => e = .returned (.int .u64 (a : Int)) ∧ W = w') := fun W => by rw [← RA]; exact vlreward_any W p h (by omega) (by omega)
  have R2 : Hid (∀ W, Calls Try.prog 7 #[.int .i64 (p + o), .int .i64 h] W fun e w' => e = .returned (.int .u64 (a : Int)) ∧ W = w') := fun W => by rw [← RB]; exact vlreward_any W (p + o) h (by omega) (by omega)
  have R3 : Hid (∀ W, Calls Try.prog 7 #[.int .i64 (p + h), .int .i64 h] W fun e w' => e = .returned (.int .u64 ((a / 2 : Nat) : Int)) ∧ W = w') := fun W => by rw [← RC]; exact vlreward_any W (p + h) h (by omega) (by omega)
  have R4 : Hid (∀ W, Calls Try.prog 7 #[.int .i64 (-1), .int .i64 h] W fun e w' => e = .returned (.int .u64 0) ∧ W = w') := fun W => (vlreward_any W (-1) h (by omega) (by omega)).mono (by rw [rewN_neg]; exact fun _ _ h => h)
  have R5 : Hid (∀ W, Calls Try.prog 7 #[.int .i64 5, .int .i64 0] W fun e w' => e = .returned (.int .u64 0) ∧ W = w') := fun W => vlreward_any W 5 0 (by omega) (by omega)
  have x1 : IntKind.i64.wrap (k * h) = p := by rw [← hp]; exact IntWalk.i64_in _ (by omega)
  have x2 : IntKind.i64.wrap (p + o) = p + o := IntWalk.i64_in _ (by omega)
  have x3 : IntKind.i64.wrap (k + 1) = k + 1 := IntWalk.i64_in _ (by omega)
  have x4 : IntKind.i64.wrap ((k + 1) * h) = p + h := by rw [e2]; exact IntWalk.i64_in _ (by omega)
  have hw : IntKind.u64.wrap ((a : Int).tdiv 2) = ((a / 2 : Nat) : Int) := by
    rw [Int.tdiv_eq_ediv_of_nonneg (by omega), IntKind.wrap_u64]
    omega
  clear RA RB RC hk hhv hh ho hp ha e2
  go_enter Try.func3, Try.ntmps3
  go_wp2_with fail
  refine (vlfirst_any _).mono ?_
  rintro e w2 ⟨rfl, rfl⟩
  go_wp2_with fail
  refine (N1.out _).mono ?_
  rintro e w2 ⟨rfl, rfl⟩
  go_wp2_with fail
  refine (N2.out _).mono ?_
  rintro e w2 ⟨rfl, rfl⟩
  go_wp2_with fail
  refine (N3.out _).mono ?_
  rintro e w2 ⟨rfl, rfl⟩
  go_wp2_with fail
  refine (R1.out _).mono ?_
  rintro e w2 ⟨rfl, rfl⟩
  go_wp2_with fail
  refine (R2.out _).mono ?_
  rintro e w2 ⟨rfl, rfl⟩
  go_wp2_with fail
  refine (R3.out _).mono ?_
  rintro e w2 ⟨rfl, rfl⟩
  by_cases h6 : k < 64
  · go_wp2_with fail
    refine (R4.out _).mono ?_
    rintro e w2 ⟨rfl, rfl⟩
    go_wp2_with fail
    refine (R5.out _).mono ?_
    rintro e w2 ⟨rfl, rfl⟩
    go_wp2_with fail
    go_ret
    exact ⟨rfl, rfl⟩
  · have a0 : a = 0 := RN (by omega)
    subst a0
    go_wp2_with fail
    refine (R4.out _).mono ?_
    rintro e w2 ⟨rfl, rfl⟩
    go_wp2_with fail
    refine (R5.out _).mono ?_
    rintro e w2 ⟨rfl, rfl⟩
    go_wp2_with fail
    go_ret
    exact ⟨rfl, rfl⟩
end Go.Proofs.Ytlpdgjneoahdeaa.Sha

/-
  A place (api.Point) as the model has it: 32 bytes and a number, 33 cells; how two are held against each other. Conditions: digests of 32 bytes.
-/
namespace Go.Proofs.Ytlpdgjneoahdeaa.Sha
open Go Go.RowKit
/-- A whole row is read, in a list, where its guard asks for it. -/
theorem wpList_load_rowG {P : Program} {ops : Array Oper} {rest : List Oper} {o : Oper} {a : Act} {w : World} {Q : Exit → Act → World → Prop} (ty : TypeId) (x : Operand) (ho : o.op = .load ty x)
    (g : Nat) (hx : a.eval x = .pointer (some ⟨g, 0, none⟩)) (t : TypeId) (cs : Array Value) (fr : Nat × Nat) (d : TypeDesc) (hg : w.heap[g]? = some (.cells cs t fr))
    (hu : P.underlying ty = some d) (hd : (match d with | .struct _ | .array _ _ => true | _ => false) = true) (hi : (P.info? ty).map (·.size) = some cs.size) (hw : Region.wanted o (yielded ops a.tmps) = true)
    (h : wpList P ops Q rest (a.put o.dst (.agg cs)) w) : wpList P ops Q (o :: rest) a w :=
  wpList_step fun _ hK => by
    rw [if_pos hw]
    exact wp_load_row ty x ho g hx t cs fr d hg hu hd hi (hK _ _ h)
end Go.Proofs.Ytlpdgjneoahdeaa.Sha

/-
  A transaction as the model has it: inputs of 35 cells, outputs of 33, rows of them behind slices; what stands in memory keeps standing where only new memory turns. No conditions.
-/
namespace Go.Proofs.Ytlpdgjneoahdeaa.Sha
open Go Go.RowKit
structure TIn where
  h : List UInt8
  n : Nat
  key : List UInt8
  seq : Nat
structure TOut where
  val : Nat
  lock : List UInt8
structure TTx where
  ver : Nat
  ins : List TIn
  outs : List TOut
  time : Nat
end Go.Proofs.Ytlpdgjneoahdeaa.Sha

/-
  The statements' own SameIn, SameOut tell whether two inputs, two outputs are the same. Nothing that was there turns. Conditions: digests of 32 bytes, keys that lie in memory, fewer than 2^46 bytes.
-/
namespace Go.Proofs.Ytlpdgjneoahdeaa.Sha
open Go Go.RowKit
theorem range_of_box {w : World} {g : Nat} {cs : List Value} {T : TypeId} {fr : Nat × Nat} (h : w.heap[g]? = some (.cells cs.toArray T fr)) : w.rangeAt g 0 cs := fun j v hj => by
  rw [Nat.zero_add, cell_of_row _ _ _ _ _ _ h, List.getElem?_toArray]
  exact hj
end Go.Proofs.Ytlpdgjneoahdeaa.Sha

/-
  The statements' own Four, Eight, Put write a number behind bytes of the caller's: whatever else was there stays, but for the row written to. Conditions: the row is the caller's own, fewer than 2^46 bytes.
-/
namespace Go.Proofs.Ytlpdgjneoahdeaa.Sha
open Go Go.RowKit
/-- An own row of bytes; since w0 nothing turned but the row r. -/
def OwnG (base : Nat) (r : Option Nat) (w0 w : World) (v : Value) (bs : List UInt8) : Prop :=
  w.ownsRow base 5 1 v bs.length (bs.map bV) ∧ w0.grownBy w r ∧ (v.ownBlock = r ∨ ∃ k, v.ownBlock = some k ∧ w0.heap.size ≤ k) ∧ base ≤ w.heap.size
theorem grown_over {w0 w w' : World} {r q : Option Nat} (h : w0.grownBy w r) (hg : w.grownBy w' q) (hq : q = r ∨ ∃ k, q = some k ∧ w0.heap.size ≤ k) : w0.grownBy w' r :=
  ⟨hg.os.trans h.os, hg.tape.trans h.tape, hg.output.trans h.output, Nat.le_trans h.size hg.size, fun k hk hne => by
    rw [hg.block k (Nat.lt_of_lt_of_le hk h.size) (by
      rcases hq with rfl | ⟨k', rfl, hk'⟩
      · exact hne
      · exact fun e => by have := Option.some.inj e; omega)]
    exact h.block k hk hne⟩
theorem OwnG.trans {base : Nat} {r : Option Nat} {w0 w w' : World} {v v' : Value} {bs cs : List UInt8} (h : OwnG base r w0 w v bs) (k : OwnG base v.ownBlock w w' v' cs) : OwnG base r w0 w' v' cs :=
  ⟨k.1, grown_over h.2.1 k.2.1 h.2.2.1, by
    rcases k.2.2.1 with e | ⟨q, e, hq⟩
    · rw [e]
      exact h.2.2.1
    · exact .inr ⟨q, e, Nat.le_trans h.2.1.size hq⟩, k.2.2.2⟩
section
variable {P : Program}
end
end Go.Proofs.Ytlpdgjneoahdeaa.Sha

/-
  Coins as the model has them: a coin's 35 cells, a place's 33, a coin with its place 68; rows of elements of so many cells behind a slice, whatever they hold. No conditions beyond those that each states.
-/
namespace Go.Proofs.Ytlpdgjneoahdeaa.Sha
open Go Go.RowKit
/-- A place. -/
structure TPt where
  h : List UInt8
  n : Nat
/-- A coin: its value, lock, height, base. -/
structure TMn where
  val : Nat
  lock : List UInt8
  height : Int
  base : Bool
/-- A coin with its place. -/
structure TSp where
  at_ : TPt
  coin : TMn
instance : DecidableEq TPt := fun a b => if h : a.h = b.h ∧ a.n = b.n then isTrue (by cases a; cases b; obtain ⟨h1, h2⟩ := h; subst h1 h2; rfl) else isFalse (fun e => h (by rw [e]; exact ⟨rfl, rfl⟩))
def MnOk (c : TMn) : Prop := c.lock.length = 32 ∧ c.val ≤ 18446744073709551615 ∧ -9223372036854775808 ≤ c.height ∧ c.height ≤ 9223372036854775807
def mnL (c : TMn) : List Value := .int .u64 (c.val : Int) :: (c.lock.map bV ++ [.int .i64 c.height, .bool c.base])
theorem mnL_length {c : TMn} (h : MnOk c) : (mnL c).length = 35 := by simp [mnL, h.1]
theorem mnL_size {c : TMn} (h : MnOk c) : (mnL c).toArray.size = 35 := by simp [mnL_length h]
theorem mnL_one (c : TMn) : ∀ v ∈ mnL c, v.oneCell' = true := by
  intro v hv
  simp only [mnL, List.mem_cons, List.mem_append, List.not_mem_nil, or_false] at hv
  rcases hv with rfl | hv | rfl | rfl
  · rfl
  · exact bV_one' _ v hv
  · rfl
  · rfl
theorem mnL_all (c : TMn) : (mnL c).toArray.all (·.oneCell') = true := all_oneCell_toArray (mnL_one c)
theorem mn_height {w : World} {b o : Nat} {c : TMn} (hl : c.lock.length = 32) (h : w.rangeAt b o (mnL c)) : w.cell? ⟨b, o + 33, none⟩ = some (.int .i64 c.height) := h 33 _ (by
  rw [mnL, List.getElem?_cons_succ, List.getElem?_append_right (by simp [hl])]
  simp [hl])
theorem mn_base {w : World} {b o : Nat} {c : TMn} (hl : c.lock.length = 32) (h : w.rangeAt b o (mnL c)) : w.cell? ⟨b, o + 34, none⟩ = some (.bool c.base) := h 34 _ (by
  rw [mnL, List.getElem?_cons_succ, List.getElem?_append_right (by simp [hl])]
  simp [hl])
/-! Rows of elements of k cells each. -/
/-- All of k cells. -/
def AllK (k : Nat) (L : List (List Value)) : Prop := ∀ x ∈ L, x.length = k
theorem AllK.take {k : Nat} {L : List (List Value)} (h : AllK k L) (n : Nat) : AllK k (L.take n) := fun x hx => h x (List.mem_of_mem_take hx)
theorem AllK.get {k : Nat} {L : List (List Value)} (h : AllK k L) {i : Nat} {x : List Value} (hx : L[i]? = some x) : x.length = k := h x (List.mem_of_getElem? hx)
theorem flatten_get {k : Nat} : ∀ (L : List (List Value)) (i : Nat) (y : List Value), AllK k L → L[i]? = some y → ∀ j, j < k → L.flatten[i * k + j]? = y[j]?
  | z :: L, 0, y, h, hy, j, hj => by
    simp only [List.getElem?_cons_zero, Option.some.injEq] at hy
    subst hy
    rw [Nat.zero_mul, Nat.zero_add, List.flatten_cons, List.getElem?_append_left (by rw [h z List.mem_cons_self]; exact hj)]
  | z :: L, i + 1, y, h, hy, j, hj => by
    have e : z.length = k := h z List.mem_cons_self
    rw [List.flatten_cons, List.getElem?_append_right (by rw [e, Nat.add_mul, Nat.one_mul]; omega), e, show (i + 1) * k + j - k = i * k + j by rw [Nat.add_mul, Nat.one_mul]; omega]
    exact flatten_get L i y (fun z hz => h z (List.mem_cons_of_mem _ hz)) (by simpa using hy) j hj
  | [], _, _, _, hy, _, _ => by simp at hy
/-- The slice v reads as these elements. -/
def RwAt (k : Nat) (w : World) (v : Value) (L : List (List Value)) : Prop :=
  AllK k L ∧ ∃ sp cap, v = .slice sp L.length cap ∧ L.length ≤ cap ∧ (0 < L.length → ∃ b o, sp = some ⟨b, o, none⟩ ∧ ∀ i x, L[i]? = some x → w.rangeAt b (o + i * k) x)
/-- Where they lie. -/
theorem RwAt.get {k : Nat} {w : World} {sp : Option Addr} {n cap : Nat} {L : List (List Value)} (h : RwAt k w (.slice sp n cap) L) (h0 : 0 < n) : ∃ b o, sp = some ⟨b, o, none⟩ ∧ ∀ i x, L[i]? = some x → w.rangeAt b (o + i * k) x := by
  obtain ⟨ho, sp', cap', hv, hc, hr⟩ := h
  cases hv
  exact hr h0
/-- A row of one's own. -/
def RwOwn (k : Nat) (T : TypeId) (base : Nat) (w : World) (v : Value) (L : List (List Value)) : Prop := w.ownsRow base T k v L.length L.flatten ∧ AllK k L
section
variable {k : Nat} {T : TypeId} {base : Nat} {w w' : World} {v v' : Value} {L : List (List Value)}
/-- Such a row as a slice. -/
theorem RwOwn.at (h : RwOwn k T base w v L) (hk : 0 < k) : RwAt k w v L := by
  obtain ⟨h2, h3⟩ := h
  refine ⟨h3, ?_⟩
  rcases h2.2 with ⟨hv, h0⟩ | ⟨g, cap, cur, hv, hb, hc, hn, hm, hs, ht⟩
  · exact ⟨none, 0, by rw [hv, h0], by omega, fun h => by omega⟩
  · subst hv
    refine ⟨_, cap, rfl, hn, fun h0 => ⟨g, 0, rfl, fun i x hx => ?_⟩⟩
    have hi := (List.getElem?_eq_some_iff.1 hx).1
    have hxo := h3.get hx
    intro j u hj
    have hjk : j < k := by
      have := (List.getElem?_eq_some_iff.1 hj).1
      omega
    have hlt : i * k + j < L.length * k := by
      have : (i + 1) * k ≤ L.length * k := Nat.mul_le_mul_right _ hi
      rw [Nat.add_mul, Nat.one_mul] at this
      omega
    rw [Nat.zero_add, h2.cellAt (i * k + j) hlt, flatten_get L i x h3 hx j hjk]
    exact hj
end
end Go.Proofs.Ytlpdgjneoahdeaa.Sha

/-
  Whether a coin is ripe, as a Boolean. No conditions.
-/
namespace Go.Proofs.Ytlpdgjneoahdeaa.Sha
open Go Go.RowKit
def ripeB (c : TMn) (height maturity : Int) : Bool := !c.base || decide (c.height + maturity ≤ height)
end Go.Proofs.Ytlpdgjneoahdeaa.Sha

/-
  Package value: whether a coin is ripe. Nothing that was there turns. Conditions: numbers that an int holds.
-/
namespace Go.Proofs.Ytlpdgjneoahdeaa.Sha
open Go Go.RowKit
set_option maxHeartbeats 1000000 in
set_option maxRecDepth 100000 in
theorem vlripe_any (w : World) (c : TMn) (height maturity : Int) (hc : MnOk c) (h1 : -9223372036854775808 ≤ c.height + maturity) (h2 : c.height + maturity ≤ 9223372036854775807) :
    Calls Try.prog 8 #[.agg (mnL c).toArray, .int .i64 height, .int .i64 maturity] w fun e w' => e = .returned (.bool (ripeB c height maturity)) ∧ Below w.heap.size w w' := by
  have hb := range_of_box (heap_alloc_new w (.cells (mnL c).toArray 30 (0, 0)))
  have hh := mn_height hc.1 hb
  have hbs := mn_base hc.1 hb
  have bb := (Below.refl w.heap.size w).alloc (Nat.le_refl _) (.cells (mnL c).toArray 30 (0, 0))
  rw [Nat.zero_add] at hh hbs
  obtain ⟨ans, han⟩ : ∃ ans, ans = ripeB c height maturity := ⟨_, rfl⟩
  have AN : Hid (ans = (!c.base || decide (c.height + maturity ≤ height))) := han
  rw [← han]
  obtain ⟨cm, hcm⟩ : ∃ cm, cm = mnL c := ⟨_, rfl⟩
  rw [← hcm] at hh hbs bb ⊢
  obtain ⟨ht, hht⟩ : ∃ ht, ht = c.height := ⟨_, rfl⟩
  obtain ⟨bs, hbse⟩ : ∃ bs, bs = c.base := ⟨_, rfl⟩
  rw [← hht] at AN hh h1 h2
  rw [← hbse] at AN hbs
  clear hb han hcm hht hbse hc
  go_enter Try.func8, Try.ntmps8
  go_upto_region 1 with fail
  have hw1 : w.alloc (.cells cm.toArray 30 (0, 0)) = w.alloc (.cells cm.toArray 30 (0, 0)) := rfl
  generalize hq : World.alloc _ _ = w1
  have e1 : w.alloc (.cells cm.toArray 30 (0, 0)) = w1 := hq
  rw [e1] at hh hbs bb
  clear hw1 hq e1
  cases bs with
  | false =>
    go_wp2_with fail
    go_ret
    exact ⟨by rw [AN.out]; rfl, bb⟩
  | true =>
    have hwr : IntKind.i64.wrap (ht + maturity) = ht + maturity := by rw [IntKind.wrap_i64]; omega
    go_wp2_with fail
    go_ret
    exact ⟨by rw [AN.out]; rfl, bb⟩
end Go.Proofs.Ytlpdgjneoahdeaa.Sha

/-
  A value stored into a box, or into a part of a block of one's own, the new world hidden; two boxes; a box and a value as results. No conditions beyond those that each states.
-/
namespace Go.Proofs.Ytlpdgjneoahdeaa.Sha
open Go Go.RowKit
section
variable {P : Program}
theorem setRow_grown {w : World} {g : Nat} (cs : Array Value) : w.grownBy (w.setRow g cs) (some g) := by
  refine ⟨rfl, rfl, rfl, by simp [World.setRow], fun k _ hk => ?_⟩
  simp only [World.setRow]
  rw [Array.getElem?_modify, if_neg (fun e => hk (by rw [e]))]
theorem run_store_part {w : World} (ty : TypeId) (g o : Nat) (A old C new : List Value) (T : TypeId) (v : Value) (hv : v.cells = new.toArray) (hA : A.length = o) (hlen : old.length = new.length)
    (hg : w.heap[g]? = some (.cells (A ++ old ++ C).toArray T (0, 0))) (hi : (P.info? ty).map (·.size) = some new.length) (h1 : ∀ u ∈ new, u.oneCell' = true) :
    (storeVar ty ⟨g, o, none⟩ v).run P w = .ok () (w.setRow g (A ++ new ++ C).toArray) := by
  have h := run_storeCells_at P g o T new 0 (A ++ old ++ C).toArray w hg (by simp; omega) h1
  have e : ((A ++ old ++ C).toArray.toList.take (o + 0) ++ new ++ (A ++ old ++ C).toArray.toList.drop (o + 0 + new.length)).toArray = (A ++ new ++ C).toArray := by
    congr 1
    subst hA
    simp only [Nat.add_zero]
    rw [List.append_assoc A old C, List.take_left, ← List.drop_drop, List.drop_left, ← hlen, List.drop_left]
  rw [e] at h
  cases hq : P.info? ty with
  | none => simp [hq] at hi
  | some i =>
    have hs : i.size = new.length := by simpa [hq] using hi
    simp [storeVar, sizeOf, typeInfo, hq, hv, hs]
    simpa using h
theorem wp_store_part {op : Oper} {a : Act} {w : World} {K : Act → World → Prop} {Q : Exit → Act → World → Prop} (ty : TypeId) (x y : Operand) (ho : op.op = .store ty x y)
    (g o : Nat) (A old C new : List Value) (T : TypeId) (v : Value) (hx : a.eval x = .pointer (some ⟨g, o, none⟩)) (hy : a.eval y = v) (hv : v.cells = new.toArray) (hA : A.length = o) (hlen : old.length = new.length)
    (hg : w.heap[g]? = some (.cells (A ++ old ++ C).toArray T (0, 0))) (hi : (P.info? ty).map (·.size) = some new.length) (h1 : ∀ u ∈ new, u.oneCell' = true)
    (h : ∀ w', w'.heap[g]? = some (.cells (A ++ new ++ C).toArray T (0, 0)) → w.grownBy w' (some g) → K (a.put op.dst undef) w') : op.wp P a w K Q := by
  unfold Oper.wp execOp
  simp only [ho, hx, hy, Instr.storeAt, Instr.sureAddr, Sem.run_bind, Sem.run_pure, Result.andThen_ok, run_store_part ty g o A old C new T v hv hA hlen hg hi h1]
  exact h _ (setRow_heap _ _ _ _ _ _ hg) (setRow_grown _)
theorem wpList_store_part {ops : Array Oper} {rest : List Oper} {op : Oper} {a : Act} {w : World} {Q : Exit → Act → World → Prop} (hgd : op.guard = none) (ty : TypeId) (x y : Operand) (ho : op.op = .store ty x y)
    (g o : Nat) (A old C new : List Value) (T : TypeId) (v : Value) (hx : a.eval x = .pointer (some ⟨g, o, none⟩)) (hy : a.eval y = v) (hv : v.cells = new.toArray) (hA : A.length = o) (hlen : old.length = new.length)
    (hg : w.heap[g]? = some (.cells (A ++ old ++ C).toArray T (0, 0))) (hi : (P.info? ty).map (·.size) = some new.length) (h1 : ∀ u ∈ new, u.oneCell' = true)
    (h : ∀ w', w'.heap[g]? = some (.cells (A ++ new ++ C).toArray T (0, 0)) → w.grownBy w' (some g) → wpList P ops Q rest (a.put op.dst undef) w') : wpList P ops Q (op :: rest) a w :=
  wpList_plain hgd fun _ hK => wp_store_part ty x y ho g o A old C new T v hx hy hv hA hlen hg hi h1 (fun w' a1 a2 => hK _ _ (h w' a1 a2))
end
section
variable {P : Program}
end
end Go.Proofs.Ytlpdgjneoahdeaa.Sha

/-
  Plain mathematics of readers of bytes, one behind the other: what was written is read again; cut off it ends too early; what is read has just these bytes. No conditions beyond those that each states.
-/
namespace Go.Proofs.Ytlpdgjneoahdeaa.Sha
open Go Go.RowKit
/-- A reader of bytes: what it answers, what it leaves, what it met. -/
abbrev Par (α : Type) := List UInt8 → Nat → α × List UInt8 × Nat
def mapP {α β : Type} (f : α → β) (p : Par α) : Par β := fun bs c => (f (p bs c).1, (p bs c).2)
/-- Bytes that it reads whole, whatever stands behind; cut off, they end too early. -/
def Good {α : Type} (p : Par α) (a : α) (x : List UInt8) : Prop := (∀ y, p (x ++ y) 0 = (a, y, 0)) ∧ ∀ k, k < x.length → (p (x.take k) 0).2.2 = 1
/-- An error stays. -/
def Stay {α : Type} (p : Par α) : Prop := ∀ bs c, c ≠ 0 → (p bs c).2.2 = c
/-- What is read stands so to the bytes that it was read from. -/
def BackR {α : Type} (p : Par α) (R : α → List UInt8 → Prop) : Prop := ∀ bs a r, p bs 0 = (a, r, 0) → ∃ x, bs = x ++ r ∧ R a x
section
variable {α β : Type} {p : Par α} {q : α → Par β} {a : α} {b : β} {x y : List UInt8}
theorem Good.map (f : α → β) (h : Good p a x) : Good (mapP f p) (f a) x :=
  ⟨fun z => by unfold mapP; rw [h.1], fun k hk => h.2 k hk⟩
theorem Stay.map (f : α → β) (h : Stay p) : Stay (mapP f p) := fun bs c hc => h bs c hc
theorem BackR.map {R : α → List UInt8 → Prop} (f : α → β) (h : BackR p R) : BackR (mapP f p) (fun b z => ∃ a, b = f a ∧ R a z) := by
  intro bs b r h1
  unfold mapP at h1
  simp only [Prod.mk.injEq] at h1
  obtain ⟨x, e, hr⟩ := h bs (p bs 0).1 r (by rw [← h1.2])
  exact ⟨x, e, _, h1.1.symm, hr⟩
end
end Go.Proofs.Ytlpdgjneoahdeaa.Sha

/-
  Plain mathematics of so many things read one behind the other, whether or not an error was met between: they leave and meet what those do that stop at the first error. No conditions.
-/
namespace Go.Proofs.Ytlpdgjneoahdeaa.Sha
open Go Go.RowKit
section
variable {α β : Type} {p q : Par α}
/-- Behind an error nothing is read. -/
def Still (p : Par α) : Prop := ∀ bs c, c ≠ 0 → (p bs c).2 = (bs, c)
theorem Still.map (f : α → β) (h : Still p) : Still (mapP f p) := fun bs c hc => h bs c hc
/-- Two that leave and meet the same, and are the same where nothing is met. -/
def Sim (p q : Par α) : Prop := ∀ bs c, (p bs c).2 = (q bs c).2 ∧ ((p bs c).2.2 = 0 → p bs c = q bs c)
theorem Sim.refl (p : Par α) : Sim p p := fun _ _ => ⟨rfl, fun _ => rfl⟩
theorem Sim.map (f : α → β) (h : Sim p q) : Sim (mapP f p) (mapP f q) := fun bs c => by
  obtain ⟨e1, e2⟩ := h bs c
  unfold mapP
  exact ⟨e1, fun h0 => by rw [e2 h0]⟩
end
/-- What is left is no longer than what was there. -/
def Less {α : Type} (p : Par α) : Prop := ∀ bs c, (p bs c).2.1.length ≤ bs.length
theorem Less.map {α β : Type} {p : Par α} (f : α → β) (h : Less p) : Less (mapP f p) := h
end Go.Proofs.Ytlpdgjneoahdeaa.Sha

/-
  A coin of a first transaction is ripe just so many blocks behind its own. Conditions: numbers that an int holds.
-/
namespace Go.Proofs.Ytlpdgjneoahdeaa.Sha
open Go Go.RowKit
def mnZv : TMn := ⟨0, List.replicate 32 0, 0, false⟩
theorem built_mn4 (x : Nat) (h : Int) (b : Bool) : Try.prog.built 30 [(0, .int .u64 (x : Int)), (2, .int .i64 h), (3, .bool b)] = some (mnL ⟨x, List.replicate 32 0, h, b⟩).toArray := by
  have hz : ∀ parts, Try.prog.built 30 parts = Instr.fill ([(0, 1), (1, 32), (33, 1), (34, 1)].toArray[·]?) (mnL mnZv).toArray parts := fun parts => by kernel_rfl
  rw [hz]
  rfl
set_option maxHeartbeats 400000 in
set_option maxRecDepth 100000 in
theorem ripe_main (x y : Int) (v : Nat) (w : World) (hx : -9223372036854775808 ≤ x ∧ x ≤ 9223372036854775807) (hy : -9223372036854775808 ≤ y ∧ y ≤ 9223372036854775807) (hv : v ≤ 18446744073709551615) :
    Calls Try.prog 4 #[.int .i64 x, .int .i64 y, .int .u64 (v : Int)] w fun e w' => e = .returned (.bool true) ∧ Below w.heap.size w w' := by
  obtain ⟨Z, hZd⟩ : ∃ Z : List UInt8, Z = List.replicate 32 0 := ⟨_, rfl⟩
  have hZ : Z.length = 32 := by rw [hZd, List.length_replicate]
  obtain ⟨h0, h1⟩ := numb_bd x 100000 (by omega)
  obtain ⟨m0, m1⟩ := numb_bd y 1001 (by omega)
  have N1 : Hid (∀ W, Calls Try.prog 6 #[.int .i64 x, .int .i64 100000] W fun e w' => e = .returned (.int .i64 (numb x 100000)) ∧ W = w') := fun W => numb_any x 100000 (by omega) (by omega) (by omega) W
  have N2 : Hid (∀ W, Calls Try.prog 6 #[.int .i64 y, .int .i64 1001] W fun e w' => e = .returned (.int .i64 (numb y 1001)) ∧ W = w') := fun W => numb_any y 1001 (by omega) (by omega) (by omega) W
  obtain ⟨hh, hhh⟩ : ∃ hh, hh = numb x 100000 := ⟨_, rfl⟩
  obtain ⟨m, hm⟩ : ∃ m, m = numb y 1001 := ⟨_, rfl⟩
  rw [← hhh] at N1 h0 h1
  rw [← hm] at N2 m0 m1
  clear hhh hm
  have R1 : Hid (∀ W, Calls Try.prog 8 #[.agg (mnL ⟨v, Z, hh, true⟩).toArray, .int .i64 (hh + m), .int .i64 m] W fun e w' => e = .returned (.bool true) ∧ Below W.heap.size W w') := fun W => by
    have h := vlripe_any W ⟨v, Z, hh, true⟩ (hh + m) m ⟨hZ, hv, by show _ ≤ hh; omega, by show hh ≤ _; omega⟩ (by show _ ≤ hh + _; omega) (by show hh + _ ≤ _; omega)
    rw [show ripeB ⟨v, Z, hh, true⟩ (hh + m) m = true from by unfold ripeB; simp] at h
    exact h
  have R2 : Hid (∀ W, Calls Try.prog 8 #[.agg (mnL ⟨v, Z, hh, true⟩).toArray, .int .i64 (hh + m - 1), .int .i64 m] W fun e w' => e = .returned (.bool false) ∧ Below W.heap.size W w') := fun W => by
    have h := vlripe_any W ⟨v, Z, hh, true⟩ (hh + m - 1) m ⟨hZ, hv, by show _ ≤ hh; omega, by show hh ≤ _; omega⟩ (by show _ ≤ hh + _; omega) (by show hh + _ ≤ _; omega)
    rw [show ripeB ⟨v, Z, hh, true⟩ (hh + m - 1) m = false from by unfold ripeB; simp; omega] at h
    exact h
  have R3 : Hid (∀ W, Calls Try.prog 8 #[.agg (mnL ⟨v, Z, hh, false⟩).toArray, .int .i64 0, .int .i64 m] W fun e w' => e = .returned (.bool true) ∧ Below W.heap.size W w') := fun W => by
    have h := vlripe_any W ⟨v, Z, hh, false⟩ 0 m ⟨hZ, hv, by show _ ≤ hh; omega, by show hh ≤ _; omega⟩ (by show _ ≤ hh + _; omega) (by show hh + _ ≤ _; omega)
    rw [show ripeB ⟨v, Z, hh, false⟩ 0 m = true from by unfold ripeB; simp] at h
    exact h
  have R4 : Hid (∀ W, Calls Try.prog 8 #[.agg (mnL ⟨v, Z, hh, true⟩).toArray, .int .i64 hh, .int .i64 0] W fun e w' => e = .returned (.bool true) ∧ Below W.heap.size W w') := fun W => by
    have h := vlripe_any W ⟨v, Z, hh, true⟩ hh 0 ⟨hZ, hv, by show _ ≤ hh; omega, by show hh ≤ _; omega⟩ (by show _ ≤ hh + _; omega) (by show hh + _ ≤ _; omega)
    rw [show ripeB ⟨v, Z, hh, true⟩ hh 0 = true from by unfold ripeB; simp] at h
    exact h
  have BT : Hid (Try.prog.built 30 [(0, .int .u64 (v : Int)), (2, .int .i64 hh), (3, .bool true)] = some (mnL ⟨v, Z, hh, true⟩).toArray) := by
    show _ = _
    rw [hZd]
    exact built_mn4 v hh true
  have LZ : Hid ((mnL mnZv).toArray.size = (mnL ⟨v, Z, hh, true⟩).toArray.size) := by
    have l := mnL_size (c := ⟨v, Z, hh, true⟩) ⟨hZ, hv, by show _ ≤ hh; omega, by show hh ≤ _; omega⟩
    show _ = _
    rw [l]
    rfl
  have LC : Hid ((mnL ⟨v, Z, hh, true⟩).toArray.size = 35) := mnL_size ⟨hZ, hv, by show _ ≤ hh; omega, by show hh ≤ _; omega⟩
  have LD : Hid ((mnL ⟨v, Z, hh, false⟩).toArray.size = 35) := mnL_size ⟨hZ, hv, by show _ ≤ hh; omega, by show hh ≤ _; omega⟩
  obtain ⟨pr, hpr⟩ : ∃ pr : List Value, pr = .int .u64 (v : Int) :: (Z.map bV ++ [.int .i64 hh]) := ⟨_, rfl⟩
  have e1 : mnL ⟨v, Z, hh, true⟩ = pr ++ [.bool true] := by rw [hpr]; simp [mnL]
  have e2 : mnL ⟨v, Z, hh, false⟩ = pr ++ [.bool false] := by rw [hpr]; simp [mnL]
  have LP : Hid (pr.length = 34) := by show _ = _; rw [hpr]; simp [hZ]
  have OC : Hid ((pr ++ [Value.bool true]).toArray.all (·.oneCell') = true) := by show _ = _; rw [← e1]; exact mnL_all _
  rw [e1] at R1 R2 R4 LC BT LZ
  rw [e2] at R3 LD
  have x1 : IntKind.i64.wrap (hh + m) = hh + m := IntWalk.i64_in _ (by omega)
  have x2 : IntKind.i64.wrap (hh + m - 1) = hh + m - 1 := IntWalk.i64_in _ (by omega)
  clear hpr e1 e2 hZd hZ
  go_enter Try.func4, Try.ntmps4
  go_wp2_with fail
  refine (vlfirst_any _).mono ?_
  rintro e w2 ⟨rfl, rfl⟩
  go_wp2_with fail
  refine (N1.out _).mono ?_
  rintro e w2 ⟨rfl, rfl⟩
  go_wp2_with fail
  refine (N2.out _).mono ?_
  rintro e w2 ⟨rfl, rfl⟩
  go_upto_region 6 with fail
  go_upto_region 7 with ((with_reducible show wpList _ _ _ _ _ _); first | (refine wpList_buildTo rfl 30 _ rfl _ rfl (pr ++ [Value.bool true]).toArray (by rw [← BT.out]; kernel_rfl) ?_; go_frame) | (refine wpList_store_row rfl 30 (.tmp 8) (.tmp 19) rfl w.heap.size (pr ++ [Value.bool true]).toArray rfl rfl 30 _ (heap_alloc_new _ _) (by rw [LC.out]; kernel_rfl) (by rw [LC.out]; rfl) OC.out ?_; go_frame))
  obtain ⟨_, f2, f3, f4⟩ := fill_setup (Below.refl w.heap.size w) (mnL mnZv).toArray (pr ++ [Value.bool true]).toArray 30
  generalize hqw1 : World.setRow _ _ _ = w1
  have ew1 : World.setRow (w.alloc (.cells (mnL mnZv).toArray 30)) w.heap.size (pr ++ [Value.bool true]).toArray = w1 := hqw1
  rw [ew1] at f2 f3 f4
  obtain ⟨gc, hgc⟩ : ∃ gc, gc = w.heap.size := ⟨_, rfl⟩
  rw [← hgc] at f2 ⊢
  have CR := Lib.hid f2
  have Ngc : Hid (w.heap.size ≤ gc) := by show _ ≤ _; rw [hgc]; exact Nat.le_refl _
  have BB := Lib.hid (f4)
  clear f2 f3 f4 hqw1 ew1 hgc
  go_upto_region 8 with ((with_reducible show wpList _ _ _ _ _ _); first | (refine wpList_load_row rfl 30 (.tmp 8) rfl gc rfl 30 (pr ++ [Value.bool true]).toArray (0, 0) _ CR.out Try.underlying30 rfl (by rw [LC.out]; kernel_rfl) ?_; go_frame) | (refine wpList_store_row rfl 30 (.tmp 9) (.tmp 20) rfl w1.heap.size (pr ++ [Value.bool true]).toArray rfl rfl 30 _ (heap_alloc_new _ _) (by rw [LC.out]; kernel_rfl) (by rw [LC.out]; rfl) OC.out ?_; go_frame))
  have CR0 := CR
  have BB0 := BB
  obtain ⟨_, f2, f3, f4⟩ := fill_setup (Below.refl w1.heap.size w1) (mnL mnZv).toArray (pr ++ [Value.bool true]).toArray 30
  generalize hqw2 : World.setRow _ _ _ = w2
  have ew2 : World.setRow (w1.alloc (.cells (mnL mnZv).toArray 30)) w1.heap.size (pr ++ [Value.bool true]).toArray = w2 := hqw2
  rw [ew2] at f2 f3 f4
  obtain ⟨gd, hgd⟩ : ∃ gd, gd = w1.heap.size := ⟨_, rfl⟩
  rw [← hgd] at f2 ⊢
  have DR := Lib.hid f2
  have Ngd : Hid (w1.heap.size ≤ gd) := by show _ ≤ _; rw [hgd]; exact Nat.le_refl _
  have CR := Lib.hid (row_below CR.out f4)
  have BB := Lib.hid (BB.out.trans (f4.mono BB.out.size))
  clear f2 f3 f4 hqw2 ew2 hgd
  have GD : Hid (gc < gd ∧ w.heap.size ≤ gd) := ⟨Nat.lt_of_lt_of_le (Array.getElem?_eq_some_iff.1 CR0.out).1 Ngd.out, Nat.le_trans BB0.out.size Ngd.out⟩
  have CR2 := Lib.hid CR.out
  go_upto_region 9 with ((with_reducible show wpList _ _ _ _ _ _); (refine wpList_store_part rfl 4 (.tmp 21) (.const (.bool false)) rfl gd 34 pr [.bool true] [] [.bool false] 30 (.bool false) rfl rfl rfl LP.out rfl (by have h := DR.out; simpa using h) (by kernel_rfl) (fun u hu => by obtain rfl := List.mem_singleton.1 hu; rfl) ?_; intro w3 q1 q2; have DR : Hid (w3.heap[gd]? = some (.cells (pr ++ [Value.bool false]).toArray 30 (0, 0))) := by { show _ = _; simpa using q1 }; have CR := Lib.hid (show w3.heap[gc]? = some (.cells (pr ++ [Value.bool true]).toArray 30 (0, 0)) from by rw [q2.block gc (Array.getElem?_eq_some_iff.1 CR2.out).1 (fun e => by have := Option.some.inj e; have := GD.out.1; omega)]; exact CR2.out); have BB := Lib.hid (grownBy_below q2 BB.out GD.out.2 BB.out.size); clear q1 q2; go_frame))
  clear CR0 BB0 CR2
  go_wp2_with ((with_reducible show wpList _ _ _ _ _ _); (refine wpList_load_rowG 30 (.tmp 8) rfl gc rfl 30 (pr ++ [Value.bool true]).toArray (0, 0) _ CR.out Try.underlying30 rfl (by rw [LC.out]; kernel_rfl) (by rfl) ?_; go_frame))
  refine (R1.out _).mono ?_
  rintro e w4 ⟨rfl, bb⟩
  have CR := Lib.hid (row_below CR.out bb)
  have DR := Lib.hid (row_below DR.out bb)
  have BB := Lib.hid (BB.out.trans (bb.mono BB.out.size))
  clear bb
  go_wp2_with ((with_reducible show wpList _ _ _ _ _ _); (refine wpList_load_rowG 30 (.tmp 8) rfl gc rfl 30 (pr ++ [Value.bool true]).toArray (0, 0) _ CR.out Try.underlying30 rfl (by rw [LC.out]; kernel_rfl) (by rfl) ?_; go_frame))
  refine (R2.out _).mono ?_
  rintro e w5 ⟨rfl, bb⟩
  have CR := Lib.hid (row_below CR.out bb)
  have DR := Lib.hid (row_below DR.out bb)
  have BB := Lib.hid (BB.out.trans (bb.mono BB.out.size))
  clear bb
  go_wp2_with ((with_reducible show wpList _ _ _ _ _ _); (refine wpList_load_rowG 30 (.tmp 9) rfl gd rfl 30 (pr ++ [Value.bool false]).toArray (0, 0) _ DR.out Try.underlying30 rfl (by rw [LD.out]; kernel_rfl) (by rfl) ?_; go_frame))
  refine (R3.out _).mono ?_
  rintro e w6 ⟨rfl, bb⟩
  have CR := Lib.hid (row_below CR.out bb)
  have DR := Lib.hid (row_below DR.out bb)
  have BB := Lib.hid (BB.out.trans (bb.mono BB.out.size))
  clear bb
  go_wp2_with ((with_reducible show wpList _ _ _ _ _ _); (refine wpList_load_rowG 30 (.tmp 8) rfl gc rfl 30 (pr ++ [Value.bool true]).toArray (0, 0) _ CR.out Try.underlying30 rfl (by rw [LC.out]; kernel_rfl) (by rfl) ?_; go_frame))
  refine (R4.out _).mono ?_
  rintro e w7 ⟨rfl, bb⟩
  have CR := Lib.hid (row_below CR.out bb)
  have DR := Lib.hid (row_below DR.out bb)
  have BB := Lib.hid (BB.out.trans (bb.mono BB.out.size))
  clear bb
  go_wp2_with fail
  go_ret
  exact ⟨rfl, BB.out⟩
end Go.Proofs.Ytlpdgjneoahdeaa.Sha
