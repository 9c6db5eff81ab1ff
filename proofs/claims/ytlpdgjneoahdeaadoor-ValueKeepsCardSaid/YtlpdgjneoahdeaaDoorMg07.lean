/-
  Texts of this proof joined into one file: CnSt, CnAll, CnBytes, ShaSha, CnSum, HeldEnd, HdMath, TxC2, HdVal, RefTree, SpLock, RefSmall. What each holds, and under which conditions, its own first sentence tells.
-/
import Derived.WalkSpells
import Derived.Carry
import Derived.Shelf.SlGeneric
import Derived.Shelf.SlSortCmp.WholeK
import Derived.Test.YtlpdgjneoahdeaaDoorMg06
import Derived.Test.YtlpdgjneoahdeaaDoorMg02
import Derived.Test.YtlpdgjneoahdeaaDoorMg01
import Derived.Test.YtlpdgjneoahdeaaDoorMg03
import Derived.Test.YtlpdgjneoahdeaaDoorMg05
/-
  What a set becomes as it is told things: added one by one; a map's block above. No conditions.
-/
namespace Go.Proofs.YtlpdgjneoahdeaaDoor.Sha
open Go Go.RowKit
/-- A map's block is above this one. -/
def HiM (base : Nat) (m : Option Nat) : Prop := ∀ q, m = some q → base ≤ q
theorem HiM.add {base s : Nat} {m m' : Option Nat} (h : HiM base m) (hs : base ≤ s) (hm : m' = m ∨ ∃ b, m' = some b ∧ s ≤ b) : HiM base m' := by
  rcases hm with rfl | ⟨b, rfl, hb⟩
  · exact h
  · intro q e
    cases e
    exact Nat.le_trans hs hb
theorem Below.set {base : Nat} {w0 w w' : World} {a : Nat} {m : Option Nat} (h : Below base w0 w) (hk : Kps (fun j => j ≠ a ∧ m ≠ some j) w w') (ha : base ≤ a) (hm : HiM base m) (hb : base ≤ w.heap.size) : Below base w0 w' :=
  h.trans ⟨hk.os, hk.tape, hk.output, hk.size, fun k hlt => hk.block k (by omega) ⟨by omega, fun e => by have := hm k e; omega⟩⟩
end Go.Proofs.YtlpdgjneoahdeaaDoor.Sha

/-
  All coins of a set with their places, in the places' order: new memory; nothing that was there turns. Conditions: the set lies where the pointer says, at most 2^20 coins.
-/
namespace Go.Proofs.YtlpdgjneoahdeaaDoor.Sha
open Go Go.RowKit
theorem IterAt.grown {w w' : World} {m : Option Nat} {r : Nat} {q : Option Nat} {rest : List TSp} (h : IterAt w m r rest) (hg : w.grownBy w' q) (h1 : q ≠ some r) (h2 : ∀ b, m = some b → q ≠ some b) : IterAt w' m r rest :=
  h.kps (F := fun k => q ≠ some k) (Kps.grown hg fun k _ hk e => hk e.symm) (fun b hb => h2 b hb) h1
end Go.Proofs.YtlpdgjneoahdeaaDoor.Sha

/-
  A coin's bytes, as a set's digest reads them: package coins writes them into new memory; nothing that was there turns. Conditions: a coin as the model has it.
-/
namespace Go.Proofs.YtlpdgjneoahdeaaDoor.Sha
open Go Go.RowKit
/-- A height's 64 bits. -/
def hN (h : Int) : Nat := (h % 18446744073709551616).toNat
end Go.Proofs.YtlpdgjneoahdeaaDoor.Sha

/-
  digest.Sha answers the SHA-256 of the bytes that it is given, digest.Twice that of that, and turn nothing that was there. Conditions: the bytes lie where the slice says, the table is there, fewer than 2^59 bytes.
-/
namespace Go.Proofs.YtlpdgjneoahdeaaDoor.Sha
open Go Go.RowKit
/-- Write, whatever the slice. -/
theorem write_any (l bs : List UInt8) (v : Value) (B : Nat) (w : World) (hk : KTab w) (hB0 : B ≠ 25) (hsrc : SrcB w v bs) (hne : ∀ sp n cap, v = .slice (some sp) n cap → 0 < n → sp.block ≠ B)
    (hlen : l.length + bs.length ≤ 1152921504606846975) (hinv : WInv w B l) :
    Calls Tryd.prog 44 #[.pointer (some ⟨B, 0, none⟩), v] w fun e w' =>
      e = .returned (.tuple #[]) ∧ WInv w' B (l ++ bs) ∧ w.grownBy w' (some B) := by
  rcases hsrc with ⟨sp, cap, rfl, rfl⟩ | ⟨h0, bb, off, cap, rfl, hc, hs⟩
  · rw [List.append_nil]
    exact write_none l sp cap B w (by simpa using hlen) hinv
  · exact write_some l bs bb off cap B w hk hB0 (hne _ _ _ rfl h0) hc hlen hinv hs
theorem sha_setup (w : World) (z : Array Value) (T : TypeId) : Below w.heap.size w ((w.alloc (.cells z T)).alloc (.cells zeroW 100))
    ∧ ((w.alloc (.cells z T)).alloc (.cells zeroW 100)).heap.size = w.heap.size + 2
    ∧ ((w.alloc (.cells z T)).alloc (.cells zeroW 100)).heap[w.heap.size + 1]? = some (.cells zeroW 100 (0, 0))
    ∧ ((w.alloc (.cells z T)).alloc (.cells zeroW 100)).heap[w.heap.size]? = some (.cells z T (0, 0)) :=
  ⟨((Below.refl _ _).alloc (Nat.le_refl _) _).alloc (by simp) _, by simp, heap_alloc2_new _ _ _, heap_alloc2_old _ _ _⟩
set_option maxHeartbeats 1000000 in
set_option maxRecDepth 100000 in
theorem sha_any (bs : List UInt8) (v : Value) (w : World) (hk : KTab w) (hsrc : SrcB w v bs) (hlen : bs.length ≤ 576460752303423487) :
    Calls Tryd.prog 41 #[v] w fun e w' => e = .returned (.agg ((sha bs).map bV).toArray) ∧ Below w.heap.size w w' := by
  have hzw := zero_writer
  have HK := Lib.hid hk
  have HS := Lib.hid hsrc
  clear hk hsrc
  go_enter Tryd.func41, Tryd.ntmps41
  go_wp2_with fail
  obtain ⟨f1, f2, f3, f4⟩ := sha_setup w (List.replicate 32 (bV 0)).toArray 24
  generalize hw1 : World.alloc _ _ = w1
  have e1 : ((w.alloc (.cells (List.replicate 32 (bV 0)).toArray 24)).alloc (.cells zeroW 100)) = w1 := hw1
  rw [e1] at f1 f2 f3 f4
  have hK1 := HK.out.below f1
  have hp := HK.out.pos
  clear hw1 e1 hzw
  refine (write_any [] bs v (w.heap.size + 1) w1 hK1 (by omega) (HS.out.below f1) (HS.out.ne (Nat.le_succ _)) (by simpa using Nat.le_trans hlen (by omega)) (zero_inv f3)).mono ?_
  rintro e w2 ⟨rfl, hI, hG⟩
  rw [List.nil_append] at hI
  have B2 := grownBy_below hG f1 (Nat.le_succ _) (by omega)
  have h2 : w2.heap[w.heap.size]? = some (.cells (List.replicate 32 (bV 0)).toArray 24 (0, 0)) := by
    rw [hG.block _ (by omega) (fun e => by have := Option.some.inj e; omega)]
    exact f4
  have hs2 : w.heap.size < w2.heap.size := by have := hG.size; omega
  have HI := Lib.hid hI
  have HB2 := Lib.hid B2
  have HH2 := Lib.hid h2
  clear f1 f2 f3 f4 hK1 hI hG B2 h2
  go_wp2_with fail
  refine (sum_any bs (w.heap.size + 1) w2 (HK.out.below HB2.out) hlen HI.out).mono ?_
  rintro e w3 ⟨rfl, hb3⟩
  have h3 : w3.heap[w.heap.size]? = some (.cells (List.replicate 32 (bV 0)).toArray 24 (0, 0)) := by rw [hb3.block _ hs2]; exact HH2.out
  have HH3 := Lib.hid h3
  have B3 := Lib.hid (HB2.out.trans (hb3.mono (by omega)))
  have hl : ((sha bs).map bV).toArray.size = 32 := by simp [sha_length]
  have HL := Lib.hid hl
  clear h3 hb3 hl
  go_wp2_with ((with_reducible show wpList _ _ _ _ _ _); refine wpList_store_row rfl 24 (.tmp 2) (.tmp 6) rfl w.heap.size ((sha bs).map bV).toArray rfl rfl 24 _ HH3.out (by rw [HL.out]; kernel_rfl) (by rw [HL.out]; rfl) (bV_one _) ?_; go_frame)
  refine bodyPost_ret (results_cell_row rfl _ _ w.heap.size 24 ((sha bs).map bV).toArray (0, 0) (.array 32 5) rfl (setRow_heap _ _ _ _ _ _ HH3.out) Tryd.underlying24 rfl (by rw [HL.out]; kernel_rfl)) rfl ⟨rfl, below_setRow B3.out (Nat.le_refl _) _⟩
end Go.Proofs.YtlpdgjneoahdeaaDoor.Sha

/-
  A set's digest: of all coins' bytes, in the order of their places; nothing that was there turns. Conditions: the set lies where the pointer says, at most 2^20 coins; the table of the rounds' words is there.
-/
namespace Go.Proofs.YtlpdgjneoahdeaaDoor.Sha
open Go Go.RowKit
theorem RwAt.kps {F : Nat → Prop} {k : Nat} {w w' : World} {v : Value} {L : List (List Value)} (h : RwAt k w v L) (hk : Kps F w w') (h0 : 0 < k) (hf : ∀ sp n cap, v = .slice (some sp) n cap → F sp.block) : RwAt k w' v L := by
  obtain ⟨ho, sp, cap, hv, hc, hr⟩ := h
  refine ⟨ho, sp, cap, hv, hc, fun hl => ?_⟩
  obtain ⟨b, o, hs, hx⟩ := hr hl
  refine ⟨b, o, hs, fun i x hi j u hj => ?_⟩
  have h1 := hx i x hi j u hj
  rw [World.cell?_of_block (hk.block b (World.block_lt_of_cell? w _ h1) (hf ⟨b, o, none⟩ L.length cap (by rw [hv, hs])))]
  exact h1
end Go.Proofs.YtlpdgjneoahdeaaDoor.Sha

/-
  What may be read first in a region that draws its order and whose last operations (Z) write into what was read: the condition on the world need not hold behind those. No conditions beyond those that each states.
-/
namespace Go.Proofs.YtlpdgjneoahdeaaDoor.Sha
open Go Go.RowKit
section
variable {P : Program} {md : Region.Mode} {ops : Array Oper} {Q : Exit → Act → World → Prop} {S T : World → Prop} {Z : List Nat}
/-- None of Z has come up. -/
def endOpen (Z : List Nat) (done : Array Bool) : Bool := Z.all fun z => !done.getD z true
/-- Any order; the condition behind each operation while none of Z has come up. -/
def EndAny (P : Program) (md : Region.Mode) (ops : Array Oper) (Q : Exit → Act → World → Prop) (S : World → Prop) (Z : List Nat) : Nat → Array Bool → Act → World → Prop
  | 0, done, a, w => Region.ready md ops done = [] ∧ Q .normal a w
  | f + 1, done, a, w => (Region.ready md ops done = [] → Q .normal a w) ∧ ∀ j ∈ Region.ready md ops done, wpOp P ops Q j (fun b u => (endOpen Z (done.setIfInBounds j true) = true → S u) ∧ EndAny P md ops Q S Z f (done.setIfInBounds j true) b u) a w
theorem EndAny.any : ∀ (f : Nat) (done : Array Bool) (a : Act) (w : World), EndAny P md ops Q S Z f done a w → wpAny P md ops Q f done a w
  | 0, _, _, _, h => h
  | f + 1, _, _, _, h => ⟨h.1, fun j hj => wpOp_mono (fun b u hb => EndAny.any f _ b u hb.2) (h.2 j hj)⟩
end
section
variable {P : Program} {md : Region.Mode} {l : List Oper} {Q : Exit → Act → World → Prop} {S : World → Prop} {Z : List Nat}
end
end Go.Proofs.YtlpdgjneoahdeaaDoor.Sha

/-
  Plain mathematics of a block's header: its bytes; read out of bytes it is what was written, cut off it ends too early, longer it has another shape; any 80 bytes are one header's. No conditions beyond those that each states.
-/
namespace Go.Proofs.YtlpdgjneoahdeaaDoor.Sha
open Go Go.RowKit
structure THd where
  ver : Nat
  prev : List UInt8
  root : List UInt8
  time : Nat
  work : Nat
  nonce : Nat
def HdOk (h : THd) : Prop := h.ver ≤ 4294967295 ∧ h.prev.length = 32 ∧ h.root.length = 32 ∧ h.time ≤ 4294967295 ∧ h.work ≤ 4294967295 ∧ h.nonce ≤ 4294967295
/-- A header's bytes. -/
def hdB (h : THd) : List UInt8 := leB h.ver 4 ++ h.prev ++ h.root ++ leB h.time 4 ++ leB h.work 4 ++ leB h.nonce 4
theorem hdB_length {h : THd} (hh : HdOk h) : (hdB h).length = 80 := by
  simp only [hdB, List.length_append, leB_length, hh.2.1, hh.2.2.1]
end Go.Proofs.YtlpdgjneoahdeaaDoor.Sha

/-
  What package tx is shown to answer of bytes as a transaction, as a hypothesis; what is read is small. No conditions.
-/
namespace Go.Proofs.YtlpdgjneoahdeaaDoor.Sha
open Go Go.RowKit
/-- What bytes are as a transaction. -/
structure ReadIs (bs : List UInt8) (t : TTx) (c : Nat) : Prop where
  eq : readTx bs = (t, c)
theorem tx_one {w : World} {t : TTx} {iv ov : Value} (h1 : InsAt w iv t.ins) (h2 : OutsAt w ov t.outs) : (txL t iv ov).toArray.all (·.oneCell') = true := by
  obtain ⟨_, _, rfl, _⟩ := h1
  obtain ⟨_, _, rfl, _⟩ := h2
  rw [Array.all_eq_true_iff_forall_mem]
  intro x hx
  simp [txL] at hx
  rcases hx with rfl | rfl | rfl | rfl <;> rfl
end Go.Proofs.YtlpdgjneoahdeaaDoor.Sha

/-
  A block's header as the model has it: 68 cells; where its parts lie. Conditions: digests of 32 bytes.
-/
namespace Go.Proofs.YtlpdgjneoahdeaaDoor.Sha
open Go Go.RowKit
/-- A header's cells. -/
def hdL (h : THd) : List Value := nV h.ver :: (h.prev.map bV ++ (h.root.map bV ++ [nV h.time, nV h.work, nV h.nonce]))
end Go.Proofs.YtlpdgjneoahdeaaDoor.Sha

/-
  The statements' own tree: a box with an own row of nodes; where a block is. Nothing that was there turns. Conditions: the tree lies where the pointer says, nodes as the model has them, at most 4096.
-/
namespace Go.Proofs.YtlpdgjneoahdeaaDoor.Sha
open Go Go.RowKit
/-- A node. -/
structure TNd where
  id : List UInt8
  h : THd
  parent : Int
  height : Int
  work : Nat
  bad : Bool
section
variable {w w' : World} {base a : Nat} {v : Value} {L : List TNd}
end
end Go.Proofs.YtlpdgjneoahdeaaDoor.Sha

/-
  spend.Lock answers a key's digest; spend.Opens tells whether a key of at most 80 bytes has that lock. Nothing that was there turns. Conditions: the bytes lie where the slice says, the table is there, fewer than 2^59 bytes.
-/
namespace Go.Proofs.YtlpdgjneoahdeaaDoor.Sha
open Go Go.RowKit
set_option maxRecDepth 100000 in
theorem lock_any (bs : List UInt8) (v : Value) (w : World) (hk : KTab w) (hsrc : SrcB w v bs) (hlen : bs.length ≤ 576460752303423487) :
    Calls Tryd.prog 37 #[v] w fun e w' => e = .returned (.agg ((sha bs).map bV).toArray) ∧ Below w.heap.size w w' := by
  have hl : ((sha bs).map bV).toArray.size = 32 := by simp [sha_length]
  have HL := Lib.hid hl
  have HK := Lib.hid hk
  have HS := Lib.hid hsrc
  clear hk hsrc hl
  go_enter Tryd.func37, Tryd.ntmps37
  go_wp2_with fail
  have b1 : Below w.heap.size w (w.alloc (.cells (List.replicate 32 (bV 0)).toArray 24)) := (Below.refl _ _).alloc (Nat.le_refl _) _
  have f1 : (w.alloc (.cells (List.replicate 32 (bV 0)).toArray 24)).heap[w.heap.size]? = some (.cells (List.replicate 32 (bV 0)).toArray 24 (0, 0)) := heap_alloc_new _ _
  have z1 : w.heap.size < (w.alloc (.cells (List.replicate 32 (bV 0)).toArray 24)).heap.size := by simp
  generalize hw1 : World.alloc _ _ = w1
  have e1 : w.alloc (.cells (List.replicate 32 (bV 0)).toArray 24) = w1 := hw1
  rw [e1] at b1 f1 z1
  clear hw1 e1
  refine (sha_any bs v w1 (HK.out.below b1) (HS.out.below b1) hlen).mono ?_
  rintro e w2 ⟨rfl, hb2⟩
  have f2 : w2.heap[w.heap.size]? = some (.cells (List.replicate 32 (bV 0)).toArray 24 (0, 0)) := row_below f1 hb2
  have F2 := Lib.hid f2
  have B2 := Lib.hid (b1.trans (hb2.mono b1.size))
  clear f2 hb2 f1 b1 z1
  go_wp2_with ((with_reducible show wpList _ _ _ _ _ _); refine wpList_store_row rfl 24 (.tmp 2) (.tmp 4) rfl w.heap.size ((sha bs).map bV).toArray rfl rfl 24 _ F2.out (by rw [HL.out]; kernel_rfl) (by rw [HL.out]; rfl) (bV_one _) ?_; go_frame)
  refine bodyPost_ret (results_cell_row rfl _ _ w.heap.size 24 ((sha bs).map bV).toArray (0, 0) (.array 32 5) rfl (setRow_heap _ _ _ _ _ _ F2.out) Tryd.underlying24 rfl (by rw [HL.out]; kernel_rfl)) rfl ⟨rfl, below_setRow B2.out (Nat.le_refl _) _⟩
/-- Opens. -/
def opensL (bs l : List UInt8) : Bool := decide (bs.length ≤ 80) && decide (sha bs = l)
set_option maxRecDepth 100000 in
theorem opens_all (bs l : List UInt8) (v : Value) (w : World) (hk : KTab w) (hsrc : SrcB w v bs) (hl : l.length = 32) (b : Bool) (hb : b = opensL bs l) :
    Calls Tryd.prog 22 #[v, .agg (l.map bV).toArray] w fun e w' => e = .returned (.bool b) ∧ Below w.heap.size w w' := by
  obtain ⟨sp, cap, rfl⟩ := hsrc.shape
  have hs : (l.map bV).toArray.size = 32 := by simp [hl]
  have HLS := Lib.hid hs
  have HL := Lib.hid hl
  have HK := Lib.hid hk
  have HS := Lib.hid hsrc
  have HB := Lib.hid hb
  obtain ⟨n, hn⟩ : ∃ n, n = bs.length := ⟨_, rfl⟩
  have HN := Lib.hid hn
  rw [← hn] at HS ⊢
  clear hk hsrc hl hb hs
  go_enter Tryd.func22, Tryd.ntmps22
  go_upto_region 1 with fail
  have F := Lib.hid (heap_alloc_new w (.cells (l.map bV).toArray 24 (0, 0)))
  have B := Lib.hid ((Below.refl w.heap.size w).alloc (Nat.le_refl _) (.cells (l.map bV).toArray 24 (0, 0)))
  generalize hw1 : World.alloc _ _ = w1
  rw [hw1] at F B
  clear hw1
  refine wp_region_below (by kernel_rfl) (by kernel_rfl) w1 (Below.refl _ _) ?_
  by_cases h80 : n ≤ 80
  · have hd : decide ((n : Int) ≤ 80) = true := decide_eq_true (by omega)
    have H80 := Lib.hid h80
    have hlen : bs.length ≤ 576460752303423487 := by omega
    clear h80 hn
    go_big_quiet_step ((intro _; rfl))
    go_big_quiet_step ((intro _; rfl))
    go_big_quiet_step ((intro _; rfl))
    go_big_quiet_step ((intro _; rfl))
    go_big_quiet_step ((intro _; rfl))
    go_big_quiet_step ((intro hw'; exact cls hw' (lock_any bs _ _ ((HK.out.below B.out).below hw') ((HS.out.below B.out).below hw') hlen)))
    go_big_quiet_want
    refine quiet_load_row 24 (.tmp 3) rfl w.heap.size rfl 24 (l.map bV).toArray (0, 0) _ (fun w' hw' => row_below F.out hw') Tryd.underlying24 rfl (by rw [HLS.out]; kernel_rfl) ?_
    go_frame
    go_big_quiet_on
    go_big_quiet_want
    refine quiet_eql_hash (.tmp 10) (.tmp 11) _ rfl (sha bs) l (sha_length _) HL.out rfl rfl b (by rw [HB.out, opensL, ← HN.out, decide_eq_true H80.out, Bool.true_and]) ?_
    go_frame
    go_big_quiet_on
    repeat (go_big_quiet_step ((intro _; rfl)))
    refine wpQuiet_nil ?_
    intro w7 hw7
    have HW7 := Lib.hid (B.out.trans (hw7.mono B.out.size))
    clear hw7
    go_wp2_with fail
    go_ret
    exact ⟨rfl, HW7.out⟩
  · have hd : decide ((n : Int) ≤ 80) = false := decide_eq_false (by omega)
    have H80 := Lib.hid h80
    clear h80 hn
    repeat (go_big_quiet_step ((intro _; rfl)))
    refine wpQuiet_nil ?_
    intro w7 hw7
    have HW7 := Lib.hid (B.out.trans (hw7.mono B.out.size))
    clear hw7
    go_wp2_with fail
    go_ret
    exact ⟨by rw [HB.out, opensL, ← HN.out, decide_eq_false H80.out]; rfl, HW7.out⟩
end Go.Proofs.YtlpdgjneoahdeaaDoor.Sha

/-
  Small functions of the statements' own SHA-256: a word turned right, the table of the rounds' words, as the chapter gives them. No conditions.
-/
namespace Go.Proofs.YtlpdgjneoahdeaaDoor.Sha
open Go Go.RowKit
theorem right_fact (x : UInt32) (n : Nat) (h1 : 1 ≤ n) (h2 : n ≤ 31) : bits .or .u32 (wv x / 2 ^ n) (wv x * 2 ^ (32 - n) % 4294967296) = wv (rotr x n) := by
  rw [← IntKind.wrap_u32', wv_shl x _ (by omega), wv_shr x n (by omega), wv_or]
  rfl
set_option maxRecDepth 100000 in
theorem right_any (x : UInt32) (n : Nat) (k : Int) (hk : k = (n : Int)) (h1 : 1 ≤ n) (h2 : n ≤ 31) (w : World) :
    Calls Tryd.prog 36 #[.int .u32 (wv x), .int .u64 k] w fun e w' => e = .returned (.int .u32 (wv (rotr x n))) ∧ w = w' := by
  subst hk
  go_enter Tryd.func36, Tryd.ntmps36
  go_wp2
  go_ret
  exact ⟨ret_int (right_fact x n h1 h2), rfl⟩
theorem right_z (x : UInt32) (k : Int) (h1 : 1 ≤ k) (h2 : k ≤ 31) (w : World) :
    Calls Tryd.prog 36 #[.int .u32 (wv x), .int .u64 k] w fun e w' => e = .returned (.int .u32 (wv (rotr x k.toNat))) ∧ w = w' :=
  right_any x k.toNat k (by omega) (by omega) (by omega) w
theorem wv_sum3 (a b c : UInt32) : (wv a + wv b + wv c) % 4294967296 = wv (a + b + c) := by rw [← wv_sum, ← wv_sum]; omega
theorem wv_sum4 (a b c d : UInt32) : (wv a + wv b + wv c + wv d) % 4294967296 = wv (a + b + c + d) := by rw [← wv_sum, ← wv_sum3]; omega
theorem wv_not (x : UInt32) : bits .xor .u32 IntKind.u32.max (wv x) = wv (~~~x) := by
  rw [show IntKind.u32.max = wv 4294967295 from rfl, wv_xor, show (4294967295 : UInt32) = -1 from rfl, UInt32.neg_one_xor]
set_option maxRecDepth 100000 in
theorem k_any (w : World) : Calls Tryd.prog 35 #[] w fun e w' => e = .returned (.slice (some ⟨w.heap.size, 0, none⟩) 64 64) ∧ w'.heap[w.heap.size]? = some (.cells (kList.map wV).toArray 27 (0, 0)) ∧ Below w.heap.size w w' := by
  go_enter Tryd.func35, Tryd.ntmps35
  go_wp2
  go_ret
  exact ⟨rfl, by rw [heap_alloc_new]; rfl, (Below.refl _ _).alloc (Nat.le_refl _) _⟩
end Go.Proofs.YtlpdgjneoahdeaaDoor.Sha
