/-
  Texts of this proof joined into one file: CmpHash, ErrIs, RdrState, NumMath, Par, HdMath, Pt, ArgsPt, TxData, TxMath. What each holds, and under which conditions, its own first sentence tells.
-/
import Derived.Deep.RegionLaw
import Derived.Deep.MidRow
import Derived.Stop.BytesEq
import Derived.Test.YtcghbogkplcohaaDoorMg03
import Derived.Test.YtcghbogkplcohaaDoorMg01
/-
  A Reader's Hash answers the next 32 bytes, or no digest, and leaves what the chapter says. Conditions: the Reader stands as it should; the three errors are there.
-/
namespace Go.Proofs.YtcghbogkplcohaaDoor.Sha
open Go Go.RowKit
/-- Bytes filled up to a digest's 32. -/
def padH (x : List UInt8) : List UInt8 := x ++ List.replicate (32 - x.length) 0
theorem padH_length {x : List UInt8} (h : x.length ≤ 32) : (padH x).length = 32 := by simp [padH]; omega
theorem splice_zero (x : List UInt8) (_ : x.length ≤ 32) : splice (List.replicate 32 (bV 0)) 0 (x.map bV) = (padH x).map bV := by
  have e : List.drop x.length (List.replicate 32 (bV 0)) = List.replicate (32 - x.length) (bV 0) := List.drop_replicate ..
  unfold splice padH
  rw [List.length_map, Nat.zero_add, e, List.take_zero, List.nil_append, List.map_append, List.map_replicate]
theorem hash_end {w w1 w2 : World} {r : Nat} {o : Obj} (_ : r < w.heap.size) (g1 : (w.alloc o).drew.grownBy w1 (some r)) (h : Below w.heap.size w1 w2) : w.grownBy w2 (some r) := by
  refine ⟨h.os.trans g1.os, h.tape.trans g1.tape, h.output.trans g1.output, ?_, fun k hk hne => ?_⟩
  · have h1 := g1.size
    have h2 := h.size
    have h3 : (w.alloc o).drew.heap.size = w.heap.size + 1 := by simp [World.drew]
    omega
  · rw [h.block k hk, g1.block k (by simp [World.drew]; omega) hne]
    exact ((Below.refl w.heap.size w).alloc (Nat.le_refl _) o).drew.block k hk
theorem grown_then {w w2 w3 : World} {r : Nat} (h : w.grownBy w2 (some r)) (hb : Below w.heap.size w2 w3) : w.grownBy w3 (some r) :=
  ⟨hb.os.trans h.os, hb.tape.trans h.tape, hb.output.trans h.output, Nat.le_trans h.size hb.size, fun k hk hne => by rw [hb.block k hk]; exact h.block k hk hne⟩
theorem hash_row {w w1 : World} {r : Nat} {o : Obj} (hr : r < w.heap.size) (g1 : (w.alloc o).drew.grownBy w1 (some r)) : w1.heap[w.heap.size]? = some o := by
  rw [g1.block w.heap.size (by simp [World.drew]) (fun e => by have := Option.some.inj e; omega)]
  exact heap_alloc_new _ _
theorem src_cells {w : World} {sp : Option Addr} {n cap : Nat} {bs : List UInt8} (h : SrcB w (.slice sp n cap) bs) (g off : Nat) (h0 : 0 < (bs.map bV).length) : (some ⟨g, off, none⟩ : Option Addr) = some ⟨g, off, none⟩ ∧ ∃ ad, sp = some ad ∧ ∀ j v, (bs.map bV)[j]? = some v → w.cell? (ad.add j) = some v := by
  refine ⟨rfl, ?_⟩
  rcases h with ⟨sp', cap', hv, rfl⟩ | ⟨h1, bb, o, cap', hv, _, hc⟩
  · simp at h0
  · cases hv
    refine ⟨_, rfl, fun j v hj => ?_⟩
    rw [List.getElem?_map] at hj
    obtain ⟨b, hb, rfl⟩ := Option.map_eq_some_iff.1 hj
    have hlt := (List.getElem?_eq_some_iff.1 hb).1
    rw [Addr.add_mid, hc j hlt]
    simp [bV, List.getD, hb]
theorem copy_fact {w1 : World} {g n cap : Nat} {sp : Option Addr} {x : List UInt8} {T : TypeId} (hs : SrcB w1 (.slice sp n cap) x) (hn : n = x.length) (hx : x.length ≤ 32) (hg : w1.heap[g]? = some (.cells (List.replicate 32 (bV 0)).toArray T (0, 0))) :
    ∃ w2, (∀ ty, (Builtin.copy_ #[40, 40] ty #[.slice (some ⟨g, 0, none⟩) 32 32, .slice sp n cap]).run Tryd.prog w1 = .ok (goInt n) w2) ∧ w2.heap[g]? = some (.cells ((padH x).map bV).toArray T (0, 0)) ∧ Below g w1 w2 := by
  have hsz : (Tryd.prog.info? 5).map (·.size) = some 1 := by kernel_rfl
  have hmin : Nat.min n 32 = n := Nat.min_eq_left (by omega)
  by_cases h0 : n = 0
  · have hx0 : x = [] := List.eq_nil_of_length_eq_zero (by omega)
    refine ⟨w1, fun ty => ?_, ?_, Below.refl _ _⟩
    · rw [h0]
      exact run_copy_none w1 40 40 ty 5 (some ⟨g, 0, none⟩) sp 32 32 0 cap Tryd.underlying40 hsz rfl
    · rw [hx0, hg]
      simp [padH]
  · obtain ⟨-, ad, rfl, hc⟩ := src_cells hs g 0 (by simp; omega)
    refine ⟨_, fun ty => ?_, setRow_heap w1 g _ _ _ _ hg, below_setRow (Below.refl _ _) (Nat.le_refl _) _⟩
    have h := run_copy_row (P := Tryd.prog) w1 40 40 ty 5 g 0 32 32 ad n cap _ T (x.map bV) Tryd.underlying40 hsz hg (by rw [List.length_map, hmin, hn]) hc (by simp; omega) (bV_one' _)
    have e := splice_zero x hx
    unfold splice at e
    rw [List.length_map] at e h
    rw [← hn] at h e
    rw [← List.append_assoc] at e
    simp only [] at h
    rw [e] at h
    exact h
end Go.Proofs.YtcghbogkplcohaaDoor.Sha

/-
  The statements' own Fault, Same and Is: an error of package api, or none, is told by its number. Conditions: the errors are there, each its own.
-/
namespace Go.Proofs.YtcghbogkplcohaaDoor.Sha
open Go Go.RowKit
/-- A fault with nothing around it. -/
def fC (c : Int) : List Value := [.int .i64 c, .bool false, .int .i64 0, .bool false, .int .i64 0]
/-- The number of an error. -/
def numE : Nat → Int
  | 0 => 0
  | q + 1 => ((101 + q : Nat) : Int)
set_option maxRecDepth 100000 in
theorem none_any (w : World) : Calls Tryd.prog 53 #[] w fun e w' => e = .returned (.agg (fC 0).toArray) ∧ Below w.heap.size w w' := by
  go_enter Tryd.func53, Tryd.ntmps53
  go_wp2
  refine bodyPost_ret (v := .agg (fC 0).toArray) (by simp [results, Tryd.results53, go_sem]; rfl) rfl ⟨rfl, ?_⟩
  exact (Below.refl _ _).alloc (Nat.le_refl _) _
set_option maxRecDepth 100000 in
theorem bare_any (c : Int) (w : World) : Calls Tryd.prog 25 #[.int .i64 c] w fun e w' => e = .returned (.agg (fC c).toArray) ∧ Below w.heap.size w w' := by
  go_enter Tryd.func25, Tryd.ntmps25
  go_wp2
  refine bodyPost_ret (v := .agg (fC c).toArray) (by simp [results, Tryd.results25, go_sem]; rfl) rfl ⟨rfl, ?_⟩
  exact (Below.refl _ _).alloc (Nat.le_refl _) _
theorem fault_all (c : Int) : (fC c).toArray.all (·.oneCell') = true := by
  rw [Array.all_eq_true_iff_forall_mem]
  intro x hx
  simp [fC] at hx
  rcases hx with rfl | rfl | rfl | rfl | rfl <;> rfl
set_option maxRecDepth 100000 in
theorem fault_nil (w : World) : Calls Tryd.prog 40 #[.nilIface] w fun e w' => e = .returned (.agg (fC 0).toArray) ∧ Below w.heap.size w w' := by
  go_enter Tryd.func40, Tryd.ntmps40
  go_wp2_with fail
  refine (none_any _).mono ?_
  rintro e w1 ⟨rfl, hb1⟩
  obtain ⟨hb2, hr, hlt⟩ := twice_setup hb1
  have HB1 := Lib.hid hb2
  have HR := Lib.hid hr
  clear hb1 hb2 hr
  go_wp2_with ((with_reducible show wpList _ _ _ _ _ _); refine wpList_store_row rfl 68 (.tmp 2) (.tmp 9) rfl w.heap.size (fC 0).toArray rfl rfl 68 _ HR.out (by kernel_rfl) rfl (fault_all _) ?_; go_frame)
  refine bodyPost_ret (results_cell_row rfl _ _ w.heap.size 68 (fC 0).toArray (0, 0) _ rfl (setRow_heap _ _ _ _ _ _ HR.out) Tryd.underlying68 rfl (by kernel_rfl)) rfl ⟨rfl, below_setRow HB1.out (Nat.le_refl _) _⟩
set_option maxRecDepth 100000 in
theorem fault_err (E : Nat → Addr) (q : Nat) (w : World) (hE : Errs w E) (hq : q < 25) : Calls Tryd.prog 40 #[errV E (q + 1)] w fun e w' => e = .returned (.agg (fC ((101 + q : Nat) : Int)).toArray) ∧ Below w.heap.size w w' := by
  obtain ⟨kk, hkk⟩ : ∃ kk : Int, kk = ((101 + q : Nat) : Int) := ⟨_, rfl⟩
  rw [← hkk]
  have hta : ∀ W, (Instr.typeAssert (.iface 127 (.pointer (some (E q)))) 47 79 true).run Tryd.prog W = .ok (.tuple #[.pointer none, .bool false]) W := fun W => by kernel_rfl
  have hb0 : ∀ o, Below w.heap.size w (w.alloc o) := fun o => (Below.refl _ _).alloc (Nat.le_refl _) o
  have HS : Hid (∀ o, Calls Tryd.prog 54 #[errV E (q + 1)] (w.alloc o) fun e w' => e = .returned (.int .i64 kk) ∧ Below (w.alloc o).heap.size (w.alloc o) w') := fun o => sentinel_any E q kk hkk _ (hE.below (hb0 o)) hq
  clear hb0 hkk hE
  show Calls Tryd.prog 40 #[.iface 127 (.pointer (some (E q)))] w _
  go_enter Tryd.func40, Tryd.ntmps40
  go_wp2_with fail
  refine (HS.out _).mono ?_
  rintro e w1 ⟨rfl, hb1⟩
  obtain ⟨hb2, hr, hlt⟩ := twice_setup hb1
  have HB0 := Lib.hid hb2
  have HR0 := Lib.hid hr
  clear hb1 hb2 hr hta
  go_wp2_with fail
  refine (bare_any kk _).mono ?_
  rintro e w2 ⟨rfl, hb2⟩
  have HR := Lib.hid ((hb2.block _ hlt).trans HR0.out)
  have HB1 := Lib.hid (HB0.out.trans (hb2.mono HB0.out.size))
  clear hb2 HB0 HR0
  go_wp2_with ((with_reducible show wpList _ _ _ _ _ _); refine wpList_store_row rfl 68 (.tmp 2) (.tmp 19) rfl w.heap.size (fC kk).toArray rfl rfl 68 _ HR.out (by kernel_rfl) rfl (fault_all _) ?_; go_frame)
  refine bodyPost_ret (results_cell_row rfl _ _ w.heap.size 68 (fC kk).toArray (0, 0) _ rfl (setRow_heap _ _ _ _ _ _ HR.out) Tryd.underlying68 rfl (by kernel_rfl)) rfl ⟨rfl, below_setRow HB1.out (Nat.le_refl _) _⟩
set_option maxRecDepth 100000 in
theorem samefault_any (a c : Int) (b : Bool) (hb : b = (a == c)) (w : World) : Calls Tryd.prog 39 #[.agg (fC a).toArray, .agg (fC c).toArray] w fun e w' => e = .returned (.bool b) ∧ Below w.heap.size w w' := by
  show Calls Tryd.prog 39 #[.agg #[.int .i64 a, .bool false, .int .i64 0, .bool false, .int .i64 0], .agg #[.int .i64 c, .bool false, .int .i64 0, .bool false, .int .i64 0]] w _
  cases b with
  | true =>
    have hq : (a == c) = true := hb.symm
    clear hb
    go_enter Tryd.func39, Tryd.ntmps39
    go_wp2
    go_ret
    exact ⟨rfl, ((Below.refl _ _).alloc (Nat.le_refl _) _).alloc (by simp) _⟩
  | false =>
    have hq : (a == c) = false := hb.symm
    clear hb
    go_enter Tryd.func39, Tryd.ntmps39
    go_wp2
    go_ret
    exact ⟨rfl, ((Below.refl _ _).alloc (Nat.le_refl _) _).alloc (by simp) _⟩
theorem fault_any (E : Nat → Addr) (c : Nat) (w : World) (hE : Errs w E) (hc : c ≤ 25) : Calls Tryd.prog 40 #[errV E c] w fun e w' => e = .returned (.agg (fC (numE c)).toArray) ∧ Below w.heap.size w w' := by
  cases c with
  | zero => exact fault_nil w
  | succ q => exact fault_err E q w hE (by omega)
set_option maxRecDepth 100000 in
theorem same_err (E : Nat → Addr) (c : Nat) (k : Int) (b : Bool) (hb : b = (numE c == k)) (w : World) (hE : Errs w E) (hc : c ≤ 25) :
    Calls Tryd.prog 24 #[errV E c, .agg (fC k).toArray] w fun e w' => e = .returned (.bool b) ∧ Below w.heap.size w w' := by
  obtain ⟨x, hx⟩ : ∃ x, x = errV E c := ⟨_, rfl⟩
  obtain ⟨n, hn⟩ : ∃ n, n = numE c := ⟨_, rfl⟩
  have HF : Hid (∀ W, Below w.heap.size w W → Calls Tryd.prog 40 #[x] W fun e w' => e = .returned (.agg (fC n).toArray) ∧ Below W.heap.size W w') := fun W hW => by rw [hx, hn]; exact fault_any E c W (hE.below hW) hc
  have HBB : Hid (b = (n == k)) := by show _ = _; rw [hn]; exact hb
  rw [← hx]
  clear hx hn hb hE hc
  go_enter Tryd.func24, Tryd.ntmps24
  go_wp2_with fail
  have e1 := heap_alloc_new w (.cells (fC k).toArray 68)
  have b1 : Below w.heap.size w (w.alloc (.cells (fC k).toArray 68)) := (Below.refl _ _).alloc (Nat.le_refl _) _
  generalize hw1 : World.alloc _ _ = w1
  have e0 : w.alloc (.cells (fC k).toArray 68) = w1 := hw1
  rw [e0] at e1 b1
  have E1 := Lib.hid e1
  have B1 := Lib.hid b1
  clear e0 hw1 e1 b1
  refine wp_region_below (by kernel_rfl) (by kernel_rfl) w1 (Below.refl _ _) ?_
  go_big_quiet_step ((intro _; rfl))
  go_big_quiet_step ((intro hw'; exact cls hw' (HF.out _ (B1.out.trans (hw'.mono B1.out.size)))))
  go_big_quiet_want
  refine quiet_load_row 68 (.tmp 3) rfl w.heap.size rfl 68 (fC k).toArray (0, 0) _ (fun w' hw' => row_below E1.out hw') Tryd.underlying68 rfl (by kernel_rfl) ?_
  go_frame
  go_big_quiet_on
  go_big_quiet_step ((intro hw'; exact cls hw' (samefault_any n k b HBB.out _)))
  go_big_quiet_step ((intro _; rfl))
  refine wpQuiet_nil ?_
  intro w2 hw2
  have B2 := Lib.hid (B1.out.trans (hw2.mono B1.out.size))
  clear hw2
  go_wp2_with fail
  go_ret
  exact ⟨rfl, B2.out⟩
set_option maxRecDepth 100000 in
/-- Is the error the one of this number? -/
theorem is_any (E : Nat → Addr) (c : Nat) (k : Int) (b : Bool) (hb : b = (numE c == k)) (w : World) (hE : Errs w E) (hc : c ≤ 25) :
    Calls Tryd.prog 11 #[errV E c, .int .i64 k] w fun e w' => e = .returned (.bool b) ∧ Below w.heap.size w w' := by
  obtain ⟨x, hx⟩ : ∃ x, x = errV E c := ⟨_, rfl⟩
  have HF : Hid (∀ W, Below w.heap.size w W → Calls Tryd.prog 24 #[x, .agg (fC k).toArray] W fun e w' => e = .returned (.bool b) ∧ Below W.heap.size W w') := fun W hW => by rw [hx]; exact same_err E c k b hb W (hE.below hW) hc
  rw [← hx]
  clear hx hb hE hc
  go_enter Tryd.func11, Tryd.ntmps11
  go_wp2_with fail
  refine (bare_any k _).mono ?_
  rintro e w1 ⟨rfl, hb1⟩
  have B1 := Lib.hid hb1
  clear hb1
  go_wp2_with fail
  refine (HF.out _ B1.out).mono ?_
  rintro e w2 ⟨rfl, hb2⟩
  have B2 := Lib.hid (B1.out.trans (hb2.mono B1.out.size))
  clear hb2
  go_wp2_with fail
  go_ret
  exact ⟨rfl, B2.out⟩
end Go.Proofs.YtcghbogkplcohaaDoor.Sha

/-
  A Reader in a walk: how it stands behind each step, whatever else makes memory. Conditions: those that each states.
-/
namespace Go.Proofs.YtcghbogkplcohaaDoor.Sha
open Go Go.RowKit
variable {E : Nat → Addr} {m r c d : Nat} {W w w' : World} {bs b : List UInt8}
/-- A literal of bytes. -/
theorem lit_src {w : World} (l : List UInt8) (T : TypeId) (h0 : 0 < l.length) : SrcB (w.alloc (.cells (l.map bV).toArray T)) (.slice (some ⟨w.heap.size, 0, none⟩) l.length l.length) l := src_row rfl h0 (heap_alloc_new _ _)
theorem mask_nat (n k : Nat) (hn : n < 18446744073709551616) (hk : 2 ^ k - 1 < 18446744073709551616) : bits .and .u64 (n : Int) ((2 ^ k - 1 : Nat) : Int) = ((n % 2 ^ k : Nat) : Int) := by
  rw [u64_and_nat _ _ hn hk, Nat.and_two_pow_sub_one_eq_mod]
/-- A row that is not the Reader's. -/
theorem row_grown {w w' : World} {g r : Nat} {o : Obj} (h : w.heap[g]? = some o) (hg : w.grownBy w' (some r)) (hne : r < g) : w'.heap[g]? = some o := by
  rw [hg.block g (Array.getElem?_eq_some_iff.1 h).1 (fun e => by have := Option.some.inj e; omega)]
  exact h
theorem takeL_err (k : Nat) (bs : List UInt8) (c : Nat) (h : c ≠ 0) : takeL k bs c = ([], bs, c) := by unfold takeL; rw [if_pos h]
theorem takeL_end (k : Nat) (bs : List UInt8) (h : bs.length < k) : takeL k bs 0 = ([], bs, 1) := by unfold takeL; rw [if_neg (by omega), if_pos h]
theorem takeL_ok (k : Nat) (bs : List UInt8) (h : k ≤ bs.length) : takeL k bs 0 = (bs.take k, bs.drop k, 0) := by unfold takeL; rw [if_neg (by omega), if_neg (by omega)]
theorem takeL_app (xs ys : List UInt8) (k : Nat) (h : xs.length = k) : takeL k (xs ++ ys) 0 = (xs, ys, 0) := by
  subst h
  rw [takeL_ok _ _ (by simp)]
  simp
theorem numL_err (most : Nat) (bs : List UInt8) (c : Nat) (h : c ≠ 0) : numL most bs c = (0, bs, c) := by
  have e : widN (leN []) = 0 := rfl
  unfold numL
  simp only [takeL_err _ _ _ h, e, if_pos]
  rw [if_pos h]
end Go.Proofs.YtcghbogkplcohaaDoor.Sha

/-
  Plain mathematics of a Reader's Num: what it answers of bytes that Put wrote, that are cut off, that are too many. No conditions beyond those that each states.
-/
namespace Go.Proofs.YtcghbogkplcohaaDoor.Sha
open Go Go.RowKit
theorem leN_one (x : UInt8) : leN [x] = x.toNat := by simp [leN]
theorem takeL_one (x : UInt8) (ys : List UInt8) : takeL 1 (x :: ys) 0 = ([x], ys, 0) := takeL_app [x] ys 1 rfl
/-- A mark, and the bytes that it asks for. -/
theorem numL_mark (most : Nat) (f : UInt8) (k : Nat) (xs tail : List UInt8) (hk : widN f.toNat = k) (h0 : 0 < k) (hl : xs.length = k) :
    numL most (f :: (xs ++ tail)) 0 = if lenN (leN xs) ≠ 1 + k then (0, tail, 2) else if most < leN xs then (0, tail, 4) else (leN xs, tail, 0) := by
  have hk0 : ¬ k = 0 := by omega
  unfold numL
  simp only [takeL_one, leN_one, hk, if_neg hk0, takeL_app xs tail k hl]
  rw [if_neg (show ¬ (0 : Nat) ≠ 0 by omega)]
/-- A mark, and too few bytes behind it. -/
theorem numL_short (most : Nat) (f : UInt8) (k : Nat) (xs : List UInt8) (hk : widN f.toNat = k) (hl : xs.length < k) : numL most (f :: xs) 0 = (0, xs, 1) := by
  have hk0 : ¬ k = 0 := by omega
  unfold numL
  simp only [takeL_one, leN_one, hk, if_neg hk0, takeL_end k xs hl]
  rw [if_pos (show (1 : Nat) ≠ 0 by omega)]
theorem numL_nil (most : Nat) : numL most [] 0 = (0, [], 1) := by
  unfold numL
  have e : takeL 1 [] 0 = ([], [], 1) := takeL_end 1 [] (by simp)
  have e2 : widN (leN []) = 0 := rfl
  simp only [e, e2, if_pos]
  rw [if_pos (by omega)]
/-- A first byte that is the number. -/
theorem numL_small (most : Nat) (f : UInt8) (tail : List UInt8) (hf : f.toNat < 253) : numL most (f :: tail) 0 = if most < f.toNat then (0, tail, 4) else (f.toNat, tail, 0) := by
  have hk : widN f.toNat = 0 := by unfold widN; rw [if_neg (by omega), if_neg (by omega), if_neg (by omega)]
  have hl : lenN f.toNat = 1 := by unfold lenN; rw [if_pos hf]
  unfold numL
  simp only [takeL_one, leN_one, hk, if_pos]
  rw [if_neg (show ¬ (0 : Nat) ≠ 0 by omega), hl, if_neg (show ¬ (1 : Nat) ≠ 1 + 0 by omega)]
/-- What Put wrote is read again. -/
theorem numL_put (most n : Nat) (tail : List UInt8) (hn : n ≤ 18446744073709551615) : numL most (putL n ++ tail) 0 = if most < n then (0, tail, 4) else (n, tail, 0) := by
  unfold putL
  by_cases h1 : n < 253
  · rw [if_pos h1]
    have e : (UInt8.ofNat n).toNat = n := by rw [UInt8.toNat_ofNat']; omega
    have h := numL_small most (UInt8.ofNat n) tail (by omega)
    rw [e] at h
    exact h
  rw [if_neg h1]
  by_cases h2 : n ≤ 65535
  · rw [if_pos h2]
    have e : leN (leB n 2) = n := leN_leB_of (by omega)
    have hl : lenN n = 3 := by unfold lenN; rw [if_neg h1, if_pos h2]
    have h := numL_mark most 253 2 (leB n 2) tail rfl (by omega) (leB_length n 2)
    rw [e, hl, if_neg (by omega)] at h
    exact h
  rw [if_neg h2]
  by_cases h3 : n ≤ 4294967295
  · rw [if_pos h3]
    have e : leN (leB n 4) = n := leN_leB_of (by omega)
    have hl : lenN n = 5 := by unfold lenN; rw [if_neg h1, if_neg h2, if_pos h3]
    have h := numL_mark most 254 4 (leB n 4) tail rfl (by omega) (leB_length n 4)
    rw [e, hl, if_neg (by omega)] at h
    exact h
  · rw [if_neg h3]
    have e : leN (leB n 8) = n := leN_leB_of (by omega)
    have hl : lenN n = 9 := by unfold lenN; rw [if_neg h1, if_neg h2, if_neg h3]
    have h := numL_mark most 255 8 (leB n 8) tail rfl (by omega) (leB_length n 8)
    rw [e, hl, if_neg (by omega)] at h
    exact h
/-- What Put wrote, cut off: it ends too early. -/
theorem numL_cut (most n k : Nat) (hk : k < lenN n) : ∃ b, numL most ((putL n).take k) 0 = (0, b, 1) := by
  cases k with
  | zero => exact ⟨[], by rw [List.take_zero]; exact numL_nil most⟩
  | succ k =>
    rcases lenN_eq n with ⟨e, _⟩ | ⟨e, p⟩ | ⟨e, p⟩ | ⟨e, p⟩
    · omega
    · rw [p, List.take_succ_cons]
      exact ⟨_, numL_short most 253 2 _ rfl (by rw [List.length_take, leB_length]; omega)⟩
    · rw [p, List.take_succ_cons]
      exact ⟨_, numL_short most 254 4 _ rfl (by rw [List.length_take, leB_length]; omega)⟩
    · rw [p, List.take_succ_cons]
      exact ⟨_, numL_short most 255 8 _ rfl (by rw [List.length_take, leB_length]; omega)⟩
end Go.Proofs.YtcghbogkplcohaaDoor.Sha

/-
  Plain mathematics of readers of bytes, one behind the other: what was written is read again; cut off it ends too early; what is read has just these bytes. No conditions beyond those that each states.
-/
namespace Go.Proofs.YtcghbogkplcohaaDoor.Sha
open Go Go.RowKit
/-- A reader of bytes: what it answers, what it leaves, what it met. -/
abbrev Par (α : Type) := List UInt8 → Nat → α × List UInt8 × Nat
def thenP {α β : Type} (p : Par α) (q : α → Par β) : Par β := fun bs c => q (p bs c).1 (p bs c).2.1 (p bs c).2.2
def mapP {α β : Type} (f : α → β) (p : Par α) : Par β := fun bs c => (f (p bs c).1, (p bs c).2)
def manyP {α : Type} (p : Par α) : Nat → Par (List α)
  | 0, bs, c => ([], bs, c)
  | n + 1, bs, c => if c ≠ 0 then ([], bs, c) else thenP p (fun a => mapP (a :: ·) (manyP p n)) bs c
/-- Bytes that it reads whole, whatever stands behind; cut off, they end too early. -/
def Good {α : Type} (p : Par α) (a : α) (x : List UInt8) : Prop := (∀ y, p (x ++ y) 0 = (a, y, 0)) ∧ ∀ k, k < x.length → (p (x.take k) 0).2.2 = 1
/-- An error stays. -/
def Stay {α : Type} (p : Par α) : Prop := ∀ bs c, c ≠ 0 → (p bs c).2.2 = c
/-- What is read stands so to the bytes that it was read from. -/
def BackR {α : Type} (p : Par α) (R : α → List UInt8 → Prop) : Prop := ∀ bs a r, p bs 0 = (a, r, 0) → ∃ x, bs = x ++ r ∧ R a x
section
variable {α β : Type} {p : Par α} {q : α → Par β} {a : α} {b : β} {x y : List UInt8}
theorem Good.andThen (h1 : Good p a x) (h2 : Good (q a) b y) (hs : ∀ a, Stay (q a)) : Good (thenP p q) b (x ++ y) := by
  refine ⟨fun z => ?_, fun k hk => ?_⟩
  · unfold thenP
    rw [List.append_assoc, h1.1]
    exact h2.1 z
  · by_cases h : k < x.length
    · rw [List.take_append_of_le_length (by omega)]
      unfold thenP
      rw [h1.2 k h]
      exact hs _ _ 1 (by omega)
    · rw [List.take_append, List.take_of_length_le (by omega)]
      unfold thenP
      rw [h1.1]
      exact h2.2 (k - x.length) (by rw [List.length_append] at hk; omega)
theorem Good.map (f : α → β) (h : Good p a x) : Good (mapP f p) (f a) x :=
  ⟨fun z => by unfold mapP; rw [h.1], fun k hk => h.2 k hk⟩
theorem Stay.andThen (h1 : Stay p) (h2 : ∀ a, Stay (q a)) : Stay (thenP p q) := fun bs c hc => by
  unfold thenP
  have e := h1 bs c hc
  rw [h2 _ _ _ (by rw [e]; exact hc), e]
theorem Stay.map (f : α → β) (h : Stay p) : Stay (mapP f p) := fun bs c hc => h bs c hc
theorem BackR.andThen {R : α → List UInt8 → Prop} {S : α → β → List UInt8 → Prop} (h1 : BackR p R) (h2 : ∀ a, BackR (q a) (S a)) (hs : ∀ a, Stay (q a)) : BackR (thenP p q) (fun b z => ∃ a x y, z = x ++ y ∧ R a x ∧ S a b y) := by
  intro bs b r h
  unfold thenP at h
  have hc : (p bs 0).2.2 = 0 := by
    by_cases h0 : (p bs 0).2.2 = 0
    · exact h0
    · have e := hs (p bs 0).1 (p bs 0).2.1 (p bs 0).2.2 h0
      rw [h] at e
      exact e.symm
  rw [hc] at h
  obtain ⟨x, e1, r1⟩ := h1 bs (p bs 0).1 (p bs 0).2.1 (Prod.ext rfl (Prod.ext rfl hc))
  obtain ⟨y, e2, r2⟩ := h2 _ _ _ _ h
  exact ⟨x ++ y, by rw [List.append_assoc, ← e2]; exact e1, _, x, y, rfl, r1, r2⟩
theorem BackR.map {R : α → List UInt8 → Prop} (f : α → β) (h : BackR p R) : BackR (mapP f p) (fun b z => ∃ a, b = f a ∧ R a z) := by
  intro bs b r h1
  unfold mapP at h1
  simp only [Prod.mk.injEq] at h1
  obtain ⟨x, e, hr⟩ := h bs (p bs 0).1 r (by rw [← h1.2])
  exact ⟨x, e, _, h1.1.symm, hr⟩
theorem BackR.weak {R S : α → List UInt8 → Prop} (h : BackR p R) (hw : ∀ a x, R a x → S a x) : BackR p S := fun bs a r h1 => by
  obtain ⟨x, e, hr⟩ := h bs a r h1
  exact ⟨x, e, hw _ _ hr⟩
theorem stay_many : ∀ n, Stay (manyP p n)
  | 0, bs, c, hc => rfl
  | n + 1, bs, c, hc => by unfold manyP; rw [if_pos hc]
theorem good_many (enc : α → List UInt8) : ∀ (l : List α), (∀ z ∈ l, Good p z (enc z)) → Good (manyP p l.length) l (l.flatMap enc)
  | [], _ => ⟨fun y => rfl, fun k hk => absurd hk (by simp)⟩
  | z :: l, h => by
    have ih := good_many enc l (fun u hu => h u (List.mem_cons_of_mem _ hu))
    have g := (h z List.mem_cons_self).andThen (q := fun a => mapP (a :: ·) (manyP p l.length)) (ih.map (z :: ·)) (fun a => (stay_many _).map _)
    rw [List.flatMap_cons]
    refine ⟨fun y => ?_, fun k hk => ?_⟩
    · show manyP p (l.length + 1) _ 0 = _
      unfold manyP
      rw [if_neg (by omega)]
      exact g.1 y
    · show (manyP p (l.length + 1) _ 0).2.2 = 1
      unfold manyP
      rw [if_neg (by omega)]
      exact g.2 k hk
theorem back_many (enc : α → List UInt8) (V : α → Prop) (h : BackR p (fun a x => x = enc a ∧ V a)) : ∀ n, BackR (manyP p n) (fun l x => x = l.flatMap enc ∧ (∀ z ∈ l, V z) ∧ l.length = n)
  | 0, bs, l, r, e => by
    unfold manyP at e
    simp only [Prod.mk.injEq, and_true] at e
    refine ⟨[], by rw [e.2]; rfl, ?_⟩
    rw [← e.1]
    exact ⟨rfl, fun z hz => absurd hz (by simp), rfl⟩
  | n + 1, bs, l, r, e => by
    unfold manyP at e
    rw [if_neg (by omega)] at e
    obtain ⟨x, e1, a, y, z, e2, ⟨e3, v⟩, l2, e4, e5, v2, e6⟩ := (h.andThen (q := fun a => mapP (a :: ·) (manyP p n)) (fun a => (back_many enc V h n).map (a :: ·)) (fun a => (stay_many n).map _)) _ _ _ e
    refine ⟨x, e1, ?_⟩
    rw [e4, e2, e3, e5]
    exact ⟨by rw [List.flatMap_cons], fun u hu => (List.mem_cons.1 hu).elim (fun e => e ▸ v) (v2 u), by rw [List.length_cons, e6]⟩
end
theorem stay_take (k : Nat) : Stay (takeL k) := fun bs c hc => by rw [takeL_err k bs c hc]
theorem stay_num (most : Nat) : Stay (numL most) := fun bs c hc => by rw [numL_err most bs c hc]
theorem good_take (x : List UInt8) (k : Nat) (h : x.length = k) : Good (takeL k) x x :=
  ⟨fun y => takeL_app x y k h, fun j hj => by rw [takeL_end k _ (by rw [List.length_take]; omega)]⟩
theorem back_take (k : Nat) : BackR (takeL k) (fun a x => x = a ∧ a.length = k) := fun bs a r h => by
  unfold takeL at h
  rw [if_neg (by omega)] at h
  split at h
  · simp at h
  · simp only [Prod.mk.injEq, and_true] at h
    exact ⟨a, by rw [← h.1, ← h.2, List.take_append_drop], rfl, by rw [← h.1, List.length_take]; omega⟩
/-- So many bytes as a number. -/
def leP (k : Nat) : Par Nat := mapP leN (takeL k)
theorem stay_le (k : Nat) : Stay (leP k) := (stay_take k).map _
theorem leN_inj : ∀ (l m : List UInt8), l.length = m.length → leN l = leN m → l = m
  | [], [], _, _ => rfl
  | x :: l, y :: m, hl, h => by
    have h1 : x.toNat + 256 * leN l = y.toNat + 256 * leN m := h
    have hx := x.toNat_lt
    have hy := y.toNat_lt
    have e1 : x.toNat = y.toNat := by omega
    have e2 : leN l = leN m := by omega
    rw [leN_inj l m (by simpa using hl) e2, UInt8.toNat_inj.1 e1]
theorem leB_leN (l : List UInt8) : leB (leN l) l.length = l :=
  leN_inj _ _ (leB_length _ _) (leN_leB_of (leN_lt l))
theorem good_le (n k : Nat) (h : n < 256 ^ k) : Good (leP k) n (leB n k) := by
  have g := (good_take (leB n k) k (leB_length n k)).map leN
  rw [leN_leB_of h] at g
  exact g
theorem back_le (k : Nat) : BackR (leP k) (fun n x => x = leB n k ∧ n < 256 ^ k) := ((back_take k).map leN).weak fun n x ⟨a, e, e1, e2⟩ => by
  subst e e1 e2
  exact ⟨(leB_leN _).symm, leN_lt _⟩
theorem good_num (most n : Nat) (h : n ≤ most) (hm : most ≤ 18446744073709551615) : Good (numL most) n (putL n) :=
  ⟨fun y => by rw [numL_put most n y (by omega), if_neg (by omega)], fun k hk => by
    rw [putL_length] at hk
    obtain ⟨b, e⟩ := numL_cut most n k hk
    rw [e]⟩
theorem widN_cases (n : Nat) : (widN n = 2 ∧ n = 253) ∨ (widN n = 4 ∧ n = 254) ∨ (widN n = 8 ∧ n = 255) ∨ (widN n = 0 ∧ n ≠ 253 ∧ n ≠ 254 ∧ n ≠ 255) := by
  unfold widN
  split
  · exact .inl ⟨rfl, by assumption⟩
  · split
    · exact .inr (.inl ⟨rfl, by assumption⟩)
    · split
      · exact .inr (.inr (.inl ⟨rfl, by assumption⟩))
      · exact .inr (.inr (.inr ⟨rfl, by assumption, by assumption, by assumption⟩))
theorem back_num (most : Nat) : BackR (numL most) (fun n x => x = putL n ∧ n ≤ most) := fun bs n r h => by
  cases bs with
  | nil => rw [numL_nil] at h; simp at h
  | cons f xs =>
    have hf := f.toNat_lt
    have ef : UInt8.ofNat f.toNat = f := by simp
    have mark : ∀ k, 0 < k → widN f.toNat = k → (∀ z : List UInt8, z.length = k → lenN (leN z) = 1 + k → putL (leN z) = f :: leB (leN z) k) → ∃ x, f :: xs = x ++ r ∧ x = putL n ∧ n ≤ most := by
      intro k h0 hk hp
      by_cases hl : xs.length < k
      · rw [numL_short most f k xs hk hl] at h; simp at h
      · obtain ⟨z, y, e, hz⟩ : ∃ z y, xs = z ++ y ∧ z.length = k := ⟨xs.take k, xs.drop k, (List.take_append_drop k xs).symm, by rw [List.length_take]; omega⟩
        rw [e, numL_mark most f k z y hk h0 hz] at h
        split at h
        · simp at h
        · rename_i h1
          split at h
          · simp at h
          · rename_i h2
            simp only [Prod.mk.injEq, and_true] at h
            have h3 := hp z hz (by omega)
            rw [← hz, leB_leN] at h3
            refine ⟨f :: z, by rw [e, ← h.2]; rfl, ?_, by rw [← h.1]; omega⟩
            rw [← h.1, h3]
    have put : ∀ (z : List UInt8) (k : Nat) (g : UInt8), lenN (leN z) = 1 + k → 0 < k → (k = 2 → g = 253) → (k = 4 → g = 254) → (k = 8 → g = 255) → putL (leN z) = g :: leB (leN z) k := by
      intro z k g hl h0 g1 g2 g3
      rcases lenN_eq (leN z) with ⟨a, b⟩ | ⟨a, b⟩ | ⟨a, b⟩ | ⟨a, b⟩
      · omega
      · rw [b, g1 (by omega), show k = 2 by omega]
      · rw [b, g2 (by omega), show k = 4 by omega]
      · rw [b, g3 (by omega), show k = 8 by omega]
    have fz : ∀ m : Nat, f.toNat = m → f = UInt8.ofNat m := fun m e => by rw [← e, ef]
    rcases widN_cases f.toNat with ⟨e, e2⟩ | ⟨e, e2⟩ | ⟨e, e2⟩ | ⟨e, e2, e3, e4⟩
    · exact mark 2 (by omega) e (fun z _ hl => put z 2 f hl (by omega) (fun _ => fz 253 e2) (fun h => by omega) (fun h => by omega))
    · exact mark 4 (by omega) e (fun z _ hl => put z 4 f hl (by omega) (fun h => by omega) (fun _ => fz 254 e2) (fun h => by omega))
    · exact mark 8 (by omega) e (fun z _ hl => put z 8 f hl (by omega) (fun h => by omega) (fun h => by omega) (fun _ => fz 255 e2))
    · rw [numL_small most f xs (by omega)] at h
      split at h
      · simp at h
      · simp only [Prod.mk.injEq, and_true] at h
        refine ⟨[f], by rw [← h.2]; rfl, ?_, by rw [← h.1]; omega⟩
        rw [← h.1]
        unfold putL
        rw [if_pos (by omega), ef]
end Go.Proofs.YtcghbogkplcohaaDoor.Sha

/-
  Plain mathematics of a block's header: its bytes; read out of bytes it is what was written, cut off it ends too early, longer it has another shape; any 80 bytes are one header's. No conditions beyond those that each states.
-/
namespace Go.Proofs.YtcghbogkplcohaaDoor.Sha
open Go Go.RowKit
structure THd where
  ver : Nat
  prev : List UInt8
  root : List UInt8
  time : Nat
  work : Nat
  nonce : Nat
def HdOk (h : THd) : Prop := h.ver ≤ 4294967295 ∧ h.prev.length = 32 ∧ h.root.length = 32 ∧ h.time ≤ 4294967295 ∧ h.work ≤ 4294967295 ∧ h.nonce ≤ 4294967295
/-- A header's bytes. -/
def hdB (h : THd) : List UInt8 := leB h.ver 4 ++ h.prev ++ h.root ++ leB h.time 4 ++ leB h.work 4 ++ leB h.nonce 4
def hdP : Par THd := thenP (leP 4) fun v => thenP (takeL 32) fun p => thenP (takeL 32) fun r => thenP (leP 4) fun t => thenP (leP 4) fun w => mapP (fun n => ⟨v, padH p, padH r, t, w, n⟩) (leP 4)
def noHd : THd := ⟨0, List.replicate 32 0, List.replicate 32 0, 0, 0, 0⟩
/-- A header out of a Reader: none where an error was met. -/
def takeHd (bs : List UInt8) (c : Nat) : THd × List UInt8 × Nat := if (hdP bs c).2.2 = 0 then hdP bs c else (noHd, (hdP bs c).2)
/-- Bytes as a header, or what is amiss. -/
def readHd (bs : List UInt8) : THd × Nat := if (hdP bs 0).2.2 ≠ 0 then (noHd, (hdP bs 0).2.2) else if (hdP bs 0).2.1 ≠ [] then (noHd, 2) else ((hdP bs 0).1, 0)
theorem padH_all {x : List UInt8} (h : x.length = 32) : padH x = x := by unfold padH; rw [h]; simp
theorem hdB_length {h : THd} (hh : HdOk h) : (hdB h).length = 80 := by
  simp only [hdB, List.length_append, leB_length, hh.2.1, hh.2.2.1]
theorem stay_hd : Stay hdP := (stay_le 4).andThen fun _ => (stay_take 32).andThen fun _ => (stay_take 32).andThen fun _ => (stay_le 4).andThen fun _ => (stay_le 4).andThen fun _ => (stay_le 4).map _
theorem good_hd (h : THd) (hh : HdOk h) : Good hdP h (hdB h) := by
  obtain ⟨h1, h2, h3, h4, h5, h6⟩ := hh
  obtain ⟨a, b, c, d, e, f⟩ := h
  simp only at h1 h2 h3 h4 h5 h6
  have g := (good_le a 4 (by omega)).andThen (q := fun v => thenP (takeL 32) fun p => thenP (takeL 32) fun r => thenP (leP 4) fun t => thenP (leP 4) fun w => mapP (fun n => (⟨v, padH p, padH r, t, w, n⟩ : THd)) (leP 4))
    ((good_take b 32 h2).andThen (q := fun p => thenP (takeL 32) fun r => thenP (leP 4) fun t => thenP (leP 4) fun w => mapP (fun n => (⟨a, padH p, padH r, t, w, n⟩ : THd)) (leP 4))
      ((good_take c 32 h3).andThen (q := fun r => thenP (leP 4) fun t => thenP (leP 4) fun w => mapP (fun n => (⟨a, padH b, padH r, t, w, n⟩ : THd)) (leP 4))
        ((good_le d 4 (by omega)).andThen (q := fun t => thenP (leP 4) fun w => mapP (fun n => (⟨a, padH b, padH c, t, w, n⟩ : THd)) (leP 4))
          ((good_le e 4 (by omega)).andThen (q := fun w => mapP (fun n => (⟨a, padH b, padH c, d, w, n⟩ : THd)) (leP 4))
            ((good_le f 4 (by omega)).map _) (fun _ => (stay_le 4).map _)) (fun _ => (stay_le 4).andThen fun _ => (stay_le 4).map _))
          (fun _ => (stay_le 4).andThen fun _ => (stay_le 4).andThen fun _ => (stay_le 4).map _))
        (fun _ => (stay_take 32).andThen fun _ => (stay_le 4).andThen fun _ => (stay_le 4).andThen fun _ => (stay_le 4).map _))
      (fun _ => (stay_take 32).andThen fun _ => (stay_take 32).andThen fun _ => (stay_le 4).andThen fun _ => (stay_le 4).andThen fun _ => (stay_le 4).map _)
  rw [padH_all h2, padH_all h3] at g
  simp only [hdB, List.append_assoc]
  exact g
/-- What was written is read again. -/
theorem hd_own {h : THd} (hh : HdOk h) : readHd (hdB h) = (h, 0) := by
  have g := (good_hd h hh).1 []
  rw [List.append_nil] at g
  unfold readHd
  rw [g]
  rfl
theorem hd_take {h : THd} (hh : HdOk h) (y : List UInt8) : takeHd (hdB h ++ y) 0 = (h, y, 0) := by
  unfold takeHd
  rw [(good_hd h hh).1 y, if_pos rfl]
/-- Cut off, it ends too early. -/
theorem hd_cut {h : THd} (hh : HdOk h) {k : Nat} (hk : k < 80) : readHd ((hdB h).take k) = (noHd, 1) := by
  have g := (good_hd h hh).2 k (by rw [hdB_length hh]; exact hk)
  unfold readHd
  rw [g, if_pos (by omega)]
/-- Longer, it has another shape. -/
theorem hd_long {h : THd} (hh : HdOk h) {y : List UInt8} (hy : y ≠ []) : readHd (hdB h ++ y) = (noHd, 2) := by
  unfold readHd
  rw [(good_hd h hh).1 y, if_neg (by simp), if_pos hy]
/-- Any 80 bytes are one header's. -/
theorem hd_all (b : List UInt8) (hb : b.length = 80) : ∃ h, HdOk h ∧ hdB h = b := by
  have cut : ∀ (l : List UInt8) (k : Nat), k ≤ l.length → ∃ x y, l = x ++ y ∧ x.length = k := fun l k hk => ⟨l.take k, l.drop k, (List.take_append_drop k l).symm, by rw [List.length_take]; omega⟩
  obtain ⟨x1, y1, e1, l1⟩ := cut b 4 (by omega)
  have s1 : y1.length = 76 := by have := congrArg List.length e1; rw [List.length_append] at this; omega
  obtain ⟨x2, y2, e2, l2⟩ := cut y1 32 (by omega)
  have s2 : y2.length = 44 := by have := congrArg List.length e2; rw [List.length_append] at this; omega
  obtain ⟨x3, y3, e3, l3⟩ := cut y2 32 (by omega)
  have s3 : y3.length = 12 := by have := congrArg List.length e3; rw [List.length_append] at this; omega
  obtain ⟨x4, y4, e4, l4⟩ := cut y3 4 (by omega)
  have s4 : y4.length = 8 := by have := congrArg List.length e4; rw [List.length_append] at this; omega
  obtain ⟨x5, y5, e5, l5⟩ := cut y4 4 (by omega)
  have s5 : y5.length = 4 := by have := congrArg List.length e5; rw [List.length_append] at this; omega
  have lt : ∀ x : List UInt8, x.length = 4 → leN x ≤ 4294967295 ∧ leB (leN x) 4 = x := fun x hx => by
    have h1 := leN_lt x
    have h2 := leB_leN x
    rw [hx] at h1 h2
    exact ⟨by omega, h2⟩
  refine ⟨⟨leN x1, x2, x3, leN x4, leN x5, leN y5⟩, ⟨(lt x1 l1).1, l2, l3, (lt x4 l4).1, (lt x5 l5).1, (lt y5 s5).1⟩, ?_⟩
  simp only [hdB, (lt x1 l1).2, (lt x4 l4).2, (lt x5 l5).2, (lt y5 s5).2, List.append_assoc]
  rw [← e5, ← e4, ← e3, ← e2, ← e1]
theorem hd_inj {h g : THd} (hh : HdOk h) (hg : HdOk g) (e : hdB h = hdB g) : h = g := by
  have h1 := hd_own hh
  rw [e, hd_own hg] at h1
  exact (Prod.mk.inj h1).1.symm
/-- What is read has just these bytes. -/
theorem hd_back {b : List UInt8} (hb : b.length = 80) : HdOk (readHd b).1 ∧ hdB (readHd b).1 = b ∧ (readHd b).2 = 0 := by
  obtain ⟨h, hh, rfl⟩ := hd_all b hb
  rw [hd_own hh]
  exact ⟨hh, rfl, rfl⟩
end Go.Proofs.YtcghbogkplcohaaDoor.Sha

/-
  A place (api.Point) as the model has it: 32 bytes and a number, 33 cells; how two are held against each other. Conditions: digests of 32 bytes.
-/
namespace Go.Proofs.YtcghbogkplcohaaDoor.Sha
open Go Go.RowKit
/-- A number of 32 bits as a cell. -/
def nV (n : Nat) : Value := .int .u32 (n : Int)
/-- A place: its transaction's digest, its number. -/
def ptL (h : List UInt8) (n : Nat) : List Value := h.map bV ++ [nV n]
theorem ptL_length (h : List UInt8) (n : Nat) : (ptL h n).length = h.length + 1 := by simp [ptL]
theorem ptL_size (h : List UInt8) (n : Nat) (hh : h.length = 32) : (ptL h n).toArray.size = 33 := by simp [ptL, hh]
theorem ptL_one' (h : List UInt8) (n : Nat) : ∀ v ∈ ptL h n, v.oneCell' = true := by
  intro v hv
  rcases List.mem_append.1 hv with h1 | h1
  · exact bV_one' h v h1
  · obtain rfl : v = nV n := by simpa using h1
    rfl
theorem ptL_one (h : List UInt8) (n : Nat) : (ptL h n).toArray.all (·.oneCell') = true := all_oneCell_toArray (ptL_one' h n)
theorem bV_nat (x : UInt8) : (x.toNat : Int) = bv x := rfl
theorem bV_cell : (fun x : UInt8 => Extern.Stop.cell x) = bV := rfl
/-- The digest lies at the place's head. -/
theorem pt_hash {w : World} {g : Nat} {h : List UInt8} {n : Nat} {T : TypeId} {fr : Nat × Nat} (hg : w.heap[g]? = some (.cells (ptL h n).toArray T fr)) : w.rangeAt g 0 (h.map bV) := fun j v hv => by
  rw [Nat.zero_add, cell_of_row _ _ _ _ _ _ hg, List.getElem?_toArray, ptL, List.getElem?_append_left (List.getElem?_eq_some_iff.1 hv).1]
  exact hv
/-- The number lies behind. -/
theorem pt_num {w : World} {g : Nat} {h : List UInt8} {n : Nat} {T : TypeId} {fr : Nat × Nat} (hh : h.length = 32) (hg : w.heap[g]? = some (.cells (ptL h n).toArray T fr)) : w.cell? ⟨g, 32, none⟩ = some (nV n) := by
  rw [cell_of_row _ _ _ _ _ _ hg, List.getElem?_toArray, ptL, List.getElem?_append_right (by simp [hh])]
  simp [hh]
theorem size_u8 (w : World) : (Go.sizeOf 5).run Tryd.prog w = .ok 1 w := by kernel_rfl
theorem eq_hash (d : Nat) (h h' : List UInt8) (hh : h.length = 32) (hh' : h'.length = 32) (w : World) : (Op.equalIn (d + 2) 23 (.agg (h.map bV).toArray) (.agg (h'.map bV).toArray)).run Tryd.prog w = .ok (decide (h = h')) w := by
  have := run_equalIn_bytes (P := Tryd.prog) w d 23 5 32 Tryd.underlying23 Tryd.underlying5 size_u8 h h' hh hh'
  rw [show (h == h') = decide (h = h') by by_cases e : h = h' <;> simp [e]] at this
  exact this
theorem run_eql_hash (h h' : List UInt8) (hh : h.length = 32) (hh' : h'.length = 32) (w : World) : (binOp .eql 23 (.agg (h.map bV).toArray) (.agg (h'.map bV).toArray)).run Tryd.prog w = .ok (.bool (decide (h = h'))) w := by
  rw [run_eql_struct, eq_hash 9998 h h' hh hh']
  rfl
theorem run_neq_hash (h h' : List UInt8) (hh : h.length = 32) (hh' : h'.length = 32) (w : World) : (binOp .neq 23 (.agg (h.map bV).toArray) (.agg (h'.map bV).toArray)).run Tryd.prog w = .ok (.bool (!decide (h = h'))) w := by
  rw [run_neq_struct, eq_hash 9998 h h' hh hh']
  rfl
theorem pt_fields : (Tryd.prog.fieldsOf 39).toList.map (fun f => (f.name, f.type, f.offset)) = [("Tx", 23, 0), ("N", 26, 32)] := by kernel_rfl
theorem pt_under : Tryd.prog.underlying 39 = some (.struct (Tryd.prog.fieldsOf 39)) := by kernel_rfl
theorem pt_free : Tryd.prog.stoodInHeld 39 = false := by kernel_rfl
theorem size_hash (w : World) : (Go.sizeOf 23).run Tryd.prog w = .ok 32 w := by kernel_rfl
theorem part_hash (h : List UInt8) (n : Nat) (hh : h.length = 32) (w : World) : (part 23 (ptL h n).toArray 0).run Tryd.prog w = .ok (.agg (h.map bV).toArray) w := by
  have hagg : (isAgg 23).run Tryd.prog w = .ok true w := by
    unfold isAgg
    rw [Sem.run_bind, run_underlying Tryd.underlying23 w]
    rfl
  have e : (ptL h n).toArray.extract 0 32 = (h.map bV).toArray := by
    rw [List.extract_toArray, List.extract_eq_take_drop, List.drop_zero, Nat.sub_zero, ptL, List.take_append_of_le_length (by simp [hh]), List.take_of_length_le (by simp [hh])]
  simp only [part, Sem.run_bind, hagg, Result.andThen_ok, if_true, size_hash, Sem.run_pure, Nat.zero_add, e]
theorem part_num (h : List UInt8) (n : Nat) (hh : h.length = 32) (w : World) : (part 26 (ptL h n).toArray 32).run Tryd.prog w = .ok (nV n) w := by
  have hagg : (isAgg 26).run Tryd.prog w = .ok false w := by
    unfold isAgg
    rw [Sem.run_bind, run_underlying Tryd.underlying26 w]
    rfl
  have e : (ptL h n).toArray[32]? = some (nV n) := by
    rw [List.getElem?_toArray, ptL, List.getElem?_append_right (by simp [hh])]
    simp [hh]
  simp only [part, Sem.run_bind, hagg, Result.andThen_ok, e]
  rfl
theorem eq_num (d n m : Nat) (w : World) : (Op.equalIn (d + 1) 26 (nV n) (nV m)).run Tryd.prog w = .ok (decide (n = m)) w := by
  rw [nV, nV, run_equalIn_int w d 26 .u32 .u32 _ _ Tryd.underlying26]
  congr 1
  rw [Bool.eq_iff_iff]
  simp
  omega
/-- Two places by '=='. -/
theorem eq_pt (d : Nat) (h h' : List UInt8) (n n' : Nat) (hh : h.length = 32) (hh' : h'.length = 32) (w : World) : (Op.equalIn (d + 3) 39 (.agg (ptL h n).toArray) (.agg (ptL h' n').toArray)).run Tryd.prog w = .ok (decide (h = h') && decide (n = n')) w := by
  rw [run_equalIn_agg w (d + 2) 39 _ _ pt_under pt_free]
  have hf := pt_fields
  generalize (Tryd.prog.fieldsOf 39).toList = fs at hf
  obtain ⟨f, f', rfl⟩ : ∃ f f', fs = [f, f'] := by
    have hl := congrArg List.length hf
    simp only [List.length_map, List.length_cons, List.length_nil] at hl
    obtain ⟨f, r, rfl⟩ := List.exists_cons_of_length_eq_add_one hl
    obtain ⟨f', r', rfl⟩ := List.exists_cons_of_length_eq_add_one (by simpa using hl)
    obtain rfl : r' = [] := List.eq_nil_of_length_eq_zero (by simpa using hl)
    exact ⟨f, f', rfl⟩
  · simp only [List.map_cons, List.map_nil, List.cons.injEq, Prod.mk.injEq, and_true] at hf
    obtain ⟨⟨h1, h2, h3⟩, h4, h5, h6⟩ := hf
    simp only [Op.eqFields, h1, h2, h3, h4, h5, h6, Sem.run_bind, Sem.run_ite, part_hash h n hh, part_hash h' n' hh', part_num h n hh, part_num h' n' hh', Result.andThen_ok, eq_hash d h h' hh hh', eq_num (d + 1) n n', ne_eq, String.reduceEq, not_false_eq_true, if_true]
    by_cases e : h = h' <;> by_cases e' : n = n' <;> simp [e, e', Sem.run_pure]
theorem run_eql_pt (h h' : List UInt8) (n n' : Nat) (hh : h.length = 32) (hh' : h'.length = 32) (w : World) : (binOp .eql 39 (.agg (ptL h n).toArray) (.agg (ptL h' n').toArray)).run Tryd.prog w = .ok (.bool (decide (h = h') && decide (n = n'))) w := by
  rw [run_eql_struct, eq_pt 9997 h h' n n' hh hh']
  rfl
/-- In a quiet walk: an operation on two values, its answer laid ahead. -/
theorem quiet_bin {P : Program} {C : World → Prop} {a : Act} {o : Oper} {K : Act → Prop} (op : BinOp) (t : TypeId) (x y : Operand) (r : TypeId) (ho : o.op = .binOp op t x y r) (u v z : Value) (hx : a.eval x = u) (hy : a.eval y = v)
    (hg : ∀ w, (eqGuard op t x y u v).run P w = .ok () w) (h : ∀ w, (binOp op t u v).run P w = .ok z w) (hk : K (a.put o.dst z)) : o.quiet P a C K := by
  refine quiet_run z (fun w => ?_) hk
  simp only [execOp, ho, hx, hy, Sem.run_bind, hg, h, Result.andThen_ok, Sem.run_pure]
theorem quiet_eql_pt {C : World → Prop} {a : Act} {o : Oper} {K : Act → Prop} (x y : Operand) (r : TypeId) (ho : o.op = .binOp .eql 39 x y r) (h h' : List UInt8) (n n' : Nat) (hh : h.length = 32) (hh' : h'.length = 32)
    (hx : a.eval x = .agg (ptL h n).toArray) (hy : a.eval y = .agg (ptL h' n').toArray) (b : Bool) (hb : b = (decide (h = h') && decide (n = n'))) (hk : K (a.put o.dst (.bool b))) : o.quiet Tryd.prog a C K := by
  subst hb
  exact quiet_bin .eql 39 x y r ho _ _ _ hx hy (fun w => run_eqGuard_agg w .eql 39 x y _ _ (by kernel_rfl)) (fun w => run_eql_pt h h' n n' hh hh' w) hk
theorem quiet_eql_hash {C : World → Prop} {a : Act} {o : Oper} {K : Act → Prop} (x y : Operand) (r : TypeId) (ho : o.op = .binOp .eql 23 x y r) (h h' : List UInt8) (hh : h.length = 32) (hh' : h'.length = 32)
    (hx : a.eval x = .agg (h.map bV).toArray) (hy : a.eval y = .agg (h'.map bV).toArray) (b : Bool) (hb : b = decide (h = h')) (hk : K (a.put o.dst (.bool b))) : o.quiet Tryd.prog a C K := by
  subst hb
  exact quiet_bin .eql 23 x y r ho _ _ _ hx hy (fun w => run_eqGuard_agg w .eql 23 x y _ _ (by kernel_rfl)) (fun w => run_eql_hash h h' hh hh' w) hk
/-- '!=' of two digests, in a plain list. -/
theorem wpList_neq_hash {ops : Array Oper} {rest : List Oper} {o : Oper} {a : Act} {w : World} {Q : Exit → Act → World → Prop} (hgd : o.guard = none) (x y : Operand) (r : TypeId) (ho : o.op = .binOp .neq 23 x y r) (h h' : List UInt8) (hh : h.length = 32) (hh' : h'.length = 32)
    (hx : a.eval x = .agg (h.map bV).toArray) (hy : a.eval y = .agg (h'.map bV).toArray) (b : Bool) (hb : b = !decide (h = h')) (hk : wpList Tryd.prog ops Q rest (a.put o.dst (.bool b)) w) : wpList Tryd.prog ops Q (o :: rest) a w := by
  subst hb
  refine wpList_plain hgd fun K hK => ?_
  unfold Oper.wp
  simp only [execOp, ho, hx, hy, Sem.run_bind, run_eqGuard_agg w .neq 23 x y _ _ (show Tryd.prog.eqGuardType Tryd.prog.depth 23 = false by kernel_rfl), run_neq_hash h h' hh hh', Result.andThen_ok, Sem.run_pure]
  exact hK _ _ hk
/-- A whole row is read, in a list, where its guard asks for it. -/
theorem wpList_load_rowG {P : Program} {ops : Array Oper} {rest : List Oper} {o : Oper} {a : Act} {w : World} {Q : Exit → Act → World → Prop} (ty : TypeId) (x : Operand) (ho : o.op = .load ty x)
    (g : Nat) (hx : a.eval x = .pointer (some ⟨g, 0, none⟩)) (t : TypeId) (cs : Array Value) (fr : Nat × Nat) (d : TypeDesc) (hg : w.heap[g]? = some (.cells cs t fr))
    (hu : P.underlying ty = some d) (hd : (match d with | .struct _ | .array _ _ => true | _ => false) = true) (hi : (P.info? ty).map (·.size) = some cs.size) (hw : Region.wanted o (yielded ops a.tmps) = true)
    (h : wpList P ops Q rest (a.put o.dst (.agg cs)) w) : wpList P ops Q (o :: rest) a w :=
  wpList_step fun _ hK => by
    rw [if_pos hw]
    exact wp_load_row ty x ho g hx t cs fr d hg hu hd hi (hK _ _ h)
/-- In a quiet walk: one cell is read. -/
theorem quiet_load_cell {P : Program} {C : World → Prop} {a : Act} {o : Oper} {K : Act → Prop} (ty : TypeId) (x : Operand) (ho : o.op = .load ty x) (b off : Nat) (hx : a.eval x = .pointer (some ⟨b, off, none⟩)) (k : IntKind) (v : Value)
    (hg : ∀ w, C w → w.cell? ⟨b, off, none⟩ = some v) (hu : P.underlying ty = some (.int k)) (hk : K (a.put o.dst v)) : o.quiet P a C K :=
  ⟨v, fun w hw => by
    have hagg : (isAgg ty).run P w = .ok false w := by
      unfold isAgg
      rw [Sem.run_bind, run_underlying hu w]
      rfl
    unfold Oper.quietAt execOp
    simp [ho, hx, Instr.loadAt, Instr.sureAddr, Sem.run_bind, loadVar, hagg, hg w hw, Oper.quietUpon], hk⟩
/-- A part of a block is read, in a list, where its guard asks for it. -/
theorem wpList_load_midG {P : Program} {ops : Array Oper} {rest : List Oper} {o : Oper} {a : Act} {w : World} {Q : Exit → Act → World → Prop} (ty : TypeId) (x : Operand) (ho : o.op = .load ty x)
    (b off : Nat) (hx : a.eval x = .pointer (some ⟨b, off, none⟩)) (cs : List Value) (d : TypeDesc) (hc : w.rangeAt b off cs)
    (hu : P.underlying ty = some d) (hd : d.isRow = true) (hi : (P.info? ty).map (·.size) = some cs.length) (hw : Region.wanted o (yielded ops a.tmps) = true)
    (h : wpList P ops Q rest (a.put o.dst (.agg cs.toArray)) w) : wpList P ops Q (o :: rest) a w :=
  wpList_step fun _ hK => by
    rw [if_pos hw]
    exact wp_load_mid ty x ho b off hx cs d hc hu hd hi (hK _ _ h)
/-- In a quiet walk: a part of a block is read. -/
theorem quiet_load_mid {P : Program} {C : World → Prop} {a : Act} {o : Oper} {K : Act → Prop} (ty : TypeId) (x : Operand) (ho : o.op = .load ty x) (b off : Nat) (hx : a.eval x = .pointer (some ⟨b, off, none⟩)) (cs : List Value) (d : TypeDesc)
    (hg : ∀ w, C w → w.rangeAt b off cs) (hu : P.underlying ty = some d) (hd : d.isRow = true) (hi : (P.info? ty).map (·.size) = some cs.length) (hk : K (a.put o.dst (.agg cs.toArray))) : o.quiet P a C K :=
  ⟨_, fun w hw => by
    unfold Oper.quietAt execOp
    simp only [ho, hx, Instr.loadAt, Instr.sureAddr, Sem.run_bind, Sem.run_pure, Result.andThen_ok, run_loadVar_mid w b off ty cs d (hg w hw) hu hd hi]
    exact ⟨rfl, rfl⟩, hk⟩
/-- In a quiet walk: one cell of whatever type is read. -/
theorem quiet_load_one {P : Program} {C : World → Prop} {a : Act} {o : Oper} {K : Act → Prop} (ty : TypeId) (x : Operand) (ho : o.op = .load ty x) (b off : Nat) (hx : a.eval x = .pointer (some ⟨b, off, none⟩)) (v : Value) (d : TypeDesc)
    (hg : ∀ w, C w → w.cell? ⟨b, off, none⟩ = some v) (hu : P.underlying ty = some d) (hd : d.isRow = false) (hk : K (a.put o.dst v)) : o.quiet P a C K :=
  ⟨v, fun w hw => by
    have hagg : (isAgg ty).run P w = .ok false w := by
      unfold isAgg
      rw [Sem.run_bind, run_underlying hu w]
      cases d <;> simp_all
    unfold Oper.quietAt execOp
    simp [ho, hx, Instr.loadAt, Instr.sureAddr, Sem.run_bind, loadVar, hagg, hg w hw, Oper.quietUpon], hk⟩
/-- The place that is none. -/
def nullL : List Value := ptL (List.replicate 32 0) 4294967295
end Go.Proofs.YtcghbogkplcohaaDoor.Sha

/-
  How a place that came in by value reads; a struct's fields. No conditions.
-/
namespace Go.Proofs.YtcghbogkplcohaaDoor.Sha
open Go Go.ChangeShapes Go.WideShapes Go.ChangeAt Go.RowKit
/-- A struct's fields, each read. -/
theorem struct_field {H : Type} {enc : TypeId × Value → H} {P : Program} {W : World} {fuel : Nat} {T : TypeId} {cs : List Value} {x : DataW H × List MemPlace} (hu : P.underlying T = some (.struct (P.fieldsOf T)))
    (hf : DataW.trod enc P W 0 (fun _ => true) true fuel T cs = some x) {names : List (String × TypeId × Nat)} (hm : (P.fieldsOf T).toList.map (fun f => (f.name, f.type, f.offset)) = names) :
    cs.length = P.cellsOf T ∧ ∃ m : Nat, ∀ (i : Nat) (n : String) (ty : TypeId) (off : Nat), names[i]? = some (n, ty, off) → ∃ y, DataW.trod enc P W 0 (fun _ => true) true m ty ((cs.drop off).take (P.cellsOf ty)) = some y := by
  obtain ⟨xs, m, _, _, hlen, hxl, hel⟩ := DataW.trod_struct hu hf
  refine ⟨hlen, m, fun i n ty off hi => ?_⟩
  rw [← hm, List.getElem?_map] at hi
  obtain ⟨f, hf1, hf2⟩ := Option.map_eq_some_iff.1 hi
  simp only [Prod.mk.injEq] at hf2
  obtain ⟨_, h2, h3⟩ := hf2
  have hil : i < (P.fieldsOf T).size := by have := (List.getElem?_eq_some_iff.1 hf1).1; simpa using this
  have g := hel i f (by rw [← Array.getElem?_toList]; exact hf1)
  rw [h2, h3, List.getElem?_eq_getElem (by omega)] at g
  exact ⟨_, g⟩
theorem num32_cells {H : Type} {enc : TypeId × Value → H} {W : World} {fuel : Nat} {cs : List Value} {x : DataW H × List MemPlace} (hf : DataW.trod enc Tryd.prog W 0 (fun _ => true) true fuel 26 cs = some x) :
    ∃ n : Nat, n ≤ 4294967295 ∧ cs = [nV n] := by
  obtain ⟨z, hz, _, hw⟩ := DataW.trod_int Tryd.underlying26 hf
  have hbd := bounds_u32 hw
  exact ⟨z.toNat, by omega, by rw [hz, nV, Int.toNat_of_nonneg (by omega)]⟩
set_option maxRecDepth 100000 in
/-- A place's cells. -/
theorem pt_cells {H : Type} {enc : TypeId × Value → H} {W : World} {fuel : Nat} {cs : List Value} {x : DataW H × List MemPlace} (hf : DataW.trod enc Tryd.prog W 0 (fun _ => true) true fuel 39 cs = some x) :
    ∃ (bs : List UInt8) (n : Nat), (bs.length = 32 ∧ n ≤ 4294967295) ∧ cs = ptL bs n := by
  have c24 : Tryd.prog.cellsOf 23 = 32 := by kernel_rfl
  have c25 : Tryd.prog.cellsOf 26 = 1 := by kernel_rfl
  have c27 : Tryd.prog.cellsOf 39 = 33 := by kernel_rfl
  obtain ⟨hlen, m, hel⟩ := struct_field pt_under hf pt_fields
  rw [c27] at hlen
  obtain ⟨y0, g0⟩ := hel 0 _ _ _ rfl
  obtain ⟨y1, g1⟩ := hel 1 _ _ _ rfl
  rw [c24, List.drop_zero] at g0
  rw [c25] at g1
  obtain ⟨bs, hb, hcs⟩ := hash_cells g0
  obtain ⟨n, hn, hcn⟩ := num32_cells g1
  rw [List.take_of_length_le (by rw [List.length_drop]; omega)] at hcn
  exact ⟨bs, n, ⟨hb, hn⟩, by rw [ptL, ← hcs, ← hcn, List.take_append_drop]⟩
set_option maxRecDepth 100000 in
/-- A place by value. -/
theorem point_in {H : Type} {enc : TypeId × Value → H} {W : World} {base : Nat} {v : Value} {d : DataW H} {p : List MemPlace} (hok : Value.okWide Tryd.prog W .any base 39 v) (h : DataW.Trod enc Tryd.prog W 0 (fun _ => true) true 39 v d p) :
    ∃ (bs : List UInt8) (n : Nat), (bs.length = 32 ∧ n ≤ 4294967295) ∧ v = .agg (ptL bs n).toArray := by
  simp only [Value.okWide, pt_under] at hok
  obtain ⟨cs, rfl, _, _⟩ := hok
  obtain ⟨fuel, hf⟩ := h
  have hcells : (Value.agg cs).cells.toList = cs.toList := rfl
  rw [hcells] at hf
  obtain ⟨bs, n, hb, hcs⟩ := pt_cells hf
  exact ⟨bs, n, hb, by rw [← hcs, Array.toArray_toList]⟩
end Go.Proofs.YtcghbogkplcohaaDoor.Sha

/-
  A transaction as the model has it: inputs of 35 cells, outputs of 33, rows of them behind slices; what stands in memory keeps standing where only new memory turns. No conditions.
-/
namespace Go.Proofs.YtcghbogkplcohaaDoor.Sha
open Go Go.RowKit
structure TIn where
  h : List UInt8
  n : Nat
  key : List UInt8
  seq : Nat
structure TOut where
  val : Nat
  lock : List UInt8
structure TTx where
  ver : Nat
  ins : List TIn
  outs : List TOut
  time : Nat
/-- A number of 64 bits as a cell. -/
def uV (n : Nat) : Value := .int .u64 (n : Int)
/-- An input's cells. -/
def inL (x : TIn) (kv : Value) : List Value := ptL x.h x.n ++ [kv, nV x.seq]
/-- An output's cells. -/
def outL (y : TOut) : List Value := uV y.val :: y.lock.map bV
theorem inL_length (x : TIn) (kv : Value) (h : x.h.length = 32) : (inL x kv).length = 35 := by simp [inL, ptL, h]
theorem outL_length (y : TOut) (h : y.lock.length = 32) : (outL y).length = 33 := by simp [outL, h]
/-- A key as a slice. -/
def KeyAt (w : World) (kv : Value) (key : List UInt8) : Prop := SrcB w kv key ∧ ∃ sp cap, kv = .slice sp key.length cap
theorem KeyAt.below {w w' : World} {kv : Value} {key : List UInt8} (h : KeyAt w kv key) (hb : Below w.heap.size w w') : KeyAt w' kv key := ⟨h.1.below hb, h.2⟩
/-- What may be of an input. -/
def InOk (x : TIn) : Prop := x.h.length = 32 ∧ x.n ≤ 4294967295 ∧ x.seq ≤ 4294967295
def OutOk (y : TOut) : Prop := y.lock.length = 32 ∧ y.val ≤ 18446744073709551615
/-- An input stands in block b from o on. -/
def InAt (w : World) (b o : Nat) (x : TIn) : Prop := InOk x ∧ ∃ kv, KeyAt w kv x.key ∧ w.rangeAt b o (inL x kv)
def OutAt (w : World) (b o : Nat) (y : TOut) : Prop := OutOk y ∧ w.rangeAt b o (outL y)
theorem range_below {w w' : World} {b o : Nat} {cs : List Value} (h : w.rangeAt b o cs) (hb : Below w.heap.size w w') : w'.rangeAt b o cs := fun j v hj => by
  have h1 := h j v hj
  rw [hb.cell (p := ⟨b, o + j, none⟩) (World.block_lt_of_cell? w _ h1)]
  exact h1
theorem InAt.below {w w' : World} {b o : Nat} {x : TIn} (h : InAt w b o x) (hb : Below w.heap.size w w') : InAt w' b o x := by
  obtain ⟨h0, kv, h1, h2⟩ := h
  exact ⟨h0, kv, h1.below hb, range_below h2 hb⟩
theorem OutAt.below {w w' : World} {b o : Nat} {y : TOut} (h : OutAt w b o y) (hb : Below w.heap.size w w') : OutAt w' b o y := ⟨h.1, range_below h.2 hb⟩
/-- A row of inputs behind a slice. -/
def InsAt (w : World) (v : Value) (l : List TIn) : Prop :=
  ∃ sp cap, v = .slice sp l.length cap ∧ l.length ≤ cap ∧ (0 < l.length → ∃ b o, sp = some ⟨b, o, none⟩ ∧ ∀ i x, l[i]? = some x → InAt w b (o + i * 35) x)
def OutsAt (w : World) (v : Value) (l : List TOut) : Prop :=
  ∃ sp cap, v = .slice sp l.length cap ∧ l.length ≤ cap ∧ (0 < l.length → ∃ b o, sp = some ⟨b, o, none⟩ ∧ ∀ i x, l[i]? = some x → OutAt w b (o + i * 33) x)
theorem InsAt.below {w w' : World} {v : Value} {l : List TIn} (h : InsAt w v l) (hb : Below w.heap.size w w') : InsAt w' v l := by
  obtain ⟨sp, cap, h1, h2, h3⟩ := h
  refine ⟨sp, cap, h1, h2, fun h0 => ?_⟩
  obtain ⟨b, o, h4, h5⟩ := h3 h0
  exact ⟨b, o, h4, fun i x hx => (h5 i x hx).below hb⟩
theorem OutsAt.below {w w' : World} {v : Value} {l : List TOut} (h : OutsAt w v l) (hb : Below w.heap.size w w') : OutsAt w' v l := by
  obtain ⟨sp, cap, h1, h2, h3⟩ := h
  refine ⟨sp, cap, h1, h2, fun h0 => ?_⟩
  obtain ⟨b, o, h4, h5⟩ := h3 h0
  exact ⟨b, o, h4, fun i x hx => (h5 i x hx).below hb⟩
/-- A transaction's cells. -/
def txL (t : TTx) (iv ov : Value) : List Value := [nV t.ver, iv, ov, nV t.time]
def TxOk (t : TTx) : Prop := t.ver ≤ 4294967295 ∧ t.time ≤ 4294967295
/-- A transaction by value. -/
def TxAt (w : World) (v : Value) (t : TTx) : Prop := TxOk t ∧ ∃ iv ov, v = .agg (txL t iv ov).toArray ∧ InsAt w iv t.ins ∧ OutsAt w ov t.outs
theorem TxAt.below {w w' : World} {v : Value} {t : TTx} (h : TxAt w v t) (hb : Below w.heap.size w w') : TxAt w' v t := by
  obtain ⟨h0, iv, ov, h1, h2, h3⟩ := h
  exact ⟨h0, iv, ov, h1, h2.below hb, h3.below hb⟩
/-- What of an input lies where. -/
theorem in_hash {w : World} {b o : Nat} {x : TIn} {kv : Value} (h : w.rangeAt b o (inL x kv)) : w.rangeAt b o (x.h.map bV) := fun j v hj => h j v (by
  rw [inL, ptL, List.append_assoc, List.getElem?_append_left (List.getElem?_eq_some_iff.1 hj).1]
  exact hj)
theorem in_pt {w : World} {b o : Nat} {x : TIn} {kv : Value} (h : w.rangeAt b o (inL x kv)) : w.rangeAt b o (ptL x.h x.n) := fun j v hj => h j v (by
  rw [inL, List.getElem?_append_left (List.getElem?_eq_some_iff.1 hj).1]
  exact hj)
theorem in_num {w : World} {b o : Nat} {x : TIn} {kv : Value} (hx : x.h.length = 32) (h : w.rangeAt b o (inL x kv)) : w.cell? ⟨b, o + 32, none⟩ = some (.int .u32 (x.n : Int)) := h 32 _ (by
  rw [inL, List.getElem?_append_left (by simp [ptL, hx]), ptL, List.getElem?_append_right (by simp [hx])]
  simp [hx, nV])
theorem in_key {w : World} {b o : Nat} {x : TIn} {kv : Value} (hx : x.h.length = 32) (h : w.rangeAt b o (inL x kv)) : w.cell? ⟨b, o + 33, none⟩ = some kv := h 33 _ (by
  rw [inL, List.getElem?_append_right (by simp [ptL, hx])]
  simp [ptL, hx])
theorem in_seq {w : World} {b o : Nat} {x : TIn} {kv : Value} (hx : x.h.length = 32) (h : w.rangeAt b o (inL x kv)) : w.cell? ⟨b, o + 34, none⟩ = some (.int .u32 (x.seq : Int)) := h 34 _ (by
  rw [inL, List.getElem?_append_right (by simp [ptL, hx])]
  simp [ptL, hx, nV])
theorem out_val {w : World} {b o : Nat} {y : TOut} (h : w.rangeAt b o (outL y)) : w.cell? ⟨b, o, none⟩ = some (.int .u64 (y.val : Int)) := h 0 _ rfl
theorem out_lock {w : World} {b o : Nat} {y : TOut} (h : w.rangeAt b o (outL y)) : w.rangeAt b (o + 1) (y.lock.map bV) := fun j v hj => by
  have := h (j + 1) v (by rw [outL, List.getElem?_cons_succ]; exact hj)
  rw [show o + 1 + j = o + (j + 1) by omega]
  exact this
/-- What of a boxed transaction lies where. -/
theorem tx_cells {w : World} {g : Nat} {t : TTx} {iv ov : Value} {T : TypeId} {fr : Nat × Nat} (h : w.heap[g]? = some (.cells (txL t iv ov).toArray T fr)) :
    w.cell? ⟨g, 0, none⟩ = some (.int .u32 (t.ver : Int)) ∧ w.cell? ⟨g, 1, none⟩ = some iv ∧ w.cell? ⟨g, 2, none⟩ = some ov ∧ w.cell? ⟨g, 3, none⟩ = some (.int .u32 (t.time : Int)) :=
  ⟨by rw [cell_of_row _ _ _ _ _ _ h]; rfl, by rw [cell_of_row _ _ _ _ _ _ h]; rfl, by rw [cell_of_row _ _ _ _ _ _ h]; rfl, by rw [cell_of_row _ _ _ _ _ _ h]; rfl⟩
end Go.Proofs.YtcghbogkplcohaaDoor.Sha

/-
  A transaction's bytes, as the chapter says: how many there are; two that have the same bytes are the same. What is amiss with one, in the chapter's order. No conditions beyond those that each states.
-/
namespace Go.Proofs.YtcghbogkplcohaaDoor.Sha
open Go Go.RowKit
def inB (x : TIn) : List UInt8 := x.h ++ leB x.n 4 ++ putL x.key.length ++ x.key ++ leB x.seq 4
def outB (y : TOut) : List UInt8 := leB y.val 8 ++ y.lock
def insB (l : List TIn) : List UInt8 := l.flatMap inB
def outsB (l : List TOut) : List UInt8 := l.flatMap outB
/-- A transaction's bytes. -/
def txB (t : TTx) : List UInt8 := leB t.ver 4 ++ putL t.ins.length ++ insB t.ins ++ putL t.outs.length ++ outsB t.outs ++ leB t.time 4
def InsOk (l : List TIn) : Prop := ∀ x ∈ l, InOk x
def OutsOk (l : List TOut) : Prop := ∀ y ∈ l, OutOk y
theorem outB_length (y : TOut) (h : OutOk y) : (outB y).length = 40 := by simp [outB, leB_length, h.1]
theorem inB_length (x : TIn) (h : InOk x) : (inB x).length = 40 + lenN x.key.length + x.key.length := by simp [inB, leB_length, putL_length, h.1]; omega
theorem outsB_length : ∀ (l : List TOut), OutsOk l → (outsB l).length = 40 * l.length
  | [], _ => rfl
  | y :: l, h => by
    have ih := outsB_length l (fun z hz => h z (List.mem_cons_of_mem _ hz))
    simp only [outsB] at ih
    simp only [outsB, List.flatMap_cons, List.length_append, ih, outB_length y (h y List.mem_cons_self), List.length_cons]
    omega
theorem lenN_small {n : Nat} (h : n < 253) : lenN n = 1 := by unfold lenN; rw [if_pos h]
theorem leB_inj {n m k : Nat} (hn : n < 256 ^ k) (hm : m < 256 ^ k) (h : leB n k = leB m k) : n = m := by
  rw [← leN_leB_of hn, h, leN_leB_of hm]
/-- Bytes in front that tell their own length. -/
theorem putL_cut {n m : Nat} {r s : List UInt8} (hn : n ≤ 18446744073709551615) (hm : m ≤ 18446744073709551615) (h : putL n ++ r = putL m ++ s) : n = m ∧ r = s := by
  rcases lenN_eq n with ⟨a, b⟩ | ⟨a, b⟩ | ⟨a, b⟩ | ⟨a, b⟩ <;> rcases lenN_eq m with ⟨c, d⟩ | ⟨c, d⟩ | ⟨c, d⟩ | ⟨c, d⟩ <;> rw [b, d] at h
  · have hn2 : n < 253 := by unfold lenN at a; split at a <;> (try split at a) <;> (try split at a) <;> omega
    have hm2 : m < 253 := by unfold lenN at c; split at c <;> (try split at c) <;> (try split at c) <;> omega
    simp only [List.cons_append, List.nil_append, List.cons.injEq] at h
    refine ⟨?_, h.2⟩
    have h1 := congrArg UInt8.toNat h.1
    rw [UInt8.toNat_ofNat', UInt8.toNat_ofNat'] at h1
    omega
  all_goals first
    | (have hn2 : n < 253 := by unfold lenN at a; split at a <;> (try split at a) <;> (try split at a) <;> omega
       simp only [List.cons_append, List.nil_append, List.cons.injEq] at h
       have h1 := congrArg UInt8.toNat h.1
       rw [UInt8.toNat_ofNat'] at h1
       simp at h1
       omega)
    | (have hm2 : m < 253 := by unfold lenN at c; split at c <;> (try split at c) <;> (try split at c) <;> omega
       simp only [List.cons_append, List.nil_append, List.cons.injEq] at h
       have h1 := congrArg UInt8.toNat h.1
       rw [UInt8.toNat_ofNat'] at h1
       simp at h1
       omega)
    | (simp only [List.cons_append, List.cons.injEq] at h
       obtain ⟨h1, h2⟩ := h
       obtain ⟨h3, h4⟩ := List.append_inj h2 (by simp [leB_length])
       refine ⟨leB_inj ?_ ?_ h3, h4⟩ <;> (unfold lenN at a c; split at a <;> (try split at a) <;> (try split at a) <;> split at c <;> (try split at c) <;> (try split at c) <;> omega))
    | (exfalso
       simp only [List.cons_append, List.cons.injEq] at h
       have h1 := congrArg UInt8.toNat h.1
       revert h1
       decide)
theorem inB_cut {x y : TIn} {r s : List UInt8} (hx : InOk x) (hy : InOk y) (hkx : x.key.length ≤ 18446744073709551615) (hky : y.key.length ≤ 18446744073709551615) (h : inB x ++ r = inB y ++ s) : x = y ∧ r = s := by
  obtain ⟨hx1, hx2, hx3⟩ := hx
  obtain ⟨hy1, hy2, hy3⟩ := hy
  simp only [inB, List.append_assoc] at h
  obtain ⟨e1, h⟩ := List.append_inj h (by rw [hx1, hy1])
  obtain ⟨e2, h⟩ := List.append_inj h (by simp [leB_length])
  obtain ⟨e3, h⟩ := putL_cut hkx hky h
  obtain ⟨e4, h⟩ := List.append_inj h e3
  obtain ⟨e5, h⟩ := List.append_inj h (by simp [leB_length])
  have e6 := leB_inj (by omega) (by omega) e2
  have e7 := leB_inj (by omega) (by omega) e5
  obtain ⟨a, b, c, d⟩ := x
  obtain ⟨a', b', c', d'⟩ := y
  simp only at e1 e4 e6 e7
  subst e1 e4 e6 e7
  exact ⟨rfl, List.append_cancel_left h⟩
theorem outB_cut {x y : TOut} {r s : List UInt8} (hx : OutOk x) (hy : OutOk y) (h : outB x ++ r = outB y ++ s) : x = y ∧ r = s := by
  obtain ⟨hx1, hx2⟩ := hx
  obtain ⟨hy1, hy2⟩ := hy
  simp only [outB, List.append_assoc] at h
  obtain ⟨e1, h⟩ := List.append_inj h (by simp [leB_length])
  obtain ⟨e2, h⟩ := List.append_inj h (by rw [hx1, hy1])
  have e3 := leB_inj (by omega) (by omega) e1
  obtain ⟨a, b⟩ := x
  obtain ⟨a', b'⟩ := y
  simp only at e2 e3
  subst e2 e3
  exact ⟨rfl, List.append_cancel_left h⟩
def KeysLe (l : List TIn) (n : Nat) : Prop := ∀ x ∈ l, x.key.length ≤ n
theorem insB_cut : ∀ (l m : List TIn) {r s : List UInt8}, l.length = m.length → InsOk l → InsOk m → KeysLe l 18446744073709551615 → KeysLe m 18446744073709551615 → insB l ++ r = insB m ++ s → l = m ∧ r = s
  | [], [], r, s, _, _, _, _, _, h => ⟨rfl, by simpa [insB] using h⟩
  | x :: l, y :: m, r, s, hl, h1, h2, k1, k2, h => by
    simp only [insB, List.flatMap_cons, List.append_assoc] at h
    obtain ⟨e1, h⟩ := inB_cut (h1 x List.mem_cons_self) (h2 y List.mem_cons_self) (k1 x List.mem_cons_self) (k2 y List.mem_cons_self) h
    obtain ⟨e2, h⟩ := insB_cut l m (by simpa using hl) (fun z hz => h1 z (List.mem_cons_of_mem _ hz)) (fun z hz => h2 z (List.mem_cons_of_mem _ hz)) (fun z hz => k1 z (List.mem_cons_of_mem _ hz)) (fun z hz => k2 z (List.mem_cons_of_mem _ hz)) h
    exact ⟨by rw [e1, e2], h⟩
theorem outsB_cut : ∀ (l m : List TOut) {r s : List UInt8}, l.length = m.length → OutsOk l → OutsOk m → outsB l ++ r = outsB m ++ s → l = m ∧ r = s
  | [], [], r, s, _, _, _, h => ⟨rfl, by simpa [outsB] using h⟩
  | x :: l, y :: m, r, s, hl, h1, h2, h => by
    simp only [outsB, List.flatMap_cons, List.append_assoc] at h
    obtain ⟨e1, h⟩ := outB_cut (h1 x List.mem_cons_self) (h2 y List.mem_cons_self) h
    obtain ⟨e2, h⟩ := outsB_cut l m (by simpa using hl) (fun z hz => h1 z (List.mem_cons_of_mem _ hz)) (fun z hz => h2 z (List.mem_cons_of_mem _ hz)) h
    exact ⟨by rw [e1, e2], h⟩
/-- All that may be of a transaction that is small enough to be in memory. -/
def TxFit (t : TTx) : Prop := TxOk t ∧ InsOk t.ins ∧ OutsOk t.outs ∧ KeysLe t.ins 18446744073709551615 ∧ t.ins.length ≤ 18446744073709551615 ∧ t.outs.length ≤ 18446744073709551615
/-- Two with the same bytes, whatever stands behind, are one. -/
theorem txB_cut {t u : TTx} {r s : List UInt8} (ht : TxFit t) (hu : TxFit u) (h : txB t ++ r = txB u ++ s) : t = u ∧ r = s := by
  obtain ⟨⟨a1, a2⟩, a3, a4, a5, a6, a7⟩ := ht
  obtain ⟨⟨b1, b2⟩, b3, b4, b5, b6, b7⟩ := hu
  simp only [txB, List.append_assoc] at h
  obtain ⟨e1, h⟩ := List.append_inj h (by simp [leB_length])
  obtain ⟨e2, h⟩ := putL_cut a6 b6 h
  obtain ⟨e3, h⟩ := insB_cut _ _ e2 a3 b3 a5 b5 h
  obtain ⟨e4, h⟩ := putL_cut a7 b7 h
  obtain ⟨e5, h⟩ := outsB_cut _ _ e4 a4 b4 h
  obtain ⟨e6, h⟩ := List.append_inj h (by simp [leB_length])
  have e7 := leB_inj (by omega) (by omega) e1
  have e8 := leB_inj (by omega) (by omega) e6
  obtain ⟨a, b, c, d⟩ := t
  obtain ⟨a', b', c', d'⟩ := u
  simp only at e3 e5 e7 e8
  subst e3 e5 e7 e8
  exact ⟨rfl, List.append_cancel_left h⟩
theorem txB_inj {t u : TTx} (ht : TxFit t) (hu : TxFit u) (h : txB t = txB u) : t = u := (txB_cut (r := []) (s := []) ht hu (by rw [h])).1
/-- A transaction that makes coins: one input, of none. -/
def isNullIn (x : TIn) : Bool := decide (x.h = List.replicate 32 0) && decide (x.n = 4294967295)
def baseB (t : TTx) : Bool := match t.ins with
  | [x] => isNullIn x
  | _ => false
def samePtIn (x y : TIn) : Bool := decide (x.h = y.h) && decide (x.n = y.n)
/-- Two inputs with one place? -/
def twiceB : List TIn → Bool
  | [] => false
  | x :: l => l.any (samePtIn x) || twiceB l
/-- What is amiss first: the error's number, 0 if nothing is. -/
def checkN (t : TTx) : Nat :=
  if t.ins.length = 0 ∨ 50 < t.ins.length ∨ t.outs.length = 0 ∨ 50 < t.outs.length then 104
  else if 4000 < (txB t).length then 103
  else if t.ins.any (fun x => decide (80 < x.key.length)) then 114
  else if sumIs (t.outs.map (·.val)) = false then 105
  else if twiceB t.ins then 106
  else if baseB t then (if t.ins.any (fun x => decide (x.key.length < 4)) then 107 else 0)
  else if t.ins.any isNullIn then 107 else 0
end Go.Proofs.YtcghbogkplcohaaDoor.Sha
