/-
  Texts of this proof joined into one file: SqMet, CoM, LkM, CoSt, VlRipe, CoCoin, CoPb, SqFin. What each holds, and under which conditions, its own first sentence tells.
-/
import Derived.Deep.CutBlock
import Derived.Test.YtckkcpplanfmhaaGreatDoorMg16
import Derived.Test.YtckkcpplanfmhaaGreatDoorMg13
import Derived.Test.YtckkcpplanfmhaaGreatDoorMg14
import Derived.Test.YtckkcpplanfmhaaGreatDoorMg07
import Derived.Test.YtckkcpplanfmhaaGreatDoorMg02
import Derived.Test.YtckkcpplanfmhaaGreatDoorMg08
import Derived.Test.YtckkcpplanfmhaaGreatDoorMg04
import Derived.Test.YtckkcpplanfmhaaGreatDoorMg11
import Derived.Test.YtckkcpplanfmhaaGreatDoorMg05
import Derived.Test.YtckkcpplanfmhaaGreatDoorMg01
import Derived.Test.YtckkcpplanfmhaaGreatDoorMg03
import Derived.Test.YtckkcpplanfmhaaGreatDoorMg15
import Derived.Test.YtckkcpplanfmhaaGreatDoorMg12
import Derived.Test.YtckkcpplanfmhaaGreatDoorMg06
/-
  The project's own: whether a transaction has waited long enough, and that it has not where the rows are not as many as the inputs. Nothing that was there turns. Conditions: as for Need.
-/
namespace Go.Proofs.YtckkcpplanfmhaaGreatDoor.Sha
open Go Go.RowKit
set_option maxHeartbeats 2000000 in
set_option maxRecDepth 100000 in
theorem sqmet_any (w : World) (v vh vp : Value) (t : TTx) (hs : List Int) (ps : List Nat) (height : Int) (past : Nat) (h : TxAt w v t) (hh : RwAt 1 w vh (hs.map intC)) (hp : RwAt 1 w vp (ps.map u32C)) (hl1 : hs.length = t.ins.length) (hl2 : ps.length = t.ins.length) (hm : t.ins.length ≤ 1000000) (hho : ∀ x ∈ hs, HtOk x) (hb : ∀ p ∈ ps, p ≤ 4294967295) (hpa : past ≤ 4294967295) :
    Calls Tryz.prog 74 #[v, vh, vp, .int .i64 height, .int .u32 (past : Int)] w fun e w' => e = .returned (.bool (sqmetB t hs ps height past)) ∧ Below w.heap.size w w' := by
  have h0 := h
  obtain ⟨_, iv, ov, rfl, hin, hou⟩ := h
  have TONE : Hid ((txL t iv ov).toArray.all (·.oneCell') = true) := tx_one hin hou
  have LT : Hid ((txL t iv ov).toArray.size = 4) := rfl
  have ND : Hid (∀ W, Below w.heap.size w W → Calls Tryz.prog 104 #[.agg (txL t iv ov).toArray, vh, vp] W fun e w' => e = .returned (.tuple #[.int .i64 (sqV t hs ps).1, .int .i64 (sqV t hs ps).2, .bool true]) ∧ Below W.heap.size W w') := fun W hW => sqneed_any W _ vh vp t hs ps (h0.below hW) (hh.below hW) (hp.below hW) hl1 hl2 hm hho hb
  have ME : Hid (sqmetB t hs ps height past = (decide ((sqV t hs ps).1 < height) && decide ((sqV t hs ps).2 < (past : Int)))) := rfl
  obtain ⟨R, hR⟩ : ∃ R, R = sqmetB t hs ps height past := ⟨_, rfl⟩
  rw [← hR] at ME ⊢
  obtain ⟨a1, ha1⟩ : ∃ a1, a1 = (sqV t hs ps).1 := ⟨_, rfl⟩
  obtain ⟨a2, ha2⟩ : ∃ a2, a2 = (sqV t hs ps).2 := ⟨_, rfl⟩
  rw [← ha1, ← ha2] at ND ME
  obtain ⟨ct, hct⟩ : ∃ ct, ct = txL t iv ov := ⟨_, rfl⟩
  rw [← hct] at TONE LT ND ⊢
  clear h0 hin hou hh hp hl1 hl2 hm hho hb hR ha1 ha2 hct
  go_enter Tryz.func74, Tryz.ntmps74
  go_upto_region 1 with fail
  have f5 := heap_alloc_new w (.cells ct.toArray 27 (0, 0))
  have b1 := (Below.refl w.heap.size w).alloc (Nat.le_refl _) (.cells ct.toArray 27 (0, 0))
  generalize hw1 : World.alloc _ _ = w1
  have e1 : w.alloc (.cells ct.toArray 27 (0, 0)) = w1 := hw1
  rw [e1] at f5 b1
  obtain ⟨g5, hg5⟩ : ∃ g5, g5 = w.heap.size := ⟨_, rfl⟩
  rw [← hg5] at f5 ⊢
  have F5 := Lib.hid f5
  have B1 := Lib.hid b1
  clear f5 b1 hw1 e1 hg5
  go_wp2_with ((with_reducible show wpList _ _ _ _ _ _); (refine wpList_load_row rfl 27 (.tmp 5) rfl g5 rfl 27 ct.toArray (0, 0) _ F5.out Tryz.underlying27 rfl (by rw [LT.out]; kernel_rfl) ?_; go_frame))
  refine (ND.out w1 B1.out).mono ?_
  rintro e w2 ⟨rfl, bb⟩
  have B1 := Lib.hid (B1.out.trans (bb.mono B1.out.size))
  clear bb ND F5
  by_cases h1 : a1 < height
  · by_cases h2 : a2 < (past : Int)
    · have hw1 : IntKind.i64.wrap (past : Int) = (past : Int) := i64_stays (by omega)
      have hw2 : wrap64 (past : Int) = (past : Int) := by rw [← IntWalk.i64_left]; exact hw1
      have RV : Hid (R = true) := by show _ = _; rw [ME.out, decide_eq_true h1, decide_eq_true h2]; rfl
      have h3 : ¬ (past : Int) ≤ a2 := by omega
      have h4 : ¬ height ≤ a1 := by omega
      go_wp2_with fail
      go_ret
      exact ⟨by rw [RV.out]; first | rfl | (rw [decide_eq_true (show a2 < (past : Int) by omega)]; rfl), B1.out⟩
    · have hw1 : IntKind.i64.wrap (past : Int) = (past : Int) := i64_stays (by omega)
      have hw2 : wrap64 (past : Int) = (past : Int) := by rw [← IntWalk.i64_left]; exact hw1
      have RV : Hid (R = false) := by show _ = _; rw [ME.out, decide_eq_true h1, decide_eq_false h2]; rfl
      have h4 : ¬ height ≤ a1 := by omega
      have h3 : (past : Int) ≤ a2 := by omega
      go_wp2_with fail
      go_ret
      exact ⟨by rw [RV.out]; first | rfl | (rw [decide_eq_false (show ¬ a2 < (past : Int) by omega)]; rfl), B1.out⟩
  · have RV : Hid (R = false) := by show _ = _; rw [ME.out, decide_eq_false h1]; rfl
    have h4 : height ≤ a1 := by omega
    go_wp2_with fail
    go_ret
    exact ⟨by rw [RV.out]; rfl, B1.out⟩
end Go.Proofs.YtckkcpplanfmhaaGreatDoor.Sha

/-
  Package conn: what Tx answers, as plain values. No conditions.
-/
namespace Go.Proofs.YtckkcpplanfmhaaGreatDoor.Sha
open Go Go.RowKit
/-- What is there for each input, by what is asked. -/
def msG (get : TPt → Option TMn) (t : TTx) : List TMn := t.ins.map fun x => (get (ptOf x)).getD mnZ
def isG (get : TPt → Option TMn) (t : TTx) : List Bool := t.ins.map fun x => (get (ptOf x)).isSome
def coW (t : TTx) (ms : List TMn) (ht : Int) (ps : List Nat) : Nat × Nat × Option Nat :=
  if (feeR t ms).2.1 ≠ 0 then (0, (feeR t ms).2) else
  if (finB t ht (ps.getD (ps.length - 1) 0) && metB t (ms.map (·.height)) (pzL ms ps) ht (ps.getD (ps.length - 1) 0)) = false then (0, 16, none) else feeR t ms
def coV (t : TTx) (ms : List TMn) (es : List Bool) (ht : Int) (ps : List Nat) (mat : Int) : Nat × Nat × Option Nat :=
  match (tuB ms es ht mat).findIdx? (fun b => !(b.1 && b.2)) with
  | some i => (0, if ((tuB ms es ht mat).getD i (true, true)).1 then 15 else 13, some i)
  | none => coW t ms ht ps
def coR (t : TTx) (ms : List TMn) (es : List Bool) (ht : Int) (ps : List Nat) (mat : Int) : Nat × Nat × Option Nat :=
  if (1 ≤ ht ∧ (ps.length : Int) = ht) then coV t ms es ht ps mat else (0, 2, none)
theorem fltC_of (r : Nat × Option Nat) : fltC (fltL r) = numE r.1 := by
  obtain ⟨c, p⟩ := r
  cases p <;> rfl
theorem numE_zero (c : Nat) : numE c = 0 ↔ c = 0 := by
  cases c with
  | zero => exact ⟨fun _ => rfl, fun _ => rfl⟩
  | succ q => exact ⟨fun h => by have : ((101 + q : Nat) : Int) = 0 := h; omega, fun h => by omega⟩
theorem txW_co (t : TTx) (ms : List TMn) (ht : Int) (ps : List Nat) : txW t ms ht ps = ((coW t ms ht ps).1, fltL (coW t ms ht ps).2) := by
  unfold txW coW
  rw [feeL_of]
  simp only [fltC_of]
  by_cases h : (feeR t ms).2.1 = 0
  · rw [if_neg (by rw [ne_eq, numE_zero]; exact fun q => q h), if_neg (c := (feeR t ms).2.1 ≠ 0) (fun q => q h)]
    generalize (finB t ht (ps.getD (ps.length - 1) 0) && metB t (ms.map (·.height)) (pzL ms ps) ht (ps.getD (ps.length - 1) 0)) = b
    cases b <;> rfl
  · rw [if_pos (by rw [ne_eq, numE_zero]; exact h), if_pos h]
theorem txV_co (t : TTx) (ms : List TMn) (es : List Bool) (ht : Int) (ps : List Nat) (mat : Int) : txV t ms es ht ps mat = ((coV t ms es ht ps mat).1, fltL (coV t ms es ht ps mat).2) := by
  unfold txV coV
  cases h : (tuB ms es ht mat).findIdx? (fun b => !(b.1 && b.2)) with
  | none => exact txW_co t ms ht ps
  | some i =>
    show (0, pC (if ((tuB ms es ht mat).getD i (true, true)).1 then 115 else 113) (i : Int)) = (0, fltL (if ((tuB ms es ht mat).getD i (true, true)).1 then 15 else 13, some i))
    generalize ((tuB ms es ht mat).getD i (true, true)).1 = b
    cases b <;> rfl
theorem feeW_le (va vb : List Nat) : (feeW va vb).2.1 ≤ 25 := by
  unfold feeW
  split
  · show 5 ≤ 25
    omega
  · split
    · show 17 ≤ 25
      omega
    · show 0 ≤ 25
      omega
theorem feeR_le' (t : TTx) (ms : List TMn) : (feeR t ms).2.1 ≤ 25 := by
  unfold feeR
  split
  · show 2 ≤ 25
    omega
  · split
    · show 14 ≤ 25
      omega
    · exact feeW_le _ _
theorem coW_le (t : TTx) (ms : List TMn) (ht : Int) (ps : List Nat) : (coW t ms ht ps).2.1 ≤ 25 := by
  unfold coW
  split
  · exact feeR_le' t ms
  · split
    · show 16 ≤ 25
      omega
    · exact feeR_le' t ms
theorem coV_le (t : TTx) (ms : List TMn) (es : List Bool) (ht : Int) (ps : List Nat) (mat : Int) : (coV t ms es ht ps mat).2.1 ≤ 25 := by
  unfold coV
  split
  · show (if _ then 15 else 13) ≤ 25
    split <;> omega
  · exact coW_le t ms ht ps
theorem coR_le (t : TTx) (ms : List TMn) (es : List Bool) (ht : Int) (ps : List Nat) (mat : Int) : (coR t ms es ht ps mat).2.1 ≤ 25 := by
  unfold coR
  split
  · exact coV_le t ms es ht ps mat
  · show 2 ≤ 25
    omega
theorem sqmet_met {t : TTx} {hs : List Int} {ps : List Nat} {ht : Int} {past : Nat} (h : ∀ x ∈ hs, 0 ≤ x ∧ x ≤ 1099511627776) : sqmetB t hs ps ht past = metB t hs ps ht past := by
  unfold sqmetB metB
  rw [sqV_needL h]
end Go.Proofs.YtckkcpplanfmhaaGreatDoor.Sha

/-
  The law on locks: its transaction, coin and pasts as plain values, and what conn.Tx tells of them. No conditions.
-/
namespace Go.Proofs.YtckkcpplanfmhaaGreatDoor.Sha
open Go Go.RowKit
def lkH : List UInt8 := 2 :: List.replicate 31 0
def lkP : TPt := ⟨lkH, 0⟩
def lkC : TMn := ⟨9, sha [6], 3, false⟩
def lkX (s : Nat) : TIn := ⟨lkH, 0, [6], s⟩
def lkO : TOut := ⟨4, List.replicate 32 0⟩
def lkT (s : Nat) : TTx := ⟨2, [lkX s], [lkO], 0⟩
def lkPs (n : Nat) : List Nat := (List.range n).map fun i => 10000 + 512 * i
theorem lkPs_succ (n : Nat) : lkPs (n + 1) = lkPs n ++ [10000 + 512 * n] := by unfold lkPs; rw [List.range_succ, List.map_append]; rfl
theorem lkPs_length (n : Nat) : (lkPs n).length = n := by simp [lkPs]
theorem lkPs_get {n i : Nat} (h : i < n) : (lkPs n).getD i 0 = 10000 + 512 * i := by
  rw [List.getD_eq_getElem?_getD]
  unfold lkPs
  rw [List.getElem?_map, List.getElem?_range h]
  rfl
theorem lkC_ok : MnOk lkC := ⟨sha_length _, by show 9 ≤ _; omega, by show _ ≤ (3 : Int); omega, by show (3 : Int) ≤ _; omega⟩
theorem lkP_ok : PtOk lkP := ⟨rfl, Nat.zero_le _⟩
theorem lk_get : getC [⟨lkP, lkC⟩] lkP = some lkC := by simp [getC]
theorem lk_ms (s : Nat) : msG (getC [⟨lkP, lkC⟩]) (lkT s) = [lkC] := by
  show [(getC [⟨lkP, lkC⟩] lkP).getD mnZ] = _
  rw [lk_get]
  rfl
theorem lk_is (s : Nat) : isG (getC [⟨lkP, lkC⟩]) (lkT s) = [true] := by
  show [(getC [⟨lkP, lkC⟩] lkP).isSome] = _
  rw [lk_get]
  rfl
theorem lk_fee (s : Nat) : feeR (lkT s) [lkC] = (5, 0, none) := by
  have h : opensL [6] (sha [6]) = true := by unfold opensL; simp
  have hb : opB (lkT s) [lkC] = [true] := by
    show [opensL [6] (sha [6])] = _
    rw [h]
  unfold feeR
  rw [hb, if_neg (by show ¬ 1 ≠ 1; simp)]
  show feeW [9] [4] = _
  decide
theorem lk_need (s : Nat) (p : Nat) : needL (lkT s) [3] [p] = sqV (sqT 2 s) [((3 : Nat) : Int)] [p] := by
  rw [sqV_needL (fun x hx => by rw [List.mem_singleton.1 hx]; omega)]
  rfl
theorem lk_pz {n : Nat} (h : 4 ≤ n) : pzL [lkC] (lkPs n) = [11024] := by
  show [(lkPs n).getD (behI (lkPs n) 3) 0] = _
  have e : behI (lkPs n) 3 = 2 := by unfold behI; rw [lkPs_length]; omega
  rw [e, lkPs_get (by omega)]
theorem lk_co {s n : Nat} {b : Bool} (h : 4 ≤ n) (hm : metB (lkT s) [3] [11024] (n : Int) (10000 + 512 * (n - 1)) = b) : coR (lkT s) (msG (getC [⟨lkP, lkC⟩]) (lkT s)) (isG (getC [⟨lkP, lkC⟩]) (lkT s)) (n : Int) (lkPs n) 0 = if b then (5, 0, none) else (0, 16, none) := by
  rw [lk_ms, lk_is]
  unfold coR
  rw [if_pos (by rw [lkPs_length]; omega)]
  have ht : tuB [lkC] [true] (n : Int) 0 = [(true, true)] := rfl
  unfold coV
  rw [ht]
  show coW (lkT s) [lkC] (n : Int) (lkPs n) = _
  unfold coW
  rw [lk_fee, if_neg (by show ¬ (0 : Nat) ≠ 0; simp), lk_pz h, lkPs_length, lkPs_get (show n - 1 < n by omega)]
  have hf : finB (lkT s) (n : Int) (10000 + 512 * (n - 1)) = true := by unfold finB; rw [if_pos (.inl rfl)]
  rw [hf, show ([lkC].map (·.height)) = [3] from rfl, hm]
  cases b <;> rfl
theorem lk_met {w n : Nat} (hw : w < 65536) (h : 4 ≤ n) : metB (lkT w) [3] [11024] (n : Int) (10000 + 512 * (n - 1)) = !decide ((n : Int) - 3 < (w : Int)) := by
  unfold metB
  rw [lk_need, sqV_plain hw]
  by_cases e : (n : Int) - 3 < (w : Int)
  · rw [decide_eq_true e, decide_eq_false (show ¬ (((3 : Nat) : Int) + (w : Int) - 1 < (n : Int)) by omega)]
    rfl
  · rw [decide_eq_false e, decide_eq_true (show ((3 : Nat) : Int) + (w : Int) - 1 < (n : Int) by omega), decide_eq_true (show (-1 : Int) < ((10000 + 512 * (n - 1) : Nat) : Int) by omega)]
    rfl
theorem lk_metT {w n : Nat} (hw : w < 65536) (h : 4 ≤ n) : metB (lkT (w ||| 4194304)) [3] [11024] (n : Int) (10000 + 512 * (n - 1)) = !decide ((n : Int) - 3 < (w : Int)) := by
  unfold metB
  rw [lk_need, sqV_time hw]
  by_cases e : (n : Int) - 3 < (w : Int)
  · rw [decide_eq_true e, decide_eq_false (show ¬ (((11024 : Nat) : Int) + 512 * (w : Int) - 1 < ((10000 + 512 * (n - 1) : Nat) : Int)) by omega)]
    simp
  · rw [decide_eq_false e, decide_eq_true (show ((11024 : Nat) : Int) + 512 * (w : Int) - 1 < ((10000 + 512 * (n - 1) : Nat) : Int) by omega), decide_eq_true (show (-1 : Int) < (n : Int) by omega)]
    rfl
end Go.Proofs.YtckkcpplanfmhaaGreatDoor.Sha

/-
  Two sets that are told alike, the project's and the statements' own: what each call leaves of them. Conditions: they lie in memory laid since the law began.
-/
namespace Go.Proofs.YtckkcpplanfmhaaGreatDoor.Sha
open Go Go.RowKit
/-- The statements' own holds the same coins, in order. -/
structure CoL (s L : List TSp) : Prop where
  pm : L.Perm s
  so : SortedC L
theorem CoL.get {s L : List TSp} (h : CoL s L) (q : TPt) : getC L q = getC s q := getC_perm h.pm (sorted_apart h.so)
theorem CoL.len {s L : List TSp} (h : CoL s L) : L.length = s.length := h.pm.length_eq
theorem CoL.addR {s L : List TSp} (h : CoL s L) (q : TPt) (c : TMn) : addR L q c = addR s q c := addR_perm (h.get q)
theorem CoL.add {s L L' : List TSp} (h : CoL s L) (q : TPt) (c : TMn) (hp : L'.Perm (addL L q c)) (hs : SortedC L') : CoL (addL s q c) L' := ⟨hp.trans (addL_perm h.pm (h.get q)), hs⟩
theorem CoL.nil : CoL [] [] := ⟨List.Perm.refl _, List.Pairwise.nil⟩
theorem addL_no {s : List TSp} {q : TPt} {c : TMn} (h : addR s q c ≠ 0) : addL s q c = s := by
  unfold addL
  rw [if_neg h]
/-- The coins behind a row of adds. -/
def coinsL (l : List TSp) : List TSp := l.foldl (fun s x => addL s x.at_ x.coin) []
theorem coinsL_snoc (l : List TSp) (x : TSp) : coinsL (l ++ [x]) = addL (coinsL l) x.at_ x.coin := by unfold coinsL; rw [List.foldl_append]; rfl
theorem coinsL_take {l : List TSp} {k : Nat} {x : TSp} (h : l[k]? = some x) : coinsL (l.take (k + 1)) = addL (coinsL (l.take k)) x.at_ x.coin := by
  obtain ⟨hk, rfl⟩ := List.getElem?_eq_some_iff.1 h
  rw [List.take_succ_eq_append_getElem hk, coinsL_snoc]
theorem addL_mem {s : List TSp} {q : TPt} {c : TMn} {x : TSp} (h : x ∈ addL s q c) : x ∈ s ∨ x = ⟨q, c⟩ := by
  unfold addL at h
  split at h
  · rcases List.mem_append.1 h with h | h
    · exact .inl h
    · exact .inr (List.mem_singleton.1 h)
  · exact .inl h
theorem coinsL_mem : ∀ (l : List TSp) (s : List TSp) (x : TSp), x ∈ l.foldl (fun s x => addL s x.at_ x.coin) s → x ∈ s ∨ x ∈ l
  | [], s, x, h => .inl h
  | y :: l, s, x, h => by
    rcases coinsL_mem l _ x h with h | h
    · rcases addL_mem h with h | h
      · exact .inl h
      · exact .inr (by rw [h]; exact List.mem_cons_self)
    · exact .inr (List.mem_cons_of_mem _ h)
theorem coinsL_in {l : List TSp} {x : TSp} (h : x ∈ coinsL l) : x ∈ l := by
  rcases coinsL_mem l [] x h with h | h
  · cases h
  · exact h
theorem addL_le (s : List TSp) (q : TPt) (c : TMn) : (addL s q c).length ≤ s.length + 1 := by
  unfold addL
  split
  · simp
  · omega
theorem coinsL_len (l : List TSp) : (coinsL l).length ≤ l.length := by
  have : ∀ (l s : List TSp), (l.foldl (fun s x => addL s x.at_ x.coin) s).length ≤ s.length + l.length := by
    intro l
    induction l with
    | nil => intro s; simp
    | cons y l ih =>
      intro s
      have h1 := ih (addL s y.at_ y.coin)
      have h2 := addL_le s y.at_ y.coin
      simp only [List.foldl_cons, List.length_cons]
      omega
  have h := this l []
  simpa [coinsL] using h
structure CoG (w wr : World) (g6 : Nat) (m : Option Nat) (s : List TSp) (g7 : Nat) (v : Value) (L : List TSp) : Prop where
  l : SetAt wr g6 m s
  r : RefAt wr w.heap.size g7 v L
  hi : HiM w.heap.size m
  h6 : w.heap.size ≤ g6
  h7 : w.heap.size ≤ g7
  bel : Below w.heap.size w wr
variable {w wr wr' : World} {g6 g7 : Nat} {m m' : Option Nat} {s s' L L' : List TSp} {v v' : Value}
theorem CoG.below (h : CoG w wr g6 m s g7 v L) (hb : Below wr.heap.size wr wr') : CoG w wr' g6 m s g7 v L :=
  ⟨h.l.below hb, h.r.below hb, h.hi, h.h6, h.h7, h.bel.trans (hb.mono h.bel.size)⟩
theorem CoG.left (h : CoG w wr g6 m s g7 v L) (hk : Kps (fun j => j ≠ g6 ∧ m ≠ some j) wr wr') (hs : SetAt wr' g6 m' s') (hm : m' = m ∨ ∃ q, m' = some q ∧ wr.heap.size ≤ q) : CoG w wr' g6 m' s' g7 v L := by
  obtain ⟨a1, a2⟩ := h.r.apart h.l
  exact ⟨hs, h.r.kps hk a1 a2, HiM.add h.hi h.bel.size hm, h.h6, h.h7, Below.set h.bel hk h.h6 h.hi h.bel.size⟩
theorem CoG.ref (h : CoG w wr g6 m s g7 v L) (hk : Kps (fun j => j ≠ g7) wr wr') (hr : RefAt wr' w.heap.size g7 v' L') : CoG w wr' g6 m s g7 v' L' := by
  obtain ⟨a1, _⟩ := h.r.apart h.l
  refine ⟨h.l.kps hk (fun e => a1.1 e.symm) (fun q e e' => a1.2 (by rw [e, e'])), hr, h.hi, h.h6, h.h7, ?_⟩
  exact h.bel.trans ⟨hk.os, hk.tape, hk.output, hk.size, fun k hlt => hk.block k (by have := h.bel.size; omega) (by have := h.h7; show k ≠ g7; omega)⟩
theorem CoG.ok (h : CoG w wr g6 m s g7 v L) (hp : CoL s L) : ∀ x ∈ L, SpOk x := fun x hx => h.l.map.ok x (hp.pm.mem_iff.1 hx)
theorem co_add (h : CoG w wr g6 m s g7 v L) (E : Nat → Addr) (hE : EC wr E) (q : TPt) (c : TMn) (hq : PtOk q) (hc : MnOk c) :
    Calls Tryz.prog 19 #[.pointer (some ⟨g6, 0, none⟩), .agg (ptC q).toArray, .agg (mnL c).toArray] wr fun e w' => e = .returned (errV E (addR s q c)) ∧ ∃ m', CoG w w' g6 m' (addL s q c) g7 v L :=
  (setadd_any E wr g6 m s q c hE h.l hq hc).mono fun _ _ ⟨he, m', hs, hm, hk⟩ => ⟨he, m', h.left hk hs hm⟩
theorem co_radd (h : CoG w wr g6 m s g7 v L) (hp : CoL s L) (hn : s.length ≤ 1048576) (q : TPt) (c : TMn) (hq : PtOk q) (hc : MnOk c) :
    Calls Tryz.prog 32 #[.pointer (some ⟨g7, 0, none⟩), .agg (ptC q).toArray, .agg (mnL c).toArray] wr fun e w' => e = .returned (.int .i64 (numE (addR s q c))) ∧ ∃ v' L', CoL (addL s q c) L' ∧ CoG w w' g6 m s g7 v' L' :=
  (radd_any wr w.heap.size g7 v L q c h.r hp.so (h.ok hp) hq hc (by rw [hp.len]; exact hn) h.bel.size).mono fun _ _ ⟨he, v', L', h1, h2, h3, hk⟩ => ⟨by rw [he, hp.addR], v', L', hp.add q c h1 h2, h.ref hk h3⟩
theorem co_rget (h : CoG w wr g6 m s g7 v L) (hp : CoL s L) (hn : s.length ≤ 1048576) (q : TPt) (hq : PtOk q) :
    Calls Tryz.prog 12 #[.pointer (some ⟨g7, 0, none⟩), .agg (ptC q).toArray] wr fun e w' => e = .returned (.tuple #[.agg (mnL ((getC s q).getD mnZ)).toArray, .bool (getC s q).isSome]) ∧ Below wr.heap.size wr w' := by
  rw [← hp.get q]
  exact rget_any wr w.heap.size g7 v L q h.r hp.so (h.ok hp) hq (by rw [hp.len]; exact hn)
end Go.Proofs.YtckkcpplanfmhaaGreatDoor.Sha

/-
  Package value: whether a coin is ripe. Nothing that was there turns. Conditions: numbers that an int holds.
-/
namespace Go.Proofs.YtckkcpplanfmhaaGreatDoor.Sha
open Go Go.RowKit
set_option maxHeartbeats 1000000 in
set_option maxRecDepth 100000 in
theorem vlripe_any (w : World) (c : TMn) (height maturity : Int) (hc : MnOk c) (h1 : -9223372036854775808 ≤ c.height + maturity) (h2 : c.height + maturity ≤ 9223372036854775807) :
    Calls Tryz.prog 67 #[.agg (mnL c).toArray, .int .i64 height, .int .i64 maturity] w fun e w' => e = .returned (.bool (ripeB c height maturity)) ∧ Below w.heap.size w w' := by
  have hb := range_of_box (heap_alloc_new w (.cells (mnL c).toArray 46 (0, 0)))
  have hh := mn_height hc.1 hb
  have hbs := mn_base hc.1 hb
  have bb := (Below.refl w.heap.size w).alloc (Nat.le_refl _) (.cells (mnL c).toArray 46 (0, 0))
  rw [Nat.zero_add] at hh hbs
  obtain ⟨ans, han⟩ : ∃ ans, ans = ripeB c height maturity := ⟨_, rfl⟩
  have AN : Hid (ans = (!c.base || decide (c.height + maturity ≤ height))) := han
  rw [← han]
  obtain ⟨cm, hcm⟩ : ∃ cm, cm = mnL c := ⟨_, rfl⟩
  rw [← hcm] at hh hbs bb ⊢
  obtain ⟨ht, hht⟩ : ∃ ht, ht = c.height := ⟨_, rfl⟩
  obtain ⟨bs, hbse⟩ : ∃ bs, bs = c.base := ⟨_, rfl⟩
  rw [← hht] at AN hh h1 h2
  rw [← hbse] at AN hbs
  clear hb han hcm hht hbse hc
  go_enter Tryz.func67, Tryz.ntmps67
  go_upto_region 1 with fail
  have hw1 : w.alloc (.cells cm.toArray 46 (0, 0)) = w.alloc (.cells cm.toArray 46 (0, 0)) := rfl
  generalize hq : World.alloc _ _ = w1
  have e1 : w.alloc (.cells cm.toArray 46 (0, 0)) = w1 := hq
  rw [e1] at hh hbs bb
  clear hw1 hq e1
  cases bs with
  | false =>
    go_wp2_with fail
    go_ret
    exact ⟨by rw [AN.out]; rfl, bb⟩
  | true =>
    have hwr : IntKind.i64.wrap (ht + maturity) = ht + maturity := by rw [IntKind.wrap_i64]; omega
    go_wp2_with fail
    go_ret
    exact ⟨by rw [AN.out]; rfl, bb⟩
end Go.Proofs.YtckkcpplanfmhaaGreatDoor.Sha

/-
  Package conn: the coins that a transaction spends, out of any keeper of coins that answers as GetE says. Nothing that was there turns. Conditions: the transaction lies in memory; the errors are there.
-/
namespace Go.Proofs.YtckkcpplanfmhaaGreatDoor.Sha
open Go Go.RowKit
/-- All errors of package api are there. -/
def CoE (w : World) (E : Nat → Addr) : Prop := ∀ i, i < 25 → w.cell? ⟨errG.getD i 0, 0, none⟩ = some (errV E (i + 1))
theorem Errs.co {w : World} {E : Nat → Addr} (h : Errs w E) : CoE w E := fun i hi => (h.1 i hi).1
theorem CoE.below {w w' : World} {E : Nat → Addr} (h : CoE w E) (hb : Below w.heap.size w w') : CoE w' E := fun i hi => cell_below (h i hi) hb
theorem CoE.fee {w : World} {E : Nat → Addr} (h : CoE w E) : FeE w E := fun i hi => h i (by rcases hi with rfl | rfl | rfl | rfl <;> decide)
/-- A keeper of coins behind an interface. -/
structure GetE (w : World) (ty : TypeId) (rv : Value) (fg : Nat) (get : TPt → Option TMn) : Prop where
  ml : ∀ (n : Nat) W, Sem.run Tryz.prog (method (n + 5) ty rv "Get") W = .ok (fg, rv) W
  el : ∀ args W, (callFunc fg args).run Tryz.prog W = .ok (.enter fg args) W
  ask : ∀ W q, Below w.heap.size w W → PtOk q → Calls Tryz.prog fg #[rv, .agg (ptC q).toArray] W fun e w' => e = .returned (.tuple #[.agg (mnL ((get q).getD mnZ)).toArray, .bool (get q).isSome]) ∧ Below W.heap.size W w'
  ok : ∀ q c, get q = some c → MnOk c ∧ 0 ≤ c.height ∧ c.height ≤ 1000000
theorem GetE.okD {w : World} {ty : TypeId} {rv : Value} {fg : Nat} {get : TPt → Option TMn} (h : GetE w ty rv fg get) (q : TPt) : MnOk ((get q).getD mnZ) ∧ 0 ≤ ((get q).getD mnZ).height ∧ ((get q).getD mnZ).height ≤ 1000000 := by
  cases hq : get q with
  | none => exact ⟨mnZ_ok, Int.le_refl _, by show (0 : Int) ≤ _; omega⟩
  | some c => exact h.ok q c hq
theorem GetE.below {w w' : World} {ty : TypeId} {rv : Value} {fg : Nat} {get : TPt → Option TMn} (h : GetE w ty rv fg get) (hb : Below w.heap.size w w') : GetE w' ty rv fg get :=
  ⟨h.ml, h.el, fun W q hW hq => h.ask W q (hb.trans (hW.mono hb.size)) hq, h.ok⟩
theorem getC_mem' {l : List TSp} {p : TPt} {c : TMn} (h : getC l p = some c) : ∃ x ∈ l, x.coin = c := by
  obtain ⟨x, h1, _, h3⟩ := getC_mem h
  exact ⟨x, h1, h3⟩
theorem set_get {w : World} {a : Nat} {m : Option Nat} {l : List TSp} (h : SetAt w a m l) (hh : ∀ x ∈ l, 0 ≤ x.coin.height ∧ x.coin.height ≤ 1000000) : GetE w 31 (.pointer (some ⟨a, 0, none⟩)) 200 (getC l) where
  ml := fun n W => by kernel_rfl
  el := enters_of Tryz.func200 (by kernel_rfl) rfl
  ask := fun W q hW hq => setget_any W a m l q (h.below hW) hq
  ok := fun q c hc => by
    obtain ⟨x, hx, rfl⟩ := getC_mem' hc
    exact ⟨(h.map.ok x hx).2, hh x hx⟩
theorem msG_get {get : TPt → Option TMn} {t : TTx} {j : Nat} {x : TIn} (h : t.ins[j]? = some x) : (msG get t)[j]? = some ((get (ptOf x)).getD mnZ) ∧ (isG get t)[j]? = some ((get (ptOf x)).isSome) := by
  unfold msG isG
  rw [List.getElem?_map, List.getElem?_map, h]
  exact ⟨rfl, rfl⟩
theorem msG_len (get : TPt → Option TMn) (t : TTx) : (msG get t).length = t.ins.length ∧ (isG get t).length = t.ins.length := by simp [msG, isG]
def CcI (B : List (Bool × Bool)) (ms : List TMn) (n base : Nat) (w : World) (vb vi : Value) (wr : World) : Prop :=
  ∃ (k : Nat) (vq : Value), vq = vb ∧ vi = .int .i64 (k : Int) ∧ k ≤ n ∧ (∀ j, j < k → B[j]? = some (true, true)) ∧ RwOwn 35 46 base wr vq ((ms.take k).map mnL) ∧ Below w.heap.size w wr
def CcP (w : World) (E : Nat → Addr) (B : List (Bool × Bool)) (ms : List TMn) (e : Ending) (w' : World) : Prop :=
  ((∃ i u, B.findIdx? (fun b => !(b.1 && b.2)) = some i ∧ e = .returned (.tuple #[.slice none 0 0, u]) ∧ FltV w' E u (if (B.getD i (true, true)).1 then 15 else 13, some i)) ∨ (∃ v', B.findIdx? (fun b => !(b.1 && b.2)) = none ∧ e = .returned (.tuple #[v', .nilIface]) ∧ RwAt 35 w' v' (ms.map mnL))) ∧ Below w.heap.size w w'
set_option maxHeartbeats 4000000 in
set_option maxRecDepth 100000 in
theorem cocoins_any (E : Nat → Addr) (w : World) (v : Value) (t : TTx) (ty : TypeId) (rv : Value) (fg : Nat) (get : TPt → Option TMn) (height mat : Int) (h : TxAt w v t) (hG : GetE w ty rv fg get) (hm : t.ins.length ≤ 1000000) (hmat : -1000000 ≤ mat ∧ mat ≤ 9223372036853775807) (hE : CoE w E) :
    Calls Tryz.prog 34 #[v, .iface ty rv, .int .i64 height, .int .i64 mat] w (CcP w E (tuB (msG get t) (isG get t) height mat) (msG get t)) := by
  obtain ⟨i0, hi, hz0, hz1, hz2⟩ := info_parts info_money
  have ml := hG.ml
  have el := hG.el
  have HG : Hid (GetE w ty rv fg get) := hG
  obtain ⟨_, iv, ov, rfl, hin, hou⟩ := h
  have TONE : Hid ((txL t iv ov).toArray.all (·.oneCell') = true) := tx_one hin hou
  have LT : Hid ((txL t iv ov).toArray.size = 4) := rfl
  have CO : Hid (∀ (W : World) (g : Nat), W.heap[g]? = some (.cells (txL t iv ov).toArray 27 (0, 0)) → W.cell? ⟨g, 1, none⟩ = some iv) := fun W g hg => (tx_cells hg).2.1
  obtain ⟨si, ci, rfl, _, hgi⟩ := hin
  obtain ⟨n, hn⟩ : ∃ n, n = t.ins.length := ⟨_, rfl⟩
  rw [← hn] at hm CO TONE LT hgi ⊢
  have N := Lib.hid hn
  have HI := Lib.hid hgi
  have HE := Lib.hid hE
  have NM := Lib.hid hm
  obtain ⟨B0, hB0⟩ : ∃ B, B = tuB (msG get t) (isG get t) height mat := ⟨_, rfl⟩
  obtain ⟨ms, hms⟩ : ∃ l, l = msG get t := ⟨_, rfl⟩
  have MG : Hid (∀ (i : Nat) (x : TIn), t.ins[i]? = some x → ms[i]? = some ((get (ptOf x)).getD mnZ) ∧ B0[i]? = some ((get (ptOf x)).isSome, ripeB ((get (ptOf x)).getD mnZ) height mat)) := fun i x h => by
    obtain ⟨h1, h2⟩ := msG_get (get := get) h
    rw [hms, hB0]
    exact ⟨h1, tuB_get h2 h1⟩
  have MN : Hid (ms.length = n) := by show _ = _; rw [hms, hn]; exact (msG_len get t).1
  have BLN : Hid (B0.length = n) := by show _ = _; rw [hB0, hn]; unfold tuB; simp [(msG_len get t).1, (msG_len get t).2]
  rw [← hB0, ← hms]
  obtain ⟨ct, hct⟩ : ∃ ct, ct = txL t (.slice si n ci) ov := ⟨_, rfl⟩
  rw [← hct] at TONE LT CO ⊢
  have hmt := hmat
  clear hn hgi hB0 hms hct hou hE hm hG hmat
  go_enter Tryz.func34, Tryz.ntmps34
  go_upto_region 1 with fail
  have f4 := heap_alloc_new w (.cells ct.toArray 27 (0, 0))
  have b1 := (Below.refl w.heap.size w).alloc (Nat.le_refl _) (.cells ct.toArray 27 (0, 0))
  generalize hw1 : World.alloc _ _ = w1
  have e1 : w.alloc (.cells ct.toArray 27 (0, 0)) = w1 := hw1
  rw [e1] at f4 b1
  obtain ⟨g4, hg4⟩ : ∃ g, g = w.heap.size := ⟨_, rfl⟩
  rw [← hg4] at f4 ⊢
  have F4 := Lib.hid f4
  have B1 := Lib.hid b1
  have c1 := CO.out _ _ F4.out
  clear f4 b1 hw1 e1 hg4
  obtain ⟨base, hbase⟩ : ∃ base, base = w1.heap.size := ⟨_, rfl⟩
  have BS := Lib.hid hbase
  have nm := NM.out
  go_wp2_with (at_make; refine wpList_make_own _ rfl _ _ 41 rfl w1.heap.size 46 i0 (.agg (mnL mnZ).toArray) 35 Tryz.underlying41 hi hz0 hz1 _ _ _ n rfl rfl (by omega) (by rw [hz2]; omega) (by unfold maxLen; omega) (Nat.le_refl _) ?_; intro w2 hown hgrow; have HO : Hid (RwOwn 35 46 w1.heap.size w2 (.slice (some ⟨w1.heap.size, 0, none⟩) 0 n) []) := ⟨hown, fun x hx => (by cases hx)⟩; have B2 := Lib.hid (below_made hgrow); have c12 := CO.out _ _ (row_below F4.out B2.out); clear hown hgrow c1; go_frame)
  rw [← BS.out] at HO
  clear c12 nm
  go_loopw [10, 22] (fun vb vi wr => CcI B0 ms n base w1 vb vi wr) (fun _ vi _ => n - (intOf vi).toNat)
  case atStart => exact ⟨0, _, rfl, rfl, Nat.zero_le _, fun j hj => absurd hj (by omega), by simpa [BS.out] using HO.out, B2.out⟩
  case round =>
    clear HO B2
    obtain ⟨k, vq, rfl, rfl, hk, hopn, hrw, hbel⟩ := hrel
    have OA := Lib.hid hopn
    have RW := Lib.hid hrw
    have B := Lib.hid hbel
    have BB := Lib.hid (B1.out.trans (hbel.mono B1.out.size))
    clear hopn hrw hbel
    by_cases hlt : k < n
    · obtain ⟨x, hx⟩ : ∃ x, t.ins[k]? = some x := ⟨_, List.getElem?_eq_getElem (by rw [← N.out]; exact hlt)⟩
      obtain ⟨bi, oi, rfl, hg⟩ := HI.out (by omega)
      obtain ⟨ox, kv, hkv, hr⟩ := (hg k x hx).below BB.out
      have IL : Hid ((inL x kv).toArray.size = 35) := by show _ = _; rw [List.size_toArray, inL_length x kv ox.1]
      have IR := Lib.hid hr
      have IO : Hid ((inL x kv).toArray.all (·.oneCell') = true) := in_one x kv (by obtain ⟨_, _, e⟩ := hkv.2; rw [e]; rfl)
      have LX : Hid ((inL x kv).length = 35) := inL_length x kv ox.1
      have PR : Hid (∀ (W : World) (g : Nat), W.heap[g]? = some (.cells (inL x kv).toArray 53 (0, 0)) → W.rangeAt g 0 (ptC (ptOf x))) := fun W g hg => in_pt (range_of_box hg)
      have POK : PtOk (ptOf x) := ⟨ox.1, ox.2.1⟩
      have PLN : Hid ((ptC (ptOf x)).length = 33) := ptC_length POK
      have MK := Lib.hid (MG.out k x hx)
      have OKD := HG.out.okD (ptOf x)
      have GT : Hid (∀ W, Below w.heap.size w W → Calls Tryz.prog fg #[rv, .agg (ptC (ptOf x)).toArray] W fun e w' => e = .returned (.tuple #[.agg (mnL ((get (ptOf x)).getD mnZ)).toArray, .bool (get (ptOf x)).isSome]) ∧ Below W.heap.size W w') := fun W hW => HG.out.ask W (ptOf x) hW POK
      obtain ⟨mc, hmc⟩ : ∃ mc, mc = (get (ptOf x)).getD mnZ := ⟨_, rfl⟩
      obtain ⟨eb, heb⟩ : ∃ eb, eb = (get (ptOf x)).isSome := ⟨_, rfl⟩
      rw [← hmc] at GT MK OKD
      rw [← heb] at GT MK
      have RP : Hid (∀ W, Calls Tryz.prog 67 #[.agg (mnL mc).toArray, .int .i64 height, .int .i64 mat] W fun e w' => e = .returned (.bool (ripeB mc height mat)) ∧ Below W.heap.size W w') := fun W => vlripe_any W mc height mat OKD.1 (by have := OKD.2; omega) (by have := OKD.2; omega)
      obtain ⟨rb, hrb⟩ : ∃ r, r = ripeB mc height mat := ⟨_, rfl⟩
      rw [← hrb] at RP MK
      have LM : Hid ((mnL mc).length = 35) := mnL_length OKD.1
      have LMZ : Hid ((mnL mc).toArray.size = 35) := mnL_size OKD.1
      have LMA : Hid ((mnL mc).toArray.all (·.oneCell') = true) := mnL_all _
      have LMO : Hid (∀ u ∈ mnL mc, u.oneCell' = true) := mnL_one _
      have TK : Hid ((ms.take (k + 1)).map mnL = (ms.take k).map mnL ++ [mnL mc]) := by
        show _ = _
        rw [List.take_succ_eq_append_getElem (List.getElem?_eq_some_iff.1 MK.out.1).1, (List.getElem?_eq_some_iff.1 MK.out.1).2, List.map_append]
        rfl
      have DL : Hid (((ms.take k).map mnL).length ≤ 1000000) := by show _ ≤ _; rw [List.length_map, List.length_take]; have := NM.out; omega
      obtain ⟨cm, hcm⟩ : ∃ cm, cm = mnL mc := ⟨_, rfl⟩
      rw [← hcm] at GT RP LM LMZ LMA LMO TK
      obtain ⟨cs, hcs⟩ : ∃ cs, cs = inL x kv := ⟨_, rfl⟩
      rw [← hcs] at IL IR IO LX PR
      obtain ⟨cp, hcp⟩ : ∃ cp, cp = ptC (ptOf x) := ⟨_, rfl⟩
      rw [← hcp] at PR PLN GT
      have p0 : 0 ≤ (k : Int) := by omega
      have p1 : (k : Int) < (n : Int) := by omega
      have zs : Hid ((mnL mnZ).toArray.size = cm.toArray.size) := by show _ = _; rw [LMZ.out]; rfl
      have HLT := Lib.hid hlt
      clear hx hg hr ox hkv hmc heb hrb hcm hcs hcp POK OKD hlt
      go_upto_region 5 with ((with_reducible show wpList _ _ _ _ _ _); first | (refine wpList_load_mid rfl 53 (.tmp 25) rfl bi (oi + k * 35) rfl cs _ IR.out Tryz.underlying53 rfl (by rw [LX.out]; kernel_rfl) ?_; go_frame) | (refine wpList_store_row rfl 53 (.tmp 12) (.tmp 26) rfl wr.heap.size cs.toArray rfl rfl 53 _ (heap_alloc_new _ _) (by rw [IL.out]; kernel_rfl) (by rw [IL.out]; rfl) IO.out ?_; go_frame))
      obtain ⟨_, f2, f3, f4⟩ := fill_setup (Below.refl wr.heap.size wr) (List.replicate 32 (bV 0) ++ [nV 0, .slice none 0 0, nV 0]).toArray cs.toArray 53
      generalize hqw5 : World.setRow _ _ _ = w5
      have ew5 : World.setRow (wr.alloc (.cells (List.replicate 32 (bV 0) ++ [nV 0, .slice none 0 0, nV 0]).toArray 53)) wr.heap.size cs.toArray = w5 := hqw5
      rw [ew5] at f2 f3 f4
      obtain ⟨g12, hg12⟩ : ∃ g12, g12 = wr.heap.size := ⟨_, rfl⟩
      rw [← hg12] at f2 ⊢
      have F12 := Lib.hid f2
      have Ng12 : Hid (wr.heap.size ≤ g12) := by show _ ≤ _; rw [hg12]; exact Nat.le_refl _
      have RW := Lib.hid (RW.out.keep f4)
      have B := Lib.hid (B.out.trans (f4.mono B.out.size))
      have BB := Lib.hid (BB.out.trans (f4.mono BB.out.size))
      clear f2 f3 f4 hqw5 ew5 hg12
      have PRR := Lib.hid (PR.out _ _ F12.out)
      have GE := Lib.hid (GT.out w5 BB.out)
      go_upto_region 6 with (first | (go_at_fn fg; refine GE.out.mono ?_; rintro e w6 ⟨rfl, bb⟩; have RW := Lib.hid (RW.out.keep bb); have B := Lib.hid (B.out.trans (bb.mono B.out.size)); have BB := Lib.hid (BB.out.trans (bb.mono BB.out.size)); clear bb) | ((with_reducible show wpList _ _ _ _ _ _); first | (refine wpList_load_mid rfl 50 (.tmp 29) rfl g12 0 rfl cp _ PRR.out Tryz.underlying50 rfl (by rw [PLN.out]; kernel_rfl) ?_; go_frame) | (refine wpList_store_row rfl 46 (.tmp 13) (.tmp 32) rfl w6.heap.size cm.toArray rfl rfl 46 _ (heap_alloc_new _ _) (by rw [LMZ.out]; kernel_rfl) (by rw [LMZ.out]; rfl) LMA.out ?_; go_frame)))
      obtain ⟨_, f2, f3, f4⟩ := fill_setup (Below.refl w6.heap.size w6) (mnL mnZ).toArray cm.toArray 46
      generalize hqw7 : World.setRow _ _ _ = w7
      have ew7 : World.setRow (w6.alloc (.cells (mnL mnZ).toArray 46)) w6.heap.size cm.toArray = w7 := hqw7
      rw [ew7] at f2 f3 f4
      obtain ⟨g13, hg13⟩ : ∃ g13, g13 = w6.heap.size := ⟨_, rfl⟩
      rw [← hg13] at f2 ⊢
      have F13 := Lib.hid f2
      have Ng13 : Hid (w6.heap.size ≤ g13) := by show _ ≤ _; rw [hg13]; exact Nat.le_refl _
      have RW := Lib.hid (RW.out.keep f4)
      have B := Lib.hid (B.out.trans (f4.mono B.out.size))
      have BB := Lib.hid (BB.out.trans (f4.mono BB.out.size))
      clear f2 f3 f4 hqw7 ew7 hg13
      clear PRR GE F12
      cases eb with
      | false =>
        have FI : Hid (B0.findIdx? (fun b => !(b.1 && b.2)) = some k) := tu_at OA.out MK.out.2 rfl
        have CODE : Hid (((if (B0.getD k (true, true)).1 then 15 else 13 : Nat), some k) = (12 + 1, some k)) := by show _ = _; rw [List.getD_eq_getElem?_getD, MK.out.2]; rfl
        have HEQ := Lib.hid (HE.out.below BB.out)
        have qe : w7.cell? ⟨5, 0, none⟩ = some (.iface 250 (.pointer (some (E 12)))) := HEQ.out 12 (by omega)
        have QE := Lib.hid qe
        clear qe HEQ
        go_upto_region 7 with fail
        refine wp_region_held_drew (S := (fun w' => Below w7.heap.size w7 w')) (by kernel_rfl) (Below.drew (Below.refl _ _)) (fun hHeld => ?_)
        generalize hwd : w7.drew = wd at  hHeld ⊢
        clear hwd
        refine held_take (i := 0) (v := (.int .i64 (k : Int))) rfl (by kernel_rfl) (by kernel_rfl) (by kernel_rfl) (fun _ _ _ h => h) (Or.inl ⟨by rfl, fun w' _ => by kernel_rfl⟩) hHeld ?_
        go_frame
        refine held_take (i := 1) (v := (.iface 250 (.pointer (some (E 12))))) rfl (by kernel_rfl) (by kernel_rfl) (by kernel_rfl) (fun _ _ _ h => h) (yieldsIf_load_one (by rfl) 37 _ rfl 5 (0) rfl _ _ (fun w' hw' => cell_below QE.out hw') Tryz.underlying37 rfl) hHeld ?_
        go_frame
        refine held_take (i := 2) (v := (.agg #[.int .i64 (k : Int), (.iface 250 (.pointer (some (E 12))))])) rfl (by kernel_rfl) (by kernel_rfl) (by kernel_rfl) (fun _ _ _ h => h) (Or.inl ⟨by rfl, fun w' _ => by kernel_rfl⟩) hHeld ?_
        go_frame
        refine held_take (i := 5) (v := (.slice none 0 0)) rfl (by kernel_rfl) (by kernel_rfl) (by kernel_rfl) (fun _ _ _ h => h) (Or.inl ⟨by rfl, fun w' _ => by kernel_rfl⟩) hHeld ?_
        go_frame
        refine wpAnyH_ready (rs := [3]) (by kernel_rfl) (by simp) (held_cons rfl (fun K hK => ?_) AllReadyH.nil)
        go_simp
        have nf := heap_alloc_new wd (.cells ([.int .i64 (k : Int), (.iface 250 (.pointer (some (E 12))))]).toArray 144 (0, 0))
        have bb := (Below.refl wd.heap.size wd).alloc (Nat.le_refl _) (.cells ([.int .i64 (k : Int), (.iface 250 (.pointer (some (E 12))))]).toArray 144 (0, 0))
        obtain ⟨gv1, hgv1⟩ : ∃ g, g = wd.heap.size := ⟨_, rfl⟩
        have GFA : Hid (w7.heap.size ≤ gv1) := by show _ ≤ _; rw [hgv1]; exact hHeld.size
        generalize hqv1 : World.alloc _ _ = v1
        have ev1 : wd.alloc (.cells ([.int .i64 (k : Int), (.iface 250 (.pointer (some (E 12))))]).toArray 144 (0, 0)) = v1 := hqv1
        rw [ev1] at nf bb
        rw [← hgv1] at nf ⊢
        have FA := Lib.hid nf
        have hv1 := hHeld.trans (bb.mono hHeld.size)
        clear nf bb hqv1 ev1 hgv1 hHeld
        refine hK.out _ _ hv1 (fun hHeld => ?_)
        clear hK K hv1
        refine held_take (i := 4) (v := (.iface 142 (.pointer (some ⟨gv1, 0, none⟩)))) rfl (by kernel_rfl) (by kernel_rfl) (by kernel_rfl) (fun _ _ _ h => h) (Or.inl ⟨by rfl, fun w' _ => by go_simp⟩) hHeld ?_
        go_frame
        refine held_take (i := 6) (v := (.iface 142 (.pointer (some ⟨gv1, 0, none⟩)))) rfl (by kernel_rfl) (by kernel_rfl) (by kernel_rfl) (fun _ _ _ h => h) (Or.inl ⟨by rfl, fun w' _ => by kernel_rfl⟩) hHeld ?_
        go_frame
        refine wpAnyH_done (by kernel_rfl) ?_ _
        have BY := Lib.hid (BB.out.trans (hHeld.mono BB.out.size))
        clear hHeld
        go_wp2_with fail
        go_ret2
        show CcP _ _ _ _ _ _
        unfold CcP
        exact ⟨.inl ⟨k, _, FI.out, rfl, .inr ⟨12, k, gv1, by rw [CODE.out], rfl, FA.out⟩⟩, BY.out⟩
      | true =>
        go_wp2_with ((with_reducible show wpList _ _ _ _ _ _); (refine wpList_load_row rfl 46 (.tmp 13) rfl g13 rfl 46 cm.toArray (0, 0) _ F13.out Tryz.underlying46 rfl (by rw [LMZ.out]; kernel_rfl) ?_; go_frame))
        refine (RP.out w7).mono ?_
        rintro e w8 ⟨rfl, bb⟩
        have F13 := Lib.hid (row_below F13.out bb)
        have RW := Lib.hid (RW.out.keep bb)
        have B := Lib.hid (B.out.trans (bb.mono B.out.size))
        have BB := Lib.hid (BB.out.trans (bb.mono BB.out.size))
        clear bb
        cases rb with
        | false =>
          have FI : Hid (B0.findIdx? (fun b => !(b.1 && b.2)) = some k) := tu_at OA.out MK.out.2 rfl
          have CODE : Hid (((if (B0.getD k (true, true)).1 then 15 else 13 : Nat), some k) = (14 + 1, some k)) := by show _ = _; rw [List.getD_eq_getElem?_getD, MK.out.2]; rfl
          have HEQ := Lib.hid (HE.out.below BB.out)
          have qe : w8.cell? ⟨6, 0, none⟩ = some (.iface 250 (.pointer (some (E 14)))) := HEQ.out 14 (by omega)
          have QE := Lib.hid qe
          clear qe HEQ
          go_upto_region 9 with fail
          refine wp_region_held_drew (S := (fun w' => Below w8.heap.size w8 w')) (by kernel_rfl) (Below.drew (Below.refl _ _)) (fun hHeld => ?_)
          generalize hwd : w8.drew = wd at  hHeld ⊢
          clear hwd
          refine held_take (i := 0) (v := (.int .i64 (k : Int))) rfl (by kernel_rfl) (by kernel_rfl) (by kernel_rfl) (fun _ _ _ h => h) (Or.inl ⟨by rfl, fun w' _ => by kernel_rfl⟩) hHeld ?_
          go_frame
          refine held_take (i := 1) (v := (.iface 250 (.pointer (some (E 14))))) rfl (by kernel_rfl) (by kernel_rfl) (by kernel_rfl) (fun _ _ _ h => h) (yieldsIf_load_one (by rfl) 37 _ rfl 6 (0) rfl _ _ (fun w' hw' => cell_below QE.out hw') Tryz.underlying37 rfl) hHeld ?_
          go_frame
          refine held_take (i := 2) (v := (.agg #[.int .i64 (k : Int), (.iface 250 (.pointer (some (E 14))))])) rfl (by kernel_rfl) (by kernel_rfl) (by kernel_rfl) (fun _ _ _ h => h) (Or.inl ⟨by rfl, fun w' _ => by kernel_rfl⟩) hHeld ?_
          go_frame
          refine held_take (i := 5) (v := (.slice none 0 0)) rfl (by kernel_rfl) (by kernel_rfl) (by kernel_rfl) (fun _ _ _ h => h) (Or.inl ⟨by rfl, fun w' _ => by kernel_rfl⟩) hHeld ?_
          go_frame
          refine wpAnyH_ready (rs := [3]) (by kernel_rfl) (by simp) (held_cons rfl (fun K hK => ?_) AllReadyH.nil)
          go_simp
          have nf := heap_alloc_new wd (.cells ([.int .i64 (k : Int), (.iface 250 (.pointer (some (E 14))))]).toArray 144 (0, 0))
          have bb := (Below.refl wd.heap.size wd).alloc (Nat.le_refl _) (.cells ([.int .i64 (k : Int), (.iface 250 (.pointer (some (E 14))))]).toArray 144 (0, 0))
          obtain ⟨gv1, hgv1⟩ : ∃ g, g = wd.heap.size := ⟨_, rfl⟩
          have GFA : Hid (w8.heap.size ≤ gv1) := by show _ ≤ _; rw [hgv1]; exact hHeld.size
          generalize hqv1 : World.alloc _ _ = v1
          have ev1 : wd.alloc (.cells ([.int .i64 (k : Int), (.iface 250 (.pointer (some (E 14))))]).toArray 144 (0, 0)) = v1 := hqv1
          rw [ev1] at nf bb
          rw [← hgv1] at nf ⊢
          have FA := Lib.hid nf
          have hv1 := hHeld.trans (bb.mono hHeld.size)
          clear nf bb hqv1 ev1 hgv1 hHeld
          refine hK.out _ _ hv1 (fun hHeld => ?_)
          clear hK K hv1
          refine held_take (i := 4) (v := (.iface 142 (.pointer (some ⟨gv1, 0, none⟩)))) rfl (by kernel_rfl) (by kernel_rfl) (by kernel_rfl) (fun _ _ _ h => h) (Or.inl ⟨by rfl, fun w' _ => by go_simp⟩) hHeld ?_
          go_frame
          refine held_take (i := 6) (v := (.iface 142 (.pointer (some ⟨gv1, 0, none⟩)))) rfl (by kernel_rfl) (by kernel_rfl) (by kernel_rfl) (fun _ _ _ h => h) (Or.inl ⟨by rfl, fun w' _ => by kernel_rfl⟩) hHeld ?_
          go_frame
          refine wpAnyH_done (by kernel_rfl) ?_ _
          have BY := Lib.hid (BB.out.trans (hHeld.mono BB.out.size))
          clear hHeld
          go_wp2_with fail
          go_ret2
          show CcP _ _ _ _ _ _
          unfold CcP
          exact ⟨.inl ⟨k, _, FI.out, rfl, .inr ⟨14, k, gv1, by rw [CODE.out], rfl, FA.out⟩⟩, BY.out⟩
        | true =>
          have ON : Hid (∀ j, j < k + 1 → B0[j]? = some (true, true)) := fun j hj => by
            by_cases e : j = k
            · rw [e]; exact MK.out.2
            · exact OA.out j (by omega)
          have nm := NM.out
          have hlt := HLT.out
          go_wp2_with (first | ((with_reducible show wpList _ _ _ _ _ _); first | (refine wpList_load_row rfl 46 (.tmp 13) rfl g13 rfl 46 cm.toArray (0, 0) _ F13.out Tryz.underlying46 rfl (by rw [LMZ.out]; kernel_rfl) ?_; go_frame) | (refine wpList_slice_one rfl 41 46 (.tmp 52) rfl cm rfl Tryz.underlying41 i0 _ hi hz0 (by rw [hz1, LM.out]) (by rw [LM.out]; omega) (by rw [LM.out]; omega) ?_; have nf := heap_alloc_new w8 (.cells (cm).toArray 46 (0, 0)); have bb := (Below.refl w8.heap.size w8).alloc (Nat.le_refl _) (.cells (cm).toArray 46 (0, 0)); obtain ⟨g9, hg9⟩ : ∃ g, g = w8.heap.size := ⟨_, rfl⟩; generalize hq : World.alloc _ _ = w9; have e2 : w8.alloc (.cells (cm).toArray 46 (0, 0)) = w9 := hq; rw [e2] at nf bb; rw [← hg9] at nf ⊢; have F9 := Lib.hid nf; have RW := Lib.hid (RW.out.keep bb); have B := Lib.hid (B.out.trans (bb.mono B.out.size)); clear nf bb hq e2 hg9; go_frame)) | (at_builtin; refine wpList_append_own_at _ rfl _ _ 41 rfl (base) 46 i0 (.agg (mnL mnZ).toArray) 35 56 Tryz.underlying41 hi hz0 hz1 hz2 (by kernel_rfl) (by decide) vq _ (((ms.take k).map mnL)).flatten rfl RW.out.1 ⟨g9, 0, none⟩ 1 1 (cm) rfl (by rw [LM.out]) (fun j u hj => by rw [Addr.add_mid]; exact range_of_box F9.out j u hj) LMO.out (by have := DL.out; unfold maxLen; omega) (by have := DL.out; omega) ((by rw [BS.out]; exact B.out.size)) ?_; intro vq2 w10 q1 q2 _ q4; have RW2 : Hid (RwOwn 35 46 (base) w10 vq2 ((((ms.take k).map mnL)) ++ [cm])) := RwOwn.push RW.out.2 LM.out q1; have B := Lib.hid ((own_grown B.out (by rw [BS.out]; exact Nat.le_refl _) B.out.size RW.out.1 q2)); clear q1 q2 q4; go_frame))
          go_roundw
          case rel =>
            refine ⟨k + 1, vq2, rfl, by go_num, by omega, ON.out, ?_, B.out⟩
            rw [TK.out]
            exact RW2.out
          case measure => have := HLT.out; simp [intOf] <;> omega
    · have hkn : k = n := by omega
      have bln : B0.length = n := BLN.out
      have FI : Hid (B0.findIdx? (fun b => !(b.1 && b.2)) = none) := tu_no (fun j (hj : j < B0.length) => OA.out j (by rw [hkn, ← bln]; exact hj))
      have RWA : Hid (RwAt 35 wr vq (ms.map mnL)) := by
        have h := RW.out
        rw [hkn, List.take_of_length_le (by rw [MN.out]; exact Nat.le_refl _)] at h
        exact h.at (by omega)
      have i1' : ¬ (k : Int) < (n : Int) := by omega
      clear hkn hlt OA bln RW
      go_wp2_with fail
      go_ret2
      show CcP _ _ _ _ _ _
      unfold CcP
      exact ⟨.inr ⟨vq, FI.out, rfl, RWA.out⟩, BB.out⟩
end Go.Proofs.YtckkcpplanfmhaaGreatDoor.Sha

/-
  Package conn: the past of the block right below a height. Nothing turns. Conditions: the pasts lie in memory, one at least.
-/
namespace Go.Proofs.YtckkcpplanfmhaaGreatDoor.Sha
open Go Go.RowKit
set_option maxHeartbeats 1000000 in
set_option maxRecDepth 100000 in
theorem copb_any (w : World) (v : Value) (l : List Nat) (height : Int) (h : U32At w v l) (h0 : 0 < l.length) (hm : l.length ≤ 1000000) (h1 : -1000000 ≤ height) (h2 : height ≤ 1000000) :
    Calls Tryz.prog 72 #[.int .i64 height, v] w fun e w' => e = .returned (.int .u32 (l.getD (behI l height) 0 : Int)) ∧ w = w' := by
  obtain ⟨sp, cap, rfl, hs⟩ := h
  obtain ⟨hc, b, o, rfl, hg⟩ := hs h0
  have hbi : behI l height < l.length := by unfold behI; omega
  obtain ⟨x, hx⟩ : ∃ x, l[behI l height]? = some x := ⟨_, List.getElem?_eq_getElem hbi⟩
  have cx := hg _ x hx
  have AE : Hid (l.getD (behI l height) 0 = x) := by show _ = _; rw [List.getD_eq_getElem?_getD, hx]; rfl
  have IE : Hid ((behI l height : Int) = min (max (height - 1) 0) ((l.length : Int) - 1)) := by show _ = _; unfold behI; omega
  rw [AE.out]
  obtain ⟨i, hi⟩ : ∃ i, i = behI l height := ⟨_, rfl⟩
  rw [← hi] at cx hbi IE
  obtain ⟨n, hn⟩ : ∃ n, n = l.length := ⟨_, rfl⟩
  rw [← hn] at hbi IE hc h0 hm ⊢
  have IE2 := IE.out
  clear hg hx AE hs hi hn IE
  go_enter Tryz.func72, Tryz.ntmps72
  by_cases hA : height ≤ 1
  · have e : i = 0 := by omega
    subst e
    have cx0 : w.cell? ⟨b, o, none⟩ = some (.int .u32 (x : Int)) := cx
    have q1 : ¬ ((n : Int) < 1) := by omega
    have q2 : (0 : Int) < (n : Int) := by omega
    have qn : min (1 : Int) (n : Int) = 1 := by omega
    clear IE2
    by_cases hB : height = 1
    · subst hB
      go_wp2_with fail
      go_ret
      exact ⟨rfl, rfl⟩
    · have q3 : height < 1 := by omega
      have qx : max height 1 = 1 := by omega
      clear hA hB
      go_wp2_with fail
      go_ret
      exact ⟨rfl, rfl⟩
  · have q3 : ¬ height < 1 := by omega
    by_cases hC : height ≤ (n : Int)
    · have q1 : ¬ ((n : Int) < height) := by omega
      have qx : max height 1 = height := by omega
      have qn : min height (n : Int) = height := by omega
      have e2 : height - 1 = (i : Int) := by omega
      have hwr : IntKind.i64.wrap (height - 1) = (i : Int) := by rw [IntKind.wrap_i64]; omega
      have hwr2 : wrap64 (height - 1) = (i : Int) := by rw [← IntWalk.i64_left]; exact hwr
      have q4 : 0 ≤ (i : Int) := by omega
      have q5 : (i : Int) < (n : Int) := by omega
      clear IE2 hA hC
      go_wp2_with fail
      go_ret
      exact ⟨rfl, rfl⟩
    · have q1 : (n : Int) < height := by omega
      have qx : max height 1 = height := by omega
      have qn : min height (n : Int) = (n : Int) := by omega
      have e2 : (n : Int) - 1 = (i : Int) := by omega
      have hwr : IntKind.i64.wrap ((n : Int) - 1) = (i : Int) := by rw [IntKind.wrap_i64]; omega
      have hwr2 : wrap64 ((n : Int) - 1) = (i : Int) := by rw [← IntWalk.i64_left]; exact hwr
      have q4 : 0 ≤ (i : Int) := by omega
      have q5 : (i : Int) < (n : Int) := by omega
      clear IE2 hA hC
      go_wp2_with fail
      go_ret
      exact ⟨rfl, rfl⟩
end Go.Proofs.YtckkcpplanfmhaaGreatDoor.Sha

/-
  Package seq: whether a transaction is final at a height, behind a past. Nothing that was there turns. Conditions: the transaction lies in memory.
-/
namespace Go.Proofs.YtckkcpplanfmhaaGreatDoor.Sha
open Go Go.RowKit
def AfI (l : List TIn) (n : Nat) (w : World) (vi : Value) (wr : World) : Prop := ∃ i : Nat, i ≤ n ∧ vi = .int .i64 (i : Int) ∧ (∀ (j : Nat) x, j < i → l[j]? = some x → x.seq = 4294967295) ∧ Below w.heap.size w wr
set_option maxHeartbeats 2000000 in
set_option maxRecDepth 100000 in
theorem sqall_any (w : World) (v : Value) (l : List TIn) (h : InsAt w v l) (hm : l.length ≤ 1000000) :
    Calls Tryz.prog 103 #[v] w fun e w' => e = .returned (.bool (l.all fun x => decide (x.seq = 4294967295))) ∧ Below w.heap.size w w' := by
  obtain ⟨si, ci, rfl, _, hgi⟩ := h
  obtain ⟨ans, han⟩ : ∃ ans, ans = l.all fun x => decide (x.seq = 4294967295) := ⟨_, rfl⟩
  have AN := Lib.hid han
  rw [← han]
  obtain ⟨n, hn⟩ : ∃ n, n = l.length := ⟨_, rfl⟩
  rw [← hn] at hm hgi ⊢
  have NE := Lib.hid hn
  have HI := Lib.hid hgi
  clear hn han hgi
  go_enter Tryz.func103, Tryz.ntmps103
  go_wp2_with fail
  go_loopw [7] (fun vi wr => AfI l n w vi wr) (fun vi _ => n - (intOf vi).toNat)
  case atStart => exact ⟨0, Nat.zero_le _, rfl, fun j x hj => absurd hj (by omega), Below.refl _ _⟩
  case round =>
    obtain ⟨i, hin, rfl, hlow, hb⟩ := hrel
    have LOW := Lib.hid hlow
    have B := Lib.hid hb
    clear hlow hb
    by_cases hlt : i < n
    · obtain ⟨bi, oi, rfl, hg⟩ := HI.out (by omega)
      obtain ⟨x, hx⟩ : ∃ x, l[i]? = some x := ⟨_, List.getElem?_eq_getElem (by rw [← NE.out]; exact hlt)⟩
      obtain ⟨ox, kv, hkv, hr⟩ := (hg i x hx).below B.out
      have IL : Hid ((inL x kv).toArray.size = 35) := by show _ = _; rw [List.size_toArray, inL_length x kv ox.1]
      have IR := Lib.hid hr
      have IO : Hid ((inL x kv).toArray.all (·.oneCell') = true) := in_one x kv (by obtain ⟨_, _, e⟩ := hkv.2; rw [e]; rfl)
      obtain ⟨sq, hsq⟩ : ∃ sq, sq = x.seq := ⟨_, rfl⟩
      have X34 : Hid ((inL x kv)[34]? = some (.int .u32 (sq : Int))) := by show _ = _; rw [inL, List.getElem?_append_right (by simp [ptL, ox.1]), hsq]; simp [ptL, ox.1, nV]
      have LX : Hid ((inL x kv).length = 35) := inL_length x kv ox.1
      have XK := Lib.hid hx
      have SQ := Lib.hid hsq
      obtain ⟨cs, hcs⟩ : ∃ cs, cs = inL x kv := ⟨_, rfl⟩
      rw [← hcs] at X34 IL IR IO LX
      have p0 : 0 ≤ (i : Int) := by omega
      have p1 : (i : Int) < (n : Int) := by omega
      clear hx hg hr ox hsq hcs hkv
      go_upto_region 4 with ((with_reducible show wpList _ _ _ _ _ _); first | (refine wpList_load_mid rfl 53 (.tmp 9) rfl bi (oi + i * 35) rfl cs _ IR.out Tryz.underlying53 rfl (by rw [LX.out]; kernel_rfl) ?_; go_frame) | (refine wpList_store_row rfl 53 (.tmp 4) (.tmp 10) rfl wr.heap.size cs.toArray rfl rfl 53 _ (heap_alloc_new _ _) (by rw [IL.out]; kernel_rfl) (by rw [IL.out]; rfl) IO.out ?_; go_frame))
      obtain ⟨_, f2, f3, f4⟩ := fill_setup (Below.refl wr.heap.size wr) (List.replicate 32 (bV 0) ++ [nV 0, .slice none 0 0, nV 0]).toArray cs.toArray 53
      generalize hqw5 : World.setRow _ _ _ = w5
      have ew5 : World.setRow (wr.alloc (.cells (List.replicate 32 (bV 0) ++ [nV 0, .slice none 0 0, nV 0]).toArray 53)) wr.heap.size cs.toArray = w5 := hqw5
      rw [ew5] at f2 f3 f4
      obtain ⟨g5, hg5⟩ : ∃ g5, g5 = wr.heap.size := ⟨_, rfl⟩
      rw [← hg5] at f2 ⊢
      have F5 := Lib.hid f2
      have Ng5 : Hid (wr.heap.size ≤ g5) := by show _ ≤ _; rw [hg5]; exact Nat.le_refl _
      have B5 := Lib.hid (B.out.trans (f4.mono B.out.size))
      clear f2 f3 f4 hqw5 ew5 hg5
      have c5 : w5.cell? ⟨g5, 34, none⟩ = some (.int .u32 (sq : Int)) := by rw [cell_of_row _ _ _ _ _ _ F5.out, List.getElem?_toArray]; exact X34.out
      by_cases hseq : sq = 4294967295
      · have y1 : ((sq : Int) != 4294967295) = false := by simp; omega
        have y2 : ((sq : Int) == 4294967295) = true := by simp; omega
        have HQ := Lib.hid hseq
        clear hseq
        go_wp2_with fail
        go_roundw
        case rel =>
          refine ⟨i + 1, by omega, by go_num, fun j y hj hy => ?_, B5.out⟩
          rcases Nat.lt_or_ge j i with h | h
          · exact LOW.out j y h hy
          · have e : j = i := by omega
            rw [e, XK.out] at hy
            cases hy
            rw [← SQ.out]
            exact HQ.out
        case measure => simp [intOf]; omega
      · have y1 : ((sq : Int) != 4294967295) = true := by simp; omega
        have y2 : ((sq : Int) == 4294967295) = false := beq_eq_false_iff_ne.2 (by omega)
        have AF : Hid (ans = false) := by
          show _ = _
          rw [AN.out, Bool.eq_false_iff]
          intro h
          have := List.all_eq_true.1 h x (List.mem_of_getElem? XK.out)
          rw [← SQ.out] at this
          exact hseq (of_decide_eq_true this)
        clear hseq
        go_wp2_with fail
        go_ret
        exact ⟨by rw [AF.out]; rfl, B5.out⟩
    · have AT : Hid (ans = true) := by
        show _ = _
        rw [AN.out, List.all_eq_true]
        intro x hx
        obtain ⟨j, hj⟩ := List.getElem?_of_mem hx
        exact decide_eq_true (LOW.out j x (by have := (List.getElem?_eq_some_iff.1 hj).1; have := NE.out; omega) hj)
      have q0 : ¬ (i : Int) < (n : Int) := by omega
      go_wp2_with fail
      go_ret
      exact ⟨by rw [AT.out]; rfl, B.out⟩
set_option maxHeartbeats 2000000 in
set_option maxRecDepth 100000 in
theorem sqfinal_any (w : World) (v : Value) (t : TTx) (height : Int) (past : Nat) (h : TxAt w v t) (hm : t.ins.length ≤ 1000000) :
    Calls Tryz.prog 73 #[v, .int .i64 height, .int .u32 (past : Int)] w fun e w' => e = .returned (.bool (finB t height past)) ∧ Below w.heap.size w w' := by
  obtain ⟨hok, iv, ov, rfl, hin, hou⟩ := h
  have CO : Hid (∀ (W : World) (g : Nat), W.heap[g]? = some (.cells (txL t iv ov).toArray 27 (0, 0)) → W.cell? ⟨g, 1, none⟩ = some iv ∧ W.cell? ⟨g, 3, none⟩ = some (.int .u32 (t.time : Int))) := fun W g hg => ⟨(tx_cells hg).2.1, by rw [cell_of_row _ _ _ _ _ _ hg]; rfl⟩
  obtain ⟨aq, haq⟩ : ∃ aq, aq = t.ins.all fun x => decide (x.seq = 4294967295) := ⟨_, rfl⟩
  have AF : Hid (∀ W, Below w.heap.size w W → Calls Tryz.prog 103 #[iv] W fun e w' => e = .returned (.bool aq) ∧ Below W.heap.size W w') := fun W hW => by rw [haq]; exact sqall_any W iv t.ins (hin.below hW) hm
  obtain ⟨ans, han⟩ : ∃ ans, ans = finB t height past := ⟨_, rfl⟩
  have AN : Hid (ans = if t.time = 0 ∨ (t.time < 500000000 ∧ (t.time : Int) < height) ∨ (500000000 ≤ t.time ∧ t.time < past) then true else aq) := by rw [haq]; exact han
  rw [← han]
  obtain ⟨pz, hpz⟩ : ∃ z : Int, z = (past : Int) := ⟨_, rfl⟩
  have PZ := Lib.hid hpz
  rw [← hpz]
  have tm : t.time ≤ 4294967295 := hok.2
  obtain ⟨tt, htt⟩ : ∃ tt, tt = t.time := ⟨_, rfl⟩
  rw [← htt] at CO AN tm
  obtain ⟨ct, hct⟩ : ∃ ct, ct = txL t iv ov := ⟨_, rfl⟩
  rw [← hct] at CO ⊢
  obtain ⟨si, ci, rfl, _, _⟩ := hin
  clear hpz haq han htt hct hou hok
  go_enter Tryz.func73, Tryz.ntmps73
  go_upto_region 1 with fail
  have f3 := heap_alloc_new w (.cells ct.toArray 27 (0, 0))
  have b1 := (Below.refl w.heap.size w).alloc (Nat.le_refl _) (.cells ct.toArray 27 (0, 0))
  generalize hq : World.alloc _ _ = w1
  have e1 : w.alloc (.cells ct.toArray 27 (0, 0)) = w1 := hq
  rw [e1] at f3 b1
  obtain ⟨g3, hg3⟩ : ∃ g, g = w.heap.size := ⟨_, rfl⟩
  rw [← hg3] at f3 ⊢
  have F3 := Lib.hid f3
  have B1 := Lib.hid b1
  obtain ⟨c1, c3⟩ := CO.out _ _ F3.out
  clear f3 b1 hq e1 hg3
  by_cases h1 : tt = 0
  · subst h1
    go_wp2_with fail
    go_ret
    exact ⟨by rw [AN.out, if_pos (by first | exact .inl rfl | exact .inl trivial)]; rfl, B1.out⟩
  have z1 : ((tt : Int) == 0) = false := beq_eq_false_iff_ne.2 (by omega)
  have z2 : ((0 : Int) == (tt : Int)) = false := beq_eq_false_iff_ne.2 (by omega)
  go_wp2_with fail
  refine (AF.out w1 B1.out).mono ?_
  rintro e w2 ⟨rfl, bb⟩
  have B2 := Lib.hid (B1.out.trans (bb.mono B1.out.size))
  have c3 := cell_below c3 bb
  clear bb c1
  cases aq with
  | true =>
    have AT : Hid (ans = true) := by show _ = _; rw [AN.out]; split <;> rfl
    go_wp2_with fail
    go_ret
    exact ⟨by rw [AT.out]; rfl, B2.out⟩
  | false =>
    by_cases h5 : tt < 500000000
    · have a1 : (tt : Int) < 500000000 := by omega
      have AT : Hid (ans = decide ((tt : Int) < height)) := by
        show _ = _
        rw [AN.out]
        by_cases hh : (tt : Int) < height
        · rw [if_pos (.inr (.inl ⟨h5, hh⟩)), decide_eq_true hh]
        · rw [if_neg (by omega), decide_eq_false hh]
      clear h5 h1 AN tm
      go_wp2_with fail
      go_ret
      exact ⟨by rw [AT.out]; rfl, B2.out⟩
    · have a1 : ¬ (tt : Int) < 500000000 := by omega
      have a2 : (500000000 : Int) ≤ (tt : Int) := by omega
      have AT : Hid (ans = decide ((tt : Int) < pz)) := by
        show _ = _
        rw [AN.out]
        have := PZ.out
        by_cases hh : (tt : Int) < pz
        · rw [if_pos (.inr (.inr ⟨by omega, by omega⟩)), decide_eq_true hh]
        · rw [if_neg (by omega), decide_eq_false hh]
      clear h5 h1 AN tm CO PZ F3
      obtain ⟨tz, htz⟩ : ∃ z : Int, z = (tt : Int) := ⟨_, rfl⟩
      rw [← htz] at c3 a1 a2 z1 z2 AT ⊢
      clear htz
      go_wp2_with fail
      go_ret
      exact ⟨by rw [AT.out]; rfl, B2.out⟩
end Go.Proofs.YtckkcpplanfmhaaGreatDoor.Sha
