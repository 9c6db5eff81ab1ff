/-
  The statement on how many inputs and outputs, how long a key, how great an amount a transaction may have answers true. Condition: the errors are there.
-/
import Derived.Deep.OwnRows
import Derived.Test.YtkabpbclmhmgfaaDoorMg18
import Derived.Test.YtkabpbclmhmgfaaDoorMg05
namespace Go.Proofs.YtkabpbclmhmgfaaDoor.Sha
open Go Go.RowKit

def bdN (i : Nat) : TIn := ⟨zH, i + 1, [], 0⟩
def bdI (k : Nat) : List TIn := (List.range k).map bdN
def bdY : TOut := ⟨0, zH⟩
def bdO (k : Nat) : List TOut := List.replicate k bdY
def bd0 (r : Nat) : TTx := ⟨0, bdI (49 + r), bdO 1, 0⟩
def bd1 (r : Nat) : TTx := ⟨0, bdI 1, bdO (49 + r), 0⟩
def bdK (r : Nat) : TIn := ⟨zH, 1, List.replicate (79 + r) 0, 0⟩
def bd2 (r : Nat) : TTx := ⟨0, [bdK r], bdO 1, 0⟩
def bdV (r : Nat) : TOut := ⟨2099999999999999 + r, zH⟩
def bd3 (r : Nat) : TTx := ⟨0, bdI 1, [bdV r], 0⟩
def bd4 : TTx := ⟨0, [bdN 0, bdN 0], bdO 1, 0⟩
set_option maxRecDepth 100000 in
theorem bd0_check : ∀ r, r < 4 → checkC (bd0 r) = if r < 2 then 0 else 4 := by decide +kernel
set_option maxRecDepth 100000 in
theorem bd1_check : ∀ r, r < 4 → checkC (bd1 r) = if r < 2 then 0 else 4 := by decide +kernel
set_option maxRecDepth 100000 in
theorem bd2_check : ∀ r, r < 4 → checkC (bd2 r) = if r < 2 then 0 else 14 := by decide +kernel
set_option maxRecDepth 100000 in
theorem bd3_check : ∀ r, r < 4 → checkC (bd3 r) = if r < 2 then 0 else 5 := by decide +kernel
theorem bd4_check : checkC bd4 = 6 := by decide +kernel
theorem bdN_ok (i : Nat) (h : i < 100) : InOk (bdN i) := ⟨rfl, by show i + 1 ≤ _; omega, Nat.zero_le _⟩
theorem bdI_succ (k : Nat) : bdI (k + 1) = bdI k ++ [bdN k] := by simp [bdI, List.range_succ]
theorem bdO_succ (k : Nat) : bdO (k + 1) = bdO k ++ [bdY] := by simp [bdO, List.replicate_succ']
theorem bdI_length (k : Nat) : (bdI k).length = k := by simp [bdI]
theorem bdO_length (k : Nat) : (bdO k).length = k := by simp [bdO]
theorem bdI_ok (k : Nat) (h : k < 100) : InsOk (bdI k) := fun x hx => by
  obtain ⟨i, hi, rfl⟩ := List.mem_map.1 hx
  exact bdN_ok i (by have := List.mem_range.1 hi; omega)
theorem bdY_ok : OutOk bdY := ⟨rfl, Nat.zero_le _⟩
theorem bdO_ok (k : Nat) : OutsOk (bdO k) := fun x hx => by rw [(List.mem_replicate.1 hx).2]; exact bdY_ok
theorem bd_small {l : List TIn} {m : List TOut} (h1 : InsOk l) (h2 : l.length ≤ 60) (h3 : KeysLe l 90) (h4 : OutsOk m) (h5 : m.length ≤ 60) : TxSmall ⟨0, l, m, 0⟩ :=
  ⟨⟨⟨Nat.zero_le _, Nat.zero_le _⟩, h1, h4, fun x hx => Nat.le_trans (h3 x hx) (by omega), by show l.length ≤ _; omega, by show m.length ≤ _; omega⟩, by show l.length ≤ _; omega, by show m.length ≤ _; omega, fun x hx => Nat.le_trans (h3 x hx) (by omega)⟩
theorem bdI_keys (k : Nat) : KeysLe (bdI k) 90 := fun x hx => by
  obtain ⟨i, _, rfl⟩ := List.mem_map.1 hx
  exact Nat.zero_le _
theorem bd0_small (r : Nat) (h : r < 4) : TxSmall (bd0 r) := bd_small (bdI_ok _ (by omega)) (by rw [bdI_length]; omega) (bdI_keys _) (bdO_ok _) (by rw [bdO_length]; omega)
theorem bd1_small (r : Nat) (h : r < 4) : TxSmall (bd1 r) := bd_small (bdI_ok _ (by omega)) (by rw [bdI_length]; omega) (bdI_keys _) (bdO_ok _) (by rw [bdO_length]; omega)
theorem bdK_ok (r : Nat) : InOk (bdK r) := ⟨rfl, by show 1 ≤ _; omega, Nat.zero_le _⟩
theorem bd2_small (r : Nat) (h : r < 4) : TxSmall (bd2 r) := bd_small (fun x hx => by rw [List.mem_singleton.1 hx]; exact bdK_ok r) (by simp) (fun x hx => by rw [List.mem_singleton.1 hx]; simp [bdK]; omega) (bdO_ok _) (by rw [bdO_length]; omega)
theorem bdV_ok (r : Nat) (h : r < 4) : OutOk (bdV r) := ⟨rfl, by show 2099999999999999 + r ≤ _; omega⟩
theorem bd3_small (r : Nat) (h : r < 4) : TxSmall (bd3 r) := bd_small (bdI_ok _ (by omega)) (by rw [bdI_length]; omega) (bdI_keys _) (fun x hx => by rw [List.mem_singleton.1 hx]; exact bdV_ok r h) (by simp)
theorem bd4_small : TxSmall bd4 := bd_small (fun x hx => by simp only [List.mem_cons, List.not_mem_nil, or_false] at hx; rcases hx with rfl | rfl <;> exact bdN_ok 0 (by omega)) (by simp) (fun x hx => by simp only [List.mem_cons, List.not_mem_nil, or_false] at hx; rcases hx with rfl | rfl <;> exact Nat.zero_le _) (bdO_ok _) (by rw [bdO_length]; omega)
/-- A row that lies in memory by itself is one's own. -/
theorem own_of_row {w : World} {base g n size : Nat} {e : TypeId} {xs : List Value} (h : w.heap[g]? = some (.cells xs.toArray e (0, 0))) (hb : base ≤ g) (hl : xs.length = n * size) (hn : n ≤ maxLen) : w.ownsRow base e size (.slice (some ⟨g, 0, none⟩) n n) n xs :=
  ⟨hl, .inr ⟨g, n, xs.toArray, rfl, hb, h, Nat.le_refl _, hn, by simpa using hl, by rw [List.toList_toArray, ← hl, List.take_length]⟩⟩
theorem nil_off (q : Option Nat) : Off (.slice none 0 0) q := fun sp n cap hv => by cases hv
/-- While inputs, or outputs, are appended. -/
def BdAt (w : World) (gI gO g6 k m : Nat) (iv ov : Value) (wr : World) : Prop :=
  InsOwn gI wr iv (bdI k) (List.replicate k (.slice none 0 0)) ∧ OutsOwn gI wr ov (bdO m) ∧ (∀ g, iv.ownBlock = some g → g = gI ∨ g6 < g) ∧ (∀ g, ov.ownBlock = some g → g = gO ∨ g6 < g) ∧ iv.ownBlock ≠ ov.ownBlock
    ∧ wr.heap[g6]? = some (.cells [nV 0, iv, ov, nV 0].toArray 26 (0, 0)) ∧ Below w.heap.size w wr ∧ g6 < wr.heap.size
def BdIn (n : Nat) (w : World) (gI gO g6 : Nat) (vi : Value) (wr : World) : Prop := ∃ (k : Nat) (iv : Value), k ≤ n ∧ 1 ≤ k ∧ vi = .int .i64 k ∧ BdAt w gI gO g6 k 1 iv (.slice (some ⟨gO, 0, none⟩) 1 1) wr
def BdOut (n : Nat) (w : World) (gI gO g6 : Nat) (vi : Value) (wr : World) : Prop := ∃ (k : Nat) (ov : Value), k ≤ n ∧ 1 ≤ k ∧ vi = .int .i64 k ∧ BdAt w gI gO g6 1 k (.slice (some ⟨gI, 0, none⟩) 1 1) ov wr
theorem BdAt.tx {w wr : World} {gI gO g6 k m : Nat} {iv ov : Value} (h : BdAt w gI gO g6 k m iv ov wr) : TxAt wr (.agg [nV 0, iv, ov, nV 0].toArray) ⟨0, bdI k, bdO m, 0⟩ := ⟨⟨Nat.zero_le _, Nat.zero_le _⟩, iv, ov, rfl, h.1.at, h.2.1.at⟩
/-- One more input. -/
theorem BdAt.addI {w wr wn w1 w2 : World} {gI gO g6 k : Nat} {iv ov v2 : Value} (h : BdAt w gI gO g6 k 1 iv ov wr) (hlow : w.heap.size ≤ gI) (hg : gI < g6) (hk : k < 90) (hb : Below wr.heap.size wr wn) (ao : w1.ownsRow gI 54 35 v2 (k + 1) (insL (bdI k) (List.replicate k (.slice none 0 0)) ++ inL (bdN k) (.slice none 0 0))) (ag : wn.grownBy w1 iv.ownBlock)
    (at' : v2.ownBlock = iv.ownBlock ∨ v2.ownBlock = some wn.heap.size) (f : w2.heap[g6]? = some (.cells [nV 0, v2, ov, nV 0].toArray 26 (0, 0))) (q2 : w1.grownBy w2 (some g6)) (hov : ov.ownBlock = some gO) (hgo : gO < g6) (hgo2 : gI ≤ gO) : BdAt w gI gO g6 (k + 1) 1 v2 ov w2 := by
  obtain ⟨h1, h2, h3, h4, h5, h6, h7, h8⟩ := h
  have sz := hb.size
  have h1' := h1.keep hb
  have e : (bdI k).length = k := bdI_length k
  have p1 := h1'.push (bdN_ok k (by omega)) (nil_key _) (fun q _ => nil_off _) (nil_off _) (by rw [e]; exact ao) ag at'
  rw [← bdI_succ, show List.replicate k (Value.slice none 0 0) ++ [.slice none 0 0] = List.replicate (k + 1) (.slice none 0 0) by rw [List.replicate_succ']] at p1
  have lt := h1'.2.1.lt
  have hv2 : ∀ g, v2.ownBlock = some g → g = gI ∨ g6 < g := fun g hgg => by
    rcases at' with e1 | e1
    · exact h3 g (by rw [← e1]; exact hgg)
    · rw [e1] at hgg; have := Option.some.inj hgg; omega
  have n6 : v2.ownBlock ≠ some g6 := fun e1 => by have := hv2 g6 e1; omega
  have no : v2.ownBlock ≠ ov.ownBlock := fun e1 => by
    rcases at' with e2 | e2
    · exact h5 (by rw [← e2]; exact e1)
    · rw [e2, hov] at e1; have := Option.some.inj e1; omega
  refine ⟨⟨p1.1, p1.2.1.kept q2 (.inr n6), p1.2.2.1, fun i x kv hx hkv => ⟨(p1.2.2.2 i x kv hx hkv).1.off ?_ q2, (p1.2.2.2 i x kv hx hkv).2⟩⟩, ?_, hv2, h4, no, f, ?_, ?_⟩
  · have : kv = .slice none 0 0 := (List.mem_replicate.1 (List.mem_of_getElem? hkv)).2
    rw [this]
    exact nil_off _
  · exact ((h2.keep hb).kept ag (.inr (fun e1 => h5 e1.symm))).kept q2 (.inr (by rw [hov]; intro e1; have := Option.some.inj e1; omega))
  · refine ((h7.trans (hb.mono h7.size)).grown ag (Nat.le_trans h7.size sz) (fun q hq => ?_)).grown q2 (Nat.le_trans (Nat.le_trans h7.size sz) ag.size) (fun q hq => by cases hq; omega)
    have := (lt q hq).1
    omega
  · exact Nat.lt_of_lt_of_le (Nat.lt_of_lt_of_le h8 sz) (Nat.le_trans ag.size q2.size)
/-- One more output. -/
theorem BdAt.addO {w wr wn w1 w2 : World} {gI gO g6 k : Nat} {iv ov v2 : Value} (h : BdAt w gI gO g6 1 k iv ov wr) (hlow : w.heap.size ≤ gI) (hg : gI < g6) (hgo : gO < g6) (hb : Below wr.heap.size wr wn) (ao : w1.ownsRow gI 57 33 v2 (k + 1) (outsL (bdO k) ++ outL bdY)) (ag : wn.grownBy w1 ov.ownBlock)
    (at' : v2.ownBlock = ov.ownBlock ∨ v2.ownBlock = some wn.heap.size) (f : w2.heap[g6]? = some (.cells [nV 0, iv, v2, nV 0].toArray 26 (0, 0))) (q2 : w1.grownBy w2 (some g6)) (hiv : iv.ownBlock = some gI) : BdAt w gI gO g6 1 (k + 1) iv v2 w2 := by
  obtain ⟨h1, h2, h3, h4, h5, h6, h7, h8⟩ := h
  have sz := hb.size
  have h2' := h2.keep hb
  have e : (bdO k).length = k := bdO_length k
  have p1 := h2'.push bdY_ok (by rw [e]; exact ao)
  rw [← bdO_succ] at p1
  have lt := h2'.1.lt
  have hv2 : ∀ g, v2.ownBlock = some g → g = gO ∨ g6 < g := fun g hgg => by
    rcases at' with e1 | e1
    · exact h4 g (by rw [← e1]; exact hgg)
    · rw [e1] at hgg; have := Option.some.inj hgg; omega
  have n6 : v2.ownBlock ≠ some g6 := fun e1 => by have := hv2 g6 e1; omega
  have no : iv.ownBlock ≠ v2.ownBlock := fun e1 => by
    rcases at' with e2 | e2
    · exact h5 (by rw [← e2]; exact e1)
    · rw [e2, hiv] at e1; have := Option.some.inj e1; omega
  have k1 : InsOwn gI wn iv (bdI 1) (List.replicate 1 (.slice none 0 0)) := h1.keep hb
  have hk : ∀ (i : Nat) kv, (List.replicate 1 (Value.slice none 0 0))[i]? = some kv → kv = .slice none 0 0 := fun i kv hkv => (List.mem_replicate.1 (List.mem_of_getElem? hkv)).2
  have k2 : InsOwn gI w1 iv (bdI 1) (List.replicate 1 (.slice none 0 0)) := ⟨k1.1, k1.2.1.kept ag (.inr h5), k1.2.2.1, fun i x kv hx hkv => ⟨(k1.2.2.2 i x kv hx hkv).1.off (by rw [hk i kv hkv]; exact nil_off _) ag, (k1.2.2.2 i x kv hx hkv).2⟩⟩
  refine ⟨⟨k2.1, k2.2.1.kept q2 (.inr (by rw [hiv]; intro e1; have := Option.some.inj e1; omega)), k2.2.2.1, fun i x kv hx hkv => ⟨(k2.2.2.2 i x kv hx hkv).1.off (by rw [hk i kv hkv]; exact nil_off _) q2, (k2.2.2.2 i x kv hx hkv).2⟩⟩, p1.kept q2 (.inr n6), h3, hv2, no, f, ?_, ?_⟩
  · refine ((h7.trans (hb.mono h7.size)).grown ag (Nat.le_trans h7.size sz) (fun q hq => ?_)).grown q2 (Nat.le_trans (Nat.le_trans h7.size sz) ag.size) (fun q hq => by cases hq; omega)
    have := (lt q hq).1
    omega
  · exact Nat.lt_of_lt_of_le (Nat.lt_of_lt_of_le h8 sz) (Nat.le_trans ag.size q2.size)
set_option maxHeartbeats 4000000 in
set_option maxRecDepth 100000 in
theorem txbounds_main (E : Nat → Addr) (HF : ∀ w, Calls Tryd.prog 9 #[] w fun e w' => e = .returned (.bool true) ∧ Below w.heap.size w w')
    (x y : Int) (w : World) (hE : Errs w E) (hx : -9223372036854775808 ≤ x ∧ x ≤ 9223372036854775807) (hy : -9223372036854775808 ≤ y ∧ y ≤ 9223372036854775807) :
    Calls Tryd.prog 6 #[.int .i64 x, .int .i64 y] w fun e w' => e = .returned (.bool true) ∧ Below w.heap.size w w' := by
  have HE := Lib.hid hE
  have HF := Lib.hid HF
  obtain ⟨j, hj, hj2⟩ := numb_nat x 4 (by omega)
  obtain ⟨q, hq, hq2⟩ := numb_nat y 5 (by omega)
  have hj' : numb x 4 = (j : Int) := hj
  have hq' : numb y 5 = (q : Int) := hq
  have HN1 : Hid (∀ W, Calls Tryd.prog 27 #[.int .i64 x, .int .i64 4] W fun e w' => e = .returned (.int .i64 (j : Int)) ∧ W = w') := fun W => by rw [← hj']; exact numb_any x 4 (by omega) (by omega) hx W
  obtain ⟨qi, hqi⟩ : ∃ qi : Int, qi = (q : Int) := ⟨_, rfl⟩
  have HN2 : Hid (∀ W, Calls Tryd.prog 27 #[.int .i64 y, .int .i64 5] W fun e w' => e = .returned (.int .i64 qi) ∧ W = w') := fun W => by rw [hqi, ← hq']; exact numb_any y 5 (by omega) (by omega) hy W
  have hcase : Hid (qi = 0 ∨ qi = 1 ∨ qi = 2 ∨ qi = 3 ∨ qi = 4) := Lib.hid (by omega)
  obtain ⟨nn, hnn⟩ : ∃ nn : Int, nn = (j : Int) - 1 := ⟨_, rfl⟩
  have hwr : IntKind.i64.wrap ((j : Int) - 1) = nn := by rw [IntKind.wrap_i64] <;> omega
  have hcase2 : Hid (nn = -1 ∨ nn = 0 ∨ nn = 1 ∨ nn = 2) := Lib.hid (by omega)
  have j0 : (0 : Int) ≤ (j : Int) := by omega
  have j1 : (j : Int) < 4 := by omega
  clear hE hj hq hj' hq' hqi hj2 hq2
  obtain ⟨i0, hi, hz0, hz1, hz2⟩ := info_parts info_in
  obtain ⟨k0, hk, hy0, hy1, hy2⟩ := info_parts info_out
  have LX : Hid ((inL (bdN 0) (.slice none 0 0)).length = 35) := inL_length _ _ rfl
  have LY : Hid ((outL bdY).length = 33) := outL_length _ rfl
  go_enter Tryd.func6, Tryd.ntmps6
  go_upto_region 4 with (go_at_call 9; refine (HF.out _).mono ?_; rintro e w1 ⟨rfl, hb1⟩; have B := Lib.hid hb1; clear hb1)
  go_wp2_with fail
  refine (HN1.out _).mono ?_
  rintro e w' ⟨rfl, rfl⟩
  go_upto_region 5 with fail
  go_upto_region 6 with ((with_reducible show wpList _ _ _ _ _ _); first | (refine wpList_buildTo rfl 52 _ rfl _ rfl (ptL zH 1).toArray (by kernel_rfl) ?_; go_frame) | (refine wpList_buildTo rfl 54 _ rfl _ rfl (inL (bdN 0) (.slice none 0 0)).toArray (by kernel_rfl) ?_; go_frame) | (refine wpList_slice_one rfl 23 54 (.tmp 17) rfl (inL (bdN 0) (.slice none 0 0)) rfl Tryd.underlying23 i0 _ hi hz0 (by rw [hz1, LX.out]) (by rw [LX.out]; omega) (by rw [LX.out]; omega) ?_; go_frame) | (refine wpList_buildTo rfl 57 _ rfl _ rfl (outL bdY).toArray (by kernel_rfl) ?_; go_frame) | (refine wpList_slice_one rfl 24 57 (.tmp 19) rfl (outL bdY) rfl Tryd.underlying24 k0 _ hk hy0 (by rw [hy1, LY.out]) (by rw [LY.out]; omega) (by rw [LY.out]; omega) ?_; go_frame) | (refine wpList_buildTo rfl 26 _ rfl _ rfl [nV 0, .slice (some ⟨w1.heap.size, 0, none⟩) 1 1, .slice (some ⟨w1.heap.size + 1, 0, none⟩) 1 1, nV 0].toArray (built_txs _ _ rfl rfl) ?_; go_frame))
  obtain ⟨b3, f1, f2, f3, f4⟩ := lay3 w1 (inL (bdN 0) (.slice none 0 0)).toArray (outL bdY).toArray [nV 0, .slice (some ⟨w1.heap.size, 0, none⟩) 1 1, .slice (some ⟨w1.heap.size + 1, 0, none⟩) 1 1, nV 0].toArray 54 57 26
  rw [← hnn]
  generalize hw3 : World.alloc (World.alloc (World.alloc w1 _) _) _ = w3
  have e3 : ((w1.alloc (.cells (inL (bdN 0) (.slice none 0 0)).toArray 54 (0, 0))).alloc (.cells (outL bdY).toArray 57 (0, 0))).alloc (.cells [nV 0, .slice (some ⟨w1.heap.size, 0, none⟩) 1 1, .slice (some ⟨w1.heap.size + 1, 0, none⟩) 1 1, nV 0].toArray 26 (0, 0)) = w3 := hw3
  rw [e3] at b3 f1 f2 f3 f4
  have FI := Lib.hid f1
  have FO := Lib.hid f2
  have F6 := Lib.hid f3
  have BS := Lib.hid B.out.size
  have B := Lib.hid (B.out.trans (b3.mono B.out.size))
  have G6S : Hid (w1.heap.size + 2 < w3.heap.size) := Lib.hid (by omega)
  clear b3 f1 f2 f3 f4 hw3 e3 hnn hwr j0 j1 HN1
  obtain ⟨gI, hgI⟩ : ∃ gI, gI = w1.heap.size := ⟨_, rfl⟩
  obtain ⟨g6, hg6⟩ : ∃ g6, g6 = gI + 1 + 1 := ⟨_, rfl⟩
  obtain ⟨gO, hgO⟩ : ∃ gO, gO = gI + 1 := ⟨_, rfl⟩
  have e6 : gI + 2 = g6 := by omega
  rw [← hgI] at FI FO F6 G6S BS ⊢
  rw [e6] at F6 G6S
  rw [← hgO] at F6 FO
  try rw [← hg6]
  try rw [← hgO]
  have GL : Hid (w.heap.size ≤ gI ∧ gI < gO ∧ gO < g6) := by have := BS.out; show _ ∧ _ ∧ _; omega
  clear hgI hg6 hgO e6 BS
  go_upto_region 7 with fail
  go_wp2_with fail
  refine (HN2.out _).mono ?_
  rintro e w' ⟨rfl, rfl⟩
  have hc := hcase.out
  have hc2 := hcase2.out
  clear HN2 hcase hcase2 HF
  have BD0 : Hid (BdAt w gI gO g6 1 1 (.slice (some ⟨gI, 0, none⟩) 1 1) (.slice (some ⟨gO, 0, none⟩) 1 1) w3) := ⟨⟨rfl, own_of_row FI.out (Nat.le_refl _) rfl (by decide), bdI_ok 1 (by omega), fun i x kv hx hkv => by have e : kv = .slice none 0 0 := (List.mem_replicate.1 (List.mem_of_getElem? hkv)).2; have e2 : x = bdN 0 := List.mem_singleton.1 (List.mem_of_getElem? hx); subst e e2; exact ⟨nil_key _, fun q _ => nil_off _, nil_off _⟩⟩,
    ⟨own_of_row FO.out (Nat.le_of_lt GL.out.2.1) rfl (by decide), bdO_ok 1⟩, fun g hg => .inl (Option.some.inj hg).symm, fun g hg => .inl (Option.some.inj hg).symm, fun e => by have e2 : gI = gO := Option.some.inj e; have := GL.out; omega, F6.out, B.out, G6S.out⟩
  rcases hc with rfl | rfl | rfl | rfl | rfl
  · rcases hc2 with rfl | rfl | rfl | rfl
    · go_wp2_with fail
      go_loopw [8] (fun vi wr => BdIn 49 w gI gO g6 vi wr) (fun i _ => 49 - (intOf i).toNat)
      case atStart => exact ⟨1, (.slice (some ⟨gI, 0, none⟩) 1 1), by omega, by omega, rfl, BD0.out⟩
      case round =>
        obtain ⟨k, iv, hkn, hk1, rfl, hbd⟩ := hrel
        have BD := Lib.hid hbd
        clear hbd BD0 F6 FI FO B G6S
        have p0 : 0 ≤ (k : Int) := by omega
        have p1 : (k : Int) < 100 := by omega
        by_cases hlt : k < 49
        · have q0 : (k : Int) < 49 := by omega
          have hcv : IntKind.u32.wrap ((k : Int) + 1) = (k : Int) + 1 := by rw [IntKind.wrap_u32']; omega
          have c1 : wr.cell? ⟨g6, 1, none⟩ = some iv := by rw [cell_of_row _ _ _ _ _ _ BD.out.2.2.2.2.2.1]; rfl
          have LN : Hid ((inL (bdN k) (.slice none 0 0)).length = 35) := inL_length _ _ rfl
          have BN := Lib.hid ((Below.refl wr.heap.size wr).alloc (Nat.le_refl _) (.cells (inL (bdN k) (.slice none 0 0)).toArray 54 (0, 0)))
          have CN : Hid (∀ j u, (inL (bdN k) (.slice none 0 0))[j]? = some u → (wr.alloc (.cells (inL (bdN k) (.slice none 0 0)).toArray 54 (0, 0))).cell? ((⟨wr.heap.size, 0, none⟩ : Addr).add j) = some u) := fun j u hj => by rw [Addr.add_mid]; exact range_of_box (heap_alloc_new wr (.cells (inL (bdN k) (.slice none 0 0)).toArray 54 (0, 0))) j u hj
          have OW : Hid ((wr.alloc (.cells (inL (bdN k) (.slice none 0 0)).toArray 54 (0, 0))).ownsRow gI 54 35 iv k (insL (bdI k) (List.replicate k (.slice none 0 0)))) := by
            have h := own_kept BD.out.1.2.1 BN.out
            rw [bdI_length k] at h
            exact h
          have FN := Lib.hid (row_below BD.out.2.2.2.2.2.1 BN.out)
          have NE : Hid (iv.ownBlock ≠ some g6) := fun e => by have := BD.out.2.2.1 g6 e; have := GL.out; omega
          have BL : Hid (gI ≤ (wr.alloc (.cells (inL (bdN k) (.slice none 0 0)).toArray 54 (0, 0))).heap.size) := Nat.le_trans (by have := GL.out; have := BD.out.2.2.2.2.2.2.2; omega) BN.out.size
          have M1 : Hid (k + 1 ≤ maxLen) := by show _ ≤ _; unfold maxLen; omega
          have M2 : Hid ((k + 1) * 72 ≤ 140737488355328) := by show _ ≤ _; omega
          have LN1 : Hid ((inL (bdN k) (.slice none 0 0)).length = 1 * 35) := LN.out
          clear hlt hk1
          go_wp2_with (first | ((with_reducible show wpList _ _ _ _ _ _); first | (refine wpList_buildTo rfl 52 _ rfl _ rfl (ptL zH (k + 1)).toArray (by kernel_rfl) ?_; go_frame) | (refine wpList_buildTo rfl 54 _ rfl _ rfl (inL (bdN k) (.slice none 0 0)).toArray (by kernel_rfl) ?_; go_frame) | (refine wpList_slice_one rfl 23 54 (.tmp 47) rfl (inL (bdN k) (.slice none 0 0)) rfl Tryd.underlying23 i0 _ hi hz0 (by rw [hz1, LN.out]) (by rw [LN.out]; omega) (by rw [LN.out]; omega) ?_; go_frame) | (refine wpList_store_part rfl 23 (.tmp 50) (.tmp 49) rfl g6 1 [nV 0] [iv] [(.slice (some ⟨gO, 0, none⟩) 1 1), nV 0] [v2] 26 v2 rfl rfl (cells_one (own_one AO.out)) rfl rfl (row_far FN.out AG.out NE.out) (by kernel_rfl) (one_mem (own_one AO.out)) ?_; intro w5 q1 q2; have F5 := Lib.hid q1; have Q5 := Lib.hid q2; clear q1 q2; go_frame)) | (at_builtin; refine wpList_append_own_at _ rfl _ _ 23 rfl gI 54 i0 (.agg (List.replicate 32 (bV 0) ++ [nV 0, .slice none 0 0, nV 0]).toArray) 35 72 Tryd.underlying23 hi hz0 hz1 hz2 (by kernel_rfl) (by decide) iv k (insL (bdI k) (List.replicate k (.slice none 0 0))) rfl OW.out ⟨wr.heap.size, 0, none⟩ 1 1 (inL (bdN k) (.slice none 0 0)) rfl LN1.out CN.out (in_mem_one (bdN k) (.slice none 0 0) rfl) M1.out M2.out BL.out ?_; intro v2 w4 a1 a2 _ a4; have AO := Lib.hid a1; have AG := Lib.hid a2; have AT := Lib.hid a4; clear a1 a2 a4; go_frame))
          have BD2 := Lib.hid (BD.out.addI GL.out.1 (Nat.lt_trans GL.out.2.1 GL.out.2.2) (by omega) BN.out AO.out AG.out AT.out F5.out Q5.out rfl GL.out.2.2 (Nat.le_of_lt GL.out.2.1))
          go_roundw
          case rel => exact ⟨k + 1, v2, by omega, by omega, by go_num, BD2.out⟩
          case measure => simp [intOf]; omega
        · have hkn2 : k = 49 := by omega
          subst hkn2
          clear hlt hk1 p0 p1 hkn
          go_upto_region 32 with fail
          obtain ⟨cc, hcc⟩ : ∃ cc, cc = 0 := ⟨_, rfl⟩
          have HC : Hid (cc = checkC (bd0 0)) := by show _ = _; rw [hcc, bd0_check 0 (by omega)]; try rfl
          have HI : Hid (true = (numE cc == (0 : Int))) := by show _ = _; rw [hcc]; rfl
          have HN : Hid (cc ≤ 25) := by show _ ≤ _; omega
          have TA := Lib.hid (BD.out.tx)
          have FZ := Lib.hid (BD.out.2.2.2.2.2.1)
          have BZ := Lib.hid (BD.out.2.2.2.2.2.2.1)
          clear hcc
          go_wp2_with ((with_reducible show wpList _ _ _ _ _ _); (refine wpList_load_rowG 26 (.tmp 6) rfl g6 rfl 26 ([nV 0, iv, (.slice (some ⟨gO, 0, none⟩) 1 1), nV 0]).toArray (0, 0) _ FZ.out Tryd.underlying26 rfl (by kernel_rfl) rfl ?_; go_frame))
          refine (check_all E (bd0 0) _ _ cc HC.out (HE.out.below BZ.out).e8 TA.out (bd0_small 0 (by omega))).mono ?_
          rintro e n1 ⟨rfl, hx⟩
          have BZ := Lib.hid (BZ.out.trans (hx.mono BZ.out.size))
          clear hx
          go_wp2_with fail
          refine (is_any E cc 0 true HI.out n1 (HE.out.below BZ.out) HN.out).mono ?_
          rintro e n2 ⟨rfl, hx⟩
          have BZ := Lib.hid (BZ.out.trans (hx.mono BZ.out.size))
          clear hx
          go_wp2_with fail
          go_ret
          exact ⟨rfl, BZ.out⟩
    · go_wp2_with fail
      go_loopw [8] (fun vi wr => BdIn 50 w gI gO g6 vi wr) (fun i _ => 50 - (intOf i).toNat)
      case atStart => exact ⟨1, (.slice (some ⟨gI, 0, none⟩) 1 1), by omega, by omega, rfl, BD0.out⟩
      case round =>
        obtain ⟨k, iv, hkn, hk1, rfl, hbd⟩ := hrel
        have BD := Lib.hid hbd
        clear hbd BD0 F6 FI FO B G6S
        have p0 : 0 ≤ (k : Int) := by omega
        have p1 : (k : Int) < 100 := by omega
        by_cases hlt : k < 50
        · have q0 : (k : Int) < 50 := by omega
          have hcv : IntKind.u32.wrap ((k : Int) + 1) = (k : Int) + 1 := by rw [IntKind.wrap_u32']; omega
          have c1 : wr.cell? ⟨g6, 1, none⟩ = some iv := by rw [cell_of_row _ _ _ _ _ _ BD.out.2.2.2.2.2.1]; rfl
          have LN : Hid ((inL (bdN k) (.slice none 0 0)).length = 35) := inL_length _ _ rfl
          have BN := Lib.hid ((Below.refl wr.heap.size wr).alloc (Nat.le_refl _) (.cells (inL (bdN k) (.slice none 0 0)).toArray 54 (0, 0)))
          have CN : Hid (∀ j u, (inL (bdN k) (.slice none 0 0))[j]? = some u → (wr.alloc (.cells (inL (bdN k) (.slice none 0 0)).toArray 54 (0, 0))).cell? ((⟨wr.heap.size, 0, none⟩ : Addr).add j) = some u) := fun j u hj => by rw [Addr.add_mid]; exact range_of_box (heap_alloc_new wr (.cells (inL (bdN k) (.slice none 0 0)).toArray 54 (0, 0))) j u hj
          have OW : Hid ((wr.alloc (.cells (inL (bdN k) (.slice none 0 0)).toArray 54 (0, 0))).ownsRow gI 54 35 iv k (insL (bdI k) (List.replicate k (.slice none 0 0)))) := by
            have h := own_kept BD.out.1.2.1 BN.out
            rw [bdI_length k] at h
            exact h
          have FN := Lib.hid (row_below BD.out.2.2.2.2.2.1 BN.out)
          have NE : Hid (iv.ownBlock ≠ some g6) := fun e => by have := BD.out.2.2.1 g6 e; have := GL.out; omega
          have BL : Hid (gI ≤ (wr.alloc (.cells (inL (bdN k) (.slice none 0 0)).toArray 54 (0, 0))).heap.size) := Nat.le_trans (by have := GL.out; have := BD.out.2.2.2.2.2.2.2; omega) BN.out.size
          have M1 : Hid (k + 1 ≤ maxLen) := by show _ ≤ _; unfold maxLen; omega
          have M2 : Hid ((k + 1) * 72 ≤ 140737488355328) := by show _ ≤ _; omega
          have LN1 : Hid ((inL (bdN k) (.slice none 0 0)).length = 1 * 35) := LN.out
          clear hlt hk1
          go_wp2_with (first | ((with_reducible show wpList _ _ _ _ _ _); first | (refine wpList_buildTo rfl 52 _ rfl _ rfl (ptL zH (k + 1)).toArray (by kernel_rfl) ?_; go_frame) | (refine wpList_buildTo rfl 54 _ rfl _ rfl (inL (bdN k) (.slice none 0 0)).toArray (by kernel_rfl) ?_; go_frame) | (refine wpList_slice_one rfl 23 54 (.tmp 47) rfl (inL (bdN k) (.slice none 0 0)) rfl Tryd.underlying23 i0 _ hi hz0 (by rw [hz1, LN.out]) (by rw [LN.out]; omega) (by rw [LN.out]; omega) ?_; go_frame) | (refine wpList_store_part rfl 23 (.tmp 50) (.tmp 49) rfl g6 1 [nV 0] [iv] [(.slice (some ⟨gO, 0, none⟩) 1 1), nV 0] [v2] 26 v2 rfl rfl (cells_one (own_one AO.out)) rfl rfl (row_far FN.out AG.out NE.out) (by kernel_rfl) (one_mem (own_one AO.out)) ?_; intro w5 q1 q2; have F5 := Lib.hid q1; have Q5 := Lib.hid q2; clear q1 q2; go_frame)) | (at_builtin; refine wpList_append_own_at _ rfl _ _ 23 rfl gI 54 i0 (.agg (List.replicate 32 (bV 0) ++ [nV 0, .slice none 0 0, nV 0]).toArray) 35 72 Tryd.underlying23 hi hz0 hz1 hz2 (by kernel_rfl) (by decide) iv k (insL (bdI k) (List.replicate k (.slice none 0 0))) rfl OW.out ⟨wr.heap.size, 0, none⟩ 1 1 (inL (bdN k) (.slice none 0 0)) rfl LN1.out CN.out (in_mem_one (bdN k) (.slice none 0 0) rfl) M1.out M2.out BL.out ?_; intro v2 w4 a1 a2 _ a4; have AO := Lib.hid a1; have AG := Lib.hid a2; have AT := Lib.hid a4; clear a1 a2 a4; go_frame))
          have BD2 := Lib.hid (BD.out.addI GL.out.1 (Nat.lt_trans GL.out.2.1 GL.out.2.2) (by omega) BN.out AO.out AG.out AT.out F5.out Q5.out rfl GL.out.2.2 (Nat.le_of_lt GL.out.2.1))
          go_roundw
          case rel => exact ⟨k + 1, v2, by omega, by omega, by go_num, BD2.out⟩
          case measure => simp [intOf]; omega
        · have hkn2 : k = 50 := by omega
          subst hkn2
          clear hlt hk1 p0 p1 hkn
          go_upto_region 32 with fail
          obtain ⟨cc, hcc⟩ : ∃ cc, cc = 0 := ⟨_, rfl⟩
          have HC : Hid (cc = checkC (bd0 1)) := by show _ = _; rw [hcc, bd0_check 1 (by omega)]; try rfl
          have HI : Hid (true = (numE cc == (0 : Int))) := by show _ = _; rw [hcc]; rfl
          have HN : Hid (cc ≤ 25) := by show _ ≤ _; omega
          have TA := Lib.hid (BD.out.tx)
          have FZ := Lib.hid (BD.out.2.2.2.2.2.1)
          have BZ := Lib.hid (BD.out.2.2.2.2.2.2.1)
          clear hcc
          go_wp2_with ((with_reducible show wpList _ _ _ _ _ _); (refine wpList_load_rowG 26 (.tmp 6) rfl g6 rfl 26 ([nV 0, iv, (.slice (some ⟨gO, 0, none⟩) 1 1), nV 0]).toArray (0, 0) _ FZ.out Tryd.underlying26 rfl (by kernel_rfl) rfl ?_; go_frame))
          refine (check_all E (bd0 1) _ _ cc HC.out (HE.out.below BZ.out).e8 TA.out (bd0_small 1 (by omega))).mono ?_
          rintro e n1 ⟨rfl, hx⟩
          have BZ := Lib.hid (BZ.out.trans (hx.mono BZ.out.size))
          clear hx
          go_wp2_with fail
          refine (is_any E cc 0 true HI.out n1 (HE.out.below BZ.out) HN.out).mono ?_
          rintro e n2 ⟨rfl, hx⟩
          have BZ := Lib.hid (BZ.out.trans (hx.mono BZ.out.size))
          clear hx
          go_wp2_with fail
          go_ret
          exact ⟨rfl, BZ.out⟩
    · go_wp2_with fail
      go_loopw [8] (fun vi wr => BdIn 51 w gI gO g6 vi wr) (fun i _ => 51 - (intOf i).toNat)
      case atStart => exact ⟨1, (.slice (some ⟨gI, 0, none⟩) 1 1), by omega, by omega, rfl, BD0.out⟩
      case round =>
        obtain ⟨k, iv, hkn, hk1, rfl, hbd⟩ := hrel
        have BD := Lib.hid hbd
        clear hbd BD0 F6 FI FO B G6S
        have p0 : 0 ≤ (k : Int) := by omega
        have p1 : (k : Int) < 100 := by omega
        by_cases hlt : k < 51
        · have q0 : (k : Int) < 51 := by omega
          have hcv : IntKind.u32.wrap ((k : Int) + 1) = (k : Int) + 1 := by rw [IntKind.wrap_u32']; omega
          have c1 : wr.cell? ⟨g6, 1, none⟩ = some iv := by rw [cell_of_row _ _ _ _ _ _ BD.out.2.2.2.2.2.1]; rfl
          have LN : Hid ((inL (bdN k) (.slice none 0 0)).length = 35) := inL_length _ _ rfl
          have BN := Lib.hid ((Below.refl wr.heap.size wr).alloc (Nat.le_refl _) (.cells (inL (bdN k) (.slice none 0 0)).toArray 54 (0, 0)))
          have CN : Hid (∀ j u, (inL (bdN k) (.slice none 0 0))[j]? = some u → (wr.alloc (.cells (inL (bdN k) (.slice none 0 0)).toArray 54 (0, 0))).cell? ((⟨wr.heap.size, 0, none⟩ : Addr).add j) = some u) := fun j u hj => by rw [Addr.add_mid]; exact range_of_box (heap_alloc_new wr (.cells (inL (bdN k) (.slice none 0 0)).toArray 54 (0, 0))) j u hj
          have OW : Hid ((wr.alloc (.cells (inL (bdN k) (.slice none 0 0)).toArray 54 (0, 0))).ownsRow gI 54 35 iv k (insL (bdI k) (List.replicate k (.slice none 0 0)))) := by
            have h := own_kept BD.out.1.2.1 BN.out
            rw [bdI_length k] at h
            exact h
          have FN := Lib.hid (row_below BD.out.2.2.2.2.2.1 BN.out)
          have NE : Hid (iv.ownBlock ≠ some g6) := fun e => by have := BD.out.2.2.1 g6 e; have := GL.out; omega
          have BL : Hid (gI ≤ (wr.alloc (.cells (inL (bdN k) (.slice none 0 0)).toArray 54 (0, 0))).heap.size) := Nat.le_trans (by have := GL.out; have := BD.out.2.2.2.2.2.2.2; omega) BN.out.size
          have M1 : Hid (k + 1 ≤ maxLen) := by show _ ≤ _; unfold maxLen; omega
          have M2 : Hid ((k + 1) * 72 ≤ 140737488355328) := by show _ ≤ _; omega
          have LN1 : Hid ((inL (bdN k) (.slice none 0 0)).length = 1 * 35) := LN.out
          clear hlt hk1
          go_wp2_with (first | ((with_reducible show wpList _ _ _ _ _ _); first | (refine wpList_buildTo rfl 52 _ rfl _ rfl (ptL zH (k + 1)).toArray (by kernel_rfl) ?_; go_frame) | (refine wpList_buildTo rfl 54 _ rfl _ rfl (inL (bdN k) (.slice none 0 0)).toArray (by kernel_rfl) ?_; go_frame) | (refine wpList_slice_one rfl 23 54 (.tmp 47) rfl (inL (bdN k) (.slice none 0 0)) rfl Tryd.underlying23 i0 _ hi hz0 (by rw [hz1, LN.out]) (by rw [LN.out]; omega) (by rw [LN.out]; omega) ?_; go_frame) | (refine wpList_store_part rfl 23 (.tmp 50) (.tmp 49) rfl g6 1 [nV 0] [iv] [(.slice (some ⟨gO, 0, none⟩) 1 1), nV 0] [v2] 26 v2 rfl rfl (cells_one (own_one AO.out)) rfl rfl (row_far FN.out AG.out NE.out) (by kernel_rfl) (one_mem (own_one AO.out)) ?_; intro w5 q1 q2; have F5 := Lib.hid q1; have Q5 := Lib.hid q2; clear q1 q2; go_frame)) | (at_builtin; refine wpList_append_own_at _ rfl _ _ 23 rfl gI 54 i0 (.agg (List.replicate 32 (bV 0) ++ [nV 0, .slice none 0 0, nV 0]).toArray) 35 72 Tryd.underlying23 hi hz0 hz1 hz2 (by kernel_rfl) (by decide) iv k (insL (bdI k) (List.replicate k (.slice none 0 0))) rfl OW.out ⟨wr.heap.size, 0, none⟩ 1 1 (inL (bdN k) (.slice none 0 0)) rfl LN1.out CN.out (in_mem_one (bdN k) (.slice none 0 0) rfl) M1.out M2.out BL.out ?_; intro v2 w4 a1 a2 _ a4; have AO := Lib.hid a1; have AG := Lib.hid a2; have AT := Lib.hid a4; clear a1 a2 a4; go_frame))
          have BD2 := Lib.hid (BD.out.addI GL.out.1 (Nat.lt_trans GL.out.2.1 GL.out.2.2) (by omega) BN.out AO.out AG.out AT.out F5.out Q5.out rfl GL.out.2.2 (Nat.le_of_lt GL.out.2.1))
          go_roundw
          case rel => exact ⟨k + 1, v2, by omega, by omega, by go_num, BD2.out⟩
          case measure => simp [intOf]; omega
        · have hkn2 : k = 51 := by omega
          subst hkn2
          clear hlt hk1 p0 p1 hkn
          go_upto_region 32 with fail
          obtain ⟨cc, hcc⟩ : ∃ cc, cc = 4 := ⟨_, rfl⟩
          have HC : Hid (cc = checkC (bd0 2)) := by show _ = _; rw [hcc, bd0_check 2 (by omega)]; try rfl
          have HI : Hid (true = (numE cc == (104 : Int))) := by show _ = _; rw [hcc]; rfl
          have HN : Hid (cc ≤ 25) := by show _ ≤ _; omega
          have TA := Lib.hid (BD.out.tx)
          have FZ := Lib.hid (BD.out.2.2.2.2.2.1)
          have BZ := Lib.hid (BD.out.2.2.2.2.2.2.1)
          clear hcc
          go_wp2_with ((with_reducible show wpList _ _ _ _ _ _); (refine wpList_load_rowG 26 (.tmp 6) rfl g6 rfl 26 ([nV 0, iv, (.slice (some ⟨gO, 0, none⟩) 1 1), nV 0]).toArray (0, 0) _ FZ.out Tryd.underlying26 rfl (by kernel_rfl) rfl ?_; go_frame))
          refine (check_all E (bd0 2) _ _ cc HC.out (HE.out.below BZ.out).e8 TA.out (bd0_small 2 (by omega))).mono ?_
          rintro e n1 ⟨rfl, hx⟩
          have BZ := Lib.hid (BZ.out.trans (hx.mono BZ.out.size))
          clear hx
          go_wp2_with fail
          refine (is_any E cc 104 true HI.out n1 (HE.out.below BZ.out) HN.out).mono ?_
          rintro e n2 ⟨rfl, hx⟩
          have BZ := Lib.hid (BZ.out.trans (hx.mono BZ.out.size))
          clear hx
          go_wp2_with fail
          go_ret
          exact ⟨rfl, BZ.out⟩
    · go_wp2_with fail
      go_loopw [8] (fun vi wr => BdIn 52 w gI gO g6 vi wr) (fun i _ => 52 - (intOf i).toNat)
      case atStart => exact ⟨1, (.slice (some ⟨gI, 0, none⟩) 1 1), by omega, by omega, rfl, BD0.out⟩
      case round =>
        obtain ⟨k, iv, hkn, hk1, rfl, hbd⟩ := hrel
        have BD := Lib.hid hbd
        clear hbd BD0 F6 FI FO B G6S
        have p0 : 0 ≤ (k : Int) := by omega
        have p1 : (k : Int) < 100 := by omega
        by_cases hlt : k < 52
        · have q0 : (k : Int) < 52 := by omega
          have hcv : IntKind.u32.wrap ((k : Int) + 1) = (k : Int) + 1 := by rw [IntKind.wrap_u32']; omega
          have c1 : wr.cell? ⟨g6, 1, none⟩ = some iv := by rw [cell_of_row _ _ _ _ _ _ BD.out.2.2.2.2.2.1]; rfl
          have LN : Hid ((inL (bdN k) (.slice none 0 0)).length = 35) := inL_length _ _ rfl
          have BN := Lib.hid ((Below.refl wr.heap.size wr).alloc (Nat.le_refl _) (.cells (inL (bdN k) (.slice none 0 0)).toArray 54 (0, 0)))
          have CN : Hid (∀ j u, (inL (bdN k) (.slice none 0 0))[j]? = some u → (wr.alloc (.cells (inL (bdN k) (.slice none 0 0)).toArray 54 (0, 0))).cell? ((⟨wr.heap.size, 0, none⟩ : Addr).add j) = some u) := fun j u hj => by rw [Addr.add_mid]; exact range_of_box (heap_alloc_new wr (.cells (inL (bdN k) (.slice none 0 0)).toArray 54 (0, 0))) j u hj
          have OW : Hid ((wr.alloc (.cells (inL (bdN k) (.slice none 0 0)).toArray 54 (0, 0))).ownsRow gI 54 35 iv k (insL (bdI k) (List.replicate k (.slice none 0 0)))) := by
            have h := own_kept BD.out.1.2.1 BN.out
            rw [bdI_length k] at h
            exact h
          have FN := Lib.hid (row_below BD.out.2.2.2.2.2.1 BN.out)
          have NE : Hid (iv.ownBlock ≠ some g6) := fun e => by have := BD.out.2.2.1 g6 e; have := GL.out; omega
          have BL : Hid (gI ≤ (wr.alloc (.cells (inL (bdN k) (.slice none 0 0)).toArray 54 (0, 0))).heap.size) := Nat.le_trans (by have := GL.out; have := BD.out.2.2.2.2.2.2.2; omega) BN.out.size
          have M1 : Hid (k + 1 ≤ maxLen) := by show _ ≤ _; unfold maxLen; omega
          have M2 : Hid ((k + 1) * 72 ≤ 140737488355328) := by show _ ≤ _; omega
          have LN1 : Hid ((inL (bdN k) (.slice none 0 0)).length = 1 * 35) := LN.out
          clear hlt hk1
          go_wp2_with (first | ((with_reducible show wpList _ _ _ _ _ _); first | (refine wpList_buildTo rfl 52 _ rfl _ rfl (ptL zH (k + 1)).toArray (by kernel_rfl) ?_; go_frame) | (refine wpList_buildTo rfl 54 _ rfl _ rfl (inL (bdN k) (.slice none 0 0)).toArray (by kernel_rfl) ?_; go_frame) | (refine wpList_slice_one rfl 23 54 (.tmp 47) rfl (inL (bdN k) (.slice none 0 0)) rfl Tryd.underlying23 i0 _ hi hz0 (by rw [hz1, LN.out]) (by rw [LN.out]; omega) (by rw [LN.out]; omega) ?_; go_frame) | (refine wpList_store_part rfl 23 (.tmp 50) (.tmp 49) rfl g6 1 [nV 0] [iv] [(.slice (some ⟨gO, 0, none⟩) 1 1), nV 0] [v2] 26 v2 rfl rfl (cells_one (own_one AO.out)) rfl rfl (row_far FN.out AG.out NE.out) (by kernel_rfl) (one_mem (own_one AO.out)) ?_; intro w5 q1 q2; have F5 := Lib.hid q1; have Q5 := Lib.hid q2; clear q1 q2; go_frame)) | (at_builtin; refine wpList_append_own_at _ rfl _ _ 23 rfl gI 54 i0 (.agg (List.replicate 32 (bV 0) ++ [nV 0, .slice none 0 0, nV 0]).toArray) 35 72 Tryd.underlying23 hi hz0 hz1 hz2 (by kernel_rfl) (by decide) iv k (insL (bdI k) (List.replicate k (.slice none 0 0))) rfl OW.out ⟨wr.heap.size, 0, none⟩ 1 1 (inL (bdN k) (.slice none 0 0)) rfl LN1.out CN.out (in_mem_one (bdN k) (.slice none 0 0) rfl) M1.out M2.out BL.out ?_; intro v2 w4 a1 a2 _ a4; have AO := Lib.hid a1; have AG := Lib.hid a2; have AT := Lib.hid a4; clear a1 a2 a4; go_frame))
          have BD2 := Lib.hid (BD.out.addI GL.out.1 (Nat.lt_trans GL.out.2.1 GL.out.2.2) (by omega) BN.out AO.out AG.out AT.out F5.out Q5.out rfl GL.out.2.2 (Nat.le_of_lt GL.out.2.1))
          go_roundw
          case rel => exact ⟨k + 1, v2, by omega, by omega, by go_num, BD2.out⟩
          case measure => simp [intOf]; omega
        · have hkn2 : k = 52 := by omega
          subst hkn2
          clear hlt hk1 p0 p1 hkn
          go_upto_region 32 with fail
          obtain ⟨cc, hcc⟩ : ∃ cc, cc = 4 := ⟨_, rfl⟩
          have HC : Hid (cc = checkC (bd0 3)) := by show _ = _; rw [hcc, bd0_check 3 (by omega)]; try rfl
          have HI : Hid (true = (numE cc == (104 : Int))) := by show _ = _; rw [hcc]; rfl
          have HN : Hid (cc ≤ 25) := by show _ ≤ _; omega
          have TA := Lib.hid (BD.out.tx)
          have FZ := Lib.hid (BD.out.2.2.2.2.2.1)
          have BZ := Lib.hid (BD.out.2.2.2.2.2.2.1)
          clear hcc
          go_wp2_with ((with_reducible show wpList _ _ _ _ _ _); (refine wpList_load_rowG 26 (.tmp 6) rfl g6 rfl 26 ([nV 0, iv, (.slice (some ⟨gO, 0, none⟩) 1 1), nV 0]).toArray (0, 0) _ FZ.out Tryd.underlying26 rfl (by kernel_rfl) rfl ?_; go_frame))
          refine (check_all E (bd0 3) _ _ cc HC.out (HE.out.below BZ.out).e8 TA.out (bd0_small 3 (by omega))).mono ?_
          rintro e n1 ⟨rfl, hx⟩
          have BZ := Lib.hid (BZ.out.trans (hx.mono BZ.out.size))
          clear hx
          go_wp2_with fail
          refine (is_any E cc 104 true HI.out n1 (HE.out.below BZ.out) HN.out).mono ?_
          rintro e n2 ⟨rfl, hx⟩
          have BZ := Lib.hid (BZ.out.trans (hx.mono BZ.out.size))
          clear hx
          go_wp2_with fail
          go_ret
          exact ⟨rfl, BZ.out⟩
  · rcases hc2 with rfl | rfl | rfl | rfl
    · go_wp2_with fail
      go_loopw [9] (fun vi wr => BdOut 49 w gI gO g6 vi wr) (fun i _ => 49 - (intOf i).toNat)
      case atStart => exact ⟨1, (.slice (some ⟨gO, 0, none⟩) 1 1), by omega, by omega, rfl, BD0.out⟩
      case round =>
        obtain ⟨k, ov, hkn, hk1, rfl, hbd⟩ := hrel
        have BD := Lib.hid hbd
        clear hbd BD0 F6 FI FO B G6S
        have p0 : 0 ≤ (k : Int) := by omega
        have p1 : (k : Int) < 100 := by omega
        by_cases hlt : k < 49
        · have q0 : (k : Int) < 49 := by omega
          have hcv : IntKind.u32.wrap ((k : Int) + 1) = (k : Int) + 1 := by rw [IntKind.wrap_u32']; omega
          have c1 : wr.cell? ⟨g6, 2, none⟩ = some ov := by rw [cell_of_row _ _ _ _ _ _ BD.out.2.2.2.2.2.1]; rfl
          have LN : Hid ((outL bdY).length = 33) := outL_length _ rfl
          have BN := Lib.hid ((Below.refl wr.heap.size wr).alloc (Nat.le_refl _) (.cells (outL bdY).toArray 57 (0, 0)))
          have CN : Hid (∀ j u, (outL bdY)[j]? = some u → (wr.alloc (.cells (outL bdY).toArray 57 (0, 0))).cell? ((⟨wr.heap.size, 0, none⟩ : Addr).add j) = some u) := fun j u hj => by rw [Addr.add_mid]; exact range_of_box (heap_alloc_new wr (.cells (outL bdY).toArray 57 (0, 0))) j u hj
          have OW : Hid ((wr.alloc (.cells (outL bdY).toArray 57 (0, 0))).ownsRow gI 57 33 ov k (outsL (bdO k))) := by
            have h := own_kept BD.out.2.1.1 BN.out
            rw [bdO_length k] at h
            exact h
          have FN := Lib.hid (row_below BD.out.2.2.2.2.2.1 BN.out)
          have NE : Hid (ov.ownBlock ≠ some g6) := fun e => by have := BD.out.2.2.2.1 g6 e; have := GL.out; omega
          have BL : Hid (gI ≤ (wr.alloc (.cells (outL bdY).toArray 57 (0, 0))).heap.size) := Nat.le_trans (by have := GL.out; have := BD.out.2.2.2.2.2.2.2; omega) BN.out.size
          have M1 : Hid (k + 1 ≤ maxLen) := by show _ ≤ _; unfold maxLen; omega
          have M2 : Hid ((k + 1) * 40 ≤ 140737488355328) := by show _ ≤ _; omega
          have LN1 : Hid ((outL bdY).length = 1 * 33) := LN.out
          clear hlt hk1
          go_wp2_with (first | ((with_reducible show wpList _ _ _ _ _ _); first | (refine wpList_buildTo rfl 57 _ rfl _ rfl (outL bdY).toArray (by kernel_rfl) ?_; go_frame) | (refine wpList_slice_one rfl 24 57 (.tmp 63) rfl (outL bdY) rfl Tryd.underlying24 k0 _ hk hy0 (by rw [hy1, LN.out]) (by rw [LN.out]; omega) (by rw [LN.out]; omega) ?_; go_frame) | (refine wpList_store_part rfl 24 (.tmp 66) (.tmp 65) rfl g6 2 [nV 0, (.slice (some ⟨gI, 0, none⟩) 1 1)] [ov] [nV 0] [v2] 26 v2 rfl rfl (cells_one (own_one AO.out)) rfl rfl (row_far FN.out AG.out NE.out) (by kernel_rfl) (one_mem (own_one AO.out)) ?_; intro w5 q1 q2; have F5 := Lib.hid q1; have Q5 := Lib.hid q2; clear q1 q2; go_frame)) | (at_builtin; refine wpList_append_own_at _ rfl _ _ 24 rfl gI 57 k0 (.agg (uV 0 :: List.replicate 32 (bV 0)).toArray) 33 40 Tryd.underlying24 hk hy0 hy1 hy2 (by kernel_rfl) (by decide) ov k (outsL (bdO k)) rfl OW.out ⟨wr.heap.size, 0, none⟩ 1 1 (outL bdY) rfl LN1.out CN.out (out_mem_one bdY) M1.out M2.out BL.out ?_; intro v2 w4 a1 a2 _ a4; have AO := Lib.hid a1; have AG := Lib.hid a2; have AT := Lib.hid a4; clear a1 a2 a4; go_frame))
          have BD2 := Lib.hid (BD.out.addO GL.out.1 (Nat.lt_trans GL.out.2.1 GL.out.2.2) GL.out.2.2 BN.out AO.out AG.out AT.out F5.out Q5.out rfl)
          go_roundw
          case rel => exact ⟨k + 1, v2, by omega, by omega, by go_num, BD2.out⟩
          case measure => simp [intOf]; omega
        · have hkn2 : k = 49 := by omega
          subst hkn2
          clear hlt hk1 p0 p1 hkn
          go_upto_region 32 with fail
          obtain ⟨cc, hcc⟩ : ∃ cc, cc = 0 := ⟨_, rfl⟩
          have HC : Hid (cc = checkC (bd1 0)) := by show _ = _; rw [hcc, bd1_check 0 (by omega)]; try rfl
          have HI : Hid (true = (numE cc == (0 : Int))) := by show _ = _; rw [hcc]; rfl
          have HN : Hid (cc ≤ 25) := by show _ ≤ _; omega
          have TA := Lib.hid (BD.out.tx)
          have FZ := Lib.hid (BD.out.2.2.2.2.2.1)
          have BZ := Lib.hid (BD.out.2.2.2.2.2.2.1)
          clear hcc
          go_wp2_with ((with_reducible show wpList _ _ _ _ _ _); (refine wpList_load_rowG 26 (.tmp 6) rfl g6 rfl 26 ([nV 0, (.slice (some ⟨gI, 0, none⟩) 1 1), ov, nV 0]).toArray (0, 0) _ FZ.out Tryd.underlying26 rfl (by kernel_rfl) rfl ?_; go_frame))
          refine (check_all E (bd1 0) _ _ cc HC.out (HE.out.below BZ.out).e8 TA.out (bd1_small 0 (by omega))).mono ?_
          rintro e n1 ⟨rfl, hx⟩
          have BZ := Lib.hid (BZ.out.trans (hx.mono BZ.out.size))
          clear hx
          go_wp2_with fail
          refine (is_any E cc 0 true HI.out n1 (HE.out.below BZ.out) HN.out).mono ?_
          rintro e n2 ⟨rfl, hx⟩
          have BZ := Lib.hid (BZ.out.trans (hx.mono BZ.out.size))
          clear hx
          go_wp2_with fail
          go_ret
          exact ⟨rfl, BZ.out⟩
    · go_wp2_with fail
      go_loopw [9] (fun vi wr => BdOut 50 w gI gO g6 vi wr) (fun i _ => 50 - (intOf i).toNat)
      case atStart => exact ⟨1, (.slice (some ⟨gO, 0, none⟩) 1 1), by omega, by omega, rfl, BD0.out⟩
      case round =>
        obtain ⟨k, ov, hkn, hk1, rfl, hbd⟩ := hrel
        have BD := Lib.hid hbd
        clear hbd BD0 F6 FI FO B G6S
        have p0 : 0 ≤ (k : Int) := by omega
        have p1 : (k : Int) < 100 := by omega
        by_cases hlt : k < 50
        · have q0 : (k : Int) < 50 := by omega
          have hcv : IntKind.u32.wrap ((k : Int) + 1) = (k : Int) + 1 := by rw [IntKind.wrap_u32']; omega
          have c1 : wr.cell? ⟨g6, 2, none⟩ = some ov := by rw [cell_of_row _ _ _ _ _ _ BD.out.2.2.2.2.2.1]; rfl
          have LN : Hid ((outL bdY).length = 33) := outL_length _ rfl
          have BN := Lib.hid ((Below.refl wr.heap.size wr).alloc (Nat.le_refl _) (.cells (outL bdY).toArray 57 (0, 0)))
          have CN : Hid (∀ j u, (outL bdY)[j]? = some u → (wr.alloc (.cells (outL bdY).toArray 57 (0, 0))).cell? ((⟨wr.heap.size, 0, none⟩ : Addr).add j) = some u) := fun j u hj => by rw [Addr.add_mid]; exact range_of_box (heap_alloc_new wr (.cells (outL bdY).toArray 57 (0, 0))) j u hj
          have OW : Hid ((wr.alloc (.cells (outL bdY).toArray 57 (0, 0))).ownsRow gI 57 33 ov k (outsL (bdO k))) := by
            have h := own_kept BD.out.2.1.1 BN.out
            rw [bdO_length k] at h
            exact h
          have FN := Lib.hid (row_below BD.out.2.2.2.2.2.1 BN.out)
          have NE : Hid (ov.ownBlock ≠ some g6) := fun e => by have := BD.out.2.2.2.1 g6 e; have := GL.out; omega
          have BL : Hid (gI ≤ (wr.alloc (.cells (outL bdY).toArray 57 (0, 0))).heap.size) := Nat.le_trans (by have := GL.out; have := BD.out.2.2.2.2.2.2.2; omega) BN.out.size
          have M1 : Hid (k + 1 ≤ maxLen) := by show _ ≤ _; unfold maxLen; omega
          have M2 : Hid ((k + 1) * 40 ≤ 140737488355328) := by show _ ≤ _; omega
          have LN1 : Hid ((outL bdY).length = 1 * 33) := LN.out
          clear hlt hk1
          go_wp2_with (first | ((with_reducible show wpList _ _ _ _ _ _); first | (refine wpList_buildTo rfl 57 _ rfl _ rfl (outL bdY).toArray (by kernel_rfl) ?_; go_frame) | (refine wpList_slice_one rfl 24 57 (.tmp 63) rfl (outL bdY) rfl Tryd.underlying24 k0 _ hk hy0 (by rw [hy1, LN.out]) (by rw [LN.out]; omega) (by rw [LN.out]; omega) ?_; go_frame) | (refine wpList_store_part rfl 24 (.tmp 66) (.tmp 65) rfl g6 2 [nV 0, (.slice (some ⟨gI, 0, none⟩) 1 1)] [ov] [nV 0] [v2] 26 v2 rfl rfl (cells_one (own_one AO.out)) rfl rfl (row_far FN.out AG.out NE.out) (by kernel_rfl) (one_mem (own_one AO.out)) ?_; intro w5 q1 q2; have F5 := Lib.hid q1; have Q5 := Lib.hid q2; clear q1 q2; go_frame)) | (at_builtin; refine wpList_append_own_at _ rfl _ _ 24 rfl gI 57 k0 (.agg (uV 0 :: List.replicate 32 (bV 0)).toArray) 33 40 Tryd.underlying24 hk hy0 hy1 hy2 (by kernel_rfl) (by decide) ov k (outsL (bdO k)) rfl OW.out ⟨wr.heap.size, 0, none⟩ 1 1 (outL bdY) rfl LN1.out CN.out (out_mem_one bdY) M1.out M2.out BL.out ?_; intro v2 w4 a1 a2 _ a4; have AO := Lib.hid a1; have AG := Lib.hid a2; have AT := Lib.hid a4; clear a1 a2 a4; go_frame))
          have BD2 := Lib.hid (BD.out.addO GL.out.1 (Nat.lt_trans GL.out.2.1 GL.out.2.2) GL.out.2.2 BN.out AO.out AG.out AT.out F5.out Q5.out rfl)
          go_roundw
          case rel => exact ⟨k + 1, v2, by omega, by omega, by go_num, BD2.out⟩
          case measure => simp [intOf]; omega
        · have hkn2 : k = 50 := by omega
          subst hkn2
          clear hlt hk1 p0 p1 hkn
          go_upto_region 32 with fail
          obtain ⟨cc, hcc⟩ : ∃ cc, cc = 0 := ⟨_, rfl⟩
          have HC : Hid (cc = checkC (bd1 1)) := by show _ = _; rw [hcc, bd1_check 1 (by omega)]; try rfl
          have HI : Hid (true = (numE cc == (0 : Int))) := by show _ = _; rw [hcc]; rfl
          have HN : Hid (cc ≤ 25) := by show _ ≤ _; omega
          have TA := Lib.hid (BD.out.tx)
          have FZ := Lib.hid (BD.out.2.2.2.2.2.1)
          have BZ := Lib.hid (BD.out.2.2.2.2.2.2.1)
          clear hcc
          go_wp2_with ((with_reducible show wpList _ _ _ _ _ _); (refine wpList_load_rowG 26 (.tmp 6) rfl g6 rfl 26 ([nV 0, (.slice (some ⟨gI, 0, none⟩) 1 1), ov, nV 0]).toArray (0, 0) _ FZ.out Tryd.underlying26 rfl (by kernel_rfl) rfl ?_; go_frame))
          refine (check_all E (bd1 1) _ _ cc HC.out (HE.out.below BZ.out).e8 TA.out (bd1_small 1 (by omega))).mono ?_
          rintro e n1 ⟨rfl, hx⟩
          have BZ := Lib.hid (BZ.out.trans (hx.mono BZ.out.size))
          clear hx
          go_wp2_with fail
          refine (is_any E cc 0 true HI.out n1 (HE.out.below BZ.out) HN.out).mono ?_
          rintro e n2 ⟨rfl, hx⟩
          have BZ := Lib.hid (BZ.out.trans (hx.mono BZ.out.size))
          clear hx
          go_wp2_with fail
          go_ret
          exact ⟨rfl, BZ.out⟩
    · go_wp2_with fail
      go_loopw [9] (fun vi wr => BdOut 51 w gI gO g6 vi wr) (fun i _ => 51 - (intOf i).toNat)
      case atStart => exact ⟨1, (.slice (some ⟨gO, 0, none⟩) 1 1), by omega, by omega, rfl, BD0.out⟩
      case round =>
        obtain ⟨k, ov, hkn, hk1, rfl, hbd⟩ := hrel
        have BD := Lib.hid hbd
        clear hbd BD0 F6 FI FO B G6S
        have p0 : 0 ≤ (k : Int) := by omega
        have p1 : (k : Int) < 100 := by omega
        by_cases hlt : k < 51
        · have q0 : (k : Int) < 51 := by omega
          have hcv : IntKind.u32.wrap ((k : Int) + 1) = (k : Int) + 1 := by rw [IntKind.wrap_u32']; omega
          have c1 : wr.cell? ⟨g6, 2, none⟩ = some ov := by rw [cell_of_row _ _ _ _ _ _ BD.out.2.2.2.2.2.1]; rfl
          have LN : Hid ((outL bdY).length = 33) := outL_length _ rfl
          have BN := Lib.hid ((Below.refl wr.heap.size wr).alloc (Nat.le_refl _) (.cells (outL bdY).toArray 57 (0, 0)))
          have CN : Hid (∀ j u, (outL bdY)[j]? = some u → (wr.alloc (.cells (outL bdY).toArray 57 (0, 0))).cell? ((⟨wr.heap.size, 0, none⟩ : Addr).add j) = some u) := fun j u hj => by rw [Addr.add_mid]; exact range_of_box (heap_alloc_new wr (.cells (outL bdY).toArray 57 (0, 0))) j u hj
          have OW : Hid ((wr.alloc (.cells (outL bdY).toArray 57 (0, 0))).ownsRow gI 57 33 ov k (outsL (bdO k))) := by
            have h := own_kept BD.out.2.1.1 BN.out
            rw [bdO_length k] at h
            exact h
          have FN := Lib.hid (row_below BD.out.2.2.2.2.2.1 BN.out)
          have NE : Hid (ov.ownBlock ≠ some g6) := fun e => by have := BD.out.2.2.2.1 g6 e; have := GL.out; omega
          have BL : Hid (gI ≤ (wr.alloc (.cells (outL bdY).toArray 57 (0, 0))).heap.size) := Nat.le_trans (by have := GL.out; have := BD.out.2.2.2.2.2.2.2; omega) BN.out.size
          have M1 : Hid (k + 1 ≤ maxLen) := by show _ ≤ _; unfold maxLen; omega
          have M2 : Hid ((k + 1) * 40 ≤ 140737488355328) := by show _ ≤ _; omega
          have LN1 : Hid ((outL bdY).length = 1 * 33) := LN.out
          clear hlt hk1
          go_wp2_with (first | ((with_reducible show wpList _ _ _ _ _ _); first | (refine wpList_buildTo rfl 57 _ rfl _ rfl (outL bdY).toArray (by kernel_rfl) ?_; go_frame) | (refine wpList_slice_one rfl 24 57 (.tmp 63) rfl (outL bdY) rfl Tryd.underlying24 k0 _ hk hy0 (by rw [hy1, LN.out]) (by rw [LN.out]; omega) (by rw [LN.out]; omega) ?_; go_frame) | (refine wpList_store_part rfl 24 (.tmp 66) (.tmp 65) rfl g6 2 [nV 0, (.slice (some ⟨gI, 0, none⟩) 1 1)] [ov] [nV 0] [v2] 26 v2 rfl rfl (cells_one (own_one AO.out)) rfl rfl (row_far FN.out AG.out NE.out) (by kernel_rfl) (one_mem (own_one AO.out)) ?_; intro w5 q1 q2; have F5 := Lib.hid q1; have Q5 := Lib.hid q2; clear q1 q2; go_frame)) | (at_builtin; refine wpList_append_own_at _ rfl _ _ 24 rfl gI 57 k0 (.agg (uV 0 :: List.replicate 32 (bV 0)).toArray) 33 40 Tryd.underlying24 hk hy0 hy1 hy2 (by kernel_rfl) (by decide) ov k (outsL (bdO k)) rfl OW.out ⟨wr.heap.size, 0, none⟩ 1 1 (outL bdY) rfl LN1.out CN.out (out_mem_one bdY) M1.out M2.out BL.out ?_; intro v2 w4 a1 a2 _ a4; have AO := Lib.hid a1; have AG := Lib.hid a2; have AT := Lib.hid a4; clear a1 a2 a4; go_frame))
          have BD2 := Lib.hid (BD.out.addO GL.out.1 (Nat.lt_trans GL.out.2.1 GL.out.2.2) GL.out.2.2 BN.out AO.out AG.out AT.out F5.out Q5.out rfl)
          go_roundw
          case rel => exact ⟨k + 1, v2, by omega, by omega, by go_num, BD2.out⟩
          case measure => simp [intOf]; omega
        · have hkn2 : k = 51 := by omega
          subst hkn2
          clear hlt hk1 p0 p1 hkn
          go_upto_region 32 with fail
          obtain ⟨cc, hcc⟩ : ∃ cc, cc = 4 := ⟨_, rfl⟩
          have HC : Hid (cc = checkC (bd1 2)) := by show _ = _; rw [hcc, bd1_check 2 (by omega)]; try rfl
          have HI : Hid (true = (numE cc == (104 : Int))) := by show _ = _; rw [hcc]; rfl
          have HN : Hid (cc ≤ 25) := by show _ ≤ _; omega
          have TA := Lib.hid (BD.out.tx)
          have FZ := Lib.hid (BD.out.2.2.2.2.2.1)
          have BZ := Lib.hid (BD.out.2.2.2.2.2.2.1)
          clear hcc
          go_wp2_with ((with_reducible show wpList _ _ _ _ _ _); (refine wpList_load_rowG 26 (.tmp 6) rfl g6 rfl 26 ([nV 0, (.slice (some ⟨gI, 0, none⟩) 1 1), ov, nV 0]).toArray (0, 0) _ FZ.out Tryd.underlying26 rfl (by kernel_rfl) rfl ?_; go_frame))
          refine (check_all E (bd1 2) _ _ cc HC.out (HE.out.below BZ.out).e8 TA.out (bd1_small 2 (by omega))).mono ?_
          rintro e n1 ⟨rfl, hx⟩
          have BZ := Lib.hid (BZ.out.trans (hx.mono BZ.out.size))
          clear hx
          go_wp2_with fail
          refine (is_any E cc 104 true HI.out n1 (HE.out.below BZ.out) HN.out).mono ?_
          rintro e n2 ⟨rfl, hx⟩
          have BZ := Lib.hid (BZ.out.trans (hx.mono BZ.out.size))
          clear hx
          go_wp2_with fail
          go_ret
          exact ⟨rfl, BZ.out⟩
    · go_wp2_with fail
      go_loopw [9] (fun vi wr => BdOut 52 w gI gO g6 vi wr) (fun i _ => 52 - (intOf i).toNat)
      case atStart => exact ⟨1, (.slice (some ⟨gO, 0, none⟩) 1 1), by omega, by omega, rfl, BD0.out⟩
      case round =>
        obtain ⟨k, ov, hkn, hk1, rfl, hbd⟩ := hrel
        have BD := Lib.hid hbd
        clear hbd BD0 F6 FI FO B G6S
        have p0 : 0 ≤ (k : Int) := by omega
        have p1 : (k : Int) < 100 := by omega
        by_cases hlt : k < 52
        · have q0 : (k : Int) < 52 := by omega
          have hcv : IntKind.u32.wrap ((k : Int) + 1) = (k : Int) + 1 := by rw [IntKind.wrap_u32']; omega
          have c1 : wr.cell? ⟨g6, 2, none⟩ = some ov := by rw [cell_of_row _ _ _ _ _ _ BD.out.2.2.2.2.2.1]; rfl
          have LN : Hid ((outL bdY).length = 33) := outL_length _ rfl
          have BN := Lib.hid ((Below.refl wr.heap.size wr).alloc (Nat.le_refl _) (.cells (outL bdY).toArray 57 (0, 0)))
          have CN : Hid (∀ j u, (outL bdY)[j]? = some u → (wr.alloc (.cells (outL bdY).toArray 57 (0, 0))).cell? ((⟨wr.heap.size, 0, none⟩ : Addr).add j) = some u) := fun j u hj => by rw [Addr.add_mid]; exact range_of_box (heap_alloc_new wr (.cells (outL bdY).toArray 57 (0, 0))) j u hj
          have OW : Hid ((wr.alloc (.cells (outL bdY).toArray 57 (0, 0))).ownsRow gI 57 33 ov k (outsL (bdO k))) := by
            have h := own_kept BD.out.2.1.1 BN.out
            rw [bdO_length k] at h
            exact h
          have FN := Lib.hid (row_below BD.out.2.2.2.2.2.1 BN.out)
          have NE : Hid (ov.ownBlock ≠ some g6) := fun e => by have := BD.out.2.2.2.1 g6 e; have := GL.out; omega
          have BL : Hid (gI ≤ (wr.alloc (.cells (outL bdY).toArray 57 (0, 0))).heap.size) := Nat.le_trans (by have := GL.out; have := BD.out.2.2.2.2.2.2.2; omega) BN.out.size
          have M1 : Hid (k + 1 ≤ maxLen) := by show _ ≤ _; unfold maxLen; omega
          have M2 : Hid ((k + 1) * 40 ≤ 140737488355328) := by show _ ≤ _; omega
          have LN1 : Hid ((outL bdY).length = 1 * 33) := LN.out
          clear hlt hk1
          go_wp2_with (first | ((with_reducible show wpList _ _ _ _ _ _); first | (refine wpList_buildTo rfl 57 _ rfl _ rfl (outL bdY).toArray (by kernel_rfl) ?_; go_frame) | (refine wpList_slice_one rfl 24 57 (.tmp 63) rfl (outL bdY) rfl Tryd.underlying24 k0 _ hk hy0 (by rw [hy1, LN.out]) (by rw [LN.out]; omega) (by rw [LN.out]; omega) ?_; go_frame) | (refine wpList_store_part rfl 24 (.tmp 66) (.tmp 65) rfl g6 2 [nV 0, (.slice (some ⟨gI, 0, none⟩) 1 1)] [ov] [nV 0] [v2] 26 v2 rfl rfl (cells_one (own_one AO.out)) rfl rfl (row_far FN.out AG.out NE.out) (by kernel_rfl) (one_mem (own_one AO.out)) ?_; intro w5 q1 q2; have F5 := Lib.hid q1; have Q5 := Lib.hid q2; clear q1 q2; go_frame)) | (at_builtin; refine wpList_append_own_at _ rfl _ _ 24 rfl gI 57 k0 (.agg (uV 0 :: List.replicate 32 (bV 0)).toArray) 33 40 Tryd.underlying24 hk hy0 hy1 hy2 (by kernel_rfl) (by decide) ov k (outsL (bdO k)) rfl OW.out ⟨wr.heap.size, 0, none⟩ 1 1 (outL bdY) rfl LN1.out CN.out (out_mem_one bdY) M1.out M2.out BL.out ?_; intro v2 w4 a1 a2 _ a4; have AO := Lib.hid a1; have AG := Lib.hid a2; have AT := Lib.hid a4; clear a1 a2 a4; go_frame))
          have BD2 := Lib.hid (BD.out.addO GL.out.1 (Nat.lt_trans GL.out.2.1 GL.out.2.2) GL.out.2.2 BN.out AO.out AG.out AT.out F5.out Q5.out rfl)
          go_roundw
          case rel => exact ⟨k + 1, v2, by omega, by omega, by go_num, BD2.out⟩
          case measure => simp [intOf]; omega
        · have hkn2 : k = 52 := by omega
          subst hkn2
          clear hlt hk1 p0 p1 hkn
          go_upto_region 32 with fail
          obtain ⟨cc, hcc⟩ : ∃ cc, cc = 4 := ⟨_, rfl⟩
          have HC : Hid (cc = checkC (bd1 3)) := by show _ = _; rw [hcc, bd1_check 3 (by omega)]; try rfl
          have HI : Hid (true = (numE cc == (104 : Int))) := by show _ = _; rw [hcc]; rfl
          have HN : Hid (cc ≤ 25) := by show _ ≤ _; omega
          have TA := Lib.hid (BD.out.tx)
          have FZ := Lib.hid (BD.out.2.2.2.2.2.1)
          have BZ := Lib.hid (BD.out.2.2.2.2.2.2.1)
          clear hcc
          go_wp2_with ((with_reducible show wpList _ _ _ _ _ _); (refine wpList_load_rowG 26 (.tmp 6) rfl g6 rfl 26 ([nV 0, (.slice (some ⟨gI, 0, none⟩) 1 1), ov, nV 0]).toArray (0, 0) _ FZ.out Tryd.underlying26 rfl (by kernel_rfl) rfl ?_; go_frame))
          refine (check_all E (bd1 3) _ _ cc HC.out (HE.out.below BZ.out).e8 TA.out (bd1_small 3 (by omega))).mono ?_
          rintro e n1 ⟨rfl, hx⟩
          have BZ := Lib.hid (BZ.out.trans (hx.mono BZ.out.size))
          clear hx
          go_wp2_with fail
          refine (is_any E cc 104 true HI.out n1 (HE.out.below BZ.out) HN.out).mono ?_
          rintro e n2 ⟨rfl, hx⟩
          have BZ := Lib.hid (BZ.out.trans (hx.mono BZ.out.size))
          clear hx
          go_wp2_with fail
          go_ret
          exact ⟨rfl, BZ.out⟩
  · rcases hc2 with rfl | rfl | rfl | rfl
    · go_upto_region 25 with fail
      obtain ⟨Zl, hZ0⟩ : ∃ Zl : List UInt8, Zl = List.replicate 79 0 := ⟨_, rfl⟩
      have MK : ∀ w : World, (Instr.makeSlice 29 (.int .i64 79) (.int .i64 79)).run Tryd.prog w = .ok (.slice (some ⟨w.heap.size, 0, none⟩) 79 79) (w.alloc (.cells (Zl.map bV).toArray 5 (0, 0))) := fun w => by
        have h := run_make_row' 29 5 (.int .u8 0) 1 Tryd.underlying29 info_u8 rfl .i64 .i64 79 (by omega) (by omega) w
        have e : (madeCells #[.int .u8 0] 79) = (Zl.map bV).toArray := by rw [hZ0]; kernel_rfl
        rw [e] at h
        exact h
      have HZ : Hid (Zl = List.replicate 79 0) := hZ0
      have ZLEN : Hid (79 = Zl.length) := by rw [hZ0]; rfl
      clear hZ0
      refine wp_region_held_drew (S := (fun w' => w'.heap[g6]? = some (.cells [nV 0, (.slice (some ⟨gI, 0, none⟩) 1 1), (.slice (some ⟨gO, 0, none⟩) 1 1), nV 0].toArray 26 (0, 0)))) (by kernel_rfl) F6.out (fun hHeld => ?_)
      have bb := Below.drew (Below.refl w3.heap.size w3)
      generalize hwd : w3.drew = wd
      rw [hwd] at hHeld bb
      have BDR := Lib.hid bb
      clear hwd bb
      refine held_take (i := 0) (v := (.pointer (some ⟨g6, 1, none⟩))) rfl (by kernel_rfl) (by kernel_rfl) (by kernel_rfl) (fun _ _ _ h => h) (Or.inl ⟨by rfl, fun w' _ => by kernel_rfl⟩) hHeld ?_
      go_frame
      refine held_take (i := 1) (v := (.slice (some ⟨gI, 0, none⟩) 1 1)) rfl (by kernel_rfl) (by kernel_rfl) (by kernel_rfl) (fun _ _ _ h => h) (yieldsIf_load_one (by rfl) 23 _ rfl g6 (1) rfl _ _ (fun w' hw' => by rw [cell_of_row _ _ _ _ _ _ hw']; rfl) Tryd.underlying23 rfl) hHeld ?_
      go_frame
      refine held_take (i := 2) (v := (.int .i64 (-1 : Int))) rfl (by kernel_rfl) (by kernel_rfl) (by kernel_rfl) (fun _ _ _ h => h) (Or.inl ⟨by rfl, fun w' _ => by kernel_rfl⟩) hHeld ?_
      go_frame
      refine held_take (i := 3) (v := (.int .i64 (79 : Int))) rfl (by kernel_rfl) (by kernel_rfl) (by kernel_rfl) (fun _ _ _ h => h) (Or.inl ⟨by rfl, fun w' _ => by kernel_rfl⟩) hHeld ?_
      go_frame
      refine wpAnyH_ready (rs := [4]) (by kernel_rfl) (by simp) (held_cons rfl (fun K hK => ?_) AllReadyH.nil)
      go_simp
      have nf := heap_alloc_new wd (.cells (Zl.map bV).toArray 5 (0, 0))
      have bb := (Below.refl wd.heap.size wd).alloc (Nat.le_refl _) (.cells (Zl.map bV).toArray 5 (0, 0))
      obtain ⟨gK, hgK⟩ : ∃ gK, gK = wd.heap.size := ⟨_, rfl⟩
      generalize hw4 : World.alloc _ _ = w4
      have e4 : wd.alloc (.cells (Zl.map bV).toArray 5 (0, 0)) = w4 := hw4
      rw [e4] at nf bb
      rw [← hgK] at nf ⊢
      have NF := Lib.hid nf
      have B4 := Lib.hid (BDR.out.trans (bb.mono BDR.out.size))
      have GK : Hid (g6 < gK) := by show _ < _; rw [hgK]; exact (Array.getElem?_eq_some_iff.1 hHeld).1
      have hS := row_below hHeld bb
      clear hHeld nf bb hw4 e4 hgK MK
      try go_frame
      refine hK.out _ _ hS (fun hHeld => ?_)
      clear hK K hS
      refine held_take (i := 5) (v := (.pointer (some ⟨gI, 0, none⟩))) rfl (by kernel_rfl) (by kernel_rfl) (by kernel_rfl) (fun _ _ _ h => h) (Or.inl ⟨by rfl, fun w' _ => by go_simp⟩) hHeld ?_
      go_frame
      refine held_take (i := 6) (v := (.pointer (some ⟨gI, 33, none⟩))) rfl (by kernel_rfl) (by kernel_rfl) (by kernel_rfl) (fun _ _ _ h => h) (Or.inl ⟨by rfl, fun w' _ => by kernel_rfl⟩) hHeld ?_
      go_frame
      refine wpAnyH_ready (rs := [7]) (by kernel_rfl) (by simp) (held_cons rfl (fun K hK => ?_) AllReadyH.nil)
      rw [if_pos (by rfl)]
      refine wp_store_part 29 (.tmp 77) (.tmp 75) rfl gI 33 (ptL zH 1) [.slice none 0 0] [nV 0] [.slice (some ⟨gK, 0, none⟩) 79 79] 54 (.slice (some ⟨gK, 0, none⟩) 79 79) rfl rfl rfl rfl rfl (row_below FI.out B4.out) (by kernel_rfl) (one_mem rfl) ?_
      intro w5 q1 q2
      have F5 := Lib.hid q1
      have Q5 := Lib.hid q2
      have hS := row_far hHeld q2 (fun e => by have := Option.some.inj e; have := GL.out; omega)
      clear q1 q2 hHeld
      go_frame
      refine hK.out _ _ hS (fun hHeld => ?_)
      clear hK K hS
      refine wpAnyH_done (by kernel_rfl) ?_ _
      have F65 := Lib.hid hHeld
      clear hHeld
      have FK5 := Lib.hid (row_far NF.out Q5.out (fun e => by have := Option.some.inj e; have := GL.out; have := GK.out; omega))
      have FO5 := Lib.hid (row_far (row_below FO.out B4.out) Q5.out (fun e => by have := Option.some.inj e; have := GL.out; omega))
      have B5 := Lib.hid ((B.out.trans (B4.out.mono B.out.size)).grown Q5.out (Nat.le_trans B.out.size B4.out.size) (fun k hk => by cases hk; exact GL.out.1))
      have F5 : Hid (w5.heap[gI]? = some (.cells (inL (bdK 0) (.slice (some ⟨gK, 0, none⟩) 79 79)).toArray 54 (0, 0))) := F5.out
      have OZ : Hid (w5.ownsRow gI 5 1 (.slice (some ⟨gK, 0, none⟩) 79 79) 79 (Zl.map bV)) := own_of_row FK5.out (by have := GL.out; have := GK.out; omega) (by rw [List.length_map, ← ZLEN.out]) (by decide)
      have KY : Hid (KeyAt w5 (.slice (some ⟨gK, 0, none⟩) 79 79) (bdK 0).key) := by
        have h := OZ.out
        have e := ZLEN.out
        rw [HZ.out] at h
        have h4 : w5.ownsRow gI 5 1 (.slice (some ⟨gK, 0, none⟩) 79 79) (List.replicate 79 (0 : UInt8)).length ((List.replicate 79 (0 : UInt8)).map bV) := h
        exact ⟨src_own h4, some ⟨gK, 0, none⟩, 79, rfl⟩
      have TA5 : Hid (TxAt w5 (.agg [nV 0, (.slice (some ⟨gI, 0, none⟩) 1 1), (.slice (some ⟨gO, 0, none⟩) 1 1), nV 0].toArray) (bd2 0)) := ⟨⟨Nat.zero_le _, Nat.zero_le _⟩, _, _, rfl, insAt_one F5.out (bdK_ok 0) KY.out, outsAt_one FO5.out bdY_ok⟩
      clear ZLEN HZ OZ KY FK5 FO5 F5 Q5 NF B4 BDR GK BD0 F6 FI FO B G6S
      go_upto_region 32 with fail
      obtain ⟨cc, hcc⟩ : ∃ cc, cc = 0 := ⟨_, rfl⟩
      have HC : Hid (cc = checkC (bd2 0)) := by show _ = _; rw [hcc, bd2_check 0 (by omega)]; try rfl
      have HI : Hid (true = (numE cc == (0 : Int))) := by show _ = _; rw [hcc]; rfl
      have HN : Hid (cc ≤ 25) := by show _ ≤ _; omega
      have TA := Lib.hid (TA5.out)
      have FZ := Lib.hid (F65.out)
      have BZ := Lib.hid (B5.out)
      clear hcc
      go_wp2_with ((with_reducible show wpList _ _ _ _ _ _); (refine wpList_load_rowG 26 (.tmp 6) rfl g6 rfl 26 ([nV 0, (.slice (some ⟨gI, 0, none⟩) 1 1), (.slice (some ⟨gO, 0, none⟩) 1 1), nV 0]).toArray (0, 0) _ FZ.out Tryd.underlying26 rfl (by kernel_rfl) rfl ?_; go_frame))
      refine (check_all E (bd2 0) _ _ cc HC.out (HE.out.below BZ.out).e8 TA.out (bd2_small 0 (by omega))).mono ?_
      rintro e n1 ⟨rfl, hx⟩
      have BZ := Lib.hid (BZ.out.trans (hx.mono BZ.out.size))
      clear hx
      go_wp2_with fail
      refine (is_any E cc 0 true HI.out n1 (HE.out.below BZ.out) HN.out).mono ?_
      rintro e n2 ⟨rfl, hx⟩
      have BZ := Lib.hid (BZ.out.trans (hx.mono BZ.out.size))
      clear hx
      go_wp2_with fail
      go_ret
      exact ⟨rfl, BZ.out⟩
    · go_upto_region 25 with fail
      obtain ⟨Zl, hZ0⟩ : ∃ Zl : List UInt8, Zl = List.replicate 80 0 := ⟨_, rfl⟩
      have MK : ∀ w : World, (Instr.makeSlice 29 (.int .i64 80) (.int .i64 80)).run Tryd.prog w = .ok (.slice (some ⟨w.heap.size, 0, none⟩) 80 80) (w.alloc (.cells (Zl.map bV).toArray 5 (0, 0))) := fun w => by
        have h := run_make_row' 29 5 (.int .u8 0) 1 Tryd.underlying29 info_u8 rfl .i64 .i64 80 (by omega) (by omega) w
        have e : (madeCells #[.int .u8 0] 80) = (Zl.map bV).toArray := by rw [hZ0]; kernel_rfl
        rw [e] at h
        exact h
      have HZ : Hid (Zl = List.replicate 80 0) := hZ0
      have ZLEN : Hid (80 = Zl.length) := by rw [hZ0]; rfl
      clear hZ0
      refine wp_region_held_drew (S := (fun w' => w'.heap[g6]? = some (.cells [nV 0, (.slice (some ⟨gI, 0, none⟩) 1 1), (.slice (some ⟨gO, 0, none⟩) 1 1), nV 0].toArray 26 (0, 0)))) (by kernel_rfl) F6.out (fun hHeld => ?_)
      have bb := Below.drew (Below.refl w3.heap.size w3)
      generalize hwd : w3.drew = wd
      rw [hwd] at hHeld bb
      have BDR := Lib.hid bb
      clear hwd bb
      refine held_take (i := 0) (v := (.pointer (some ⟨g6, 1, none⟩))) rfl (by kernel_rfl) (by kernel_rfl) (by kernel_rfl) (fun _ _ _ h => h) (Or.inl ⟨by rfl, fun w' _ => by kernel_rfl⟩) hHeld ?_
      go_frame
      refine held_take (i := 1) (v := (.slice (some ⟨gI, 0, none⟩) 1 1)) rfl (by kernel_rfl) (by kernel_rfl) (by kernel_rfl) (fun _ _ _ h => h) (yieldsIf_load_one (by rfl) 23 _ rfl g6 (1) rfl _ _ (fun w' hw' => by rw [cell_of_row _ _ _ _ _ _ hw']; rfl) Tryd.underlying23 rfl) hHeld ?_
      go_frame
      refine held_take (i := 2) (v := (.int .i64 (0 : Int))) rfl (by kernel_rfl) (by kernel_rfl) (by kernel_rfl) (fun _ _ _ h => h) (Or.inl ⟨by rfl, fun w' _ => by kernel_rfl⟩) hHeld ?_
      go_frame
      refine held_take (i := 3) (v := (.int .i64 (80 : Int))) rfl (by kernel_rfl) (by kernel_rfl) (by kernel_rfl) (fun _ _ _ h => h) (Or.inl ⟨by rfl, fun w' _ => by kernel_rfl⟩) hHeld ?_
      go_frame
      refine wpAnyH_ready (rs := [4]) (by kernel_rfl) (by simp) (held_cons rfl (fun K hK => ?_) AllReadyH.nil)
      go_simp
      have nf := heap_alloc_new wd (.cells (Zl.map bV).toArray 5 (0, 0))
      have bb := (Below.refl wd.heap.size wd).alloc (Nat.le_refl _) (.cells (Zl.map bV).toArray 5 (0, 0))
      obtain ⟨gK, hgK⟩ : ∃ gK, gK = wd.heap.size := ⟨_, rfl⟩
      generalize hw4 : World.alloc _ _ = w4
      have e4 : wd.alloc (.cells (Zl.map bV).toArray 5 (0, 0)) = w4 := hw4
      rw [e4] at nf bb
      rw [← hgK] at nf ⊢
      have NF := Lib.hid nf
      have B4 := Lib.hid (BDR.out.trans (bb.mono BDR.out.size))
      have GK : Hid (g6 < gK) := by show _ < _; rw [hgK]; exact (Array.getElem?_eq_some_iff.1 hHeld).1
      have hS := row_below hHeld bb
      clear hHeld nf bb hw4 e4 hgK MK
      try go_frame
      refine hK.out _ _ hS (fun hHeld => ?_)
      clear hK K hS
      refine held_take (i := 5) (v := (.pointer (some ⟨gI, 0, none⟩))) rfl (by kernel_rfl) (by kernel_rfl) (by kernel_rfl) (fun _ _ _ h => h) (Or.inl ⟨by rfl, fun w' _ => by go_simp⟩) hHeld ?_
      go_frame
      refine held_take (i := 6) (v := (.pointer (some ⟨gI, 33, none⟩))) rfl (by kernel_rfl) (by kernel_rfl) (by kernel_rfl) (fun _ _ _ h => h) (Or.inl ⟨by rfl, fun w' _ => by kernel_rfl⟩) hHeld ?_
      go_frame
      refine wpAnyH_ready (rs := [7]) (by kernel_rfl) (by simp) (held_cons rfl (fun K hK => ?_) AllReadyH.nil)
      rw [if_pos (by rfl)]
      refine wp_store_part 29 (.tmp 77) (.tmp 75) rfl gI 33 (ptL zH 1) [.slice none 0 0] [nV 0] [.slice (some ⟨gK, 0, none⟩) 80 80] 54 (.slice (some ⟨gK, 0, none⟩) 80 80) rfl rfl rfl rfl rfl (row_below FI.out B4.out) (by kernel_rfl) (one_mem rfl) ?_
      intro w5 q1 q2
      have F5 := Lib.hid q1
      have Q5 := Lib.hid q2
      have hS := row_far hHeld q2 (fun e => by have := Option.some.inj e; have := GL.out; omega)
      clear q1 q2 hHeld
      go_frame
      refine hK.out _ _ hS (fun hHeld => ?_)
      clear hK K hS
      refine wpAnyH_done (by kernel_rfl) ?_ _
      have F65 := Lib.hid hHeld
      clear hHeld
      have FK5 := Lib.hid (row_far NF.out Q5.out (fun e => by have := Option.some.inj e; have := GL.out; have := GK.out; omega))
      have FO5 := Lib.hid (row_far (row_below FO.out B4.out) Q5.out (fun e => by have := Option.some.inj e; have := GL.out; omega))
      have B5 := Lib.hid ((B.out.trans (B4.out.mono B.out.size)).grown Q5.out (Nat.le_trans B.out.size B4.out.size) (fun k hk => by cases hk; exact GL.out.1))
      have F5 : Hid (w5.heap[gI]? = some (.cells (inL (bdK 1) (.slice (some ⟨gK, 0, none⟩) 80 80)).toArray 54 (0, 0))) := F5.out
      have OZ : Hid (w5.ownsRow gI 5 1 (.slice (some ⟨gK, 0, none⟩) 80 80) 80 (Zl.map bV)) := own_of_row FK5.out (by have := GL.out; have := GK.out; omega) (by rw [List.length_map, ← ZLEN.out]) (by decide)
      have KY : Hid (KeyAt w5 (.slice (some ⟨gK, 0, none⟩) 80 80) (bdK 1).key) := by
        have h := OZ.out
        have e := ZLEN.out
        rw [HZ.out] at h
        have h4 : w5.ownsRow gI 5 1 (.slice (some ⟨gK, 0, none⟩) 80 80) (List.replicate 80 (0 : UInt8)).length ((List.replicate 80 (0 : UInt8)).map bV) := h
        exact ⟨src_own h4, some ⟨gK, 0, none⟩, 80, rfl⟩
      have TA5 : Hid (TxAt w5 (.agg [nV 0, (.slice (some ⟨gI, 0, none⟩) 1 1), (.slice (some ⟨gO, 0, none⟩) 1 1), nV 0].toArray) (bd2 1)) := ⟨⟨Nat.zero_le _, Nat.zero_le _⟩, _, _, rfl, insAt_one F5.out (bdK_ok 1) KY.out, outsAt_one FO5.out bdY_ok⟩
      clear ZLEN HZ OZ KY FK5 FO5 F5 Q5 NF B4 BDR GK BD0 F6 FI FO B G6S
      go_upto_region 32 with fail
      obtain ⟨cc, hcc⟩ : ∃ cc, cc = 0 := ⟨_, rfl⟩
      have HC : Hid (cc = checkC (bd2 1)) := by show _ = _; rw [hcc, bd2_check 1 (by omega)]; try rfl
      have HI : Hid (true = (numE cc == (0 : Int))) := by show _ = _; rw [hcc]; rfl
      have HN : Hid (cc ≤ 25) := by show _ ≤ _; omega
      have TA := Lib.hid (TA5.out)
      have FZ := Lib.hid (F65.out)
      have BZ := Lib.hid (B5.out)
      clear hcc
      go_wp2_with ((with_reducible show wpList _ _ _ _ _ _); (refine wpList_load_rowG 26 (.tmp 6) rfl g6 rfl 26 ([nV 0, (.slice (some ⟨gI, 0, none⟩) 1 1), (.slice (some ⟨gO, 0, none⟩) 1 1), nV 0]).toArray (0, 0) _ FZ.out Tryd.underlying26 rfl (by kernel_rfl) rfl ?_; go_frame))
      refine (check_all E (bd2 1) _ _ cc HC.out (HE.out.below BZ.out).e8 TA.out (bd2_small 1 (by omega))).mono ?_
      rintro e n1 ⟨rfl, hx⟩
      have BZ := Lib.hid (BZ.out.trans (hx.mono BZ.out.size))
      clear hx
      go_wp2_with fail
      refine (is_any E cc 0 true HI.out n1 (HE.out.below BZ.out) HN.out).mono ?_
      rintro e n2 ⟨rfl, hx⟩
      have BZ := Lib.hid (BZ.out.trans (hx.mono BZ.out.size))
      clear hx
      go_wp2_with fail
      go_ret
      exact ⟨rfl, BZ.out⟩
    · go_upto_region 25 with fail
      obtain ⟨Zl, hZ0⟩ : ∃ Zl : List UInt8, Zl = List.replicate 81 0 := ⟨_, rfl⟩
      have MK : ∀ w : World, (Instr.makeSlice 29 (.int .i64 81) (.int .i64 81)).run Tryd.prog w = .ok (.slice (some ⟨w.heap.size, 0, none⟩) 81 81) (w.alloc (.cells (Zl.map bV).toArray 5 (0, 0))) := fun w => by
        have h := run_make_row' 29 5 (.int .u8 0) 1 Tryd.underlying29 info_u8 rfl .i64 .i64 81 (by omega) (by omega) w
        have e : (madeCells #[.int .u8 0] 81) = (Zl.map bV).toArray := by rw [hZ0]; kernel_rfl
        rw [e] at h
        exact h
      have HZ : Hid (Zl = List.replicate 81 0) := hZ0
      have ZLEN : Hid (81 = Zl.length) := by rw [hZ0]; rfl
      clear hZ0
      refine wp_region_held_drew (S := (fun w' => w'.heap[g6]? = some (.cells [nV 0, (.slice (some ⟨gI, 0, none⟩) 1 1), (.slice (some ⟨gO, 0, none⟩) 1 1), nV 0].toArray 26 (0, 0)))) (by kernel_rfl) F6.out (fun hHeld => ?_)
      have bb := Below.drew (Below.refl w3.heap.size w3)
      generalize hwd : w3.drew = wd
      rw [hwd] at hHeld bb
      have BDR := Lib.hid bb
      clear hwd bb
      refine held_take (i := 0) (v := (.pointer (some ⟨g6, 1, none⟩))) rfl (by kernel_rfl) (by kernel_rfl) (by kernel_rfl) (fun _ _ _ h => h) (Or.inl ⟨by rfl, fun w' _ => by kernel_rfl⟩) hHeld ?_
      go_frame
      refine held_take (i := 1) (v := (.slice (some ⟨gI, 0, none⟩) 1 1)) rfl (by kernel_rfl) (by kernel_rfl) (by kernel_rfl) (fun _ _ _ h => h) (yieldsIf_load_one (by rfl) 23 _ rfl g6 (1) rfl _ _ (fun w' hw' => by rw [cell_of_row _ _ _ _ _ _ hw']; rfl) Tryd.underlying23 rfl) hHeld ?_
      go_frame
      refine held_take (i := 2) (v := (.int .i64 (1 : Int))) rfl (by kernel_rfl) (by kernel_rfl) (by kernel_rfl) (fun _ _ _ h => h) (Or.inl ⟨by rfl, fun w' _ => by kernel_rfl⟩) hHeld ?_
      go_frame
      refine held_take (i := 3) (v := (.int .i64 (81 : Int))) rfl (by kernel_rfl) (by kernel_rfl) (by kernel_rfl) (fun _ _ _ h => h) (Or.inl ⟨by rfl, fun w' _ => by kernel_rfl⟩) hHeld ?_
      go_frame
      refine wpAnyH_ready (rs := [4]) (by kernel_rfl) (by simp) (held_cons rfl (fun K hK => ?_) AllReadyH.nil)
      go_simp
      have nf := heap_alloc_new wd (.cells (Zl.map bV).toArray 5 (0, 0))
      have bb := (Below.refl wd.heap.size wd).alloc (Nat.le_refl _) (.cells (Zl.map bV).toArray 5 (0, 0))
      obtain ⟨gK, hgK⟩ : ∃ gK, gK = wd.heap.size := ⟨_, rfl⟩
      generalize hw4 : World.alloc _ _ = w4
      have e4 : wd.alloc (.cells (Zl.map bV).toArray 5 (0, 0)) = w4 := hw4
      rw [e4] at nf bb
      rw [← hgK] at nf ⊢
      have NF := Lib.hid nf
      have B4 := Lib.hid (BDR.out.trans (bb.mono BDR.out.size))
      have GK : Hid (g6 < gK) := by show _ < _; rw [hgK]; exact (Array.getElem?_eq_some_iff.1 hHeld).1
      have hS := row_below hHeld bb
      clear hHeld nf bb hw4 e4 hgK MK
      try go_frame
      refine hK.out _ _ hS (fun hHeld => ?_)
      clear hK K hS
      refine held_take (i := 5) (v := (.pointer (some ⟨gI, 0, none⟩))) rfl (by kernel_rfl) (by kernel_rfl) (by kernel_rfl) (fun _ _ _ h => h) (Or.inl ⟨by rfl, fun w' _ => by go_simp⟩) hHeld ?_
      go_frame
      refine held_take (i := 6) (v := (.pointer (some ⟨gI, 33, none⟩))) rfl (by kernel_rfl) (by kernel_rfl) (by kernel_rfl) (fun _ _ _ h => h) (Or.inl ⟨by rfl, fun w' _ => by kernel_rfl⟩) hHeld ?_
      go_frame
      refine wpAnyH_ready (rs := [7]) (by kernel_rfl) (by simp) (held_cons rfl (fun K hK => ?_) AllReadyH.nil)
      rw [if_pos (by rfl)]
      refine wp_store_part 29 (.tmp 77) (.tmp 75) rfl gI 33 (ptL zH 1) [.slice none 0 0] [nV 0] [.slice (some ⟨gK, 0, none⟩) 81 81] 54 (.slice (some ⟨gK, 0, none⟩) 81 81) rfl rfl rfl rfl rfl (row_below FI.out B4.out) (by kernel_rfl) (one_mem rfl) ?_
      intro w5 q1 q2
      have F5 := Lib.hid q1
      have Q5 := Lib.hid q2
      have hS := row_far hHeld q2 (fun e => by have := Option.some.inj e; have := GL.out; omega)
      clear q1 q2 hHeld
      go_frame
      refine hK.out _ _ hS (fun hHeld => ?_)
      clear hK K hS
      refine wpAnyH_done (by kernel_rfl) ?_ _
      have F65 := Lib.hid hHeld
      clear hHeld
      have FK5 := Lib.hid (row_far NF.out Q5.out (fun e => by have := Option.some.inj e; have := GL.out; have := GK.out; omega))
      have FO5 := Lib.hid (row_far (row_below FO.out B4.out) Q5.out (fun e => by have := Option.some.inj e; have := GL.out; omega))
      have B5 := Lib.hid ((B.out.trans (B4.out.mono B.out.size)).grown Q5.out (Nat.le_trans B.out.size B4.out.size) (fun k hk => by cases hk; exact GL.out.1))
      have F5 : Hid (w5.heap[gI]? = some (.cells (inL (bdK 2) (.slice (some ⟨gK, 0, none⟩) 81 81)).toArray 54 (0, 0))) := F5.out
      have OZ : Hid (w5.ownsRow gI 5 1 (.slice (some ⟨gK, 0, none⟩) 81 81) 81 (Zl.map bV)) := own_of_row FK5.out (by have := GL.out; have := GK.out; omega) (by rw [List.length_map, ← ZLEN.out]) (by decide)
      have KY : Hid (KeyAt w5 (.slice (some ⟨gK, 0, none⟩) 81 81) (bdK 2).key) := by
        have h := OZ.out
        have e := ZLEN.out
        rw [HZ.out] at h
        have h4 : w5.ownsRow gI 5 1 (.slice (some ⟨gK, 0, none⟩) 81 81) (List.replicate 81 (0 : UInt8)).length ((List.replicate 81 (0 : UInt8)).map bV) := h
        exact ⟨src_own h4, some ⟨gK, 0, none⟩, 81, rfl⟩
      have TA5 : Hid (TxAt w5 (.agg [nV 0, (.slice (some ⟨gI, 0, none⟩) 1 1), (.slice (some ⟨gO, 0, none⟩) 1 1), nV 0].toArray) (bd2 2)) := ⟨⟨Nat.zero_le _, Nat.zero_le _⟩, _, _, rfl, insAt_one F5.out (bdK_ok 2) KY.out, outsAt_one FO5.out bdY_ok⟩
      clear ZLEN HZ OZ KY FK5 FO5 F5 Q5 NF B4 BDR GK BD0 F6 FI FO B G6S
      go_upto_region 32 with fail
      obtain ⟨cc, hcc⟩ : ∃ cc, cc = 14 := ⟨_, rfl⟩
      have HC : Hid (cc = checkC (bd2 2)) := by show _ = _; rw [hcc, bd2_check 2 (by omega)]; try rfl
      have HI : Hid (true = (numE cc == (114 : Int))) := by show _ = _; rw [hcc]; rfl
      have HN : Hid (cc ≤ 25) := by show _ ≤ _; omega
      have TA := Lib.hid (TA5.out)
      have FZ := Lib.hid (F65.out)
      have BZ := Lib.hid (B5.out)
      clear hcc
      go_wp2_with ((with_reducible show wpList _ _ _ _ _ _); (refine wpList_load_rowG 26 (.tmp 6) rfl g6 rfl 26 ([nV 0, (.slice (some ⟨gI, 0, none⟩) 1 1), (.slice (some ⟨gO, 0, none⟩) 1 1), nV 0]).toArray (0, 0) _ FZ.out Tryd.underlying26 rfl (by kernel_rfl) rfl ?_; go_frame))
      refine (check_all E (bd2 2) _ _ cc HC.out (HE.out.below BZ.out).e8 TA.out (bd2_small 2 (by omega))).mono ?_
      rintro e n1 ⟨rfl, hx⟩
      have BZ := Lib.hid (BZ.out.trans (hx.mono BZ.out.size))
      clear hx
      go_wp2_with fail
      refine (is_any E cc 114 true HI.out n1 (HE.out.below BZ.out) HN.out).mono ?_
      rintro e n2 ⟨rfl, hx⟩
      have BZ := Lib.hid (BZ.out.trans (hx.mono BZ.out.size))
      clear hx
      go_wp2_with fail
      go_ret
      exact ⟨rfl, BZ.out⟩
    · go_upto_region 25 with fail
      obtain ⟨Zl, hZ0⟩ : ∃ Zl : List UInt8, Zl = List.replicate 82 0 := ⟨_, rfl⟩
      have MK : ∀ w : World, (Instr.makeSlice 29 (.int .i64 82) (.int .i64 82)).run Tryd.prog w = .ok (.slice (some ⟨w.heap.size, 0, none⟩) 82 82) (w.alloc (.cells (Zl.map bV).toArray 5 (0, 0))) := fun w => by
        have h := run_make_row' 29 5 (.int .u8 0) 1 Tryd.underlying29 info_u8 rfl .i64 .i64 82 (by omega) (by omega) w
        have e : (madeCells #[.int .u8 0] 82) = (Zl.map bV).toArray := by rw [hZ0]; kernel_rfl
        rw [e] at h
        exact h
      have HZ : Hid (Zl = List.replicate 82 0) := hZ0
      have ZLEN : Hid (82 = Zl.length) := by rw [hZ0]; rfl
      clear hZ0
      refine wp_region_held_drew (S := (fun w' => w'.heap[g6]? = some (.cells [nV 0, (.slice (some ⟨gI, 0, none⟩) 1 1), (.slice (some ⟨gO, 0, none⟩) 1 1), nV 0].toArray 26 (0, 0)))) (by kernel_rfl) F6.out (fun hHeld => ?_)
      have bb := Below.drew (Below.refl w3.heap.size w3)
      generalize hwd : w3.drew = wd
      rw [hwd] at hHeld bb
      have BDR := Lib.hid bb
      clear hwd bb
      refine held_take (i := 0) (v := (.pointer (some ⟨g6, 1, none⟩))) rfl (by kernel_rfl) (by kernel_rfl) (by kernel_rfl) (fun _ _ _ h => h) (Or.inl ⟨by rfl, fun w' _ => by kernel_rfl⟩) hHeld ?_
      go_frame
      refine held_take (i := 1) (v := (.slice (some ⟨gI, 0, none⟩) 1 1)) rfl (by kernel_rfl) (by kernel_rfl) (by kernel_rfl) (fun _ _ _ h => h) (yieldsIf_load_one (by rfl) 23 _ rfl g6 (1) rfl _ _ (fun w' hw' => by rw [cell_of_row _ _ _ _ _ _ hw']; rfl) Tryd.underlying23 rfl) hHeld ?_
      go_frame
      refine held_take (i := 2) (v := (.int .i64 (2 : Int))) rfl (by kernel_rfl) (by kernel_rfl) (by kernel_rfl) (fun _ _ _ h => h) (Or.inl ⟨by rfl, fun w' _ => by kernel_rfl⟩) hHeld ?_
      go_frame
      refine held_take (i := 3) (v := (.int .i64 (82 : Int))) rfl (by kernel_rfl) (by kernel_rfl) (by kernel_rfl) (fun _ _ _ h => h) (Or.inl ⟨by rfl, fun w' _ => by kernel_rfl⟩) hHeld ?_
      go_frame
      refine wpAnyH_ready (rs := [4]) (by kernel_rfl) (by simp) (held_cons rfl (fun K hK => ?_) AllReadyH.nil)
      go_simp
      have nf := heap_alloc_new wd (.cells (Zl.map bV).toArray 5 (0, 0))
      have bb := (Below.refl wd.heap.size wd).alloc (Nat.le_refl _) (.cells (Zl.map bV).toArray 5 (0, 0))
      obtain ⟨gK, hgK⟩ : ∃ gK, gK = wd.heap.size := ⟨_, rfl⟩
      generalize hw4 : World.alloc _ _ = w4
      have e4 : wd.alloc (.cells (Zl.map bV).toArray 5 (0, 0)) = w4 := hw4
      rw [e4] at nf bb
      rw [← hgK] at nf ⊢
      have NF := Lib.hid nf
      have B4 := Lib.hid (BDR.out.trans (bb.mono BDR.out.size))
      have GK : Hid (g6 < gK) := by show _ < _; rw [hgK]; exact (Array.getElem?_eq_some_iff.1 hHeld).1
      have hS := row_below hHeld bb
      clear hHeld nf bb hw4 e4 hgK MK
      try go_frame
      refine hK.out _ _ hS (fun hHeld => ?_)
      clear hK K hS
      refine held_take (i := 5) (v := (.pointer (some ⟨gI, 0, none⟩))) rfl (by kernel_rfl) (by kernel_rfl) (by kernel_rfl) (fun _ _ _ h => h) (Or.inl ⟨by rfl, fun w' _ => by go_simp⟩) hHeld ?_
      go_frame
      refine held_take (i := 6) (v := (.pointer (some ⟨gI, 33, none⟩))) rfl (by kernel_rfl) (by kernel_rfl) (by kernel_rfl) (fun _ _ _ h => h) (Or.inl ⟨by rfl, fun w' _ => by kernel_rfl⟩) hHeld ?_
      go_frame
      refine wpAnyH_ready (rs := [7]) (by kernel_rfl) (by simp) (held_cons rfl (fun K hK => ?_) AllReadyH.nil)
      rw [if_pos (by rfl)]
      refine wp_store_part 29 (.tmp 77) (.tmp 75) rfl gI 33 (ptL zH 1) [.slice none 0 0] [nV 0] [.slice (some ⟨gK, 0, none⟩) 82 82] 54 (.slice (some ⟨gK, 0, none⟩) 82 82) rfl rfl rfl rfl rfl (row_below FI.out B4.out) (by kernel_rfl) (one_mem rfl) ?_
      intro w5 q1 q2
      have F5 := Lib.hid q1
      have Q5 := Lib.hid q2
      have hS := row_far hHeld q2 (fun e => by have := Option.some.inj e; have := GL.out; omega)
      clear q1 q2 hHeld
      go_frame
      refine hK.out _ _ hS (fun hHeld => ?_)
      clear hK K hS
      refine wpAnyH_done (by kernel_rfl) ?_ _
      have F65 := Lib.hid hHeld
      clear hHeld
      have FK5 := Lib.hid (row_far NF.out Q5.out (fun e => by have := Option.some.inj e; have := GL.out; have := GK.out; omega))
      have FO5 := Lib.hid (row_far (row_below FO.out B4.out) Q5.out (fun e => by have := Option.some.inj e; have := GL.out; omega))
      have B5 := Lib.hid ((B.out.trans (B4.out.mono B.out.size)).grown Q5.out (Nat.le_trans B.out.size B4.out.size) (fun k hk => by cases hk; exact GL.out.1))
      have F5 : Hid (w5.heap[gI]? = some (.cells (inL (bdK 3) (.slice (some ⟨gK, 0, none⟩) 82 82)).toArray 54 (0, 0))) := F5.out
      have OZ : Hid (w5.ownsRow gI 5 1 (.slice (some ⟨gK, 0, none⟩) 82 82) 82 (Zl.map bV)) := own_of_row FK5.out (by have := GL.out; have := GK.out; omega) (by rw [List.length_map, ← ZLEN.out]) (by decide)
      have KY : Hid (KeyAt w5 (.slice (some ⟨gK, 0, none⟩) 82 82) (bdK 3).key) := by
        have h := OZ.out
        have e := ZLEN.out
        rw [HZ.out] at h
        have h4 : w5.ownsRow gI 5 1 (.slice (some ⟨gK, 0, none⟩) 82 82) (List.replicate 82 (0 : UInt8)).length ((List.replicate 82 (0 : UInt8)).map bV) := h
        exact ⟨src_own h4, some ⟨gK, 0, none⟩, 82, rfl⟩
      have TA5 : Hid (TxAt w5 (.agg [nV 0, (.slice (some ⟨gI, 0, none⟩) 1 1), (.slice (some ⟨gO, 0, none⟩) 1 1), nV 0].toArray) (bd2 3)) := ⟨⟨Nat.zero_le _, Nat.zero_le _⟩, _, _, rfl, insAt_one F5.out (bdK_ok 3) KY.out, outsAt_one FO5.out bdY_ok⟩
      clear ZLEN HZ OZ KY FK5 FO5 F5 Q5 NF B4 BDR GK BD0 F6 FI FO B G6S
      go_upto_region 32 with fail
      obtain ⟨cc, hcc⟩ : ∃ cc, cc = 14 := ⟨_, rfl⟩
      have HC : Hid (cc = checkC (bd2 3)) := by show _ = _; rw [hcc, bd2_check 3 (by omega)]; try rfl
      have HI : Hid (true = (numE cc == (114 : Int))) := by show _ = _; rw [hcc]; rfl
      have HN : Hid (cc ≤ 25) := by show _ ≤ _; omega
      have TA := Lib.hid (TA5.out)
      have FZ := Lib.hid (F65.out)
      have BZ := Lib.hid (B5.out)
      clear hcc
      go_wp2_with ((with_reducible show wpList _ _ _ _ _ _); (refine wpList_load_rowG 26 (.tmp 6) rfl g6 rfl 26 ([nV 0, (.slice (some ⟨gI, 0, none⟩) 1 1), (.slice (some ⟨gO, 0, none⟩) 1 1), nV 0]).toArray (0, 0) _ FZ.out Tryd.underlying26 rfl (by kernel_rfl) rfl ?_; go_frame))
      refine (check_all E (bd2 3) _ _ cc HC.out (HE.out.below BZ.out).e8 TA.out (bd2_small 3 (by omega))).mono ?_
      rintro e n1 ⟨rfl, hx⟩
      have BZ := Lib.hid (BZ.out.trans (hx.mono BZ.out.size))
      clear hx
      go_wp2_with fail
      refine (is_any E cc 114 true HI.out n1 (HE.out.below BZ.out) HN.out).mono ?_
      rintro e n2 ⟨rfl, hx⟩
      have BZ := Lib.hid (BZ.out.trans (hx.mono BZ.out.size))
      clear hx
      go_wp2_with fail
      go_ret
      exact ⟨rfl, BZ.out⟩
  · rcases hc2 with rfl | rfl | rfl | rfl
    · go_upto_region 29 with fail
      have c1 : w3.cell? ⟨g6, 2, none⟩ = some (.slice (some ⟨gO, 0, none⟩) 1 1) := by rw [cell_of_row _ _ _ _ _ _ F6.out]; rfl
      go_upto_region 30 with ((with_reducible show wpList _ _ _ _ _ _); refine wpList_store_part rfl 55 (.tmp 88) (.tmp 86) rfl gO 0 [] [uV 0] (zH.map bV) [uV 2099999999999999] 57 (uV 2099999999999999) rfl (by kernel_rfl) rfl rfl rfl FO.out (by kernel_rfl) (one_mem rfl) ?_; intro w5 q1 q2; have F5 := Lib.hid q1; have Q5 := Lib.hid q2; clear q1 q2; go_frame)
      have F65 := Lib.hid (row_far F6.out Q5.out (fun e => by have := Option.some.inj e; have := GL.out; omega))
      have FI5 := Lib.hid (row_far FI.out Q5.out (fun e => by have := Option.some.inj e; have := GL.out; omega))
      have B5 := Lib.hid (B.out.grown Q5.out B.out.size (fun k hk => by cases hk; have := GL.out; omega))
      have F5 : Hid (w5.heap[gO]? = some (.cells (outL (bdV 0)).toArray 57 (0, 0))) := F5.out
      have TA5 : Hid (TxAt w5 (.agg [nV 0, (.slice (some ⟨gI, 0, none⟩) 1 1), (.slice (some ⟨gO, 0, none⟩) 1 1), nV 0].toArray) (bd3 0)) := ⟨⟨Nat.zero_le _, Nat.zero_le _⟩, _, _, rfl, insAt_one FI5.out (bdN_ok 0 (by omega)) (nil_key _), outsAt_one F5.out (bdV_ok 0 (by omega))⟩
      clear c1 FI5 F5 Q5 BD0 F6 FI FO B G6S
      go_upto_region 32 with fail
      obtain ⟨cc, hcc⟩ : ∃ cc, cc = 0 := ⟨_, rfl⟩
      have HC : Hid (cc = checkC (bd3 0)) := by show _ = _; rw [hcc, bd3_check 0 (by omega)]; try rfl
      have HI : Hid (true = (numE cc == (0 : Int))) := by show _ = _; rw [hcc]; rfl
      have HN : Hid (cc ≤ 25) := by show _ ≤ _; omega
      have TA := Lib.hid (TA5.out)
      have FZ := Lib.hid (F65.out)
      have BZ := Lib.hid (B5.out)
      clear hcc
      go_wp2_with ((with_reducible show wpList _ _ _ _ _ _); (refine wpList_load_rowG 26 (.tmp 6) rfl g6 rfl 26 ([nV 0, (.slice (some ⟨gI, 0, none⟩) 1 1), (.slice (some ⟨gO, 0, none⟩) 1 1), nV 0]).toArray (0, 0) _ FZ.out Tryd.underlying26 rfl (by kernel_rfl) rfl ?_; go_frame))
      refine (check_all E (bd3 0) _ _ cc HC.out (HE.out.below BZ.out).e8 TA.out (bd3_small 0 (by omega))).mono ?_
      rintro e n1 ⟨rfl, hx⟩
      have BZ := Lib.hid (BZ.out.trans (hx.mono BZ.out.size))
      clear hx
      go_wp2_with fail
      refine (is_any E cc 0 true HI.out n1 (HE.out.below BZ.out) HN.out).mono ?_
      rintro e n2 ⟨rfl, hx⟩
      have BZ := Lib.hid (BZ.out.trans (hx.mono BZ.out.size))
      clear hx
      go_wp2_with fail
      go_ret
      exact ⟨rfl, BZ.out⟩
    · go_upto_region 29 with fail
      have c1 : w3.cell? ⟨g6, 2, none⟩ = some (.slice (some ⟨gO, 0, none⟩) 1 1) := by rw [cell_of_row _ _ _ _ _ _ F6.out]; rfl
      go_upto_region 30 with ((with_reducible show wpList _ _ _ _ _ _); refine wpList_store_part rfl 55 (.tmp 88) (.tmp 86) rfl gO 0 [] [uV 0] (zH.map bV) [uV 2100000000000000] 57 (uV 2100000000000000) rfl (by kernel_rfl) rfl rfl rfl FO.out (by kernel_rfl) (one_mem rfl) ?_; intro w5 q1 q2; have F5 := Lib.hid q1; have Q5 := Lib.hid q2; clear q1 q2; go_frame)
      have F65 := Lib.hid (row_far F6.out Q5.out (fun e => by have := Option.some.inj e; have := GL.out; omega))
      have FI5 := Lib.hid (row_far FI.out Q5.out (fun e => by have := Option.some.inj e; have := GL.out; omega))
      have B5 := Lib.hid (B.out.grown Q5.out B.out.size (fun k hk => by cases hk; have := GL.out; omega))
      have F5 : Hid (w5.heap[gO]? = some (.cells (outL (bdV 1)).toArray 57 (0, 0))) := F5.out
      have TA5 : Hid (TxAt w5 (.agg [nV 0, (.slice (some ⟨gI, 0, none⟩) 1 1), (.slice (some ⟨gO, 0, none⟩) 1 1), nV 0].toArray) (bd3 1)) := ⟨⟨Nat.zero_le _, Nat.zero_le _⟩, _, _, rfl, insAt_one FI5.out (bdN_ok 0 (by omega)) (nil_key _), outsAt_one F5.out (bdV_ok 1 (by omega))⟩
      clear c1 FI5 F5 Q5 BD0 F6 FI FO B G6S
      go_upto_region 32 with fail
      obtain ⟨cc, hcc⟩ : ∃ cc, cc = 0 := ⟨_, rfl⟩
      have HC : Hid (cc = checkC (bd3 1)) := by show _ = _; rw [hcc, bd3_check 1 (by omega)]; try rfl
      have HI : Hid (true = (numE cc == (0 : Int))) := by show _ = _; rw [hcc]; rfl
      have HN : Hid (cc ≤ 25) := by show _ ≤ _; omega
      have TA := Lib.hid (TA5.out)
      have FZ := Lib.hid (F65.out)
      have BZ := Lib.hid (B5.out)
      clear hcc
      go_wp2_with ((with_reducible show wpList _ _ _ _ _ _); (refine wpList_load_rowG 26 (.tmp 6) rfl g6 rfl 26 ([nV 0, (.slice (some ⟨gI, 0, none⟩) 1 1), (.slice (some ⟨gO, 0, none⟩) 1 1), nV 0]).toArray (0, 0) _ FZ.out Tryd.underlying26 rfl (by kernel_rfl) rfl ?_; go_frame))
      refine (check_all E (bd3 1) _ _ cc HC.out (HE.out.below BZ.out).e8 TA.out (bd3_small 1 (by omega))).mono ?_
      rintro e n1 ⟨rfl, hx⟩
      have BZ := Lib.hid (BZ.out.trans (hx.mono BZ.out.size))
      clear hx
      go_wp2_with fail
      refine (is_any E cc 0 true HI.out n1 (HE.out.below BZ.out) HN.out).mono ?_
      rintro e n2 ⟨rfl, hx⟩
      have BZ := Lib.hid (BZ.out.trans (hx.mono BZ.out.size))
      clear hx
      go_wp2_with fail
      go_ret
      exact ⟨rfl, BZ.out⟩
    · go_upto_region 29 with fail
      have c1 : w3.cell? ⟨g6, 2, none⟩ = some (.slice (some ⟨gO, 0, none⟩) 1 1) := by rw [cell_of_row _ _ _ _ _ _ F6.out]; rfl
      go_upto_region 30 with ((with_reducible show wpList _ _ _ _ _ _); refine wpList_store_part rfl 55 (.tmp 88) (.tmp 86) rfl gO 0 [] [uV 0] (zH.map bV) [uV 2100000000000001] 57 (uV 2100000000000001) rfl (by kernel_rfl) rfl rfl rfl FO.out (by kernel_rfl) (one_mem rfl) ?_; intro w5 q1 q2; have F5 := Lib.hid q1; have Q5 := Lib.hid q2; clear q1 q2; go_frame)
      have F65 := Lib.hid (row_far F6.out Q5.out (fun e => by have := Option.some.inj e; have := GL.out; omega))
      have FI5 := Lib.hid (row_far FI.out Q5.out (fun e => by have := Option.some.inj e; have := GL.out; omega))
      have B5 := Lib.hid (B.out.grown Q5.out B.out.size (fun k hk => by cases hk; have := GL.out; omega))
      have F5 : Hid (w5.heap[gO]? = some (.cells (outL (bdV 2)).toArray 57 (0, 0))) := F5.out
      have TA5 : Hid (TxAt w5 (.agg [nV 0, (.slice (some ⟨gI, 0, none⟩) 1 1), (.slice (some ⟨gO, 0, none⟩) 1 1), nV 0].toArray) (bd3 2)) := ⟨⟨Nat.zero_le _, Nat.zero_le _⟩, _, _, rfl, insAt_one FI5.out (bdN_ok 0 (by omega)) (nil_key _), outsAt_one F5.out (bdV_ok 2 (by omega))⟩
      clear c1 FI5 F5 Q5 BD0 F6 FI FO B G6S
      go_upto_region 32 with fail
      obtain ⟨cc, hcc⟩ : ∃ cc, cc = 5 := ⟨_, rfl⟩
      have HC : Hid (cc = checkC (bd3 2)) := by show _ = _; rw [hcc, bd3_check 2 (by omega)]; try rfl
      have HI : Hid (true = (numE cc == (105 : Int))) := by show _ = _; rw [hcc]; rfl
      have HN : Hid (cc ≤ 25) := by show _ ≤ _; omega
      have TA := Lib.hid (TA5.out)
      have FZ := Lib.hid (F65.out)
      have BZ := Lib.hid (B5.out)
      clear hcc
      go_wp2_with ((with_reducible show wpList _ _ _ _ _ _); (refine wpList_load_rowG 26 (.tmp 6) rfl g6 rfl 26 ([nV 0, (.slice (some ⟨gI, 0, none⟩) 1 1), (.slice (some ⟨gO, 0, none⟩) 1 1), nV 0]).toArray (0, 0) _ FZ.out Tryd.underlying26 rfl (by kernel_rfl) rfl ?_; go_frame))
      refine (check_all E (bd3 2) _ _ cc HC.out (HE.out.below BZ.out).e8 TA.out (bd3_small 2 (by omega))).mono ?_
      rintro e n1 ⟨rfl, hx⟩
      have BZ := Lib.hid (BZ.out.trans (hx.mono BZ.out.size))
      clear hx
      go_wp2_with fail
      refine (is_any E cc 105 true HI.out n1 (HE.out.below BZ.out) HN.out).mono ?_
      rintro e n2 ⟨rfl, hx⟩
      have BZ := Lib.hid (BZ.out.trans (hx.mono BZ.out.size))
      clear hx
      go_wp2_with fail
      go_ret
      exact ⟨rfl, BZ.out⟩
    · go_upto_region 29 with fail
      have c1 : w3.cell? ⟨g6, 2, none⟩ = some (.slice (some ⟨gO, 0, none⟩) 1 1) := by rw [cell_of_row _ _ _ _ _ _ F6.out]; rfl
      go_upto_region 30 with ((with_reducible show wpList _ _ _ _ _ _); refine wpList_store_part rfl 55 (.tmp 88) (.tmp 86) rfl gO 0 [] [uV 0] (zH.map bV) [uV 2100000000000002] 57 (uV 2100000000000002) rfl (by kernel_rfl) rfl rfl rfl FO.out (by kernel_rfl) (one_mem rfl) ?_; intro w5 q1 q2; have F5 := Lib.hid q1; have Q5 := Lib.hid q2; clear q1 q2; go_frame)
      have F65 := Lib.hid (row_far F6.out Q5.out (fun e => by have := Option.some.inj e; have := GL.out; omega))
      have FI5 := Lib.hid (row_far FI.out Q5.out (fun e => by have := Option.some.inj e; have := GL.out; omega))
      have B5 := Lib.hid (B.out.grown Q5.out B.out.size (fun k hk => by cases hk; have := GL.out; omega))
      have F5 : Hid (w5.heap[gO]? = some (.cells (outL (bdV 3)).toArray 57 (0, 0))) := F5.out
      have TA5 : Hid (TxAt w5 (.agg [nV 0, (.slice (some ⟨gI, 0, none⟩) 1 1), (.slice (some ⟨gO, 0, none⟩) 1 1), nV 0].toArray) (bd3 3)) := ⟨⟨Nat.zero_le _, Nat.zero_le _⟩, _, _, rfl, insAt_one FI5.out (bdN_ok 0 (by omega)) (nil_key _), outsAt_one F5.out (bdV_ok 3 (by omega))⟩
      clear c1 FI5 F5 Q5 BD0 F6 FI FO B G6S
      go_upto_region 32 with fail
      obtain ⟨cc, hcc⟩ : ∃ cc, cc = 5 := ⟨_, rfl⟩
      have HC : Hid (cc = checkC (bd3 3)) := by show _ = _; rw [hcc, bd3_check 3 (by omega)]; try rfl
      have HI : Hid (true = (numE cc == (105 : Int))) := by show _ = _; rw [hcc]; rfl
      have HN : Hid (cc ≤ 25) := by show _ ≤ _; omega
      have TA := Lib.hid (TA5.out)
      have FZ := Lib.hid (F65.out)
      have BZ := Lib.hid (B5.out)
      clear hcc
      go_wp2_with ((with_reducible show wpList _ _ _ _ _ _); (refine wpList_load_rowG 26 (.tmp 6) rfl g6 rfl 26 ([nV 0, (.slice (some ⟨gI, 0, none⟩) 1 1), (.slice (some ⟨gO, 0, none⟩) 1 1), nV 0]).toArray (0, 0) _ FZ.out Tryd.underlying26 rfl (by kernel_rfl) rfl ?_; go_frame))
      refine (check_all E (bd3 3) _ _ cc HC.out (HE.out.below BZ.out).e8 TA.out (bd3_small 3 (by omega))).mono ?_
      rintro e n1 ⟨rfl, hx⟩
      have BZ := Lib.hid (BZ.out.trans (hx.mono BZ.out.size))
      clear hx
      go_wp2_with fail
      refine (is_any E cc 105 true HI.out n1 (HE.out.below BZ.out) HN.out).mono ?_
      rintro e n2 ⟨rfl, hx⟩
      have BZ := Lib.hid (BZ.out.trans (hx.mono BZ.out.size))
      clear hx
      go_wp2_with fail
      go_ret
      exact ⟨rfl, BZ.out⟩
  · clear hc2
    go_upto_region 8 with fail
    refine wp_region_held_drew (S := (fun _ => True)) (by kernel_rfl) trivial (fun hHeld => ?_)
    have bb := Below.drew (Below.refl w3.heap.size w3)
    generalize hwd : w3.drew = wc
    rw [hwd] at bb
    have BC := Lib.hid bb
    clear hwd bb hHeld
    have hHeld : True := trivial
    refine held_take (i := 0) (v := (.pointer (some ⟨g6, 1, none⟩))) rfl (by kernel_rfl) (by kernel_rfl) (by kernel_rfl) (fun _ _ _ h => h) (Or.inl ⟨by rfl, fun w' _ => by kernel_rfl⟩) hHeld ?_
    go_frame
    refine held_take (i := 2) (v := (.pointer (some ⟨g6, 1, none⟩))) rfl (by kernel_rfl) (by kernel_rfl) (by kernel_rfl) (fun _ _ _ h => h) (Or.inl ⟨by rfl, fun w' _ => by kernel_rfl⟩) hHeld ?_
    go_frame
    refine wpAnyH_ready (rs := [1, 3]) (by kernel_rfl) (by simp) (held_cons rfl (fun K hK => ?_) (held_cons rfl (fun K hK => ?_) AllReadyH.nil))
    · rw [if_pos (by rfl)]
      refine wp_load_cell 23 (.tmp 24) rfl g6 1 rfl (.slice (some ⟨gI, 0, none⟩) 1 1) _ (by rw [cell_of_row _ _ _ _ _ _ (row_below F6.out BC.out)]; rfl) Tryd.underlying23 rfl ?_
      go_frame
      refine hK.out _ _ trivial (fun hHeld => ?_)
      clear hK K
      refine wpAnyH_ready (rs := [3]) (by kernel_rfl) (by simp) (held_cons rfl (fun K hK => ?_) AllReadyH.nil)
      rw [if_pos (by rfl)]
      refine wp_load_cell 23 (.tmp 26) rfl g6 1 rfl (.slice (some ⟨gI, 0, none⟩) 1 1) _ (by rw [cell_of_row _ _ _ _ _ _ (row_below F6.out BC.out)]; rfl) Tryd.underlying23 rfl ?_
      go_frame
      refine hK.out _ _ trivial (fun hHeld => ?_)
      clear hK K
      refine held_take (i := 4) (v := (.pointer (some ⟨gI, 0, none⟩))) rfl (by kernel_rfl) (by kernel_rfl) (by kernel_rfl) (fun _ _ _ h => h) (Or.inl ⟨by rfl, fun w' _ => by go_simp⟩) hHeld ?_
      go_frame
      refine wpAnyH_ready (rs := [5]) (by kernel_rfl) (by simp) (held_cons rfl (fun K hK => ?_) AllReadyH.nil)
      rw [if_pos (by rfl)]
      refine wp_load_mid 54 (.tmp 28) rfl gI 0 rfl (inL (bdN 0) (.slice none 0 0)) _ (range_of_box (row_below FI.out BC.out)) Tryd.underlying54 rfl (by kernel_rfl) ?_
      go_frame
      refine hK.out _ _ trivial (fun hHeld => ?_)
      clear hK K
      refine wpAnyH_ready (rs := [6]) (by kernel_rfl) (by simp) (held_cons rfl (fun K hK => ?_) AllReadyH.nil)
      rw [if_pos (by rfl)]
      refine wp_slice_one 23 54 (.tmp 29) rfl (inL (bdN 0) (.slice none 0 0)) rfl Tryd.underlying23 i0 _ hi hz0 (by rw [hz1, LX.out]) (by rw [LX.out]; omega) (by rw [LX.out]; omega) ?_
      have nf := heap_alloc_new wc (.cells (inL (bdN 0) (.slice none 0 0)).toArray 54 (0, 0))
      have bb := (Below.refl wc.heap.size wc).alloc (Nat.le_refl _) (.cells (inL (bdN 0) (.slice none 0 0)).toArray 54 (0, 0))
      obtain ⟨gn, hgn⟩ : ∃ gn, gn = wc.heap.size := ⟨_, rfl⟩
      generalize hwn : World.alloc _ _ = wn
      have en : wc.alloc (.cells (inL (bdN 0) (.slice none 0 0)).toArray 54 (0, 0)) = wn := hwn
      rw [en] at nf bb
      rw [← hgn] at nf ⊢
      have NF := Lib.hid nf
      have GN : Hid (g6 < gn) := by show _ < _; rw [hgn]; exact Nat.lt_of_lt_of_le G6S.out BC.out.size
      have BC := Lib.hid (BC.out.trans (bb.mono BC.out.size))
      clear nf bb hwn en hgn
      go_frame
      refine hK.out _ _ trivial (fun hHeld => ?_)
      clear hK K
      refine wpAnyH_ready (rs := [7]) (by kernel_rfl) (by simp) (held_cons rfl (fun K hK => ?_) AllReadyH.nil)
      rw [if_pos (by rfl)]
      refine wp_append_row wn (.tmp 25) (.tmp 30) 23 rfl gI 54 i0 (.agg (List.replicate 32 (bV 0) ++ [nV 0, .slice none 0 0, nV 0]).toArray) 35 72 Tryd.underlying23 hi hz0 hz1 hz2 (by kernel_rfl) (by decide) (.slice (some ⟨gI, 0, none⟩) 1 1) 1 (inL (bdN 0) (.slice none 0 0)) rfl (own_of_row (row_below FI.out BC.out) (Nat.le_refl _) rfl (by decide)) ⟨gn, 0, none⟩ 1 1 (inL (bdN 0) (.slice none 0 0)) rfl (by rw [LX.out]) (fun j u hj => by rw [Addr.add_mid]; exact range_of_box NF.out j u hj) (in_mem_one (bdN 0) _ rfl) (by unfold maxLen; omega) (by omega) (by have := GL.out; have := G6S.out; have := BC.out.size; omega) ?_
      intro v7 w7 ao ag at'
      have AO := Lib.hid ao
      have AG := Lib.hid ag
      have NE7 : Hid (v7.ownBlock ≠ some gO ∧ v7.ownBlock ≠ some g6) := by
        have h1 := GL.out
        have h2 := G6S.out
        have h3 := BC.out.size
        constructor
        · intro e
          rcases at' with e2 | e2
          · rw [e2] at e; have e3 : gI = gO := Option.some.inj e; omega
          · rw [e2] at e; have e3 := Option.some.inj e; omega
        · intro e
          rcases at' with e2 | e2
          · rw [e2] at e; have e3 : gI = g6 := Option.some.inj e; omega
          · rw [e2] at e; have e3 := Option.some.inj e; omega
      clear ao ag at'
      go_frame
      refine hK.out _ _ trivial (fun hHeld => ?_)
      clear hK K
      refine held_take (i := 8) (v := (.pointer (some ⟨g6, 1, none⟩))) rfl (by kernel_rfl) (by kernel_rfl) (by kernel_rfl) (fun _ _ _ h => h) (Or.inl ⟨by rfl, fun w' _ => by kernel_rfl⟩) hHeld ?_
      go_frame
      refine wpAnyH_ready (rs := [9]) (by kernel_rfl) (by simp) (held_cons rfl (fun K hK => ?_) AllReadyH.nil)
      rw [if_pos (by rfl)]
      refine wp_store_part 23 (.tmp 32) (.tmp 31) rfl g6 1 [nV 0] [(.slice (some ⟨gI, 0, none⟩) 1 1)] [(.slice (some ⟨gO, 0, none⟩) 1 1), nV 0] [v7] 26 v7 rfl rfl (cells_one (own_one AO.out)) rfl rfl (row_far (row_below F6.out BC.out) AG.out (fun e => by have e3 : gI = g6 := Option.some.inj e; have := GL.out; omega)) (by kernel_rfl) (one_mem (own_one AO.out)) ?_
      intro w8 q1 q2
      have F8 := Lib.hid q1
      have Q8 := Lib.hid q2
      clear q1 q2
      go_frame
      refine hK.out _ _ trivial (fun hHeld => ?_)
      clear hK K
      refine wpAnyH_done (by kernel_rfl) ?_ _
      clear hHeld
      have F8 : Hid (w8.heap[g6]? = some (.cells [nV 0, v7, (.slice (some ⟨gO, 0, none⟩) 1 1), nV 0].toArray 26 (0, 0))) := F8.out
      have O8 := Lib.hid (AO.out.kept Q8.out (.inr NE7.out.2))
      have FO8 := Lib.hid (row_far (row_far (row_below FO.out BC.out) AG.out (fun e => by have e3 : gI = gO := Option.some.inj e; have := GL.out; omega)) Q8.out (fun e => by have := Option.some.inj e; have := GL.out; omega))
      have B8 := Lib.hid (((B.out.trans (BC.out.mono B.out.size)).grown AG.out (Nat.le_trans B.out.size BC.out.size) (fun k hk => by cases hk; exact GL.out.1)).grown Q8.out (Nat.le_trans (Nat.le_trans B.out.size BC.out.size) AG.out.size) (fun k hk => by cases hk; have := GL.out; omega))
      have I8 : Hid (InsOwn gI w8 v7 [bdN 0, bdN 0] [.slice none 0 0, .slice none 0 0]) := ⟨rfl, O8.out, fun x hx => by simp only [List.mem_cons, List.not_mem_nil, or_false] at hx; rcases hx with rfl | rfl <;> exact bdN_ok 0 (by omega), fun i x kv hx hkv => by
        have e : kv = .slice none 0 0 := by have := List.mem_of_getElem? hkv; simp only [List.mem_cons, List.not_mem_nil, or_false, or_self] at this; exact this
        have e2 : x = bdN 0 := by have := List.mem_of_getElem? hx; simp only [List.mem_cons, List.not_mem_nil, or_false, or_self] at this; exact this
        subst e e2
        exact ⟨nil_key _, fun q _ => nil_off _, nil_off _⟩⟩
      have TA8 : Hid (TxAt w8 (.agg [nV 0, v7, (.slice (some ⟨gO, 0, none⟩) 1 1), nV 0].toArray) bd4) := ⟨⟨Nat.zero_le _, Nat.zero_le _⟩, _, _, rfl, I8.out.at, outsAt_one FO8.out bdY_ok⟩
      clear I8 FO8 O8 AO AG Q8 NE7 NF GN BC BD0 F6 FI FO B G6S
      go_upto_region 32 with fail
      obtain ⟨cc, hcc⟩ : ∃ cc, cc = 6 := ⟨_, rfl⟩
      have HC : Hid (cc = checkC (bd4)) := by show _ = _; rw [hcc, bd4_check]; try rfl
      have HI : Hid (true = (numE cc == (106 : Int))) := by show _ = _; rw [hcc]; rfl
      have HN : Hid (cc ≤ 25) := by show _ ≤ _; omega
      have TA := Lib.hid (TA8.out)
      have FZ := Lib.hid (F8.out)
      have BZ := Lib.hid (B8.out)
      clear hcc
      go_wp2_with ((with_reducible show wpList _ _ _ _ _ _); (refine wpList_load_rowG 26 (.tmp 6) rfl g6 rfl 26 ([nV 0, v7, (.slice (some ⟨gO, 0, none⟩) 1 1), nV 0]).toArray (0, 0) _ FZ.out Tryd.underlying26 rfl (by kernel_rfl) rfl ?_; go_frame))
      refine (check_all E (bd4) _ _ cc HC.out (HE.out.below BZ.out).e8 TA.out (bd4_small)).mono ?_
      rintro e n1 ⟨rfl, hx⟩
      have BZ := Lib.hid (BZ.out.trans (hx.mono BZ.out.size))
      clear hx
      go_wp2_with fail
      refine (is_any E cc 106 true HI.out n1 (HE.out.below BZ.out) HN.out).mono ?_
      rintro e n2 ⟨rfl, hx⟩
      have BZ := Lib.hid (BZ.out.trans (hx.mono BZ.out.size))
      clear hx
      go_wp2_with fail
      go_ret
      exact ⟨rfl, BZ.out⟩
    · rw [if_pos (by rfl)]
      refine wp_load_cell 23 (.tmp 26) rfl g6 1 rfl (.slice (some ⟨gI, 0, none⟩) 1 1) _ (by rw [cell_of_row _ _ _ _ _ _ (row_below F6.out BC.out)]; rfl) Tryd.underlying23 rfl ?_
      go_frame
      refine hK.out _ _ trivial (fun hHeld => ?_)
      clear hK K
      refine held_take (i := 4) (v := (.pointer (some ⟨gI, 0, none⟩))) rfl (by kernel_rfl) (by kernel_rfl) (by kernel_rfl) (fun _ _ _ h => h) (Or.inl ⟨by rfl, fun w' _ => by go_simp⟩) hHeld ?_
      go_frame
      refine wpAnyH_ready (rs := [1, 5]) (by kernel_rfl) (by simp) (held_cons rfl (fun K hK => ?_) (held_cons rfl (fun K hK => ?_) AllReadyH.nil))
      · rw [if_pos (by rfl)]
        refine wp_load_cell 23 (.tmp 24) rfl g6 1 rfl (.slice (some ⟨gI, 0, none⟩) 1 1) _ (by rw [cell_of_row _ _ _ _ _ _ (row_below F6.out BC.out)]; rfl) Tryd.underlying23 rfl ?_
        go_frame
        refine hK.out _ _ trivial (fun hHeld => ?_)
        clear hK K
        refine wpAnyH_ready (rs := [5]) (by kernel_rfl) (by simp) (held_cons rfl (fun K hK => ?_) AllReadyH.nil)
        rw [if_pos (by rfl)]
        refine wp_load_mid 54 (.tmp 28) rfl gI 0 rfl (inL (bdN 0) (.slice none 0 0)) _ (range_of_box (row_below FI.out BC.out)) Tryd.underlying54 rfl (by kernel_rfl) ?_
        go_frame
        refine hK.out _ _ trivial (fun hHeld => ?_)
        clear hK K
        refine wpAnyH_ready (rs := [6]) (by kernel_rfl) (by simp) (held_cons rfl (fun K hK => ?_) AllReadyH.nil)
        rw [if_pos (by rfl)]
        refine wp_slice_one 23 54 (.tmp 29) rfl (inL (bdN 0) (.slice none 0 0)) rfl Tryd.underlying23 i0 _ hi hz0 (by rw [hz1, LX.out]) (by rw [LX.out]; omega) (by rw [LX.out]; omega) ?_
        have nf := heap_alloc_new wc (.cells (inL (bdN 0) (.slice none 0 0)).toArray 54 (0, 0))
        have bb := (Below.refl wc.heap.size wc).alloc (Nat.le_refl _) (.cells (inL (bdN 0) (.slice none 0 0)).toArray 54 (0, 0))
        obtain ⟨gn, hgn⟩ : ∃ gn, gn = wc.heap.size := ⟨_, rfl⟩
        generalize hwn : World.alloc _ _ = wn
        have en : wc.alloc (.cells (inL (bdN 0) (.slice none 0 0)).toArray 54 (0, 0)) = wn := hwn
        rw [en] at nf bb
        rw [← hgn] at nf ⊢
        have NF := Lib.hid nf
        have GN : Hid (g6 < gn) := by show _ < _; rw [hgn]; exact Nat.lt_of_lt_of_le G6S.out BC.out.size
        have BC := Lib.hid (BC.out.trans (bb.mono BC.out.size))
        clear nf bb hwn en hgn
        go_frame
        refine hK.out _ _ trivial (fun hHeld => ?_)
        clear hK K
        refine wpAnyH_ready (rs := [7]) (by kernel_rfl) (by simp) (held_cons rfl (fun K hK => ?_) AllReadyH.nil)
        rw [if_pos (by rfl)]
        refine wp_append_row wn (.tmp 25) (.tmp 30) 23 rfl gI 54 i0 (.agg (List.replicate 32 (bV 0) ++ [nV 0, .slice none 0 0, nV 0]).toArray) 35 72 Tryd.underlying23 hi hz0 hz1 hz2 (by kernel_rfl) (by decide) (.slice (some ⟨gI, 0, none⟩) 1 1) 1 (inL (bdN 0) (.slice none 0 0)) rfl (own_of_row (row_below FI.out BC.out) (Nat.le_refl _) rfl (by decide)) ⟨gn, 0, none⟩ 1 1 (inL (bdN 0) (.slice none 0 0)) rfl (by rw [LX.out]) (fun j u hj => by rw [Addr.add_mid]; exact range_of_box NF.out j u hj) (in_mem_one (bdN 0) _ rfl) (by unfold maxLen; omega) (by omega) (by have := GL.out; have := G6S.out; have := BC.out.size; omega) ?_
        intro v7 w7 ao ag at'
        have AO := Lib.hid ao
        have AG := Lib.hid ag
        have NE7 : Hid (v7.ownBlock ≠ some gO ∧ v7.ownBlock ≠ some g6) := by
          have h1 := GL.out
          have h2 := G6S.out
          have h3 := BC.out.size
          constructor
          · intro e
            rcases at' with e2 | e2
            · rw [e2] at e; have e3 : gI = gO := Option.some.inj e; omega
            · rw [e2] at e; have e3 := Option.some.inj e; omega
          · intro e
            rcases at' with e2 | e2
            · rw [e2] at e; have e3 : gI = g6 := Option.some.inj e; omega
            · rw [e2] at e; have e3 := Option.some.inj e; omega
        clear ao ag at'
        go_frame
        refine hK.out _ _ trivial (fun hHeld => ?_)
        clear hK K
        refine held_take (i := 8) (v := (.pointer (some ⟨g6, 1, none⟩))) rfl (by kernel_rfl) (by kernel_rfl) (by kernel_rfl) (fun _ _ _ h => h) (Or.inl ⟨by rfl, fun w' _ => by kernel_rfl⟩) hHeld ?_
        go_frame
        refine wpAnyH_ready (rs := [9]) (by kernel_rfl) (by simp) (held_cons rfl (fun K hK => ?_) AllReadyH.nil)
        rw [if_pos (by rfl)]
        refine wp_store_part 23 (.tmp 32) (.tmp 31) rfl g6 1 [nV 0] [(.slice (some ⟨gI, 0, none⟩) 1 1)] [(.slice (some ⟨gO, 0, none⟩) 1 1), nV 0] [v7] 26 v7 rfl rfl (cells_one (own_one AO.out)) rfl rfl (row_far (row_below F6.out BC.out) AG.out (fun e => by have e3 : gI = g6 := Option.some.inj e; have := GL.out; omega)) (by kernel_rfl) (one_mem (own_one AO.out)) ?_
        intro w8 q1 q2
        have F8 := Lib.hid q1
        have Q8 := Lib.hid q2
        clear q1 q2
        go_frame
        refine hK.out _ _ trivial (fun hHeld => ?_)
        clear hK K
        refine wpAnyH_done (by kernel_rfl) ?_ _
        clear hHeld
        have F8 : Hid (w8.heap[g6]? = some (.cells [nV 0, v7, (.slice (some ⟨gO, 0, none⟩) 1 1), nV 0].toArray 26 (0, 0))) := F8.out
        have O8 := Lib.hid (AO.out.kept Q8.out (.inr NE7.out.2))
        have FO8 := Lib.hid (row_far (row_far (row_below FO.out BC.out) AG.out (fun e => by have e3 : gI = gO := Option.some.inj e; have := GL.out; omega)) Q8.out (fun e => by have := Option.some.inj e; have := GL.out; omega))
        have B8 := Lib.hid (((B.out.trans (BC.out.mono B.out.size)).grown AG.out (Nat.le_trans B.out.size BC.out.size) (fun k hk => by cases hk; exact GL.out.1)).grown Q8.out (Nat.le_trans (Nat.le_trans B.out.size BC.out.size) AG.out.size) (fun k hk => by cases hk; have := GL.out; omega))
        have I8 : Hid (InsOwn gI w8 v7 [bdN 0, bdN 0] [.slice none 0 0, .slice none 0 0]) := ⟨rfl, O8.out, fun x hx => by simp only [List.mem_cons, List.not_mem_nil, or_false] at hx; rcases hx with rfl | rfl <;> exact bdN_ok 0 (by omega), fun i x kv hx hkv => by
          have e : kv = .slice none 0 0 := by have := List.mem_of_getElem? hkv; simp only [List.mem_cons, List.not_mem_nil, or_false, or_self] at this; exact this
          have e2 : x = bdN 0 := by have := List.mem_of_getElem? hx; simp only [List.mem_cons, List.not_mem_nil, or_false, or_self] at this; exact this
          subst e e2
          exact ⟨nil_key _, fun q _ => nil_off _, nil_off _⟩⟩
        have TA8 : Hid (TxAt w8 (.agg [nV 0, v7, (.slice (some ⟨gO, 0, none⟩) 1 1), nV 0].toArray) bd4) := ⟨⟨Nat.zero_le _, Nat.zero_le _⟩, _, _, rfl, I8.out.at, outsAt_one FO8.out bdY_ok⟩
        clear I8 FO8 O8 AO AG Q8 NE7 NF GN BC BD0 F6 FI FO B G6S
        go_upto_region 32 with fail
        obtain ⟨cc, hcc⟩ : ∃ cc, cc = 6 := ⟨_, rfl⟩
        have HC : Hid (cc = checkC (bd4)) := by show _ = _; rw [hcc, bd4_check]; try rfl
        have HI : Hid (true = (numE cc == (106 : Int))) := by show _ = _; rw [hcc]; rfl
        have HN : Hid (cc ≤ 25) := by show _ ≤ _; omega
        have TA := Lib.hid (TA8.out)
        have FZ := Lib.hid (F8.out)
        have BZ := Lib.hid (B8.out)
        clear hcc
        go_wp2_with ((with_reducible show wpList _ _ _ _ _ _); (refine wpList_load_rowG 26 (.tmp 6) rfl g6 rfl 26 ([nV 0, v7, (.slice (some ⟨gO, 0, none⟩) 1 1), nV 0]).toArray (0, 0) _ FZ.out Tryd.underlying26 rfl (by kernel_rfl) rfl ?_; go_frame))
        refine (check_all E (bd4) _ _ cc HC.out (HE.out.below BZ.out).e8 TA.out (bd4_small)).mono ?_
        rintro e n1 ⟨rfl, hx⟩
        have BZ := Lib.hid (BZ.out.trans (hx.mono BZ.out.size))
        clear hx
        go_wp2_with fail
        refine (is_any E cc 106 true HI.out n1 (HE.out.below BZ.out) HN.out).mono ?_
        rintro e n2 ⟨rfl, hx⟩
        have BZ := Lib.hid (BZ.out.trans (hx.mono BZ.out.size))
        clear hx
        go_wp2_with fail
        go_ret
        exact ⟨rfl, BZ.out⟩
      · rw [if_pos (by rfl)]
        refine wp_load_mid 54 (.tmp 28) rfl gI 0 rfl (inL (bdN 0) (.slice none 0 0)) _ (range_of_box (row_below FI.out BC.out)) Tryd.underlying54 rfl (by kernel_rfl) ?_
        go_frame
        refine hK.out _ _ trivial (fun hHeld => ?_)
        clear hK K
        refine wpAnyH_ready (rs := [1, 6]) (by kernel_rfl) (by simp) (held_cons rfl (fun K hK => ?_) (held_cons rfl (fun K hK => ?_) AllReadyH.nil))
        · rw [if_pos (by rfl)]
          refine wp_load_cell 23 (.tmp 24) rfl g6 1 rfl (.slice (some ⟨gI, 0, none⟩) 1 1) _ (by rw [cell_of_row _ _ _ _ _ _ (row_below F6.out BC.out)]; rfl) Tryd.underlying23 rfl ?_
          go_frame
          refine hK.out _ _ trivial (fun hHeld => ?_)
          clear hK K
          refine wpAnyH_ready (rs := [6]) (by kernel_rfl) (by simp) (held_cons rfl (fun K hK => ?_) AllReadyH.nil)
          rw [if_pos (by rfl)]
          refine wp_slice_one 23 54 (.tmp 29) rfl (inL (bdN 0) (.slice none 0 0)) rfl Tryd.underlying23 i0 _ hi hz0 (by rw [hz1, LX.out]) (by rw [LX.out]; omega) (by rw [LX.out]; omega) ?_
          have nf := heap_alloc_new wc (.cells (inL (bdN 0) (.slice none 0 0)).toArray 54 (0, 0))
          have bb := (Below.refl wc.heap.size wc).alloc (Nat.le_refl _) (.cells (inL (bdN 0) (.slice none 0 0)).toArray 54 (0, 0))
          obtain ⟨gn, hgn⟩ : ∃ gn, gn = wc.heap.size := ⟨_, rfl⟩
          generalize hwn : World.alloc _ _ = wn
          have en : wc.alloc (.cells (inL (bdN 0) (.slice none 0 0)).toArray 54 (0, 0)) = wn := hwn
          rw [en] at nf bb
          rw [← hgn] at nf ⊢
          have NF := Lib.hid nf
          have GN : Hid (g6 < gn) := by show _ < _; rw [hgn]; exact Nat.lt_of_lt_of_le G6S.out BC.out.size
          have BC := Lib.hid (BC.out.trans (bb.mono BC.out.size))
          clear nf bb hwn en hgn
          go_frame
          refine hK.out _ _ trivial (fun hHeld => ?_)
          clear hK K
          refine wpAnyH_ready (rs := [7]) (by kernel_rfl) (by simp) (held_cons rfl (fun K hK => ?_) AllReadyH.nil)
          rw [if_pos (by rfl)]
          refine wp_append_row wn (.tmp 25) (.tmp 30) 23 rfl gI 54 i0 (.agg (List.replicate 32 (bV 0) ++ [nV 0, .slice none 0 0, nV 0]).toArray) 35 72 Tryd.underlying23 hi hz0 hz1 hz2 (by kernel_rfl) (by decide) (.slice (some ⟨gI, 0, none⟩) 1 1) 1 (inL (bdN 0) (.slice none 0 0)) rfl (own_of_row (row_below FI.out BC.out) (Nat.le_refl _) rfl (by decide)) ⟨gn, 0, none⟩ 1 1 (inL (bdN 0) (.slice none 0 0)) rfl (by rw [LX.out]) (fun j u hj => by rw [Addr.add_mid]; exact range_of_box NF.out j u hj) (in_mem_one (bdN 0) _ rfl) (by unfold maxLen; omega) (by omega) (by have := GL.out; have := G6S.out; have := BC.out.size; omega) ?_
          intro v7 w7 ao ag at'
          have AO := Lib.hid ao
          have AG := Lib.hid ag
          have NE7 : Hid (v7.ownBlock ≠ some gO ∧ v7.ownBlock ≠ some g6) := by
            have h1 := GL.out
            have h2 := G6S.out
            have h3 := BC.out.size
            constructor
            · intro e
              rcases at' with e2 | e2
              · rw [e2] at e; have e3 : gI = gO := Option.some.inj e; omega
              · rw [e2] at e; have e3 := Option.some.inj e; omega
            · intro e
              rcases at' with e2 | e2
              · rw [e2] at e; have e3 : gI = g6 := Option.some.inj e; omega
              · rw [e2] at e; have e3 := Option.some.inj e; omega
          clear ao ag at'
          go_frame
          refine hK.out _ _ trivial (fun hHeld => ?_)
          clear hK K
          refine held_take (i := 8) (v := (.pointer (some ⟨g6, 1, none⟩))) rfl (by kernel_rfl) (by kernel_rfl) (by kernel_rfl) (fun _ _ _ h => h) (Or.inl ⟨by rfl, fun w' _ => by kernel_rfl⟩) hHeld ?_
          go_frame
          refine wpAnyH_ready (rs := [9]) (by kernel_rfl) (by simp) (held_cons rfl (fun K hK => ?_) AllReadyH.nil)
          rw [if_pos (by rfl)]
          refine wp_store_part 23 (.tmp 32) (.tmp 31) rfl g6 1 [nV 0] [(.slice (some ⟨gI, 0, none⟩) 1 1)] [(.slice (some ⟨gO, 0, none⟩) 1 1), nV 0] [v7] 26 v7 rfl rfl (cells_one (own_one AO.out)) rfl rfl (row_far (row_below F6.out BC.out) AG.out (fun e => by have e3 : gI = g6 := Option.some.inj e; have := GL.out; omega)) (by kernel_rfl) (one_mem (own_one AO.out)) ?_
          intro w8 q1 q2
          have F8 := Lib.hid q1
          have Q8 := Lib.hid q2
          clear q1 q2
          go_frame
          refine hK.out _ _ trivial (fun hHeld => ?_)
          clear hK K
          refine wpAnyH_done (by kernel_rfl) ?_ _
          clear hHeld
          have F8 : Hid (w8.heap[g6]? = some (.cells [nV 0, v7, (.slice (some ⟨gO, 0, none⟩) 1 1), nV 0].toArray 26 (0, 0))) := F8.out
          have O8 := Lib.hid (AO.out.kept Q8.out (.inr NE7.out.2))
          have FO8 := Lib.hid (row_far (row_far (row_below FO.out BC.out) AG.out (fun e => by have e3 : gI = gO := Option.some.inj e; have := GL.out; omega)) Q8.out (fun e => by have := Option.some.inj e; have := GL.out; omega))
          have B8 := Lib.hid (((B.out.trans (BC.out.mono B.out.size)).grown AG.out (Nat.le_trans B.out.size BC.out.size) (fun k hk => by cases hk; exact GL.out.1)).grown Q8.out (Nat.le_trans (Nat.le_trans B.out.size BC.out.size) AG.out.size) (fun k hk => by cases hk; have := GL.out; omega))
          have I8 : Hid (InsOwn gI w8 v7 [bdN 0, bdN 0] [.slice none 0 0, .slice none 0 0]) := ⟨rfl, O8.out, fun x hx => by simp only [List.mem_cons, List.not_mem_nil, or_false] at hx; rcases hx with rfl | rfl <;> exact bdN_ok 0 (by omega), fun i x kv hx hkv => by
            have e : kv = .slice none 0 0 := by have := List.mem_of_getElem? hkv; simp only [List.mem_cons, List.not_mem_nil, or_false, or_self] at this; exact this
            have e2 : x = bdN 0 := by have := List.mem_of_getElem? hx; simp only [List.mem_cons, List.not_mem_nil, or_false, or_self] at this; exact this
            subst e e2
            exact ⟨nil_key _, fun q _ => nil_off _, nil_off _⟩⟩
          have TA8 : Hid (TxAt w8 (.agg [nV 0, v7, (.slice (some ⟨gO, 0, none⟩) 1 1), nV 0].toArray) bd4) := ⟨⟨Nat.zero_le _, Nat.zero_le _⟩, _, _, rfl, I8.out.at, outsAt_one FO8.out bdY_ok⟩
          clear I8 FO8 O8 AO AG Q8 NE7 NF GN BC BD0 F6 FI FO B G6S
          go_upto_region 32 with fail
          obtain ⟨cc, hcc⟩ : ∃ cc, cc = 6 := ⟨_, rfl⟩
          have HC : Hid (cc = checkC (bd4)) := by show _ = _; rw [hcc, bd4_check]; try rfl
          have HI : Hid (true = (numE cc == (106 : Int))) := by show _ = _; rw [hcc]; rfl
          have HN : Hid (cc ≤ 25) := by show _ ≤ _; omega
          have TA := Lib.hid (TA8.out)
          have FZ := Lib.hid (F8.out)
          have BZ := Lib.hid (B8.out)
          clear hcc
          go_wp2_with ((with_reducible show wpList _ _ _ _ _ _); (refine wpList_load_rowG 26 (.tmp 6) rfl g6 rfl 26 ([nV 0, v7, (.slice (some ⟨gO, 0, none⟩) 1 1), nV 0]).toArray (0, 0) _ FZ.out Tryd.underlying26 rfl (by kernel_rfl) rfl ?_; go_frame))
          refine (check_all E (bd4) _ _ cc HC.out (HE.out.below BZ.out).e8 TA.out (bd4_small)).mono ?_
          rintro e n1 ⟨rfl, hx⟩
          have BZ := Lib.hid (BZ.out.trans (hx.mono BZ.out.size))
          clear hx
          go_wp2_with fail
          refine (is_any E cc 106 true HI.out n1 (HE.out.below BZ.out) HN.out).mono ?_
          rintro e n2 ⟨rfl, hx⟩
          have BZ := Lib.hid (BZ.out.trans (hx.mono BZ.out.size))
          clear hx
          go_wp2_with fail
          go_ret
          exact ⟨rfl, BZ.out⟩
        · rw [if_pos (by rfl)]
          refine wp_slice_one 23 54 (.tmp 29) rfl (inL (bdN 0) (.slice none 0 0)) rfl Tryd.underlying23 i0 _ hi hz0 (by rw [hz1, LX.out]) (by rw [LX.out]; omega) (by rw [LX.out]; omega) ?_
          have nf := heap_alloc_new wc (.cells (inL (bdN 0) (.slice none 0 0)).toArray 54 (0, 0))
          have bb := (Below.refl wc.heap.size wc).alloc (Nat.le_refl _) (.cells (inL (bdN 0) (.slice none 0 0)).toArray 54 (0, 0))
          obtain ⟨gn, hgn⟩ : ∃ gn, gn = wc.heap.size := ⟨_, rfl⟩
          generalize hwn : World.alloc _ _ = wn
          have en : wc.alloc (.cells (inL (bdN 0) (.slice none 0 0)).toArray 54 (0, 0)) = wn := hwn
          rw [en] at nf bb
          rw [← hgn] at nf ⊢
          have NF := Lib.hid nf
          have GN : Hid (g6 < gn) := by show _ < _; rw [hgn]; exact Nat.lt_of_lt_of_le G6S.out BC.out.size
          have BC := Lib.hid (BC.out.trans (bb.mono BC.out.size))
          clear nf bb hwn en hgn
          go_frame
          refine hK.out _ _ trivial (fun hHeld => ?_)
          clear hK K
          refine wpAnyH_ready (rs := [1]) (by kernel_rfl) (by simp) (held_cons rfl (fun K hK => ?_) AllReadyH.nil)
          rw [if_pos (by rfl)]
          refine wp_load_cell 23 (.tmp 24) rfl g6 1 rfl (.slice (some ⟨gI, 0, none⟩) 1 1) _ (by rw [cell_of_row _ _ _ _ _ _ (row_below F6.out BC.out)]; rfl) Tryd.underlying23 rfl ?_
          go_frame
          refine hK.out _ _ trivial (fun hHeld => ?_)
          clear hK K
          refine wpAnyH_ready (rs := [7]) (by kernel_rfl) (by simp) (held_cons rfl (fun K hK => ?_) AllReadyH.nil)
          rw [if_pos (by rfl)]
          refine wp_append_row wn (.tmp 25) (.tmp 30) 23 rfl gI 54 i0 (.agg (List.replicate 32 (bV 0) ++ [nV 0, .slice none 0 0, nV 0]).toArray) 35 72 Tryd.underlying23 hi hz0 hz1 hz2 (by kernel_rfl) (by decide) (.slice (some ⟨gI, 0, none⟩) 1 1) 1 (inL (bdN 0) (.slice none 0 0)) rfl (own_of_row (row_below FI.out BC.out) (Nat.le_refl _) rfl (by decide)) ⟨gn, 0, none⟩ 1 1 (inL (bdN 0) (.slice none 0 0)) rfl (by rw [LX.out]) (fun j u hj => by rw [Addr.add_mid]; exact range_of_box NF.out j u hj) (in_mem_one (bdN 0) _ rfl) (by unfold maxLen; omega) (by omega) (by have := GL.out; have := G6S.out; have := BC.out.size; omega) ?_
          intro v7 w7 ao ag at'
          have AO := Lib.hid ao
          have AG := Lib.hid ag
          have NE7 : Hid (v7.ownBlock ≠ some gO ∧ v7.ownBlock ≠ some g6) := by
            have h1 := GL.out
            have h2 := G6S.out
            have h3 := BC.out.size
            constructor
            · intro e
              rcases at' with e2 | e2
              · rw [e2] at e; have e3 : gI = gO := Option.some.inj e; omega
              · rw [e2] at e; have e3 := Option.some.inj e; omega
            · intro e
              rcases at' with e2 | e2
              · rw [e2] at e; have e3 : gI = g6 := Option.some.inj e; omega
              · rw [e2] at e; have e3 := Option.some.inj e; omega
          clear ao ag at'
          go_frame
          refine hK.out _ _ trivial (fun hHeld => ?_)
          clear hK K
          refine held_take (i := 8) (v := (.pointer (some ⟨g6, 1, none⟩))) rfl (by kernel_rfl) (by kernel_rfl) (by kernel_rfl) (fun _ _ _ h => h) (Or.inl ⟨by rfl, fun w' _ => by kernel_rfl⟩) hHeld ?_
          go_frame
          refine wpAnyH_ready (rs := [9]) (by kernel_rfl) (by simp) (held_cons rfl (fun K hK => ?_) AllReadyH.nil)
          rw [if_pos (by rfl)]
          refine wp_store_part 23 (.tmp 32) (.tmp 31) rfl g6 1 [nV 0] [(.slice (some ⟨gI, 0, none⟩) 1 1)] [(.slice (some ⟨gO, 0, none⟩) 1 1), nV 0] [v7] 26 v7 rfl rfl (cells_one (own_one AO.out)) rfl rfl (row_far (row_below F6.out BC.out) AG.out (fun e => by have e3 : gI = g6 := Option.some.inj e; have := GL.out; omega)) (by kernel_rfl) (one_mem (own_one AO.out)) ?_
          intro w8 q1 q2
          have F8 := Lib.hid q1
          have Q8 := Lib.hid q2
          clear q1 q2
          go_frame
          refine hK.out _ _ trivial (fun hHeld => ?_)
          clear hK K
          refine wpAnyH_done (by kernel_rfl) ?_ _
          clear hHeld
          have F8 : Hid (w8.heap[g6]? = some (.cells [nV 0, v7, (.slice (some ⟨gO, 0, none⟩) 1 1), nV 0].toArray 26 (0, 0))) := F8.out
          have O8 := Lib.hid (AO.out.kept Q8.out (.inr NE7.out.2))
          have FO8 := Lib.hid (row_far (row_far (row_below FO.out BC.out) AG.out (fun e => by have e3 : gI = gO := Option.some.inj e; have := GL.out; omega)) Q8.out (fun e => by have := Option.some.inj e; have := GL.out; omega))
          have B8 := Lib.hid (((B.out.trans (BC.out.mono B.out.size)).grown AG.out (Nat.le_trans B.out.size BC.out.size) (fun k hk => by cases hk; exact GL.out.1)).grown Q8.out (Nat.le_trans (Nat.le_trans B.out.size BC.out.size) AG.out.size) (fun k hk => by cases hk; have := GL.out; omega))
          have I8 : Hid (InsOwn gI w8 v7 [bdN 0, bdN 0] [.slice none 0 0, .slice none 0 0]) := ⟨rfl, O8.out, fun x hx => by simp only [List.mem_cons, List.not_mem_nil, or_false] at hx; rcases hx with rfl | rfl <;> exact bdN_ok 0 (by omega), fun i x kv hx hkv => by
            have e : kv = .slice none 0 0 := by have := List.mem_of_getElem? hkv; simp only [List.mem_cons, List.not_mem_nil, or_false, or_self] at this; exact this
            have e2 : x = bdN 0 := by have := List.mem_of_getElem? hx; simp only [List.mem_cons, List.not_mem_nil, or_false, or_self] at this; exact this
            subst e e2
            exact ⟨nil_key _, fun q _ => nil_off _, nil_off _⟩⟩
          have TA8 : Hid (TxAt w8 (.agg [nV 0, v7, (.slice (some ⟨gO, 0, none⟩) 1 1), nV 0].toArray) bd4) := ⟨⟨Nat.zero_le _, Nat.zero_le _⟩, _, _, rfl, I8.out.at, outsAt_one FO8.out bdY_ok⟩
          clear I8 FO8 O8 AO AG Q8 NE7 NF GN BC BD0 F6 FI FO B G6S
          go_upto_region 32 with fail
          obtain ⟨cc, hcc⟩ : ∃ cc, cc = 6 := ⟨_, rfl⟩
          have HC : Hid (cc = checkC (bd4)) := by show _ = _; rw [hcc, bd4_check]; try rfl
          have HI : Hid (true = (numE cc == (106 : Int))) := by show _ = _; rw [hcc]; rfl
          have HN : Hid (cc ≤ 25) := by show _ ≤ _; omega
          have TA := Lib.hid (TA8.out)
          have FZ := Lib.hid (F8.out)
          have BZ := Lib.hid (B8.out)
          clear hcc
          go_wp2_with ((with_reducible show wpList _ _ _ _ _ _); (refine wpList_load_rowG 26 (.tmp 6) rfl g6 rfl 26 ([nV 0, v7, (.slice (some ⟨gO, 0, none⟩) 1 1), nV 0]).toArray (0, 0) _ FZ.out Tryd.underlying26 rfl (by kernel_rfl) rfl ?_; go_frame))
          refine (check_all E (bd4) _ _ cc HC.out (HE.out.below BZ.out).e8 TA.out (bd4_small)).mono ?_
          rintro e n1 ⟨rfl, hx⟩
          have BZ := Lib.hid (BZ.out.trans (hx.mono BZ.out.size))
          clear hx
          go_wp2_with fail
          refine (is_any E cc 106 true HI.out n1 (HE.out.below BZ.out) HN.out).mono ?_
          rintro e n2 ⟨rfl, hx⟩
          have BZ := Lib.hid (BZ.out.trans (hx.mono BZ.out.size))
          clear hx
          go_wp2_with fail
          go_ret
          exact ⟨rfl, BZ.out⟩
end Go.Proofs.YtkabpbclmhmgfaaDoor.Sha
