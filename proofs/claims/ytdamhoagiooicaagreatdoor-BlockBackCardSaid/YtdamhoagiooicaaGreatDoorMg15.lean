/-
  Texts of this proof joined into one file: TxBoundsWalk, Hs, MkConcat, MkJoin, MkMath, MkSmall, MkHs, MkRow0, MkRow, MkRoot, MkPath0, HsCopy. What each holds, and under which conditions, its own first sentence tells.
-/
import Derived.Deep.OwnRows
import Derived.Lib.AppendZerosOnto
import Derived.Lib.Walk
import Derived.Deep.Light
import Derived.IntWalk
import Derived.Maps.AppendAt
import Derived.Test.YtdamhoagiooicaaGreatDoorMg14
import Derived.Test.YtdamhoagiooicaaGreatDoorMg06
import Derived.Test.YtdamhoagiooicaaGreatDoorMg09
import Derived.Test.YtdamhoagiooicaaGreatDoorMg13
import Derived.Test.YtdamhoagiooicaaGreatDoorMg01
/-
  The statement on how many inputs and outputs, how long a key, how great an amount a transaction may have answers true. Condition: the errors are there.
-/
namespace Go.Proofs.YtdamhoagiooicaaGreatDoor.Sha
open Go Go.RowKit
def bdN (i : Nat) : TIn := ⟨zH, i + 1, [], 0⟩
def bdI (k : Nat) : List TIn := (List.range k).map bdN
def bdY : TOut := ⟨0, zH⟩
def bdO (k : Nat) : List TOut := List.replicate k bdY
def bd0 (r : Nat) : TTx := ⟨0, bdI (49 + r), bdO 1, 0⟩
def bd1 (r : Nat) : TTx := ⟨0, bdI 1, bdO (49 + r), 0⟩
def bdK (r : Nat) : TIn := ⟨zH, 1, List.replicate (79 + r) 0, 0⟩
def bd2 (r : Nat) : TTx := ⟨0, [bdK r], bdO 1, 0⟩
def bdV (r : Nat) : TOut := ⟨2099999999999999 + r, zH⟩
def bd3 (r : Nat) : TTx := ⟨0, bdI 1, [bdV r], 0⟩
def bd4 : TTx := ⟨0, [bdN 0, bdN 0], bdO 1, 0⟩
set_option maxRecDepth 100000 in
theorem bd0_check : ∀ r, r < 4 → checkC (bd0 r) = if r < 2 then 0 else 4 := by decide +kernel
set_option maxRecDepth 100000 in
theorem bd1_check : ∀ r, r < 4 → checkC (bd1 r) = if r < 2 then 0 else 4 := by decide +kernel
set_option maxRecDepth 100000 in
theorem bd2_check : ∀ r, r < 4 → checkC (bd2 r) = if r < 2 then 0 else 14 := by decide +kernel
set_option maxRecDepth 100000 in
theorem bd3_check : ∀ r, r < 4 → checkC (bd3 r) = if r < 2 then 0 else 5 := by decide +kernel
theorem bd4_check : checkC bd4 = 6 := by decide +kernel
theorem bdN_ok (i : Nat) (h : i < 100) : InOk (bdN i) := ⟨rfl, by show i + 1 ≤ _; omega, Nat.zero_le _⟩
theorem bdI_succ (k : Nat) : bdI (k + 1) = bdI k ++ [bdN k] := by simp [bdI, List.range_succ]
theorem bdO_succ (k : Nat) : bdO (k + 1) = bdO k ++ [bdY] := by simp [bdO, List.replicate_succ']
theorem bdI_length (k : Nat) : (bdI k).length = k := by simp [bdI]
theorem bdO_length (k : Nat) : (bdO k).length = k := by simp [bdO]
theorem bdI_ok (k : Nat) (h : k < 100) : InsOk (bdI k) := fun x hx => by
  obtain ⟨i, hi, rfl⟩ := List.mem_map.1 hx
  exact bdN_ok i (by have := List.mem_range.1 hi; omega)
theorem bdY_ok : OutOk bdY := ⟨rfl, Nat.zero_le _⟩
theorem bdO_ok (k : Nat) : OutsOk (bdO k) := fun x hx => by rw [(List.mem_replicate.1 hx).2]; exact bdY_ok
theorem bd_small {l : List TIn} {m : List TOut} (h1 : InsOk l) (h2 : l.length ≤ 60) (h3 : KeysLe l 90) (h4 : OutsOk m) (h5 : m.length ≤ 60) : TxSmall ⟨0, l, m, 0⟩ :=
  ⟨⟨⟨Nat.zero_le _, Nat.zero_le _⟩, h1, h4, fun x hx => Nat.le_trans (h3 x hx) (by omega), by show l.length ≤ _; omega, by show m.length ≤ _; omega⟩, by show l.length ≤ _; omega, by show m.length ≤ _; omega, fun x hx => Nat.le_trans (h3 x hx) (by omega)⟩
theorem bdI_keys (k : Nat) : KeysLe (bdI k) 90 := fun x hx => by
  obtain ⟨i, _, rfl⟩ := List.mem_map.1 hx
  exact Nat.zero_le _
theorem bd0_small (r : Nat) (h : r < 4) : TxSmall (bd0 r) := bd_small (bdI_ok _ (by omega)) (by rw [bdI_length]; omega) (bdI_keys _) (bdO_ok _) (by rw [bdO_length]; omega)
theorem bd1_small (r : Nat) (h : r < 4) : TxSmall (bd1 r) := bd_small (bdI_ok _ (by omega)) (by rw [bdI_length]; omega) (bdI_keys _) (bdO_ok _) (by rw [bdO_length]; omega)
theorem bdK_ok (r : Nat) : InOk (bdK r) := ⟨rfl, by show 1 ≤ _; omega, Nat.zero_le _⟩
theorem bd2_small (r : Nat) (h : r < 4) : TxSmall (bd2 r) := bd_small (fun x hx => by rw [List.mem_singleton.1 hx]; exact bdK_ok r) (by simp) (fun x hx => by rw [List.mem_singleton.1 hx]; simp [bdK]; omega) (bdO_ok _) (by rw [bdO_length]; omega)
theorem bdV_ok (r : Nat) (h : r < 4) : OutOk (bdV r) := ⟨rfl, by show 2099999999999999 + r ≤ _; omega⟩
theorem bd3_small (r : Nat) (h : r < 4) : TxSmall (bd3 r) := bd_small (bdI_ok _ (by omega)) (by rw [bdI_length]; omega) (bdI_keys _) (fun x hx => by rw [List.mem_singleton.1 hx]; exact bdV_ok r h) (by simp)
theorem bd4_small : TxSmall bd4 := bd_small (fun x hx => by simp only [List.mem_cons, List.not_mem_nil, or_false] at hx; rcases hx with rfl | rfl <;> exact bdN_ok 0 (by omega)) (by simp) (fun x hx => by simp only [List.mem_cons, List.not_mem_nil, or_false] at hx; rcases hx with rfl | rfl <;> exact Nat.zero_le _) (bdO_ok _) (by rw [bdO_length]; omega)
/-- A row that lies in memory by itself is one's own. -/
theorem own_of_row {w : World} {base g n size : Nat} {e : TypeId} {xs : List Value} (h : w.heap[g]? = some (.cells xs.toArray e (0, 0))) (hb : base ≤ g) (hl : xs.length = n * size) (hn : n ≤ maxLen) : w.ownsRow base e size (.slice (some ⟨g, 0, none⟩) n n) n xs :=
  ⟨hl, .inr ⟨g, n, xs.toArray, rfl, hb, h, Nat.le_refl _, hn, by simpa using hl, by rw [List.toList_toArray, ← hl, List.take_length]⟩⟩
theorem nil_off (q : Option Nat) : Off (.slice none 0 0) q := fun sp n cap hv => by cases hv
/-- While inputs, or outputs, are appended. -/
def BdAt (w : World) (gI gO g6 k m : Nat) (iv ov : Value) (wr : World) : Prop :=
  InsOwn gI wr iv (bdI k) (List.replicate k (.slice none 0 0)) ∧ OutsOwn gI wr ov (bdO m) ∧ (∀ g, iv.ownBlock = some g → g = gI ∨ g6 < g) ∧ (∀ g, ov.ownBlock = some g → g = gO ∨ g6 < g) ∧ iv.ownBlock ≠ ov.ownBlock
    ∧ wr.heap[g6]? = some (.cells [nV 0, iv, ov, nV 0].toArray 66 (0, 0)) ∧ Below w.heap.size w wr ∧ g6 < wr.heap.size
def BdIn (n : Nat) (w : World) (gI gO g6 : Nat) (vi : Value) (wr : World) : Prop := ∃ (k : Nat) (iv : Value), k ≤ n ∧ 1 ≤ k ∧ vi = .int .i64 k ∧ BdAt w gI gO g6 k 1 iv (.slice (some ⟨gO, 0, none⟩) 1 1) wr
def BdOut (n : Nat) (w : World) (gI gO g6 : Nat) (vi : Value) (wr : World) : Prop := ∃ (k : Nat) (ov : Value), k ≤ n ∧ 1 ≤ k ∧ vi = .int .i64 k ∧ BdAt w gI gO g6 1 k (.slice (some ⟨gI, 0, none⟩) 1 1) ov wr
theorem BdAt.tx {w wr : World} {gI gO g6 k m : Nat} {iv ov : Value} (h : BdAt w gI gO g6 k m iv ov wr) : TxAt wr (.agg [nV 0, iv, ov, nV 0].toArray) ⟨0, bdI k, bdO m, 0⟩ := ⟨⟨Nat.zero_le _, Nat.zero_le _⟩, iv, ov, rfl, h.1.at, h.2.1.at⟩
/-- One more input. -/
theorem BdAt.addI {w wr wn w1 w2 : World} {gI gO g6 k : Nat} {iv ov v2 : Value} (h : BdAt w gI gO g6 k 1 iv ov wr) (hlow : w.heap.size ≤ gI) (hg : gI < g6) (hk : k < 90) (hb : Below wr.heap.size wr wn) (ao : w1.ownsRow gI 70 35 v2 (k + 1) (insL (bdI k) (List.replicate k (.slice none 0 0)) ++ inL (bdN k) (.slice none 0 0))) (ag : wn.grownBy w1 iv.ownBlock)
    (at' : v2.ownBlock = iv.ownBlock ∨ v2.ownBlock = some wn.heap.size) (f : w2.heap[g6]? = some (.cells [nV 0, v2, ov, nV 0].toArray 66 (0, 0))) (q2 : w1.grownBy w2 (some g6)) (hov : ov.ownBlock = some gO) (hgo : gO < g6) (hgo2 : gI ≤ gO) : BdAt w gI gO g6 (k + 1) 1 v2 ov w2 := by
  obtain ⟨h1, h2, h3, h4, h5, h6, h7, h8⟩ := h
  have sz := hb.size
  have h1' := h1.keep hb
  have e : (bdI k).length = k := bdI_length k
  have p1 := h1'.push (bdN_ok k (by omega)) (nil_key _) (fun q _ => nil_off _) (nil_off _) (by rw [e]; exact ao) ag at'
  rw [← bdI_succ, show List.replicate k (Value.slice none 0 0) ++ [.slice none 0 0] = List.replicate (k + 1) (.slice none 0 0) by rw [List.replicate_succ']] at p1
  have lt := h1'.2.1.lt
  have hv2 : ∀ g, v2.ownBlock = some g → g = gI ∨ g6 < g := fun g hgg => by
    rcases at' with e1 | e1
    · exact h3 g (by rw [← e1]; exact hgg)
    · rw [e1] at hgg; have := Option.some.inj hgg; omega
  have n6 : v2.ownBlock ≠ some g6 := fun e1 => by have := hv2 g6 e1; omega
  have no : v2.ownBlock ≠ ov.ownBlock := fun e1 => by
    rcases at' with e2 | e2
    · exact h5 (by rw [← e2]; exact e1)
    · rw [e2, hov] at e1; have := Option.some.inj e1; omega
  refine ⟨⟨p1.1, p1.2.1.kept q2 (.inr n6), p1.2.2.1, fun i x kv hx hkv => ⟨(p1.2.2.2 i x kv hx hkv).1.off ?_ q2, (p1.2.2.2 i x kv hx hkv).2⟩⟩, ?_, hv2, h4, no, f, ?_, ?_⟩
  · have : kv = .slice none 0 0 := (List.mem_replicate.1 (List.mem_of_getElem? hkv)).2
    rw [this]
    exact nil_off _
  · exact ((h2.keep hb).kept ag (.inr (fun e1 => h5 e1.symm))).kept q2 (.inr (by rw [hov]; intro e1; have := Option.some.inj e1; omega))
  · refine ((h7.trans (hb.mono h7.size)).grown ag (Nat.le_trans h7.size sz) (fun q hq => ?_)).grown q2 (Nat.le_trans (Nat.le_trans h7.size sz) ag.size) (fun q hq => by cases hq; omega)
    have := (lt q hq).1
    omega
  · exact Nat.lt_of_lt_of_le (Nat.lt_of_lt_of_le h8 sz) (Nat.le_trans ag.size q2.size)
/-- One more output. -/
theorem BdAt.addO {w wr wn w1 w2 : World} {gI gO g6 k : Nat} {iv ov v2 : Value} (h : BdAt w gI gO g6 1 k iv ov wr) (hlow : w.heap.size ≤ gI) (hg : gI < g6) (hgo : gO < g6) (hb : Below wr.heap.size wr wn) (ao : w1.ownsRow gI 111 33 v2 (k + 1) (outsL (bdO k) ++ outL bdY)) (ag : wn.grownBy w1 ov.ownBlock)
    (at' : v2.ownBlock = ov.ownBlock ∨ v2.ownBlock = some wn.heap.size) (f : w2.heap[g6]? = some (.cells [nV 0, iv, v2, nV 0].toArray 66 (0, 0))) (q2 : w1.grownBy w2 (some g6)) (hiv : iv.ownBlock = some gI) : BdAt w gI gO g6 1 (k + 1) iv v2 w2 := by
  obtain ⟨h1, h2, h3, h4, h5, h6, h7, h8⟩ := h
  have sz := hb.size
  have h2' := h2.keep hb
  have e : (bdO k).length = k := bdO_length k
  have p1 := h2'.push bdY_ok (by rw [e]; exact ao)
  rw [← bdO_succ] at p1
  have lt := h2'.1.lt
  have hv2 : ∀ g, v2.ownBlock = some g → g = gO ∨ g6 < g := fun g hgg => by
    rcases at' with e1 | e1
    · exact h4 g (by rw [← e1]; exact hgg)
    · rw [e1] at hgg; have := Option.some.inj hgg; omega
  have n6 : v2.ownBlock ≠ some g6 := fun e1 => by have := hv2 g6 e1; omega
  have no : iv.ownBlock ≠ v2.ownBlock := fun e1 => by
    rcases at' with e2 | e2
    · exact h5 (by rw [← e2]; exact e1)
    · rw [e2, hiv] at e1; have := Option.some.inj e1; omega
  have k1 : InsOwn gI wn iv (bdI 1) (List.replicate 1 (.slice none 0 0)) := h1.keep hb
  have hk : ∀ (i : Nat) kv, (List.replicate 1 (Value.slice none 0 0))[i]? = some kv → kv = .slice none 0 0 := fun i kv hkv => (List.mem_replicate.1 (List.mem_of_getElem? hkv)).2
  have k2 : InsOwn gI w1 iv (bdI 1) (List.replicate 1 (.slice none 0 0)) := ⟨k1.1, k1.2.1.kept ag (.inr h5), k1.2.2.1, fun i x kv hx hkv => ⟨(k1.2.2.2 i x kv hx hkv).1.off (by rw [hk i kv hkv]; exact nil_off _) ag, (k1.2.2.2 i x kv hx hkv).2⟩⟩
  refine ⟨⟨k2.1, k2.2.1.kept q2 (.inr (by rw [hiv]; intro e1; have := Option.some.inj e1; omega)), k2.2.2.1, fun i x kv hx hkv => ⟨(k2.2.2.2 i x kv hx hkv).1.off (by rw [hk i kv hkv]; exact nil_off _) q2, (k2.2.2.2 i x kv hx hkv).2⟩⟩, p1.kept q2 (.inr n6), h3, hv2, no, f, ?_, ?_⟩
  · refine ((h7.trans (hb.mono h7.size)).grown ag (Nat.le_trans h7.size sz) (fun q hq => ?_)).grown q2 (Nat.le_trans (Nat.le_trans h7.size sz) ag.size) (fun q hq => by cases hq; omega)
    have := (lt q hq).1
    omega
  · exact Nat.lt_of_lt_of_le (Nat.lt_of_lt_of_le h8 sz) (Nat.le_trans ag.size q2.size)
end Go.Proofs.YtdamhoagiooicaaGreatDoor.Sha

/-
  Rows of digests: a slice that reads as a list of digests (32 cells each), a row of one's own that grows. No conditions beyond those that each states.
-/
namespace Go.Proofs.YtdamhoagiooicaaGreatDoor.Sha
open Go Go.RowKit
theorem info_hash : (Tryz.prog.info? 24).map (fun i => (i.zero, i.size, i.bytes)) = some (some (.agg (List.replicate 32 (bV 0)).toArray), 32, 32) := by kernel_rfl
/-- Digests of 32 bytes each. -/
def HsOk (l : List (List UInt8)) : Prop := ∀ x ∈ l, x.length = 32
theorem HsOk.get {l : List (List UInt8)} (h : HsOk l) {i : Nat} (hi : i < l.length) : (l.getD i []).length = 32 := by
  rw [List.getD_eq_getElem?_getD, List.getElem?_eq_getElem hi]
  exact h _ (List.getElem_mem _)
theorem HsOk.snoc {l : List (List UInt8)} (h : HsOk l) {x : List UInt8} (hx : x.length = 32) : HsOk (l ++ [x]) := fun y hy => by
  rcases List.mem_append.1 hy with hy | hy
  · exact h y hy
  · rw [List.mem_singleton.1 hy]; exact hx
/-- Their cells. -/
def hsL (l : List (List UInt8)) : List Value := l.flatMap fun x => x.map bV
theorem hsL_snoc (l : List (List UInt8)) (x : List UInt8) : hsL (l ++ [x]) = hsL l ++ x.map bV := by simp [hsL, List.flatMap_append]
theorem hsL_length : ∀ (l : List (List UInt8)), HsOk l → (hsL l).length = l.length * 32
  | [], _ => rfl
  | y :: l, ho => by
    have ih := hsL_length l (fun z hz => ho z (List.mem_cons_of_mem _ hz))
    have hy := ho y List.mem_cons_self
    simp only [hsL] at ih
    simp only [hsL, List.flatMap_cons, List.length_append, List.length_map, ih, hy, List.length_cons]
    omega
theorem hsL_get : ∀ (l : List (List UInt8)) (i : Nat) (y : List UInt8), HsOk l → l[i]? = some y → ∀ j, j < 32 → (hsL l)[i * 32 + j]? = (y.map bV)[j]?
  | z :: l, 0, y, ho, hy, j, hj => by
    simp only [List.getElem?_cons_zero, Option.some.injEq] at hy
    subst hy
    rw [Nat.zero_mul, Nat.zero_add, hsL, List.flatMap_cons, List.getElem?_append_left (by rw [List.length_map, ho z List.mem_cons_self]; exact hj)]
  | z :: l, i + 1, y, ho, hy, j, hj => by
    have e : (z.map bV).length = 32 := by rw [List.length_map, ho z List.mem_cons_self]
    rw [hsL, List.flatMap_cons, List.getElem?_append_right (by omega), e, show (i + 1) * 32 + j - 32 = i * 32 + j by omega]
    exact hsL_get l i y (fun z hz => ho z (List.mem_cons_of_mem _ hz)) (by simpa using hy) j hj
  | [], _, _, _, hy, _, _ => by simp at hy
/-- The slice v reads as these digests. -/
def HsAt (w : World) (v : Value) (l : List (List UInt8)) : Prop :=
  HsOk l ∧ ∃ sp cap, v = .slice sp l.length cap ∧ l.length ≤ cap ∧ (0 < l.length → ∃ b o, sp = some ⟨b, o, none⟩ ∧ ∀ i x, l[i]? = some x → w.rangeAt b (o + i * 32) (x.map bV))
theorem HsAt.below {w w' : World} {v : Value} {l : List (List UInt8)} (h : HsAt w v l) (hb : Below w.heap.size w w') : HsAt w' v l := by
  obtain ⟨h0, sp, cap, h1, h2, h3⟩ := h
  refine ⟨h0, sp, cap, h1, h2, fun h0 => ?_⟩
  obtain ⟨b, o, h4, h5⟩ := h3 h0
  exact ⟨b, o, h4, fun i x hx => range_below (h5 i x hx) hb⟩
theorem HsAt.nil (w : World) (sp : Option Addr) (cap : Nat) : HsAt w (.slice sp 0 cap) [] := ⟨fun x hx => by simp at hx, sp, cap, rfl, by simp, fun h => by simp at h⟩
theorem HsAt.len {w : World} {sp : Option Addr} {n cap : Nat} {l : List (List UInt8)} (h : HsAt w (.slice sp n cap) l) : n = l.length ∧ n ≤ cap := by
  obtain ⟨_, sp', cap', hv, hc, _⟩ := h
  cases hv
  exact ⟨rfl, hc⟩
/-- Where one of them lies. -/
theorem HsAt.get {w : World} {sp : Option Addr} {n cap : Nat} {l : List (List UInt8)} (h : HsAt w (.slice sp n cap) l) (h0 : 0 < n) : ∃ b o, sp = some ⟨b, o, none⟩ ∧ b < w.heap.size ∧ ∀ i, i < n → w.rangeAt b (o + i * 32) ((l.getD i []).map bV) := by
  obtain ⟨ho, sp', cap', hv, hc, hr⟩ := h
  cases hv
  obtain ⟨b, o, hs, hx⟩ := hr h0
  have hg : ∀ i, i < l.length → w.rangeAt b (o + i * 32) ((l.getD i []).map bV) := fun i hi => hx i _ (by rw [List.getD_eq_getElem?_getD, List.getElem?_eq_getElem hi]; rfl)
  refine ⟨b, o, hs, ?_, hg⟩
  obtain ⟨x, hx0⟩ : ∃ x, (l.getD 0 [])[0]? = some x := ⟨_, List.getElem?_eq_getElem (by rw [HsOk.get ho h0]; omega)⟩
  exact World.block_lt_of_cell? w _ (hg 0 h0 0 (bV x) (by rw [List.getElem?_map, hx0]; rfl))
/-- A row of digests of one's own. -/
def HsOwn (base : Nat) (w : World) (v : Value) (l : List (List UInt8)) : Prop := w.ownsRow base 24 32 v l.length (hsL l) ∧ HsOk l
theorem HsOwn.nil (base : Nat) (w : World) : HsOwn base w (.slice none 0 0) [] := ⟨World.ownsRow_nil _ _ _ _, fun _ h => absurd h (by simp)⟩
section
variable {base : Nat} {w w' : World} {v v' : Value} {l : List (List UInt8)}
theorem HsOwn.keep (h : HsOwn base w v l) (hb : Below w.heap.size w w') : HsOwn base w' v l := ⟨own_kept h.1 hb, h.2⟩
theorem HsOwn.kept (h : HsOwn base w v l) {q : Option Nat} (hg : w.grownBy w' q) (hb : v.ownBlock = none ∨ v.ownBlock ≠ q) : HsOwn base w' v l := ⟨h.1.kept hg hb, h.2⟩
theorem HsOwn.push {x : List UInt8} (ho : HsOk l) (hx : x.length = 32) (hown : w'.ownsRow base 24 32 v' (l.length + 1) (hsL l ++ x.map bV)) : HsOwn base w' v' (l ++ [x]) := by
  refine ⟨?_, ho.snoc hx⟩
  rw [hsL_snoc, List.length_append]
  exact hown
/-- Such a row as a slice of digests. -/
theorem HsOwn.at (h : HsOwn base w v l) : HsAt w v l := by
  obtain ⟨h2, h3⟩ := h
  refine ⟨h3, ?_⟩
  rcases h2.2 with ⟨hv, h0⟩ | ⟨g, cap, cur, hv, hb, hc, hn, hm, hs, ht⟩
  · exact ⟨none, 0, by rw [hv, h0], by omega, fun h => by omega⟩
  · subst hv
    refine ⟨_, cap, rfl, hn, fun h0 => ⟨g, 0, rfl, fun i x hx => ?_⟩⟩
    have hi := (List.getElem?_eq_some_iff.1 hx).1
    have hxo := h3 x (List.mem_of_getElem? hx)
    intro j u hj
    have hj32 : j < 32 := by
      have := (List.getElem?_eq_some_iff.1 hj).1
      rwa [List.length_map, hxo] at this
    rw [Nat.zero_add, h2.cellAt (i * 32 + j) (by omega), hsL_get l i x h3 hx j hj32]
    exact hj
end
/-- A part of such a slice. -/
theorem HsAt.cut {w : World} {sp : Option Addr} {n cap : Nat} {l : List (List UInt8)} (h : HsAt w (.slice sp n cap) l) (i r : Nat) (h1 : i ≤ r) (h2 : r ≤ n) : HsAt w (sliced sp i r cap 32) ((l.take r).drop i) := by
  have hn := h.len
  have hok := h.1
  have hl : ((l.take r).drop i).length = r - i := by rw [List.length_drop, List.length_take]; omega
  refine ⟨fun x hx => hok x (List.mem_of_mem_take (List.mem_of_mem_drop hx)), if cap = i then sp else sp.map (·.add (i * 32)), cap - i, by rw [sliced, hl], by omega, fun h0 => ?_⟩
  obtain ⟨b, o, hs, _, _⟩ := h.get (by omega)
  obtain ⟨_, sp', cap', hv, hc, hr⟩ := h
  cases hv
  obtain ⟨b, o, hs, hx⟩ := hr (by omega)
  subst hs
  refine ⟨b, o + i * 32, by rw [if_neg (by omega)]; simp [Addr.add_mid], fun j x hj => ?_⟩
  have hj2 : j < r - i := by have := (List.getElem?_eq_some_iff.1 hj).1; omega
  rw [List.getElem?_drop, List.getElem?_take_of_lt (by omega)] at hj
  have := hx (i + j) x hj
  rwa [show o + (i + j) * 32 = o + i * 32 + j * 32 by omega] at this
/-- One digest in a row of its own. -/
theorem hs_one {w : World} {g : Nat} {x : List UInt8} {T : TypeId} (h : w.heap[g]? = some (.cells (x.map bV).toArray T (0, 0))) : ∀ j u, (x.map bV)[j]? = some u → w.cell? ((⟨g, 0, none⟩ : Addr).add j) = some u := fun j u hj => by
  rw [Addr.add_mid]
  exact range_of_box h j u hj
end Go.Proofs.YtdamhoagiooicaaGreatDoor.Sha

/-
  slices.Grow of nil, slices.Concat of two digests' bytes: new memory. Condition: the bytes lie where the slices say.
-/
namespace Go.Proofs.YtdamhoagiooicaaGreatDoor.Sha
open Go Go.RowKit
set_option maxHeartbeats 1000000 in
set_option maxRecDepth 100000 in
theorem grow_nil (n : Nat) (w : World) (h0 : 0 < n) (h1 : n ≤ 70368744177664) :
    Calls Tryz.prog 130 #[.slice none 0 0, .int .i64 n] w fun e w' => ∃ cap, n ≤ cap ∧ e = .returned (.slice (some ⟨w.heap.size, 0, none⟩) 0 cap) ∧ w'.ownsRow w.heap.size 5 1 (.slice (some ⟨w.heap.size, 0, none⟩) 0 cap) 0 [] ∧ Below w.heap.size w w' := by
  obtain ⟨i0, hi, hz0, hz1, hz2⟩ := info_parts info_u8
  have hneg : ¬ ((n : Int) < 0) := by omega
  have hpos : (n : Int) > 0 := by omega
  have hrz : ∀ ty, (Builtin.append_ #[30, 3] ty #[.slice none 0 0, .int .i64 n]).run Tryz.prog w =
      .ok (.slice (some ⟨w.heap.size, 0, none⟩) n (grownCap w n 0 5)) (w.drew.alloc (.cells (Builtin.zeroCells #[.int .u8 0] n ++ Builtin.zeroCells #[.int .u8 0] (grownCap w n 0 5 - n)) 5)) := fun ty => by
    have h := Lib.run_append_grow_zeros (P := Tryz.prog) w 30 3 ty 5 i0 (.int .u8 0) .i64 .i64 Tryz.underlying30 Tryz.underlying3 hi hz0 none 0 0 []
      (by rw [hz1]; exact run_firstCells_none w.drew 1 0 0 0) n h0 (by rw [hz1]; omega) (by omega) (by omega) (by rw [hz2]; omega) (by rw [Nat.zero_add]; exact growslice_fits (by omega) (by rw [hz2]; omega))
    simp only [Nat.zero_add] at h
    rw [h]
    simp [Value.cells]
  have hG := grownCap_ge w n 0 5
  have hG63 := grownCap_le_maxLen w n 0 5 (by unfold maxLen; omega)
  obtain ⟨G, hGe⟩ : ∃ G, G = grownCap w n 0 5 := ⟨_, rfl⟩
  rw [← hGe] at hrz hG hG63
  have hsz : (Builtin.zeroCells #[.int .u8 0] n ++ Builtin.zeroCells #[.int .u8 0] (G - n)).size = G := by
    simp [Builtin.zeroCells]
    omega
  obtain ⟨cs, hcs⟩ : ∃ cs, cs = Builtin.zeroCells #[.int .u8 0] n ++ Builtin.zeroCells #[.int .u8 0] (G - n) := ⟨_, rfl⟩
  rw [← hcs] at hrz hsz
  have HS := Lib.hid hsz
  have hG63' : (G : Int) ≤ 9223372036854775807 := by unfold maxLen at hG63; omega
  clear hGe hcs hsz
  go_enter Tryz.func130, Tryz.ntmps130
  go_wp2_with (at_builtin; refine Lib.wpList_append_run _ rfl _ _ _ _ rfl _ _ rfl rfl _ _ (hrz _) ?_)
  go_ret
  refine ⟨G, hG, rfl, ⟨rfl, .inr ⟨w.heap.size, G, cs, rfl, Nat.le_refl _, ?_, Nat.zero_le _, hG63, by rw [HS.out, Nat.mul_one], by simp⟩⟩, ?_⟩
  · exact heap_alloc_new w.drew _
  · exact (Below.drew (Below.refl _ _)).alloc (Nat.le_refl _) _
set_option maxHeartbeats 1000000 in
set_option maxRecDepth 100000 in
theorem concat_two (a b : List UInt8) (ha : a.length = 32) (hb : b.length = 32) (gs g1 g2 : Nat) (w : World) (h0 : w.cell? ⟨gs, 0, none⟩ = some (.slice (some ⟨g1, 0, none⟩) 32 32)) (h1 : w.cell? ⟨gs, 1, none⟩ = some (.slice (some ⟨g2, 0, none⟩) 32 32))
    (s1 : SrcB w (.slice (some ⟨g1, 0, none⟩) 32 32) a) (s2 : SrcB w (.slice (some ⟨g2, 0, none⟩) 32 32) b) :
    Calls Tryz.prog 104 #[.slice (some ⟨gs, 0, none⟩) 2 2] w fun e w' => ∃ v, e = .returned v ∧ SrcB w' v (a ++ b) ∧ Below w.heap.size w w' := by
  obtain ⟨i0, hi, hz0, hz1, hz2⟩ := info_parts info_u8
  have HA := Lib.hid ha
  have HB := Lib.hid hb
  have S1 := Lib.hid s1
  have S2 := Lib.hid s2
  have hlt := World.block_lt_of_cell? w _ h0
  simp only at hlt
  have H0 := Lib.hid h0
  have H1 := Lib.hid h1
  clear ha hb s1 s2
  go_enter Tryz.func104, Tryz.ntmps104
  go_wp2_with fail
  refine wp_loop_rounds 3 ?_
  rw [rounds_succ]
  go_wp2_with fail
  rw [rounds_succ]
  go_wp2_with fail
  rw [rounds_succ]
  go_wp2_with fail
  refine (grow_nil 64 w (by omega) (by omega)).mono ?_
  rintro e w1 ⟨cap, hcap, rfl, ho, hb1⟩
  have c0 : w1.cell? ⟨gs, 0, none⟩ = some (.slice (some ⟨g1, 0, none⟩) 32 32) := by rw [hb1.cell (p := ⟨gs, 0, none⟩) hlt]; exact h0
  have HO := Lib.hid ho
  have HB1 := Lib.hid hb1
  have S1' := Lib.hid (S1.out.below hb1)
  clear ho hb1 h0 h1
  go_wp2_with fail
  refine wp_loop_rounds 3 ?_
  rw [rounds_succ]
  go_wp2_with (at_builtin; refine wpList_append_src _ rfl _ _ 30 rfl w.heap.size 5 i0 Tryz.underlying30 hi hz1 w.heap.size 0 cap [] rfl HO.out _ a rfl S1'.out (by have := HA.out; omega) ?_; intro w2 q1 q2; have HO2 : Hid (w2.ownsRow w.heap.size 5 1 (.slice (some ⟨w.heap.size, 0, none⟩) 32 cap) 32 (a.map bV)) := (by have h := q1.out; rw [HA.out, Nat.zero_add, List.nil_append] at h; exact h); have G2 := Lib.hid q2.out; clear q1 q2; rw [HA.out, Nat.zero_add]; have c1 : w2.cell? ⟨gs, 1, none⟩ = some (.slice (some ⟨g2, 0, none⟩) 32 32) := (by rw [World.cell?_of_block (G2.out.block gs (Nat.lt_of_lt_of_le hlt HB1.out.size) (fun e => by have := Option.some.inj e; omega)), HB1.out.cell (p := ⟨gs, 1, none⟩) hlt]; exact H1.out); clear c0; go_frame)
  have B2 := Lib.hid (HB1.out.grown G2.out HB1.out.size (fun k hk => by cases hk; exact Nat.le_refl _))
  have S2' := Lib.hid (S2.out.below B2.out)
  rw [rounds_succ]
  go_wp2_with (at_builtin; refine wpList_append_src _ rfl _ _ 30 rfl w.heap.size 5 i0 Tryz.underlying30 hi hz1 w.heap.size 32 cap (a.map bV) rfl HO2.out _ b rfl S2'.out (by have := HB.out; omega) ?_; intro w3 q1 q2; have HO3 : Hid (w3.ownsRow w.heap.size 5 1 (.slice (some ⟨w.heap.size, 0, none⟩) 64 cap) 64 ((a ++ b).map bV)) := (by have h := q1.out; rw [HB.out] at h; rw [List.map_append]; exact h); have G3 := Lib.hid q2.out; clear q1 q2; rw [HB.out]; go_frame)
  have B3 := Lib.hid (B2.out.grown G3.out B2.out.size (fun k hk => by cases hk; exact Nat.le_refl _))
  rw [rounds_succ]
  go_wp2_with fail
  go_ret
  exact ⟨_, rfl, src_own HO3.out, B3.out⟩
end Go.Proofs.YtdamhoagiooicaaGreatDoor.Sha

/-
  Package merkle's join: the digest above two. Nothing that was there turns. Condition: the table is there.
-/
namespace Go.Proofs.YtdamhoagiooicaaGreatDoor.Sha
open Go Go.RowKit
/-- The digest above two. -/
def prH (a b : List UInt8) : List UInt8 := sha (sha (a ++ b))
theorem prH_length (a b : List UInt8) : (prH a b).length = 32 := sha_length _
/-- Two boxes and an empty one. -/
theorem boxes_two_zero (w : World) (x y z : Array Value) (T : TypeId) :
    Below w.heap.size w (((w.alloc (.cells x T (0, 0))).alloc (.cells y T (0, 0))).alloc (.cells z T (0, 0)))
    ∧ (((w.alloc (.cells x T (0, 0))).alloc (.cells y T (0, 0))).alloc (.cells z T (0, 0))).heap[w.heap.size]? = some (.cells x T (0, 0))
    ∧ (((w.alloc (.cells x T (0, 0))).alloc (.cells y T (0, 0))).alloc (.cells z T (0, 0))).heap[w.heap.size + 1]? = some (.cells y T (0, 0))
    ∧ (((w.alloc (.cells x T (0, 0))).alloc (.cells y T (0, 0))).alloc (.cells z T (0, 0))).heap[w.heap.size + 2]? = some (.cells z T (0, 0)) := by
  refine ⟨(((Below.refl _ _).alloc (Nat.le_refl _) _).alloc (by simp) _).alloc (by simp; omega) _, ?_, ?_, ?_⟩
  · have h1 := heap_alloc_new w (.cells x T (0, 0))
    have h2 := row_below h1 ((Below.refl _ _).alloc (Nat.le_refl _) (.cells y T (0, 0)))
    exact row_below h2 ((Below.refl _ _).alloc (Nat.le_refl _) (.cells z T (0, 0)))
  · have h1 := heap_alloc_new (w.alloc (.cells x T (0, 0))) (.cells y T (0, 0))
    rw [World.size_alloc] at h1
    exact row_below h1 ((Below.refl _ _).alloc (Nat.le_refl _) (.cells z T (0, 0)))
  · have h1 := heap_alloc_new ((w.alloc (.cells x T (0, 0))).alloc (.cells y T (0, 0))) (.cells z T (0, 0))
    rw [World.size_alloc, World.size_alloc] at h1
    exact h1
theorem one_list {dg : Array Value} (h : dg.all (·.oneCell') = true) : ∀ u ∈ dg.toList, u.oneCell' = true := fun u hu => by
  rw [Array.all_eq_true_iff_forall_mem] at h
  exact h u (by simpa using hu)
theorem info_bytes : (Tryz.prog.info? 30).map (fun i => (i.zero, i.size, i.bytes)) = some (some (.slice none 0 0), 1, 24) := by kernel_rfl
set_option maxHeartbeats 2000000 in
set_option maxRecDepth 100000 in
theorem join_any (a b : List UInt8) (ha : a.length = 32) (hb : b.length = 32) (w : World) (hk : KTab w) :
    Calls Tryz.prog 118 #[.agg (a.map bV).toArray, .agg (b.map bV).toArray] w fun e w' => e = .returned (.agg ((prH a b).map bV).toArray) ∧ Below w.heap.size w w' := by
  obtain ⟨i0, hi, hz0, hz1, hz2⟩ := info_parts info_bytes
  have HA := Lib.hid ha
  have HB := Lib.hid hb
  have HK := Lib.hid hk
  have HOne := Lib.hid (bV_one (prH a b))
  have HLen : Hid ((((prH a b).map bV).toArray).size = 32) := by show _ = _; simp [prH_length]
  obtain ⟨dg, hdg⟩ : ∃ dg, dg = ((prH a b).map bV).toArray := ⟨_, rfl⟩
  rw [← hdg] at HOne HLen ⊢
  have HD := Lib.hid hdg
  clear hdg ha hb hk
  go_enter Tryz.func118, Tryz.ntmps118
  go_upto_region 1 with fail
  obtain ⟨b1, f1, f2, f3⟩ := boxes_two_zero w (a.map bV).toArray (b.map bV).toArray (List.replicate 32 (bV 0)).toArray 24
  generalize hw1 : World.alloc _ _ = w1
  have e1 : ((w.alloc (.cells (a.map bV).toArray 24 (0, 0))).alloc (.cells (b.map bV).toArray 24 (0, 0))).alloc (.cells (List.replicate 32 (bV 0)).toArray 24 (0, 0)) = w1 := hw1
  rw [e1] at b1 f1 f2 f3
  clear hw1 e1
  have F1 := Lib.hid f1
  have F2 := Lib.hid f2
  have F3 := Lib.hid f3
  have B1 := Lib.hid b1
  clear f1 f2 f3 b1
  refine wp_region_held_drew (S := (fun _ => True)) (by kernel_rfl) trivial (fun hHeld => ?_)
  have bb := Below.drew (Below.refl w1.heap.size w1)
  generalize hw2 : w1.drew = w2
  rw [hw2] at bb
  have F1 := Lib.hid (row_below F1.out bb)
  have F2 := Lib.hid (row_below F2.out bb)
  have F3 := Lib.hid (row_below F3.out bb)
  have B2 := Lib.hid (B1.out.trans (bb.mono B1.out.size))
  clear hw2 bb B1
  refine held_take (i := 0) (v := (.slice (some ⟨w.heap.size, 0, none⟩) 32 32)) rfl (by kernel_rfl) (by kernel_rfl) (by kernel_rfl) (fun _ _ _ h => h) (Or.inl ⟨by rfl, fun w' _ => by kernel_rfl⟩) hHeld ?_
  go_frame
  refine held_take (i := 1) (v := (.slice (some ⟨w.heap.size + 1, 0, none⟩) 32 32)) rfl (by kernel_rfl) (by kernel_rfl) (by kernel_rfl) (fun _ _ _ h => h) (Or.inl ⟨by rfl, fun w' _ => by kernel_rfl⟩) hHeld ?_
  go_frame
  refine wpAnyH_ready (rs := [2]) (by kernel_rfl) (by simp) (held_cons rfl (fun K hK => ?_) AllReadyH.nil)
  rw [if_pos (by rfl)]
  refine wp_buildSlice 158 30 2 _ rfl #[.slice (some ⟨w.heap.size, 0, none⟩) 32 32, .slice (some ⟨w.heap.size + 1, 0, none⟩) 32 32] i0 (.slice none 0 0) Tryz.underlying158 hi hz0 (by rw [hz1]; omega) (by rw [hz1]; omega) (by rw [hz1]; kernel_rfl) ?_
  have nf := heap_alloc_new w2 (.cells #[.slice (some ⟨w.heap.size, 0, none⟩) 32 32, .slice (some ⟨w.heap.size + 1, 0, none⟩) 32 32] 30 (0, 0))
  have bb := (Below.refl w2.heap.size w2).alloc (Nat.le_refl _) (.cells #[.slice (some ⟨w.heap.size, 0, none⟩) 32 32, .slice (some ⟨w.heap.size + 1, 0, none⟩) 32 32] 30 (0, 0))
  obtain ⟨gn, hgn⟩ : ∃ gn, gn = w2.heap.size := ⟨_, rfl⟩
  generalize hw3 : World.alloc _ _ = w3
  have e3 : w2.alloc (.cells #[.slice (some ⟨w.heap.size, 0, none⟩) 32 32, .slice (some ⟨w.heap.size + 1, 0, none⟩) 32 32] 30 (0, 0)) = w3 := hw3
  rw [e3] at nf bb
  rw [← hgn] at nf ⊢
  have NF := Lib.hid nf
  have F1 := Lib.hid (row_below F1.out bb)
  have F2 := Lib.hid (row_below F2.out bb)
  have F3 := Lib.hid (row_below F3.out bb)
  have B3 := Lib.hid (B2.out.trans (bb.mono B2.out.size))
  clear nf bb hw3 e3 hgn B2
  go_frame
  refine hK.out _ _ trivial (fun hHeld => ?_)
  clear hK K
  refine wpAnyH_ready (rs := [3]) (by kernel_rfl) (by simp) (held_cons rfl (fun K hK => ?_) AllReadyH.nil)
  go_simp
  refine (concat_two a b HA.out HB.out gn w.heap.size (w.heap.size + 1) w3 (by rw [cell_of_row _ _ _ _ _ _ NF.out]; rfl) (by rw [cell_of_row _ _ _ _ _ _ NF.out]; rfl) (src_block HA.out F1.out) (src_block HB.out F2.out)).mono ?_
  rintro e w4 ⟨v4, rfl, s4, bb⟩
  have S4 := Lib.hid s4
  have F3 := Lib.hid (row_below F3.out bb)
  have B4 := Lib.hid (B3.out.trans (bb.mono B3.out.size))
  clear s4 bb B3 F1 F2 NF
  go_wp2_with fail
  refine hK.out _ _ trivial (fun hHeld => ?_)
  clear hK K
  refine wpAnyH_ready (rs := [4]) (by kernel_rfl) (by simp) (held_cons rfl (fun K hK => ?_) AllReadyH.nil)
  go_simp
  have TW := twice_any (a ++ b) v4 w4 (HK.out.below B4.out) S4.out (by rw [List.length_append, HA.out, HB.out]; omega)
  rw [show sha (sha (a ++ b)) = prH a b from rfl, ← HD.out] at TW
  refine TW.mono ?_
  clear TW
  rintro e w5 ⟨rfl, bb⟩
  have F3 := Lib.hid (row_below F3.out bb)
  have B5 := Lib.hid (B4.out.trans (bb.mono B4.out.size))
  clear bb B4 S4
  go_wp2_with fail
  refine hK.out _ _ trivial (fun hHeld => ?_)
  clear hK K
  refine wpAnyH_ready (rs := [5]) (by kernel_rfl) (by simp) (held_cons rfl (fun K hK => ?_) AllReadyH.nil)
  rw [if_pos (by rfl)]
  refine wp_store_part 24 (.tmp 4) (.tmp 9) rfl (w.heap.size + 2) 0 [] (List.replicate 32 (bV 0)) [] dg.toList 24 (.agg dg) rfl rfl (by simp [Value.cells]) rfl (by simp [HLen.out]) (by simpa using F3.out) (by rw [Array.length_toList, HLen.out]; kernel_rfl) (one_list HOne.out) ?_
  intro w6 q1 q2
  have f6 : w6.heap[w.heap.size + 2]? = some (.cells dg 24 (0, 0)) := by simpa using q1
  have F6 := Lib.hid f6
  have B6 := Lib.hid (B5.out.grown q2 B5.out.size (fun k hk => by cases hk; omega))
  clear q1 q2 f6
  go_frame
  refine hK.out _ _ trivial (fun hHeld => ?_)
  clear hK K
  refine wpAnyH_done (by kernel_rfl) ?_ _
  clear hHeld
  go_wp2_with fail
  refine bodyPost_ret (results_cell_row rfl _ _ (w.heap.size + 2) 24 dg (0, 0) (.array 32 5) rfl F6.out Tryz.underlying24 rfl (by rw [HLen.out]; kernel_rfl)) rfl ⟨rfl, B6.out⟩
end Go.Proofs.YtdamhoagiooicaaGreatDoor.Sha

/-
  Plain mathematics of rows of digests: the next row, the root, the way from below, what a leaf and a way make. Nothing of the program. No conditions beyond those that each states.
-/
namespace Go.Proofs.YtdamhoagiooicaaGreatDoor.Sha
section
variable {α : Type} (pr : α → α → α) (z : α)
/-- The next row: each two, the last of an odd row with itself. -/
def rowL : List α → List α
  | [] => []
  | [a] => [pr a a]
  | a :: b :: l => pr a b :: rowL l
theorem rowL_length : ∀ l : List α, (rowL pr l).length = (l.length + 1) / 2
  | [] => by simp [rowL]
  | [_] => by simp [rowL]
  | _ :: _ :: l => by
    rw [rowL, List.length_cons, rowL_length l]
    simp only [List.length_cons]
    omega
/-- One of the next row. -/
theorem rowL_get : ∀ (l : List α) (i : Nat), 2 * i < l.length → (rowL pr l).getD i z = pr (l.getD (2 * i) z) (l.getD (if 2 * i + 1 < l.length then 2 * i + 1 else 2 * i) z)
  | [], i, h => by simp at h
  | [a], i, h => by
    obtain rfl : i = 0 := by simp at h; omega
    simp [rowL]
  | a :: b :: l, 0, _ => by simp [rowL]
  | a :: b :: l, i + 1, h => by
    have ih := rowL_get l i (by simp at h; omega)
    rw [rowL, List.getD_cons_succ, ih, show 2 * (i + 1) = 2 * i + 1 + 1 by omega]
    simp only [List.length_cons]
    by_cases h2 : 2 * i + 1 < l.length
    · rw [if_pos h2, if_pos (by omega)]
      simp only [List.getD_cons_succ]
    · rw [if_neg h2, if_neg (by omega)]
      simp only [List.getD_cons_succ]
/-- The root: row by row. -/
def rootL (l : List α) : α := if _h : l.length ≤ 1 then l.getD 0 z else rootL (rowL pr l)
  termination_by l.length
  decreasing_by rw [rowL_length]; omega
theorem rootL_one {l : List α} (h : l.length ≤ 1) : rootL pr z l = l.getD 0 z := by rw [rootL, dif_pos h]
theorem rootL_more {l : List α} (h : 1 < l.length) : rootL pr z l = rootL pr z (rowL pr l) := by rw [rootL, dif_neg (by omega)]
/-- The other one of two. -/
def otherN (i n : Nat) : Nat := if i % 2 = 1 then i - 1 else if i + 1 < n then i + 1 else i
/-- The way from below. -/
def pathL (i : Nat) (l : List α) : List α := if _h : l.length ≤ 1 then [] else l.getD (otherN i l.length) z :: pathL (i / 2) (rowL pr l)
  termination_by l.length
  decreasing_by rw [rowL_length]; omega
theorem pathL_one {l : List α} (i : Nat) (h : l.length ≤ 1) : pathL pr z i l = [] := by rw [pathL, dif_pos h]
theorem pathL_more {l : List α} (i : Nat) (h : 1 < l.length) : pathL pr z i l = l.getD (otherN i l.length) z :: pathL pr z (i / 2) (rowL pr l) := by rw [pathL, dif_neg (by omega)]
/-- How many rows there are but the last. -/
def rowsN (n : Nat) : Nat := if _h : n ≤ 1 then 0 else rowsN ((n + 1) / 2) + 1
  termination_by n
  decreasing_by omega
theorem rowsN_one {n : Nat} (h : n ≤ 1) : rowsN n = 0 := by rw [rowsN, dif_pos h]
theorem rowsN_more {n : Nat} (h : 1 < n) : rowsN n = rowsN ((n + 1) / 2) + 1 := by rw [rowsN, dif_neg (by omega)]
theorem pathL_length : ∀ (n : Nat) (l : List α) (i : Nat), l.length = n → (pathL pr z i l).length = rowsN n := by
  intro n
  induction n using Nat.strongRecOn with
  | ind n ih =>
    intro l i hl
    by_cases h : n ≤ 1
    · rw [pathL_one pr z i (by omega), rowsN_one h]
      rfl
    · rw [pathL_more pr z i (by omega), rowsN_more (by omega), List.length_cons, ih ((n + 1) / 2) (by omega) (rowL pr l) (i / 2) (by rw [rowL_length, hl])]
/-- What a leaf and a way make. -/
def climbL (leaf : α) (i : Nat) : List α → α
  | [] => leaf
  | p :: ps => climbL (if i % 2 = 0 then pr leaf p else pr p leaf) (i / 2) ps
/-- The way leads to the root. -/
theorem climb_path : ∀ (n : Nat) (l : List α) (i : Nat), l.length = n → i < n → climbL pr (l.getD i z) i (pathL pr z i l) = rootL pr z l := by
  intro n
  induction n using Nat.strongRecOn with
  | ind n ih =>
    intro l i hl hi
    by_cases h : n ≤ 1
    · obtain rfl : i = 0 := by omega
      rw [pathL_one pr z 0 (by omega), rootL_one pr z (by omega)]
      rfl
    · rw [pathL_more pr z i (by omega), rootL_more pr z (by omega), climbL]
      have hr : (rowL pr l).getD (i / 2) z = (if i % 2 = 0 then pr (l.getD i z) (l.getD (otherN i l.length) z) else pr (l.getD (otherN i l.length) z) (l.getD i z)) := by
        rw [rowL_get pr z l (i / 2) (by omega)]
        unfold otherN
        by_cases h2 : i % 2 = 0
        · have e : 2 * (i / 2) = i := by omega
          rw [if_pos h2, e, if_neg (show ¬ i % 2 = 1 by omega)]
        · have e : 2 * (i / 2) = i - 1 := by omega
          have e2 : i - 1 + 1 = i := by omega
          rw [if_neg h2, e, e2, if_pos (show i % 2 = 1 by omega), if_pos (show i < l.length by omega)]
      rw [← hr]
      exact ih ((n + 1) / 2) (by omega) (rowL pr l) (i / 2) (by rw [rowL_length, hl]) (by omega)
/-- An odd row's last one twice: the same next row. -/
theorem rowL_odd : ∀ (l : List α), l.length % 2 = 1 → rowL pr (l ++ [l.getD (l.length - 1) z]) = rowL pr l
  | [], h => by simp at h
  | [a], _ => rfl
  | a :: b :: l, h => by
    simp only [List.length_cons] at h
    have h3 : 1 ≤ l.length := by omega
    have ih := rowL_odd l (by omega)
    have e : (a :: b :: l).getD ((a :: b :: l).length - 1) z = l.getD (l.length - 1) z := by
      simp only [List.length_cons]
      rw [show l.length + 1 + 1 - 1 = (l.length - 1) + 1 + 1 by omega, List.getD_cons_succ, List.getD_cons_succ]
    rw [e, List.cons_append, List.cons_append, rowL, rowL, ih]
theorem rootL_odd (l : List α) (h : l.length % 2 = 1) (h2 : 1 < l.length) : rootL pr z (l ++ [l.getD (l.length - 1) z]) = rootL pr z l := by
  rw [rootL_more pr z (by simp; omega), rootL_more pr z h2, rowL_odd pr z l h]
/-- Two rows one behind the other, the first of an even length. -/
theorem rowL_append : ∀ (a b : List α), a.length % 2 = 0 → rowL pr (a ++ b) = rowL pr a ++ rowL pr b
  | [], b, _ => rfl
  | [_], _, h => by simp at h
  | x :: y :: a, b, h => by
    have ih := rowL_append a b (by simp at h; omega)
    rw [List.cons_append, List.cons_append, rowL, rowL, ih, List.cons_append]
/-- Two rows of as many, a power of two: the root is of both roots; the last of the second one's way is the first one's root. -/
theorem root_two : ∀ (j : Nat) (a b : List α), a.length = 2 ^ j → b.length = 2 ^ j →
    rootL pr z (a ++ b) = pr (rootL pr z a) (rootL pr z b) ∧ (pathL pr z (2 ^ j) (a ++ b)).length = j + 1 ∧ (pathL pr z (2 ^ j) (a ++ b)).getD j z = rootL pr z a := by
  intro j
  induction j with
  | zero =>
    intro a b ha hb
    obtain ⟨x, rfl⟩ := List.length_eq_one_iff.1 ha
    obtain ⟨y, rfl⟩ := List.length_eq_one_iff.1 hb
    have hr : rowL pr ([x] ++ [y]) = [pr x y] := rfl
    refine ⟨?_, ?_, ?_⟩
    · rw [rootL_more pr z (by simp), hr, rootL_one pr z (by simp), rootL_one pr z (by simp), rootL_one pr z (by simp)]
      rfl
    · rw [pathL_more pr z _ (by simp), hr, pathL_one pr z _ (by simp)]
      rfl
    · rw [pathL_more pr z _ (by simp), rootL_one pr z (by simp)]
      rfl
  | succ j ih =>
    intro a b ha hb
    have hp : 2 ^ (j + 1) = 2 * 2 ^ j := by rw [Nat.pow_succ]; omega
    have h1 : 1 ≤ 2 ^ j := Nat.one_le_two_pow
    have la : (rowL pr a).length = 2 ^ j := by rw [rowL_length, ha]; omega
    have lb : (rowL pr b).length = 2 ^ j := by rw [rowL_length, hb]; omega
    have hr : rowL pr (a ++ b) = rowL pr a ++ rowL pr b := rowL_append pr a b (by omega)
    have hl : 1 < (a ++ b).length := by rw [List.length_append]; omega
    obtain ⟨i1, i2, i3⟩ := ih (rowL pr a) (rowL pr b) la lb
    have hd : 2 ^ (j + 1) / 2 = 2 ^ j := by omega
    refine ⟨?_, ?_, ?_⟩
    · rw [rootL_more pr z hl, hr, i1, ← rootL_more pr z (by omega), ← rootL_more pr z (by omega)]
    · rw [pathL_more pr z _ hl, hr, hd, List.length_cons, i2]
    · rw [pathL_more pr z _ hl, hr, hd, List.getD_cons_succ, i3, ← rootL_more pr z (by omega)]
theorem pathL_at (j : Nat) (a b : List α) (ha : a.length = 2 ^ j) (hb : b.length = 2 ^ j) : (pathL pr z (2 ^ j) (a ++ b)).getD ((pathL pr z (2 ^ j) (a ++ b)).length - 1) z = rootL pr z a := by
  obtain ⟨_, i2, i3⟩ := root_two pr z j a b ha hb
  rw [i2, Nat.add_sub_cancel]
  exact i3
end
end Go.Proofs.YtdamhoagiooicaaGreatDoor.Sha

/-
  Package merkle's small functions: half, partner, rowsAbove. No conditions beyond bounds.
-/
namespace Go.Proofs.YtdamhoagiooicaaGreatDoor.Sha
open Go Go.RowKit
theorem xor_one (k : Nat) : k ^^^ 1 = if k % 2 = 1 then k - 1 else k + 1 := by
  have h1 : (k ^^^ 1) / 2 = k / 2 := by
    rw [Nat.xor_div_two]
    simp
  have h2 : (k ^^^ 1) % 2 = (k + 1) % 2 := by
    have h3 := Nat.xor_mod_two_pow (a := k) (b := 1) (n := 1)
    have h4 : k % 2 = 0 ∨ k % 2 = 1 := by omega
    simp only [Nat.pow_one] at h3
    rw [h3]
    rcases h4 with h | h
    · rw [h]; simp; omega
    · rw [h]; simp; omega
  split <;> omega
theorem bits_xor_i64_one (k : Nat) (hk : k < 4611686018427387904) : bits .xor .i64 (k : Int) 1 = ((k ^^^ 1 : Nat) : Int) := by
  have hx : k ^^^ 1 < 2 ^ 62 := Nat.xor_lt_two_pow (by omega) (by omega)
  have h1 : (BitVec.ofInt 64 (k : Int)).toNat = k := by
    rw [BitVec.ofInt_natCast, BitVec.toNat_ofNat]; exact Nat.mod_eq_of_lt (by omega)
  have h2 : (BitVec.ofInt 64 (1 : Int)).toNat = 1 := by rfl
  show IntKind.i64.wrap ((BitVec.ofInt 64 (k : Int) ^^^ BitVec.ofInt 64 1).toNat : Int) = _
  rw [BitVec.toNat_xor, h1, h2, IntKind.wrap_i64]
  omega
theorem half_any (n : Nat) (hn : n ≤ 4611686018427387904) (w : World) :
    Calls Tryz.prog 117 #[.int .i64 n] w fun e w' => e = .returned (.int .i64 (((n + 1) / 2 : Nat) : Int)) ∧ w = w' := by
  go_enter Tryz.func117, Tryz.ntmps117
  go_wp2
  go_ret
  exact ⟨ret_int (by omega), rfl⟩
/-- The other one of two, as the package finds it. -/
theorem other_min (at_ of_ : Nat) (h : at_ < of_) : (if (of_ : Int) - 1 < ((at_ ^^^ 1 : Nat) : Int) then (of_ : Int) - 1 else ((at_ ^^^ 1 : Nat) : Int)) = (otherN at_ of_ : Int) := by
  rw [xor_one]
  unfold otherN
  by_cases h1 : at_ % 2 = 1
  · simp only [if_pos h1]
    rw [if_neg (by omega)]
  · simp only [if_neg h1]
    by_cases h2 : at_ + 1 < of_
    · rw [if_pos h2, if_neg (by omega)]
    · rw [if_neg h2, if_pos (by omega)]
      omega
theorem partner_any (k n : Nat) (hk : k < n) (hn : n ≤ 4611686018427387904) (w : World) :
    Calls Tryz.prog 119 #[.int .i64 k, .int .i64 n] w fun e w' => e = .returned (.int .i64 ((otherN k n : Nat) : Int)) ∧ w = w' := by
  have hx := bits_xor_i64_one k (by omega)
  have ho := other_min k n hk
  obtain ⟨x, hxe⟩ : ∃ x, x = k ^^^ 1 := ⟨_, rfl⟩
  rw [← hxe] at hx ho
  obtain ⟨r, hr⟩ : ∃ r, r = otherN k n := ⟨_, rfl⟩
  rw [← hr] at ho ⊢
  have HO := Lib.hid ho
  clear ho hxe hr
  have h0 : 0 ≤ (n : Int) - 1 := by omega
  have h1 : 1 ≤ (n : Int) := by omega
  go_enter Tryz.func119, Tryz.ntmps119
  by_cases hc : (n : Int) - 1 < (x : Int)
  · go_wp2
    go_ret
    exact ⟨ret_int (by have h := HO.out; rw [if_pos hc] at h; omega), rfl⟩
  · go_wp2
    go_ret
    exact ⟨ret_int (by have h := HO.out; rw [if_neg (by omega)] at h; omega), rfl⟩
theorem otherN_lt {i n : Nat} (h : i < n) : otherN i n < n := by unfold otherN; split <;> (try split) <;> omega
theorem rowsN_le : ∀ n k : Nat, n ≤ 2 ^ k → rowsN n ≤ k := by
  intro n
  induction n using Nat.strongRecOn with
  | ind n ih =>
    intro k hk
    by_cases h : n ≤ 1
    · rw [rowsN_one h]; omega
    · rw [rowsN_more (by omega)]
      cases k with
      | zero => simp at hk; omega
      | succ k =>
        have := ih ((n + 1) / 2) (by omega) k (by rw [Nat.pow_succ] at hk; omega)
        omega
end Go.Proofs.YtdamhoagiooicaaGreatDoor.Sha

/-
  Rows of digests, roots and ways: lengths, what is kept when another block turns. No conditions beyond those that each states.
-/
namespace Go.Proofs.YtdamhoagiooicaaGreatDoor.Sha
open Go Go.RowKit
/-- 32 bytes of 0. -/
def zM : List UInt8 := List.replicate 32 0
theorem zM_length : zM.length = 32 := by simp [zM]
def slLen : Value → Nat
  | .slice _ n _ => n
  | _ => 0
theorem rowL_ok : ∀ l : List (List UInt8), HsOk (rowL prH l)
  | [] => fun x hx => by simp [rowL] at hx
  | [a] => fun x hx => by
    simp only [rowL, List.mem_singleton] at hx
    rw [hx]; exact prH_length _ _
  | a :: b :: l => fun x hx => by
    simp only [rowL, List.mem_cons] at hx
    rcases hx with rfl | hx
    · exact prH_length _ _
    · exact rowL_ok l x hx
theorem getD_ok {l : List (List UInt8)} (h : HsOk l) (i : Nat) : (l.getD i zM).length = 32 := by
  by_cases hi : i < l.length
  · rw [List.getD_eq_getElem?_getD, List.getElem?_eq_getElem hi]
    exact h _ (List.getElem_mem _)
  · rw [List.getD_eq_getElem?_getD, List.getElem?_eq_none (by omega)]
    exact zM_length
theorem getD_any {l : List (List UInt8)} {i : Nat} (hi : i < l.length) : l.getD i [] = l.getD i zM := by
  rw [List.getD_eq_getElem?_getD, List.getD_eq_getElem?_getD, List.getElem?_eq_getElem hi]
  rfl
theorem rootL_len : ∀ (n : Nat) (l : List (List UInt8)), l.length = n → HsOk l → (rootL prH zM l).length = 32 := by
  intro n
  induction n using Nat.strongRecOn with
  | ind n ih =>
    intro l hl ho
    by_cases h : n ≤ 1
    · rw [rootL_one prH zM (by omega)]
      exact getD_ok ho 0
    · rw [rootL_more prH zM (by omega)]
      exact ih ((n + 1) / 2) (by omega) _ (by rw [rowL_length, hl]) (rowL_ok l)
theorem pathL_ok : ∀ (n : Nat) (l : List (List UInt8)) (i : Nat), l.length = n → HsOk l → HsOk (pathL prH zM i l) := by
  intro n
  induction n using Nat.strongRecOn with
  | ind n ih =>
    intro l i hl ho
    by_cases h : n ≤ 1
    · rw [pathL_one prH zM i (by omega)]
      exact fun x hx => by simp at hx
    · rw [pathL_more prH zM i (by omega)]
      intro x hx
      rcases List.mem_cons.1 hx with rfl | hx
      · exact getD_ok ho _
      · exact ih ((n + 1) / 2) (by omega) _ _ (by rw [rowL_length, hl]) (rowL_ok l) x hx
theorem climbL_len : ∀ (p : List (List UInt8)) (leaf : List UInt8) (i : Nat), leaf.length = 32 → (climbL prH leaf i p).length = 32
  | [], leaf, i, h => h
  | a :: p, leaf, i, h => by
    rw [climbL]
    exact climbL_len p _ _ (by split <;> exact prH_length _ _)
theorem HsAt.shape {w : World} {v : Value} {l : List (List UInt8)} (h : HsAt w v l) : ∃ sp cap, v = .slice sp l.length cap := by
  obtain ⟨_, sp, cap, h1, _, _⟩ := h
  exact ⟨sp, cap, h1⟩
theorem HsAt.off {w w' : World} {v : Value} {l : List (List UInt8)} {q : Option Nat} (h : HsAt w v l) (ho : Off v q) (hg : w.grownBy w' q) : HsAt w' v l := by
  obtain ⟨h0, sp, cap, rfl, h2, h3⟩ := h
  refine ⟨h0, sp, cap, rfl, h2, fun h0 => ?_⟩
  obtain ⟨b, o, rfl, h5⟩ := h3 h0
  refine ⟨b, o, rfl, fun i x hx j u hj => ?_⟩
  have h6 := h5 i x hx j u hj
  have hlt := World.block_lt_of_cell? w _ h6
  simp only at hlt
  rw [World.cell?_of_block (hg.block b hlt (fun e => ho _ _ _ rfl h0 e.symm))]
  exact h6
theorem HsAt.fresh {w : World} {v : Value} {l : List (List UInt8)} {k : Nat} (h : HsAt w v l) (hk : w.heap.size ≤ k) : Off v (some k) := fun sp n cap hv hn e => by
  obtain ⟨h0, sp', cap', h1, h2, h3⟩ := h
  rw [h1] at hv
  cases hv
  obtain ⟨b, o, hs, h5⟩ := h3 hn
  obtain ⟨x, hx⟩ : ∃ x, l[0]? = some x := ⟨_, List.getElem?_eq_getElem hn⟩
  have hx32 := h0 x (List.mem_of_getElem? hx)
  obtain ⟨u, hu⟩ : ∃ u, (x.map bV)[0]? = some u := ⟨_, List.getElem?_eq_getElem (by rw [List.length_map]; omega)⟩
  have hlt := World.block_lt_of_cell? w _ (h5 0 x hx 0 u hu)
  simp only at hlt
  have e1 := Option.some.inj e
  rw [Option.some.inj hs] at e1
  simp only at e1
  omega
end Go.Proofs.YtdamhoagiooicaaGreatDoor.Sha

/-
  What a loop over a row of digests keeps; a load that may come first. No conditions.
-/
namespace Go.Proofs.YtdamhoagiooicaaGreatDoor.Sha
open Go Go.RowKit
/-- A part of a block may be read first. -/
theorem yieldsIf_load_mid {P : Program} {ops : Array Oper} {S : World → Prop} {op : Oper} {a : Act} (hw : Region.wanted op (yielded ops a.tmps) = true) (ty : TypeId) (x : Operand) (ho : op.op = .load ty x)
    (b off : Nat) (hx : a.eval x = .pointer (some ⟨b, off, none⟩)) (cs : List Value) (d : TypeDesc) (hS : ∀ w, S w → w.rangeAt b off cs)
    (hu : P.underlying ty = some d) (hd : d.isRow = true) (hi : (P.info? ty).map (·.size) = some cs.length) : YieldsIf P ops S op (.agg cs.toArray) a :=
  .inl ⟨hw, fun w hw' => by
    unfold execOp
    simp only [ho, hx, Instr.loadAt, Instr.sureAddr, Sem.run_bind, Sem.run_pure, Result.andThen_ok, run_loadVar_mid w b off ty cs d (hS w hw') hu hd hi]⟩
def RaInv (l : List (List UInt8)) (n : Nat) (w : World) (vs vi : Value) (wr : World) : Prop :=
  ∃ (k j : Nat) (vb : Value), vb = vs ∧ j ≤ n + 1 ∧ j = 2 * k ∧ vi = .int .i64 j ∧ HsOwn w.heap.size wr vb ((rowL prH l).take k) ∧ Below w.heap.size w wr
end Go.Proofs.YtdamhoagiooicaaGreatDoor.Sha

/-
  The row above a row of digests: package merkle's, and the statements' own. New memory; nothing that was there turns. Conditions: the digests lie where the slice says; for package merkle's the table is there.
-/
namespace Go.Proofs.YtdamhoagiooicaaGreatDoor.Sha
open Go Go.RowKit
set_option maxHeartbeats 4000000 in
set_option maxRecDepth 100000 in
theorem row_above (l : List (List UInt8)) (sp : Option Addr) (n cap : Nat) (w : World) (hk : KTab w) (hl : HsAt w (.slice sp n cap) l) (hn : n ≤ 1048576) :
    Calls Tryz.prog 89 #[.slice sp n cap] w fun e w' => ∃ v, e = .returned v ∧ HsOwn w.heap.size w' v (rowL prH l) ∧ Below w.heap.size w w' := by
  obtain ⟨i0, hi, hz0, hz1, hz2⟩ := info_parts info_hash
  have hln := hl.len
  have hok := hl.1
  have HOK := Lib.hid hok
  have HLN := Lib.hid hln.1
  have HL := Lib.hid hl
  have LROW := Lib.hid (rowL_length prH l)
  obtain ⟨m, hm⟩ : ∃ m, m = (n + 1) / 2 := ⟨_, rfl⟩
  have hmb : m ≤ 1048576 := by omega
  have hm2 : 2 * m = n ∨ 2 * m = n + 1 := by omega
  have HK := Lib.hid hk
  have HMM := Lib.hid hm
  clear hl hln hok hm hk
  go_enter Tryz.func89, Tryz.ntmps89
  go_wp2_with (first | (go_at_call 117; refine (half_any n (by omega) _).mono ?_; rintro e w' ⟨rfl, rfl⟩; rw [← HMM.out]) | (at_make; refine wpList_make_own _ rfl _ _ 46 rfl w.heap.size 24 i0 (.agg (List.replicate 32 (bV 0)).toArray) 32 Tryz.underlying46 hi hz0 hz1 _ _ _ m rfl rfl rfl (by rw [hz2]; omega) (by unfold maxLen; omega) (Nat.le_refl _) ?_; intro w2 hown hgrow; have HO0 := Lib.hid hown; have HG0 := Lib.hid hgrow; clear hown hgrow; go_frame))
  have HB0 := Lib.hid ((Below.refl _ _).grown HG0.out (Nat.le_refl _) (fun k hk => by cases hk))
  have HST : Hid (HsOwn w.heap.size w2 (.slice (some ⟨w.heap.size, 0, none⟩) 0 m) ((rowL prH l).take 0)) := ⟨HO0.out, fun x hx => by simp at hx⟩
  clear HO0 HG0
  go_loopw [3, 4] (fun vs vi wr => RaInv l n w vs vi wr) (fun _ vi _ => n + 1 - (intOf vi).toNat)
  case atStart => exact ⟨0, 0, _, rfl, by omega, by omega, rfl, HST.out, HB0.out⟩
  case round =>
    clear HST HB0
    obtain ⟨k, j, vb, rfl, hj1, hj, rfl, ho, hb⟩ := hrel
    have HO := Lib.hid ho
    have HB := Lib.hid hb
    have HJ := Lib.hid hj
    clear ho hb
    by_cases hlt : j < n
    · obtain ⟨b, o, rfl, hbw, hg⟩ := HL.out.get (by omega)
      obtain ⟨p, hp⟩ : ∃ p, p = otherN j n := ⟨_, rfl⟩
      have hpn : p < n := by rw [hp]; exact otherN_lt hlt
      obtain ⟨x, hx⟩ : ∃ x, x = l.getD j [] := ⟨_, rfl⟩
      obtain ⟨y, hy⟩ : ∃ y, y = l.getD p [] := ⟨_, rfl⟩
      have HX := Lib.hid (hg j hlt)
      have HY := Lib.hid (hg p hpn)
      rw [← hx] at HX
      rw [← hy] at HY
      have lx : x.length = 32 := by rw [hx]; exact HOK.out.get (by have := HLN.out; omega)
      have ly : y.length = 32 := by rw [hy]; exact HOK.out.get (by have := HLN.out; omega)
      have LX' := Lib.hid lx
      have LY' := Lib.hid ly
      have LX := Lib.hid (show x.length = 32 from lx)
      have LY := Lib.hid (show y.length = 32 from ly)
      have LP : Hid (((prH x y).map bV).length = 32) := by show _ = _; rw [List.length_map, prH_length]
      have lk : ((rowL prH l).take k).length ≤ 1048576 := by rw [List.length_take]; omega
      have LK := Lib.hid lk
      have ht : (rowL prH l).take (k + 1) = (rowL prH l).take k ++ [prH x y] := by
        have hkl : k < (rowL prH l).length := by rw [LROW.out]; have := HLN.out; omega
        have e := rowL_get prH [] l k (by have := HLN.out; omega)
        rw [List.getD_eq_getElem?_getD, List.getElem?_eq_getElem hkl] at e
        simp only [Option.getD_some] at e
        have e2 : otherN j n = if j + 1 < l.length then j + 1 else j := by
          unfold otherN
          rw [if_neg (show ¬ j % 2 = 1 by omega), ← HLN.out]
        rw [List.take_succ_eq_append_getElem hkl, e, hx, hy, hp, ← hj, e2]
      have HT := Lib.hid ht
      have HP := Lib.hid hp
      have p0 : 0 ≤ (j : Int) := by omega
      have q0 : (j : Int) < (n : Int) := by omega
      have p1 : 0 ≤ (p : Int) := by omega
      have q1 : (p : Int) < (n : Int) := by omega
      have wj : IntKind.i64.wrap ((j : Int) + 2) = (j : Int) + 2 := IntWalk.i64_in _ (by omega)
      clear hg hx hy hp hj lx ly ht lk
      go_wp2_with fail
      refine wp_region_held_drew (S := (fun w' => Below w.heap.size w w')) (by kernel_rfl) (Below.drew HB.out) (fun hHeld => ?_)
      have HO3 := Lib.hid (HO.out.keep (Below.drew (Below.refl wr.heap.size wr)))
      clear HO HB
      refine held_take (i := 0) (v := vb) rfl (by kernel_rfl) (by kernel_rfl) (by kernel_rfl) (fun _ _ _ h => h) (Or.inl ⟨by rfl, fun w' _ => by kernel_rfl⟩) hHeld ?_
      go_frame
      refine held_take (i := 1) (v := (.slice (some ⟨b, o, none⟩) n cap)) rfl (by kernel_rfl) (by kernel_rfl) (by kernel_rfl) (fun _ _ _ h => h) (Or.inl ⟨by rfl, fun w' _ => by kernel_rfl⟩) hHeld ?_
      go_frame
      refine held_take (i := 2) (v := (.int .i64 (j : Int))) rfl (by kernel_rfl) (by kernel_rfl) (by kernel_rfl) (fun _ _ _ h => h) (Or.inl ⟨by rfl, fun w' _ => by kernel_rfl⟩) hHeld ?_
      go_frame
      refine held_take (i := 3) (v := (.pointer (some ⟨b, o + j * 32, none⟩))) rfl (by kernel_rfl) (by kernel_rfl) (by kernel_rfl) (fun _ _ _ h => h) (Or.inl ⟨by rfl, fun w' _ => by go_simp⟩) hHeld ?_
      go_frame
      refine held_take (i := 4) (v := (.agg (x.map bV).toArray)) rfl (by kernel_rfl) (by kernel_rfl) (by kernel_rfl) (fun _ _ _ h => h) (yieldsIf_load_mid (by rfl) 24 (.tmp 18) rfl b (o + j * 32) rfl (x.map bV) _ (fun w' hw' => range_below HX.out hw') Tryz.underlying24 rfl (by rw [List.length_map, LX.out]; kernel_rfl)) hHeld ?_
      go_frame
      refine held_take (i := 5) (v := (.slice (some ⟨b, o, none⟩) n cap)) rfl (by kernel_rfl) (by kernel_rfl) (by kernel_rfl) (fun _ _ _ h => h) (Or.inl ⟨by rfl, fun w' _ => by kernel_rfl⟩) hHeld ?_
      go_frame
      refine held_take (i := 6) (v := (.int .i64 (j : Int))) rfl (by kernel_rfl) (by kernel_rfl) (by kernel_rfl) (fun _ _ _ h => h) (Or.inl ⟨by rfl, fun w' _ => by kernel_rfl⟩) hHeld ?_
      go_frame
      refine held_take (i := 7) (v := (.slice (some ⟨b, o, none⟩) n cap)) rfl (by kernel_rfl) (by kernel_rfl) (by kernel_rfl) (fun _ _ _ h => h) (Or.inl ⟨by rfl, fun w' _ => by kernel_rfl⟩) hHeld ?_
      go_frame
      refine held_take (i := 8) (v := (.int .i64 (n : Int))) rfl (by kernel_rfl) (by kernel_rfl) (by kernel_rfl) (fun _ _ _ h => h) (Or.inl ⟨by rfl, fun w' _ => by kernel_rfl⟩) hHeld ?_
      go_frame
      refine wpAnyH_ready (rs := [9]) (by kernel_rfl) (by simp) (held_cons rfl (fun K hK => ?_) AllReadyH.nil)
      go_simp
      refine (partner_any j n (by omega) (by omega) _).mono ?_
      rintro e w4 ⟨rfl, rfl⟩
      rw [← HP.out]
      go_wp2_with fail
      refine hK.out _ _ hHeld (fun hHeld => ?_)
      clear hK K
      refine held_take (i := 10) (v := (.pointer (some ⟨b, o + p * 32, none⟩))) rfl (by kernel_rfl) (by kernel_rfl) (by kernel_rfl) (fun _ _ _ h => h) (Or.inl ⟨by rfl, fun w' _ => by go_simp⟩) hHeld ?_
      go_frame
      refine held_take (i := 11) (v := (.agg (y.map bV).toArray)) rfl (by kernel_rfl) (by kernel_rfl) (by kernel_rfl) (fun _ _ _ h => h) (yieldsIf_load_mid (by rfl) 24 (.tmp 25) rfl b (o + p * 32) rfl (y.map bV) _ (fun w' hw' => range_below HY.out hw') Tryz.underlying24 rfl (by rw [List.length_map, LY.out]; kernel_rfl)) hHeld ?_
      go_frame
      refine wpAnyH_ready (rs := [12]) (by kernel_rfl) (by simp) (held_cons rfl (fun K hK => ?_) AllReadyH.nil)
      go_simp
      refine (join_any x y LX'.out LY'.out _ (HK.out.below hHeld)).mono ?_
      rintro e w4 ⟨rfl, bb⟩
      have HO4 := Lib.hid (HO3.out.keep bb)
      have hw4 := hHeld.trans (bb.mono hHeld.size)
      clear bb hHeld
      go_wp2_with fail
      refine hK.out _ _ hw4 (fun hHeld => ?_)
      clear hK K hw4
      refine wpAnyH_ready (rs := [13]) (by kernel_rfl) (by simp) (held_cons rfl (fun K hK => ?_) AllReadyH.nil)
      rw [if_pos (by rfl)]
      refine wp_slice_one 46 24 (.tmp 27) rfl ((prH x y).map bV) rfl Tryz.underlying46 i0 _ hi hz0 (by rw [hz1, LP.out]) (by rw [LP.out]; omega) (by rw [LP.out]; omega) ?_
      have nf := heap_alloc_new w4 (.cells ((prH x y).map bV).toArray 24 (0, 0))
      have bb := (Below.refl w4.heap.size w4).alloc (Nat.le_refl _) (.cells ((prH x y).map bV).toArray 24 (0, 0))
      obtain ⟨gn, hgn⟩ : ∃ gn, gn = w4.heap.size := ⟨_, rfl⟩
      generalize hw5 : World.alloc _ _ = w5
      have e5 : w4.alloc (.cells ((prH x y).map bV).toArray 24 (0, 0)) = w5 := hw5
      rw [e5] at nf bb
      rw [← hgn] at nf ⊢
      have NF := Lib.hid nf
      have HO5 := Lib.hid (HO4.out.keep bb)
      have hb5 := hHeld.trans (bb.mono hHeld.size)
      clear nf bb hw5 e5 hgn hHeld
      go_frame
      refine hK.out _ _ hb5 (fun hHeld => ?_)
      clear hK K hb5
      refine wpAnyH_ready (rs := [14]) (by kernel_rfl) (by simp) (held_cons rfl (fun K hK => ?_) AllReadyH.nil)
      rw [if_pos (by rfl)]
      refine wp_append_row w5 (.tmp 15) (.tmp 28) 46 rfl w.heap.size 24 i0 (.agg (List.replicate 32 (bV 0)).toArray) 32 32 Tryz.underlying46 hi hz0 hz1 hz2 (by kernel_rfl) (by decide) vb _ (hsL ((rowL prH l).take k)) rfl HO5.out.1 ⟨gn, 0, none⟩ 1 1 ((prH x y).map bV) rfl (by rw [LP.out]) (hs_one NF.out) (bV_one' _) (by have := LK.out; unfold maxLen; omega) (by have := LK.out; omega) hHeld.size ?_
      intro v6 w6 q1 q2 _
      have HO6 := Lib.hid (HsOwn.push (base := w.heap.size) HO5.out.2 (prH_length x y) q1)
      have hb6 := own_grown hHeld (Nat.le_refl _) hHeld.size HO5.out.1 q2
      clear q1 q2 hHeld
      go_frame
      refine hK.out _ _ hb6 (fun hHeld => ?_)
      clear hK K hb6
      refine held_take (i := 15) (v := v6) rfl (by kernel_rfl) (by kernel_rfl) (by kernel_rfl) (fun _ _ _ h => h) (Or.inl ⟨by rfl, fun w' _ => by kernel_rfl⟩) hHeld ?_
      go_frame
      refine wpAnyH_done (by kernel_rfl) ?_ _
      have HB6 := Lib.hid hHeld
      clear hHeld
      go_wp2_with fail
      go_roundw
      case rel =>
        refine ⟨k + 1, j + 2, _, rfl, by omega, by have := HJ.out; omega, by go_num, ?_, HB6.out⟩
        rw [HT.out]
        exact HO6.out
      case measure => simp [intOf]; omega
    · have HF : Hid (HsOwn w.heap.size wr vb (rowL prH l)) := by
        have h := HO.out
        rw [List.take_of_length_le (by rw [LROW.out]; have := HLN.out; omega)] at h
        exact h
      have hge : ¬ (j : Int) < (n : Int) := by omega
      clear HO hj
      go_wp2_with fail
      go_ret
      exact ⟨_, rfl, HF.out, HB.out⟩
end Go.Proofs.YtdamhoagiooicaaGreatDoor.Sha

/-
  merkle.Root answers the root. Nothing that was there turns. Conditions: the digests lie where the slice says, the table is there; at most 2^20 of them.
-/
namespace Go.Proofs.YtdamhoagiooicaaGreatDoor.Sha
open Go Go.RowKit
def rootInv (R : List UInt8) (w : World) (vl : Value) (wr : World) : Prop :=
  ∃ l' : List (List UInt8), HsAt wr vl l' ∧ 1 ≤ l'.length ∧ l'.length ≤ 1048576 ∧ rootL prH zM l' = R ∧ Below w.heap.size w wr ∧ wr.heap[w.heap.size]? = some (.cells (List.replicate 32 (bV 0)).toArray 24 (0, 0))
set_option maxHeartbeats 2000000 in
set_option maxRecDepth 100000 in
theorem root_any (l : List (List UInt8)) (sp : Option Addr) (n cap : Nat) (w : World) (hk : KTab w) (hl : HsAt w (.slice sp n cap) l) (hn : n ≤ 1048576) :
    Calls Tryz.prog 47 #[.slice sp n cap] w fun e w' => e = .returned (.agg ((rootL prH zM l).map bV).toArray) ∧ Below w.heap.size w w' := by
  have hlen := rootL_len _ l rfl hl.1
  have hln := hl.len.1
  have h0r : n = 0 → rootL prH zM l = zM := fun h => by
    rw [rootL_one prH zM (by omega), List.getD_eq_getElem?_getD, List.getElem?_eq_none (by omega)]
    rfl
  obtain ⟨R, hR⟩ : ∃ R, R = rootL prH zM l := ⟨_, rfl⟩
  rw [← hR] at hlen h0r ⊢
  have HR := Lib.hid hR
  have HS : Hid ((R.map bV).toArray.size = 32) := by show _ = _; simp [hlen]
  have HLR : Hid ((R.map bV).length = 32) := by show _ = _; simp [hlen]
  have HZ := Lib.hid h0r
  have HL := Lib.hid hl
  have HN := Lib.hid hln
  have HK := Lib.hid hk
  clear hR hlen hl hln h0r hk
  go_enter Tryz.func47, Tryz.ntmps47
  go_upto_region 1 with fail
  have F := Lib.hid (heap_alloc_new w (.cells (List.replicate 32 (bV 0)).toArray 24 (0, 0)))
  have B := Lib.hid ((Below.refl w.heap.size w).alloc (Nat.le_refl _) (.cells (List.replicate 32 (bV 0)).toArray 24 (0, 0)))
  generalize hw1 : World.alloc _ _ = w1
  have e1 : w.alloc (.cells (List.replicate 32 (bV 0)).toArray 24 (0, 0)) = w1 := hw1
  rw [e1] at F B
  clear hw1 e1
  by_cases h0 : n = 0
  · have t0 : ((n : Int) == 0) = true := by rw [beq_iff_eq]; omega
    obtain rfl : R = zM := HZ.out h0
    clear h0
    go_wp2_with ((with_reducible show wpList _ _ _ _ _ _); refine wpList_store_row rfl 24 (.tmp 2) (.tmp 6) rfl w.heap.size (zM.map bV).toArray rfl rfl 24 _ F.out (by rw [HS.out]; kernel_rfl) (by rw [HS.out]; rfl) (bV_one _) ?_; go_frame)
    refine bodyPost_ret (results_cell_row rfl _ _ w.heap.size 24 (zM.map bV).toArray (0, 0) (.array 32 5) rfl (setRow_heap _ _ _ _ _ _ F.out) Tryz.underlying24 rfl (by rw [HS.out]; kernel_rfl)) rfl ⟨rfl, below_setRow B.out (Nat.le_refl _) _⟩
  · have t0 : ((n : Int) == 0) = false := by rw [beq_eq_false_iff_ne]; omega
    have h1 : 1 ≤ n := by omega
    clear h0
    go_wp2_with fail
    go_loopw [0] (fun vl wr => rootInv R w vl wr) (fun vl _ => slLen vl)
    case atStart => exact ⟨l, HL.out.below B.out, by have := HN.out; omega, by have := HN.out; omega, HR.out.symm, B.out, F.out⟩
    case round =>
      clear F B HL HN HR
      obtain ⟨l', hl, hm1, hm2, hr, hb, hf⟩ := hrel
      obtain ⟨sp', cap', rfl⟩ := hl.shape
      obtain ⟨m, hm⟩ : ∃ m, m = l'.length := ⟨_, rfl⟩
      rw [← hm] at hl hm1 hm2 ⊢
      have HL := Lib.hid hl
      have HM := Lib.hid hm
      have HR := Lib.hid hr
      have B := Lib.hid hb
      have F := Lib.hid hf
      clear hl hm hr hb hf
      by_cases h1m : 1 < m
      · have t1 : (m : Int) > 1 := by omega
        go_wp2_with fail
        refine (row_above l' sp' m cap' _ (HK.out.below B.out) HL.out hm2).mono ?_
        rintro e w2 ⟨v2, rfl, ho, hb2⟩
        obtain ⟨sp2, cap2, rfl⟩ := ho.at.shape
        obtain ⟨m2, hm3⟩ : ∃ m2, m2 = (rowL prH l').length := ⟨_, rfl⟩
        have hm4 : m2 = (m + 1) / 2 := by rw [hm3, rowL_length, ← HM.out]
        have HO := Lib.hid ho
        rw [← hm3] at HO ⊢
        have HM3 := Lib.hid hm3
        have B2 := Lib.hid (B.out.trans (hb2.mono B.out.size))
        have F2 := Lib.hid (row_below F.out hb2)
        have hm5 : 1 ≤ m2 := by omega
        have hm6 : m2 < m := by omega
        have HR2 : Hid (rootL prH zM (rowL prH l') = R) := by
          show _ = _
          rw [← rootL_more prH zM (by rw [← HM.out]; exact h1m)]
          exact HR.out
        clear ho hm3 hb2 hm4
        go_wp2_with fail
        go_roundw
        case rel => exact ⟨rowL prH l', HO.out.at, by rw [← HM3.out]; exact hm5, by rw [← HM3.out]; omega, HR2.out, B2.out, F2.out⟩
        case measure => exact hm6
      · have t1 : ¬ (m : Int) > 1 := by omega
        obtain rfl : m = 1 := by omega
        obtain ⟨b, o, rfl, hbw, hg⟩ := HL.out.get (by omega)
        have X : Hid (wr.rangeAt b o (R.map bV)) := by
          have h := hg 0 (by omega)
          rw [Nat.zero_mul, Nat.add_zero, getD_any (by have := HM.out; omega), ← rootL_one prH zM (by have := HM.out; omega), HR.out] at h
          exact h
        clear hg
        go_wp2_with ((with_reducible show wpList _ _ _ _ _ _); first | (refine wpList_load_mid rfl 24 (.tmp 13) rfl b o rfl (R.map bV) _ X.out Tryz.underlying24 rfl (by rw [HLR.out]; kernel_rfl) ?_; go_frame) | (refine wpList_store_row rfl 24 (.tmp 2) (.tmp 14) rfl w.heap.size (R.map bV).toArray rfl rfl 24 _ F.out (by rw [HS.out]; kernel_rfl) (by rw [HS.out]; rfl) (bV_one _) ?_; go_frame))
        refine bodyPost_ret (results_cell_row rfl _ _ w.heap.size 24 (R.map bV).toArray (0, 0) (.array 32 5) rfl (setRow_heap _ _ _ _ _ _ F.out) Tryz.underlying24 rfl (by rw [HS.out]; kernel_rfl)) rfl ⟨rfl, below_setRow B.out (Nat.le_refl _) _⟩
end Go.Proofs.YtdamhoagiooicaaGreatDoor.Sha

/-
  What a loop that makes a way keeps. No conditions.
-/
namespace Go.Proofs.YtdamhoagiooicaaGreatDoor.Sha
open Go Go.RowKit
def pathInv (P : List (List UInt8)) (w : World) (va vl vp : Value) (wr : World) : Prop :=
  ∃ (k : Nat) (l' done : List (List UInt8)) (vb : Value), vb = vp ∧ va = .int .i64 k ∧ HsAt wr vl l' ∧ k < l'.length ∧ l'.length ≤ 1048576 ∧ done ++ pathL prH zM k l' = P ∧ HsOwn w.heap.size wr vb done ∧ Off vl vb.ownBlock ∧ Below w.heap.size w wr
theorem off_new {base : Nat} {w : World} {v u : Value} {l : List (List UInt8)} (h : HsOwn base w v l) (hu : ∀ g, u.ownBlock = some g → g < base) : Off v u.ownBlock := by
  cases hg : u.ownBlock with
  | none => exact Off.none v
  | some g => exact own_off h.1 (hu g hg)
theorem HsOwn.lt {base : Nat} {w : World} {v : Value} {l : List (List UInt8)} (h : HsOwn base w v l) : ∀ g, v.ownBlock = some g → g < w.heap.size := fun g hg => (h.1.lt g hg).2
end Go.Proofs.YtdamhoagiooicaaGreatDoor.Sha

/-
  The statements' own copy of a row of digests: new memory; nothing that was there turns. Conditions: the digests lie where the slice says; at most 2^20 of them.
-/
namespace Go.Proofs.YtdamhoagiooicaaGreatDoor.Sha
open Go Go.RowKit
def hsInv (l : List (List UInt8)) (w : World) (vs vi : Value) (wr : World) : Prop :=
  ∃ (k : Nat) (vb : Value), vb = vs ∧ vi = .int .i64 k ∧ k ≤ l.length ∧ HsOwn w.heap.size wr vb (l.take k) ∧ Below w.heap.size w wr
end Go.Proofs.YtdamhoagiooicaaGreatDoor.Sha
