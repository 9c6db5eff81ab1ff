/-
  Texts of this proof joined into one file: TxBoundsWalk, Hs, RefSmall. What each holds, and under which conditions, its own first sentence tells.
-/
import Derived.Deep.OwnRows
import Derived.Test.YtcghbogkplcohaaDoorMg08
import Derived.Test.YtcghbogkplcohaaDoorMg05
import Derived.Test.YtcghbogkplcohaaDoorMg06
import Derived.Test.YtcghbogkplcohaaDoorMg04
import Derived.Test.YtcghbogkplcohaaDoorMg07
import Derived.Test.YtcghbogkplcohaaDoorMg03
/-
  The statement on how many inputs and outputs, how long a key, how great an amount a transaction may have answers true. Condition: the errors are there.
-/
namespace Go.Proofs.YtcghbogkplcohaaDoor.Sha
open Go Go.RowKit
def bdN (i : Nat) : TIn := ⟨zH, i + 1, [], 0⟩
def bdI (k : Nat) : List TIn := (List.range k).map bdN
def bdY : TOut := ⟨0, zH⟩
def bdO (k : Nat) : List TOut := List.replicate k bdY
def bd0 (r : Nat) : TTx := ⟨0, bdI (49 + r), bdO 1, 0⟩
def bd1 (r : Nat) : TTx := ⟨0, bdI 1, bdO (49 + r), 0⟩
def bdK (r : Nat) : TIn := ⟨zH, 1, List.replicate (79 + r) 0, 0⟩
def bd2 (r : Nat) : TTx := ⟨0, [bdK r], bdO 1, 0⟩
def bdV (r : Nat) : TOut := ⟨2099999999999999 + r, zH⟩
def bd3 (r : Nat) : TTx := ⟨0, bdI 1, [bdV r], 0⟩
def bd4 : TTx := ⟨0, [bdN 0, bdN 0], bdO 1, 0⟩
set_option maxRecDepth 100000 in
theorem bd0_check : ∀ r, r < 4 → checkC (bd0 r) = if r < 2 then 0 else 4 := by decide +kernel
set_option maxRecDepth 100000 in
theorem bd1_check : ∀ r, r < 4 → checkC (bd1 r) = if r < 2 then 0 else 4 := by decide +kernel
set_option maxRecDepth 100000 in
theorem bd2_check : ∀ r, r < 4 → checkC (bd2 r) = if r < 2 then 0 else 14 := by decide +kernel
set_option maxRecDepth 100000 in
theorem bd3_check : ∀ r, r < 4 → checkC (bd3 r) = if r < 2 then 0 else 5 := by decide +kernel
theorem bd4_check : checkC bd4 = 6 := by decide +kernel
theorem bdN_ok (i : Nat) (h : i < 100) : InOk (bdN i) := ⟨rfl, by show i + 1 ≤ _; omega, Nat.zero_le _⟩
theorem bdI_succ (k : Nat) : bdI (k + 1) = bdI k ++ [bdN k] := by simp [bdI, List.range_succ]
theorem bdO_succ (k : Nat) : bdO (k + 1) = bdO k ++ [bdY] := by simp [bdO, List.replicate_succ']
theorem bdI_length (k : Nat) : (bdI k).length = k := by simp [bdI]
theorem bdO_length (k : Nat) : (bdO k).length = k := by simp [bdO]
theorem bdI_ok (k : Nat) (h : k < 100) : InsOk (bdI k) := fun x hx => by
  obtain ⟨i, hi, rfl⟩ := List.mem_map.1 hx
  exact bdN_ok i (by have := List.mem_range.1 hi; omega)
theorem bdY_ok : OutOk bdY := ⟨rfl, Nat.zero_le _⟩
theorem bdO_ok (k : Nat) : OutsOk (bdO k) := fun x hx => by rw [(List.mem_replicate.1 hx).2]; exact bdY_ok
theorem bd_small {l : List TIn} {m : List TOut} (h1 : InsOk l) (h2 : l.length ≤ 60) (h3 : KeysLe l 90) (h4 : OutsOk m) (h5 : m.length ≤ 60) : TxSmall ⟨0, l, m, 0⟩ :=
  ⟨⟨⟨Nat.zero_le _, Nat.zero_le _⟩, h1, h4, fun x hx => Nat.le_trans (h3 x hx) (by omega), by show l.length ≤ _; omega, by show m.length ≤ _; omega⟩, by show l.length ≤ _; omega, by show m.length ≤ _; omega, fun x hx => Nat.le_trans (h3 x hx) (by omega)⟩
theorem bdI_keys (k : Nat) : KeysLe (bdI k) 90 := fun x hx => by
  obtain ⟨i, _, rfl⟩ := List.mem_map.1 hx
  exact Nat.zero_le _
theorem bd0_small (r : Nat) (h : r < 4) : TxSmall (bd0 r) := bd_small (bdI_ok _ (by omega)) (by rw [bdI_length]; omega) (bdI_keys _) (bdO_ok _) (by rw [bdO_length]; omega)
theorem bd1_small (r : Nat) (h : r < 4) : TxSmall (bd1 r) := bd_small (bdI_ok _ (by omega)) (by rw [bdI_length]; omega) (bdI_keys _) (bdO_ok _) (by rw [bdO_length]; omega)
theorem bdK_ok (r : Nat) : InOk (bdK r) := ⟨rfl, by show 1 ≤ _; omega, Nat.zero_le _⟩
theorem bd2_small (r : Nat) (h : r < 4) : TxSmall (bd2 r) := bd_small (fun x hx => by rw [List.mem_singleton.1 hx]; exact bdK_ok r) (by simp) (fun x hx => by rw [List.mem_singleton.1 hx]; simp [bdK]; omega) (bdO_ok _) (by rw [bdO_length]; omega)
theorem bdV_ok (r : Nat) (h : r < 4) : OutOk (bdV r) := ⟨rfl, by show 2099999999999999 + r ≤ _; omega⟩
theorem bd3_small (r : Nat) (h : r < 4) : TxSmall (bd3 r) := bd_small (bdI_ok _ (by omega)) (by rw [bdI_length]; omega) (bdI_keys _) (fun x hx => by rw [List.mem_singleton.1 hx]; exact bdV_ok r h) (by simp)
theorem bd4_small : TxSmall bd4 := bd_small (fun x hx => by simp only [List.mem_cons, List.not_mem_nil, or_false] at hx; rcases hx with rfl | rfl <;> exact bdN_ok 0 (by omega)) (by simp) (fun x hx => by simp only [List.mem_cons, List.not_mem_nil, or_false] at hx; rcases hx with rfl | rfl <;> exact Nat.zero_le _) (bdO_ok _) (by rw [bdO_length]; omega)
/-- A row that lies in memory by itself is one's own. -/
theorem own_of_row {w : World} {base g n size : Nat} {e : TypeId} {xs : List Value} (h : w.heap[g]? = some (.cells xs.toArray e (0, 0))) (hb : base ≤ g) (hl : xs.length = n * size) (hn : n ≤ maxLen) : w.ownsRow base e size (.slice (some ⟨g, 0, none⟩) n n) n xs :=
  ⟨hl, .inr ⟨g, n, xs.toArray, rfl, hb, h, Nat.le_refl _, hn, by simpa using hl, by rw [List.toList_toArray, ← hl, List.take_length]⟩⟩
theorem nil_off (q : Option Nat) : Off (.slice none 0 0) q := fun sp n cap hv => by cases hv
/-- While inputs, or outputs, are appended. -/
def BdAt (w : World) (gI gO g6 k m : Nat) (iv ov : Value) (wr : World) : Prop :=
  InsOwn gI wr iv (bdI k) (List.replicate k (.slice none 0 0)) ∧ OutsOwn gI wr ov (bdO m) ∧ (∀ g, iv.ownBlock = some g → g = gI ∨ g6 < g) ∧ (∀ g, ov.ownBlock = some g → g = gO ∨ g6 < g) ∧ iv.ownBlock ≠ ov.ownBlock
    ∧ wr.heap[g6]? = some (.cells [nV 0, iv, ov, nV 0].toArray 32 (0, 0)) ∧ Below w.heap.size w wr ∧ g6 < wr.heap.size
def BdIn (n : Nat) (w : World) (gI gO g6 : Nat) (vi : Value) (wr : World) : Prop := ∃ (k : Nat) (iv : Value), k ≤ n ∧ 1 ≤ k ∧ vi = .int .i64 k ∧ BdAt w gI gO g6 k 1 iv (.slice (some ⟨gO, 0, none⟩) 1 1) wr
def BdOut (n : Nat) (w : World) (gI gO g6 : Nat) (vi : Value) (wr : World) : Prop := ∃ (k : Nat) (ov : Value), k ≤ n ∧ 1 ≤ k ∧ vi = .int .i64 k ∧ BdAt w gI gO g6 1 k (.slice (some ⟨gI, 0, none⟩) 1 1) ov wr
theorem BdAt.tx {w wr : World} {gI gO g6 k m : Nat} {iv ov : Value} (h : BdAt w gI gO g6 k m iv ov wr) : TxAt wr (.agg [nV 0, iv, ov, nV 0].toArray) ⟨0, bdI k, bdO m, 0⟩ := ⟨⟨Nat.zero_le _, Nat.zero_le _⟩, iv, ov, rfl, h.1.at, h.2.1.at⟩
/-- One more input. -/
theorem BdAt.addI {w wr wn w1 w2 : World} {gI gO g6 k : Nat} {iv ov v2 : Value} (h : BdAt w gI gO g6 k 1 iv ov wr) (hlow : w.heap.size ≤ gI) (hg : gI < g6) (hk : k < 90) (hb : Below wr.heap.size wr wn) (ao : w1.ownsRow gI 42 35 v2 (k + 1) (insL (bdI k) (List.replicate k (.slice none 0 0)) ++ inL (bdN k) (.slice none 0 0))) (ag : wn.grownBy w1 iv.ownBlock)
    (at' : v2.ownBlock = iv.ownBlock ∨ v2.ownBlock = some wn.heap.size) (f : w2.heap[g6]? = some (.cells [nV 0, v2, ov, nV 0].toArray 32 (0, 0))) (q2 : w1.grownBy w2 (some g6)) (hov : ov.ownBlock = some gO) (hgo : gO < g6) (hgo2 : gI ≤ gO) : BdAt w gI gO g6 (k + 1) 1 v2 ov w2 := by
  obtain ⟨h1, h2, h3, h4, h5, h6, h7, h8⟩ := h
  have sz := hb.size
  have h1' := h1.keep hb
  have e : (bdI k).length = k := bdI_length k
  have p1 := h1'.push (bdN_ok k (by omega)) (nil_key _) (fun q _ => nil_off _) (nil_off _) (by rw [e]; exact ao) ag at'
  rw [← bdI_succ, show List.replicate k (Value.slice none 0 0) ++ [.slice none 0 0] = List.replicate (k + 1) (.slice none 0 0) by rw [List.replicate_succ']] at p1
  have lt := h1'.2.1.lt
  have hv2 : ∀ g, v2.ownBlock = some g → g = gI ∨ g6 < g := fun g hgg => by
    rcases at' with e1 | e1
    · exact h3 g (by rw [← e1]; exact hgg)
    · rw [e1] at hgg; have := Option.some.inj hgg; omega
  have n6 : v2.ownBlock ≠ some g6 := fun e1 => by have := hv2 g6 e1; omega
  have no : v2.ownBlock ≠ ov.ownBlock := fun e1 => by
    rcases at' with e2 | e2
    · exact h5 (by rw [← e2]; exact e1)
    · rw [e2, hov] at e1; have := Option.some.inj e1; omega
  refine ⟨⟨p1.1, p1.2.1.kept q2 (.inr n6), p1.2.2.1, fun i x kv hx hkv => ⟨(p1.2.2.2 i x kv hx hkv).1.off ?_ q2, (p1.2.2.2 i x kv hx hkv).2⟩⟩, ?_, hv2, h4, no, f, ?_, ?_⟩
  · have : kv = .slice none 0 0 := (List.mem_replicate.1 (List.mem_of_getElem? hkv)).2
    rw [this]
    exact nil_off _
  · exact ((h2.keep hb).kept ag (.inr (fun e1 => h5 e1.symm))).kept q2 (.inr (by rw [hov]; intro e1; have := Option.some.inj e1; omega))
  · refine ((h7.trans (hb.mono h7.size)).grown ag (Nat.le_trans h7.size sz) (fun q hq => ?_)).grown q2 (Nat.le_trans (Nat.le_trans h7.size sz) ag.size) (fun q hq => by cases hq; omega)
    have := (lt q hq).1
    omega
  · exact Nat.lt_of_lt_of_le (Nat.lt_of_lt_of_le h8 sz) (Nat.le_trans ag.size q2.size)
/-- One more output. -/
theorem BdAt.addO {w wr wn w1 w2 : World} {gI gO g6 k : Nat} {iv ov v2 : Value} (h : BdAt w gI gO g6 1 k iv ov wr) (hlow : w.heap.size ≤ gI) (hg : gI < g6) (hgo : gO < g6) (hb : Below wr.heap.size wr wn) (ao : w1.ownsRow gI 44 33 v2 (k + 1) (outsL (bdO k) ++ outL bdY)) (ag : wn.grownBy w1 ov.ownBlock)
    (at' : v2.ownBlock = ov.ownBlock ∨ v2.ownBlock = some wn.heap.size) (f : w2.heap[g6]? = some (.cells [nV 0, iv, v2, nV 0].toArray 32 (0, 0))) (q2 : w1.grownBy w2 (some g6)) (hiv : iv.ownBlock = some gI) : BdAt w gI gO g6 1 (k + 1) iv v2 w2 := by
  obtain ⟨h1, h2, h3, h4, h5, h6, h7, h8⟩ := h
  have sz := hb.size
  have h2' := h2.keep hb
  have e : (bdO k).length = k := bdO_length k
  have p1 := h2'.push bdY_ok (by rw [e]; exact ao)
  rw [← bdO_succ] at p1
  have lt := h2'.1.lt
  have hv2 : ∀ g, v2.ownBlock = some g → g = gO ∨ g6 < g := fun g hgg => by
    rcases at' with e1 | e1
    · exact h4 g (by rw [← e1]; exact hgg)
    · rw [e1] at hgg; have := Option.some.inj hgg; omega
  have n6 : v2.ownBlock ≠ some g6 := fun e1 => by have := hv2 g6 e1; omega
  have no : iv.ownBlock ≠ v2.ownBlock := fun e1 => by
    rcases at' with e2 | e2
    · exact h5 (by rw [← e2]; exact e1)
    · rw [e2, hiv] at e1; have := Option.some.inj e1; omega
  have k1 : InsOwn gI wn iv (bdI 1) (List.replicate 1 (.slice none 0 0)) := h1.keep hb
  have hk : ∀ (i : Nat) kv, (List.replicate 1 (Value.slice none 0 0))[i]? = some kv → kv = .slice none 0 0 := fun i kv hkv => (List.mem_replicate.1 (List.mem_of_getElem? hkv)).2
  have k2 : InsOwn gI w1 iv (bdI 1) (List.replicate 1 (.slice none 0 0)) := ⟨k1.1, k1.2.1.kept ag (.inr h5), k1.2.2.1, fun i x kv hx hkv => ⟨(k1.2.2.2 i x kv hx hkv).1.off (by rw [hk i kv hkv]; exact nil_off _) ag, (k1.2.2.2 i x kv hx hkv).2⟩⟩
  refine ⟨⟨k2.1, k2.2.1.kept q2 (.inr (by rw [hiv]; intro e1; have := Option.some.inj e1; omega)), k2.2.2.1, fun i x kv hx hkv => ⟨(k2.2.2.2 i x kv hx hkv).1.off (by rw [hk i kv hkv]; exact nil_off _) q2, (k2.2.2.2 i x kv hx hkv).2⟩⟩, p1.kept q2 (.inr n6), h3, hv2, no, f, ?_, ?_⟩
  · refine ((h7.trans (hb.mono h7.size)).grown ag (Nat.le_trans h7.size sz) (fun q hq => ?_)).grown q2 (Nat.le_trans (Nat.le_trans h7.size sz) ag.size) (fun q hq => by cases hq; omega)
    have := (lt q hq).1
    omega
  · exact Nat.lt_of_lt_of_le (Nat.lt_of_lt_of_le h8 sz) (Nat.le_trans ag.size q2.size)
end Go.Proofs.YtcghbogkplcohaaDoor.Sha

/-
  Rows of digests: a slice that reads as a list of digests (32 cells each), a row of one's own that grows. No conditions beyond those that each states.
-/
namespace Go.Proofs.YtcghbogkplcohaaDoor.Sha
open Go Go.RowKit
theorem info_hash : (Tryd.prog.info? 23).map (fun i => (i.zero, i.size, i.bytes)) = some (some (.agg (List.replicate 32 (bV 0)).toArray), 32, 32) := by kernel_rfl
/-- Digests of 32 bytes each. -/
def HsOk (l : List (List UInt8)) : Prop := ∀ x ∈ l, x.length = 32
theorem HsOk.get {l : List (List UInt8)} (h : HsOk l) {i : Nat} (hi : i < l.length) : (l.getD i []).length = 32 := by
  rw [List.getD_eq_getElem?_getD, List.getElem?_eq_getElem hi]
  exact h _ (List.getElem_mem _)
theorem HsOk.snoc {l : List (List UInt8)} (h : HsOk l) {x : List UInt8} (hx : x.length = 32) : HsOk (l ++ [x]) := fun y hy => by
  rcases List.mem_append.1 hy with hy | hy
  · exact h y hy
  · rw [List.mem_singleton.1 hy]; exact hx
/-- Their cells. -/
def hsL (l : List (List UInt8)) : List Value := l.flatMap fun x => x.map bV
theorem hsL_snoc (l : List (List UInt8)) (x : List UInt8) : hsL (l ++ [x]) = hsL l ++ x.map bV := by simp [hsL, List.flatMap_append]
theorem hsL_length : ∀ (l : List (List UInt8)), HsOk l → (hsL l).length = l.length * 32
  | [], _ => rfl
  | y :: l, ho => by
    have ih := hsL_length l (fun z hz => ho z (List.mem_cons_of_mem _ hz))
    have hy := ho y List.mem_cons_self
    simp only [hsL] at ih
    simp only [hsL, List.flatMap_cons, List.length_append, List.length_map, ih, hy, List.length_cons]
    omega
theorem hsL_get : ∀ (l : List (List UInt8)) (i : Nat) (y : List UInt8), HsOk l → l[i]? = some y → ∀ j, j < 32 → (hsL l)[i * 32 + j]? = (y.map bV)[j]?
  | z :: l, 0, y, ho, hy, j, hj => by
    simp only [List.getElem?_cons_zero, Option.some.injEq] at hy
    subst hy
    rw [Nat.zero_mul, Nat.zero_add, hsL, List.flatMap_cons, List.getElem?_append_left (by rw [List.length_map, ho z List.mem_cons_self]; exact hj)]
  | z :: l, i + 1, y, ho, hy, j, hj => by
    have e : (z.map bV).length = 32 := by rw [List.length_map, ho z List.mem_cons_self]
    rw [hsL, List.flatMap_cons, List.getElem?_append_right (by omega), e, show (i + 1) * 32 + j - 32 = i * 32 + j by omega]
    exact hsL_get l i y (fun z hz => ho z (List.mem_cons_of_mem _ hz)) (by simpa using hy) j hj
  | [], _, _, _, hy, _, _ => by simp at hy
/-- The slice v reads as these digests. -/
def HsAt (w : World) (v : Value) (l : List (List UInt8)) : Prop :=
  HsOk l ∧ ∃ sp cap, v = .slice sp l.length cap ∧ l.length ≤ cap ∧ (0 < l.length → ∃ b o, sp = some ⟨b, o, none⟩ ∧ ∀ i x, l[i]? = some x → w.rangeAt b (o + i * 32) (x.map bV))
theorem HsAt.below {w w' : World} {v : Value} {l : List (List UInt8)} (h : HsAt w v l) (hb : Below w.heap.size w w') : HsAt w' v l := by
  obtain ⟨h0, sp, cap, h1, h2, h3⟩ := h
  refine ⟨h0, sp, cap, h1, h2, fun h0 => ?_⟩
  obtain ⟨b, o, h4, h5⟩ := h3 h0
  exact ⟨b, o, h4, fun i x hx => range_below (h5 i x hx) hb⟩
theorem HsAt.nil (w : World) (sp : Option Addr) (cap : Nat) : HsAt w (.slice sp 0 cap) [] := ⟨fun x hx => by simp at hx, sp, cap, rfl, by simp, fun h => by simp at h⟩
theorem HsAt.len {w : World} {sp : Option Addr} {n cap : Nat} {l : List (List UInt8)} (h : HsAt w (.slice sp n cap) l) : n = l.length ∧ n ≤ cap := by
  obtain ⟨_, sp', cap', hv, hc, _⟩ := h
  cases hv
  exact ⟨rfl, hc⟩
/-- Where one of them lies. -/
theorem HsAt.get {w : World} {sp : Option Addr} {n cap : Nat} {l : List (List UInt8)} (h : HsAt w (.slice sp n cap) l) (h0 : 0 < n) : ∃ b o, sp = some ⟨b, o, none⟩ ∧ b < w.heap.size ∧ ∀ i, i < n → w.rangeAt b (o + i * 32) ((l.getD i []).map bV) := by
  obtain ⟨ho, sp', cap', hv, hc, hr⟩ := h
  cases hv
  obtain ⟨b, o, hs, hx⟩ := hr h0
  have hg : ∀ i, i < l.length → w.rangeAt b (o + i * 32) ((l.getD i []).map bV) := fun i hi => hx i _ (by rw [List.getD_eq_getElem?_getD, List.getElem?_eq_getElem hi]; rfl)
  refine ⟨b, o, hs, ?_, hg⟩
  obtain ⟨x, hx0⟩ : ∃ x, (l.getD 0 [])[0]? = some x := ⟨_, List.getElem?_eq_getElem (by rw [HsOk.get ho h0]; omega)⟩
  exact World.block_lt_of_cell? w _ (hg 0 h0 0 (bV x) (by rw [List.getElem?_map, hx0]; rfl))
/-- A row of digests of one's own. -/
def HsOwn (base : Nat) (w : World) (v : Value) (l : List (List UInt8)) : Prop := w.ownsRow base 23 32 v l.length (hsL l) ∧ HsOk l
theorem HsOwn.nil (base : Nat) (w : World) : HsOwn base w (.slice none 0 0) [] := ⟨World.ownsRow_nil _ _ _ _, fun _ h => absurd h (by simp)⟩
section
variable {base : Nat} {w w' : World} {v v' : Value} {l : List (List UInt8)}
theorem HsOwn.keep (h : HsOwn base w v l) (hb : Below w.heap.size w w') : HsOwn base w' v l := ⟨own_kept h.1 hb, h.2⟩
theorem HsOwn.kept (h : HsOwn base w v l) {q : Option Nat} (hg : w.grownBy w' q) (hb : v.ownBlock = none ∨ v.ownBlock ≠ q) : HsOwn base w' v l := ⟨h.1.kept hg hb, h.2⟩
theorem HsOwn.push {x : List UInt8} (ho : HsOk l) (hx : x.length = 32) (hown : w'.ownsRow base 23 32 v' (l.length + 1) (hsL l ++ x.map bV)) : HsOwn base w' v' (l ++ [x]) := by
  refine ⟨?_, ho.snoc hx⟩
  rw [hsL_snoc, List.length_append]
  exact hown
/-- Such a row as a slice of digests. -/
theorem HsOwn.at (h : HsOwn base w v l) : HsAt w v l := by
  obtain ⟨h2, h3⟩ := h
  refine ⟨h3, ?_⟩
  rcases h2.2 with ⟨hv, h0⟩ | ⟨g, cap, cur, hv, hb, hc, hn, hm, hs, ht⟩
  · exact ⟨none, 0, by rw [hv, h0], by omega, fun h => by omega⟩
  · subst hv
    refine ⟨_, cap, rfl, hn, fun h0 => ⟨g, 0, rfl, fun i x hx => ?_⟩⟩
    have hi := (List.getElem?_eq_some_iff.1 hx).1
    have hxo := h3 x (List.mem_of_getElem? hx)
    intro j u hj
    have hj32 : j < 32 := by
      have := (List.getElem?_eq_some_iff.1 hj).1
      rwa [List.length_map, hxo] at this
    rw [Nat.zero_add, h2.cellAt (i * 32 + j) (by omega), hsL_get l i x h3 hx j hj32]
    exact hj
end
/-- A part of such a slice. -/
theorem HsAt.cut {w : World} {sp : Option Addr} {n cap : Nat} {l : List (List UInt8)} (h : HsAt w (.slice sp n cap) l) (i r : Nat) (h1 : i ≤ r) (h2 : r ≤ n) : HsAt w (sliced sp i r cap 32) ((l.take r).drop i) := by
  have hn := h.len
  have hok := h.1
  have hl : ((l.take r).drop i).length = r - i := by rw [List.length_drop, List.length_take]; omega
  refine ⟨fun x hx => hok x (List.mem_of_mem_take (List.mem_of_mem_drop hx)), if cap = i then sp else sp.map (·.add (i * 32)), cap - i, by rw [sliced, hl], by omega, fun h0 => ?_⟩
  obtain ⟨b, o, hs, _, _⟩ := h.get (by omega)
  obtain ⟨_, sp', cap', hv, hc, hr⟩ := h
  cases hv
  obtain ⟨b, o, hs, hx⟩ := hr (by omega)
  subst hs
  refine ⟨b, o + i * 32, by rw [if_neg (by omega)]; simp [Addr.add_mid], fun j x hj => ?_⟩
  have hj2 : j < r - i := by have := (List.getElem?_eq_some_iff.1 hj).1; omega
  rw [List.getElem?_drop, List.getElem?_take_of_lt (by omega)] at hj
  have := hx (i + j) x hj
  rwa [show o + (i + j) * 32 = o + i * 32 + j * 32 by omega] at this
/-- One digest in a row of its own. -/
theorem hs_one {w : World} {g : Nat} {x : List UInt8} {T : TypeId} (h : w.heap[g]? = some (.cells (x.map bV).toArray T (0, 0))) : ∀ j u, (x.map bV)[j]? = some u → w.cell? ((⟨g, 0, none⟩ : Addr).add j) = some u := fun j u hj => by
  rw [Addr.add_mid]
  exact range_of_box h j u hj
end Go.Proofs.YtcghbogkplcohaaDoor.Sha

/-
  Small functions of the statements' own SHA-256: a word turned right, the table of the rounds' words, as the chapter gives them. No conditions.
-/
namespace Go.Proofs.YtcghbogkplcohaaDoor.Sha
open Go Go.RowKit
theorem right_fact (x : UInt32) (n : Nat) (h1 : 1 ≤ n) (h2 : n ≤ 31) : bits .or .u32 (wv x / 2 ^ n) (wv x * 2 ^ (32 - n) % 4294967296) = wv (rotr x n) := by
  rw [← IntKind.wrap_u32', wv_shl x _ (by omega), wv_shr x n (by omega), wv_or]
  rfl
theorem wv_sum3 (a b c : UInt32) : (wv a + wv b + wv c) % 4294967296 = wv (a + b + c) := by rw [← wv_sum, ← wv_sum]; omega
theorem wv_sum4 (a b c d : UInt32) : (wv a + wv b + wv c + wv d) % 4294967296 = wv (a + b + c + d) := by rw [← wv_sum, ← wv_sum3]; omega
theorem wv_not (x : UInt32) : bits .xor .u32 IntKind.u32.max (wv x) = wv (~~~x) := by
  rw [show IntKind.u32.max = wv 4294967295 from rfl, wv_xor, show (4294967295 : UInt32) = -1 from rfl, UInt32.neg_one_xor]
end Go.Proofs.YtcghbogkplcohaaDoor.Sha
