/-
  Texts of this proof joined into one file: HdId, BlIds, SpLock, BlStart, TwMath, CtNew, RefTreeOf. What each holds, and under which conditions, its own first sentence tells.
-/
import Derived.IntWalk
import Derived.Test.YtnhmjlljnckieaaDoorMg13
import Derived.Test.YtnhmjlljnckieaaDoorMg10
import Derived.Test.YtnhmjlljnckieaaDoorMg03
import Derived.Test.YtnhmjlljnckieaaDoorMg12
import Derived.Test.YtnhmjlljnckieaaDoorMg04
import Derived.Test.YtnhmjlljnckieaaDoorMg11
import Derived.Test.YtnhmjlljnckieaaDoorMg07
import Derived.Test.YtnhmjlljnckieaaDoorMg06
/-
  Package head answers the digest that a header goes by. Nothing that was there turns. Conditions: a header of digests of 32 bytes, the table is there.
-/
namespace Go.Proofs.YtnhmjlljnckieaaDoor.Sha
open Go Go.RowKit
set_option maxHeartbeats 1000000 in
set_option maxRecDepth 100000 in
theorem id_hd (h : THd) (hh : HdOk h) (w : World) (hk : KTab w) :
    Calls Tryd.prog 21 #[.agg (hdL h).toArray] w fun e w' => e = .returned (.agg ((hdId h).map bV).toArray) ∧ Below w.heap.size w w' := by
  have HH := Lib.hid hh
  have HK := Lib.hid hk
  have HOne := Lib.hid (bV_one (hdId h))
  have HLen : Hid ((((hdId h).map bV).toArray).size = 32) := by show _ = _; simp [hdId_length]
  obtain ⟨dg, hdg⟩ : ∃ dg, dg = ((hdId h).map bV).toArray := ⟨_, rfl⟩
  rw [← hdg] at HOne HLen ⊢
  have HD := Lib.hid hdg
  obtain ⟨l0, hl0⟩ : ∃ l, l = hdL h := ⟨_, rfl⟩
  have LN0 : Hid (l0.length = 68) := by show _ = _; rw [hl0]; exact hdL_length hh
  have BY : Hid (∀ W, Calls Tryd.prog 33 #[.agg l0.toArray] W fun e w' => ∃ v, e = .returned v ∧ CopyB W w' v (hdB h)) := fun W => by rw [hl0]; exact hdbytes_any h HH.out W
  rw [← hl0]
  clear hdg hk hh hl0
  go_enter Tryd.func21, Tryd.ntmps21
  go_upto_region 1 with fail
  have f1 := row_below (heap_alloc_new w (.cells l0.toArray 32 (0, 0))) ((Below.refl _ _).alloc (Nat.le_refl _) (.cells (List.replicate 32 (bV 0)).toArray 30))
  have f2 := heap_alloc_new (w.alloc (.cells l0.toArray 32 (0, 0))) (.cells (List.replicate 32 (bV 0)).toArray 30)
  have b1 := ((Below.refl w.heap.size w).alloc (Nat.le_refl _) (.cells l0.toArray 32 (0, 0))).alloc (by simp) (.cells (List.replicate 32 (bV 0)).toArray 30)
  rw [World.size_alloc] at f2
  generalize hw1 : World.alloc _ _ = w1
  have e1 : (w.alloc (.cells l0.toArray 32 (0, 0))).alloc (.cells (List.replicate 32 (bV 0)).toArray 30) = w1 := hw1
  rw [e1] at f1 f2 b1
  have F1 := Lib.hid f1
  have F2 := Lib.hid f2
  have B1 := Lib.hid b1
  clear f1 f2 b1 hw1 e1
  go_wp2_with ((with_reducible show wpList _ _ _ _ _ _); refine wpList_load_row rfl 32 (.tmp 1) rfl w.heap.size rfl 32 l0.toArray (0, 0) _ F1.out Tryd.underlying32 rfl (by show _ = some l0.length; rw [LN0.out] <;> kernel_rfl) ?_; go_frame)
  refine (BY.out w1).mono ?_
  rintro e w2 ⟨v2, rfl, hc⟩
  have S2 := Lib.hid hc.src
  have B2 := Lib.hid (B1.out.trans (hc.2.mono B1.out.size))
  have F2 := Lib.hid (row_below F2.out hc.2)
  have HLn : Hid ((hdB h).length ≤ 576460752303423487) := by show _ ≤ _; rw [hdB_length HH.out]; omega
  clear hc
  go_wp2_with fail
  have TW := twice_any (hdB h) v2 w2 (HK.out.below B2.out) S2.out HLn.out
  change Calls _ _ _ _ (fun e w' => e = .returned (.agg ((hdId h).map bV).toArray) ∧ Below w2.heap.size w2 w') at TW
  rw [← HD.out] at TW
  refine TW.mono ?_
  rintro e w3 ⟨rfl, hb3⟩
  clear TW
  have B3 := Lib.hid (B2.out.trans (hb3.mono B2.out.size))
  have F3 := Lib.hid (row_below F2.out hb3)
  clear hb3
  go_wp2_with ((with_reducible show wpList _ _ _ _ _ _); refine wpList_store_row rfl 30 (.tmp 2) (.tmp 5) rfl (w.heap.size + 1) dg rfl rfl 30 _ F3.out (by rw [HLen.out]; kernel_rfl) (by rw [HLen.out]; rfl) HOne.out ?_; go_frame)
  refine bodyPost_ret (results_cell_row rfl _ _ (w.heap.size + 1) 30 dg (0, 0) (.array 32 5) rfl (setRow_heap _ _ _ _ _ _ F3.out) Tryd.underlying30 rfl (by rw [HLen.out]; kernel_rfl)) rfl ⟨rfl, below_setRow B3.out (Nat.le_succ _) _⟩
end Go.Proofs.YtnhmjlljnckieaaDoor.Sha

/-
  Package block answers the digests that a block's transactions go by, their root, its own. New memory; nothing that was there turns. Conditions: a block of a few transactions that lies in memory; the table is there.
-/
namespace Go.Proofs.YtnhmjlljnckieaaDoor.Sha
open Go Go.RowKit
/-- The digests that transactions go by. -/
def idsL (l : List TTx) : List (List UInt8) := l.map fun t => sha (sha (txB t))
theorem idsL_ok (l : List TTx) : HsOk (idsL l) := fun y hy => by
  obtain ⟨t, _, rfl⟩ := List.mem_map.1 hy
  exact sha_length _
theorem idsL_snoc {l : List TTx} {k : Nat} {t : TTx} (h : l[k]? = some t) : idsL (l.take (k + 1)) = idsL (l.take k) ++ [sha (sha (txB t))] := by
  unfold idsL
  rw [List.take_add_one, h, List.map_append]
  rfl
theorem idsL_length (l : List TTx) : (idsL l).length = l.length := by simp [idsL]
def IdInv (n : Nat) (l : List TTx) (w1 : World) (vb vi : Value) (wr : World) : Prop :=
  ∃ (k : Nat) (vq : Value), vq = vb ∧ k ≤ n ∧ vi = .int .i64 k ∧ HsOwn w1.heap.size wr vq (idsL (l.take k)) ∧ Below w1.heap.size w1 wr
/-- The root of a block's transactions. -/
def blRoot (x : TBlk) : List UInt8 := rootL prH zM (idsL x.txs)
theorem blRoot_length (x : TBlk) : (blRoot x).length = 32 := rootL_len _ _ rfl (idsL_ok _)
end Go.Proofs.YtnhmjlljnckieaaDoor.Sha

/-
  spend.Lock answers a key's digest; spend.Opens tells whether a key of at most 80 bytes has that lock. Nothing that was there turns. Conditions: the bytes lie where the slice says, the table is there, fewer than 2^59 bytes.
-/
namespace Go.Proofs.YtnhmjlljnckieaaDoor.Sha
open Go Go.RowKit
/-- Opens. -/
def opensL (bs l : List UInt8) : Bool := decide (bs.length ≤ 80) && decide (sha bs = l)
end Go.Proofs.YtnhmjlljnckieaaDoor.Sha

/-
  Package block makes the block that each chain begins with. New memory; nothing that was there turns. Condition: the table is there.
-/
namespace Go.Proofs.YtnhmjlljnckieaaDoor.Sha
open Go Go.RowKit
def startH : THd := ⟨1, zH, zH, 1000, 1, 0⟩
def startT : TTx := firstT 0 0 (sha []) []
/-- The block that each chain begins with, its root not yet set. -/
def startX0 : TBlk := ⟨startH, [startT]⟩
def startX : TBlk := ⟨{ startH with root := blRoot startX0 }, [startT]⟩
theorem startH_ok : HdOk startH := ⟨by decide, rfl, rfl, by decide, by decide, by decide⟩
theorem startX_ok : HdOk startX.head := ⟨by decide, rfl, blRoot_length startX0, by decide, by decide, by decide⟩
theorem firstT_came {h32 val : Nat} {lock ex : List UInt8} (h1 : h32 ≤ 4294967295) (hv : val ≤ 18446744073709551615) (hl : lock.length = 32) (he : ex.length ≤ 99000) : TxSmall (firstT h32 val lock ex) := by
  refine ⟨⟨⟨by show 1 ≤ _; omega, by show 0 ≤ _; omega⟩, ?_, ?_, ?_, by simp [firstT], by simp [firstT]⟩, by simp [firstT], by simp [firstT], ?_⟩
  · intro y hy
    simp only [firstT, List.mem_singleton] at hy
    rw [hy]
    exact firstX_ok ex h1
  · intro y hy
    simp only [firstT, List.mem_singleton] at hy
    rw [hy]
    exact ⟨hl, hv⟩
  · intro y hy
    simp only [firstT, List.mem_singleton] at hy
    rw [hy]
    simp only [firstX, List.length_append, leB_length]
    omega
  · intro y hy
    simp only [firstT, List.mem_singleton] at hy
    rw [hy]
    simp only [firstX, List.length_append, leB_length]
    omega
theorem startT_small : TxSmall startT := firstT_came (by omega) (by omega) (sha_length _) (by simp)
theorem startX0_small : BlkSmall startX0 := ⟨fun t ht => by simp only [startX0, List.mem_singleton] at ht; rw [ht]; exact startT_small, by simp [startX0]⟩
theorem startX_small : BlkSmall startX := ⟨fun t ht => by simp only [startX, List.mem_singleton] at ht; rw [ht]; exact startT_small, by simp [startX]⟩
end Go.Proofs.YtnhmjlljnckieaaDoor.Sha

/-
  Headers that grow each upon an earlier one, the tree that they make, the ways in it: plain mathematics. No conditions.
-/
namespace Go.Proofs.YtnhmjlljnckieaaDoor.Sha
open Go Go.RowKit
/-- The header that number x makes, behind out. -/
def growH (out : List THd) (i : Nat) (x : Int) : THd :=
  ⟨i % 4294967296, hdId (out.getD (numb x out.length).toNat startX.head), zH, ((out.getD (numb x out.length).toNat startX.head).time + (numb (x.tdiv 64) 30).toNat) % 4294967296, 1 + (numb (x.tdiv 2048) 4).toNat, 0⟩
theorem growH_ok (out : List THd) (i : Nat) (x : Int) : HdOk (growH out i x) := by
  have h4 := numb_bd (x.tdiv 2048) 4 (by omega)
  refine ⟨?_, hdId_length _, rfl, ?_, ?_, ?_⟩
  · show i % 4294967296 ≤ _; omega
  · show _ % 4294967296 ≤ _; omega
  · show 1 + (numb (x.tdiv 2048) 4).toNat ≤ _; omega
  · show 0 ≤ _; omega
def grownN (z : Nat → Int) : Nat → List THd
  | 0 => [startX.head]
  | k + 1 => grownN z k ++ [growH (grownN z k) k (z k)]
theorem grownN_length (z : Nat → Int) : ∀ k, (grownN z k).length = k + 1
  | 0 => rfl
  | k + 1 => by rw [grownN, List.length_append, grownN_length z k]; rfl
theorem grownN_ok (z : Nat → Int) : ∀ k, ∀ h ∈ grownN z k, HdOk h
  | 0, h, hh => by rcases List.mem_singleton.1 hh with rfl; exact startX_ok
  | k + 1, h, hh => by
    rcases List.mem_append.1 hh with h1 | h1
    · exact grownN_ok z k h h1
    · rcases List.mem_singleton.1 h1 with rfl; exact growH_ok _ _ _
def hdAt (z : Nat → Int) (j : Nat) : THd := (grownN z j).getD j startX.head
theorem grownN_get (z : Nat → Int) : ∀ (k j : Nat), j ≤ k → (grownN z k)[j]? = some (hdAt z j)
  | 0, j, h => by
    obtain rfl : j = 0 := by omega
    rfl
  | k + 1, j, h => by
    by_cases e : j = k + 1
    · subst e
      unfold hdAt
      rw [List.getD_eq_getElem?_getD, List.getElem?_eq_getElem (by rw [grownN_length]; omega)]
      rfl
    · rw [grownN, List.getElem?_append_left (by rw [grownN_length]; omega)]
      exact grownN_get z k j (by omega)
theorem hdAt_ok (z : Nat → Int) (j : Nat) : HdOk (hdAt z j) := grownN_ok z j _ (List.mem_of_getElem? (grownN_get z j j (Nat.le_refl _)))
theorem hdAt_succ (z : Nat → Int) (j : Nat) : hdAt z (j + 1) = growH (grownN z j) j (z j) := by
  have h := grownN_get z (j + 1) (j + 1) (Nat.le_refl _)
  rw [grownN, List.getElem?_append_right (by rw [grownN_length]; omega), grownN_length, Nat.sub_self] at h
  injection h with h
  exact h.symm
theorem hdAt_prev (z : Nat → Int) (j : Nat) : ∃ i, i ≤ j ∧ (hdAt z (j + 1)).prev = hdId (hdAt z i) := by
  have hb := numb_bd (z j) ((grownN z j).length : Int) (by rw [grownN_length]; omega)
  rw [grownN_length] at hb
  refine ⟨(numb (z j) ((grownN z j).length : Int)).toNat, by rw [grownN_length]; omega, ?_⟩
  rw [hdAt_succ]
  show hdId _ = _
  rw [List.getD_eq_getElem?_getD, grownN_get z j _ (by rw [grownN_length]; omega)]
  rfl
/-- A header taken in, or not. -/
def addT (L : List TNd) (h : THd) : List TNd := if addE L h = 0 then L ++ [nxT L h] else L
def treeN (z : Nat → Int) : Nat → List TNd
  | 0 => [stT (hdAt z 0)]
  | k + 1 => addT (treeN z k) (hdAt z (k + 1))
def Hung (L : List TNd) : Prop := ∀ (i : Nat) (x : TNd), L[i]? = some x → 0 ≤ x.parent → (L.getD x.parent.toNat ndZ).id = x.h.prev
theorem findT_id {L : List TNd} (h : TrL L) {j : Nat} {y : TNd} (hy : L[j]? = some y) : findT L y.id = (j : Int) :=
  findT_some hy rfl fun i x hi hx => by
    have hp := List.pairwise_iff_getElem.1 h.ids i j (List.getElem?_eq_some_iff.1 hx).1 (List.getElem?_eq_some_iff.1 hy).1 hi
    rw [(List.getElem?_eq_some_iff.1 hx).2, (List.getElem?_eq_some_iff.1 hy).2] at hp
    exact hp
theorem findT_push {L : List TNd} {id : List UInt8} (x : TNd) (h : 0 ≤ findT L id) : findT (L ++ [x]) id = findT L id := by
  rcases findT_cases L id with ⟨e, _⟩ | ⟨k, y, e, hy, hi, hlt⟩
  · omega
  · rw [e]
    have hk := (List.getElem?_eq_some_iff.1 hy).1
    exact findT_some (by rw [List.getElem?_append_left hk]; exact hy) hi fun j z hj hz => hlt j z hj (by rw [List.getElem?_append_left (by omega)] at hz; exact hz)
theorem findT_last {L : List TNd} (x : TNd) (h : ∀ y ∈ L, y.id ≠ x.id) : findT (L ++ [x]) x.id = (L.length : Int) :=
  findT_some (by rw [List.getElem?_append_right (Nat.le_refl _), Nat.sub_self]; rfl) rfl fun j z hj hz => h z (by rw [List.getElem?_append_left hj] at hz; exact List.mem_of_getElem? hz)
structure TwI (z : Nat → Int) (k : Nat) (L : List TNd) : Prop where
  tr : TrL L
  hung : Hung L
  has : ∀ j, j ≤ k → 0 ≤ findT L (hdId (hdAt z j))
  len : L.length ≤ k + 1
theorem Hung.push {L : List TNd} {hd : THd} (h : Hung L) (ht : TrL L) (ha : addE L hd = 0) : Hung (L ++ [nxT L hd]) := by
  intro i x hx hp
  by_cases hi : i < L.length
  · rw [List.getElem?_append_left hi] at hx
    have hd' := ht.down _ _ hx
    rw [List.getD_eq_getElem?_getD, List.getElem?_append_left (by omega), ← List.getD_eq_getElem?_getD]
    exact h i x hx hp
  · have e : i = L.length := by have := (List.getElem?_eq_some_iff.1 hx).1; simp at this; omega
    rw [e, List.getElem?_append_right (Nat.le_refl _), Nat.sub_self] at hx
    cases hx
    unfold addE at ha
    split at ha
    · omega
    split at ha
    · omega
    rename_i h1 h2
    rcases findT_cases L hd.prev with ⟨e, _⟩ | ⟨k, y, e, hy, hi, _⟩
    · omega
    · have hk := (List.getElem?_eq_some_iff.1 hy).1
      have ep : (nxT L hd).parent = (k : Int) := e
      rw [ep, Int.toNat_natCast, List.getD_eq_getElem?_getD, List.getElem?_append_left hk, hy]
      exact hi
theorem TwI.start (z : Nat → Int) : TwI z 0 (treeN z 0) := by
  refine ⟨stT_tr (hdAt_ok z 0), fun i x hx hp => ?_, fun j hj => ?_, Nat.le_refl _⟩
  · cases i with
    | zero => cases hx; exact absurd hp (by show ¬ (0 : Int) ≤ -1; omega)
    | succ i => cases hx
  · obtain rfl : j = 0 := by omega
    have e := findT_some (L := treeN z 0) (id := hdId (hdAt z 0)) (k := 0) (x := stT (hdAt z 0)) rfl rfl (fun j y hj => by omega)
    omega
theorem TwI.step {z : Nat → Int} {k : Nat} {L : List TNd} (h : TwI z k L) (hk : k ≤ 100) : TwI z (k + 1) (addT L (hdAt z (k + 1))) := by
  obtain ⟨i, hi, hp⟩ := hdAt_prev z k
  have hpf := h.has i hi
  rw [← hp] at hpf
  have hl := h.len
  unfold addT
  by_cases h9 : 0 ≤ findT L (hdId (hdAt z (k + 1)))
  · have e : addE L (hdAt z (k + 1)) = 109 := by unfold addE; rw [if_pos h9]
    rw [if_neg (by omega)]
    refine ⟨h.tr, h.hung, fun j hj => ?_, by omega⟩
    by_cases hj2 : j = k + 1
    · subst hj2; exact h9
    · exact h.has j (by omega)
  · have e : addE L (hdAt z (k + 1)) = 0 := by unfold addE; rw [if_neg h9, if_neg (by omega), if_neg (by omega)]
    rw [if_pos e]
    refine ⟨h.tr.push (hdAt_ok z _) e, h.hung.push h.tr e, fun j hj => ?_, by rw [List.length_append]; simp; omega⟩
    by_cases hj2 : j = k + 1
    · subst hj2
      have hno : ∀ y ∈ L, y.id ≠ hdId (hdAt z (k + 1)) := by
        rcases findT_cases L (hdId (hdAt z (k + 1))) with ⟨_, q⟩ | ⟨q, x, q1, _⟩
        · exact q
        · omega
      have := findT_last (nxT L (hdAt z (k + 1))) hno
      have e2 : (nxT L (hdAt z (k + 1))).id = hdId (hdAt z (k + 1)) := rfl
      rw [e2] at this
      rw [this]
      omega
    · rw [findT_push _ (h.has j (by omega))]
      exact h.has j (by omega)
theorem treeN_i (z : Nat → Int) : ∀ k, k ≤ 101 → TwI z k (treeN z k)
  | 0, _ => TwI.start z
  | k + 1, h => (treeN_i z k (by omega)).step (by omega)
/-- The id of the one so far down a chain. -/
def upId (L : List TNd) (x : Int) (n : Nat) : List UInt8 := (L.getD ((upL L x).getD n 0).toNat ndZ).id
theorem upId_at {L : List TNd} {x : Int} {n j : Nat} (h : (upL L x)[n]? = some (j : Int)) : upId L x n = (L.getD j ndZ).id := by
  have e : (upL L x).getD n 0 = (j : Int) := by rw [List.getD_eq_getElem?_getD, h]; rfl
  unfold upId
  rw [e]
  rfl
theorem up_len {L : List TNd} (x : Int) : (upL L x).length = (chainT L x).length := by unfold chainT; rw [List.length_reverse]
theorem up_at {L : List TNd} (ht : TrL L) (hh : Hung L) {x n : Nat} (hx : x < L.length) (hn : n < (upL L (x : Int)).length) : ∃ (j : Nat) (y : TNd), (upL L (x : Int))[n]? = some (j : Int) ∧ L[j]? = some y ∧ upId L (x : Int) n = y.id ∧ (n + 1 < (upL L (x : Int)).length → y.h.prev = upId L (x : Int) (n + 1)) := by
  obtain ⟨c, hc⟩ : ∃ c, L[x]? = some c := ⟨_, List.getElem?_eq_getElem hx⟩
  have hl := up_len (L := L) (x : Int)
  have e := up_chain (L := L) (k := (x : Int)) (p := n) (by omega)
  have hlt : (chainT L (x : Int)).length - 1 - n < (chainT L (x : Int)).length := by omega
  rw [List.getElem?_eq_getElem hlt] at e
  obtain ⟨j, y, hj, hy, hhy⟩ := chain_ok ht hc (List.getElem?_eq_getElem hlt)
  rw [hj] at e
  refine ⟨j, y, e, hy, ?_, fun hn1 => ?_⟩
  · rw [upId_at e, getD_at hy]
  · obtain ⟨t, ht1⟩ : ∃ t, (chainT L (x : Int)).length - 1 - n = t + 1 := ⟨(chainT L (x : Int)).length - 1 - n - 1, by omega⟩
    have hj2 : (chainT L (x : Int))[t + 1]? = some (j : Int) := by rw [← ht1, List.getElem?_eq_getElem hlt, hj]
    obtain ⟨p, q, p1, p2, p3⟩ := chain_prev ht hc hj2 hy
    have e2 := up_chain (L := L) (k := (x : Int)) (p := n + 1) (by omega)
    rw [show (chainT L (x : Int)).length - 1 - (n + 1) = t by omega, p3] at e2
    have h3 := hh j y hy (by omega)
    rw [upId_at e2, ← h3, p1]
    rfl
theorem comP_eq : ∀ (l m : List Int) (i : Nat), i < comP l m → l[i]? = m[i]?
  | [], m, i, h => by cases m <;> exact absurd h (by unfold comP; omega)
  | x :: l, [], i, h => absurd h (by unfold comP; omega)
  | x :: l, y :: m, i, h => by
    unfold comP at h
    split at h
    · next e =>
      cases i with
      | zero => rw [e]; rfl
      | succ i => exact comP_eq l m i (by omega)
    · omega
theorem comP_comm : ∀ (l m : List Int), comP l m = comP m l
  | [], [] => rfl
  | [], y :: m => rfl
  | x :: l, [] => rfl
  | x :: l, y :: m => by
    unfold comP
    by_cases e : x = y
    · rw [if_pos e, if_pos e.symm, comP_comm l m]
    · rw [if_neg e, if_neg (fun h => e h.symm)]
/-- Of two blocks: how far down each of them what they have in common lies. -/
structure TwP (L : List TNd) (x y : Int) (nb nc : Nat) : Prop where
  back : backT L x y = idsT L ((upL L x).take nb)
  on : onT L x y = (idsT L ((upL L y).take nc)).reverse
  down : backT L y x = idsT L ((upL L y).take nc)
  up : onT L y x = (idsT L ((upL L x).take nb)).reverse
  lb : nb < (upL L x).length
  lc : nc < (upL L y).length
  mb : meetT L x y = upId L x nb
  mc : meetT L x y = upId L y nc
theorem tw_p {L : List TNd} (ht : TrL L) {x y : Nat} (hx : x < L.length) (hy : y < L.length) : TwP L (x : Int) (y : Int) ((upL L (x : Int)).length - comT L (x : Int) (y : Int)) ((upL L (y : Int)).length - comT L (x : Int) (y : Int)) := by
  have hp := com_pos ht.down ht.root hx hy
  have hcm : comT L (y : Int) (x : Int) = comT L (x : Int) (y : Int) := comP_comm _ _
  have hle := comP_le (upL L (x : Int)).reverse (upL L (y : Int)).reverse
  rw [List.length_reverse, List.length_reverse] at hle
  have hce : comP (upL L (x : Int)).reverse (upL L (y : Int)).reverse = comT L (x : Int) (y : Int) := rfl
  rw [hce] at hle
  refine ⟨rfl, by unfold onT idsT; rw [List.map_reverse], by unfold backT; rw [hcm], by unfold onT idsT; rw [hcm, List.map_reverse], by omega, by omega, rfl, ?_⟩
  have he := comP_eq (upL L (x : Int)).reverse (upL L (y : Int)).reverse (comT L (x : Int) (y : Int) - 1) (by rw [hce]; omega)
  rw [List.getElem?_reverse (by omega), List.getElem?_reverse (by omega)] at he
  have e1 : (upL L (x : Int)).getD ((upL L (x : Int)).length - comT L (x : Int) (y : Int)) 0 = (upL L (y : Int)).getD ((upL L (y : Int)).length - comT L (x : Int) (y : Int)) 0 := by
    rw [List.getD_eq_getElem?_getD, List.getD_eq_getElem?_getD, show (upL L (x : Int)).length - comT L (x : Int) (y : Int) = (upL L (x : Int)).length - 1 - (comT L (x : Int) (y : Int) - 1) by omega, show (upL L (y : Int)).length - comT L (x : Int) (y : Int) = (upL L (y : Int)).length - 1 - (comT L (x : Int) (y : Int) - 1) by omega, he]
  unfold meetT upId
  rw [e1]
theorem idsT_get {L : List TNd} {l : List Int} {n i : Nat} (hi : i < n) (hn : n ≤ l.length) : (idsT L (l.take n))[i]? = some (L.getD (l.getD i 0).toNat ndZ).id := by
  obtain ⟨v, hv⟩ : ∃ v, l[i]? = some v := ⟨_, List.getElem?_eq_getElem (by omega)⟩
  have e : l.getD i 0 = v := by rw [List.getD_eq_getElem?_getD, hv]; rfl
  rw [e]
  unfold idsT
  rw [List.getElem?_map, List.getElem?_take_of_lt hi, hv]
  rfl
theorem idsT_len {L : List TNd} {l : List Int} {n : Nat} (hn : n ≤ l.length) : (idsT L (l.take n)).length = n := by
  unfold idsT
  rw [List.length_map, List.length_take]
  omega
theorem upId_zero {L : List TNd} (ht : TrL L) {x : Nat} {y : TNd} (hy : L[x]? = some y) : upId L (x : Int) 0 = y.id := by
  rw [upId_at (j := x) (by rw [upL_step ht.down hy]; rfl), getD_at hy]
end Go.Proofs.YtnhmjlljnckieaaDoor.Sha

/-
  The program's tree begins: New. New memory, no more. Conditions: a header as the model has it; the table of the rounds' words is there.
-/
namespace Go.Proofs.YtnhmjlljnckieaaDoor.Sha
open Go Go.RowKit
theorem wp_make_gm {P : Program} {op : Oper} {a : Act} {w : World} {K : Act → World → Prop} {Q : Exit → Act → World → Prop} (mT : TypeId) (ho : op.op = Op.makeMap mT none) (hK : K (a.put op.dst (.map (some w.heap.size))) (w.alloc (.map #[] 0))) : op.wp P a w K Q := by
  unfold Oper.wp
  simp [execOp, ho, run_makeMap, Result.andThen]
  exact hK
theorem mp_made {α β : Type} {kf : α → Value} {vf : β → Value} {ok : α → Prop} {w : World} {b : Nat} (h : w.heap[b]? = some (.map #[] 0)) : MpAt kf vf ok w b [] := ⟨#[], 0, h, MapKept.stamped_empty 0, rfl, by simp⟩
theorem wp_insert_gm {α β : Type} [DecidableEq α] {kT vT mT : TypeId} {kf : α → Value} {vf : β → Value} {ok : α → Prop} {z : β} {w : World} {b : Nat} {l : List (α × β)} (M : MTy α β kT vT mT kf vf ok z) {op : Oper} {a : Act} {K : Act → World → Prop} {Q : Exit → Act → World → Prop} (x y q : Operand) (ho : op.op = Op.insert mT x y q)
    (p : α) (hp : ok p) (c : β) (hx : a.eval x = .map (some b)) (hy : a.eval y = kf p) (hz : a.eval q = vf c) (hm : MpAt kf vf ok w b l)
    (hK : ∀ w', MpAt kf vf ok w' b (putG l p c) → w.grownBy w' (some b) → K (a.put op.dst undef) w') : op.wp Tryd.prog a w K Q := by
  obtain ⟨w', hrun, r1, r2⟩ := gm_put M hm p hp c
  unfold Oper.wp
  simp [execOp, ho, hx, hy, hz, hrun, Result.andThen]
  exact hK w' r1 r2
theorem built_cn (ps : List (Nat × Value)) (x : TNd) (p : Option Nat) (hx : x.id.length = 32) (hh : HdOk x.h) (h : ps = [(0, .agg (x.id.map bV).toArray), (1, .agg (hdL x.h).toArray), (2, .int .i64 x.height), (3, .int .u64 (x.work : Int)), (4, nptr p)]) :
    Tryd.prog.built 64 ps = some (cnL x p (.slice none 0 0)).toArray := by
  subst h
  have hz : ∀ parts, Tryd.prog.built 64 parts = Instr.fill ([(0, 32), (32, 68), (100, 1), (101, 1), (102, 1), (103, 1)].toArray[·]?) (cnL ndZ none (.slice none 0 0)).toArray parts := fun parts => by kernel_rfl
  have l1 : (x.id.map bV).length = 32 := by simp [hx]
  have l2 : (hdL x.h).length = 68 := hdL_length hh
  obtain ⟨A, B, hA, hB, hz2⟩ : ∃ A B : List Value, A.length = 32 ∧ B.length = 68 ∧ cnL ndZ none (.slice none 0 0) = [] ++ (A ++ (B ++ [.int .i64 0, .int .u64 0, .pointer none, .slice none 0 0])) := ⟨ndZ.id.map bV, hdL ndZ.h, rfl, rfl, rfl⟩
  obtain ⟨i, hi⟩ : ∃ i, i = x.id.map bV := ⟨_, rfl⟩
  obtain ⟨j, hj⟩ : ∃ j, j = hdL x.h := ⟨_, rfl⟩
  have hx2 : cnL x p (.slice none 0 0) = i ++ (j ++ [.int .i64 x.height, .int .u64 (x.work : Int), nptr p, .slice none 0 0]) := by rw [hi, hj]; rfl
  have hpc : (nptr p).cells = [nptr p].toArray := by cases p <;> rfl
  rw [← hi] at l1 ⊢
  rw [← hj] at l2 ⊢
  rw [hx2]
  clear hx2 hi hj
  rw [hz, hz2, fill_mid _ 0 0 (Value.agg i.toArray) i [] A _ _ rfl (by rw [l1]; rfl) rfl (by rw [l1, hA]), List.nil_append,
    fill_mid _ 1 32 (Value.agg j.toArray) j i B _ _ rfl (by rw [l2]; rfl) l1 (by rw [l2, hB])]
  have e2 : i ++ (j ++ [Value.int .i64 0, Value.int .u64 0, Value.pointer none, Value.slice none 0 0]) = (i ++ j) ++ ([Value.int .i64 0] ++ [Value.int .u64 0, Value.pointer none, Value.slice none 0 0]) := by simp
  rw [e2, fill_mid _ 2 100 (Value.int .i64 x.height) [Value.int .i64 x.height] (i ++ j) [Value.int .i64 0] _ _ rfl rfl (by rw [List.length_append, l1, l2]) rfl]
  have e3 : (i ++ j) ++ ([Value.int .i64 x.height] ++ [Value.int .u64 0, Value.pointer none, Value.slice none 0 0]) = (i ++ j ++ [Value.int .i64 x.height]) ++ ([Value.int .u64 0] ++ [Value.pointer none, Value.slice none 0 0]) := by simp
  rw [e3, fill_mid _ 3 101 (Value.int .u64 (x.work : Int)) [Value.int .u64 (x.work : Int)] (i ++ j ++ [Value.int .i64 x.height]) [Value.int .u64 0] _ _ rfl rfl (by simp [l1, l2]) rfl]
  have e4 : (i ++ j ++ [Value.int .i64 x.height]) ++ ([Value.int .u64 (x.work : Int)] ++ [Value.pointer none, Value.slice none 0 0]) = (i ++ j ++ [Value.int .i64 x.height, Value.int .u64 (x.work : Int)]) ++ ([Value.pointer none] ++ [Value.slice none 0 0]) := by simp
  rw [e4, fill_mid _ 4 102 (nptr p) [nptr p] (i ++ j ++ [Value.int .i64 x.height, Value.int .u64 (x.work : Int)]) [Value.pointer none] _ _ hpc rfl (by simp [l1, l2]) rfl]
  show some _ = some _
  congr 2
  simp
theorem built_cn0 (x : TNd) (hx : x.id.length = 32) (hh : HdOk x.h) (h0 : x.height = 0) :
    Tryd.prog.built 64 [(0, .agg (x.id.map bV).toArray), (1, .agg (hdL x.h).toArray), (3, .int .u64 (x.work : Int))] = some (cnL x none (.slice none 0 0)).toArray := by
  have hz : ∀ parts, Tryd.prog.built 64 parts = Instr.fill ([(0, 32), (32, 68), (100, 1), (101, 1), (102, 1), (103, 1)].toArray[·]?) (cnL ndZ none (.slice none 0 0)).toArray parts := fun parts => by kernel_rfl
  have l1 : (x.id.map bV).length = 32 := by simp [hx]
  have l2 : (hdL x.h).length = 68 := hdL_length hh
  obtain ⟨A, B, hA, hB, hz2⟩ : ∃ A B : List Value, A.length = 32 ∧ B.length = 68 ∧ cnL ndZ none (.slice none 0 0) = [] ++ (A ++ (B ++ [.int .i64 0, .int .u64 0, .pointer none, .slice none 0 0])) := ⟨ndZ.id.map bV, hdL ndZ.h, rfl, rfl, rfl⟩
  obtain ⟨i, hi⟩ : ∃ i, i = x.id.map bV := ⟨_, rfl⟩
  obtain ⟨j, hj⟩ : ∃ j, j = hdL x.h := ⟨_, rfl⟩
  have hx2 : cnL x none (.slice none 0 0) = i ++ (j ++ [.int .i64 0, .int .u64 (x.work : Int), .pointer none, .slice none 0 0]) := by rw [hi, hj, ← h0]; rfl
  rw [← hi] at l1 ⊢
  rw [← hj] at l2 ⊢
  rw [hx2]
  clear hx2 hi hj
  rw [hz, hz2, fill_mid _ 0 0 (Value.agg i.toArray) i [] A _ _ rfl (by rw [l1]; rfl) rfl (by rw [l1, hA]), List.nil_append,
    fill_mid _ 1 32 (Value.agg j.toArray) j i B _ _ rfl (by rw [l2]; rfl) l1 (by rw [l2, hB])]
  have e3 : i ++ (j ++ [Value.int .i64 0, Value.int .u64 0, Value.pointer none, Value.slice none 0 0]) = (i ++ j ++ [Value.int .i64 0]) ++ ([Value.int .u64 0] ++ [Value.pointer none, Value.slice none 0 0]) := by simp
  rw [e3, fill_mid _ 3 101 (Value.int .u64 (x.work : Int)) [Value.int .u64 (x.work : Int)] (i ++ j ++ [Value.int .i64 0]) [Value.int .u64 0] _ _ rfl rfl (by simp [l1, l2]) rfl]
  show some _ = some _
  congr 2
  simp
theorem built_tree (ci : List Value) (m : Nat) (h : ci.length = 32) : Tryd.prog.built 67 [(0, .agg ci.toArray), (1, .map (some m))] = some (ci ++ [Value.map (some m)]).toArray := by
  have hz : ∀ parts, Tryd.prog.built 67 parts = Instr.fill ([(0, 32), (32, 1)].toArray[·]?) ([] ++ (List.replicate 32 (bV 0) ++ [Value.map none])).toArray parts := fun parts => by kernel_rfl
  rw [hz, fill_mid _ 0 0 (Value.agg ci.toArray) ci [] (List.replicate 32 (bV 0)) _ _ rfl (by rw [h]; rfl) rfl (by rw [h]; rfl), List.nil_append]
  have e : ci ++ [Value.map none] = ci ++ ([Value.map none] ++ []) := by simp
  rw [e, fill_mid _ 1 32 (Value.map (some m)) [Value.map (some m)] ci [Value.map none] _ _ rfl rfl h rfl]
  rfl
theorem CtAt.first {w : World} {base b mb g : Nat} {hd : THd} (h1 : w.heap[b]? = some (.cells ((hdId hd).map bV ++ [Value.map (some mb)]).toArray 67 (0, 0))) (h2 : MpAt hK nptr (fun h => h.length = 32) w mb [(hdId hd, some g)])
    (h3 : w.heap[g]? = some (.cells (cnL (stT hd) none (.slice none 0 0)).toArray 64 (0, 0))) (h4 : base ≤ b ∧ base ≤ mb ∧ base ≤ g) : CtAt w base b mb [⟨stT hd, g, .slice none 0 0⟩] := by
  have one : ∀ (i : Nat) (c : CNd), [(⟨stT hd, g, .slice none 0 0⟩ : CNd)][i]? = some c → i = 0 ∧ c = ⟨stT hd, g, .slice none 0 0⟩ := fun i c h => by
    cases i with
    | zero => exact ⟨rfl, by injection h with h; exact h.symm⟩
    | succ i => cases h
  refine ⟨h1, h2, fun i c hc => ?_, fun i c hc => ?_, fun i j c d hc hd' hij => ?_, h4.1, h4.2.1, fun c hc => ?_⟩
  · obtain ⟨rfl, rfl⟩ := one i c hc
    exact h3
  · obtain ⟨rfl, rfl⟩ := one i c hc
    exact RwOwn.nil 1 _ base w
  · obtain ⟨rfl, _⟩ := one i c hc
    obtain ⟨rfl, _⟩ := one j d hd'
    exact absurd rfl hij
  · rcases List.mem_singleton.1 hc with rfl
    exact h4.2.2
theorem putG_nil {β : Type} (a : List UInt8) (c : β) : putG [] a c = [(a, c)] := by unfold putG; rw [getG_nil]; rfl
set_option maxHeartbeats 2000000 in
set_option maxRecDepth 100000 in
theorem ctnew_any (w : World) (hd : THd) (hh : HdOk hd) (hk : KTab w) :
    Calls Tryd.prog 7 #[.agg (hdL hd).toArray] w fun e w' => ∃ b mb g, e = .returned (.pointer (some ⟨b, 0, none⟩)) ∧ CtAt w' w.heap.size b mb [⟨stT hd, g, .slice none 0 0⟩] ∧ Below w.heap.size w w' := by
  have RI : Hid (∀ W, Below w.heap.size w W → Calls Tryd.prog 21 #[.agg (hdL hd).toArray] W fun e w' => e = .returned (.agg ((hdId hd).map bV).toArray) ∧ Below W.heap.size W w') := fun W hW => id_hd hd hh W (hk.below hW)
  have LC : Hid ((hdL hd).length = 68) := hdL_length hh
  have CW : Hid (∀ (W : World) (g : Nat), W.heap[g]? = some (.cells (hdL hd).toArray 32 (0, 0)) → W.cell? ⟨g, 66, none⟩ = some (.int .u32 (hd.work : Int))) := fun W g q => ((HdBox.mk q).cells hh).2.2.1
  have HW : Hid (hd.work ≤ 4294967295) := hh.2.2.2.2.1
  have LX0 : Hid ((cnL (stT hd) none (.slice none 0 0)).length = 104) := cnL_length (hdId_length hd) hh
  have BT : Hid (Tryd.prog.built 64 [(0, .agg ((hdId hd).map bV).toArray), (1, .agg (hdL hd).toArray), (3, .int .u64 (hd.work : Int))] = some (cnL (stT hd) none (.slice none 0 0)).toArray) := built_cn0 (stT hd) (hdId_length hd) hh rfl
  have BTR : Hid (∀ m, Tryd.prog.built 67 [(0, .agg ((hdId hd).map bV).toArray), (1, .map (some m))] = some ((hdId hd).map bV ++ [Value.map (some m)]).toArray) := fun m => built_tree _ m (by rw [List.length_map]; exact hdId_length hd)
  have FI : Hid (∀ (w : World) (base b mb g : Nat), w.heap[b]? = some (.cells ((hdId hd).map bV ++ [Value.map (some mb)]).toArray 67 (0, 0)) → MpAt hK nptr (fun h => h.length = 32) w mb [(hdId hd, some g)] → w.heap[g]? = some (.cells (cnL (stT hd) none (.slice none 0 0)).toArray 64 (0, 0)) → (base ≤ b ∧ base ≤ mb ∧ base ≤ g) → CtAt w base b mb [⟨stT hd, g, .slice none 0 0⟩]) := fun w base b mb g h1 h2 h3 h4 => CtAt.first h1 h2 h3 h4
  obtain ⟨cx, hcx⟩ : ∃ cx, cx = cnL (stT hd) none (.slice none 0 0) := ⟨_, rfl⟩
  rw [← hcx] at BT LX0 FI
  obtain ⟨id, hid⟩ : ∃ id, id = hdId hd := ⟨_, rfl⟩
  have LID : Hid (id.length = 32) := by show _ = _; rw [hid]; exact hdId_length hd
  rw [← hid] at RI BT BTR FI
  have SCI : Hid ((id.map bV).toArray.size = 32) := by show _ = _; rw [List.size_toArray, List.length_map]; exact LID.out
  have OCI : Hid ((id.map bV).toArray.all (·.oneCell') = true) := bV_one _
  have LCI : Hid ((id.map bV).length = 32) := by show _ = _; rw [List.length_map]; exact LID.out
  obtain ⟨ci, hci⟩ : ∃ ci, ci = id.map bV := ⟨_, rfl⟩
  have CIE := Lib.hid hci
  rw [← hci] at RI BT SCI OCI LCI BTR FI
  obtain ⟨cs, hcs⟩ : ∃ cs, cs = hdL hd := ⟨_, rfl⟩
  rw [← hcs] at LC CW RI BT ⊢
  clear hh hk hid hci hcs hcx
  go_enter Tryd.func7, Tryd.ntmps7
  go_upto_region 1 with fail
  have f0 := heap_alloc_new w (.cells cs.toArray 32 (0, 0))
  have bb : Below w.heap.size w (w.alloc (.cells cs.toArray 32 (0, 0))) := ((Below.refl w.heap.size w).alloc (by first | exact Nat.le_refl _ | (simp only [World.size_alloc]; omega)) (.cells cs.toArray 32 (0, 0)))
  generalize hq : World.alloc _ _ = w1
  have eq : w.alloc (.cells cs.toArray 32 (0, 0)) = w1 := hq
  rw [eq] at f0 bb
  obtain ⟨g1, hg1⟩ : ∃ g1, g1 = w.heap.size := ⟨_, rfl⟩
  have Gg1 : Hid (w.heap.size ≤ g1) := by show _ ≤ _; omega
  rw [← hg1] at f0 ⊢
  have F1 := Lib.hid f0
  have B1 := Lib.hid bb
  clear f0 bb hq eq hg1
  go_wp2_with ((with_reducible show wpList _ _ _ _ _ _); (refine wpList_load_row rfl 32 (.tmp 1) rfl g1 rfl 32 cs.toArray (0, 0) _ F1.out Tryd.underlying32 rfl (by show _ = some cs.length; rw [LC.out] <;> kernel_rfl) ?_; go_frame))
  refine (RI.out w1 B1.out).mono ?_
  rintro e w2 ⟨rfl, bb⟩
  have F1 := Lib.hid (row_below F1.out bb)
  have B1 := Lib.hid (B1.out.trans (bb.mono B1.out.size))
  clear bb RI
  go_upto_region 2 with ((with_reducible show wpList _ _ _ _ _ _); (refine wpList_store_row rfl 30 (.tmp 3) (.tmp 6) rfl w2.heap.size ci.toArray rfl rfl 30 _ (heap_alloc_new _ _) (by rw [SCI.out]; kernel_rfl) (by rw [SCI.out]; rfl) OCI.out ?_; go_frame))
  obtain ⟨_, f2, f3, f4⟩ := fill_setup (Below.refl w2.heap.size w2) (List.replicate 32 (bV 0)).toArray ci.toArray 30
  generalize hqw3 : World.setRow _ _ _ = w3
  have ew3 : World.setRow (w2.alloc (.cells (List.replicate 32 (bV 0)).toArray 30)) w2.heap.size ci.toArray = w3 := hqw3
  rw [ew3] at f2 f3 f4
  obtain ⟨g3, hg3⟩ : ∃ g3, g3 = w2.heap.size := ⟨_, rfl⟩
  rw [← hg3] at f2 ⊢
  have F3 := Lib.hid f2
  have Ng3 : Hid (w2.heap.size ≤ g3) := by show _ ≤ _; rw [hg3]; exact Nat.le_refl _
  have F1 := Lib.hid (row_below F1.out f4)
  have B1 := Lib.hid (B1.out.trans (f4.mono B1.out.size))
  clear f2 f3 f4 hqw3 ew3 hg3
  have c66 := CW.out _ _ F1.out
  have w64 : IntKind.u64.wrap (hd.work : Int) = (hd.work : Int) := u64_stays (by have := HW.out; omega)
  go_upto_region 3 with ((with_reducible show wpList _ _ _ _ _ _); first | (refine wpList_load_row rfl 30 (.tmp 3) rfl g3 rfl 30 ci.toArray (0, 0) _ F3.out Tryd.underlying30 rfl (by show _ = some ci.length; rw [LCI.out] <;> kernel_rfl) ?_; go_frame) | (refine wpList_load_row rfl 32 (.tmp 1) rfl g1 rfl 32 cs.toArray (0, 0) _ F1.out Tryd.underlying32 rfl (by show _ = some cs.length; rw [LC.out] <;> kernel_rfl) ?_; go_frame) | (refine wpList_buildTo rfl 64 _ rfl _ rfl cx.toArray (by rw [← BT.out]; kernel_rfl) ?_; go_frame))
  clear c66 w64
  have f0 := heap_alloc_new w3 (.cells cx.toArray 64 (0, 0))
  have bb : Below w3.heap.size w3 (w3.alloc (.cells cx.toArray 64 (0, 0))) := ((Below.refl w3.heap.size w3).alloc (by first | exact Nat.le_refl _ | (simp only [World.size_alloc]; omega)) (.cells cx.toArray 64 (0, 0)))
  generalize hq : World.alloc _ _ = w4
  have eq : w3.alloc (.cells cx.toArray 64 (0, 0)) = w4 := hq
  rw [eq] at f0 bb
  obtain ⟨g4, hg4⟩ : ∃ g4, g4 = w3.heap.size := ⟨_, rfl⟩
  have Gg4 : Hid (w3.heap.size ≤ g4) := by show _ ≤ _; omega
  rw [← hg4] at f0 ⊢
  have F4 := Lib.hid f0
  have B2 := Lib.hid bb
  clear f0 bb hq eq hg4
  have F3 := Lib.hid (row_below F3.out B2.out)
  have B3 := Lib.hid (B1.out.trans (B2.out.mono B1.out.size))
  have S3 : Hid (w.heap.size ≤ w3.heap.size) := B1.out.size
  clear B1 B2 F1
  refine wp_region_held_drew (S := (fun w' => Below w4.heap.size w4 w')) (by kernel_rfl) (Below.drew (Below.refl _ _)) (fun hHeld => ?_)
  generalize hwd : w4.drew = wd at  hHeld ⊢
  clear hwd
  refine held_take (i := 0) (v := (.agg ci.toArray)) rfl (by kernel_rfl) (by kernel_rfl) (by kernel_rfl) (fun _ _ _ h => h) (yieldsIf_load_row (by rfl) 30 (.tmp 3) rfl g3 rfl 30 ci.toArray (0, 0) _ (fun w' hw' => row_below F3.out hw') Tryd.underlying30 rfl (by show _ = some ci.length; rw [LCI.out]; kernel_rfl)) hHeld ?_
  go_frame
  refine held_take (i := 2) (v := (.agg ci.toArray)) rfl (by kernel_rfl) (by kernel_rfl) (by kernel_rfl) (fun _ _ _ h => h) (yieldsIf_load_row (by rfl) 30 (.tmp 3) rfl g3 rfl 30 ci.toArray (0, 0) _ (fun w' hw' => row_below F3.out hw') Tryd.underlying30 rfl (by show _ = some ci.length; rw [LCI.out]; kernel_rfl)) hHeld ?_
  go_frame
  refine held_take (i := 3) (v := (.pointer (some ⟨g4, 0, none⟩))) rfl (by kernel_rfl) (by kernel_rfl) (by kernel_rfl) (fun _ _ _ h => h) (Or.inl ⟨by rfl, fun w' _ => by kernel_rfl⟩) hHeld ?_
  go_frame
  refine wpAnyH_ready (rs := [1]) (by kernel_rfl) (by simp) (held_cons rfl (fun K hK => ?_) AllReadyH.nil)
  rw [if_pos (by rfl)]
  refine wp_make_gm 65 rfl ?_
  have nf := heap_alloc_new wd (.map #[] 0)
  have bb := (Below.refl wd.heap.size wd).alloc (Nat.le_refl _) (.map #[] 0)
  obtain ⟨gv1, hgv1⟩ : ∃ g, g = wd.heap.size := ⟨_, rfl⟩
  generalize hqv1 : World.alloc _ _ = v1
  have ev1 : wd.alloc (.map #[] 0) = v1 := hqv1
  rw [ev1] at nf bb
  rw [← hgv1] at nf ⊢
  have MF := Lib.hid nf
  have GMF : Hid (w4.heap.size ≤ gv1) := by show _ ≤ _; rw [hgv1]; exact hHeld.size
  have hv1 := hHeld.trans (bb.mono hHeld.size)
  clear nf bb hqv1 ev1 hgv1 hHeld
  go_frame
  refine hK.out _ _ hv1 (fun hHeld => ?_)
  clear hK K hv1
  refine wpAnyH_ready (rs := [4]) (by kernel_rfl) (by simp) (held_cons rfl (fun K hK => ?_) AllReadyH.nil)
  rw [if_pos (by rfl)]
  refine wp_insert_gm mty_nodes (.tmp 15) (.tmp 16) (.tmp 17) rfl id LID.out (some g4) rfl (by show Value.agg ci.toArray = Sha.hK id; rw [CIE.out]; rfl) rfl (mp_made MF.out) ?_
  intro v2 q1 q2
  rw [putG_nil] at q1
  have MP := Lib.hid q1
  have hv2 := hHeld.grown q2 hHeld.size (fun k hk => by cases hk; exact GMF.out)
  clear q1 q2 hHeld MF
  go_frame
  refine hK.out _ _ hv2 (fun hHeld => ?_)
  clear hK K hv2
  refine held_take (i := 5) (v := (Value.map (some gv1))) rfl (by kernel_rfl) (by kernel_rfl) (by kernel_rfl) (fun _ _ _ h => h) (Or.inl ⟨by rfl, fun w' _ => by kernel_rfl⟩) hHeld ?_
  go_frame
  refine held_take (i := 6) (v := (.agg (ci ++ [(Value.map (some gv1))]).toArray)) rfl (by kernel_rfl) (by kernel_rfl) (by kernel_rfl) (fun _ _ _ h => h) (yieldsIf_build (by rfl) 67 _ rfl [(0, .agg ci.toArray), (1, (Value.map (some gv1)))] (by kernel_rfl) _ (BTR.out _)) hHeld ?_
  go_frame
  refine wpAnyH_ready (rs := [7]) (by kernel_rfl) (by simp) (held_cons rfl (fun K hK => ?_) AllReadyH.nil)
  go_simp
  have nf := heap_alloc_new v2 (.cells (ci ++ [(Value.map (some gv1))]).toArray 67 (0, 0))
  have bb := (Below.refl v2.heap.size v2).alloc (Nat.le_refl _) (.cells (ci ++ [(Value.map (some gv1))]).toArray 67 (0, 0))
  obtain ⟨gv3, hgv3⟩ : ∃ g, g = v2.heap.size := ⟨_, rfl⟩
  have GTB : Hid (w4.heap.size ≤ gv3) := by show _ ≤ _; rw [hgv3]; exact hHeld.size
  generalize hqv3 : World.alloc _ _ = v3
  have ev3 : v2.alloc (.cells (ci ++ [(Value.map (some gv1))]).toArray 67 (0, 0)) = v3 := hqv3
  rw [ev3] at nf bb
  rw [← hgv3] at nf ⊢
  have TB := Lib.hid nf
  have MP := Lib.hid (MP.out.below bb)
  have hv3 := hHeld.trans (bb.mono hHeld.size)
  clear nf bb hqv3 ev3 hgv3 hHeld
  refine hK.out _ _ hv3 (fun hHeld => ?_)
  clear hK K hv3
  refine held_take (i := 8) (v := (.pointer (some ⟨gv3, 0, none⟩))) rfl (by kernel_rfl) (by kernel_rfl) (by kernel_rfl) (fun _ _ _ h => h) (Or.inl ⟨by rfl, fun w' _ => by kernel_rfl⟩) hHeld ?_
  go_frame
  refine wpAnyH_done (by kernel_rfl) ?_ _
  have F4 := Lib.hid (row_below F4.out hHeld)
  have BE := Lib.hid (B3.out.trans (hHeld.mono B3.out.size))
  clear hHeld F3
  go_wp2_with fail
  go_ret
  exact ⟨_, _, _, rfl, FI.out _ _ _ _ _ TB.out MP.out F4.out ⟨by have := GTB.out; have := B3.out.size; omega, by have := GMF.out; have := B3.out.size; omega, by have := Gg4.out; have := S3.out; omega⟩, BE.out⟩
end Go.Proofs.YtnhmjlljnckieaaDoor.Sha

/-
  The statements' own tree: a block's header, height and work; which of two blocks goes ahead. Nothing that was there turns. Conditions: the tree lies where the pointer says, nodes as the model has them, at most 4096.
-/
namespace Go.Proofs.YtnhmjlljnckieaaDoor.Sha
open Go Go.RowKit
theorem results_row_tmps {P : Program} {fn : Func} {p u1 u2 u3 : Tmp} {ty : TypeId} (h : fn.results = #[.cell p ty, .tmp u1, .tmp u2, .tmp u3]) (tmps : Array Value) (w : World) (g : Nat) (t : TypeId) (cs : Array Value) (fr : Nat × Nat) (d : TypeDesc)
    (hx : tmps.getD p undef = .pointer (some ⟨g, 0, none⟩)) (hg : w.heap[g]? = some (.cells cs t fr)) (hu : P.underlying ty = some d) (hd : (match d with | .struct _ | .array _ _ => true | _ => false) = true) (hi : (P.info? ty).map (·.size) = some cs.size) :
    (results fn tmps).run P w = .ok (.tuple #[.agg cs, tmps.getD u1 undef, tmps.getD u2 undef, tmps.getD u3 undef]) w := by
  have hp' : tmps[p]?.getD undef = .pointer (some ⟨g, 0, none⟩) := by simpa using hx
  simp [results, h, hp', asAddr, Result.andThen, run_loadVar_row (P := P) w g t ty cs fr d hg hu hd hi]
/-- What is known of a block. -/
def ofT (L : List TNd) (id : List UInt8) : THd × Int × Nat × Bool := if findT L id < 0 then (ndZ.h, 0, 0, false) else ((L.getD (findT L id).toNat ndZ).h, (L.getD (findT L id).toNat ndZ).height, (L.getD (findT L id).toNat ndZ).work, true)
end Go.Proofs.YtnhmjlljnckieaaDoor.Sha
