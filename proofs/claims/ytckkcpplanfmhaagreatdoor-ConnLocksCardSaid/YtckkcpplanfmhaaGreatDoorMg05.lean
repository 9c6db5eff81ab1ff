/-
  Texts of this proof joined into one file: TxSm, TxBox, ShaCopy, Fill, TxRow, CnVal, RipeM, RefRip, Keep, CnMap, StoreW. What each holds, and under which conditions, its own first sentence tells.
-/
import Derived.IntWalk
import Derived.LoopN
import Derived.Great.BuildSlice
import Derived.DeepKeys4
import Derived.Maps.RangeRun
import Derived.Laws.ResultCell
import Derived.Test.YtckkcpplanfmhaaGreatDoorMg03
import Derived.Test.YtckkcpplanfmhaaGreatDoorMg04
import Derived.Test.YtckkcpplanfmhaaGreatDoorMg01
/-
  What package tx is shown to answer, call by call, as hypotheses for the statements' walks. A transaction of a few inputs and outputs is small. No conditions.
-/
namespace Go.Proofs.YtckkcpplanfmhaaGreatDoor.Sha
open Go Go.RowKit
/-- The errors that package tx tells are there. -/
def Er8 (w : World) (E : Nat → Addr) : Prop := ∀ i, i < 7 ∨ i = 13 → w.cell? ⟨errG.getD i 0, 0, none⟩ = some (errV E (i + 1))
theorem Er8.below {w w' : World} {E : Nat → Addr} (h : Er8 w E) (hb : Below w.heap.size w w') : Er8 w' E := fun i hi => by
  rw [hb.cell (p := ⟨errG.getD i 0, 0, none⟩) (World.block_lt_of_cell? w _ (h i hi))]
  exact h i hi
/-- The errors that package tx's Check tells. -/
def Er6 (w : World) (E : Nat → Addr) : Prop := ∀ i, (2 ≤ i ∧ i < 7) ∨ i = 13 → w.cell? ⟨errG.getD i 0, 0, none⟩ = some (errV E (i + 1))
theorem Er6.below {w w' : World} {E : Nat → Addr} (h : Er6 w E) (hb : Below w.heap.size w w') : Er6 w' E := fun i hi => by
  rw [hb.cell (p := ⟨errG.getD i 0, 0, none⟩) (World.block_lt_of_cell? w _ (h i hi))]
  exact h i hi
/-- The errors that package block's Check tells. -/
def ErB (w : World) (E : Nat → Addr) : Prop := ∀ i, (2 ≤ i ∧ i < 8) ∨ i = 13 ∨ i = 21 → w.cell? ⟨errG.getD i 0, 0, none⟩ = some (errV E (i + 1))
theorem ErB.below {w w' : World} {E : Nat → Addr} (h : ErB w E) (hb : Below w.heap.size w w') : ErB w' E := fun i hi => by
  rw [hb.cell (p := ⟨errG.getD i 0, 0, none⟩) (World.block_lt_of_cell? w _ (h i hi))]
  exact h i hi
/-- Few enough. -/
def TxSmall (t : TTx) : Prop := TxCame t ∧ t.ins.length ≤ 1000 ∧ t.outs.length ≤ 1000 ∧ KeysLe t.ins 100000
theorem insB_bound : ∀ (l : List TIn) {n : Nat}, InsOk l → KeysLe l n → (insB l).length ≤ (49 + n) * l.length
  | [], _, _, _ => by simp [insB]
  | x :: l, n, h, hk => by
    have ih := insB_bound l (fun z hz => h z (List.mem_cons_of_mem _ hz)) (fun z hz => hk z (List.mem_cons_of_mem _ hz))
    have h1 := inB_length x (h x List.mem_cons_self)
    have h2 := lenN_bd x.key.length
    have h3 := hk x List.mem_cons_self
    simp only [insB] at ih
    simp only [insB, List.flatMap_cons, List.length_append, List.length_cons, h1, Nat.mul_add, Nat.mul_one]
    omega
theorem TxSmall.ins0 {t : TTx} (h : TxSmall t) : (insB t.ins).length ≤ 200000000 := by
  have h1 := insB_bound t.ins h.1.2.1 h.2.2.2
  have h2 := h.2.1
  have : (49 + 100000) * t.ins.length ≤ (49 + 100000) * 1000 := Nat.mul_le_mul_left _ h2
  omega
theorem TxSmall.ins {t : TTx} (h : TxSmall t) : (insB t.ins).length ≤ 17592186044416 := Nat.le_trans h.ins0 (by omega)
theorem TxSmall.outs {t : TTx} (h : TxSmall t) : (outsB t.outs).length ≤ 17592186044416 := by
  have h1 := outsB_length t.outs h.1.2.2.1
  have h2 := h.2.2.1
  omega
theorem TxSmall.len {t : TTx} (h : TxSmall t) : (txB t).length ≤ 35184372088832 := by
  have h1 := h.ins0
  have h2 := h.outs
  have h3 := lenN_bd t.ins.length
  have h4 := lenN_bd t.outs.length
  simp only [txB, List.length_append, leB_length, putL_length]
  omega
end Go.Proofs.YtckkcpplanfmhaaGreatDoor.Sha

/-
  What the walks of package tx share: cells of an input and an output as rows, bytes of so many of them, sums that stay. No conditions beyond those that each states.
-/
namespace Go.Proofs.YtckkcpplanfmhaaGreatDoor.Sha
open Go Go.RowKit
theorem in_one (x : TIn) (kv : Value) (hk : kv.oneCell' = true) : (inL x kv).toArray.all (·.oneCell') = true := by
  rw [Array.all_eq_true_iff_forall_mem]
  intro u hu
  simp only [inL, ptL, List.mem_toArray, List.mem_append, List.mem_cons, List.mem_map, List.not_mem_nil, or_false] at hu
  rcases hu with (⟨a, _, rfl⟩ | rfl) | rfl | rfl
  · rfl
  · rfl
  · exact hk
  · rfl
theorem i64_stays {x : Int} (h : 0 ≤ x ∧ x ≤ 9223372036854775807) : IntKind.i64.wrap x = x := IntWalk.i64_in _ (by omega)
theorem TxSmall.bytes {t : TTx} (h : TxSmall t) : (txB t).length = 8 + lenN t.ins.length + lenN t.outs.length + (insB t.ins).length + 40 * t.outs.length := by
  simp only [txB, List.length_append, leB_length, putL_length, outsB_length t.outs h.1.2.2.1]
  omega
end Go.Proofs.YtckkcpplanfmhaaGreatDoor.Sha

/-
  The statements' own Bytes copies bytes into new memory. Conditions: at least one byte, fewer than 2^46; the bytes lie where the slice says.
-/
namespace Go.Proofs.YtckkcpplanfmhaaGreatDoor.Sha
open Go Go.RowKit
def CpInv (bs : List UInt8) (n : Nat) (w : World) (v i : Value) (wr : World) : Prop :=
  ∃ k : Nat, k ≤ n ∧ i = .int .i64 k ∧ v = .slice (some ⟨w.heap.size, 0, none⟩) k n ∧ wr.ownsRow w.heap.size 5 1 v k ((bs.take k).map bV) ∧ Below w.heap.size w wr
set_option maxHeartbeats 400000 in
set_option maxRecDepth 100000 in
theorem bytes_copy (bs : List UInt8) (sp : Option Addr) (n cap : Nat) (w : World) (hs : SrcB w (.slice sp n cap) bs) (hn0 : 0 < n) (hn : n ≤ 70368744177664) :
    Calls Tryz.prog 50 #[.slice sp n cap] w fun e w' => e = .returned (.slice (some ⟨w.heap.size, 0, none⟩) n n) ∧ w'.ownsRow w.heap.size 5 1 (.slice (some ⟨w.heap.size, 0, none⟩) n n) n (bs.map bV) ∧ Below w.heap.size w w' := by
  obtain ⟨i0, hi, hz0, hz1, hz2⟩ := info_parts info_u8
  have hnb := hs.le.1
  rcases hs with ⟨sp', cap', hv, rfl⟩ | ⟨_, bb, off, cap', hv, hc, hcell⟩
  · cases hv; omega
  cases hv
  obtain ⟨n, hn1⟩ : ∃ n, n = bs.length := ⟨_, rfl⟩
  have hbb : bb < w.heap.size := SrcB.block hn0 hcell
  rw [← hn1] at hc hcell hn0 hn ⊢
  have HN := Lib.hid hn1
  have HCELL := Lib.hid hcell
  clear hn1 hcell hnb
  go_enter Tryz.func50, Tryz.ntmps50
  go_wp2_with (at_make; refine wpList_make_own _ rfl _ _ 51 rfl w.heap.size 5 i0 (.int .u8 0) 1 Tryz.underlying51 hi hz0 hz1 _ _ _ n rfl rfl rfl (by rw [hz2]; omega) (by unfold maxLen; omega) (Nat.le_refl _) ?_; intro w2 hown hgrow; have HO := Lib.hid hown; have HG := Lib.hid hgrow; clear hown hgrow; go_frame)
  have hb2 : Below w.heap.size w w2 := (Below.refl _ _).grown HG.out (Nat.le_refl _) (fun k hk => by cases hk)
  have HB2 := Lib.hid hb2
  clear hb2
  go_loopw [3, 4] (fun v i wr => CpInv bs n w v i wr) (fun _ i _ => n - (intOf i).toNat)
  case atStart => exact ⟨0, by omega, rfl, rfl, HO.out, HB2.out⟩
  case round =>
    clear HO HG HB2
    obtain ⟨k, hk, rfl, rfl, hown, hb⟩ := hrel
    have HO := Lib.hid hown
    have HB := Lib.hid hb
    clear hown hb
    by_cases hlt : k < n
    · obtain ⟨c, hc2⟩ : ∃ c, c = bs.getD k 0 := ⟨_, rfl⟩
      have ck : wr.cell? ⟨bb, off + k, none⟩ = some (.int .u8 (bv c)) := by rw [HB.out.cell (p := ⟨bb, off + k, none⟩) hbb, hc2]; exact HCELL.out k hlt
      have HT : Hid (bs.take (k + 1) = bs.take k ++ [c]) := by
        have hkx : k < bs.length := by have := HN.out; omega
        have e : bs[k] = c := by rw [hc2]; simp [List.getD, List.getElem?_eq_getElem hkx]
        show _ = _
        rw [List.take_succ_eq_append_getElem hkx, e]
      clear hc2
      go_wp2_with (at_builtin; refine wpList_append_fits _ rfl _ _ 51 rfl w.heap.size 5 i0 1 Tryz.underlying51 hi hz1 w.heap.size k n _ rfl (HO.out.alloc _) ⟨wr.heap.size, 0, none⟩ 1 1 [.int .u8 (bv c)] rfl rfl (cell_one_new _ _ _) (one_u8 _) (by omega) ?_; intro w3 hown2 hgrow; have hown3 := Lib.hid hown2; have hgrow3 := Lib.hid hgrow; clear hown2 hgrow; go_frame)
      go_roundw
      case rel =>
        refine ⟨k + 1, by omega, by go_num, rfl, ?_, ?_⟩
        · rw [HT.out, List.map_append]
          exact hown3.out
        · have h1 : w.heap.size ≤ wr.heap.size := HB.out.size
          exact (HB.out.alloc h1 _).grown hgrow3.out (by simp; omega) (fun j hj => by cases hj; exact Nat.le_refl _)
      case measure => simp [intOf]; omega
    · have hkn : k = n := by omega
      have hge : ¬ (k : Int) < (n : Int) := by omega
      have HF : Hid (wr.ownsRow w.heap.size 5 1 (.slice (some ⟨w.heap.size, 0, none⟩) n n) n (bs.map bV)) := by
        have h := HO.out
        rw [hkn, List.take_of_length_le (by have := HN.out; omega)] at h
        exact h
      have HKN := Lib.hid hkn
      clear hkn
      go_wp2_with fail
      go_ret
      exact ⟨by rw [HKN.out]; rfl, HF.out, HB.out⟩
set_option maxHeartbeats 400000 in
set_option maxRecDepth 100000 in
theorem bytes_copy0 (sp : Option Addr) (cap : Nat) (w : World) :
    Calls Tryz.prog 50 #[.slice sp 0 cap] w fun e w' => e = .returned (.slice (some ⟨w.heap.size, 0, none⟩) 0 0) ∧ w'.ownsRow w.heap.size 5 1 (.slice (some ⟨w.heap.size, 0, none⟩) 0 0) 0 [] ∧ Below w.heap.size w w' := by
  obtain ⟨i0, hi, hz0, hz1, hz2⟩ := info_parts info_u8
  go_enter Tryz.func50, Tryz.ntmps50
  go_wp2_with (at_make; refine wpList_make_own _ rfl _ _ 51 rfl w.heap.size 5 i0 (.int .u8 0) 1 Tryz.underlying51 hi hz0 hz1 _ _ _ 0 rfl rfl rfl (by rw [hz2]; omega) (by unfold maxLen; omega) (Nat.le_refl _) ?_; intro w2 hown hgrow; have HO := Lib.hid hown; have HG := Lib.hid hgrow; clear hown hgrow; go_frame)
  have hb2 : Below w.heap.size w w2 := (Below.refl _ _).grown HG.out (Nat.le_refl _) (fun k hk => by cases hk)
  have HB2 := Lib.hid hb2
  clear hb2
  refine wp_loop_rounds 1 ?_
  rw [rounds_succ]
  go_wp2_with fail
  go_ret
  exact ⟨rfl, HO.out, HB2.out⟩
/-- A copy of any bytes. -/
theorem bytes_copy_any (bs : List UInt8) (sp : Option Addr) (n cap : Nat) (w : World) (hs : SrcB w (.slice sp n cap) bs) (hn : n ≤ 70368744177664) :
    Calls Tryz.prog 50 #[.slice sp n cap] w fun e w' => e = .returned (.slice (some ⟨w.heap.size, 0, none⟩) n n) ∧ w'.ownsRow w.heap.size 5 1 (.slice (some ⟨w.heap.size, 0, none⟩) n n) n (bs.map bV) ∧ Below w.heap.size w w' := by
  by_cases h0 : 0 < n
  · exact bytes_copy bs sp n cap w hs h0 hn
  · obtain rfl : n = 0 := by omega
    have hb := hs.le.1
    have hnil : bs = [] := List.eq_nil_of_length_eq_zero hb.symm
    subst hnil
    exact bytes_copy0 sp cap w
end Go.Proofs.YtckkcpplanfmhaaGreatDoor.Sha

/-
  What 'build' lays: a part over the zero value's cells, from an offset on. A place out of a digest and a number. Condition: a digest of 32 bytes.
-/
namespace Go.Proofs.YtckkcpplanfmhaaGreatDoor.Sha
open Go Go.RowKit
theorem fold_fill (off : Nat) : ∀ (v : List Value) (k : Nat) (cs : List Value), off + k + v.length ≤ cs.length →
    (v.zipIdx k).foldl (fun (cs : Array Value) (x : Value × Nat) => cs.setIfInBounds (off + x.2) x.1) cs.toArray = (cs.take (off + k) ++ v ++ cs.drop (off + k + v.length)).toArray
  | [], k, cs, _ => by simp
  | x :: v, k, cs, h => by
    rw [List.length_cons] at h
    rw [List.zipIdx_cons, List.foldl_cons, List.setIfInBounds_toArray, fold_fill off v (k + 1) (cs.set (off + k) x) (by rw [List.length_set]; omega)]
    congr 1
    have e1 : (cs.set (off + k) x).take (off + (k + 1)) = cs.take (off + k) ++ [x] := by
      rw [show off + (k + 1) = (off + k) + 1 by omega, List.take_succ_eq_append_getElem (by rw [List.length_set]; omega), List.getElem_set_self, List.take_set_of_le (by omega)]
    have e2 : (cs.set (off + k) x).drop (off + (k + 1) + v.length) = cs.drop (off + k + (x :: v).length) := by
      rw [List.drop_set_of_lt (by omega), List.length_cons]
      congr 1
      omega
    rw [e1, e2]
    simp
theorem fill_part (place : Nat → Option (Nat × Nat)) (i off : Nat) (v : Value) (vs cs : List Value) (rest : List (Nat × Value)) (hv : v.cells = vs.toArray) (hp : place i = some (off, vs.length)) (hl : off + vs.length ≤ cs.length) :
    Instr.fill place cs.toArray ((i, v) :: rest) = Instr.fill place (cs.take off ++ vs ++ cs.drop (off + vs.length)).toArray rest := by
  have h := fold_fill off vs 0 cs (by omega)
  rw [Instr.fill, hp]
  simp only [hv, List.size_toArray, ne_eq, not_true_eq_false, gt_iff_lt]
  rw [if_neg (by simp; omega)]
  congr 1
  rw [Nat.add_zero] at h
  rw [← h, ← Array.foldl_toList]
  simp
end Go.Proofs.YtckkcpplanfmhaaGreatDoor.Sha

/-
  Inputs and outputs in rows of one's own: a row of them grows, its keys lie apart from it; what such a row is as a slice. What a slice literal of one or two structures lays. No conditions beyond those that each states.
-/
namespace Go.Proofs.YtckkcpplanfmhaaGreatDoor.Sha
open Go Go.RowKit
theorem info_in : (Tryz.prog.info? 53).map (fun i => (i.zero, i.size, i.bytes)) = some (some (.agg (List.replicate 32 (bV 0) ++ [nV 0, .slice none 0 0, nV 0]).toArray), 35, 72) := by kernel_rfl
theorem info_out : (Tryz.prog.info? 65).map (fun i => (i.zero, i.size, i.bytes)) = some (some (.agg (uV 0 :: List.replicate 32 (bV 0)).toArray), 33, 40) := by kernel_rfl
/-- The cells of so many inputs, their keys given. -/
def insL : List TIn → List Value → List Value
  | x :: l, kv :: ks => inL x kv ++ insL l ks
  | _, _ => []
def outsL (l : List TOut) : List Value := l.flatMap outL
theorem insL_snoc (x : TIn) (kv : Value) : ∀ (l : List TIn) (ks : List Value), l.length = ks.length → insL (l ++ [x]) (ks ++ [kv]) = insL l ks ++ inL x kv
  | [], [], _ => by simp [insL]
  | y :: l, k :: ks, h => by
    simp only [List.cons_append, insL, insL_snoc x kv l ks (by simpa using h), List.append_assoc]
theorem insL_get : ∀ (l : List TIn) (ks : List Value) (i : Nat) (x : TIn) (kv : Value), InsOk l → l[i]? = some x → ks[i]? = some kv → ∀ j, j < 35 → (insL l ks)[i * 35 + j]? = (inL x kv)[j]?
  | y :: l, k :: ks, 0, x, kv, ho, hx, hk, j, hj => by
    simp only [List.getElem?_cons_zero, Option.some.injEq] at hx hk
    subst hx hk
    rw [Nat.zero_mul, Nat.zero_add, insL, List.getElem?_append_left (by rw [inL_length y k (ho y List.mem_cons_self).1]; exact hj)]
  | y :: l, k :: ks, i + 1, x, kv, ho, hx, hk, j, hj => by
    have e := inL_length y k (ho y List.mem_cons_self).1
    rw [insL, List.getElem?_append_right (by omega), e, show (i + 1) * 35 + j - 35 = i * 35 + j by omega]
    exact insL_get l ks i x kv (fun z hz => ho z (List.mem_cons_of_mem _ hz)) (by simpa using hx) (by simpa using hk) j hj
  | [], _, _, _, _, _, hx, _, _, _ => by simp at hx
  | _ :: _, [], _, _, _, _, _, hk, _, _ => by simp at hk
theorem outsL_get : ∀ (l : List TOut) (i : Nat) (y : TOut), OutsOk l → l[i]? = some y → ∀ j, j < 33 → (outsL l)[i * 33 + j]? = (outL y)[j]?
  | z :: l, 0, y, ho, hy, j, hj => by
    simp only [List.getElem?_cons_zero, Option.some.injEq] at hy
    subst hy
    rw [Nat.zero_mul, Nat.zero_add, outsL, List.flatMap_cons, List.getElem?_append_left (by rw [outL_length z (ho z List.mem_cons_self).1]; exact hj)]
  | z :: l, i + 1, y, ho, hy, j, hj => by
    have e := outL_length z (ho z List.mem_cons_self).1
    rw [outsL, List.flatMap_cons, List.getElem?_append_right (by omega), e, show (i + 1) * 33 + j - 33 = i * 33 + j by omega]
    exact outsL_get l i y (fun z hz => ho z (List.mem_cons_of_mem _ hz)) (by simpa using hy) j hj
  | [], _, _, _, hy, _, _ => by simp at hy
/-- A slice of bytes that does not lie in this block. -/
def Off (kv : Value) (q : Option Nat) : Prop := ∀ sp n cap, kv = .slice (some sp) n cap → 0 < n → q ≠ some sp.block
theorem SrcB.off {w w' : World} {v : Value} {bs : List UInt8} {q : Option Nat} (h : SrcB w v bs) (ho : Off v q) (hg : w.grownBy w' q) : SrcB w' v bs := by
  rcases h with h | ⟨h0, bb, off, cap, hv, hc, hs⟩
  · exact .inl h
  · refine .inr ⟨h0, bb, off, cap, hv, hc, fun j hj => ?_⟩
    rw [World.cell?_of_block (hg.block bb (SrcB.block h0 hs) (fun e => ho _ _ _ hv h0 e.symm))]
    exact hs j hj
theorem KeyAt.off {w w' : World} {kv : Value} {key : List UInt8} {q : Option Nat} (h : KeyAt w kv key) (ho : Off kv q) (hg : w.grownBy w' q) : KeyAt w' kv key := ⟨h.1.off ho hg, h.2⟩
theorem KeyAt.fresh {w : World} {kv : Value} {key : List UInt8} {k : Nat} (h : KeyAt w kv key) (hk : w.heap.size ≤ k) : Off kv (some k) := fun sp n cap hv hn e => by
  rcases h.1 with ⟨sp', cap', hv', _⟩ | ⟨h0, bb, off, cap', hv', _, hs⟩
  · rw [hv'] at hv
    cases hv
    omega
  · have := SrcB.block h0 hs
    rw [hv'] at hv
    cases hv
    have e2 : k = bb := Option.some.inj e
    omega
/-- A row of inputs of one's own; its keys lie apart from it, and from all that was there before. -/
def InsOwn (base : Nat) (w : World) (v : Value) (l : List TIn) (ks : List Value) : Prop :=
  l.length = ks.length ∧ w.ownsRow base 53 35 v l.length (insL l ks) ∧ InsOk l ∧ ∀ (i : Nat) x kv, l[i]? = some x → ks[i]? = some kv → KeyAt w kv x.key ∧ (∀ q, q < base → Off kv (some q)) ∧ Off kv v.ownBlock
def OutsOwn (base : Nat) (w : World) (v : Value) (l : List TOut) : Prop := w.ownsRow base 65 33 v l.length (outsL l) ∧ OutsOk l
theorem InsOwn.nil (base : Nat) (w : World) : InsOwn base w (.slice none 0 0) [] [] := ⟨rfl, World.ownsRow_nil _ _ _ _, fun _ h => absurd h (by simp), fun i x kv h => absurd h (by simp)⟩
theorem OutsOwn.nil (base : Nat) (w : World) : OutsOwn base w (.slice none 0 0) [] := ⟨World.ownsRow_nil _ _ _ _, fun _ h => absurd h (by simp)⟩
section
variable {base : Nat} {w w' : World} {v v' : Value} {l : List TIn} {ks : List Value} {m : List TOut}
theorem own_far {size n q : Nat} {e : TypeId} {xs : List Value} (h : w.ownsRow base e size v n xs) (hq : q < base) : v.ownBlock = none ∨ v.ownBlock ≠ some q := by
  cases hv : v.ownBlock with
  | none => exact .inl rfl
  | some k => exact .inr (fun e => by have := (h.lt k hv).1; have := Option.some.inj e; omega)
theorem InsOwn.keep (h : InsOwn base w v l ks) (hb : Below w.heap.size w w') : InsOwn base w' v l ks :=
  ⟨h.1, own_kept h.2.1 hb, h.2.2.1, fun i x kv hx hk => ⟨(h.2.2.2 i x kv hx hk).1.below hb, (h.2.2.2 i x kv hx hk).2⟩⟩
theorem OutsOwn.kept (h : OutsOwn base w v m) {q : Option Nat} (hg : w.grownBy w' q) (hb : v.ownBlock = none ∨ v.ownBlock ≠ q) : OutsOwn base w' v m := ⟨h.1.kept hg hb, h.2⟩
theorem OutsOwn.keep (h : OutsOwn base w v m) (hb : Below w.heap.size w w') : OutsOwn base w' v m := ⟨own_kept h.1 hb, h.2⟩
theorem InsOwn.push (h : InsOwn base w v l ks) {x : TIn} {kv : Value} (hx : InOk x) (hk : KeyAt w kv x.key) (hr : ∀ q, q < base → Off kv (some q)) (ho : Off kv v.ownBlock)
    (hown : w'.ownsRow base 53 35 v' (l.length + 1) (insL l ks ++ inL x kv)) (hg : w.grownBy w' v.ownBlock) (hat : v'.ownBlock = v.ownBlock ∨ v'.ownBlock = some w.heap.size) : InsOwn base w' v' (l ++ [x]) (ks ++ [kv]) := by
  refine ⟨by simp [h.1], ?_, ?_, ?_⟩
  · rw [insL_snoc x kv l ks h.1, List.length_append]
    exact hown
  · intro z hz
    rcases List.mem_append.1 hz with hz | hz
    · exact h.2.2.1 z hz
    · rw [List.mem_singleton.1 hz]; exact hx
  · have move : ∀ {x : TIn} {kv : Value}, KeyAt w kv x.key → (∀ q, q < base → Off kv (some q)) → Off kv v.ownBlock → KeyAt w' kv x.key ∧ (∀ q, q < base → Off kv (some q)) ∧ Off kv v'.ownBlock := fun {x kv} a b c => by
      refine ⟨a.off c hg, b, ?_⟩
      rcases hat with e | e
      · rw [e]; exact c
      · rw [e]; exact a.fresh (Nat.le_refl _)
    intro i y kw hy hkw
    by_cases hi : i < l.length
    · rw [List.getElem?_append_left hi] at hy
      rw [List.getElem?_append_left (by rw [← h.1]; exact hi)] at hkw
      obtain ⟨a, b, c⟩ := h.2.2.2 i y kw hy hkw
      exact move a b c
    · have hil : i = l.length := by
        have := (List.getElem?_eq_some_iff.1 hy).1
        simp at this
        omega
      subst hil
      rw [List.getElem?_append_right (Nat.le_refl _), Nat.sub_self] at hy
      have h1 := h.1
      rw [List.getElem?_append_right (by omega), h1, Nat.sub_self] at hkw
      simp only [List.getElem?_cons_zero, Option.some.injEq] at hy hkw
      subst hy hkw
      exact move hk hr ho
theorem OutsOwn.push (h : OutsOwn base w v m) {y : TOut} (hy : OutOk y) (hown : w'.ownsRow base 65 33 v' (m.length + 1) (outsL m ++ outL y)) : OutsOwn base w' v' (m ++ [y]) := by
  refine ⟨?_, ?_⟩
  · have e : outsL (m ++ [y]) = outsL m ++ outL y := by simp [outsL, List.flatMap_append]
    rw [e, List.length_append]
    exact hown
  · intro z hz
    rcases List.mem_append.1 hz with hz | hz
    · exact h.2 z hz
    · rw [List.mem_singleton.1 hz]; exact hy
/-- Such a row as a slice of inputs. -/
theorem InsOwn.at (h : InsOwn base w v l ks) : InsAt w v l := by
  obtain ⟨h1, h2, h3, h4⟩ := h
  rcases h2.2 with ⟨hv, h0⟩ | ⟨g, cap, cur, hv, hb, hc, hn, hm, hs, ht⟩
  · exact ⟨none, 0, by rw [hv, h0], by omega, fun h => by omega⟩
  · subst hv
    refine ⟨_, cap, rfl, hn, fun h0 => ⟨g, 0, rfl, fun i x hx => ?_⟩⟩
    have hi := (List.getElem?_eq_some_iff.1 hx).1
    obtain ⟨kv, hkv⟩ : ∃ kv, ks[i]? = some kv := ⟨_, List.getElem?_eq_getElem (by omega)⟩
    have hxo := h3 x (List.mem_of_getElem? hx)
    refine ⟨hxo, kv, (h4 i x kv hx hkv).1, fun j u hj => ?_⟩
    have hj35 : j < 35 := by
      have := (List.getElem?_eq_some_iff.1 hj).1
      rwa [inL_length x kv hxo.1] at this
    rw [Nat.zero_add, h2.cellAt (i * 35 + j) (by omega), insL_get l ks i x kv h3 hx hkv j hj35]
    exact hj
theorem OutsOwn.at (h : OutsOwn base w v m) : OutsAt w v m := by
  obtain ⟨h2, h3⟩ := h
  rcases h2.2 with ⟨hv, h0⟩ | ⟨g, cap, cur, hv, hb, hc, hn, hm, hs, ht⟩
  · exact ⟨none, 0, by rw [hv, h0], by omega, fun h => by omega⟩
  · subst hv
    refine ⟨_, cap, rfl, hn, fun h0 => ⟨g, 0, rfl, fun i x hx => ?_⟩⟩
    have hi := (List.getElem?_eq_some_iff.1 hx).1
    have hxo := h3 x (List.mem_of_getElem? hx)
    refine ⟨hxo, fun j u hj => ?_⟩
    have hj35 : j < 33 := by
      have := (List.getElem?_eq_some_iff.1 hj).1
      rwa [outL_length x hxo.1] at this
    rw [Nat.zero_add, h2.cellAt (i * 33 + j) (by omega), outsL_get m i x h3 hx j hj35]
    exact hj
end
/-- A literal of one structure, of two. -/
theorem fill_one (size : Nat) (zs : List Value) (hz : zs.length = size) (cs : List Value) (hc : cs.length = size) : Instr.fill (fun i => some (i * size, size)) zs.toArray [(0, .agg cs.toArray)] = some cs.toArray := by
  have h := fill_part (fun i => some (i * size, size)) 0 0 (.agg cs.toArray) cs zs [] rfl (by simp [hc]) (by omega)
  rw [h]
  have e : zs.drop (0 + cs.length) = [] := List.drop_eq_nil_of_le (by omega)
  rw [List.take_zero, List.nil_append, e, List.append_nil]
  rfl
section
variable {P : Program}
theorem wp_slice_one {o : Oper} {a : Act} {w : World} {K : Act → World → Prop} {Q : Exit → Act → World → Prop} (t e : TypeId) (x : Operand) (ho : o.op = .buildSlice t 1 #[(0, x)]) (cs : List Value) (hx : a.eval x = .agg cs.toArray)
    (hu : P.underlying t = some (.slice e)) (i : TypeInfo) (z : Value) (hi : P.info? e = some i) (hz : i.zero = some z) (hs : i.size = cs.length) (hp : 0 < cs.length) (hm : cs.length ≤ 16777216)
    (h : K (a.put o.dst (.slice (some ⟨w.heap.size, 0, none⟩) 1 1)) (w.alloc (.cells cs.toArray e))) : o.wp P a w K Q := by
  refine wp_buildSlice t e 1 _ ho cs.toArray i z hu hi hz (by rw [hs]; omega) (by rw [hs]; omega) ?_ h
  have e1 : (Array.map (fun (q : Nat × Operand) => (q.1, a.eval q.2)) #[(0, x)]).toList = [(0, .agg cs.toArray)] := by simp [hx]
  rw [show (Array.map (fun (i, x) => (i, a.eval x)) #[(0, x)]).toList = [(0, .agg cs.toArray)] from e1, ← Array.toArray_toList (xs := Array.map _ _)]
  exact fill_one i.size _ (by simp) cs hs.symm
theorem wpList_slice_one {ops : Array Oper} {rest : List Oper} {o : Oper} {a : Act} {w : World} {Q : Exit → Act → World → Prop} (hg : o.guard = none) (t e : TypeId) (x : Operand) (ho : o.op = .buildSlice t 1 #[(0, x)]) (cs : List Value) (hx : a.eval x = .agg cs.toArray)
    (hu : P.underlying t = some (.slice e)) (i : TypeInfo) (z : Value) (hi : P.info? e = some i) (hz : i.zero = some z) (hs : i.size = cs.length) (hp : 0 < cs.length) (hm : cs.length ≤ 16777216)
    (h : wpList P ops Q rest (a.put o.dst (.slice (some ⟨w.heap.size, 0, none⟩) 1 1)) (w.alloc (.cells cs.toArray e))) : wpList P ops Q (o :: rest) a w :=
  wpList_plain hg fun _ hK => wp_slice_one t e x ho cs hx hu i z hi hz hs hp hm (hK _ _ h)
end
end Go.Proofs.YtckkcpplanfmhaaGreatDoor.Sha

/-
  Coins as the model has them: a coin's 35 cells, a place's 33, a coin with its place 68; rows of elements of so many cells behind a slice, whatever they hold. No conditions beyond those that each states.
-/
namespace Go.Proofs.YtckkcpplanfmhaaGreatDoor.Sha
open Go Go.RowKit
/-- A place. -/
structure TPt where
  h : List UInt8
  n : Nat
/-- A coin: its value, lock, height, base. -/
structure TMn where
  val : Nat
  lock : List UInt8
  height : Int
  base : Bool
/-- A coin with its place. -/
structure TSp where
  at_ : TPt
  coin : TMn
instance : DecidableEq TPt := fun a b => if h : a.h = b.h ∧ a.n = b.n then isTrue (by cases a; cases b; obtain ⟨h1, h2⟩ := h; subst h1 h2; rfl) else isFalse (fun e => h (by rw [e]; exact ⟨rfl, rfl⟩))
def PtOk (p : TPt) : Prop := p.h.length = 32 ∧ p.n ≤ 4294967295
def MnOk (c : TMn) : Prop := c.lock.length = 32 ∧ c.val ≤ 18446744073709551615 ∧ -9223372036854775808 ≤ c.height ∧ c.height ≤ 9223372036854775807
def SpOk (x : TSp) : Prop := PtOk x.at_ ∧ MnOk x.coin
def ptC (p : TPt) : List Value := ptL p.h p.n
def mnL (c : TMn) : List Value := .int .u64 (c.val : Int) :: (c.lock.map bV ++ [.int .i64 c.height, .bool c.base])
def spL (x : TSp) : List Value := ptC x.at_ ++ mnL x.coin
theorem ptC_length {p : TPt} (h : PtOk p) : (ptC p).length = 33 := by simp [ptC, ptL, h.1]
theorem mnL_length {c : TMn} (h : MnOk c) : (mnL c).length = 35 := by simp [mnL, h.1]
theorem spL_length {x : TSp} (h : SpOk x) : (spL x).length = 68 := by simp [spL, ptC_length h.1, mnL_length h.2]
theorem ptC_size {p : TPt} (h : PtOk p) : (ptC p).toArray.size = 33 := by simp [ptC_length h]
theorem mnL_size {c : TMn} (h : MnOk c) : (mnL c).toArray.size = 35 := by simp [mnL_length h]
theorem ptC_one (p : TPt) : ∀ v ∈ ptC p, v.oneCell' = true := ptL_one' _ _
theorem mnL_one (c : TMn) : ∀ v ∈ mnL c, v.oneCell' = true := by
  intro v hv
  simp only [mnL, List.mem_cons, List.mem_append, List.not_mem_nil, or_false] at hv
  rcases hv with rfl | hv | rfl | rfl
  · rfl
  · exact bV_one' _ v hv
  · rfl
  · rfl
theorem spL_one (x : TSp) : ∀ v ∈ spL x, v.oneCell' = true := by
  intro v hv
  rcases List.mem_append.1 hv with h | h
  · exact ptC_one _ v h
  · exact mnL_one _ v h
theorem ptC_all (p : TPt) : (ptC p).toArray.all (·.oneCell') = true := all_oneCell_toArray (ptC_one p)
theorem mnL_all (c : TMn) : (mnL c).toArray.all (·.oneCell') = true := all_oneCell_toArray (mnL_one c)
theorem bV_list_inj : ∀ {l m : List UInt8}, l.map bV = m.map bV → l = m
  | [], [], _ => rfl
  | [], _ :: _, h => by simp at h
  | _ :: _, [], h => by simp at h
  | x :: l, y :: m, h => by
    simp only [List.map_cons, List.cons.injEq, bV, Value.int.injEq, true_and] at h
    rw [bv_inj h.1, bV_list_inj h.2]
theorem ptC_inj {p q : TPt} (h : ptC p = ptC q) : p = q := by
  have hl : p.h.length = q.h.length := by
    have := congrArg List.length h
    simpa [ptC, ptL] using this
  obtain ⟨h1, h2⟩ := List.append_inj h (by simp [hl])
  simp only [List.cons.injEq, and_true, nV, Value.int.injEq, true_and] at h2
  have e1 := bV_list_inj h1
  have e2 : p.n = q.n := by omega
  cases p
  cases q
  simp only at e1 e2
  rw [e1, e2]
theorem ptC_agg_inj {p q : TPt} (h : Value.agg (ptC p).toArray = .agg (ptC q).toArray) : p = q := ptC_inj (by
  have := Value.agg.inj h
  simpa using this)
/-- What of a coin in a box lies where. -/
theorem mn_lock {w : World} {b o : Nat} {c : TMn} (h : w.rangeAt b o (mnL c)) : w.rangeAt b (o + 1) (c.lock.map bV) := fun j v hj => by
  have := h (j + 1) v (by
    rw [mnL, List.getElem?_cons_succ, List.getElem?_append_left (List.getElem?_eq_some_iff.1 hj).1]
    exact hj)
  rwa [show o + (j + 1) = o + 1 + j by omega] at this
theorem mn_val {w : World} {b o : Nat} {c : TMn} (h : w.rangeAt b o (mnL c)) : w.cell? ⟨b, o, none⟩ = some (.int .u64 (c.val : Int)) := h 0 _ rfl
theorem mn_height {w : World} {b o : Nat} {c : TMn} (hl : c.lock.length = 32) (h : w.rangeAt b o (mnL c)) : w.cell? ⟨b, o + 33, none⟩ = some (.int .i64 c.height) := h 33 _ (by
  rw [mnL, List.getElem?_cons_succ, List.getElem?_append_right (by simp [hl])]
  simp [hl])
theorem mn_base {w : World} {b o : Nat} {c : TMn} (hl : c.lock.length = 32) (h : w.rangeAt b o (mnL c)) : w.cell? ⟨b, o + 34, none⟩ = some (.bool c.base) := h 34 _ (by
  rw [mnL, List.getElem?_cons_succ, List.getElem?_append_right (by simp [hl])]
  simp [hl])
theorem sp_pt {w : World} {b o : Nat} {x : TSp} (h : w.rangeAt b o (spL x)) : w.rangeAt b o (ptC x.at_) := fun j v hj => h j v (by
  rw [spL, List.getElem?_append_left (List.getElem?_eq_some_iff.1 hj).1]
  exact hj)
theorem sp_mn {w : World} {b o : Nat} {x : TSp} (hx : SpOk x) (h : w.rangeAt b o (spL x)) : w.rangeAt b (o + 33) (mnL x.coin) := fun j v hj => by
  have := h (33 + j) v (by
    rw [spL, List.getElem?_append_right (by rw [ptC_length hx.1]; omega), ptC_length hx.1, Nat.add_sub_cancel_left]
    exact hj)
  rwa [show o + (33 + j) = o + 33 + j by omega] at this
/-! Rows of elements of k cells each. -/
/-- All of k cells. -/
def AllK (k : Nat) (L : List (List Value)) : Prop := ∀ x ∈ L, x.length = k
theorem AllK.snoc {k : Nat} {L : List (List Value)} {x : List Value} (h : AllK k L) (hx : x.length = k) : AllK k (L ++ [x]) := fun y hy => by
  rcases List.mem_append.1 hy with hy | hy
  · exact h y hy
  · rw [List.mem_singleton.1 hy]; exact hx
theorem AllK.take {k : Nat} {L : List (List Value)} (h : AllK k L) (n : Nat) : AllK k (L.take n) := fun x hx => h x (List.mem_of_mem_take hx)
theorem AllK.get {k : Nat} {L : List (List Value)} (h : AllK k L) {i : Nat} {x : List Value} (hx : L[i]? = some x) : x.length = k := h x (List.mem_of_getElem? hx)
theorem flatten_snoc (L : List (List Value)) (x : List Value) : (L ++ [x]).flatten = L.flatten ++ x := by simp
theorem flatten_length {k : Nat} : ∀ (L : List (List Value)), AllK k L → L.flatten.length = L.length * k
  | [], _ => by simp
  | y :: L, h => by
    rw [List.flatten_cons, List.length_append, flatten_length L (fun z hz => h z (List.mem_cons_of_mem _ hz)), h y List.mem_cons_self, List.length_cons, Nat.add_mul, Nat.one_mul, Nat.add_comm]
theorem flatten_get {k : Nat} : ∀ (L : List (List Value)) (i : Nat) (y : List Value), AllK k L → L[i]? = some y → ∀ j, j < k → L.flatten[i * k + j]? = y[j]?
  | z :: L, 0, y, h, hy, j, hj => by
    simp only [List.getElem?_cons_zero, Option.some.injEq] at hy
    subst hy
    rw [Nat.zero_mul, Nat.zero_add, List.flatten_cons, List.getElem?_append_left (by rw [h z List.mem_cons_self]; exact hj)]
  | z :: L, i + 1, y, h, hy, j, hj => by
    have e : z.length = k := h z List.mem_cons_self
    rw [List.flatten_cons, List.getElem?_append_right (by rw [e, Nat.add_mul, Nat.one_mul]; omega), e, show (i + 1) * k + j - k = i * k + j by rw [Nat.add_mul, Nat.one_mul]; omega]
    exact flatten_get L i y (fun z hz => h z (List.mem_cons_of_mem _ hz)) (by simpa using hy) j hj
  | [], _, _, _, hy, _, _ => by simp at hy
/-- The slice v reads as these elements. -/
def RwAt (k : Nat) (w : World) (v : Value) (L : List (List Value)) : Prop :=
  AllK k L ∧ ∃ sp cap, v = .slice sp L.length cap ∧ L.length ≤ cap ∧ (0 < L.length → ∃ b o, sp = some ⟨b, o, none⟩ ∧ ∀ i x, L[i]? = some x → w.rangeAt b (o + i * k) x)
theorem RwAt.below {k : Nat} {w w' : World} {v : Value} {L : List (List Value)} (h : RwAt k w v L) (hb : Below w.heap.size w w') : RwAt k w' v L := by
  obtain ⟨h0, sp, cap, h1, h2, h3⟩ := h
  refine ⟨h0, sp, cap, h1, h2, fun h0 => ?_⟩
  obtain ⟨b, o, h4, h5⟩ := h3 h0
  exact ⟨b, o, h4, fun i x hx => range_below (h5 i x hx) hb⟩
theorem RwAt.nil (k : Nat) (w : World) (sp : Option Addr) (cap : Nat) : RwAt k w (.slice sp 0 cap) [] := ⟨fun x hx => by simp at hx, sp, cap, rfl, by simp, fun h => by simp at h⟩
theorem RwAt.len {k : Nat} {w : World} {sp : Option Addr} {n cap : Nat} {L : List (List Value)} (h : RwAt k w (.slice sp n cap) L) : n = L.length ∧ n ≤ cap := by
  obtain ⟨_, sp', cap', hv, hc, _⟩ := h
  cases hv
  exact ⟨rfl, hc⟩
theorem RwAt.shape {k : Nat} {w : World} {v : Value} {L : List (List Value)} (h : RwAt k w v L) : ∃ sp cap, v = .slice sp L.length cap := by
  obtain ⟨_, sp, cap, hv, _⟩ := h
  exact ⟨sp, cap, hv⟩
/-- Where they lie. -/
theorem RwAt.get {k : Nat} {w : World} {sp : Option Addr} {n cap : Nat} {L : List (List Value)} (h : RwAt k w (.slice sp n cap) L) (h0 : 0 < n) : ∃ b o, sp = some ⟨b, o, none⟩ ∧ ∀ i x, L[i]? = some x → w.rangeAt b (o + i * k) x := by
  obtain ⟨ho, sp', cap', hv, hc, hr⟩ := h
  cases hv
  exact hr h0
/-- A row of one's own. -/
def RwOwn (k : Nat) (T : TypeId) (base : Nat) (w : World) (v : Value) (L : List (List Value)) : Prop := w.ownsRow base T k v L.length L.flatten ∧ AllK k L
theorem RwOwn.nil (k : Nat) (T : TypeId) (base : Nat) (w : World) : RwOwn k T base w (.slice none 0 0) [] := ⟨World.ownsRow_nil _ _ _ _, fun _ h => absurd h (by simp)⟩
section
variable {k : Nat} {T : TypeId} {base : Nat} {w w' : World} {v v' : Value} {L : List (List Value)}
theorem RwOwn.keep (h : RwOwn k T base w v L) (hb : Below w.heap.size w w') : RwOwn k T base w' v L := ⟨own_kept h.1 hb, h.2⟩
theorem RwOwn.kept (h : RwOwn k T base w v L) {q : Option Nat} (hg : w.grownBy w' q) (hb : v.ownBlock = none ∨ v.ownBlock ≠ q) : RwOwn k T base w' v L := ⟨h.1.kept hg hb, h.2⟩
theorem RwOwn.push {x : List Value} (ho : AllK k L) (hx : x.length = k) (hown : w'.ownsRow base T k v' (L.length + 1) (L.flatten ++ x)) : RwOwn k T base w' v' (L ++ [x]) := by
  refine ⟨?_, ho.snoc hx⟩
  rw [flatten_snoc, List.length_append]
  exact hown
/-- Such a row as a slice. -/
theorem RwOwn.at (h : RwOwn k T base w v L) (hk : 0 < k) : RwAt k w v L := by
  obtain ⟨h2, h3⟩ := h
  refine ⟨h3, ?_⟩
  rcases h2.2 with ⟨hv, h0⟩ | ⟨g, cap, cur, hv, hb, hc, hn, hm, hs, ht⟩
  · exact ⟨none, 0, by rw [hv, h0], by omega, fun h => by omega⟩
  · subst hv
    refine ⟨_, cap, rfl, hn, fun h0 => ⟨g, 0, rfl, fun i x hx => ?_⟩⟩
    have hi := (List.getElem?_eq_some_iff.1 hx).1
    have hxo := h3.get hx
    intro j u hj
    have hjk : j < k := by
      have := (List.getElem?_eq_some_iff.1 hj).1
      omega
    have hlt : i * k + j < L.length * k := by
      have : (i + 1) * k ≤ L.length * k := Nat.mul_le_mul_right _ hi
      rw [Nat.add_mul, Nat.one_mul] at this
      omega
    rw [Nat.zero_add, h2.cellAt (i * k + j) hlt, flatten_get L i x h3 hx j hjk]
    exact hj
end
/-- A part of such a slice. -/
theorem RwAt.cut {k : Nat} {w : World} {sp : Option Addr} {n cap : Nat} {L : List (List Value)} (h : RwAt k w (.slice sp n cap) L) (i r : Nat) (h1 : i ≤ r) (h2 : r ≤ n) : RwAt k w (sliced sp i r cap k) ((L.take r).drop i) := by
  have hn := h.len
  have hok := h.1
  have hl : ((L.take r).drop i).length = r - i := by rw [List.length_drop, List.length_take]; omega
  refine ⟨fun x hx => hok x (List.mem_of_mem_take (List.mem_of_mem_drop hx)), if cap = i then sp else sp.map (·.add (i * k)), cap - i, by rw [sliced, hl], by omega, fun h0 => ?_⟩
  obtain ⟨_, sp', cap', hv, hc, hr⟩ := h
  cases hv
  obtain ⟨b, o, hs, hx⟩ := hr (by omega)
  subst hs
  refine ⟨b, o + i * k, by rw [if_neg (by omega)]; simp [Addr.add_mid], fun j x hj => ?_⟩
  have hj2 : j < r - i := by have := (List.getElem?_eq_some_iff.1 hj).1; omega
  rw [List.getElem?_drop, List.getElem?_take_of_lt (by omega)] at hj
  have := hx (i + j) x hj
  rwa [show o + (i + j) * k = o + i * k + j * k by rw [Nat.add_mul]; omega] at this
end Go.Proofs.YtckkcpplanfmhaaGreatDoor.Sha

/-
  Whether a coin is ripe, as a Boolean. No conditions.
-/
namespace Go.Proofs.YtckkcpplanfmhaaGreatDoor.Sha
open Go Go.RowKit
def ripeB (c : TMn) (height maturity : Int) : Bool := !c.base || decide (c.height + maturity ≤ height)
end Go.Proofs.YtckkcpplanfmhaaGreatDoor.Sha

/-
  The statements' own: whether a coin is ripe. Nothing that was there turns. Conditions: numbers that an int holds.
-/
namespace Go.Proofs.YtckkcpplanfmhaaGreatDoor.Sha
open Go Go.RowKit
set_option maxHeartbeats 1000000 in
set_option maxRecDepth 100000 in
theorem rripe_any (w : World) (c : TMn) (height maturity : Int) (hc : MnOk c) (h1 : -9223372036854775808 ≤ c.height + maturity) (h2 : c.height + maturity ≤ 9223372036854775807) :
    Calls Tryz.prog 39 #[.agg (mnL c).toArray, .int .i64 height, .int .i64 maturity] w fun e w' => e = .returned (.bool (ripeB c height maturity)) ∧ Below w.heap.size w w' := by
  have hb := range_of_box (heap_alloc_new w (.cells (mnL c).toArray 46 (0, 0)))
  have hh := mn_height hc.1 hb
  have hbs := mn_base hc.1 hb
  have bb := (Below.refl w.heap.size w).alloc (Nat.le_refl _) (.cells (mnL c).toArray 46 (0, 0))
  rw [Nat.zero_add] at hh hbs
  obtain ⟨ans, han⟩ : ∃ ans, ans = ripeB c height maturity := ⟨_, rfl⟩
  have AN : Hid (ans = (!c.base || decide (c.height + maturity ≤ height))) := han
  rw [← han]
  obtain ⟨cm, hcm⟩ : ∃ cm, cm = mnL c := ⟨_, rfl⟩
  rw [← hcm] at hh hbs bb ⊢
  obtain ⟨ht, hht⟩ : ∃ ht, ht = c.height := ⟨_, rfl⟩
  obtain ⟨bs, hbse⟩ : ∃ bs, bs = c.base := ⟨_, rfl⟩
  rw [← hht] at AN hh h1 h2
  rw [← hbse] at AN hbs
  clear hb han hcm hht hbse hc
  go_enter Tryz.func39, Tryz.ntmps39
  go_upto_region 1 with fail
  have hw1 : w.alloc (.cells cm.toArray 46 (0, 0)) = w.alloc (.cells cm.toArray 46 (0, 0)) := rfl
  generalize hq : World.alloc _ _ = w1
  have e1 : w.alloc (.cells cm.toArray 46 (0, 0)) = w1 := hq
  rw [e1] at hh hbs bb
  clear hw1 hq e1
  cases bs with
  | false =>
    go_wp2_with fail
    go_ret
    exact ⟨by rw [AN.out]; rfl, bb⟩
  | true =>
    have hwr : IntKind.i64.wrap (ht + maturity) = ht + maturity := by rw [IntKind.wrap_i64]; omega
    go_wp2_with fail
    go_ret
    exact ⟨by rw [AN.out]; rfl, bb⟩
end Go.Proofs.YtckkcpplanfmhaaGreatDoor.Sha

/-
  What a fact stands on: 'Kps F w w'': w' is w in the blocks of F, and may have more; 'Sty F w P': P holds in each such world. No conditions.
-/
namespace Go.Proofs.YtckkcpplanfmhaaGreatDoor.Sha
open Go Go.RowKit
/-- In the blocks of F the world w' is as w was; the streams too. -/
structure Kps (F : Nat → Prop) (w w' : World) : Prop where
  os : w'.os = w.os
  tape : w'.tape = w.tape
  output : w'.output = w.output
  size : w.heap.size ≤ w'.heap.size
  block : ∀ k, k < w.heap.size → F k → w'.heap[k]? = w.heap[k]?
theorem Kps.refl (F : Nat → Prop) (w : World) : Kps F w w := ⟨rfl, rfl, rfl, Nat.le_refl _, fun _ _ _ => rfl⟩
theorem Kps.trans {F : Nat → Prop} {a b c : World} (h : Kps F a b) (k : Kps F b c) : Kps F a c :=
  ⟨k.os.trans h.os, k.tape.trans h.tape, k.output.trans h.output, Nat.le_trans h.size k.size, fun i hi hf => (k.block i (Nat.lt_of_lt_of_le hi h.size) hf).trans (h.block i hi hf)⟩
theorem Kps.mono {F G : Nat → Prop} {w w' : World} (h : Kps F w w') (hs : ∀ k, k < w.heap.size → G k → F k) : Kps G w w' :=
  ⟨h.os, h.tape, h.output, h.size, fun k hk hg => h.block k hk (hs k hk hg)⟩
theorem Kps.below {F : Nat → Prop} {B : Nat} {w w' : World} (h : Below B w w') (hs : ∀ k, k < w.heap.size → F k → k < B) : Kps F w w' :=
  ⟨h.os, h.tape, h.output, h.size, fun k hk hf => h.block k (hs k hk hf)⟩
theorem Kps.new {F : Nat → Prop} {w w' : World} (h : Below w.heap.size w w') : Kps F w w' := Kps.below h fun _ hk _ => hk
theorem Kps.grown {F : Nat → Prop} {q : Option Nat} {w w' : World} (h : w.grownBy w' q) (hs : ∀ k, k < w.heap.size → F k → some k ≠ q) : Kps F w w' :=
  ⟨h.os, h.tape, h.output, h.size, fun k hk hf => h.block k hk (hs k hk hf)⟩
theorem Kps.toBelow {F : Nat → Prop} {w w' : World} (h : Kps F w w') (hs : ∀ k, k < w.heap.size → F k) : Below w.heap.size w w' :=
  ⟨h.os, h.tape, h.output, h.size, fun k hk => h.block k hk (hs k hk)⟩
/-- P holds in every world that is as w in the blocks of F. -/
def Sty (F : Nat → Prop) (w : World) (P : World → Prop) : Prop := ∀ w', Kps F w w' → P w'
theorem Sty.now {F : Nat → Prop} {w : World} {P : World → Prop} (h : Sty F w P) : P w := h w (Kps.refl _ _)
theorem Sty.on {F : Nat → Prop} {w w' : World} {P : World → Prop} (h : Sty F w P) (hk : Kps F w w') : Sty F w' P := fun w'' h2 => h w'' (hk.trans h2)
theorem Sty.imp {F G : Nat → Prop} {w : World} {P Q : World → Prop} (h : Sty F w P) (hs : ∀ k, k < w.heap.size → F k → G k) (hq : ∀ w', P w' → Q w') : Sty G w Q :=
  fun w' hk => hq _ (h w' (hk.mono hs))
/-- What stands while old blocks stand. -/
theorem Sty.all {w : World} {P : World → Prop} (h : ∀ w', Below w.heap.size w w' → P w') : Sty (fun k => k < w.heap.size) w P :=
  fun w' hk => h w' (hk.toBelow fun _ h => h)
theorem row_kps {F : Nat → Prop} {w w' : World} {g : Nat} {o : Obj} (h : w.heap[g]? = some o) (hk : Kps F w w') (hf : F g) : w'.heap[g]? = some o := by
  rw [hk.block g (Array.getElem?_eq_some_iff.1 h).1 hf]
  exact h
theorem SrcB.kps {F : Nat → Prop} {w w' : World} {v : Value} {bs : List UInt8} (h : SrcB w v bs) (ho : ∀ sp n cap, v = .slice (some sp) n cap → 0 < n → F sp.block) (hk : Kps F w w') : SrcB w' v bs := by
  rcases h with h | ⟨h0, bb, off, cap, hv, hc, hs⟩
  · exact .inl h
  · refine .inr ⟨h0, bb, off, cap, hv, hc, fun j hj => ?_⟩
    rw [World.cell?_of_block (hk.block bb (SrcB.block h0 hs) (ho _ _ _ hv h0))]
    exact hs j hj
theorem KeyAt.kps {F : Nat → Prop} {w w' : World} {kv : Value} {key : List UInt8} (h : KeyAt w kv key) (ho : ∀ sp n cap, kv = .slice (some sp) n cap → 0 < n → F sp.block) (hk : Kps F w w') : KeyAt w' kv key := ⟨h.1.kps ho hk, h.2⟩
theorem own_kps {F : Nat → Prop} {w w' : World} {base n size : Nat} {e : TypeId} {v : Value} {xs : List Value} (h : w.ownsRow base e size v n xs) (hk : Kps F w w') (hf : ∀ k, base ≤ k → F k) : w'.ownsRow base e size v n xs := by
  refine ⟨h.1, ?_⟩
  rcases h.2 with hn | ⟨g, cap, cur, rfl, hb, hg, rest⟩
  · exact .inl hn
  · exact .inr ⟨g, cap, cur, rfl, hb, row_kps hg hk (hf g hb), rest⟩
theorem InsOwn.kps {F : Nat → Prop} {w w' : World} {base : Nat} {v : Value} {l : List TIn} {ks : List Value} (h : InsOwn base w v l ks) (hk : Kps F w w') (hf : ∀ k, base ≤ k → F k) : InsOwn base w' v l ks :=
  ⟨h.1, own_kps h.2.1 hk hf, h.2.2.1, fun i x kv hx hkv => ⟨(h.2.2.2 i x kv hx hkv).1.kps (fun sp n cap hv h0 => hf _ (Nat.le_of_not_lt fun hlt => (h.2.2.2 i x kv hx hkv).2.1 sp.block hlt sp n cap hv h0 rfl)) hk, (h.2.2.2 i x kv hx hkv).2⟩⟩
theorem OutsOwn.kps {F : Nat → Prop} {w w' : World} {base : Nat} {v : Value} {m : List TOut} (h : OutsOwn base w v m) (hk : Kps F w w') (hf : ∀ k, base ≤ k → F k) : OutsOwn base w' v m := ⟨own_kps h.1 hk hf, h.2⟩
/-- A transaction in memory that was made since w. -/
def TxNew (w w' : World) (v : Value) (t : TTx) : Prop := Sty (fun k => w.heap.size ≤ k) w' (fun W => TxAt W v t)
theorem TxNew.at {w w' : World} {v : Value} {t : TTx} (h : TxNew w w' v t) : TxAt w' v t := h.now
end Go.Proofs.YtckkcpplanfmhaaGreatDoor.Sha

/-
  A map of coins by their places: what is found, put, taken away, counted, ranged over. Conditions: places and coins as the model has them.
-/
namespace Go.Proofs.YtckkcpplanfmhaaGreatDoor.Sha
open Go Go.RowKit Go.MapKept
open Go.ChangeMaps (setBlock heap_setBlock_same heap_setBlock_other)
theorem cn_laidOut : laidOutB Tryz.prog = true := by kernel_rfl
theorem cm_pt_row : 50 < Tryz.prog.types.size := of_decide_eq_true (by kernel_rfl)
theorem types_two : 2 ≤ Tryz.prog.types.size := of_decide_eq_true (by kernel_rfl)
theorem pt_keyAt : Tryz.prog.keyTypeAt 3 50 = true := by kernel_rfl
theorem cm_pt_key : Tryz.prog.keyType 50 = true := by kernel_rfl
theorem cm_pt_wide : (match Tryz.prog.underlying 50 with | some (.array _ _) | some (.struct _) => true | _ => false) = true := by kernel_rfl
set_option maxRecDepth 100000 in
theorem cm_pt_law : WideMaps.KeyLaw Tryz.prog 50 := deep_law_laid cn_laidOut (m := 3) (by omega) cm_pt_row pt_keyAt cm_pt_wide
theorem mapM_some {α β : Type} {f : α → Option β} : ∀ (L : List α), (∀ i ∈ L, ∃ y, f i = some y) → ∃ ys, L.mapM f = some ys
  | [], _ => ⟨[], rfl⟩
  | a :: L, h => by
    obtain ⟨y, hy⟩ := h a List.mem_cons_self
    obtain ⟨ys, hys⟩ := mapM_some L (fun i hi => h i (List.mem_cons_of_mem _ hi))
    exact ⟨y :: ys, by simp [List.mapM_cons, hy, hys]⟩
theorem cm_lits_u8 (D : Nat) (x : UInt8) : Tryz.prog.keyLits (D + 1) 5 [bV x] = some [.int .u8 (bv x)] := by
  have hw : (Lit.int .u8 (bv x)).wf = true := by
    have := bv_bd x
    simp [Lit.wf, IntKind.min, IntKind.max, IntKind.signed, IntKind.bits]
    omega
  simp [Program.keyLits, Tryz.underlying5, bV, hw]
theorem keyLits_arr {P : Program} {D n : Nat} {e t : TypeId} (hu : P.underlying t = some (.array n e)) (cs : List Value) (hl : cs.length = P.cellsOf t) :
    P.keyLits (D + 1) t cs = ((List.range n).mapM fun i => P.keyLits D e ((cs.drop (i * P.cellsOf e)).take (P.cellsOf e))).map List.flatten := by
  conv => lhs; unfold Program.keyLits
  simp only [hu]
  rw [if_pos hl]
theorem keyLits_struct {P : Program} {D : Nat} {fs : Array Field} {t : TypeId} (hu : P.underlying t = some (.struct fs)) (cs : List Value) (hl : cs.length = P.cellsOf t) (hn : fs.all (·.name != "_") = true) :
    P.keyLits (D + 1) t cs = (fs.toList.mapM fun f => P.keyLits D f.type ((cs.drop f.offset).take (P.cellsOf f.type))).map List.flatten := by
  conv => lhs; unfold Program.keyLits
  simp only [hu]
  rw [if_pos ⟨hl, hn⟩]
theorem cm_lits_hash (D : Nat) (h : List UInt8) (hh : h.length = 32) : ∃ l, Tryz.prog.keyLits (D + 2) 44 (h.map bV) = some l := by
  have c1 : Tryz.prog.cellsOf 44 = 32 := by kernel_rfl
  have c2 : Tryz.prog.cellsOf 5 = 1 := by kernel_rfl
  obtain ⟨ys, hys⟩ := mapM_some (f := fun i => Tryz.prog.keyLits (D + 1) 5 (((h.map bV).drop (i * 1)).take 1)) (List.range 32) (fun i hi => by
    have hi2 : i < h.length := by rw [hh]; exact List.mem_range.1 hi
    have e : ((h.map bV).drop (i * 1)).take 1 = [bV (h[i]'hi2)] := by
      rw [Nat.mul_one, ← List.map_drop, List.drop_eq_getElem_cons hi2]
      rfl
    exact ⟨_, by show Tryz.prog.keyLits (D + 1) _ _ = _; rw [e]; exact cm_lits_u8 D _⟩)
  refine ⟨ys.flatten, ?_⟩
  rw [keyLits_arr Tryz.underlying44 _ (by rw [List.length_map, hh, c1]), c2, hys]
  rfl
theorem lits_num (D n : Nat) (hn : n ≤ 4294967295) : Tryz.prog.keyLits (D + 1) 23 [nV n] = some [.int .u32 (n : Int)] := by
  have hw : (Lit.int .u32 (n : Int)).wf = true := by
    simp [Lit.wf, IntKind.min, IntKind.max, IntKind.signed, IntKind.bits]
    omega
  simp [Program.keyLits, Tryz.underlying23, nV, hw]
theorem lits_pt (D : Nat) (p : TPt) (hp : PtOk p) : ∃ l, Tryz.prog.keyLits (D + 3) 50 (ptC p) = some l := by
  have c1 : Tryz.prog.cellsOf 44 = 32 := by kernel_rfl
  have c2 : Tryz.prog.cellsOf 23 = 1 := by kernel_rfl
  have c3 : Tryz.prog.cellsOf 50 = 33 := by kernel_rfl
  obtain ⟨la, hla⟩ := cm_lits_hash D p.h hp.1
  have hlb := lits_num (D + 1) p.n hp.2
  have hnm : (Tryz.prog.fieldsOf 50).all (·.name != "_") = true := by kernel_rfl
  have hf := pt_fields
  refine ⟨([la, [.int .u32 (p.n : Int)]] : List (List Lit)).flatten, ?_⟩
  have hm : (Tryz.prog.fieldsOf 50).toList.mapM (fun f => Tryz.prog.keyLits (D + 2) f.type (((ptC p).drop f.offset).take (Tryz.prog.cellsOf f.type))) = some [la, [.int .u32 (p.n : Int)]] := by
    generalize (Tryz.prog.fieldsOf 50).toList = fs at hf
    obtain ⟨f, f', rfl⟩ : ∃ f f', fs = [f, f'] := by
      have hl := congrArg List.length hf
      simp only [List.length_map, List.length_cons, List.length_nil] at hl
      obtain ⟨f, r, rfl⟩ := List.exists_cons_of_length_eq_add_one hl
      obtain ⟨f', r', rfl⟩ := List.exists_cons_of_length_eq_add_one (by simpa using hl)
      obtain rfl : r' = [] := List.eq_nil_of_length_eq_zero (by simpa using hl)
      exact ⟨f, f', rfl⟩
    simp only [List.map_cons, List.map_nil, List.cons.injEq, Prod.mk.injEq, and_true] at hf
    obtain ⟨⟨_, h2, h3⟩, _, h5, h6⟩ := hf
    have e1 : ((ptC p).drop 0).take 32 = p.h.map bV := by
      rw [List.drop_zero, ptC, ptL, List.take_append_of_le_length (by simp [hp.1]), List.take_of_length_le (by simp [hp.1])]
    have e2 : ((ptC p).drop 32).take 1 = [nV p.n] := by
      rw [ptC, ptL, List.drop_append_of_le_length (by simp [hp.1]), List.drop_of_length_le (by simp [hp.1])]
      rfl
    simp only [List.mapM_cons, List.mapM_nil, h2, h3, h5, h6, c1, c2, e1, e2, hla, hlb, Option.bind_eq_bind, Option.bind_some, Option.pure_def]
  rw [keyLits_struct pt_under _ (by rw [ptC_length hp, c3]) hnm, hm]
  rfl
theorem pt_keyOf (p : TPt) (hp : PtOk p) : ∃ l, keyOf Tryz.prog 50 (.agg (ptC p).toArray) = some l := by
  obtain ⟨m, hm⟩ : ∃ m, Tryz.prog.types.size = m + 2 := ⟨Tryz.prog.types.size - 2, by have := types_two; omega⟩
  obtain ⟨l, hl⟩ := lits_pt m p hp
  have hfo : Value.formed Tryz.prog 50 (.agg (ptC p).toArray) = true := by
    have c3 : Tryz.prog.cellsOf 50 = 33 := by kernel_rfl
    simp [Value.formed, pt_under, c3, ptC_length hp]
  refine ⟨.string (keyBytes l), ?_⟩
  have e : (Value.agg (ptC p).toArray).cells.toList = ptC p := by simp [Value.cells]
  simp only [keyOf, pt_under, cm_pt_key, hfo, Bool.and_self, if_true, e, hm, hl, Option.map_some]
/-! The map. -/
def enE (x : TSp) : Value × Value := (.agg (ptC x.at_).toArray, .agg (mnL x.coin).toArray)
def kvE (e : MapEntry) : Value × Value := (e.key, e.val)
/-- Block b is a map of these coins. -/
def MapAt (w : World) (b : Nat) (l : List TSp) : Prop :=
  ∃ es clock, w.heap[b]? = some (.map es clock) ∧ Stamped es clock ∧ es.toList.map kvE = l.map enE ∧ ∀ x ∈ l, SpOk x
/-- A map's value: none, or a block. -/
def MapO (w : World) (m : Option Nat) (l : List TSp) : Prop :=
  match m with
  | none => l = []
  | some b => MapAt w b l
/-- What is at a place. -/
def getC (l : List TSp) (p : TPt) : Option TMn := (l.find? (fun x => decide (x.at_ = p))).map (·.coin)
def delC (l : List TSp) (p : TPt) : List TSp := l.filter (fun x => !decide (x.at_ = p))
def mnZ : TMn := ⟨0, List.replicate 32 0, 0, false⟩
theorem mnZ_ok : MnOk mnZ := ⟨rfl, by show 0 ≤ _; omega, by show _ ≤ (0 : Int); omega, by show (0 : Int) ≤ _; omega⟩
/-- A coin of zeros, at the place of zeros. -/
def spZ : TSp := ⟨⟨List.replicate 32 0, 0⟩, mnZ⟩
theorem spZ_ok : SpOk spZ := ⟨⟨rfl, Nat.zero_le _⟩, mnZ_ok⟩
theorem info_money : (Tryz.prog.info? 46).map (fun i => (i.zero, i.size, i.bytes)) = some (some (.agg (mnL mnZ).toArray), 35, 56) := by kernel_rfl
theorem info_spent : (Tryz.prog.info? 84).map (fun i => (i.zero, i.size, i.bytes)) = some (some (.agg (spL ⟨⟨List.replicate 32 0, 0⟩, mnZ⟩).toArray), 68, 96) := by kernel_rfl
theorem zero_money (w : World) : (zeroValue 46).run Tryz.prog w = .ok (.agg (mnL mnZ).toArray) w := by kernel_rfl
section
variable {w : World} {b : Nat} {l : List TSp}
theorem enE_get {es : Array MapEntry} (h : es.toList.map kvE = l.map enE) {j : Nat} {e : MapEntry} (hj : es.toList[j]? = some e) : ∃ x, l[j]? = some x ∧ e.key = .agg (ptC x.at_).toArray ∧ e.val = .agg (mnL x.coin).toArray := by
  have h1 := congrArg (·[j]?) h
  simp only [List.getElem?_map, hj, Option.map_some] at h1
  cases hx : l[j]? with
  | none => simp [hx] at h1
  | some x =>
    rw [hx, Option.map_some, Option.some.injEq, kvE, enE, Prod.mk.injEq] at h1
    exact ⟨x, rfl, h1.1, h1.2⟩
theorem enE_mem {es : Array MapEntry} (h : es.toList.map kvE = l.map enE) {e : MapEntry} (he : e ∈ es.toList) : ∃ x ∈ l, e.key = .agg (ptC x.at_).toArray ∧ e.val = .agg (mnL x.coin).toArray := by
  obtain ⟨j, hj⟩ := List.getElem?_of_mem he
  obtain ⟨x, hx, h1⟩ := enE_get h hj
  exact ⟨x, List.mem_of_getElem? hx, h1⟩
theorem enE_mem' {es : Array MapEntry} (h : es.toList.map kvE = l.map enE) {x : TSp} (hx : x ∈ l) : ∃ e ∈ es.toList, e.key = .agg (ptC x.at_).toArray ∧ e.val = .agg (mnL x.coin).toArray := by
  have h1 : enE x ∈ es.toList.map kvE := by rw [h]; exact List.mem_map.2 ⟨x, hx, rfl⟩
  obtain ⟨e, he, h2⟩ := List.mem_map.1 h1
  rw [kvE, enE, Prod.mk.injEq] at h2
  exact ⟨e, he, h2.1, h2.2⟩
/-- No place has two coins. -/
theorem MapAt.apart (h : MapAt w b l) : l.Pairwise (fun x y => x.at_ ≠ y.at_) := by
  obtain ⟨es, clock, _, hs, he, _⟩ := h
  have h1 := ((stamped_iff es clock).1 hs).2.2
  have h2 : (es.toList.map kvE).Pairwise (fun p q => p.1 ≠ q.1) := by
    rw [List.pairwise_map]
    exact h1
  rw [he, List.pairwise_map] at h2
  exact h2.imp (fun {x y} hne e => hne (by show Value.agg _ = .agg _; rw [e]))
theorem MapAt.ok (h : MapAt w b l) : ∀ x ∈ l, SpOk x := by
  obtain ⟨_, _, _, _, _, ho⟩ := h
  exact ho
theorem MapAt.lt (h : MapAt w b l) : b < w.heap.size := by
  obtain ⟨_, _, hb, _⟩ := h
  exact (Array.getElem?_eq_some_iff.1 hb).1
theorem MapAt.kps {F : Nat → Prop} {w' : World} (h : MapAt w b l) (hk : Kps F w w') (hf : F b) : MapAt w' b l := by
  obtain ⟨es, clock, hb, h2⟩ := h
  exact ⟨es, clock, row_kps hb hk hf, h2⟩
theorem MapO.apart {m : Option Nat} (h : MapO w m l) : l.Pairwise (fun x y => x.at_ ≠ y.at_) := by
  cases m with
  | none => rw [show l = [] from h]; exact List.Pairwise.nil
  | some b => exact MapAt.apart h
theorem MapO.ok {m : Option Nat} (h : MapO w m l) : ∀ x ∈ l, SpOk x := by
  cases m with
  | none => rw [show l = [] from h]; simp
  | some b => exact MapAt.ok h
theorem MapO.kps {F : Nat → Prop} {w' : World} {m : Option Nat} (h : MapO w m l) (hk : Kps F w w') (hf : ∀ b, m = some b → F b) : MapO w' m l := by
  cases m with
  | none => exact h
  | some b => exact MapAt.kps h hk (hf b rfl)
theorem getC_none {p : TPt} (h : ∀ x ∈ l, x.at_ ≠ p) : getC l p = none := by
  unfold getC
  rw [List.find?_eq_none.2 (fun x hx => by simpa using h x hx)]
  rfl
theorem getC_ne {p : TPt} (h : getC l p = none) : ∀ x ∈ l, x.at_ ≠ p := by
  unfold getC at h
  rw [Option.map_eq_none_iff, List.find?_eq_none] at h
  exact fun x hx e => h x hx (by simpa using e)
theorem getC_some : ∀ {l : List TSp} {p : TPt} {j : Nat} {x : TSp}, l.Pairwise (fun x y => x.at_ ≠ y.at_) → l[j]? = some x → x.at_ = p → getC l p = some x.coin
  | y :: l, p, 0, x, _, hj, hp => by
    simp only [List.getElem?_cons_zero, Option.some.injEq] at hj
    subst hj
    simp [getC, hp]
  | y :: l, p, j + 1, x, ha, hj, hp => by
    obtain ⟨h1, h2⟩ := List.pairwise_cons.1 ha
    have hj' : l[j]? = some x := by simpa using hj
    have hne : ¬ y.at_ = p := fun e => h1 x (List.mem_of_getElem? hj') (by rw [e, hp])
    have := getC_some h2 hj' hp
    unfold getC at this ⊢
    rw [List.find?_cons_of_neg (by simpa using hne)]
    exact this
  | [], _, _, _, _, hj, _ => by simp at hj
theorem find_pt {es : Array MapEntry} (he : es.toList.map kvE = l.map enE) (ho : ∀ x ∈ l, SpOk x) (p : TPt) (hp : PtOk p) (W : World) :
    ((Instr.findKey 50 (.agg (ptC p).toArray) es.toList).run Tryz.prog W = .ok none W ∧ ∀ x ∈ l, x.at_ ≠ p) ∨
    ∃ j x, (Instr.findKey 50 (.agg (ptC p).toArray) es.toList).run Tryz.prog W = .ok (some (j, .agg (mnL x.coin).toArray)) W ∧ l[j]? = some x ∧ x.at_ = p := by
  obtain ⟨lx, hlx⟩ := pt_keyOf p hp
  rcases cm_pt_law.find W hlx es.toList (fun e hem => by
    obtain ⟨x, hx, hk, _⟩ := enE_mem he hem
    rw [hk]
    exact pt_keyOf _ (ho x hx).1) with ⟨h1, h2⟩ | ⟨j, e, h1, h2, h3⟩
  · refine .inl ⟨h1, fun x hx e => ?_⟩
    obtain ⟨en, hen, hk, _⟩ := enE_mem' he hx
    exact h2 en hen (by rw [hk, e])
  · obtain ⟨x, hx, hk, hv⟩ := enE_get he h2
    exact .inr ⟨j, x, by rw [h1, hv], hx, ptC_agg_inj (by rw [← hk, h3])⟩
theorem map_under : Tryz.prog.underlying 74 = some (.map 50 46) := by kernel_rfl
theorem check_pt (em : Bool) (p : TPt) (hp : PtOk p) (W : World) : (Instr.checkKey em 10000 50 (.agg (ptC p).toArray)).run Tryz.prog W = .ok () W := by
  obtain ⟨lx, hlx⟩ := pt_keyOf p hp
  exact cm_pt_law.check W em hlx
/-- 'v, ok := m[p]'. -/
theorem map_look {m : Option Nat} (h : MapO w m l) (p : TPt) (hp : PtOk p) :
    (Instr.lookup 74 (.map m) (.agg (ptC p).toArray) true).run Tryz.prog w = .ok (.tuple #[.agg (mnL ((getC l p).getD mnZ)).toArray, .bool (getC l p).isSome]) w := by
  cases m with
  | none =>
    obtain rfl : l = [] := h
    have hf : (Instr.findKey 50 (.agg (ptC p).toArray) []).run Tryz.prog w = .ok none w := by
      rcases find_pt (es := #[]) (l := []) rfl (by simp) p hp w with ⟨h1, _⟩ | ⟨j, x, _, h2, _⟩
      · exact h1
      · simp at h2
    simp [Instr.lookup, run_underlying map_under, check_pt _ p hp, hf, zero_money, Result.andThen, getC]
    rfl
  | some b =>
    have hap := MapAt.apart h
    obtain ⟨es, clock, hb, hs, he, ho⟩ := h
    rcases find_pt he ho p hp w with ⟨h1, h2⟩ | ⟨j, x, h1, h2, h3⟩
    · rw [getC_none h2]
      simp [Instr.lookup, run_underlying map_under, MapKept.run_getObj_map hb, check_pt _ p hp, h1, zero_money, Result.andThen]
      rfl
    · rw [getC_some hap h2 h3]
      simp [Instr.lookup, run_underlying map_under, MapKept.run_getObj_map hb, check_pt _ p hp, h1, Result.andThen]
/-- 'm[p] = c' at a place that has none. -/
theorem map_put (h : MapAt w b l) (p : TPt) (hp : PtOk p) (c : TMn) (hc : MnOk c) (hn : getC l p = none) :
    ∃ w', (Instr.mapUpdate 74 (.map (some b)) (.agg (ptC p).toArray) (.agg (mnL c).toArray)).run Tryz.prog w = .ok () w' ∧ MapAt w' b (l ++ [⟨p, c⟩]) ∧ w.grownBy w' (some b) := by
  obtain ⟨es, clock, hb, hs, he, ho⟩ := h
  rcases find_pt he ho p hp w with ⟨h1, h2⟩ | ⟨j, x, _, h2, h3⟩
  · refine ⟨setBlock w b (.map (es.push { key := .agg (ptC p).toArray, val := .agg (mnL c).toArray, born := clock }) (clock + 1)), ?_, ⟨_, _, heap_setBlock_same hb _, stamped_push hs (fun e hem => ?_), ?_, fun x hx => ?_⟩, ⟨rfl, rfl, rfl, by simp [setBlock], fun i _ hi => heap_setBlock_other hb _ (fun e => hi (by rw [e]))⟩⟩
    · simp [Instr.mapUpdate, run_underlying map_under, MapKept.run_getObj_map hb, check_pt _ p hp, h1, MapKept.run_setObj_map _ hb, Result.andThen, setBlock]
    · obtain ⟨x, hx, hk, _⟩ := enE_mem he hem
      rw [hk]
      exact fun e => h2 x hx (ptC_agg_inj e)
    · rw [Array.toList_push, List.map_append, List.map_append, he]
      rfl
    · rcases List.mem_append.1 hx with hx | hx
      · exact ho x hx
      · rw [List.mem_singleton.1 hx]
        exact ⟨hp, hc⟩
  · exact absurd h3 (getC_ne hn x (List.mem_of_getElem? h2))
/-- A map that has just been made. -/
theorem map_made (w : World) : MapAt (w.alloc (.map #[] 0)) w.heap.size [] := ⟨#[], 0, heap_alloc_new w _, stamped_empty 0, rfl, by simp⟩
/-! Ranging. -/
/-- Block r goes over the map m; these are still to come. -/
def IterAt (w : World) (m : Option Nat) (r : Nat) (rest : List TSp) : Prop :=
  match m with
  | none => rest = [] ∧ w.heap[r]? = some (.mapIter none 0 #[] 0)
  | some b => ∃ es clock since seen c0, w.heap[b]? = some (.map es clock) ∧ Stamped es clock ∧ w.heap[r]? = some (.mapIter (some b) since seen c0) ∧ (∀ x ∈ es.toList, x.born < since) ∧ since ≤ c0 ∧ since ≤ clock ∧
    (leftOf es seen).toList.map kvE = rest.map enE ∧ ∀ x ∈ rest, SpOk x
theorem IterAt.kps {F : Nat → Prop} {w' : World} {m : Option Nat} {r : Nat} {rest : List TSp} (h : IterAt w m r rest) (hk : Kps F w w') (hf : ∀ b, m = some b → F b) (hr : F r) : IterAt w' m r rest := by
  cases m with
  | none => exact ⟨h.1, row_kps h.2 hk hr⟩
  | some b =>
    obtain ⟨es, clock, since, seen, c0, hb, h1, h2, h3⟩ := h
    exact ⟨es, clock, since, seen, c0, row_kps hb hk (hf b rfl), h1, row_kps h2 hk hr, h3⟩
theorem IterAt.below {w' : World} {m : Option Nat} {r : Nat} {rest : List TSp} (h : IterAt w m r rest) (hb : Below w.heap.size w w') : IterAt w' m r rest := by
  cases m with
  | none => exact ⟨h.1, row_below h.2 hb⟩
  | some b =>
    obtain ⟨es, clock, since, seen, c0, h0, h1, h2, h3⟩ := h
    exact ⟨es, clock, since, seen, c0, row_below h0 hb, h1, row_below h2 hb, h3⟩
end
end Go.Proofs.YtckkcpplanfmhaaGreatDoor.Sha

/-
  A value stored into a box, or into a part of a block of one's own, the new world hidden; two boxes; a box and a value as results. No conditions beyond those that each states.
-/
namespace Go.Proofs.YtckkcpplanfmhaaGreatDoor.Sha
open Go Go.RowKit
section
variable {P : Program}
theorem setRow_grown {w : World} {g : Nat} (cs : Array Value) : w.grownBy (w.setRow g cs) (some g) := by
  refine ⟨rfl, rfl, rfl, by simp [World.setRow], fun k _ hk => ?_⟩
  simp only [World.setRow]
  rw [Array.getElem?_modify, if_neg (fun e => hk (by rw [e]))]
theorem run_store_part {w : World} (ty : TypeId) (g o : Nat) (A old C new : List Value) (T : TypeId) (v : Value) (hv : v.cells = new.toArray) (hA : A.length = o) (hlen : old.length = new.length)
    (hg : w.heap[g]? = some (.cells (A ++ old ++ C).toArray T (0, 0))) (hi : (P.info? ty).map (·.size) = some new.length) (h1 : ∀ u ∈ new, u.oneCell' = true) :
    (storeVar ty ⟨g, o, none⟩ v).run P w = .ok () (w.setRow g (A ++ new ++ C).toArray) := by
  have h := run_storeCells_at P g o T new 0 (A ++ old ++ C).toArray w hg (by simp; omega) h1
  have e : ((A ++ old ++ C).toArray.toList.take (o + 0) ++ new ++ (A ++ old ++ C).toArray.toList.drop (o + 0 + new.length)).toArray = (A ++ new ++ C).toArray := by
    congr 1
    subst hA
    simp only [Nat.add_zero]
    rw [List.append_assoc A old C, List.take_left, ← List.drop_drop, List.drop_left, ← hlen, List.drop_left]
  rw [e] at h
  cases hq : P.info? ty with
  | none => simp [hq] at hi
  | some i =>
    have hs : i.size = new.length := by simpa [hq] using hi
    simp [storeVar, sizeOf, typeInfo, hq, hv, hs]
    simpa using h
theorem wp_store_part {op : Oper} {a : Act} {w : World} {K : Act → World → Prop} {Q : Exit → Act → World → Prop} (ty : TypeId) (x y : Operand) (ho : op.op = .store ty x y)
    (g o : Nat) (A old C new : List Value) (T : TypeId) (v : Value) (hx : a.eval x = .pointer (some ⟨g, o, none⟩)) (hy : a.eval y = v) (hv : v.cells = new.toArray) (hA : A.length = o) (hlen : old.length = new.length)
    (hg : w.heap[g]? = some (.cells (A ++ old ++ C).toArray T (0, 0))) (hi : (P.info? ty).map (·.size) = some new.length) (h1 : ∀ u ∈ new, u.oneCell' = true)
    (h : ∀ w', w'.heap[g]? = some (.cells (A ++ new ++ C).toArray T (0, 0)) → w.grownBy w' (some g) → K (a.put op.dst undef) w') : op.wp P a w K Q := by
  unfold Oper.wp execOp
  simp only [ho, hx, hy, Instr.storeAt, Instr.sureAddr, Sem.run_bind, Sem.run_pure, Result.andThen_ok, run_store_part ty g o A old C new T v hv hA hlen hg hi h1]
  exact h _ (setRow_heap _ _ _ _ _ _ hg) (setRow_grown _)
theorem wpList_store_part {ops : Array Oper} {rest : List Oper} {op : Oper} {a : Act} {w : World} {Q : Exit → Act → World → Prop} (hgd : op.guard = none) (ty : TypeId) (x y : Operand) (ho : op.op = .store ty x y)
    (g o : Nat) (A old C new : List Value) (T : TypeId) (v : Value) (hx : a.eval x = .pointer (some ⟨g, o, none⟩)) (hy : a.eval y = v) (hv : v.cells = new.toArray) (hA : A.length = o) (hlen : old.length = new.length)
    (hg : w.heap[g]? = some (.cells (A ++ old ++ C).toArray T (0, 0))) (hi : (P.info? ty).map (·.size) = some new.length) (h1 : ∀ u ∈ new, u.oneCell' = true)
    (h : ∀ w', w'.heap[g]? = some (.cells (A ++ new ++ C).toArray T (0, 0)) → w.grownBy w' (some g) → wpList P ops Q rest (a.put op.dst undef) w') : wpList P ops Q (op :: rest) a w :=
  wpList_plain hgd fun _ hK => wp_store_part ty x y ho g o A old C new T v hx hy hv hA hlen hg hi h1 (fun w' a1 a2 => hK _ _ (h w' a1 a2))
end
theorem row_far {w w' : World} {g : Nat} {q : Option Nat} {o : Obj} (h : w.heap[g]? = some o) (hg : w.grownBy w' q) (hq : q ≠ some g) : w'.heap[g]? = some o := by
  rw [hg.block g (Array.getElem?_eq_some_iff.1 h).1 (fun e => hq e.symm)]
  exact h
section
variable {P : Program}
theorem wp_store_whole {op : Oper} {a : Act} {w : World} {K : Act → World → Prop} {Q : Exit → Act → World → Prop} (ty : TypeId) (x y : Operand) (ho : op.op = .store ty x y)
    (g : Nat) (old new : List Value) (T : TypeId) (hx : a.eval x = .pointer (some ⟨g, 0, none⟩)) (hy : a.eval y = .agg new.toArray) (hlen : old.length = new.length) (hrow : w.heap[g]? = some (.cells old.toArray T (0, 0)))
    (hi : (P.info? ty).map (·.size) = some new.length) (h1 : new.toArray.all (·.oneCell') = true)
    (h : ∀ w', w'.heap[g]? = some (.cells new.toArray T (0, 0)) → w.grownBy w' (some g) → K (a.put op.dst undef) w') : op.wp P a w K Q :=
  wp_store_row ty x y ho g new.toArray hx hy T old.toArray hrow (by simpa using hi) (by simpa using hlen) h1 (h _ (setRow_heap _ _ _ _ _ _ hrow) (setRow_grown _))
end
/-- Two boxes. -/
theorem boxes_two (w : World) (x y : Array Value) (T : TypeId) :
    Below w.heap.size w ((w.alloc (.cells x T (0, 0))).alloc (.cells y T (0, 0)))
    ∧ ((w.alloc (.cells x T (0, 0))).alloc (.cells y T (0, 0))).heap[w.heap.size]? = some (.cells x T (0, 0))
    ∧ ((w.alloc (.cells x T (0, 0))).alloc (.cells y T (0, 0))).heap[w.heap.size + 1]? = some (.cells y T (0, 0)) := by
  refine ⟨((Below.refl _ _).alloc (Nat.le_refl _) _).alloc (by simp) _, ?_, ?_⟩
  · have h1 := heap_alloc_new w (.cells x T (0, 0))
    exact row_below h1 ((Below.refl _ _).alloc (Nat.le_refl _) (.cells y T (0, 0)))
  · have h1 := heap_alloc_new (w.alloc (.cells x T (0, 0))) (.cells y T (0, 0))
    rw [World.size_alloc] at h1
    exact h1
theorem results_row_tmp {P : Program} {fn : Func} {p u : Tmp} {ty : TypeId} (h : fn.results = #[.cell p ty, .tmp u]) (tmps : Array Value) (w : World) (g : Nat) (t : TypeId) (cs : Array Value) (fr : Nat × Nat) (d : TypeDesc)
    (hx : tmps.getD p undef = .pointer (some ⟨g, 0, none⟩)) (hg : w.heap[g]? = some (.cells cs t fr)) (hu : P.underlying ty = some d) (hd : (match d with | .struct _ | .array _ _ => true | _ => false) = true) (hi : (P.info? ty).map (·.size) = some cs.size) :
    (results fn tmps).run P w = .ok (.tuple #[.agg cs, tmps.getD u undef]) w := by
  rw [results_cell_tmp h, hx]
  simp [asAddr, Result.andThen, run_loadVar_row (P := P) w g t ty cs fr d hg hu hd hi]
end Go.Proofs.YtckkcpplanfmhaaGreatDoor.Sha
