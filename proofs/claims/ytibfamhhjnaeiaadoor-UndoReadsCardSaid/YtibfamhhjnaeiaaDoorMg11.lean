/-
  The statements' own SHA-256 answers what the chapter says, for any bytes; nothing that was there turns. Conditions: the bytes lie where the slice says, fewer than 2^46.
-/
import Derived.Deep.DeepCutAuto
import Derived.Test.YtibfamhhjnaeiaaDoorMg10
namespace Go.Proofs.YtibfamhhjnaeiaaDoor.Sha
open Go Go.RowKit
theorem ow_u32 : (Tryd.prog.info? 26).map (fun i => (i.zero, i.size, i.bytes)) = some (some (.int .u32 0), 1, 4) := by kernel_rfl
/-- The message and j zeros behind it. -/
def grown (bs : List UInt8) (j : Nat) : List UInt8 := bs ++ [0x80] ++ List.replicate j 0
theorem grown_succ (bs : List UInt8) (j : Nat) : grown bs j ++ [0] = grown bs (j + 1) := by
  simp [grown, List.replicate_succ']
theorem grown_length (bs : List UInt8) (j : Nat) : (grown bs j).length = bs.length + 1 + j := by simp [grown]; omega
theorem grown_pad (bs : List UInt8) : grown bs (padLen bs.length - 1) = bs ++ pad bs.length := by simp [grown, pad]
def RzInv (bs : List UInt8) (B : Nat) (w : World) (v : Value) (wr : World) : Prop :=
  ∃ j : Nat, j ≤ padLen bs.length - 1 ∧ wr.ownsRow B 5 1 v (bs.length + 1 + j) ((grown bs j).map bV) ∧ Below w.heap.size w wr
def lenV : Value → Nat
  | .slice _ n _ => n
  | _ => 0
/-- k words of the schedule stand in a block of its own. -/
def RsInv (b : Nat → UInt8) (B : Nat) (w : World) (i : Value) (wr : World) : Prop :=
  ∃ k : Nat, k ≤ 64 ∧ i = .int .i64 k ∧ wr.heap[B]? = some (.cells (rowV b k).toArray 26 (0, 0)) ∧ Below B w wr
theorem rs_step {b : Nat → UInt8} {B k : Nat} {w wr : World} (hr : wr.heap[B]? = some (.cells (rowV b k).toArray 26 (0, 0))) (hb : Below B w wr) (hk : k < 64) (x : UInt32) (hx : nextW b k (row b k) = x) :
    (wr.setCell ⟨B, k, none⟩ (.int .u32 (wv x))).drew.heap[B]? = some (.cells (rowV b (k + 1)).toArray 26 (0, 0)) ∧ Below B w (wr.setCell ⟨B, k, none⟩ (.int .u32 (wv x))).drew := by
  subst hx
  refine ⟨?_, (hb.setCell (Nat.le_refl _) _).drew⟩
  rw [heap_drew, heap_setCell_same wr B k _ _ _ hr, ← rowV_set b k hk]
  rfl
theorem nextW_ref (b : Nat → UInt8) (t : Nat) (l : List UInt32) (h : 16 ≤ t) {x2 x7 x15 x16 : UInt32} (h2 : l.getD (t - 2) 0 = x2) (h7 : l.getD (t - 7) 0 = x7) (h15 : l.getD (t - 15) 0 = x15) (h16 : l.getD (t - 16) 0 = x16) :
    nextW b t l = x16 + (rotr x15 7 ^^^ rotr x15 18 ^^^ (x15 >>> UInt32.ofNat 3)) + x7 + (rotr x2 17 ^^^ rotr x2 19 ^^^ (x2 >>> UInt32.ofNat 10)) := by
  rw [nextW_high b t l h, h2, h7, h15, h16]
  show sS1 x2 + x7 + sS0 x15 + x16 = x16 + sS0 x15 + x7 + sS1 x2
  ac_rfl
/-- k bytes of the length stand. -/
def RzTwo (bs : List UInt8) (B : Nat) (w : World) (v i : Value) (wr : World) : Prop :=
  ∃ k : Nat, k ≤ 8 ∧ i = .int .i64 (7 - (k : Int)) ∧ wr.ownsRow B 5 1 v (bs.length + padLen bs.length + k) ((bs ++ pad bs.length ++ (len8 bs.length).take k).map bV) ∧ Below w.heap.size w wr
/-- t rounds stand in a row of eight words. -/
def RrInv (l : List UInt32) (s : St) (w : World) (v i : Value) (wr : World) : Prop :=
  ∃ t g cp : Nat, t ≤ 64 ∧ i = .int .i64 t ∧ v = .slice (some ⟨g, 0, none⟩) 8 cp ∧ 8 ≤ cp ∧ w.heap.size ≤ g ∧ (∀ j x, (rounds l s t).cells[j]? = some x → wr.cell? ⟨g, j, none⟩ = some x) ∧ Below w.heap.size w wr
/-- k of the eight words have been added to. -/
def addHL (s r : St) (k : Nat) : List Value := ((s.plus r).list.take k ++ s.list.drop k).map wV
theorem addHL_get (s r : St) (k : Nat) (h : k < 8) : (addHL s r k)[k]? = some (wV (s.list.getD k 0)) := by
  match k, h with
  | 0, _ => rfl
  | 1, _ => rfl
  | 2, _ => rfl
  | 3, _ => rfl
  | 4, _ => rfl
  | 5, _ => rfl
  | 6, _ => rfl
  | 7, _ => rfl
theorem addHL_set (s r : St) (k : Nat) (h : k < 8) : (addHL s r k).set k (wV (s.list.getD k 0 + r.list.getD k 0)) = addHL s r (k + 1) := by
  match k, h with
  | 0, _ => rfl
  | 1, _ => rfl
  | 2, _ => rfl
  | 3, _ => rfl
  | 4, _ => rfl
  | 5, _ => rfl
  | 6, _ => rfl
  | 7, _ => rfl
def AdInv (s r : St) (H : Nat) (w : World) (i : Value) (wr : World) : Prop :=
  ∃ k : Nat, k ≤ 8 ∧ i = .int .i64 k ∧ wr.heap[H]? = some (.cells (addHL s r k).toArray 26 (0, 0)) ∧ w.grownBy wr (some H)
theorem out_byte (s : St) (k : Nat) (h : k < 32) : s.bytes.getD k 0 = ((s.list.getD (k / 4) 0) >>> UInt32.ofNat (24 - 8 * (k % 4))).toUInt8 := by
  have z : ∀ x : UInt32, x.toUInt8 = (x >>> UInt32.ofNat 0).toUInt8 := fun x => by simp
  obtain ⟨q, e, hq, he, rfl⟩ : ∃ q e, q < 8 ∧ e < 4 ∧ k = 4 * q + e := ⟨k / 4, k % 4, by omega, by omega, by omega⟩
  rw [show (4 * q + e) / 4 = q by omega, show (4 * q + e) % 4 = e by omega]
  match q, hq, e, he with
  | 0, _, 0, _ => rfl
  | 0, _, 1, _ => rfl
  | 0, _, 2, _ => rfl
  | 0, _, 3, _ => exact z _
  | 1, _, 0, _ => rfl
  | 1, _, 1, _ => rfl
  | 1, _, 2, _ => rfl
  | 1, _, 3, _ => exact z _
  | 2, _, 0, _ => rfl
  | 2, _, 1, _ => rfl
  | 2, _, 2, _ => rfl
  | 2, _, 3, _ => exact z _
  | 3, _, 0, _ => rfl
  | 3, _, 1, _ => rfl
  | 3, _, 2, _ => rfl
  | 3, _, 3, _ => exact z _
  | 4, _, 0, _ => rfl
  | 4, _, 1, _ => rfl
  | 4, _, 2, _ => rfl
  | 4, _, 3, _ => exact z _
  | 5, _, 0, _ => rfl
  | 5, _, 1, _ => rfl
  | 5, _, 2, _ => rfl
  | 5, _, 3, _ => exact z _
  | 6, _, 0, _ => rfl
  | 6, _, 1, _ => rfl
  | 6, _, 2, _ => rfl
  | 6, _, 3, _ => exact z _
  | 7, _, 0, _ => rfl
  | 7, _, 1, _ => rfl
  | 7, _, 2, _ => rfl
  | 7, _, 3, _ => exact z _
/-- k bytes of the digest stand. -/
def otL (s : St) (k : Nat) : List Value := (s.bytes.take k).map bV ++ List.replicate (32 - k) (bV 0)
theorem otL_get (s : St) (k : Nat) (h : k < 32) : (otL s k).toArray[k]? = some (bV 0) := by
  unfold otL
  rw [List.getElem?_toArray, List.getElem?_append_right (by simp [bytes_length]; omega), List.getElem?_replicate, if_pos (by simp [bytes_length]; omega)]
theorem otL_set (s : St) (k : Nat) (h : k < 32) : (otL s k).set k (bV (s.bytes.getD k 0)) = otL s (k + 1) := by
  have hk : k < s.bytes.length := by rw [bytes_length]; exact h
  have hl : ((s.bytes.take k).map bV).length = k := by simp [bytes_length]; omega
  unfold otL
  rw [List.set_append_right _ _ (by omega), hl, Nat.sub_self, show 32 - k = (32 - (k + 1)) + 1 by omega, List.replicate_succ, List.set_cons_zero, List.take_succ_eq_append_getElem hk, List.map_append, List.append_assoc, show s.bytes.getD k 0 = s.bytes[k] by simp [List.getD, List.getElem?_eq_getElem hk]]
  rfl
def OtInv (s : St) (w : World) (i : Value) (wr : World) : Prop :=
  ∃ k : Nat, k ≤ 32 ∧ i = .int .i64 k ∧ wr.heap[w.heap.size]? = some (.cells (otL s k).toArray 25 (0, 0)) ∧ Below w.heap.size w wr
theorem one_cells (s : St) : ∀ u ∈ s.cells, u.oneCell' = true := by
  intro u hu
  simp [St.cells] at hu
  rcases hu with rfl | rfl | rfl | rfl | rfl | rfl | rfl | rfl <;> rfl
theorem ref_news {w : World} {H T : Nat} {s : St} (h : w.heap[H]? = some (.cells s.cells.toArray T (0, 0))) (o : Obj) : ∀ j u, s.cells[j]? = some u → (w.alloc o).cell? ((⟨H, 0, none⟩ : Addr).add j) = some u := by
  intro j u hu
  have hH : H < w.heap.size := (Array.getElem?_eq_some_iff.1 h).1
  rw [Addr.add_mid, Nat.zero_add, cell_of_row (w.alloc o) H j _ T (0, 0) (by rw [Below.heap_alloc _ _ _ hH]; exact h)]
  simpa using hu
theorem padded_mod (bs : List UInt8) : (padded bs).length % 64 = 0 := by rw [padded_length]; exact (padLen_bd _).2.2
def MnInv (bs : List UInt8) (w3 : World) (H : Nat) (i : Value) (wr : World) : Prop :=
  ∃ j : Nat, j ≤ (padded bs).length / 64 ∧ i = .int .i64 ((64 * j : Nat) : Int) ∧ wr.heap[H]? = some (.cells (blocks (padded bs) j).cells.toArray 26 (0, 0)) ∧ w3.grownBy wr (some H)
theorem ref_frame {w w2 wr w3 : World} {bs : List UInt8} {g m c H K : Nat} (F1 : Below w.heap.size w w2) (F2 : w2.heap.size = w.heap.size + 2) (F3 : w2.heap[w.heap.size]? = some (.cells (List.replicate 32 (bV 0)).toArray 25 (0, 0)))
    (F4 : w2.heap[w.heap.size + 1]? = some (.cells start.cells.toArray 26 (0, 0))) (HB2 : Below w2.heap.size w2 wr) (HB3 : Below wr.heap.size wr w3) (HC : w3.heap[wr.heap.size]? = some (.cells (kList.map wV).toArray 26 (0, 0)))
    (HO : wr.ownsRow w2.heap.size 5 1 (.slice (some ⟨g, 0, none⟩) m c) m ((padded bs).map bV)) (hg : w2.heap.size ≤ g) (hH : H = w.heap.size + 1) (hK : K = wr.heap.size) (hm : m = (padded bs).length) :
    (∀ j, j < m → w3.cell? ⟨g, j, none⟩ = some (.int .u8 (bv ((padded bs).getD j 0)))) ∧ w3.heap[K]? = some (.cells (kList.map wV).toArray 26 (0, 0)) ∧ w3.heap[H]? = some (.cells start.cells.toArray 26 (0, 0))
      ∧ w3.heap[w.heap.size]? = some (.cells (List.replicate 32 (bV 0)).toArray 25 (0, 0)) ∧ Below w.heap.size w w3 ∧ H < K ∧ g ≠ H ∧ K < w3.heap.size ∧ w.heap.size < H := by
  subst hH hK
  have s2 := HB2.size
  refine ⟨fun j hj => ?_, HC, ?_, ?_, (F1.trans (HB2.mono (by omega))).trans (HB3.mono (by omega)), by omega, by omega, (Array.getElem?_eq_some_iff.1 HC).1, by omega⟩
  · have h := HO.cellAt j (by omega)
    have hj2 : j < (padded bs).length := by omega
    have h2 : wr.cell? ⟨g, j, none⟩ = some (.int .u8 (bv ((padded bs).getD j 0))) := by
      rw [h, List.getElem?_map, List.getElem?_eq_getElem hj2]
      simp [bV, List.getD, List.getElem?_eq_getElem hj2]
    rw [HB3.cell (p := ⟨g, j, none⟩) (World.block_lt_of_cell? wr _ h2)]
    exact h2
  · rw [HB3.block _ (by omega), HB2.block _ (by omega)]; exact F4
  · rw [HB3.block _ (by omega), HB2.block _ (by omega)]; exact F3
theorem ref_setup (w : World) (z : Array Value) (T : TypeId) (o : Obj) : ∃ w2, (w.alloc (.cells z T)).alloc o = w2 ∧ Below w.heap.size w w2 ∧ w2.heap.size = w.heap.size + 2 ∧ w2.heap[w.heap.size]? = some (.cells z T (0, 0)) ∧ w2.heap[w.heap.size + 1]? = some o :=
  ⟨_, rfl, ((Below.refl _ _).alloc (Nat.le_refl _) _).alloc (by simp) _, by simp, heap_alloc2_old _ _ _, heap_alloc2_new _ _ _⟩
theorem zeros_more (n j : Nat) (h : j < padLen n - 1) : ¬ (n + 1 + j) % 64 = 56 := by unfold padLen at h; split at h <;> omega
theorem zeros_end (n : Nat) : (n + 1 + (padLen n - 1)) % 64 = 56 := by unfold padLen; split <;> omega
/-- The loops of a piece of code, the outer ahead of the inner. -/
def loopsOf : Code → List Code
  | .loop c => c :: loopsOf c
  | .seq a b => loopsOf a ++ loopsOf b
  | .block _ c => loopsOf c
  | .scope c => loopsOf c
  | .cond _ a b => loopsOf a ++ loopsOf b
  | _ => []
attribute [local go_sem] bv_u32 bv_u32' wv_shl24 wv_shl16 wv_shl8 wr_shl24 wr_shl16 wr_shl8 wv_or wv_sum wv_add wv_xor wv_and wv_andNot wv_not wv_sum3 wv_sum4 wv_shr3 wv_shr10
end Go.Proofs.YtibfamhhjnaeiaaDoor.Sha
