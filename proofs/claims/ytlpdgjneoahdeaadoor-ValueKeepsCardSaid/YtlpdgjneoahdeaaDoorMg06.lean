/-
  Texts of this proof joined into one file: ShaSum, ShaArgs, ErrVls, CnVal, ArgsCn, ArgsVl, RipeM, RefRip, Keep, CnMap, CnSet, CnSpend, CmpRead, CmpHash, Par, TxRead2, TxTakeM, TxTakeIn, TxTakeW0, CutS, CnLay. What each holds, and under which conditions, its own first sentence tells.
-/
import Derived.ProofKit
import Derived.OpenShut
import Derived.ShutString
import Derived.ChangeOld
import Derived.Deep.DeepHandedRow
import Derived.Lib.LaidTab
import Derived.Stop.LaidErr
import Derived.Deep.Slices
import Derived.DeepKeys4
import Derived.Maps.RangeRun
import Derived.Deep.RegionLaw
import Derived.Maps.AppendAt
import Derived.Sort.Grow
import Derived.Lib.Bytealg
import Derived.Lib.BytesEntry
import Derived.Test.YtlpdgjneoahdeaaDoorMg05
import Derived.Test.YtlpdgjneoahdeaaDoorCards
import Derived.Test.YtlpdgjneoahdeaaDoorTie
import Derived.Test.YtlpdgjneoahdeaaDoorMg02
import Derived.Test.YtlpdgjneoahdeaaDoorMg01
import Derived.Test.YtlpdgjneoahdeaaDoorRows
import Derived.Test.YtlpdgjneoahdeaaDoorMg03
/-
  digest's Writer.Sum answers the SHA-256 of all that was written, and turns nothing that was there. Conditions: the Writer stands as it should, the table is there, fewer than 2^59 bytes were written.
-/
namespace Go.Proofs.YtlpdgjneoahdeaaDoor.Sha
open Go Go.RowKit
theorem write_some' (l bs : List UInt8) (bb off n1 cap B : Nat) (w : World) (h1 : n1 = bs.length) (hk : KTab w) (hB0 : B ≠ 25) (hbb : bb ≠ B) (hcap : n1 ≤ cap) (hlen : l.length + n1 ≤ 1152921504606846975)
    (hinv : WInv w B l) (hsrc : ∀ j, j < n1 → w.cell? ⟨bb, off + j, none⟩ = some (.int .u8 (bv (bs.getD j 0)))) :
    Calls Tryd.prog 44 #[.pointer (some ⟨B, 0, none⟩), .slice (some ⟨bb, off, none⟩) n1 cap] w fun e w' =>
      e = .returned (.tuple #[]) ∧ WInv w' B (l ++ bs) ∧ w.grownBy w' (some B) := by
  subst h1
  exact write_some l bs bb off cap B w hk hB0 hbb hcap hlen hinv hsrc
def zeroSt : St := ⟨0, 0, 0, 0, 0, 0, 0, 0⟩
/-- A new Writer's cells. -/
def zeroW : Array Value := (zeroSt.cells ++ ((List.replicate 64 0).map bV ++ [Value.int .i64 (0 : Nat)])).toArray
theorem zero_writer (W : World) : (zeroValue 100).run Tryd.prog W = .ok (.agg zeroW) W := by kernel_rfl
theorem zero_inv {w : World} {B : Nat} (h : w.heap[B]? = some (.cells zeroW 100 (0, 0))) : WInv w B [] :=
  ⟨zeroSt, List.replicate 64 0, ⟨by simp, h⟩, fun e => absurd rfl e, rfl⟩
theorem sum_setup (w : World) (z cs : Array Value) (T : TypeId) : Below w.heap.size w (((w.alloc (.cells z T)).alloc (.cells zeroW 100)).setRow (w.heap.size + 1) cs)
    ∧ (((w.alloc (.cells z T)).alloc (.cells zeroW 100)).setRow (w.heap.size + 1) cs).heap.size = w.heap.size + 2
    ∧ (((w.alloc (.cells z T)).alloc (.cells zeroW 100)).setRow (w.heap.size + 1) cs).heap[w.heap.size + 1]? = some (.cells cs 100 (0, 0))
    ∧ (((w.alloc (.cells z T)).alloc (.cells zeroW 100)).setRow (w.heap.size + 1) cs).heap[w.heap.size]? = some (.cells z T (0, 0)) := by
  refine ⟨below_setRow (((Below.refl _ _).alloc (Nat.le_refl _) _).alloc (by simp) _) (Nat.le_succ _) _, by simp, setRow_heap _ _ _ _ _ _ (heap_alloc2_new _ _ _), ?_⟩
  rw [setRow_other _ _ _ _ (by omega)]
  exact heap_alloc2_old _ _ _
/-- The padding's cells, as they stand. -/
def padV : List Value := bV 0x80 :: List.replicate 63 (bV 0)
theorem padV_get (n j : Nat) (h : j < padLen n) : padV[j]? = some (.int .u8 (bv ((pad n).getD j 0))) := by
  have hb := padLen_bd n
  cases j with
  | zero => rfl
  | succ j =>
    have e1 : padV[j + 1]? = (List.replicate 63 (bV 0))[j]? := rfl
    have e2 : (pad n).getD (j + 1) 0 = 0 := by
      show (0x80 :: List.replicate (padLen n - 1) (0 : UInt8)).getD (j + 1) 0 = 0
      simp [List.getD, List.getElem?_replicate]
      split <;> rfl
    rw [e1, e2, List.getElem?_replicate, if_pos (by omega)]
    rfl
theorem KTab.below {w w' : World} (h : KTab w) (hb : Below w.heap.size w w') : KTab w' := fun t ht => by
  rw [hb.cell (p := ⟨25, t, none⟩) (World.block_lt_of_cell? w _ (h t ht))]
  exact h t ht
theorem KTab.pos {w : World} (h : KTab w) : 25 < w.heap.size := World.block_lt_of_cell? w _ (h 0 (by omega))
theorem sum_setup2 {w w2 : World} (o : Obj) (f1 : Below w.heap.size w w2) (f2 : w2.heap.size = w.heap.size + 2) {x y : Obj} (f3 : w2.heap[w.heap.size + 1]? = some x) (f4 : w2.heap[w.heap.size]? = some y) :
    Below w.heap.size w (w2.alloc o) ∧ (w2.alloc o).heap.size = w.heap.size + 3 ∧ (w2.alloc o).heap[w.heap.size + 1]? = some x ∧ (w2.alloc o).heap[w.heap.size]? = some y ∧ (w2.alloc o).heap[w.heap.size + 2]? = some o := by
  refine ⟨f1.alloc (by omega) _, by simp [f2], ?_, ?_, ?_⟩
  · rw [Below.heap_alloc _ _ _ (by omega)]; exact f3
  · rw [Below.heap_alloc _ _ _ (by omega)]; exact f4
  · rw [← f2]; exact heap_alloc_new _ _
theorem WInv.below {w w' : World} {B : Nat} {l : List UInt8} (h : WInv w B l) (hb : Below w.heap.size w w') : WInv w' B l := by
  obtain ⟨s, p, hc, hs, hp⟩ := h
  exact ⟨s, p, hc.kept hb, hs, hp⟩
/-- A whole message's words, ready to be written down. -/
theorem WInv.final {w : World} {B : Nat} {l : List UInt8} (h : WInv w B (l ++ pad l.length ++ len8 l.length)) :
    w.rangeAt B 0 (blocks (padded l) ((padded l).length / 64)).cells := by
  obtain ⟨s, p, hc, hs, _⟩ := h
  have e := hs (by simp [len8])
  intro j v hj
  have hj8 : j < s.cells.length := by rw [St.cells_length]; exact (List.getElem?_eq_some_iff.1 hj).1
  rw [Nat.zero_add, cell_of_row _ _ _ _ _ _ hc.2, List.getElem?_toArray, List.getElem?_append_left hj8, e]
  exact hj
set_option maxHeartbeats 1000000 in
set_option maxRecDepth 100000 in
theorem sum_any (l : List UInt8) (B : Nat) (w : World) (hk : KTab w) (hlen : l.length ≤ 576460752303423487) (hinv : WInv w B l) :
    Calls Tryd.prog 45 #[.pointer (some ⟨B, 0, none⟩)] w fun e w' =>
      e = .returned (.agg ((sha l).map bV).toArray) ∧ Below w.heap.size w w' := by
  obtain ⟨s, p, hc, hs, hp⟩ := hinv
  obtain ⟨n, hn⟩ : ∃ n, n = l.length := ⟨_, rfl⟩
  rw [← hn] at hc hlen
  have hB : B < w.heap.size := (Array.getElem?_eq_some_iff.1 hc.2).1
  obtain ⟨cs, hcs⟩ : ∃ cs, cs = s.cells ++ (p.map bV ++ [Value.int .i64 n]) := ⟨_, rfl⟩
  have hrow := hc.2
  rw [← hcs] at hrow
  have hl : cs.toArray.size = 73 := by simp [hcs, St.cells_length, hc.1]
  have HONE : Hid (cs.toArray.all (·.oneCell') = true) := by
    show _ = _
    rw [Array.all_eq_true_iff_forall_mem]
    intro v hv
    simp only [List.mem_toArray, hcs, List.mem_append, St.cells_list, List.mem_singleton] at hv
    rcases hv with hv | hv | rfl
    · exact (Array.all_eq_true_iff_forall_mem.1 (wV_one s.list)) v (by simpa using hv)
    · exact bV_one' p v hv
    · rfl
  have HL := Lib.hid hl
  have HROW := Lib.hid hrow
  have HCS := Lib.hid hcs
  have c72 := hc.size
  have HC := Lib.hid hc
  have HS := Lib.hid hs
  have HP := Lib.hid hp
  have HK := Lib.hid hk
  have HN := Lib.hid hn
  clear hl hrow hcs hc hs hp hk hn
  have hzw := zero_writer
  go_enter Tryd.func45, Tryd.ntmps45
  go_upto_region 2 with ((with_reducible show wpList _ _ _ _ _ _); first | (refine wpList_load_row rfl 100 (.tmp 6) rfl B rfl 100 cs.toArray (0, 0) _ ((Below.heap_alloc _ _ B hB).trans HROW.out) Tryd.underlying100 rfl (by rw [HL.out]; kernel_rfl) ?_; go_frame) | (refine wpList_store_row rfl 100 (.tmp 3) (.tmp 7) rfl (w.heap.size + 1) cs.toArray rfl rfl 100 _ (heap_alloc2_new _ _ _) (by rw [HL.out]; kernel_rfl) (by rw [HL.out]; rfl) HONE.out ?_; go_frame))
  obtain ⟨f1, f2, f3, f4⟩ := sum_setup w (List.replicate 32 (bV 0)).toArray cs.toArray 24
  generalize hw2 : World.setRow _ _ _ = w2
  have e2 : (((w.alloc (.cells (List.replicate 32 (bV 0)).toArray 24)).alloc (.cells zeroW 100)).setRow (w.heap.size + 1) cs.toArray) = w2 := hw2
  rw [e2] at f1 f2 f3 f4
  clear hw2 e2 c72 hzw
  have F1 := Lib.hid f1
  have F3 := Lib.hid f3
  have F4 := Lib.hid f4
  clear f1 f3 f4
  go_upto_region 4 with (fail)
  obtain ⟨g1, g2, g3, g4, g5⟩ := sum_setup2 (.cells padV.toArray 98) F1.out f2 F3.out F4.out
  generalize hw3 : World.alloc _ _ = w3
  have e3 : w2.alloc (.cells padV.toArray 98) = w3 := hw3
  rw [e3] at g1 g2 g3 g4 g5
  clear hw3 e3 f2 F1 F3 F4
  have c72 : w3.cell? ⟨B, 72, none⟩ = some (.int .i64 n) := by rw [g1.cell (p := ⟨B, 72, none⟩) hB]; exact HC.out.size
  have hI : WInv w3 (w.heap.size + 1) l := by
    refine ⟨s, p, ?_, HS.out, HP.out⟩
    rw [← HN.out]
    exact ⟨HC.out.1, by rw [g3, HCS.out]⟩
  have hK : KTab w3 := HK.out.below g1
  have hS : ∀ j, j < padLen n → w3.cell? ⟨w.heap.size + 2, 0 + j, none⟩ = some (.int .u8 (bv ((pad n).getD j 0))) := fun j hj => by
    rw [cell_of_row _ _ _ _ _ _ g5, Nat.zero_add, List.getElem?_toArray]
    exact padV_get n j hj
  have hb := padLen_bd n
  have hb1 : ((padLen n : Nat) : Int) ≤ 64 := by omega
  have HB := Lib.hid hb
  have HI := Lib.hid hI
  have HK3 := Lib.hid hK
  have HS3 := Lib.hid hS
  have G1 := Lib.hid g1
  have G2 := Lib.hid g2
  have G4 := Lib.hid g4
  clear hI hK hS g1 g2 g3 g4 g5 hb
  go_wp2_with (go_at_call 48; refine (pad_any n _ (by omega)).mono ?_; rintro e w' ⟨rfl, rfl⟩)
  refine (write_some' l (pad n) (w.heap.size + 2) 0 (padLen n) 64 (w.heap.size + 1) w3 (pad_length n).symm HK3.out (by have := HK.out.pos; omega) (by omega) HB.out.2.1 (by have := HB.out; have := HN.out; omega) HI.out HS3.out).mono ?_
  rintro e w4 ⟨rfl, hI4, hG4⟩
  have c72' : w4.cell? ⟨B, 72, none⟩ = some (.int .i64 n) := hG4.cell c72 (fun e => by have := Option.some.inj e; simp at this; omega)
  have HI4 := Lib.hid hI4
  have HG4 := Lib.hid hG4
  clear hI4 hG4 c72 hb1 HI HS3
  go_wp2_with (go_at_call 49; refine (bits_any n _ (by omega)).mono ?_; rintro e w5 ⟨rfl, ho5, hb5⟩; have HO5 := Lib.hid ho5; have HB5 := Lib.hid hb5; clear ho5 hb5)
  have hS : ∀ j, j < 8 → w5.cell? ⟨w4.heap.size, 0 + j, none⟩ = some (.int .u8 (bv ((len8 n).getD j 0))) := fun j hj => by
    rw [← Addr.add_mid]
    refine HO5.out.cells (g := w4.heap.size) rfl j _ ?_
    rw [List.getElem?_map, List.getElem?_eq_getElem (show j < (len8 n).length from hj)]
    simp [bV, List.getD, List.getElem?_eq_getElem (show j < (len8 n).length from hj)]
  have hz4 : w.heap.size + 3 ≤ w4.heap.size := by have := HG4.out.size; have := G2.out; omega
  have B4 := Lib.hid (grownBy_below HG4.out G1.out (Nat.le_succ _) (by have := G2.out; omega))
  have B5 := Lib.hid (B4.out.trans (HB5.out.mono (by omega)))
  have HS5 := Lib.hid hS
  clear hS
  refine (write_some' (l ++ pad n) (len8 n) w4.heap.size 0 8 8 (w.heap.size + 1) w5 rfl (HK.out.below B5.out) (by have := HK.out.pos; omega) (by omega) (Nat.le_refl _)
    (by have := HB.out; have := HN.out; rw [List.length_append, pad_length]; omega) (HI4.out.below HB5.out) HS5.out).mono ?_
  rintro e w6 ⟨rfl, hI6, hG6⟩
  rw [HN.out] at hI6
  have HR6 := Lib.hid hI6.final
  have hz5 : w.heap.size + 3 ≤ w5.heap.size := by have := HB5.out.size; omega
  have B6 := Lib.hid (grownBy_below hG6 B5.out (Nat.le_succ _) (by omega))
  have HG6 := Lib.hid hG6
  clear hI6 hG6 c72'
  have hH6 : w6.heap[w.heap.size]? = some (.cells (List.replicate 32 (bV 0)).toArray 24 (0, 0)) := by
    rw [HG6.out.block _ (by omega) (fun e => by have := Option.some.inj e; omega), HB5.out.block _ (by omega), HG4.out.block _ (by have := G2.out; omega) (fun e => by have := Option.some.inj e; omega)]
    exact G4.out
  have HH6 := Lib.hid hH6
  have hz6 : w.heap.size < w6.heap.size := by have := HG6.out.size; omega
  clear hH6 hz4 hz5
  obtain ⟨sf, hsf⟩ : ∃ sf, sf = blocks (padded l) ((padded l).length / 64) := ⟨_, rfl⟩
  have HSF := Lib.hid hsf
  rw [← hsf] at HR6
  clear hsf
  go_wp2_with ((with_reducible show wpList _ _ _ _ _ _); refine wpList_load_mid rfl 97 (.tmp 22) rfl (w.heap.size + 1) 0 rfl sf.cells (.array 8 27) HR6.out Tryd.underlying97 rfl (by kernel_rfl) ?_; go_frame)
  refine (bytes_any sf _).mono ?_
  rintro e w7 ⟨rfl, hb7⟩
  have hH7 : w7.heap[w.heap.size]? = some (.cells (List.replicate 32 (bV 0)).toArray 24 (0, 0)) := by rw [hb7.block _ hz6]; exact HH6.out
  have HH7 := Lib.hid hH7
  have B7 := Lib.hid (B6.out.trans (hb7.mono (by omega)))
  have hl : (sf.bytes.map bV).toArray.size = 32 := by simp [bytes_length]
  have HL2 := Lib.hid hl
  clear hH7 hb7 hl
  go_wp2_with ((with_reducible show wpList _ _ _ _ _ _); refine wpList_store_row rfl 24 (.tmp 2) (.tmp 24) rfl w.heap.size (sf.bytes.map bV).toArray rfl rfl 24 _ HH7.out (by rw [HL2.out]; kernel_rfl) (by rw [HL2.out]; rfl) (bV_one _) ?_; go_frame)
  refine bodyPost_ret (results_cell_row rfl _ _ w.heap.size 24 (sf.bytes.map bV).toArray (0, 0) (.array 32 5) rfl (setRow_heap _ _ _ _ _ _ HH7.out) Tryd.underlying24 rfl (by rw [HL2.out]; kernel_rfl)) rfl ⟨?_, below_setRow B7.out (Nat.le_refl _) _⟩
  rw [HSF.out]
  rfl
end Go.Proofs.YtlpdgjneoahdeaaDoor.Sha

/-
  How the statements' arguments and the listed table read: a slice of bytes or numbers that came in, the table of the rounds' words, a start that fits. No conditions.
-/
namespace Go.Proofs.YtlpdgjneoahdeaaDoor.Sha
open Go Go.ChangeShapes Go.WideShapes Go.ChangeAt Go.RowKit
theorem gTab : Tryd.prog.globalNamed "sargasso/digest.roundWords" = some 25 := by kernel_rfl
theorem gTabType : (Tryd.prog.globals[25]?).map (·.type) = some 110 := by kernel_rfl
theorem cellsTab : Tryd.prog.cellsOf 110 = 64 := by kernel_rfl
theorem cellsU32 : Tryd.prog.cellsOf 27 = 1 := by kernel_rfl
def kInts : List Int := kList.map wv
theorem kInts_get (t : Nat) (h : t < 64) : kInts.getD t 0 = wv (kW t) := by
  unfold kInts kW
  simp only [List.getD, List.getElem?_map]
  rw [List.getElem?_eq_getElem (show t < kList.length from h)]
  rfl
theorem laid_list {H : Type} : (Rows.laid_sargasso_digest_roundWords : DataW H) = Lib.tabData .u32 kInts := rfl
/-- WHAT THE ROW's LIST GIVES: the table's cells. -/
theorem table {W : World} (h : laidMetH Tryd.prog [("sargasso/digest.roundWords", Rows.laid_sargasso_digest_roundWords)] W) : KTab W := by
  rw [laid_list] at h
  have hT := Lib.tabIs_of_head (rest := []) gTab gTabType Tryd.underlying110 Tryd.underlying27 cellsU32 cellsTab h
  intro t ht
  rw [hT.cell gTab t (show t < 64 from ht), kInts_get t ht]
end Go.Proofs.YtlpdgjneoahdeaaDoor.Sha

/-
  What a row that lists 25 errors of package api gives: each is there, each its own; a start that fits. No conditions.
-/
namespace Go.Proofs.YtlpdgjneoahdeaaDoor.Sha
open Go Go.ChangeShapes Go.WideShapes Go.ChangeAt Go.RowKit
/-- The listed errors: name, place, text. -/
def errVlsList : List (String × Nat × List UInt8) := [("sargasso/api.ErrEnd", 5, [105, 116, 32, 101, 110, 100, 115, 32, 116, 111, 111, 32, 101, 97, 114, 108, 121]), ("sargasso/api.ErrShape", 0, [110, 111, 116, 32, 97, 115, 32, 105, 116, 32, 104, 97, 115, 32, 116, 111, 32, 98, 101]), ("sargasso/api.ErrLong", 6, [116, 111, 111, 32, 108, 111, 110, 103]), ("sargasso/api.ErrMany", 7, [116, 111, 111, 32, 109, 97, 110, 121, 44, 32, 111, 114, 32, 116, 111, 111, 32, 102, 101, 119]), ("sargasso/api.ErrValue", 2, [97, 110, 32, 97, 109, 111, 117, 110, 116, 32, 116, 104, 97, 116, 32, 99, 97, 110, 39, 116, 32, 98, 101]), ("sargasso/api.ErrTwice", 8, [111, 110, 101, 32, 116, 104, 105, 110, 103, 32, 116, 119, 105, 99, 101]), ("sargasso/api.ErrBase", 9, [110, 111, 32, 102, 105, 114, 115, 116, 32, 116, 114, 97, 110, 115, 97, 99, 116, 105, 111, 110, 32, 119, 104, 101, 114, 101, 32, 116, 104, 101, 114, 101, 32, 104, 97, 115, 32, 116, 111, 32, 98, 101, 32, 111, 110, 101, 44, 32, 111, 114, 32, 111, 110, 101, 32, 119, 104, 101, 114, 101, 32, 116, 104, 101, 114, 101, 32, 109, 97, 121, 32, 98, 101, 32, 110, 111, 110, 101]), ("sargasso/api.ErrRoot", 10, [97, 32, 114, 111, 111, 116, 32, 116, 104, 97, 116, 32, 100, 111, 101, 115, 32, 110, 111, 116, 32, 102, 105, 116]), ("sargasso/api.ErrKnown", 11, [107, 110, 111, 119, 110, 32, 97, 108, 114, 101, 97, 100, 121]), ("sargasso/api.ErrParent", 12, [110, 111, 32, 115, 117, 99, 104, 32, 112, 97, 114, 101, 110, 116]), ("sargasso/api.ErrInvalid", 13, [98, 101, 104, 105, 110, 100, 32, 119, 104, 97, 116, 32, 105, 115, 32, 110, 111, 116, 32, 118, 97, 108, 105, 100]), ("sargasso/api.ErrTime", 14, [97, 32, 116, 105, 109, 101, 32, 116, 104, 97, 116, 32, 105, 115, 32, 116, 111, 111, 32, 101, 97, 114, 108, 121]), ("sargasso/api.ErrMissing", 15, [97, 32, 99, 111, 105, 110, 32, 116, 104, 97, 116, 32, 105, 115, 32, 110, 111, 116, 32, 116, 104, 101, 114, 101]), ("sargasso/api.ErrKey", 1, [97, 32, 107, 101, 121, 32, 116, 104, 97, 116, 32, 100, 111, 101, 115, 32, 110, 111, 116, 32, 102, 105, 116]), ("sargasso/api.ErrYoung", 16, [97, 32, 99, 111, 105, 110, 32, 116, 104, 97, 116, 32, 105, 115, 32, 116, 111, 111, 32, 121, 111, 117, 110, 103]), ("sargasso/api.ErrEarly", 17, [116, 111, 111, 32, 101, 97, 114, 108, 121, 32, 116, 111, 32, 98, 101, 32, 116, 97, 107, 101, 110]), ("sargasso/api.ErrLess", 3, [108, 101, 115, 115, 32, 99, 111, 109, 101, 115, 32, 105, 110, 32, 116, 104, 97, 110, 32, 103, 111, 101, 115, 32, 111, 117, 116]), ("sargasso/api.ErrReward", 18, [109, 111, 114, 101, 32, 116, 104, 97, 110, 32, 116, 104, 101, 32, 114, 101, 119, 97, 114, 100]), ("sargasso/api.ErrClash", 19, [97, 32, 99, 111, 105, 110, 32, 116, 104, 97, 116, 32, 105, 115, 32, 115, 112, 101, 110, 116, 32, 105, 110, 32, 116, 104, 101, 32, 112, 111, 111, 108]), ("sargasso/api.ErrLimit", 20, [116, 111, 111, 32, 109, 97, 110, 121, 32, 116, 104, 97, 116, 32, 104, 97, 110, 103, 32, 116, 111, 103, 101, 116, 104, 101, 114]), ("sargasso/api.ErrFull", 21, [116, 104, 101, 114, 101, 32, 105, 115, 32, 110, 111, 32, 114, 111, 111, 109]), ("sargasso/api.ErrRange", 4, [97, 32, 110, 117, 109, 98, 101, 114, 32, 111, 117, 116, 32, 111, 102, 32, 105, 116, 115, 32, 114, 97, 110, 103, 101]), ("sargasso/api.ErrNone", 22, [116, 104, 101, 114, 101, 32, 105, 115, 32, 110, 111, 110, 101]), ("sargasso/api.ErrWord", 23, [110, 111, 32, 115, 117, 99, 104, 32, 119, 111, 114, 100]), ("sargasso/api.ErrNumber", 24, [110, 111, 116, 32, 97, 32, 110, 117, 109, 98, 101, 114])]
def errVlsRow (x : String × Nat × List UInt8) : String × DataW Unit := (x.1, .iface "*errors.errorString" (.ptr (.agg [.lit (.string x.2.2)])))
theorem errVls_globals : (errVlsList.all fun x => decide (Tryd.prog.globalNamed x.1 = some x.2.1) && decide ((Tryd.prog.globals[x.2.1]?).map (·.type) = some 37)) = true := by kernel_rfl
theorem errVls_star : "*" ++ "errors.errorString" = "*errors.errorString" := by decide
theorem errVls_ptr (u : TypeId) (h : Tryd.prog.typeName? 3 u = some "*errors.errorString") : u = 114 :=
  typeName_ptr_named (nm := "errors.errorString") (by rw [errVls_star]; kernel_rfl) (by kernel_rfl) (by decide) u (by rw [errVls_star]; exact h)
theorem errVls_cells : Tryd.prog.cellsOf 132 = 1 := by kernel_rfl
theorem errVls_cellsStr : Tryd.prog.cellsOf 9 = 1 := by kernel_rfl
def errVlsIs (W : World) (x : String × Nat × List UInt8) (a : Addr) : Prop :=
  W.cell? ⟨x.2.1, 0, none⟩ = some (.iface 114 (.pointer (some a))) ∧ (∃ s, W.cell? a = some (.string s) ∧ s.data.toList = x.2.2) ∧ ∃ c t, W.heap[a.block]? = some (.cells c t (0, 0))
set_option maxRecDepth 100000 in
theorem errVls_head {W : World} {x : String × Nat × List UInt8} {r : List (String × DataW Unit)} (hg : Tryd.prog.globalNamed x.1 = some x.2.1) (ht : (Tryd.prog.globals[x.2.1]?).map (·.type) = some 37) (h : laidMet Tryd.prog (errVlsRow x :: r) W) : ∃ a, errVlsIs W x a := by
  obtain ⟨a, s, h1, h2, h3, _⟩ := laid_sentinel h hg ht Tryd.underlying37 errVls_ptr Tryd.underlying114 Tryd.underlying132 rfl rfl Tryd.underlying9 errVls_cells errVls_cellsStr
  refine ⟨a, by simpa using World.var?_cell hg h1 0, ⟨s, h2, h3⟩, ?_⟩
  obtain ⟨ps, ⟨g0, t0, cs0, f0, p0, q0, hg0, ht0, hv0, hd0, _, e0⟩, _, hrows⟩ := h
  obtain rfl := Option.some.inj (hg.symm.trans hg0)
  obtain rfl := Option.some.inj (ht.symm.trans ht0)
  subst e0
  obtain ⟨l0⟩ := cs0
  have ok0 : ∀ u v, l0 = [.iface u v] → Value.okWide Tryd.prog W .any 0 u v := fun u v e => by
    subst e
    exact (hrows x.2.1 0 (by simp [MemPlace.row])).2 u v (by simpa using World.var?_cell hg hv0 0)
  obtain ⟨a0, s0, rfl, hc0, hs0, hz0, rfl⟩ := errorString_of_trod Tryd.underlying37 errVls_ptr Tryd.underlying114 Tryd.underlying132 rfl rfl Tryd.underlying9 errVls_cells errVls_cellsStr hd0 ok0
  have ea : a0 = a := by
    have := h1.symm.trans hv0
    simp at this
    exact this.symm
  rw [← ea]
  exact (hrows a0.block a0.off (by simp [MemPlace.row])).1
theorem errVls_all {W : World} (rest : List (String × DataW Unit)) : ∀ l : List (String × Nat × List UInt8), (∀ x ∈ l, Tryd.prog.globalNamed x.1 = some x.2.1 ∧ (Tryd.prog.globals[x.2.1]?).map (·.type) = some 37) → laidMet Tryd.prog (l.map errVlsRow ++ rest) W → (∃ E : Nat → Addr, ∀ i x, l[i]? = some x → errVlsIs W x (E i)) ∧ laidMet Tryd.prog rest W
  | [], _, h => ⟨⟨fun _ => ⟨0, 0, none⟩, fun i x h => by simp at h⟩, h⟩
  | x :: l, hg, h => by
    obtain ⟨⟨E, hE⟩, hrest⟩ := errVls_all rest l (fun y hy => hg y (List.mem_cons_of_mem _ hy)) (laidMet.tail h)
    obtain ⟨a, ha⟩ := errVls_head (hg x List.mem_cons_self).1 (hg x List.mem_cons_self).2 h
    refine ⟨⟨fun i => match i with | 0 => a | k + 1 => E k, fun i y hy => ?_⟩, hrest⟩
    cases i with
    | zero => simp at hy; subst hy; exact ha
    | succ k => exact hE k y (by simpa using hy)
theorem errVls_inj : ∀ i j : Fin 25, (errVlsList.map (·.2.2)).getD i.val [] = (errVlsList.map (·.2.2)).getD j.val [] → i = j := by decide +kernel
set_option maxRecDepth 100000 in
theorem errVls_errs {W : World} (h : laidMetH Tryd.prog Rows.valueSaysRow.laid W) : (∃ E, Errs W E) ∧ KTab W := by
  have h' : laidMet Tryd.prog (errVlsList.map errVlsRow ++ [("sargasso/digest.roundWords", Rows.laid_sargasso_digest_roundWords)]) W := h
  obtain ⟨⟨E, hE⟩, hrest⟩ := errVls_all _ errVlsList (fun x hx => by
    have := List.all_eq_true.1 errVls_globals x hx
    simp only [Bool.and_eq_true, decide_eq_true_eq] at this
    exact this) h'
  have hl : errVlsList.length = 25 := rfl
  have get : ∀ i (hi : i < 25), errVlsIs W (errVlsList[i]'(by rw [hl]; exact hi)) (E i) := fun i hi => hE i _ (List.getElem?_eq_getElem (by rw [hl]; exact hi))
  refine ⟨⟨E, fun i hi => ?_, fun i j hi hj e => ?_⟩, table hrest⟩
  · obtain ⟨h1, _, h3⟩ := get i hi
    refine ⟨?_, h3⟩
    have eg : errG.getD i 0 = (errVlsList[i]'(by rw [hl]; exact hi)).2.1 := by
      have : errG = errVlsList.map (·.2.1) := rfl
      rw [this]
      simp [List.getD, List.getElem?_eq_getElem (show i < errVlsList.length by rw [hl]; exact hi)]
    rw [eg]
    exact h1
  · obtain ⟨_, ⟨s, hs, ht⟩, _⟩ := get i hi
    obtain ⟨_, ⟨s', hs', ht'⟩, _⟩ := get j hj
    rw [e] at hs
    have es := Option.some.inj (hs.symm.trans hs')
    simp at es
    rw [es] at ht
    have := errVls_inj ⟨i, hi⟩ ⟨j, hj⟩ (by
      simp only [List.getD, List.getElem?_map]
      rw [List.getElem?_eq_getElem (show i < errVlsList.length by rw [hl]; exact hi), List.getElem?_eq_getElem (show j < errVlsList.length by rw [hl]; exact hj)]
      exact ht.symm.trans ht')
    exact congrArg Fin.val this
/-- A WORLD FOR THE WITNESS: the settled one, each listed error as its initialiser lays it. -/
noncomputable def errVlsLow : Nat := (World.holding Tryd.prog default ⟨#[], #[], []⟩).heap.size
noncomputable def errVlsWorld (os : Os) : World :=
  let w0 := World.holding Tryd.prog os ⟨(errVlsList.map fun x => Obj.cells #[.string ⟨x.2.2.toArray⟩] 132).toArray, #[], []⟩
  { w0 with heap := (errVlsList.zipIdx).foldl (fun h x => h.modify x.1.2.1 fun
      | .cells _ t frozen => .cells #[.iface 114 (.pointer (some ⟨errVlsLow + x.2, 0, none⟩))] t frozen
      | o => o) (w0.heap.modify 25 fun
      | .cells _ t frozen => .cells (kList.map wV).toArray t frozen
      | o => o) }
end Go.Proofs.YtlpdgjneoahdeaaDoor.Sha

/-
  Coins as the model has them: a coin's 35 cells, a place's 33, a coin with its place 68; rows of elements of so many cells behind a slice, whatever they hold. No conditions beyond those that each states.
-/
namespace Go.Proofs.YtlpdgjneoahdeaaDoor.Sha
open Go Go.RowKit
/-- A place. -/
structure TPt where
  h : List UInt8
  n : Nat
/-- A coin: its value, lock, height, base. -/
structure TMn where
  val : Nat
  lock : List UInt8
  height : Int
  base : Bool
/-- A coin with its place. -/
structure TSp where
  at_ : TPt
  coin : TMn
instance : DecidableEq TPt := fun a b => if h : a.h = b.h ∧ a.n = b.n then isTrue (by cases a; cases b; obtain ⟨h1, h2⟩ := h; subst h1 h2; rfl) else isFalse (fun e => h (by rw [e]; exact ⟨rfl, rfl⟩))
def PtOk (p : TPt) : Prop := p.h.length = 32 ∧ p.n ≤ 4294967295
def MnOk (c : TMn) : Prop := c.lock.length = 32 ∧ c.val ≤ 18446744073709551615 ∧ -9223372036854775808 ≤ c.height ∧ c.height ≤ 9223372036854775807
def SpOk (x : TSp) : Prop := PtOk x.at_ ∧ MnOk x.coin
def ptC (p : TPt) : List Value := ptL p.h p.n
def mnL (c : TMn) : List Value := .int .u64 (c.val : Int) :: (c.lock.map bV ++ [.int .i64 c.height, .bool c.base])
theorem mnL_length {c : TMn} (h : MnOk c) : (mnL c).length = 35 := by simp [mnL, h.1]
theorem mnL_size {c : TMn} (h : MnOk c) : (mnL c).toArray.size = 35 := by simp [mnL_length h]
theorem mnL_one (c : TMn) : ∀ v ∈ mnL c, v.oneCell' = true := by
  intro v hv
  simp only [mnL, List.mem_cons, List.mem_append, List.not_mem_nil, or_false] at hv
  rcases hv with rfl | hv | rfl | rfl
  · rfl
  · exact bV_one' _ v hv
  · rfl
  · rfl
theorem mnL_all (c : TMn) : (mnL c).toArray.all (·.oneCell') = true := all_oneCell_toArray (mnL_one c)
/-- What of a coin in a box lies where. -/
theorem mn_lock {w : World} {b o : Nat} {c : TMn} (h : w.rangeAt b o (mnL c)) : w.rangeAt b (o + 1) (c.lock.map bV) := fun j v hj => by
  have := h (j + 1) v (by
    rw [mnL, List.getElem?_cons_succ, List.getElem?_append_left (List.getElem?_eq_some_iff.1 hj).1]
    exact hj)
  rwa [show o + (j + 1) = o + 1 + j by omega] at this
theorem mn_val {w : World} {b o : Nat} {c : TMn} (h : w.rangeAt b o (mnL c)) : w.cell? ⟨b, o, none⟩ = some (.int .u64 (c.val : Int)) := h 0 _ rfl
theorem mn_height {w : World} {b o : Nat} {c : TMn} (hl : c.lock.length = 32) (h : w.rangeAt b o (mnL c)) : w.cell? ⟨b, o + 33, none⟩ = some (.int .i64 c.height) := h 33 _ (by
  rw [mnL, List.getElem?_cons_succ, List.getElem?_append_right (by simp [hl])]
  simp [hl])
theorem mn_base {w : World} {b o : Nat} {c : TMn} (hl : c.lock.length = 32) (h : w.rangeAt b o (mnL c)) : w.cell? ⟨b, o + 34, none⟩ = some (.bool c.base) := h 34 _ (by
  rw [mnL, List.getElem?_cons_succ, List.getElem?_append_right (by simp [hl])]
  simp [hl])
/-! Rows of elements of k cells each. -/
/-- All of k cells. -/
def AllK (k : Nat) (L : List (List Value)) : Prop := ∀ x ∈ L, x.length = k
theorem AllK.snoc {k : Nat} {L : List (List Value)} {x : List Value} (h : AllK k L) (hx : x.length = k) : AllK k (L ++ [x]) := fun y hy => by
  rcases List.mem_append.1 hy with hy | hy
  · exact h y hy
  · rw [List.mem_singleton.1 hy]; exact hx
theorem AllK.take {k : Nat} {L : List (List Value)} (h : AllK k L) (n : Nat) : AllK k (L.take n) := fun x hx => h x (List.mem_of_mem_take hx)
theorem AllK.get {k : Nat} {L : List (List Value)} (h : AllK k L) {i : Nat} {x : List Value} (hx : L[i]? = some x) : x.length = k := h x (List.mem_of_getElem? hx)
theorem flatten_snoc (L : List (List Value)) (x : List Value) : (L ++ [x]).flatten = L.flatten ++ x := by simp
theorem flatten_get {k : Nat} : ∀ (L : List (List Value)) (i : Nat) (y : List Value), AllK k L → L[i]? = some y → ∀ j, j < k → L.flatten[i * k + j]? = y[j]?
  | z :: L, 0, y, h, hy, j, hj => by
    simp only [List.getElem?_cons_zero, Option.some.injEq] at hy
    subst hy
    rw [Nat.zero_mul, Nat.zero_add, List.flatten_cons, List.getElem?_append_left (by rw [h z List.mem_cons_self]; exact hj)]
  | z :: L, i + 1, y, h, hy, j, hj => by
    have e : z.length = k := h z List.mem_cons_self
    rw [List.flatten_cons, List.getElem?_append_right (by rw [e, Nat.add_mul, Nat.one_mul]; omega), e, show (i + 1) * k + j - k = i * k + j by rw [Nat.add_mul, Nat.one_mul]; omega]
    exact flatten_get L i y (fun z hz => h z (List.mem_cons_of_mem _ hz)) (by simpa using hy) j hj
  | [], _, _, _, hy, _, _ => by simp at hy
/-- The slice v reads as these elements. -/
def RwAt (k : Nat) (w : World) (v : Value) (L : List (List Value)) : Prop :=
  AllK k L ∧ ∃ sp cap, v = .slice sp L.length cap ∧ L.length ≤ cap ∧ (0 < L.length → ∃ b o, sp = some ⟨b, o, none⟩ ∧ ∀ i x, L[i]? = some x → w.rangeAt b (o + i * k) x)
theorem RwAt.below {k : Nat} {w w' : World} {v : Value} {L : List (List Value)} (h : RwAt k w v L) (hb : Below w.heap.size w w') : RwAt k w' v L := by
  obtain ⟨h0, sp, cap, h1, h2, h3⟩ := h
  refine ⟨h0, sp, cap, h1, h2, fun h0 => ?_⟩
  obtain ⟨b, o, h4, h5⟩ := h3 h0
  exact ⟨b, o, h4, fun i x hx => range_below (h5 i x hx) hb⟩
theorem RwAt.nil (k : Nat) (w : World) (sp : Option Addr) (cap : Nat) : RwAt k w (.slice sp 0 cap) [] := ⟨fun x hx => by simp at hx, sp, cap, rfl, by simp, fun h => by simp at h⟩
theorem RwAt.len {k : Nat} {w : World} {sp : Option Addr} {n cap : Nat} {L : List (List Value)} (h : RwAt k w (.slice sp n cap) L) : n = L.length ∧ n ≤ cap := by
  obtain ⟨_, sp', cap', hv, hc, _⟩ := h
  cases hv
  exact ⟨rfl, hc⟩
theorem RwAt.shape {k : Nat} {w : World} {v : Value} {L : List (List Value)} (h : RwAt k w v L) : ∃ sp cap, v = .slice sp L.length cap := by
  obtain ⟨_, sp, cap, hv, _⟩ := h
  exact ⟨sp, cap, hv⟩
/-- Where they lie. -/
theorem RwAt.get {k : Nat} {w : World} {sp : Option Addr} {n cap : Nat} {L : List (List Value)} (h : RwAt k w (.slice sp n cap) L) (h0 : 0 < n) : ∃ b o, sp = some ⟨b, o, none⟩ ∧ ∀ i x, L[i]? = some x → w.rangeAt b (o + i * k) x := by
  obtain ⟨ho, sp', cap', hv, hc, hr⟩ := h
  cases hv
  exact hr h0
/-- A row of one's own. -/
def RwOwn (k : Nat) (T : TypeId) (base : Nat) (w : World) (v : Value) (L : List (List Value)) : Prop := w.ownsRow base T k v L.length L.flatten ∧ AllK k L
theorem RwOwn.nil (k : Nat) (T : TypeId) (base : Nat) (w : World) : RwOwn k T base w (.slice none 0 0) [] := ⟨World.ownsRow_nil _ _ _ _, fun _ h => absurd h (by simp)⟩
section
variable {k : Nat} {T : TypeId} {base : Nat} {w w' : World} {v v' : Value} {L : List (List Value)}
theorem RwOwn.keep (h : RwOwn k T base w v L) (hb : Below w.heap.size w w') : RwOwn k T base w' v L := ⟨own_kept h.1 hb, h.2⟩
theorem RwOwn.kept (h : RwOwn k T base w v L) {q : Option Nat} (hg : w.grownBy w' q) (hb : v.ownBlock = none ∨ v.ownBlock ≠ q) : RwOwn k T base w' v L := ⟨h.1.kept hg hb, h.2⟩
theorem RwOwn.push {x : List Value} (ho : AllK k L) (hx : x.length = k) (hown : w'.ownsRow base T k v' (L.length + 1) (L.flatten ++ x)) : RwOwn k T base w' v' (L ++ [x]) := by
  refine ⟨?_, ho.snoc hx⟩
  rw [flatten_snoc, List.length_append]
  exact hown
/-- Such a row as a slice. -/
theorem RwOwn.at (h : RwOwn k T base w v L) (hk : 0 < k) : RwAt k w v L := by
  obtain ⟨h2, h3⟩ := h
  refine ⟨h3, ?_⟩
  rcases h2.2 with ⟨hv, h0⟩ | ⟨g, cap, cur, hv, hb, hc, hn, hm, hs, ht⟩
  · exact ⟨none, 0, by rw [hv, h0], by omega, fun h => by omega⟩
  · subst hv
    refine ⟨_, cap, rfl, hn, fun h0 => ⟨g, 0, rfl, fun i x hx => ?_⟩⟩
    have hi := (List.getElem?_eq_some_iff.1 hx).1
    have hxo := h3.get hx
    intro j u hj
    have hjk : j < k := by
      have := (List.getElem?_eq_some_iff.1 hj).1
      omega
    have hlt : i * k + j < L.length * k := by
      have : (i + 1) * k ≤ L.length * k := Nat.mul_le_mul_right _ hi
      rw [Nat.add_mul, Nat.one_mul] at this
      omega
    rw [Nat.zero_add, h2.cellAt (i * k + j) hlt, flatten_get L i x h3 hx j hjk]
    exact hj
end
/-- A part of such a slice. -/
theorem RwAt.cut {k : Nat} {w : World} {sp : Option Addr} {n cap : Nat} {L : List (List Value)} (h : RwAt k w (.slice sp n cap) L) (i r : Nat) (h1 : i ≤ r) (h2 : r ≤ n) : RwAt k w (sliced sp i r cap k) ((L.take r).drop i) := by
  have hn := h.len
  have hok := h.1
  have hl : ((L.take r).drop i).length = r - i := by rw [List.length_drop, List.length_take]; omega
  refine ⟨fun x hx => hok x (List.mem_of_mem_take (List.mem_of_mem_drop hx)), if cap = i then sp else sp.map (·.add (i * k)), cap - i, by rw [sliced, hl], by omega, fun h0 => ?_⟩
  obtain ⟨_, sp', cap', hv, hc, hr⟩ := h
  cases hv
  obtain ⟨b, o, hs, hx⟩ := hr (by omega)
  subst hs
  refine ⟨b, o + i * k, by rw [if_neg (by omega)]; simp [Addr.add_mid], fun j x hj => ?_⟩
  have hj2 : j < r - i := by have := (List.getElem?_eq_some_iff.1 hj).1; omega
  rw [List.getElem?_drop, List.getElem?_take_of_lt (by omega)] at hj
  have := hx (i + j) x hj
  rwa [show o + (i + j) * k = o + i * k + j * k by rw [Nat.add_mul]; omega] at this
end Go.Proofs.YtlpdgjneoahdeaaDoor.Sha

/-
  How coins that came in read: a coin, a place, a slice of coins with their places, a slice of what a set is told. No conditions.
-/
namespace Go.Proofs.YtlpdgjneoahdeaaDoor.Sha
open Go Go.ChangeShapes Go.WideShapes Go.ChangeAt Go.RowKit Go.Deep
theorem mn_fields : (Tryd.prog.fieldsOf 26).toList.map (fun f => (f.name, f.type, f.offset)) = [("Value", 22, 0), ("Lock", 24, 1), ("Height", 3, 33), ("Base", 4, 34)] := by kernel_rfl
theorem mn_under : Tryd.prog.underlying 26 = some (.struct (Tryd.prog.fieldsOf 26)) := by kernel_rfl
set_option maxRecDepth 100000 in
theorem mn_cells {H : Type} {enc : TypeId × Value → H} {W : World} {fuel : Nat} {cs : List Value} {x : DataW H × List MemPlace} (hf : DataW.trod enc Tryd.prog W 0 (fun _ => true) true fuel 26 cs = some x) :
    ∃ c : TMn, MnOk c ∧ cs = mnL c := by
  have c24 : Tryd.prog.cellsOf 24 = 32 := by kernel_rfl
  have c55 : Tryd.prog.cellsOf 22 = 1 := by kernel_rfl
  have c3 : Tryd.prog.cellsOf 3 = 1 := by kernel_rfl
  have c4 : Tryd.prog.cellsOf 4 = 1 := by kernel_rfl
  have c57 : Tryd.prog.cellsOf 26 = 35 := by kernel_rfl
  obtain ⟨hlen, m, hel⟩ := struct_field mn_under hf mn_fields
  rw [c57] at hlen
  obtain ⟨y0, g0⟩ := hel 0 _ _ _ rfl
  obtain ⟨y1, g1⟩ := hel 1 _ _ _ rfl
  obtain ⟨y2, g2⟩ := hel 2 _ _ _ rfl
  obtain ⟨y3, g3⟩ := hel 3 _ _ _ rfl
  rw [c55, List.drop_zero] at g0
  rw [c24] at g1
  rw [c3] at g2
  rw [c4] at g3
  obtain ⟨z, hz, _, hw⟩ := DataW.trod_int Tryd.underlying22 g0
  have hbd := bounds_u64 hw
  obtain ⟨bs, hb, hcs⟩ := hash_cells g1
  obtain ⟨t, ht, _, hwt⟩ := DataW.trod_int Tryd.underlying3 g2
  have hbt := bounds_i64 hwt
  obtain ⟨b, hbb⟩ : ∃ b, (cs.drop 34).take 1 = [.bool b] := by
    obtain ⟨b, hb, _⟩ := DataW.trod_bool Tryd.underlying4 g3
    exact ⟨b, hb⟩
  refine ⟨⟨z.toNat, bs, t, b⟩, ⟨hb, by show z.toNat ≤ _; omega, hbt.1, hbt.2⟩, ?_⟩
  rw [List.take_of_length_le (by rw [List.length_drop]; omega)] at hbb
  have e3 : cs.drop 33 = [.int .i64 t, .bool b] := by
    rw [← List.take_append_drop 1 (cs.drop 33), ht, List.drop_drop, hbb]
    rfl
  have e1 : cs.drop 1 = bs.map bV ++ [.int .i64 t, .bool b] := by
    rw [← List.take_append_drop 32 (cs.drop 1), hcs, List.drop_drop, e3]
  show cs = .int .u64 ((z.toNat : Nat) : Int) :: (bs.map bV ++ [.int .i64 t, .bool b])
  rw [← e1, Int.toNat_of_nonneg (by omega), ← List.take_append_drop 1 cs, hz]
  rfl
set_option maxRecDepth 100000 in
/-- A coin by value. -/
theorem money_in {H : Type} {enc : TypeId × Value → H} {W : World} {base : Nat} {v : Value} {d : DataW H} {p : List MemPlace} (hok : Value.okWide Tryd.prog W .any base 26 v) (h : DataW.Trod enc Tryd.prog W 0 (fun _ => true) true 26 v d p) :
    ∃ c : TMn, MnOk c ∧ v = .agg (mnL c).toArray := by
  simp only [Value.okWide, mn_under] at hok
  obtain ⟨cs, rfl, _, _⟩ := hok
  obtain ⟨fuel, hf⟩ := h
  have hcells : (Value.agg cs).cells.toList = cs.toList := rfl
  rw [hcells] at hf
  obtain ⟨c, hc, hcs⟩ := mn_cells hf
  exact ⟨c, hc, by rw [← hcs, Array.toArray_toList]⟩
/-- A slice of elements of k cells each, however each reads. -/
theorem rows_cells {H : Type} {enc : TypeId × Value → H} {W : World} {fuel : Nat} {cs : List Value} {x : DataW H × List MemPlace} {T t : TypeId} {α : Type} {f : α → List Value} {P : α → Prop} {k : Nat} (hk : 0 < k) (hu : Tryd.prog.underlying T = some (.slice t)) (hc : Tryd.prog.cellsOf t = k)
    (hel : ∀ {fuel : Nat} {cs : List Value} {x : DataW H × List MemPlace}, DataW.trod enc Tryd.prog W 0 (fun _ => true) true fuel t cs = some x → ∃ y : α, P y ∧ cs = f y) (hlen : ∀ y, P y → (f y).length = k)
    (hf : DataW.trod enc Tryd.prog W 0 (fun _ => true) true fuel T cs = some x) : ∃ (v : Value) (l : List α), cs = [v] ∧ RwAt k W v (l.map f) ∧ (∀ y ∈ l, P y) ∧ l.length ≤ 9223372036854775807 := by
  rcases open_slice hu hf with ⟨hcs, _⟩ | ⟨a, len, cap, m, n, D, Pl, hcs, hb, hl, hm, hmm, hx, hi⟩
  · exact ⟨_, [], hcs, RwAt.nil _ _ _ _, fun y hy => by simp at hy, by simp⟩
  · have hmc : m = cap := by rw [hmm]; simp
    rw [hc] at hi
    have each : ∀ i, i < len → ∃ y : α, P y ∧ ∃ b o, a.add (i * k) = ⟨b, o, none⟩ ∧ W.rangeAt b o (f y) := fun i him => by
      obtain ⟨cs', hc', ht⟩ := hi i (by omega)
      obtain ⟨y, h1, h4⟩ := hel ht
      obtain ⟨b, o, hab, hr⟩ := range_of_cells hc' hk
      exact ⟨y, h1, b, o, hab, by rw [← h4]; exact hr⟩
    obtain ⟨l, hll, hp⟩ := list_of_each len each
    have hmem : ∀ y ∈ l, P y := fun y hy => by
      obtain ⟨i, hi2⟩ := List.getElem?_of_mem hy
      exact (hp i y hi2).1
    refine ⟨_, l, hcs, ⟨fun x hx => ?_, _, cap, by rw [List.length_map, hll], by rw [List.length_map]; omega, fun h0 => ?_⟩, hmem, by unfold maxLen at hm; omega⟩
    · obtain ⟨y, hy, rfl⟩ := List.mem_map.1 hx
      exact hlen y (hmem y hy)
    · rw [List.length_map] at h0
      obtain ⟨x0, hx0⟩ : ∃ x0, l[0]? = some x0 := ⟨_, List.getElem?_eq_getElem h0⟩
      obtain ⟨_, b, o, hab, _⟩ := hp 0 x0 hx0
      obtain ⟨ab, ao, asp⟩ := a
      have hsp : asp = none := by
        have := congrArg Addr.spot hab
        simpa [Addr.add] using this
      subst hsp
      refine ⟨ab, ao, rfl, fun i z hz => ?_⟩
      rw [List.getElem?_map] at hz
      obtain ⟨y, hy, rfl⟩ := Option.map_eq_some_iff.1 hz
      obtain ⟨_, b', o', hab', h1⟩ := hp i y hy
      rw [Addr.add_mid] at hab'
      cases hab'
      exact h1
/-- What a set is told. -/
structure TDo where
  kind : Int
  n : Int
  p : TPt
  c : TMn
end Go.Proofs.YtlpdgjneoahdeaaDoor.Sha

/-
  A row of coins, and a chain's rules, as a law's arguments. No conditions.
-/
namespace Go.Proofs.YtlpdgjneoahdeaaDoor.Sha
open Go Go.ChangeShapes Go.WideShapes Go.ChangeAt Go.RowKit
set_option maxRecDepth 100000 in
theorem moneys_in {H : Type} {enc : TypeId × Value → H} {W : World} {base : Nat} {v : Value} {d : DataW H} {p : List MemPlace} (_hok : Value.okWide Tryd.prog W .any base 32 v) (h : DataW.Trod enc Tryd.prog W 0 (fun _ => true) true 32 v d p) :
    ∃ l : List TMn, RwAt 35 W v (l.map mnL) ∧ (∀ y ∈ l, MnOk y) ∧ l.length ≤ 9223372036854775807 := by
  obtain ⟨a, len, cap, rfl⟩ := okWide_slice Tryd.underlying32 _hok
  obtain ⟨fuel, hf⟩ := h
  obtain ⟨v', l, hcs, h1, h2, h3⟩ := rows_cells (f := mnL) (P := MnOk) (k := 35) (by omega) Tryd.underlying32 (by kernel_rfl) (fun hg => mn_cells hg) (fun y hy => mnL_length hy) hf
  have e : v' = .slice a len cap := by
    have : [v'] = (Value.slice a len cap).cells.toList := hcs.symm
    simpa [Value.cells] using this
  rw [e] at h1
  exact ⟨l, h1, h2, h3⟩
theorem ru_fields : (Tryd.prog.fieldsOf 34).toList.map (fun f => (f.name, f.type, f.offset)) = [("Halving", 3, 0), ("Maturity", 3, 1), ("PoolBytes", 3, 2), ("RedoBytes", 3, 3), ("LogMost", 3, 4), ("Ancestors", 3, 5), ("AncestorBytes", 3, 6), ("Descendants", 3, 7), ("DescendantBytes", 3, 8)] := by kernel_rfl
theorem ru_under : Tryd.prog.underlying 34 = some (.struct (Tryd.prog.fieldsOf 34)) := by kernel_rfl
theorem drop_take {α : Type} {l : List α} {i : Nat} {x : α} (h : (l.drop i).take 1 = [x]) : l.drop i = x :: l.drop (i + 1) := by
  rw [← List.take_append_drop 1 (l.drop i), h, List.drop_drop]
  rfl
set_option maxRecDepth 100000 in
theorem rules_in {H : Type} {enc : TypeId × Value → H} {W : World} {base : Nat} {v : Value} {d : DataW H} {p : List MemPlace} (hok : Value.okWide Tryd.prog W .any base 34 v) (h : DataW.Trod enc Tryd.prog W 0 (fun _ => true) true 34 v d p) :
    ∃ r : TRu, RuOk r ∧ v = .agg (ruL r).toArray := by
  simp only [Value.okWide, ru_under] at hok
  obtain ⟨cs, rfl, _, _⟩ := hok
  obtain ⟨fuel, hf⟩ := h
  have hcells : (Value.agg cs).cells.toList = cs.toList := rfl
  rw [hcells] at hf
  have c3 : Tryd.prog.cellsOf 3 = 1 := by kernel_rfl
  have c9 : Tryd.prog.cellsOf 34 = 9 := by kernel_rfl
  obtain ⟨hlen, m, hel⟩ := struct_field ru_under hf ru_fields
  rw [c9] at hlen
  obtain ⟨y0, g0⟩ := hel 0 _ _ _ rfl
  rw [c3] at g0
  obtain ⟨z0, hz0, _, hw0⟩ := DataW.trod_int Tryd.underlying3 g0
  have hb0 := bounds_i64 hw0
  have e0 := drop_take hz0
  obtain ⟨y1, g1⟩ := hel 1 _ _ _ rfl
  rw [c3] at g1
  obtain ⟨z1, hz1, _, hw1⟩ := DataW.trod_int Tryd.underlying3 g1
  have hb1 := bounds_i64 hw1
  have e1 := drop_take hz1
  obtain ⟨y2, g2⟩ := hel 2 _ _ _ rfl
  rw [c3] at g2
  obtain ⟨z2, hz2, _, hw2⟩ := DataW.trod_int Tryd.underlying3 g2
  have hb2 := bounds_i64 hw2
  have e2 := drop_take hz2
  obtain ⟨y3, g3⟩ := hel 3 _ _ _ rfl
  rw [c3] at g3
  obtain ⟨z3, hz3, _, hw3⟩ := DataW.trod_int Tryd.underlying3 g3
  have hb3 := bounds_i64 hw3
  have e3 := drop_take hz3
  obtain ⟨y4, g4⟩ := hel 4 _ _ _ rfl
  rw [c3] at g4
  obtain ⟨z4, hz4, _, hw4⟩ := DataW.trod_int Tryd.underlying3 g4
  have hb4 := bounds_i64 hw4
  have e4 := drop_take hz4
  obtain ⟨y5, g5⟩ := hel 5 _ _ _ rfl
  rw [c3] at g5
  obtain ⟨z5, hz5, _, hw5⟩ := DataW.trod_int Tryd.underlying3 g5
  have hb5 := bounds_i64 hw5
  have e5 := drop_take hz5
  obtain ⟨y6, g6⟩ := hel 6 _ _ _ rfl
  rw [c3] at g6
  obtain ⟨z6, hz6, _, hw6⟩ := DataW.trod_int Tryd.underlying3 g6
  have hb6 := bounds_i64 hw6
  have e6 := drop_take hz6
  obtain ⟨y7, g7⟩ := hel 7 _ _ _ rfl
  rw [c3] at g7
  obtain ⟨z7, hz7, _, hw7⟩ := DataW.trod_int Tryd.underlying3 g7
  have hb7 := bounds_i64 hw7
  have e7 := drop_take hz7
  obtain ⟨y8, g8⟩ := hel 8 _ _ _ rfl
  rw [c3] at g8
  obtain ⟨z8, hz8, _, hw8⟩ := DataW.trod_int Tryd.underlying3 g8
  have hb8 := bounds_i64 hw8
  have e8 := drop_take hz8
  refine ⟨⟨z0, z1, z2, z3, z4, z5, z6, z7, z8⟩, ⟨hb0, hb1, hb2, hb3, hb4, hb5, hb6, hb7, hb8⟩, ?_⟩
  have e9 : cs.toList.drop 9 = [] := List.drop_eq_nil_of_le (by omega)
  rw [e9] at e8
  rw [e8] at e7
  rw [e7] at e6
  rw [e6] at e5
  rw [e5] at e4
  rw [e4] at e3
  rw [e3] at e2
  rw [e2] at e1
  rw [e1] at e0
  rw [List.drop_zero] at e0
  have e := congrArg List.toArray e0
  rw [Array.toArray_toList] at e
  rw [e]
  rfl
end Go.Proofs.YtlpdgjneoahdeaaDoor.Sha

/-
  Whether a coin is ripe, as a Boolean. No conditions.
-/
namespace Go.Proofs.YtlpdgjneoahdeaaDoor.Sha
open Go Go.RowKit
def ripeB (c : TMn) (height maturity : Int) : Bool := !c.base || decide (c.height + maturity ≤ height)
end Go.Proofs.YtlpdgjneoahdeaaDoor.Sha

/-
  The statements' own: whether a coin is ripe. Nothing that was there turns. Conditions: numbers that an int holds.
-/
namespace Go.Proofs.YtlpdgjneoahdeaaDoor.Sha
open Go Go.RowKit
set_option maxHeartbeats 1000000 in
set_option maxRecDepth 100000 in
theorem rripe_any (w : World) (c : TMn) (height maturity : Int) (hc : MnOk c) (h1 : -9223372036854775808 ≤ c.height + maturity) (h2 : c.height + maturity ≤ 9223372036854775807) :
    Calls Tryd.prog 13 #[.agg (mnL c).toArray, .int .i64 height, .int .i64 maturity] w fun e w' => e = .returned (.bool (ripeB c height maturity)) ∧ Below w.heap.size w w' := by
  have hb := range_of_box (heap_alloc_new w (.cells (mnL c).toArray 26 (0, 0)))
  have hh := mn_height hc.1 hb
  have hbs := mn_base hc.1 hb
  have bb := (Below.refl w.heap.size w).alloc (Nat.le_refl _) (.cells (mnL c).toArray 26 (0, 0))
  rw [Nat.zero_add] at hh hbs
  obtain ⟨ans, han⟩ : ∃ ans, ans = ripeB c height maturity := ⟨_, rfl⟩
  have AN : Hid (ans = (!c.base || decide (c.height + maturity ≤ height))) := han
  rw [← han]
  obtain ⟨cm, hcm⟩ : ∃ cm, cm = mnL c := ⟨_, rfl⟩
  rw [← hcm] at hh hbs bb ⊢
  obtain ⟨ht, hht⟩ : ∃ ht, ht = c.height := ⟨_, rfl⟩
  obtain ⟨bs, hbse⟩ : ∃ bs, bs = c.base := ⟨_, rfl⟩
  rw [← hht] at AN hh h1 h2
  rw [← hbse] at AN hbs
  clear hb han hcm hht hbse hc
  go_enter Tryd.func13, Tryd.ntmps13
  go_upto_region 1 with fail
  have hw1 : w.alloc (.cells cm.toArray 26 (0, 0)) = w.alloc (.cells cm.toArray 26 (0, 0)) := rfl
  generalize hq : World.alloc _ _ = w1
  have e1 : w.alloc (.cells cm.toArray 26 (0, 0)) = w1 := hq
  rw [e1] at hh hbs bb
  clear hw1 hq e1
  cases bs with
  | false =>
    go_wp2_with fail
    go_ret
    exact ⟨by rw [AN.out]; rfl, bb⟩
  | true =>
    have hwr : IntKind.i64.wrap (ht + maturity) = ht + maturity := by rw [IntKind.wrap_i64]; omega
    go_wp2_with fail
    go_ret
    exact ⟨by rw [AN.out]; rfl, bb⟩
end Go.Proofs.YtlpdgjneoahdeaaDoor.Sha

/-
  What a fact stands on: 'Kps F w w'': w' is w in the blocks of F, and may have more; 'Sty F w P': P holds in each such world. No conditions.
-/
namespace Go.Proofs.YtlpdgjneoahdeaaDoor.Sha
open Go Go.RowKit
/-- In the blocks of F the world w' is as w was; the streams too. -/
structure Kps (F : Nat → Prop) (w w' : World) : Prop where
  os : w'.os = w.os
  tape : w'.tape = w.tape
  output : w'.output = w.output
  size : w.heap.size ≤ w'.heap.size
  block : ∀ k, k < w.heap.size → F k → w'.heap[k]? = w.heap[k]?
theorem Kps.refl (F : Nat → Prop) (w : World) : Kps F w w := ⟨rfl, rfl, rfl, Nat.le_refl _, fun _ _ _ => rfl⟩
theorem Kps.trans {F : Nat → Prop} {a b c : World} (h : Kps F a b) (k : Kps F b c) : Kps F a c :=
  ⟨k.os.trans h.os, k.tape.trans h.tape, k.output.trans h.output, Nat.le_trans h.size k.size, fun i hi hf => (k.block i (Nat.lt_of_lt_of_le hi h.size) hf).trans (h.block i hi hf)⟩
theorem Kps.mono {F G : Nat → Prop} {w w' : World} (h : Kps F w w') (hs : ∀ k, k < w.heap.size → G k → F k) : Kps G w w' :=
  ⟨h.os, h.tape, h.output, h.size, fun k hk hg => h.block k hk (hs k hk hg)⟩
theorem Kps.below {F : Nat → Prop} {B : Nat} {w w' : World} (h : Below B w w') (hs : ∀ k, k < w.heap.size → F k → k < B) : Kps F w w' :=
  ⟨h.os, h.tape, h.output, h.size, fun k hk hf => h.block k (hs k hk hf)⟩
theorem Kps.grown {F : Nat → Prop} {q : Option Nat} {w w' : World} (h : w.grownBy w' q) (hs : ∀ k, k < w.heap.size → F k → some k ≠ q) : Kps F w w' :=
  ⟨h.os, h.tape, h.output, h.size, fun k hk hf => h.block k hk (hs k hk hf)⟩
theorem Kps.toBelow {F : Nat → Prop} {w w' : World} (h : Kps F w w') (hs : ∀ k, k < w.heap.size → F k) : Below w.heap.size w w' :=
  ⟨h.os, h.tape, h.output, h.size, fun k hk => h.block k hk (hs k hk)⟩
/-- P holds in every world that is as w in the blocks of F. -/
def Sty (F : Nat → Prop) (w : World) (P : World → Prop) : Prop := ∀ w', Kps F w w' → P w'
theorem Sty.now {F : Nat → Prop} {w : World} {P : World → Prop} (h : Sty F w P) : P w := h w (Kps.refl _ _)
/-- What stands while old blocks stand. -/
theorem Sty.all {w : World} {P : World → Prop} (h : ∀ w', Below w.heap.size w w' → P w') : Sty (fun k => k < w.heap.size) w P :=
  fun w' hk => h w' (hk.toBelow fun _ h => h)
theorem row_kps {F : Nat → Prop} {w w' : World} {g : Nat} {o : Obj} (h : w.heap[g]? = some o) (hk : Kps F w w') (hf : F g) : w'.heap[g]? = some o := by
  rw [hk.block g (Array.getElem?_eq_some_iff.1 h).1 hf]
  exact h
theorem SrcB.kps {F : Nat → Prop} {w w' : World} {v : Value} {bs : List UInt8} (h : SrcB w v bs) (ho : ∀ sp n cap, v = .slice (some sp) n cap → 0 < n → F sp.block) (hk : Kps F w w') : SrcB w' v bs := by
  rcases h with h | ⟨h0, bb, off, cap, hv, hc, hs⟩
  · exact .inl h
  · refine .inr ⟨h0, bb, off, cap, hv, hc, fun j hj => ?_⟩
    rw [World.cell?_of_block (hk.block bb (SrcB.block h0 hs) (ho _ _ _ hv h0))]
    exact hs j hj
theorem KeyAt.kps {F : Nat → Prop} {w w' : World} {kv : Value} {key : List UInt8} (h : KeyAt w kv key) (ho : ∀ sp n cap, kv = .slice (some sp) n cap → 0 < n → F sp.block) (hk : Kps F w w') : KeyAt w' kv key := ⟨h.1.kps ho hk, h.2⟩
theorem own_kps {F : Nat → Prop} {w w' : World} {base n size : Nat} {e : TypeId} {v : Value} {xs : List Value} (h : w.ownsRow base e size v n xs) (hk : Kps F w w') (hf : ∀ k, base ≤ k → F k) : w'.ownsRow base e size v n xs := by
  refine ⟨h.1, ?_⟩
  rcases h.2 with hn | ⟨g, cap, cur, rfl, hb, hg, rest⟩
  · exact .inl hn
  · exact .inr ⟨g, cap, cur, rfl, hb, row_kps hg hk (hf g hb), rest⟩
theorem InsOwn.kps {F : Nat → Prop} {w w' : World} {base : Nat} {v : Value} {l : List TIn} {ks : List Value} (h : InsOwn base w v l ks) (hk : Kps F w w') (hf : ∀ k, base ≤ k → F k) : InsOwn base w' v l ks :=
  ⟨h.1, own_kps h.2.1 hk hf, h.2.2.1, fun i x kv hx hkv => ⟨(h.2.2.2 i x kv hx hkv).1.kps (fun sp n cap hv h0 => hf _ (Nat.le_of_not_lt fun hlt => (h.2.2.2 i x kv hx hkv).2.1 sp.block hlt sp n cap hv h0 rfl)) hk, (h.2.2.2 i x kv hx hkv).2⟩⟩
theorem OutsOwn.kps {F : Nat → Prop} {w w' : World} {base : Nat} {v : Value} {m : List TOut} (h : OutsOwn base w v m) (hk : Kps F w w') (hf : ∀ k, base ≤ k → F k) : OutsOwn base w' v m := ⟨own_kps h.1 hk hf, h.2⟩
/-- A transaction in memory that was made since w. -/
def TxNew (w w' : World) (v : Value) (t : TTx) : Prop := Sty (fun k => w.heap.size ≤ k) w' (fun W => TxAt W v t)
theorem TxNew.at {w w' : World} {v : Value} {t : TTx} (h : TxNew w w' v t) : TxAt w' v t := h.now
end Go.Proofs.YtlpdgjneoahdeaaDoor.Sha

/-
  A map of coins by their places: what is found, put, taken away, counted, ranged over. Conditions: places and coins as the model has them.
-/
namespace Go.Proofs.YtlpdgjneoahdeaaDoor.Sha
open Go Go.RowKit Go.MapKept
open Go.ChangeMaps (setBlock heap_setBlock_same heap_setBlock_other)
/-! The map. -/
def enE (x : TSp) : Value × Value := (.agg (ptC x.at_).toArray, .agg (mnL x.coin).toArray)
def kvE (e : MapEntry) : Value × Value := (e.key, e.val)
/-- Block b is a map of these coins. -/
def MapAt (w : World) (b : Nat) (l : List TSp) : Prop :=
  ∃ es clock, w.heap[b]? = some (.map es clock) ∧ Stamped es clock ∧ es.toList.map kvE = l.map enE ∧ ∀ x ∈ l, SpOk x
/-- A map's value: none, or a block. -/
def MapO (w : World) (m : Option Nat) (l : List TSp) : Prop :=
  match m with
  | none => l = []
  | some b => MapAt w b l
section
variable {w : World} {b : Nat} {l : List TSp}
theorem MapAt.ok (h : MapAt w b l) : ∀ x ∈ l, SpOk x := by
  obtain ⟨_, _, _, _, _, ho⟩ := h
  exact ho
theorem MapAt.lt (h : MapAt w b l) : b < w.heap.size := by
  obtain ⟨_, _, hb, _⟩ := h
  exact (Array.getElem?_eq_some_iff.1 hb).1
theorem MapAt.kps {F : Nat → Prop} {w' : World} (h : MapAt w b l) (hk : Kps F w w') (hf : F b) : MapAt w' b l := by
  obtain ⟨es, clock, hb, h2⟩ := h
  exact ⟨es, clock, row_kps hb hk hf, h2⟩
theorem MapO.ok {m : Option Nat} (h : MapO w m l) : ∀ x ∈ l, SpOk x := by
  cases m with
  | none => rw [show l = [] from h]; simp
  | some b => exact MapAt.ok h
theorem MapO.kps {F : Nat → Prop} {w' : World} {m : Option Nat} (h : MapO w m l) (hk : Kps F w w') (hf : ∀ b, m = some b → F b) : MapO w' m l := by
  cases m with
  | none => exact h
  | some b => exact MapAt.kps h hk (hf b rfl)
/-! Ranging. -/
/-- Block r goes over the map m; these are still to come. -/
def IterAt (w : World) (m : Option Nat) (r : Nat) (rest : List TSp) : Prop :=
  match m with
  | none => rest = [] ∧ w.heap[r]? = some (.mapIter none 0 #[] 0)
  | some b => ∃ es clock since seen c0, w.heap[b]? = some (.map es clock) ∧ Stamped es clock ∧ w.heap[r]? = some (.mapIter (some b) since seen c0) ∧ (∀ x ∈ es.toList, x.born < since) ∧ since ≤ c0 ∧ since ≤ clock ∧
    (leftOf es seen).toList.map kvE = rest.map enE ∧ ∀ x ∈ rest, SpOk x
theorem IterAt.kps {F : Nat → Prop} {w' : World} {m : Option Nat} {r : Nat} {rest : List TSp} (h : IterAt w m r rest) (hk : Kps F w w') (hf : ∀ b, m = some b → F b) (hr : F r) : IterAt w' m r rest := by
  cases m with
  | none => exact ⟨h.1, row_kps h.2 hk hr⟩
  | some b =>
    obtain ⟨es, clock, since, seen, c0, hb, h1, h2, h3⟩ := h
    exact ⟨es, clock, since, seen, c0, row_kps hb hk (hf b rfl), h1, row_kps h2 hk hr, h3⟩
theorem IterAt.below {w' : World} {m : Option Nat} {r : Nat} {rest : List TSp} (h : IterAt w m r rest) (hb : Below w.heap.size w w') : IterAt w' m r rest := by
  cases m with
  | none => exact ⟨h.1, row_below h.2 hb⟩
  | some b =>
    obtain ⟨es, clock, since, seen, c0, h0, h1, h2, h3⟩ := h
    exact ⟨es, clock, since, seen, c0, row_below h0 hb, h1, row_below h2 hb, h3⟩
end
end Go.Proofs.YtlpdgjneoahdeaaDoor.Sha

/-
  A set of coins in memory: how many, what is at a place. Nothing that was there turns. Conditions: the set lies where the pointer says; a place as the model has it.
-/
namespace Go.Proofs.YtlpdgjneoahdeaaDoor.Sha
open Go Go.RowKit
section
variable {w w' : World} {a : Nat} {m : Option Nat} {l : List TSp}
theorem MapO.lt (h : MapO w m l) : ∀ b, m = some b → b < w.heap.size := fun b e => by
  subst e
  exact MapAt.lt h
end
end Go.Proofs.YtlpdgjneoahdeaaDoor.Sha

/-
  A coin is spent, or added; the map alone turns, and the set's box where it had none. Conditions: the set lies where the pointer says; a place, a coin as the model has them; the errors are there.
-/
namespace Go.Proofs.YtlpdgjneoahdeaaDoor.Sha
open Go Go.RowKit
/-- The errors that a set tells. -/
structure EC (w : World) (E : Nat → Addr) : Prop where
  value : w.cell? ⟨2, 0, none⟩ = some (errV E 5)
  twice : w.cell? ⟨8, 0, none⟩ = some (errV E 6)
  missing : w.cell? ⟨15, 0, none⟩ = some (errV E 13)
theorem cell_below {w w' : World} {p : Addr} {v : Value} (h : w.cell? p = some v) (hb : Below w.heap.size w w') : w'.cell? p = some v := by
  rw [hb.cell (World.block_lt_of_cell? w _ h)]
  exact h
theorem EC.below {w w' : World} {E : Nat → Addr} (h : EC w E) (hb : Below w.heap.size w w') : EC w' E := ⟨cell_below h.value hb, cell_below h.twice hb, cell_below h.missing hb⟩
end Go.Proofs.YtlpdgjneoahdeaaDoor.Sha

/-
  A Reader's Num, Four, Eight, Bytes and Hash answer what the chapter says, and leave what it says. Conditions: the Reader stands as it should; the three errors are there.
-/
namespace Go.Proofs.YtlpdgjneoahdeaaDoor.Sha
open Go Go.RowKit
/-- The three errors, none of them at block r. -/
def ErR (w : World) (E : Nat → Addr) (r : Nat) : Prop := Er w E ∧ 5 ≠ r ∧ 0 ≠ r ∧ 7 ≠ r
theorem ErR.grown {w w' : World} {E : Nat → Addr} {r : Nat} (h : ErR w E r) (hg : w.grownBy w' (some r)) : ErR w' E r := by
  obtain ⟨⟨a, b, c⟩, p, q, s⟩ := h
  exact ⟨⟨hg.cell a (fun e => p (Option.some.inj e)), hg.cell b (fun e => q (Option.some.inj e)), hg.cell c (fun e => s (Option.some.inj e))⟩, p, q, s⟩
theorem ErR.below {w w' : World} {E : Nat → Addr} {r : Nat} (h : ErR w E r) (hb : Below w.heap.size w w') : ErR w' E r := ⟨h.1.below hb, h.2⟩
/-- What Num answers, leaves and meets. -/
def numL (most : Nat) (bs : List UInt8) (c : Nat) : Nat × List UInt8 × Nat :=
  let t := takeL 1 bs c
  let k := widN (leN t.1)
  let u := if k = 0 then t else takeL k t.2.1 t.2.2
  if u.2.2 ≠ 0 then (0, u.2.1, u.2.2) else if lenN (leN u.1) ≠ 1 + k then (0, u.2.1, 2) else if most < leN u.1 then (0, u.2.1, 4) else (leN u.1, u.2.1, 0)
end Go.Proofs.YtlpdgjneoahdeaaDoor.Sha

/-
  A Reader's Hash answers the next 32 bytes, or no digest, and leaves what the chapter says. Conditions: the Reader stands as it should; the three errors are there.
-/
namespace Go.Proofs.YtlpdgjneoahdeaaDoor.Sha
open Go Go.RowKit
/-- Bytes filled up to a digest's 32. -/
def padH (x : List UInt8) : List UInt8 := x ++ List.replicate (32 - x.length) 0
end Go.Proofs.YtlpdgjneoahdeaaDoor.Sha

/-
  Plain mathematics of readers of bytes, one behind the other: what was written is read again; cut off it ends too early; what is read has just these bytes. No conditions beyond those that each states.
-/
namespace Go.Proofs.YtlpdgjneoahdeaaDoor.Sha
open Go Go.RowKit
/-- A reader of bytes: what it answers, what it leaves, what it met. -/
abbrev Par (α : Type) := List UInt8 → Nat → α × List UInt8 × Nat
def thenP {α β : Type} (p : Par α) (q : α → Par β) : Par β := fun bs c => q (p bs c).1 (p bs c).2.1 (p bs c).2.2
def mapP {α β : Type} (f : α → β) (p : Par α) : Par β := fun bs c => (f (p bs c).1, (p bs c).2)
def manyP {α : Type} (p : Par α) : Nat → Par (List α)
  | 0, bs, c => ([], bs, c)
  | n + 1, bs, c => if c ≠ 0 then ([], bs, c) else thenP p (fun a => mapP (a :: ·) (manyP p n)) bs c
/-- Bytes that it reads whole, whatever stands behind; cut off, they end too early. -/
def Good {α : Type} (p : Par α) (a : α) (x : List UInt8) : Prop := (∀ y, p (x ++ y) 0 = (a, y, 0)) ∧ ∀ k, k < x.length → (p (x.take k) 0).2.2 = 1
/-- An error stays. -/
def Stay {α : Type} (p : Par α) : Prop := ∀ bs c, c ≠ 0 → (p bs c).2.2 = c
/-- What is read stands so to the bytes that it was read from. -/
def BackR {α : Type} (p : Par α) (R : α → List UInt8 → Prop) : Prop := ∀ bs a r, p bs 0 = (a, r, 0) → ∃ x, bs = x ++ r ∧ R a x
section
variable {α β : Type} {p : Par α} {q : α → Par β} {a : α} {b : β} {x y : List UInt8}
theorem Good.andThen (h1 : Good p a x) (h2 : Good (q a) b y) (hs : ∀ a, Stay (q a)) : Good (thenP p q) b (x ++ y) := by
  refine ⟨fun z => ?_, fun k hk => ?_⟩
  · unfold thenP
    rw [List.append_assoc, h1.1]
    exact h2.1 z
  · by_cases h : k < x.length
    · rw [List.take_append_of_le_length (by omega)]
      unfold thenP
      rw [h1.2 k h]
      exact hs _ _ 1 (by omega)
    · rw [List.take_append, List.take_of_length_le (by omega)]
      unfold thenP
      rw [h1.1]
      exact h2.2 (k - x.length) (by rw [List.length_append] at hk; omega)
theorem Good.map (f : α → β) (h : Good p a x) : Good (mapP f p) (f a) x :=
  ⟨fun z => by unfold mapP; rw [h.1], fun k hk => h.2 k hk⟩
theorem Stay.andThen (h1 : Stay p) (h2 : ∀ a, Stay (q a)) : Stay (thenP p q) := fun bs c hc => by
  unfold thenP
  have e := h1 bs c hc
  rw [h2 _ _ _ (by rw [e]; exact hc), e]
theorem Stay.map (f : α → β) (h : Stay p) : Stay (mapP f p) := fun bs c hc => h bs c hc
theorem BackR.andThen {R : α → List UInt8 → Prop} {S : α → β → List UInt8 → Prop} (h1 : BackR p R) (h2 : ∀ a, BackR (q a) (S a)) (hs : ∀ a, Stay (q a)) : BackR (thenP p q) (fun b z => ∃ a x y, z = x ++ y ∧ R a x ∧ S a b y) := by
  intro bs b r h
  unfold thenP at h
  have hc : (p bs 0).2.2 = 0 := by
    by_cases h0 : (p bs 0).2.2 = 0
    · exact h0
    · have e := hs (p bs 0).1 (p bs 0).2.1 (p bs 0).2.2 h0
      rw [h] at e
      exact e.symm
  rw [hc] at h
  obtain ⟨x, e1, r1⟩ := h1 bs (p bs 0).1 (p bs 0).2.1 (Prod.ext rfl (Prod.ext rfl hc))
  obtain ⟨y, e2, r2⟩ := h2 _ _ _ _ h
  exact ⟨x ++ y, by rw [List.append_assoc, ← e2]; exact e1, _, x, y, rfl, r1, r2⟩
theorem BackR.map {R : α → List UInt8 → Prop} (f : α → β) (h : BackR p R) : BackR (mapP f p) (fun b z => ∃ a, b = f a ∧ R a z) := by
  intro bs b r h1
  unfold mapP at h1
  simp only [Prod.mk.injEq] at h1
  obtain ⟨x, e, hr⟩ := h bs (p bs 0).1 r (by rw [← h1.2])
  exact ⟨x, e, _, h1.1.symm, hr⟩
end
/-- So many bytes as a number. -/
def leP (k : Nat) : Par Nat := mapP leN (takeL k)
end Go.Proofs.YtlpdgjneoahdeaaDoor.Sha

/-
  Plain mathematics of a transaction read out of bytes: an input, an output, the whole; all that is in the bytes, and what is amiss. No conditions beyond those that each states.
-/
namespace Go.Proofs.YtlpdgjneoahdeaaDoor.Sha
open Go Go.RowKit
def inP : Par TIn := thenP (takeL 32) fun h => thenP (leP 4) fun n => thenP (numL 80) fun k => thenP (takeL k) fun key => mapP (fun s => ⟨padH h, n, key, s⟩) (leP 4)
def outP : Par TOut := thenP (leP 8) fun v => mapP (fun h => ⟨v, padH h⟩) (takeL 32)
def txP : Par TTx := thenP (leP 4) fun v => thenP (numL 50) fun n => thenP (manyP inP n) fun is => thenP (numL 50) fun m => thenP (manyP outP m) fun os => mapP (fun t => ⟨v, is, os, t⟩) (leP 4)
def noTx : TTx := ⟨0, [], [], 0⟩
/-- A transaction out of a Reader: none where an error was met. -/
def takeTx (bs : List UInt8) (c : Nat) : TTx × List UInt8 × Nat := if (txP bs c).2.2 = 0 then txP bs c else (noTx, (txP bs c).2)
/-- Bytes as a transaction, or what is amiss. -/
def readTx (bs : List UInt8) : TTx × Nat := if (txP bs 0).2.2 ≠ 0 then (noTx, (txP bs 0).2.2) else if (txP bs 0).2.1 ≠ [] then (noTx, 2) else ((txP bs 0).1, 0)
end Go.Proofs.YtlpdgjneoahdeaaDoor.Sha

/-
  Plain mathematics of so many things read one behind the other, whether or not an error was met between: they leave and meet what those do that stop at the first error. No conditions.
-/
namespace Go.Proofs.YtlpdgjneoahdeaaDoor.Sha
open Go Go.RowKit
section
variable {α β : Type} {p q : Par α}
/-- Behind an error nothing is read. -/
def Still (p : Par α) : Prop := ∀ bs c, c ≠ 0 → (p bs c).2 = (bs, c)
theorem Still.andThen {f : α → Par β} (h1 : Still p) (h2 : ∀ a, Still (f a)) : Still (thenP p f) := fun bs c hc => by
  have e := h1 bs c hc
  unfold thenP
  rw [e]
  exact h2 _ bs c hc
theorem Still.map (f : α → β) (h : Still p) : Still (mapP f p) := fun bs c hc => h bs c hc
/-- Two that leave and meet the same, and are the same where nothing is met. -/
def Sim (p q : Par α) : Prop := ∀ bs c, (p bs c).2 = (q bs c).2 ∧ ((p bs c).2.2 = 0 → p bs c = q bs c)
theorem Sim.refl (p : Par α) : Sim p p := fun _ _ => ⟨rfl, fun _ => rfl⟩
theorem Sim.andThen {f g : α → Par β} (h1 : Sim p q) (h2 : ∀ a, Sim (f a) (g a)) (s1 : ∀ a, Still (f a)) (s2 : ∀ a, Still (g a)) : Sim (thenP p f) (thenP q g) := fun bs c => by
  obtain ⟨e1, e2⟩ := h1 bs c
  unfold thenP
  by_cases hd : (p bs c).2.2 = 0
  · have e := e2 hd
    rw [← e]
    exact h2 _ _ _
  · rw [← e1]
    have a1 := s1 (p bs c).1 (p bs c).2.1 (p bs c).2.2 hd
    have a2 := s2 (q bs c).1 (p bs c).2.1 (p bs c).2.2 hd
    exact ⟨a1.trans a2.symm, fun h0 => by rw [a1] at h0; exact absurd h0 hd⟩
theorem Sim.map (f : α → β) (h : Sim p q) : Sim (mapP f p) (mapP f q) := fun bs c => by
  obtain ⟨e1, e2⟩ := h bs c
  unfold mapP
  exact ⟨e1, fun h0 => by rw [e2 h0]⟩
end
/-- What is left is no longer than what was there. -/
def Less {α : Type} (p : Par α) : Prop := ∀ bs c, (p bs c).2.1.length ≤ bs.length
theorem Less.andThen {α β : Type} {p : Par α} {f : α → Par β} (h1 : Less p) (h2 : ∀ a, Less (f a)) : Less (thenP p f) := fun bs c => Nat.le_trans (h2 _ _ _) (h1 bs c)
theorem Less.map {α β : Type} {p : Par α} (f : α → β) (h : Less p) : Less (mapP f p) := h
end Go.Proofs.YtlpdgjneoahdeaaDoor.Sha

/-
  Package tx takes an input, and an output, from a Reader. Nothing that was there turns but the Reader. Conditions: the Reader stands as it should; the errors are there.
-/
namespace Go.Proofs.YtlpdgjneoahdeaaDoor.Sha
open Go Go.RowKit
theorem one_mem {v : Value} (h : v.oneCell' = true) : ∀ u ∈ [v], u.oneCell' = true := fun u hu => by rw [List.mem_singleton.1 hu]; exact h
end Go.Proofs.YtlpdgjneoahdeaaDoor.Sha

/-
  Loads and appends of structures where a region draws its order; rows that stay where others grow. No conditions beyond those that each states.
-/
namespace Go.Proofs.YtlpdgjneoahdeaaDoor.Sha
open Go Go.RowKit
section
variable {P : Program}
end
theorem own_one {w : World} {base n size : Nat} {e : TypeId} {v : Value} {xs : List Value} (h : w.ownsRow base e size v n xs) : v.oneCell' = true := by
  rcases h.2 with ⟨rfl, _⟩ | ⟨g, cap, cur, rfl, _⟩ <;> rfl
theorem cells_one {v : Value} (h : v.oneCell' = true) : v.cells = [v].toArray := by cases v <;> first | rfl | cases h
/-- All of a row's memory lies below. -/
def InsLow (B : Nat) (v : Value) (ks : List Value) : Prop := ∀ j, B ≤ j → v.ownBlock ≠ some j ∧ ∀ (i : Nat) kv, ks[i]? = some kv → Off kv (some j)
theorem InsOwn.low {base : Nat} {w : World} {v : Value} {l : List TIn} {ks : List Value} (h : InsOwn base w v l ks) : InsLow w.heap.size v ks := fun j hj => by
  refine ⟨fun e => ?_, fun i kv hk => ?_⟩
  · have := (h.2.1.lt j e).2
    omega
  · obtain ⟨x, hx⟩ : ∃ x, l[i]? = some x := ⟨_, List.getElem?_eq_getElem (by have := (List.getElem?_eq_some_iff.1 hk).1; have := h.1; omega)⟩
    exact (h.2.2.2 i x kv hx hk).1.fresh hj
end Go.Proofs.YtlpdgjneoahdeaaDoor.Sha

/-
  Parts of a slice of elements of any size; a literal in a region that draws its order. No conditions beyond those that each states.
-/
namespace Go.Proofs.YtlpdgjneoahdeaaDoor.Sha
open Go Go.RowKit
theorem run_cutS_l {P : Program} {w : World} (t e : TypeId) (s : Nat) (sp : Option Addr) (n cap l : Nat) (hu : P.underlying t = some (.slice e)) (hsz : (P.info? e).map (·.size) = some s) (h1 : l ≤ n) :
    (Instr.sliceAt t (.slice sp n cap) (some (.int .i64 l)) none none).run P w = .ok (sliced sp l n cap s) w := by
  obtain ⟨i, hi, hs⟩ := Option.map_eq_some_iff.1 hsz
  have hu' : P.underlying t = some (.slice (P.elem t)) := by rw [elem_of hu]; exact hu
  rw [run_sliceAt_slice _ _ _ _ _ _ hu', run_slice_l _ _ _ _ _ hu' _ _ (by omega) (by omega), elem_of hu]
  simp [sizeOf, typeInfo, hi, hs, sliced, go_sem]
section
variable {P : Program} {w : World} {ops : Array Oper} {rest : List Oper} {o : Oper} {a : Act} {Q : Exit → Act → World → Prop}
theorem yields_cutS_l {S : World → Prop} (hw : Region.wanted o (yielded ops a.tmps) = true) (t : TypeId) (x lo : Operand) (ho : o.op = .slice t x (some lo) none none) (e : TypeId) (s : Nat) (hu : P.underlying t = some (.slice e)) (hsz : (P.info? e).map (·.size) = some s)
    (sp : Option Addr) (n cap l : Nat) (v : Value) (hx : a.eval x = .slice sp n cap) (hl : a.eval lo = .int .i64 l) (h1 : l ≤ n) (hv : v = sliced sp l n cap s) : YieldsIf P ops S o v a :=
  .inl ⟨hw, fun w _ => by simp [execOp, ho, hx, hl, run_cutS_l (w := w) t e s sp n cap l hu hsz h1, Result.andThen, hv]⟩
end
end Go.Proofs.YtlpdgjneoahdeaaDoor.Sha

/-
  Worlds that only grow: blocks are laid behind, orders drawn; digests and places held against each other do no more. Condition: digests of 32 bytes.
-/
namespace Go.Proofs.YtlpdgjneoahdeaaDoor.Sha
open Go Go.RowKit
open Go.Sort (grow grow_empty grow_grow alloc_eq_grow heap_grow_old size_grow)
/-- w' is w with orders drawn and blocks laid behind. -/
def Lay (w w' : World) : Prop := ∃ q os, w' = grow (w.drewN q) os
theorem Lay.refl (w : World) : Lay w w := ⟨0, #[], by rw [grow_empty]; rfl⟩
theorem Lay.alloc {w w1 : World} (h : Lay w w1) (o : Obj) : Lay w (w1.alloc o) := by
  obtain ⟨q, os, rfl⟩ := h
  exact ⟨q, os ++ #[o], by rw [alloc_eq_grow, grow_grow]⟩
theorem Lay.drewN {w w1 : World} (h : Lay w w1) (n : Nat) : Lay w (w1.drewN n) := by
  obtain ⟨q, os, rfl⟩ := h
  exact ⟨q + n, os, by simp [World.drewN, grow, Nat.add_assoc]⟩
theorem Lay.below {w w' : World} (h : Lay w w') : Below w.heap.size w w' := by
  obtain ⟨q, os, rfl⟩ := h
  exact ⟨rfl, rfl, rfl, by simp [World.drewN], fun k hk => heap_grow_old (w.drewN q) os hk⟩
theorem Lay.trans {w w1 w2 : World} (h : Lay w w1) (k : Lay w1 w2) : Lay w w2 := by
  obtain ⟨q, os, rfl⟩ := h
  obtain ⟨q', os', rfl⟩ := k
  exact ⟨q + q', os ++ os', by simp [World.drewN, grow, Nat.add_assoc, Array.append_assoc]⟩
end Go.Proofs.YtlpdgjneoahdeaaDoor.Sha
