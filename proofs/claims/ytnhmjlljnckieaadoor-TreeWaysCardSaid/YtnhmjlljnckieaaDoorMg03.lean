/-
  Texts of this proof joined into one file: ShaSum, ShaReg, ArgsHash, ShaArgs, ErrTw, CmpPut, CmpTake, CmpRead, CmpRead2, CmpHash, Errs, ErrIs, RdrState, NumMath, Par, HdMath, HdIdM. What each holds, and under which conditions, its own first sentence tells.
-/
import Derived.ProofKit
import Derived.OpenShut
import Derived.ShutString
import Derived.ChangeOld
import Derived.Deep.DeepHandedRow
import Derived.Lib.LaidTab
import Derived.Stop.LaidErr
import Derived.Deep.RegionLaw
import Derived.LaidEql
import Derived.Deep.DeepFit
import Derived.Test.YtnhmjlljnckieaaDoorMg02
import Derived.Test.YtnhmjlljnckieaaDoorMg01
import Derived.Test.YtnhmjlljnckieaaDoorCards
import Derived.Test.YtnhmjlljnckieaaDoorTie
import Derived.Test.YtnhmjlljnckieaaDoorRows
/-
  digest's Writer.Sum answers the SHA-256 of all that was written, and turns nothing that was there. Conditions: the Writer stands as it should, the table is there, fewer than 2^59 bytes were written.
-/
namespace Go.Proofs.YtnhmjlljnckieaaDoor.Sha
open Go Go.RowKit
theorem write_some' (l bs : List UInt8) (bb off n1 cap B : Nat) (w : World) (h1 : n1 = bs.length) (hk : KTab w) (hB0 : B ≠ 3) (hbb : bb ≠ B) (hcap : n1 ≤ cap) (hlen : l.length + n1 ≤ 1152921504606846975)
    (hinv : WInv w B l) (hsrc : ∀ j, j < n1 → w.cell? ⟨bb, off + j, none⟩ = some (.int .u8 (bv (bs.getD j 0)))) :
    Calls Tryd.prog 46 #[.pointer (some ⟨B, 0, none⟩), .slice (some ⟨bb, off, none⟩) n1 cap] w fun e w' =>
      e = .returned (.tuple #[]) ∧ WInv w' B (l ++ bs) ∧ w.grownBy w' (some B) := by
  subst h1
  exact write_some l bs bb off cap B w hk hB0 hbb hcap hlen hinv hsrc
def zeroSt : St := ⟨0, 0, 0, 0, 0, 0, 0, 0⟩
/-- A new Writer's cells. -/
def zeroW : Array Value := (zeroSt.cells ++ ((List.replicate 64 0).map bV ++ [Value.int .i64 (0 : Nat)])).toArray
theorem zero_writer (W : World) : (zeroValue 104).run Tryd.prog W = .ok (.agg zeroW) W := by kernel_rfl
theorem zero_inv {w : World} {B : Nat} (h : w.heap[B]? = some (.cells zeroW 104 (0, 0))) : WInv w B [] :=
  ⟨zeroSt, List.replicate 64 0, ⟨by simp, h⟩, fun e => absurd rfl e, rfl⟩
theorem sum_setup (w : World) (z cs : Array Value) (T : TypeId) : Below w.heap.size w (((w.alloc (.cells z T)).alloc (.cells zeroW 104)).setRow (w.heap.size + 1) cs)
    ∧ (((w.alloc (.cells z T)).alloc (.cells zeroW 104)).setRow (w.heap.size + 1) cs).heap.size = w.heap.size + 2
    ∧ (((w.alloc (.cells z T)).alloc (.cells zeroW 104)).setRow (w.heap.size + 1) cs).heap[w.heap.size + 1]? = some (.cells cs 104 (0, 0))
    ∧ (((w.alloc (.cells z T)).alloc (.cells zeroW 104)).setRow (w.heap.size + 1) cs).heap[w.heap.size]? = some (.cells z T (0, 0)) := by
  refine ⟨below_setRow (((Below.refl _ _).alloc (Nat.le_refl _) _).alloc (by simp) _) (Nat.le_succ _) _, by simp, setRow_heap _ _ _ _ _ _ (heap_alloc2_new _ _ _), ?_⟩
  rw [setRow_other _ _ _ _ (by omega)]
  exact heap_alloc2_old _ _ _
/-- The padding's cells, as they stand. -/
def padV : List Value := bV 0x80 :: List.replicate 63 (bV 0)
theorem padV_get (n j : Nat) (h : j < padLen n) : padV[j]? = some (.int .u8 (bv ((pad n).getD j 0))) := by
  have hb := padLen_bd n
  cases j with
  | zero => rfl
  | succ j =>
    have e1 : padV[j + 1]? = (List.replicate 63 (bV 0))[j]? := rfl
    have e2 : (pad n).getD (j + 1) 0 = 0 := by
      show (0x80 :: List.replicate (padLen n - 1) (0 : UInt8)).getD (j + 1) 0 = 0
      simp [List.getD, List.getElem?_replicate]
      split <;> rfl
    rw [e1, e2, List.getElem?_replicate, if_pos (by omega)]
    rfl
theorem KTab.below {w w' : World} (h : KTab w) (hb : Below w.heap.size w w') : KTab w' := fun t ht => by
  rw [hb.cell (p := ⟨3, t, none⟩) (World.block_lt_of_cell? w _ (h t ht))]
  exact h t ht
theorem KTab.pos {w : World} (h : KTab w) : 3 < w.heap.size := World.block_lt_of_cell? w _ (h 0 (by omega))
theorem sum_setup2 {w w2 : World} (o : Obj) (f1 : Below w.heap.size w w2) (f2 : w2.heap.size = w.heap.size + 2) {x y : Obj} (f3 : w2.heap[w.heap.size + 1]? = some x) (f4 : w2.heap[w.heap.size]? = some y) :
    Below w.heap.size w (w2.alloc o) ∧ (w2.alloc o).heap.size = w.heap.size + 3 ∧ (w2.alloc o).heap[w.heap.size + 1]? = some x ∧ (w2.alloc o).heap[w.heap.size]? = some y ∧ (w2.alloc o).heap[w.heap.size + 2]? = some o := by
  refine ⟨f1.alloc (by omega) _, by simp [f2], ?_, ?_, ?_⟩
  · rw [Below.heap_alloc _ _ _ (by omega)]; exact f3
  · rw [Below.heap_alloc _ _ _ (by omega)]; exact f4
  · rw [← f2]; exact heap_alloc_new _ _
theorem WInv.below {w w' : World} {B : Nat} {l : List UInt8} (h : WInv w B l) (hb : Below w.heap.size w w') : WInv w' B l := by
  obtain ⟨s, p, hc, hs, hp⟩ := h
  exact ⟨s, p, hc.kept hb, hs, hp⟩
/-- A whole message's words, ready to be written down. -/
theorem WInv.final {w : World} {B : Nat} {l : List UInt8} (h : WInv w B (l ++ pad l.length ++ len8 l.length)) :
    w.rangeAt B 0 (blocks (padded l) ((padded l).length / 64)).cells := by
  obtain ⟨s, p, hc, hs, _⟩ := h
  have e := hs (by simp [len8])
  intro j v hj
  have hj8 : j < s.cells.length := by rw [St.cells_length]; exact (List.getElem?_eq_some_iff.1 hj).1
  rw [Nat.zero_add, cell_of_row _ _ _ _ _ _ hc.2, List.getElem?_toArray, List.getElem?_append_left hj8, e]
  exact hj
set_option maxHeartbeats 1000000 in
set_option maxRecDepth 100000 in
theorem sum_any (l : List UInt8) (B : Nat) (w : World) (hk : KTab w) (hlen : l.length ≤ 576460752303423487) (hinv : WInv w B l) :
    Calls Tryd.prog 47 #[.pointer (some ⟨B, 0, none⟩)] w fun e w' =>
      e = .returned (.agg ((sha l).map bV).toArray) ∧ Below w.heap.size w w' := by
  obtain ⟨s, p, hc, hs, hp⟩ := hinv
  obtain ⟨n, hn⟩ : ∃ n, n = l.length := ⟨_, rfl⟩
  rw [← hn] at hc hlen
  have hB : B < w.heap.size := (Array.getElem?_eq_some_iff.1 hc.2).1
  obtain ⟨cs, hcs⟩ : ∃ cs, cs = s.cells ++ (p.map bV ++ [Value.int .i64 n]) := ⟨_, rfl⟩
  have hrow := hc.2
  rw [← hcs] at hrow
  have hl : cs.toArray.size = 73 := by simp [hcs, St.cells_length, hc.1]
  have HONE : Hid (cs.toArray.all (·.oneCell') = true) := by
    show _ = _
    rw [Array.all_eq_true_iff_forall_mem]
    intro v hv
    simp only [List.mem_toArray, hcs, List.mem_append, St.cells_list, List.mem_singleton] at hv
    rcases hv with hv | hv | rfl
    · exact (Array.all_eq_true_iff_forall_mem.1 (wV_one s.list)) v (by simpa using hv)
    · exact bV_one' p v hv
    · rfl
  have HL := Lib.hid hl
  have HROW := Lib.hid hrow
  have HCS := Lib.hid hcs
  have c72 := hc.size
  have HC := Lib.hid hc
  have HS := Lib.hid hs
  have HP := Lib.hid hp
  have HK := Lib.hid hk
  have HN := Lib.hid hn
  clear hl hrow hcs hc hs hp hk hn
  have hzw := zero_writer
  go_enter Tryd.func47, Tryd.ntmps47
  go_upto_region 2 with ((with_reducible show wpList _ _ _ _ _ _); first | (refine wpList_load_row rfl 104 (.tmp 6) rfl B rfl 104 cs.toArray (0, 0) _ ((Below.heap_alloc _ _ B hB).trans HROW.out) Tryd.underlying104 rfl (by rw [HL.out]; kernel_rfl) ?_; go_frame) | (refine wpList_store_row rfl 104 (.tmp 3) (.tmp 7) rfl (w.heap.size + 1) cs.toArray rfl rfl 104 _ (heap_alloc2_new _ _ _) (by rw [HL.out]; kernel_rfl) (by rw [HL.out]; rfl) HONE.out ?_; go_frame))
  obtain ⟨f1, f2, f3, f4⟩ := sum_setup w (List.replicate 32 (bV 0)).toArray cs.toArray 30
  generalize hw2 : World.setRow _ _ _ = w2
  have e2 : (((w.alloc (.cells (List.replicate 32 (bV 0)).toArray 30)).alloc (.cells zeroW 104)).setRow (w.heap.size + 1) cs.toArray) = w2 := hw2
  rw [e2] at f1 f2 f3 f4
  clear hw2 e2 c72 hzw
  have F1 := Lib.hid f1
  have F3 := Lib.hid f3
  have F4 := Lib.hid f4
  clear f1 f3 f4
  go_upto_region 4 with (fail)
  obtain ⟨g1, g2, g3, g4, g5⟩ := sum_setup2 (.cells padV.toArray 102) F1.out f2 F3.out F4.out
  generalize hw3 : World.alloc _ _ = w3
  have e3 : w2.alloc (.cells padV.toArray 102) = w3 := hw3
  rw [e3] at g1 g2 g3 g4 g5
  clear hw3 e3 f2 F1 F3 F4
  have c72 : w3.cell? ⟨B, 72, none⟩ = some (.int .i64 n) := by rw [g1.cell (p := ⟨B, 72, none⟩) hB]; exact HC.out.size
  have hI : WInv w3 (w.heap.size + 1) l := by
    refine ⟨s, p, ?_, HS.out, HP.out⟩
    rw [← HN.out]
    exact ⟨HC.out.1, by rw [g3, HCS.out]⟩
  have hK : KTab w3 := HK.out.below g1
  have hS : ∀ j, j < padLen n → w3.cell? ⟨w.heap.size + 2, 0 + j, none⟩ = some (.int .u8 (bv ((pad n).getD j 0))) := fun j hj => by
    rw [cell_of_row _ _ _ _ _ _ g5, Nat.zero_add, List.getElem?_toArray]
    exact padV_get n j hj
  have hb := padLen_bd n
  have hb1 : ((padLen n : Nat) : Int) ≤ 64 := by omega
  have HB := Lib.hid hb
  have HI := Lib.hid hI
  have HK3 := Lib.hid hK
  have HS3 := Lib.hid hS
  have G1 := Lib.hid g1
  have G2 := Lib.hid g2
  have G4 := Lib.hid g4
  clear hI hK hS g1 g2 g3 g4 g5 hb
  go_wp2_with (go_at_call 54; refine (pad_any n _ (by omega)).mono ?_; rintro e w' ⟨rfl, rfl⟩)
  refine (write_some' l (pad n) (w.heap.size + 2) 0 (padLen n) 64 (w.heap.size + 1) w3 (pad_length n).symm HK3.out (by have := HK.out.pos; omega) (by omega) HB.out.2.1 (by have := HB.out; have := HN.out; omega) HI.out HS3.out).mono ?_
  rintro e w4 ⟨rfl, hI4, hG4⟩
  have c72' : w4.cell? ⟨B, 72, none⟩ = some (.int .i64 n) := hG4.cell c72 (fun e => by have := Option.some.inj e; simp at this; omega)
  have HI4 := Lib.hid hI4
  have HG4 := Lib.hid hG4
  clear hI4 hG4 c72 hb1 HI HS3
  go_wp2_with (go_at_call 55; refine (bits_any n _ (by omega)).mono ?_; rintro e w5 ⟨rfl, ho5, hb5⟩; have HO5 := Lib.hid ho5; have HB5 := Lib.hid hb5; clear ho5 hb5)
  have hS : ∀ j, j < 8 → w5.cell? ⟨w4.heap.size, 0 + j, none⟩ = some (.int .u8 (bv ((len8 n).getD j 0))) := fun j hj => by
    rw [← Addr.add_mid]
    refine HO5.out.cells (g := w4.heap.size) rfl j _ ?_
    rw [List.getElem?_map, List.getElem?_eq_getElem (show j < (len8 n).length from hj)]
    simp [bV, List.getD, List.getElem?_eq_getElem (show j < (len8 n).length from hj)]
  have hz4 : w.heap.size + 3 ≤ w4.heap.size := by have := HG4.out.size; have := G2.out; omega
  have B4 := Lib.hid (grownBy_below HG4.out G1.out (Nat.le_succ _) (by have := G2.out; omega))
  have B5 := Lib.hid (B4.out.trans (HB5.out.mono (by omega)))
  have HS5 := Lib.hid hS
  clear hS
  refine (write_some' (l ++ pad n) (len8 n) w4.heap.size 0 8 8 (w.heap.size + 1) w5 rfl (HK.out.below B5.out) (by have := HK.out.pos; omega) (by omega) (Nat.le_refl _)
    (by have := HB.out; have := HN.out; rw [List.length_append, pad_length]; omega) (HI4.out.below HB5.out) HS5.out).mono ?_
  rintro e w6 ⟨rfl, hI6, hG6⟩
  rw [HN.out] at hI6
  have HR6 := Lib.hid hI6.final
  have hz5 : w.heap.size + 3 ≤ w5.heap.size := by have := HB5.out.size; omega
  have B6 := Lib.hid (grownBy_below hG6 B5.out (Nat.le_succ _) (by omega))
  have HG6 := Lib.hid hG6
  clear hI6 hG6 c72'
  have hH6 : w6.heap[w.heap.size]? = some (.cells (List.replicate 32 (bV 0)).toArray 30 (0, 0)) := by
    rw [HG6.out.block _ (by omega) (fun e => by have := Option.some.inj e; omega), HB5.out.block _ (by omega), HG4.out.block _ (by have := G2.out; omega) (fun e => by have := Option.some.inj e; omega)]
    exact G4.out
  have HH6 := Lib.hid hH6
  have hz6 : w.heap.size < w6.heap.size := by have := HG6.out.size; omega
  clear hH6 hz4 hz5
  obtain ⟨sf, hsf⟩ : ∃ sf, sf = blocks (padded l) ((padded l).length / 64) := ⟨_, rfl⟩
  have HSF := Lib.hid hsf
  rw [← hsf] at HR6
  clear hsf
  go_wp2_with ((with_reducible show wpList _ _ _ _ _ _); refine wpList_load_mid rfl 101 (.tmp 22) rfl (w.heap.size + 1) 0 rfl sf.cells (.array 8 28) HR6.out Tryd.underlying101 rfl (by kernel_rfl) ?_; go_frame)
  refine (bytes_any sf _).mono ?_
  rintro e w7 ⟨rfl, hb7⟩
  have hH7 : w7.heap[w.heap.size]? = some (.cells (List.replicate 32 (bV 0)).toArray 30 (0, 0)) := by rw [hb7.block _ hz6]; exact HH6.out
  have HH7 := Lib.hid hH7
  have B7 := Lib.hid (B6.out.trans (hb7.mono (by omega)))
  have hl : (sf.bytes.map bV).toArray.size = 32 := by simp [bytes_length]
  have HL2 := Lib.hid hl
  clear hH7 hb7 hl
  go_wp2_with ((with_reducible show wpList _ _ _ _ _ _); refine wpList_store_row rfl 30 (.tmp 2) (.tmp 24) rfl w.heap.size (sf.bytes.map bV).toArray rfl rfl 30 _ HH7.out (by rw [HL2.out]; kernel_rfl) (by rw [HL2.out]; rfl) (bV_one _) ?_; go_frame)
  refine bodyPost_ret (results_cell_row rfl _ _ w.heap.size 30 (sf.bytes.map bV).toArray (0, 0) (.array 32 5) rfl (setRow_heap _ _ _ _ _ _ HH7.out) Tryd.underlying30 rfl (by rw [HL2.out]; kernel_rfl)) rfl ⟨?_, below_setRow B7.out (Nat.le_refl _) _⟩
  rw [HSF.out]
  rfl
end Go.Proofs.YtnhmjlljnckieaaDoor.Sha

/-
  A region that draws its order, whose operations only read and whose callees make memory but turn none that was there: one walk in the text's order serves every order. A slice cut from one that reads as bytes reads as those bytes' part. No conditions beyond those that each states.
-/
namespace Go.Proofs.YtnhmjlljnckieaaDoor.Sha
open Go Go.RowKit
theorem same_true (x y : List UInt8) (hxy : x = y) (hx : x.length = 32) (w : World) :
    Calls Tryd.prog 14 #[.agg (x.map bV).toArray, .agg (y.map bV).toArray] w fun e w' => e = .returned (.bool true) ∧ Below w.heap.size w w' := by
  subst hxy
  have := same_any x x hx hx w
  rw [decide_eq_true rfl] at this
  exact this
end Go.Proofs.YtnhmjlljnckieaaDoor.Sha

/-
  How a digest that came in by value reads. No conditions.
-/
namespace Go.Proofs.YtnhmjlljnckieaaDoor.Sha
open Go Go.ChangeShapes Go.WideShapes Go.ChangeAt Go.RowKit
/-- A digest's cells. -/
theorem hash_cells {H : Type} {enc : TypeId × Value → H} {W : World} {fuel : Nat} {cs : List Value} {x : DataW H × List MemPlace} (hf : DataW.trod enc Tryd.prog W 0 (fun _ => true) true fuel 30 cs = some x) :
    ∃ bs : List UInt8, bs.length = 32 ∧ cs = bs.map bV := by
  have c5 : Tryd.prog.cellsOf 5 = 1 := by kernel_rfl
  have c25 : Tryd.prog.cellsOf 30 = 32 := by kernel_rfl
  obtain ⟨xs, m, _, _, hlen, hxl, hel⟩ := DataW.trod_array Tryd.underlying30 hf
  rw [c25] at hlen
  have each : ∀ i (hi : i < cs.length), bV (UInt8.ofNat (intOf (cs[i])).toNat) = cs[i] := by
    intro i hi
    have h1 := hel i (by omega)
    rw [c5, Nat.mul_one, List.getElem?_eq_getElem (show i < xs.length by omega)] at h1
    obtain ⟨n, hn, _, hw⟩ := DataW.trod_int Tryd.underlying5 h1
    have h2 : cs[i]? = some (.int .u8 n) := by
      have := congrArg (·[0]?) hn
      simpa [List.getElem?_take, List.getElem?_drop] using this
    rw [List.getElem?_eq_getElem hi] at h2
    rw [Option.some.inj h2]
    show Value.int .u8 (bv (UInt8.ofNat n.toNat)) = _
    rw [byte_of hw]
  refine ⟨cs.map fun v => UInt8.ofNat (intOf v).toNat, by rw [List.length_map, hlen], ?_⟩
  rw [List.map_map]
  apply List.ext_getElem (by simp)
  intro i h1 h2
  simp only [List.getElem_map, Function.comp]
  exact (each i h1).symm
set_option maxRecDepth 100000 in
/-- A digest by value. -/
theorem array_in {H : Type} {enc : TypeId × Value → H} {W : World} {base : Nat} {v : Value} {d : DataW H} {p : List MemPlace} (hok : Value.okWide Tryd.prog W .any base 30 v) (h : DataW.Trod enc Tryd.prog W 0 (fun _ => true) true 30 v d p) :
    ∃ bs : List UInt8, bs.length = 32 ∧ v = .agg (bs.map bV).toArray := by
  simp only [Value.okWide, Tryd.underlying30] at hok
  obtain ⟨cs, rfl, _, _⟩ := hok
  obtain ⟨fuel, hf⟩ := h
  have hcells : (Value.agg cs).cells.toList = cs.toList := rfl
  rw [hcells] at hf
  obtain ⟨bs, hb, hcs⟩ := hash_cells hf
  exact ⟨bs, hb, by rw [← hcs, Array.toArray_toList]⟩
end Go.Proofs.YtnhmjlljnckieaaDoor.Sha

/-
  How the statements' arguments and the listed table read: a slice of bytes or numbers that came in, the table of the rounds' words, a start that fits. No conditions.
-/
namespace Go.Proofs.YtnhmjlljnckieaaDoor.Sha
open Go Go.ChangeShapes Go.WideShapes Go.ChangeAt Go.RowKit
theorem gTab : Tryd.prog.globalNamed "sargasso/digest.roundWords" = some 3 := by kernel_rfl
theorem gTabType : (Tryd.prog.globals[3]?).map (·.type) = some 117 := by kernel_rfl
theorem cellsTab : Tryd.prog.cellsOf 117 = 64 := by kernel_rfl
theorem cellsU32 : Tryd.prog.cellsOf 28 = 1 := by kernel_rfl
def kInts : List Int := kList.map wv
theorem kInts_get (t : Nat) (h : t < 64) : kInts.getD t 0 = wv (kW t) := by
  unfold kInts kW
  simp only [List.getD, List.getElem?_map]
  rw [List.getElem?_eq_getElem (show t < kList.length from h)]
  rfl
theorem laid_list {H : Type} : (Rows.laid_sargasso_digest_roundWords : DataW H) = Lib.tabData .u32 kInts := rfl
/-- WHAT THE ROW's LIST GIVES: the table's cells. -/
theorem table {W : World} (h : laidMetH Tryd.prog [("sargasso/digest.roundWords", Rows.laid_sargasso_digest_roundWords)] W) : KTab W := by
  rw [laid_list] at h
  have hT := Lib.tabIs_of_head (rest := []) gTab gTabType Tryd.underlying117 Tryd.underlying28 cellsU32 cellsTab h
  intro t ht
  rw [hT.cell gTab t (show t < 64 from ht), kInts_get t ht]
/-- A WORLD FOR THE WITNESS: the settled one, the table holding what its initialiser lays. -/
noncomputable def laidWorld (os : Os) : World :=
  { World.holding Tryd.prog os ⟨#[], #[], []⟩ with heap := (World.holding Tryd.prog os ⟨#[], #[], []⟩).heap.modify 3 fun
      | .cells _ t frozen => .cells (kList.map wV).toArray t frozen
      | o => o }
end Go.Proofs.YtnhmjlljnckieaaDoor.Sha

/-
  What a row that lists 3 errors of package api gives: each is there; a start that fits. No conditions.
-/
namespace Go.Proofs.YtnhmjlljnckieaaDoor.Sha
open Go Go.ChangeShapes Go.WideShapes Go.ChangeAt Go.RowKit
/-- The listed errors: name, place, text. -/
def errTwList : List (String × Nat × List UInt8) := [("sargasso/api.ErrKnown", 0, [107, 110, 111, 119, 110, 32, 97, 108, 114, 101, 97, 100, 121]), ("sargasso/api.ErrParent", 1, [110, 111, 32, 115, 117, 99, 104, 32, 112, 97, 114, 101, 110, 116]), ("sargasso/api.ErrFull", 2, [116, 104, 101, 114, 101, 32, 105, 115, 32, 110, 111, 32, 114, 111, 111, 109])]
def errTwRow (x : String × Nat × List UInt8) : String × DataW Unit := (x.1, .iface "*errors.errorString" (.ptr (.agg [.lit (.string x.2.2)])))
theorem errTw_laid : Rows.treeWaysRow.laid = errTwList.map errTwRow ++ [("sargasso/digest.roundWords", Rows.laid_sargasso_digest_roundWords)] := rfl
theorem errTw_globals : (errTwList.all fun x => decide (Tryd.prog.globalNamed x.1 = some x.2.1) && decide ((Tryd.prog.globals[x.2.1]?).map (·.type) = some 34)) = true := by kernel_rfl
theorem errTw_star : "*" ++ "errors.errorString" = "*errors.errorString" := by decide
theorem errTw_ptr (u : TypeId) (h : Tryd.prog.typeName? 3 u = some "*errors.errorString") : u = 122 :=
  typeName_ptr_named (nm := "errors.errorString") (by rw [errTw_star]; kernel_rfl) (by kernel_rfl) (by decide) u (by rw [errTw_star]; exact h)
theorem errTw_cells : Tryd.prog.cellsOf 139 = 1 := by kernel_rfl
theorem errTw_cellsStr : Tryd.prog.cellsOf 9 = 1 := by kernel_rfl
def errTwIs (W : World) (x : String × Nat × List UInt8) (a : Addr) : Prop :=
  W.cell? ⟨x.2.1, 0, none⟩ = some (.iface 122 (.pointer (some a))) ∧ (∃ s, W.cell? a = some (.string s) ∧ s.data.toList = x.2.2) ∧ ∃ c t, W.heap[a.block]? = some (.cells c t (0, 0))
set_option maxRecDepth 100000 in
theorem errTw_head {W : World} {x : String × Nat × List UInt8} {r : List (String × DataW Unit)} (hg : Tryd.prog.globalNamed x.1 = some x.2.1) (ht : (Tryd.prog.globals[x.2.1]?).map (·.type) = some 34) (h : laidMet Tryd.prog (errTwRow x :: r) W) : ∃ a, errTwIs W x a := by
  obtain ⟨a, s, h1, h2, h3, _⟩ := laid_sentinel h hg ht Tryd.underlying34 errTw_ptr Tryd.underlying122 Tryd.underlying139 rfl rfl Tryd.underlying9 errTw_cells errTw_cellsStr
  refine ⟨a, by simpa using World.var?_cell hg h1 0, ⟨s, h2, h3⟩, ?_⟩
  obtain ⟨ps, ⟨g0, t0, cs0, f0, p0, q0, hg0, ht0, hv0, hd0, _, e0⟩, _, hrows⟩ := h
  obtain rfl := Option.some.inj (hg.symm.trans hg0)
  obtain rfl := Option.some.inj (ht.symm.trans ht0)
  subst e0
  obtain ⟨l0⟩ := cs0
  have ok0 : ∀ u v, l0 = [.iface u v] → Value.okWide Tryd.prog W .any 0 u v := fun u v e => by
    subst e
    exact (hrows x.2.1 0 (by simp [MemPlace.row])).2 u v (by simpa using World.var?_cell hg hv0 0)
  obtain ⟨a0, s0, rfl, hc0, hs0, hz0, rfl⟩ := errorString_of_trod Tryd.underlying34 errTw_ptr Tryd.underlying122 Tryd.underlying139 rfl rfl Tryd.underlying9 errTw_cells errTw_cellsStr hd0 ok0
  have ea : a0 = a := by
    have := h1.symm.trans hv0
    simp at this
    exact this.symm
  rw [← ea]
  exact (hrows a0.block a0.off (by simp [MemPlace.row])).1
theorem errTw_all {W : World} (rest : List (String × DataW Unit)) : ∀ l : List (String × Nat × List UInt8), (∀ x ∈ l, Tryd.prog.globalNamed x.1 = some x.2.1 ∧ (Tryd.prog.globals[x.2.1]?).map (·.type) = some 34) → laidMet Tryd.prog (l.map errTwRow ++ rest) W → (∃ E : Nat → Addr, ∀ i x, l[i]? = some x → errTwIs W x (E i)) ∧ laidMet Tryd.prog rest W
  | [], _, h => ⟨⟨fun _ => ⟨0, 0, none⟩, fun i x h => by simp at h⟩, h⟩
  | x :: l, hg, h => by
    obtain ⟨⟨E, hE⟩, hrest⟩ := errTw_all rest l (fun y hy => hg y (List.mem_cons_of_mem _ hy)) (laidMet.tail h)
    obtain ⟨a, ha⟩ := errTw_head (hg x List.mem_cons_self).1 (hg x List.mem_cons_self).2 h
    refine ⟨⟨fun i => match i with | 0 => a | k + 1 => E k, fun i y hy => ?_⟩, hrest⟩
    cases i with
    | zero => simp at hy; subst hy; exact ha
    | succ k => exact hE k y (by simpa using hy)
theorem errTw_each {W : World} (h : laidMetH Tryd.prog Rows.treeWaysRow.laid W) : (∃ E : Nat → Addr, W.cell? ⟨0, 0, none⟩ = some (.iface 122 (.pointer (some (E 8)))) ∧ W.cell? ⟨1, 0, none⟩ = some (.iface 122 (.pointer (some (E 9)))) ∧ W.cell? ⟨2, 0, none⟩ = some (.iface 122 (.pointer (some (E 20))))) ∧ KTab W := by
  have h' : laidMet Tryd.prog (errTwList.map errTwRow ++ [("sargasso/digest.roundWords", Rows.laid_sargasso_digest_roundWords)]) W := h
  obtain ⟨⟨E, hE⟩, hrest⟩ := errTw_all _ errTwList (fun x hx => by
    have := List.all_eq_true.1 errTw_globals x hx
    simp only [Bool.and_eq_true, decide_eq_true_eq] at this
    exact this) h'
  exact ⟨⟨fun i => match i with | 8 => E 0 | 9 => E 1 | 20 => E 2 | _ => E 0, (hE 0 _ rfl).1, (hE 1 _ rfl).1, (hE 2 _ rfl).1⟩, table hrest⟩
/-- A WORLD FOR THE WITNESS: the settled one, each listed error as its initialiser lays it. -/
noncomputable def errTwLow : Nat := (World.holding Tryd.prog default ⟨#[], #[], []⟩).heap.size
noncomputable def errTwWorld (os : Os) : World :=
  let w0 := World.holding Tryd.prog os ⟨(errTwList.map fun x => Obj.cells #[.string ⟨x.2.2.toArray⟩] 139).toArray, #[], []⟩
  { w0 with heap := (errTwList.zipIdx).foldl (fun h x => h.modify x.1.2.1 fun
      | .cells _ t frozen => .cells #[.iface 122 (.pointer (some ⟨errTwLow + x.2, 0, none⟩))] t frozen
      | o => o) (w0.heap.modify 3 fun
      | .cells _ t frozen => .cells (kList.map wV).toArray t frozen
      | o => o) }
end Go.Proofs.YtnhmjlljnckieaaDoor.Sha

/-
  compact.Len, withRoom, lowestFirst, Put, Four and Eight answer what the chapter says, in new memory; nothing that was there turns. Conditions: fewer than 2^46 bytes, which lie where the slice says; numbers of 64 bits.
-/
namespace Go.Proofs.YtnhmjlljnckieaaDoor.Sha
open Go Go.RowKit
theorem below_made {w w' : World} (h : w.grownBy w' none) : Below w.heap.size w w' := (Below.refl _ _).grown h (Nat.le_refl _) (fun k hk => by cases hk)
/-- New memory: k bytes of room c, which read as bs. -/
def NewB (w w' : World) (k c : Nat) (bs : List UInt8) : Prop :=
  w'.ownsRow w.heap.size 5 1 (.slice (some ⟨w.heap.size, 0, none⟩) k c) k (bs.map bV) ∧ Below w.heap.size w w'
set_option maxRecDepth 100000 in
theorem room_any (bs : List UInt8) (sp : Option Addr) (n cap m : Nat) (km : Int) (hkm : km = (m : Int)) (w : World) (hs : SrcB w (.slice sp n cap) bs) (hn : n ≤ 70368744177664) (hm : m ≤ 9) :
    Calls Tryd.prog 49 #[.slice sp n cap, .int .i64 km] w fun e w' => e = .returned (.slice (some ⟨w.heap.size, 0, none⟩) n (n + m)) ∧ NewB w w' n (n + m) bs := by
  subst hkm
  obtain ⟨i0, hi, hz0, hz1, hz2⟩ := info_parts info_u8
  have hl := hs.le.1
  have HL := Lib.hid hl
  have HS := Lib.hid hs
  clear hl hs
  go_enter Tryd.func49, Tryd.ntmps49
  go_wp2_with (first | (at_make; refine wpList_make_own _ rfl _ _ 70 rfl w.heap.size 5 i0 (.int .u8 0) 1 Tryd.underlying70 hi hz0 hz1 _ _ _ (n + m) rfl rfl (by omega) (by rw [hz2]; omega) (by unfold maxLen; omega) (Nat.le_refl _) ?_; intro w2 hown hgrow; have HO := Lib.hid hown; have HB := Lib.hid (below_made hgrow); clear hown hgrow; go_frame) | (at_builtin; refine wpList_append_src _ rfl _ _ 70 rfl w.heap.size 5 i0 Tryd.underlying70 hi hz1 w.heap.size 0 (n + m) [] rfl HO.out (.slice sp n cap) bs rfl (HS.out.below HB.out) (by have := HL.out; omega) ?_; intro w3 HO3 HG3; go_frame))
  go_ret
  have e : 0 + bs.length = n := by rw [HL.out]; omega
  refine ⟨by rw [e]; rfl, ?_, (HB.out).grown HG3.out HB.out.size (fun k hk => by cases hk; exact Nat.le_refl _)⟩
  have h := HO3.out
  rw [e] at h
  exact h
def LfInv (n width k0 g cap : Nat) (xs : List Value) (w : World) (vb vn vi : Value) (wr : World) : Prop :=
  ∃ k : Nat, k ≤ width ∧ vi = .int .i64 k ∧ vn = .int .u64 ((n / 256 ^ k : Nat) : Int) ∧ vb = .slice (some ⟨g, 0, none⟩) (k0 + k) cap ∧ wr.ownsRow g 5 1 vb (k0 + k) (xs ++ (leB n k).map bV) ∧ Below g w wr
set_option maxHeartbeats 400000 in
set_option maxRecDepth 100000 in
theorem lowest_any (n width g k0 cap : Nat) (kw : Int) (hkw : kw = (width : Int)) (xs : List Value) (w : World) (hw : width ≤ 8) (hcap : k0 + width ≤ cap) (hc2 : cap ≤ 70368744177680) (hg : g < w.heap.size)
    (ho : w.ownsRow g 5 1 (.slice (some ⟨g, 0, none⟩) k0 cap) k0 xs) :
    Calls Tryd.prog 48 #[.slice (some ⟨g, 0, none⟩) k0 cap, .int .u64 n, .int .i64 kw] w fun e w' =>
      e = .returned (.slice (some ⟨g, 0, none⟩) (k0 + width) cap) ∧ w'.ownsRow g 5 1 (.slice (some ⟨g, 0, none⟩) (k0 + width) cap) (k0 + width) (xs ++ (leB n width).map bV) ∧ Below g w w' := by
  subst hkw
  obtain ⟨i0, hi, hz0, hz1, hz2⟩ := info_parts info_u8
  have HO := Lib.hid ho
  clear ho
  go_enter Tryd.func48, Tryd.ntmps48
  go_wp2_with fail
  go_loopw [0, 1, 8] (fun vb vn vi wr => LfInv n width k0 g cap xs w vb vn vi wr) (fun _ _ i _ => width - (intOf i).toNat)
  case atStart => exact ⟨0, by omega, rfl, by simp, rfl, by simpa [leB] using HO.out, Below.refl _ _⟩
  case round =>
    obtain ⟨k, hk, rfl, rfl, rfl, hown, hb⟩ := hrel
    have HO := Lib.hid hown
    have HB := Lib.hid hb
    clear hown hb
    by_cases hlt : k < width
    · obtain ⟨q, hq⟩ : ∃ q, q = n / 256 ^ k := ⟨_, rfl⟩
      have hq2 : n / 256 ^ (k + 1) = q / 256 := by rw [hq, pow_next, Nat.div_div_eq_div_mul]
      have hby : (q : Int) % 256 = bv (UInt8.ofNat q) := by rw [← bv_of, IntKind.wrap_u8']
      obtain ⟨c, hc⟩ : ∃ c, c = UInt8.ofNat q := ⟨_, rfl⟩
      have HT : Hid ((leB n (k + 1)).map bV = (leB n k).map bV ++ [.int .u8 (bv c)]) := by
        show _ = _
        rw [hc, hq, leB, List.map_append]
        rfl
      rw [← hq]
      rw [← hc] at hby
      have HQ2 := Lib.hid hq2
      clear hq hq2 hc
      go_wp2_with (at_builtin; refine wpList_append_fits _ rfl _ _ 70 rfl g 5 i0 1 Tryd.underlying70 hi hz1 g (k0 + k) cap _ rfl (HO.out.alloc _) ⟨wr.heap.size, 0, none⟩ 1 1 [.int .u8 (bv c)] rfl rfl (cell_one_new _ _ _) (one_u8 _) (by omega) ?_; intro w3 hown2 hgrow; have HO3 := Lib.hid hown2; have HG3 := Lib.hid hgrow; clear hown2 hgrow; go_frame)
      go_roundw
      case rel =>
        refine ⟨k + 1, by omega, by go_num, ?_, rfl, ?_, ?_⟩
        · rw [HQ2.out]; rfl
        · rw [HT.out, ← List.append_assoc]
          exact HO3.out
        · have h1 : g ≤ wr.heap.size := by have := HB.out.size; omega
          exact (HB.out.alloc h1 _).grown HG3.out (by simp; omega) (fun j hj => by cases hj; exact Nat.le_refl _)
      case measure => simp [intOf]; omega
    · have hkn : k = width := by omega
      subst hkn
      clear hlt
      go_wp2_with fail
      go_ret
      exact ⟨rfl, HO.out, HB.out⟩
theorem NewB.lt {w w1 : World} {n c : Nat} {bs : List UInt8} (h : NewB w w1 n c bs) : w.heap.size < w1.heap.size := by
  rcases h.1.2 with ⟨h', _⟩ | ⟨g, cap, cur, h', _, hg, _⟩
  · simp at h'
  · simp at h'
    rw [← h'.1] at hg
    exact (Array.getElem?_eq_some_iff.1 hg).1
/-- One byte more. -/
theorem NewB.push {w w1 w3 : World} {n c : Nat} {bs : List UInt8} (x : UInt8) {o : Obj} (h : NewB w w1 n c bs) (ho : w3.ownsRow w.heap.size 5 1 (.slice (some ⟨w.heap.size, 0, none⟩) (n + 1) c) (n + 1) (bs.map bV ++ [.int .u8 (bv x)]))
    (hg : (w1.alloc o).grownBy w3 (some w.heap.size)) : NewB w w3 (n + 1) c (bs ++ [x]) := by
  refine ⟨by rw [List.map_append]; exact ho, (h.2.alloc h.2.size o).grown hg ?_ (fun j hj => by cases hj; exact Nat.le_refl _)⟩
  have := h.lt
  simp
  omega
theorem NewB.low {w w1 w2 : World} {n k c : Nat} {bs cs : List UInt8} (h : NewB w w1 n c bs) (hb : Below w.heap.size w1 w2) (ho : w2.ownsRow w.heap.size 5 1 (.slice (some ⟨w.heap.size, 0, none⟩) k c) k (bs.map bV ++ cs.map bV)) : NewB w w2 k c (bs ++ cs) :=
  ⟨by rw [List.map_append]; exact ho, h.2.trans hb⟩
set_option maxRecDepth 100000 in
theorem four_any (bs : List UInt8) (sp : Option Addr) (n cap x : Nat) (w : World) (hs : SrcB w (.slice sp n cap) bs) (hn : n ≤ 70368744177664) (hx : x ≤ 4294967295) :
    Calls Tryd.prog 42 #[.slice sp n cap, .int .u32 x] w fun e w' => e = .returned (.slice (some ⟨w.heap.size, 0, none⟩) (n + 4) (n + 4)) ∧ NewB w w' (n + 4) (n + 4) (bs ++ leB x 4) := by
  have HS := Lib.hid hs
  clear hs
  go_enter Tryd.func42, Tryd.ntmps42
  go_wp2_with (first | (go_at_call 49; refine (room_any bs sp n cap 4 4 rfl _ HS.out hn (by omega)).mono ?_; rintro e w1 ⟨rfl, hn1⟩; have HN1 := Lib.hid hn1; clear hn1) | (go_at_call 48; refine (lowest_any x 4 w.heap.size n (n + 4) 4 rfl (bs.map bV) _ (by omega) (by omega) (by omega) HN1.out.lt HN1.out.1).mono ?_; rintro e w2 ⟨rfl, ho, hb⟩; have HN2 := Lib.hid (HN1.out.low hb ho); clear ho hb))
  go_ret
  exact ⟨rfl, HN2.out⟩
end Go.Proofs.YtnhmjlljnckieaaDoor.Sha

/-
  A Reader's inner call takes so many bytes, or tells that there are too few, or that an error was met; Left and Err tell what is left and the first error; Read makes a Reader. Conditions: the Reader stands as it should; the three errors are there.
-/
namespace Go.Proofs.YtnhmjlljnckieaaDoor.Sha
open Go Go.RowKit
/-- Where an own row lies. -/
theorem own_at {w : World} {base n : Nat} {v : Value} {xs : List Value} {e : TypeId} (h : w.ownsRow base e 1 v n xs) : ∃ m, AtB v m ∧ m ≠ w.heap.size ∧ (0 < n → base ≤ m) := by
  rcases h.2 with ⟨h', h0⟩ | ⟨g, cap', cur, h', hg, hc, _⟩
  · exact ⟨w.heap.size + 1, (fun sp k cap hv hk => by rw [hv] at h'; cases h'), by omega, fun h1 => by omega⟩
  · refine ⟨g, (fun sp k cap hv hk => ?_), ?_, fun _ => hg⟩
    · rw [hv] at h'; cases h'; rfl
    · have := (Array.getElem?_eq_some_iff.1 hc).1
      omega
theorem cut_shape {v : Value} {sp : Option Addr} {l r cap : Nat} (h : Hid (v = sliced sp l r cap 1)) : ∃ x, v = .slice x (r - l) (cap - l) := ⟨_, h.out⟩
end Go.Proofs.YtnhmjlljnckieaaDoor.Sha

/-
  A Reader's Num, Four, Eight, Bytes and Hash answer what the chapter says, and leave what it says. Conditions: the Reader stands as it should; the three errors are there.
-/
namespace Go.Proofs.YtnhmjlljnckieaaDoor.Sha
open Go Go.RowKit
theorem takeL_le (k : Nat) (bs : List UInt8) (c : Nat) : (takeL k bs c).1.length ≤ k := by
  unfold takeL
  split
  · simp
  · split
    · simp
    · simp [List.length_take]; omega
/-- What Num answers, leaves and meets. -/
def numL (most : Nat) (bs : List UInt8) (c : Nat) : Nat × List UInt8 × Nat :=
  let t := takeL 1 bs c
  let k := widN (leN t.1)
  let u := if k = 0 then t else takeL k t.2.1 t.2.2
  if u.2.2 ≠ 0 then (0, u.2.1, u.2.2) else if lenN (leN u.1) ≠ 1 + k then (0, u.2.1, 2) else if most < leN u.1 then (0, u.2.1, 4) else (leN u.1, u.2.1, 0)
theorem widN_le (n : Nat) : widN n ≤ 8 := by unfold widN; split <;> (try split) <;> (try split) <;> omega
end Go.Proofs.YtnhmjlljnckieaaDoor.Sha

/-
  A Reader's Four, Eight and Bytes answer what the chapter says, and leave what it says; Hash behind an error answers no digest. Conditions: the Reader stands as it should; the three errors are there.
-/
namespace Go.Proofs.YtnhmjlljnckieaaDoor.Sha
open Go Go.RowKit
theorem grownBy_below' {w w1 w2 : World} {row : Option Nat} (h : w.grownBy w1 row) (hb : Below w1.heap.size w1 w2) : w.grownBy w2 row := grownBy_trans h (grownBy_of_below hb row)
end Go.Proofs.YtnhmjlljnckieaaDoor.Sha

/-
  A Reader's Hash answers the next 32 bytes, or no digest, and leaves what the chapter says. Conditions: the Reader stands as it should; the three errors are there.
-/
namespace Go.Proofs.YtnhmjlljnckieaaDoor.Sha
open Go Go.RowKit
/-- Bytes filled up to a digest's 32. -/
def padH (x : List UInt8) : List UInt8 := x ++ List.replicate (32 - x.length) 0
theorem padH_length {x : List UInt8} (h : x.length ≤ 32) : (padH x).length = 32 := by simp [padH]; omega
theorem splice_zero (x : List UInt8) (_ : x.length ≤ 32) : splice (List.replicate 32 (bV 0)) 0 (x.map bV) = (padH x).map bV := by
  have e : List.drop x.length (List.replicate 32 (bV 0)) = List.replicate (32 - x.length) (bV 0) := List.drop_replicate ..
  unfold splice padH
  rw [List.length_map, Nat.zero_add, e, List.take_zero, List.nil_append, List.map_append, List.map_replicate]
theorem hash_end {w w1 w2 : World} {r : Nat} {o : Obj} (_ : r < w.heap.size) (g1 : (w.alloc o).drew.grownBy w1 (some r)) (h : Below w.heap.size w1 w2) : w.grownBy w2 (some r) := by
  refine ⟨h.os.trans g1.os, h.tape.trans g1.tape, h.output.trans g1.output, ?_, fun k hk hne => ?_⟩
  · have h1 := g1.size
    have h2 := h.size
    have h3 : (w.alloc o).drew.heap.size = w.heap.size + 1 := by simp [World.drew]
    omega
  · rw [h.block k hk, g1.block k (by simp [World.drew]; omega) hne]
    exact ((Below.refl w.heap.size w).alloc (Nat.le_refl _) o).drew.block k hk
theorem grown_then {w w2 w3 : World} {r : Nat} (h : w.grownBy w2 (some r)) (hb : Below w.heap.size w2 w3) : w.grownBy w3 (some r) :=
  ⟨hb.os.trans h.os, hb.tape.trans h.tape, hb.output.trans h.output, Nat.le_trans h.size hb.size, fun k hk hne => by rw [hb.block k hk]; exact h.block k hk hne⟩
theorem hash_row {w w1 : World} {r : Nat} {o : Obj} (hr : r < w.heap.size) (g1 : (w.alloc o).drew.grownBy w1 (some r)) : w1.heap[w.heap.size]? = some o := by
  rw [g1.block w.heap.size (by simp [World.drew]) (fun e => by have := Option.some.inj e; omega)]
  exact heap_alloc_new _ _
theorem src_cells {w : World} {sp : Option Addr} {n cap : Nat} {bs : List UInt8} (h : SrcB w (.slice sp n cap) bs) (g off : Nat) (h0 : 0 < (bs.map bV).length) : (some ⟨g, off, none⟩ : Option Addr) = some ⟨g, off, none⟩ ∧ ∃ ad, sp = some ad ∧ ∀ j v, (bs.map bV)[j]? = some v → w.cell? (ad.add j) = some v := by
  refine ⟨rfl, ?_⟩
  rcases h with ⟨sp', cap', hv, rfl⟩ | ⟨h1, bb, o, cap', hv, _, hc⟩
  · simp at h0
  · cases hv
    refine ⟨_, rfl, fun j v hj => ?_⟩
    rw [List.getElem?_map] at hj
    obtain ⟨b, hb, rfl⟩ := Option.map_eq_some_iff.1 hj
    have hlt := (List.getElem?_eq_some_iff.1 hb).1
    rw [Addr.add_mid, hc j hlt]
    simp [bV, List.getD, hb]
theorem copy_fact {w1 : World} {g n cap : Nat} {sp : Option Addr} {x : List UInt8} {T : TypeId} (hs : SrcB w1 (.slice sp n cap) x) (hn : n = x.length) (hx : x.length ≤ 32) (hg : w1.heap[g]? = some (.cells (List.replicate 32 (bV 0)).toArray T (0, 0))) :
    ∃ w2, (∀ ty, (Builtin.copy_ #[70, 70] ty #[.slice (some ⟨g, 0, none⟩) 32 32, .slice sp n cap]).run Tryd.prog w1 = .ok (goInt n) w2) ∧ w2.heap[g]? = some (.cells ((padH x).map bV).toArray T (0, 0)) ∧ Below g w1 w2 := by
  have hsz : (Tryd.prog.info? 5).map (·.size) = some 1 := by kernel_rfl
  have hmin : Nat.min n 32 = n := Nat.min_eq_left (by omega)
  by_cases h0 : n = 0
  · have hx0 : x = [] := List.eq_nil_of_length_eq_zero (by omega)
    refine ⟨w1, fun ty => ?_, ?_, Below.refl _ _⟩
    · rw [h0]
      exact run_copy_none w1 70 70 ty 5 (some ⟨g, 0, none⟩) sp 32 32 0 cap Tryd.underlying70 hsz rfl
    · rw [hx0, hg]
      simp [padH]
  · obtain ⟨-, ad, rfl, hc⟩ := src_cells hs g 0 (by simp; omega)
    refine ⟨_, fun ty => ?_, setRow_heap w1 g _ _ _ _ hg, below_setRow (Below.refl _ _) (Nat.le_refl _) _⟩
    have h := run_copy_row (P := Tryd.prog) w1 70 70 ty 5 g 0 32 32 ad n cap _ T (x.map bV) Tryd.underlying70 hsz hg (by rw [List.length_map, hmin, hn]) hc (by simp; omega) (bV_one' _)
    have e := splice_zero x hx
    unfold splice at e
    rw [List.length_map] at e h
    rw [← hn] at h e
    rw [← List.append_assoc] at e
    simp only [] at h
    rw [e] at h
    exact h
end Go.Proofs.YtnhmjlljnckieaaDoor.Sha

/-
  The statements' own sight of errors: package api's errors are told apart; an error as plain data; whether an error is the one of a number. Conditions: the errors are there, each its own.
-/
namespace Go.Proofs.YtnhmjlljnckieaaDoor.Sha
open Go Go.RowKit
theorem info_err : (Tryd.prog.info? 122).map (·.comparable) = some true := by kernel_rfl
theorem eql_same (a : Addr) (W : World) : (binOp .eql 34 (.iface 122 (.pointer (some a))) (.iface 122 (.pointer (some a)))).run Tryd.prog W = .ok (.bool true) W := by
  obtain ⟨i, hi, hc⟩ := Option.map_eq_some_iff.1 info_err
  obtain ⟨j, hj, hs⟩ := Option.map_eq_some_iff.1 (show (Tryd.prog.info? 139).map (·.size) = some 1 by kernel_rfl)
  exact run_eql_iface_ptr_same W a Tryd.underlying34 Tryd.underlying122 hi hc hj
theorem eql_other {a b : Addr} {W : World} (hne : a ≠ b) (ha : ∃ c t, W.heap[a.block]? = some (.cells c t (0, 0))) (hb : ∃ c t, W.heap[b.block]? = some (.cells c t (0, 0))) :
    (binOp .eql 34 (.iface 122 (.pointer (some a))) (.iface 122 (.pointer (some b)))).run Tryd.prog W = .ok (.bool false) W := by
  obtain ⟨i, hi, hc⟩ := Option.map_eq_some_iff.1 info_err
  obtain ⟨j, hj, hs⟩ := Option.map_eq_some_iff.1 (show (Tryd.prog.info? 139).map (·.size) = some 1 by kernel_rfl)
  obtain ⟨ca, ta, ha⟩ := ha
  obtain ⟨cb, tb, hb⟩ := hb
  exact run_eql_iface_ptr_other W Tryd.underlying34 Tryd.underlying122 hi hc hj (by omega) hne ha hb
/-- The list of the errors. -/
def errL (E : Nat → Addr) : List Value := [.iface 122 (.pointer (some (E 0))), .iface 122 (.pointer (some (E 1))), .iface 122 (.pointer (some (E 2))), .iface 122 (.pointer (some (E 3))), .iface 122 (.pointer (some (E 4))), .iface 122 (.pointer (some (E 5))), .iface 122 (.pointer (some (E 6))), .iface 122 (.pointer (some (E 7))), .iface 122 (.pointer (some (E 8))), .iface 122 (.pointer (some (E 9))), .iface 122 (.pointer (some (E 10))), .iface 122 (.pointer (some (E 11))), .iface 122 (.pointer (some (E 12))), .iface 122 (.pointer (some (E 13))), .iface 122 (.pointer (some (E 14))), .iface 122 (.pointer (some (E 15))), .iface 122 (.pointer (some (E 16))), .iface 122 (.pointer (some (E 17))), .iface 122 (.pointer (some (E 18))), .iface 122 (.pointer (some (E 19))), .iface 122 (.pointer (some (E 20))), .iface 122 (.pointer (some (E 21))), .iface 122 (.pointer (some (E 22))), .iface 122 (.pointer (some (E 23))), .iface 122 (.pointer (some (E 24)))]
theorem errL_get (E : Nat → Addr) : ∀ i, i < 25 → (errL E).toArray[i]? = some (errV E (i + 1)) := by
  intro i hi
  have h : i = 0 ∨ i = 1 ∨ i = 2 ∨ i = 3 ∨ i = 4 ∨ i = 5 ∨ i = 6 ∨ i = 7 ∨ i = 8 ∨ i = 9 ∨ i = 10 ∨ i = 11 ∨ i = 12 ∨ i = 13 ∨ i = 14 ∨ i = 15 ∨ i = 16 ∨ i = 17 ∨ i = 18 ∨ i = 19 ∨ i = 20 ∨ i = 21 ∨ i = 22 ∨ i = 23 ∨ i = 24 := by omega
  rcases h with rfl | rfl | rfl | rfl | rfl | rfl | rfl | rfl | rfl | rfl | rfl | rfl | rfl | rfl | rfl | rfl | rfl | rfl | rfl | rfl | rfl | rfl | rfl | rfl | rfl <;> rfl
def SnInv (E : Nat → Addr) (q : Nat) (w : World) (vi : Value) (wr : World) : Prop := ∃ k : Nat, k ≤ q ∧ vi = .int .i64 k ∧ wr.heap[w.heap.size]? = some (.cells (errL E).toArray 34 (0, 0)) ∧ Below w.heap.size w wr
end Go.Proofs.YtnhmjlljnckieaaDoor.Sha

/-
  The statements' own Fault, Same and Is: an error of package api, or none, is told by its number. Conditions: the errors are there, each its own.
-/
namespace Go.Proofs.YtnhmjlljnckieaaDoor.Sha
open Go Go.RowKit
/-- A fault with nothing around it. -/
def fC (c : Int) : List Value := [.int .i64 c, .bool false, .int .i64 0, .bool false, .int .i64 0]
/-- The number of an error. -/
def numE : Nat → Int
  | 0 => 0
  | q + 1 => ((101 + q : Nat) : Int)
theorem fault_all (c : Int) : (fC c).toArray.all (·.oneCell') = true := by
  rw [Array.all_eq_true_iff_forall_mem]
  intro x hx
  simp [fC] at hx
  rcases hx with rfl | rfl | rfl | rfl | rfl <;> rfl
end Go.Proofs.YtnhmjlljnckieaaDoor.Sha

/-
  A Reader in a walk: how it stands behind each step, whatever else makes memory. Conditions: those that each states.
-/
namespace Go.Proofs.YtnhmjlljnckieaaDoor.Sha
open Go Go.RowKit
variable {E : Nat → Addr} {m r c d : Nat} {W w w' : World} {bs b : List UInt8}
/-- A literal of bytes. -/
theorem lit_src {w : World} (l : List UInt8) (T : TypeId) (h0 : 0 < l.length) : SrcB (w.alloc (.cells (l.map bV).toArray T)) (.slice (some ⟨w.heap.size, 0, none⟩) l.length l.length) l := src_row rfl h0 (heap_alloc_new _ _)
theorem mask_nat (n k : Nat) (hn : n < 18446744073709551616) (hk : 2 ^ k - 1 < 18446744073709551616) : bits .and .u64 (n : Int) ((2 ^ k - 1 : Nat) : Int) = ((n % 2 ^ k : Nat) : Int) := by
  rw [u64_and_nat _ _ hn hk, Nat.and_two_pow_sub_one_eq_mod]
/-- A row that is not the Reader's. -/
theorem row_grown {w w' : World} {g r : Nat} {o : Obj} (h : w.heap[g]? = some o) (hg : w.grownBy w' (some r)) (hne : r < g) : w'.heap[g]? = some o := by
  rw [hg.block g (Array.getElem?_eq_some_iff.1 h).1 (fun e => by have := Option.some.inj e; omega)]
  exact h
theorem takeL_err (k : Nat) (bs : List UInt8) (c : Nat) (h : c ≠ 0) : takeL k bs c = ([], bs, c) := by unfold takeL; rw [if_pos h]
theorem takeL_end (k : Nat) (bs : List UInt8) (h : bs.length < k) : takeL k bs 0 = ([], bs, 1) := by unfold takeL; rw [if_neg (by omega), if_pos h]
theorem takeL_ok (k : Nat) (bs : List UInt8) (h : k ≤ bs.length) : takeL k bs 0 = (bs.take k, bs.drop k, 0) := by unfold takeL; rw [if_neg (by omega), if_neg (by omega)]
theorem takeL_app (xs ys : List UInt8) (k : Nat) (h : xs.length = k) : takeL k (xs ++ ys) 0 = (xs, ys, 0) := by
  subst h
  rw [takeL_ok _ _ (by simp)]
  simp
theorem numL_err (most : Nat) (bs : List UInt8) (c : Nat) (h : c ≠ 0) : numL most bs c = (0, bs, c) := by
  have e : widN (leN []) = 0 := rfl
  unfold numL
  simp only [takeL_err _ _ _ h, e, if_pos]
  rw [if_pos h]
end Go.Proofs.YtnhmjlljnckieaaDoor.Sha

/-
  Plain mathematics of a Reader's Num: what it answers of bytes that Put wrote, that are cut off, that are too many. No conditions beyond those that each states.
-/
namespace Go.Proofs.YtnhmjlljnckieaaDoor.Sha
open Go Go.RowKit
theorem leN_one (x : UInt8) : leN [x] = x.toNat := by simp [leN]
theorem takeL_one (x : UInt8) (ys : List UInt8) : takeL 1 (x :: ys) 0 = ([x], ys, 0) := takeL_app [x] ys 1 rfl
/-- A mark, and the bytes that it asks for. -/
theorem numL_mark (most : Nat) (f : UInt8) (k : Nat) (xs tail : List UInt8) (hk : widN f.toNat = k) (h0 : 0 < k) (hl : xs.length = k) :
    numL most (f :: (xs ++ tail)) 0 = if lenN (leN xs) ≠ 1 + k then (0, tail, 2) else if most < leN xs then (0, tail, 4) else (leN xs, tail, 0) := by
  have hk0 : ¬ k = 0 := by omega
  unfold numL
  simp only [takeL_one, leN_one, hk, if_neg hk0, takeL_app xs tail k hl]
  rw [if_neg (show ¬ (0 : Nat) ≠ 0 by omega)]
/-- A mark, and too few bytes behind it. -/
theorem numL_short (most : Nat) (f : UInt8) (k : Nat) (xs : List UInt8) (hk : widN f.toNat = k) (hl : xs.length < k) : numL most (f :: xs) 0 = (0, xs, 1) := by
  have hk0 : ¬ k = 0 := by omega
  unfold numL
  simp only [takeL_one, leN_one, hk, if_neg hk0, takeL_end k xs hl]
  rw [if_pos (show (1 : Nat) ≠ 0 by omega)]
theorem numL_nil (most : Nat) : numL most [] 0 = (0, [], 1) := by
  unfold numL
  have e : takeL 1 [] 0 = ([], [], 1) := takeL_end 1 [] (by simp)
  have e2 : widN (leN []) = 0 := rfl
  simp only [e, e2, if_pos]
  rw [if_pos (by omega)]
/-- A first byte that is the number. -/
theorem numL_small (most : Nat) (f : UInt8) (tail : List UInt8) (hf : f.toNat < 253) : numL most (f :: tail) 0 = if most < f.toNat then (0, tail, 4) else (f.toNat, tail, 0) := by
  have hk : widN f.toNat = 0 := by unfold widN; rw [if_neg (by omega), if_neg (by omega), if_neg (by omega)]
  have hl : lenN f.toNat = 1 := by unfold lenN; rw [if_pos hf]
  unfold numL
  simp only [takeL_one, leN_one, hk, if_pos]
  rw [if_neg (show ¬ (0 : Nat) ≠ 0 by omega), hl, if_neg (show ¬ (1 : Nat) ≠ 1 + 0 by omega)]
/-- What Put wrote is read again. -/
theorem numL_put (most n : Nat) (tail : List UInt8) (hn : n ≤ 18446744073709551615) : numL most (putL n ++ tail) 0 = if most < n then (0, tail, 4) else (n, tail, 0) := by
  unfold putL
  by_cases h1 : n < 253
  · rw [if_pos h1]
    have e : (UInt8.ofNat n).toNat = n := by rw [UInt8.toNat_ofNat']; omega
    have h := numL_small most (UInt8.ofNat n) tail (by omega)
    rw [e] at h
    exact h
  rw [if_neg h1]
  by_cases h2 : n ≤ 65535
  · rw [if_pos h2]
    have e : leN (leB n 2) = n := leN_leB_of (by omega)
    have hl : lenN n = 3 := by unfold lenN; rw [if_neg h1, if_pos h2]
    have h := numL_mark most 253 2 (leB n 2) tail rfl (by omega) (leB_length n 2)
    rw [e, hl, if_neg (by omega)] at h
    exact h
  rw [if_neg h2]
  by_cases h3 : n ≤ 4294967295
  · rw [if_pos h3]
    have e : leN (leB n 4) = n := leN_leB_of (by omega)
    have hl : lenN n = 5 := by unfold lenN; rw [if_neg h1, if_neg h2, if_pos h3]
    have h := numL_mark most 254 4 (leB n 4) tail rfl (by omega) (leB_length n 4)
    rw [e, hl, if_neg (by omega)] at h
    exact h
  · rw [if_neg h3]
    have e : leN (leB n 8) = n := leN_leB_of (by omega)
    have hl : lenN n = 9 := by unfold lenN; rw [if_neg h1, if_neg h2, if_neg h3]
    have h := numL_mark most 255 8 (leB n 8) tail rfl (by omega) (leB_length n 8)
    rw [e, hl, if_neg (by omega)] at h
    exact h
/-- What Put wrote, cut off: it ends too early. -/
theorem numL_cut (most n k : Nat) (hk : k < lenN n) : ∃ b, numL most ((putL n).take k) 0 = (0, b, 1) := by
  cases k with
  | zero => exact ⟨[], by rw [List.take_zero]; exact numL_nil most⟩
  | succ k =>
    rcases lenN_eq n with ⟨e, _⟩ | ⟨e, p⟩ | ⟨e, p⟩ | ⟨e, p⟩
    · omega
    · rw [p, List.take_succ_cons]
      exact ⟨_, numL_short most 253 2 _ rfl (by rw [List.length_take, leB_length]; omega)⟩
    · rw [p, List.take_succ_cons]
      exact ⟨_, numL_short most 254 4 _ rfl (by rw [List.length_take, leB_length]; omega)⟩
    · rw [p, List.take_succ_cons]
      exact ⟨_, numL_short most 255 8 _ rfl (by rw [List.length_take, leB_length]; omega)⟩
end Go.Proofs.YtnhmjlljnckieaaDoor.Sha

/-
  Plain mathematics of readers of bytes, one behind the other: what was written is read again; cut off it ends too early; what is read has just these bytes. No conditions beyond those that each states.
-/
namespace Go.Proofs.YtnhmjlljnckieaaDoor.Sha
open Go Go.RowKit
/-- A reader of bytes: what it answers, what it leaves, what it met. -/
abbrev Par (α : Type) := List UInt8 → Nat → α × List UInt8 × Nat
def thenP {α β : Type} (p : Par α) (q : α → Par β) : Par β := fun bs c => q (p bs c).1 (p bs c).2.1 (p bs c).2.2
def mapP {α β : Type} (f : α → β) (p : Par α) : Par β := fun bs c => (f (p bs c).1, (p bs c).2)
def manyP {α : Type} (p : Par α) : Nat → Par (List α)
  | 0, bs, c => ([], bs, c)
  | n + 1, bs, c => if c ≠ 0 then ([], bs, c) else thenP p (fun a => mapP (a :: ·) (manyP p n)) bs c
/-- Bytes that it reads whole, whatever stands behind; cut off, they end too early. -/
def Good {α : Type} (p : Par α) (a : α) (x : List UInt8) : Prop := (∀ y, p (x ++ y) 0 = (a, y, 0)) ∧ ∀ k, k < x.length → (p (x.take k) 0).2.2 = 1
/-- An error stays. -/
def Stay {α : Type} (p : Par α) : Prop := ∀ bs c, c ≠ 0 → (p bs c).2.2 = c
/-- What is read stands so to the bytes that it was read from. -/
def BackR {α : Type} (p : Par α) (R : α → List UInt8 → Prop) : Prop := ∀ bs a r, p bs 0 = (a, r, 0) → ∃ x, bs = x ++ r ∧ R a x
section
variable {α β : Type} {p : Par α} {q : α → Par β} {a : α} {b : β} {x y : List UInt8}
theorem Good.andThen (h1 : Good p a x) (h2 : Good (q a) b y) (hs : ∀ a, Stay (q a)) : Good (thenP p q) b (x ++ y) := by
  refine ⟨fun z => ?_, fun k hk => ?_⟩
  · unfold thenP
    rw [List.append_assoc, h1.1]
    exact h2.1 z
  · by_cases h : k < x.length
    · rw [List.take_append_of_le_length (by omega)]
      unfold thenP
      rw [h1.2 k h]
      exact hs _ _ 1 (by omega)
    · rw [List.take_append, List.take_of_length_le (by omega)]
      unfold thenP
      rw [h1.1]
      exact h2.2 (k - x.length) (by rw [List.length_append] at hk; omega)
theorem Good.map (f : α → β) (h : Good p a x) : Good (mapP f p) (f a) x :=
  ⟨fun z => by unfold mapP; rw [h.1], fun k hk => h.2 k hk⟩
theorem Stay.andThen (h1 : Stay p) (h2 : ∀ a, Stay (q a)) : Stay (thenP p q) := fun bs c hc => by
  unfold thenP
  have e := h1 bs c hc
  rw [h2 _ _ _ (by rw [e]; exact hc), e]
theorem Stay.map (f : α → β) (h : Stay p) : Stay (mapP f p) := fun bs c hc => h bs c hc
theorem BackR.andThen {R : α → List UInt8 → Prop} {S : α → β → List UInt8 → Prop} (h1 : BackR p R) (h2 : ∀ a, BackR (q a) (S a)) (hs : ∀ a, Stay (q a)) : BackR (thenP p q) (fun b z => ∃ a x y, z = x ++ y ∧ R a x ∧ S a b y) := by
  intro bs b r h
  unfold thenP at h
  have hc : (p bs 0).2.2 = 0 := by
    by_cases h0 : (p bs 0).2.2 = 0
    · exact h0
    · have e := hs (p bs 0).1 (p bs 0).2.1 (p bs 0).2.2 h0
      rw [h] at e
      exact e.symm
  rw [hc] at h
  obtain ⟨x, e1, r1⟩ := h1 bs (p bs 0).1 (p bs 0).2.1 (Prod.ext rfl (Prod.ext rfl hc))
  obtain ⟨y, e2, r2⟩ := h2 _ _ _ _ h
  exact ⟨x ++ y, by rw [List.append_assoc, ← e2]; exact e1, _, x, y, rfl, r1, r2⟩
theorem BackR.map {R : α → List UInt8 → Prop} (f : α → β) (h : BackR p R) : BackR (mapP f p) (fun b z => ∃ a, b = f a ∧ R a z) := by
  intro bs b r h1
  unfold mapP at h1
  simp only [Prod.mk.injEq] at h1
  obtain ⟨x, e, hr⟩ := h bs (p bs 0).1 r (by rw [← h1.2])
  exact ⟨x, e, _, h1.1.symm, hr⟩
theorem BackR.weak {R S : α → List UInt8 → Prop} (h : BackR p R) (hw : ∀ a x, R a x → S a x) : BackR p S := fun bs a r h1 => by
  obtain ⟨x, e, hr⟩ := h bs a r h1
  exact ⟨x, e, hw _ _ hr⟩
theorem stay_many : ∀ n, Stay (manyP p n)
  | 0, bs, c, hc => rfl
  | n + 1, bs, c, hc => by unfold manyP; rw [if_pos hc]
theorem good_many (enc : α → List UInt8) : ∀ (l : List α), (∀ z ∈ l, Good p z (enc z)) → Good (manyP p l.length) l (l.flatMap enc)
  | [], _ => ⟨fun y => rfl, fun k hk => absurd hk (by simp)⟩
  | z :: l, h => by
    have ih := good_many enc l (fun u hu => h u (List.mem_cons_of_mem _ hu))
    have g := (h z List.mem_cons_self).andThen (q := fun a => mapP (a :: ·) (manyP p l.length)) (ih.map (z :: ·)) (fun a => (stay_many _).map _)
    rw [List.flatMap_cons]
    refine ⟨fun y => ?_, fun k hk => ?_⟩
    · show manyP p (l.length + 1) _ 0 = _
      unfold manyP
      rw [if_neg (by omega)]
      exact g.1 y
    · show (manyP p (l.length + 1) _ 0).2.2 = 1
      unfold manyP
      rw [if_neg (by omega)]
      exact g.2 k hk
theorem back_many (enc : α → List UInt8) (V : α → Prop) (h : BackR p (fun a x => x = enc a ∧ V a)) : ∀ n, BackR (manyP p n) (fun l x => x = l.flatMap enc ∧ (∀ z ∈ l, V z) ∧ l.length = n)
  | 0, bs, l, r, e => by
    unfold manyP at e
    simp only [Prod.mk.injEq, and_true] at e
    refine ⟨[], by rw [e.2]; rfl, ?_⟩
    rw [← e.1]
    exact ⟨rfl, fun z hz => absurd hz (by simp), rfl⟩
  | n + 1, bs, l, r, e => by
    unfold manyP at e
    rw [if_neg (by omega)] at e
    obtain ⟨x, e1, a, y, z, e2, ⟨e3, v⟩, l2, e4, e5, v2, e6⟩ := (h.andThen (q := fun a => mapP (a :: ·) (manyP p n)) (fun a => (back_many enc V h n).map (a :: ·)) (fun a => (stay_many n).map _)) _ _ _ e
    refine ⟨x, e1, ?_⟩
    rw [e4, e2, e3, e5]
    exact ⟨by rw [List.flatMap_cons], fun u hu => (List.mem_cons.1 hu).elim (fun e => e ▸ v) (v2 u), by rw [List.length_cons, e6]⟩
end
theorem stay_take (k : Nat) : Stay (takeL k) := fun bs c hc => by rw [takeL_err k bs c hc]
theorem stay_num (most : Nat) : Stay (numL most) := fun bs c hc => by rw [numL_err most bs c hc]
theorem good_take (x : List UInt8) (k : Nat) (h : x.length = k) : Good (takeL k) x x :=
  ⟨fun y => takeL_app x y k h, fun j hj => by rw [takeL_end k _ (by rw [List.length_take]; omega)]⟩
theorem back_take (k : Nat) : BackR (takeL k) (fun a x => x = a ∧ a.length = k) := fun bs a r h => by
  unfold takeL at h
  rw [if_neg (by omega)] at h
  split at h
  · simp at h
  · simp only [Prod.mk.injEq, and_true] at h
    exact ⟨a, by rw [← h.1, ← h.2, List.take_append_drop], rfl, by rw [← h.1, List.length_take]; omega⟩
/-- So many bytes as a number. -/
def leP (k : Nat) : Par Nat := mapP leN (takeL k)
theorem stay_le (k : Nat) : Stay (leP k) := (stay_take k).map _
theorem leN_inj : ∀ (l m : List UInt8), l.length = m.length → leN l = leN m → l = m
  | [], [], _, _ => rfl
  | x :: l, y :: m, hl, h => by
    have h1 : x.toNat + 256 * leN l = y.toNat + 256 * leN m := h
    have hx := x.toNat_lt
    have hy := y.toNat_lt
    have e1 : x.toNat = y.toNat := by omega
    have e2 : leN l = leN m := by omega
    rw [leN_inj l m (by simpa using hl) e2, UInt8.toNat_inj.1 e1]
theorem leB_leN (l : List UInt8) : leB (leN l) l.length = l :=
  leN_inj _ _ (leB_length _ _) (leN_leB_of (leN_lt l))
theorem good_le (n k : Nat) (h : n < 256 ^ k) : Good (leP k) n (leB n k) := by
  have g := (good_take (leB n k) k (leB_length n k)).map leN
  rw [leN_leB_of h] at g
  exact g
theorem back_le (k : Nat) : BackR (leP k) (fun n x => x = leB n k ∧ n < 256 ^ k) := ((back_take k).map leN).weak fun n x ⟨a, e, e1, e2⟩ => by
  subst e e1 e2
  exact ⟨(leB_leN _).symm, leN_lt _⟩
theorem good_num (most n : Nat) (h : n ≤ most) (hm : most ≤ 18446744073709551615) : Good (numL most) n (putL n) :=
  ⟨fun y => by rw [numL_put most n y (by omega), if_neg (by omega)], fun k hk => by
    rw [putL_length] at hk
    obtain ⟨b, e⟩ := numL_cut most n k hk
    rw [e]⟩
theorem widN_cases (n : Nat) : (widN n = 2 ∧ n = 253) ∨ (widN n = 4 ∧ n = 254) ∨ (widN n = 8 ∧ n = 255) ∨ (widN n = 0 ∧ n ≠ 253 ∧ n ≠ 254 ∧ n ≠ 255) := by
  unfold widN
  split
  · exact .inl ⟨rfl, by assumption⟩
  · split
    · exact .inr (.inl ⟨rfl, by assumption⟩)
    · split
      · exact .inr (.inr (.inl ⟨rfl, by assumption⟩))
      · exact .inr (.inr (.inr ⟨rfl, by assumption, by assumption, by assumption⟩))
theorem back_num (most : Nat) : BackR (numL most) (fun n x => x = putL n ∧ n ≤ most) := fun bs n r h => by
  cases bs with
  | nil => rw [numL_nil] at h; simp at h
  | cons f xs =>
    have hf := f.toNat_lt
    have ef : UInt8.ofNat f.toNat = f := by simp
    have mark : ∀ k, 0 < k → widN f.toNat = k → (∀ z : List UInt8, z.length = k → lenN (leN z) = 1 + k → putL (leN z) = f :: leB (leN z) k) → ∃ x, f :: xs = x ++ r ∧ x = putL n ∧ n ≤ most := by
      intro k h0 hk hp
      by_cases hl : xs.length < k
      · rw [numL_short most f k xs hk hl] at h; simp at h
      · obtain ⟨z, y, e, hz⟩ : ∃ z y, xs = z ++ y ∧ z.length = k := ⟨xs.take k, xs.drop k, (List.take_append_drop k xs).symm, by rw [List.length_take]; omega⟩
        rw [e, numL_mark most f k z y hk h0 hz] at h
        split at h
        · simp at h
        · rename_i h1
          split at h
          · simp at h
          · rename_i h2
            simp only [Prod.mk.injEq, and_true] at h
            have h3 := hp z hz (by omega)
            rw [← hz, leB_leN] at h3
            refine ⟨f :: z, by rw [e, ← h.2]; rfl, ?_, by rw [← h.1]; omega⟩
            rw [← h.1, h3]
    have put : ∀ (z : List UInt8) (k : Nat) (g : UInt8), lenN (leN z) = 1 + k → 0 < k → (k = 2 → g = 253) → (k = 4 → g = 254) → (k = 8 → g = 255) → putL (leN z) = g :: leB (leN z) k := by
      intro z k g hl h0 g1 g2 g3
      rcases lenN_eq (leN z) with ⟨a, b⟩ | ⟨a, b⟩ | ⟨a, b⟩ | ⟨a, b⟩
      · omega
      · rw [b, g1 (by omega), show k = 2 by omega]
      · rw [b, g2 (by omega), show k = 4 by omega]
      · rw [b, g3 (by omega), show k = 8 by omega]
    have fz : ∀ m : Nat, f.toNat = m → f = UInt8.ofNat m := fun m e => by rw [← e, ef]
    rcases widN_cases f.toNat with ⟨e, e2⟩ | ⟨e, e2⟩ | ⟨e, e2⟩ | ⟨e, e2, e3, e4⟩
    · exact mark 2 (by omega) e (fun z _ hl => put z 2 f hl (by omega) (fun _ => fz 253 e2) (fun h => by omega) (fun h => by omega))
    · exact mark 4 (by omega) e (fun z _ hl => put z 4 f hl (by omega) (fun h => by omega) (fun _ => fz 254 e2) (fun h => by omega))
    · exact mark 8 (by omega) e (fun z _ hl => put z 8 f hl (by omega) (fun h => by omega) (fun h => by omega) (fun _ => fz 255 e2))
    · rw [numL_small most f xs (by omega)] at h
      split at h
      · simp at h
      · simp only [Prod.mk.injEq, and_true] at h
        refine ⟨[f], by rw [← h.2]; rfl, ?_, by rw [← h.1]; omega⟩
        rw [← h.1]
        unfold putL
        rw [if_pos (by omega), ef]
end Go.Proofs.YtnhmjlljnckieaaDoor.Sha

/-
  Plain mathematics of a block's header: its bytes; read out of bytes it is what was written, cut off it ends too early, longer it has another shape; any 80 bytes are one header's. No conditions beyond those that each states.
-/
namespace Go.Proofs.YtnhmjlljnckieaaDoor.Sha
open Go Go.RowKit
structure THd where
  ver : Nat
  prev : List UInt8
  root : List UInt8
  time : Nat
  work : Nat
  nonce : Nat
def HdOk (h : THd) : Prop := h.ver ≤ 4294967295 ∧ h.prev.length = 32 ∧ h.root.length = 32 ∧ h.time ≤ 4294967295 ∧ h.work ≤ 4294967295 ∧ h.nonce ≤ 4294967295
/-- A header's bytes. -/
def hdB (h : THd) : List UInt8 := leB h.ver 4 ++ h.prev ++ h.root ++ leB h.time 4 ++ leB h.work 4 ++ leB h.nonce 4
def hdP : Par THd := thenP (leP 4) fun v => thenP (takeL 32) fun p => thenP (takeL 32) fun r => thenP (leP 4) fun t => thenP (leP 4) fun w => mapP (fun n => ⟨v, padH p, padH r, t, w, n⟩) (leP 4)
def noHd : THd := ⟨0, List.replicate 32 0, List.replicate 32 0, 0, 0, 0⟩
/-- A header out of a Reader: none where an error was met. -/
def takeHd (bs : List UInt8) (c : Nat) : THd × List UInt8 × Nat := if (hdP bs c).2.2 = 0 then hdP bs c else (noHd, (hdP bs c).2)
/-- Bytes as a header, or what is amiss. -/
def readHd (bs : List UInt8) : THd × Nat := if (hdP bs 0).2.2 ≠ 0 then (noHd, (hdP bs 0).2.2) else if (hdP bs 0).2.1 ≠ [] then (noHd, 2) else ((hdP bs 0).1, 0)
theorem padH_all {x : List UInt8} (h : x.length = 32) : padH x = x := by unfold padH; rw [h]; simp
theorem hdB_length {h : THd} (hh : HdOk h) : (hdB h).length = 80 := by
  simp only [hdB, List.length_append, leB_length, hh.2.1, hh.2.2.1]
theorem stay_hd : Stay hdP := (stay_le 4).andThen fun _ => (stay_take 32).andThen fun _ => (stay_take 32).andThen fun _ => (stay_le 4).andThen fun _ => (stay_le 4).andThen fun _ => (stay_le 4).map _
theorem good_hd (h : THd) (hh : HdOk h) : Good hdP h (hdB h) := by
  obtain ⟨h1, h2, h3, h4, h5, h6⟩ := hh
  obtain ⟨a, b, c, d, e, f⟩ := h
  simp only at h1 h2 h3 h4 h5 h6
  have g := (good_le a 4 (by omega)).andThen (q := fun v => thenP (takeL 32) fun p => thenP (takeL 32) fun r => thenP (leP 4) fun t => thenP (leP 4) fun w => mapP (fun n => (⟨v, padH p, padH r, t, w, n⟩ : THd)) (leP 4))
    ((good_take b 32 h2).andThen (q := fun p => thenP (takeL 32) fun r => thenP (leP 4) fun t => thenP (leP 4) fun w => mapP (fun n => (⟨a, padH p, padH r, t, w, n⟩ : THd)) (leP 4))
      ((good_take c 32 h3).andThen (q := fun r => thenP (leP 4) fun t => thenP (leP 4) fun w => mapP (fun n => (⟨a, padH b, padH r, t, w, n⟩ : THd)) (leP 4))
        ((good_le d 4 (by omega)).andThen (q := fun t => thenP (leP 4) fun w => mapP (fun n => (⟨a, padH b, padH c, t, w, n⟩ : THd)) (leP 4))
          ((good_le e 4 (by omega)).andThen (q := fun w => mapP (fun n => (⟨a, padH b, padH c, d, w, n⟩ : THd)) (leP 4))
            ((good_le f 4 (by omega)).map _) (fun _ => (stay_le 4).map _)) (fun _ => (stay_le 4).andThen fun _ => (stay_le 4).map _))
          (fun _ => (stay_le 4).andThen fun _ => (stay_le 4).andThen fun _ => (stay_le 4).map _))
        (fun _ => (stay_take 32).andThen fun _ => (stay_le 4).andThen fun _ => (stay_le 4).andThen fun _ => (stay_le 4).map _))
      (fun _ => (stay_take 32).andThen fun _ => (stay_take 32).andThen fun _ => (stay_le 4).andThen fun _ => (stay_le 4).andThen fun _ => (stay_le 4).map _)
  rw [padH_all h2, padH_all h3] at g
  simp only [hdB, List.append_assoc]
  exact g
/-- What was written is read again. -/
theorem hd_own {h : THd} (hh : HdOk h) : readHd (hdB h) = (h, 0) := by
  have g := (good_hd h hh).1 []
  rw [List.append_nil] at g
  unfold readHd
  rw [g]
  rfl
theorem hd_take {h : THd} (hh : HdOk h) (y : List UInt8) : takeHd (hdB h ++ y) 0 = (h, y, 0) := by
  unfold takeHd
  rw [(good_hd h hh).1 y, if_pos rfl]
/-- Cut off, it ends too early. -/
theorem hd_cut {h : THd} (hh : HdOk h) {k : Nat} (hk : k < 80) : readHd ((hdB h).take k) = (noHd, 1) := by
  have g := (good_hd h hh).2 k (by rw [hdB_length hh]; exact hk)
  unfold readHd
  rw [g, if_pos (by omega)]
/-- Longer, it has another shape. -/
theorem hd_long {h : THd} (hh : HdOk h) {y : List UInt8} (hy : y ≠ []) : readHd (hdB h ++ y) = (noHd, 2) := by
  unfold readHd
  rw [(good_hd h hh).1 y, if_neg (by simp), if_pos hy]
/-- Any 80 bytes are one header's. -/
theorem hd_all (b : List UInt8) (hb : b.length = 80) : ∃ h, HdOk h ∧ hdB h = b := by
  have cut : ∀ (l : List UInt8) (k : Nat), k ≤ l.length → ∃ x y, l = x ++ y ∧ x.length = k := fun l k hk => ⟨l.take k, l.drop k, (List.take_append_drop k l).symm, by rw [List.length_take]; omega⟩
  obtain ⟨x1, y1, e1, l1⟩ := cut b 4 (by omega)
  have s1 : y1.length = 76 := by have := congrArg List.length e1; rw [List.length_append] at this; omega
  obtain ⟨x2, y2, e2, l2⟩ := cut y1 32 (by omega)
  have s2 : y2.length = 44 := by have := congrArg List.length e2; rw [List.length_append] at this; omega
  obtain ⟨x3, y3, e3, l3⟩ := cut y2 32 (by omega)
  have s3 : y3.length = 12 := by have := congrArg List.length e3; rw [List.length_append] at this; omega
  obtain ⟨x4, y4, e4, l4⟩ := cut y3 4 (by omega)
  have s4 : y4.length = 8 := by have := congrArg List.length e4; rw [List.length_append] at this; omega
  obtain ⟨x5, y5, e5, l5⟩ := cut y4 4 (by omega)
  have s5 : y5.length = 4 := by have := congrArg List.length e5; rw [List.length_append] at this; omega
  have lt : ∀ x : List UInt8, x.length = 4 → leN x ≤ 4294967295 ∧ leB (leN x) 4 = x := fun x hx => by
    have h1 := leN_lt x
    have h2 := leB_leN x
    rw [hx] at h1 h2
    exact ⟨by omega, h2⟩
  refine ⟨⟨leN x1, x2, x3, leN x4, leN x5, leN y5⟩, ⟨(lt x1 l1).1, l2, l3, (lt x4 l4).1, (lt x5 l5).1, (lt y5 s5).1⟩, ?_⟩
  simp only [hdB, (lt x1 l1).2, (lt x4 l4).2, (lt x5 l5).2, (lt y5 s5).2, List.append_assoc]
  rw [← e5, ← e4, ← e3, ← e2, ← e1]
theorem hd_inj {h g : THd} (hh : HdOk h) (hg : HdOk g) (e : hdB h = hdB g) : h = g := by
  have h1 := hd_own hh
  rw [e, hd_own hg] at h1
  exact (Prod.mk.inj h1).1.symm
/-- What is read has just these bytes. -/
theorem hd_back {b : List UInt8} (hb : b.length = 80) : HdOk (readHd b).1 ∧ hdB (readHd b).1 = b ∧ (readHd b).2 = 0 := by
  obtain ⟨h, hh, rfl⟩ := hd_all b hb
  rw [hd_own hh]
  exact ⟨hh, rfl, rfl⟩
end Go.Proofs.YtnhmjlljnckieaaDoor.Sha

/-
  A header's id, as plain mathematics. No conditions.
-/
namespace Go.Proofs.YtnhmjlljnckieaaDoor.Sha
open Go Go.RowKit
/-- A header's digest. -/
def hdId (h : THd) : List UInt8 := sha (sha (hdB h))
theorem hdId_length (h : THd) : (hdId h).length = 32 := sha_length _
end Go.Proofs.YtnhmjlljnckieaaDoor.Sha
