/-
  Texts of this proof joined into one file: ShaSum, ShaArgs, ErrBg, ShaFast, CmpPut, CmpRead, CmpRead2, CmpHash, Par, HdMath, HdIdM, Pt, TxData, TxMath, ArgsTx, PtSame, TxSame, RefWire. What each holds, and under which conditions, its own first sentence tells.
-/
import Derived.ProofKit
import Derived.OpenShut
import Derived.ShutString
import Derived.ChangeOld
import Derived.Deep.DeepHandedRow
import Derived.Lib.LaidTab
import Derived.Stop.LaidErr
import Derived.Deep.RegionLaw
import Derived.LaidEql
import Derived.Deep.DeepFit
import Derived.Deep.MidRow
import Derived.Stop.BytesEq
import Derived.Deep.Slices
import Derived.Test.YtdhcjaflbfpalaaGreatDoorMh02
import Derived.Test.YtdhcjaflbfpalaaGreatDoorCards
import Derived.Test.YtdhcjaflbfpalaaGreatDoorTie
import Derived.Test.YtdhcjaflbfpalaaGreatDoorMh01
import Derived.Test.YtdhcjaflbfpalaaGreatDoorRows
/-
  digest's Writer.Sum answers the SHA-256 of all that was written, and turns nothing that was there. Conditions: the Writer stands as it should, the table is there, fewer than 2^59 bytes were written.
-/
namespace Go.Proofs.YtdhcjaflbfpalaaGreatDoor.Sha
open Go Go.RowKit
theorem write_some' (l bs : List UInt8) (bb off n1 cap B : Nat) (w : World) (h1 : n1 = bs.length) (hk : KTab w) (hB0 : B ≠ 4) (hbb : bb ≠ B) (hcap : n1 ≤ cap) (hlen : l.length + n1 ≤ 1152921504606846975)
    (hinv : WInv w B l) (hsrc : ∀ j, j < n1 → w.cell? ⟨bb, off + j, none⟩ = some (.int .u8 (bv (bs.getD j 0)))) :
    Calls Tryz.prog 99 #[.pointer (some ⟨B, 0, none⟩), .slice (some ⟨bb, off, none⟩) n1 cap] w fun e w' =>
      e = .returned (.tuple #[]) ∧ WInv w' B (l ++ bs) ∧ w.grownBy w' (some B) := by
  subst h1
  exact write_some l bs bb off cap B w hk hB0 hbb hcap hlen hinv hsrc
def zeroSt : St := ⟨0, 0, 0, 0, 0, 0, 0, 0⟩
/-- A new Writer's cells. -/
def zeroW : Array Value := (zeroSt.cells ++ ((List.replicate 64 0).map bV ++ [Value.int .i64 (0 : Nat)])).toArray
theorem zero_writer (W : World) : (zeroValue 164).run Tryz.prog W = .ok (.agg zeroW) W := by kernel_rfl
theorem zero_inv {w : World} {B : Nat} (h : w.heap[B]? = some (.cells zeroW 164 (0, 0))) : WInv w B [] :=
  ⟨zeroSt, List.replicate 64 0, ⟨by simp, h⟩, fun e => absurd rfl e, rfl⟩
theorem sum_setup (w : World) (z cs : Array Value) (T : TypeId) : Below w.heap.size w (((w.alloc (.cells z T)).alloc (.cells zeroW 164)).setRow (w.heap.size + 1) cs)
    ∧ (((w.alloc (.cells z T)).alloc (.cells zeroW 164)).setRow (w.heap.size + 1) cs).heap.size = w.heap.size + 2
    ∧ (((w.alloc (.cells z T)).alloc (.cells zeroW 164)).setRow (w.heap.size + 1) cs).heap[w.heap.size + 1]? = some (.cells cs 164 (0, 0))
    ∧ (((w.alloc (.cells z T)).alloc (.cells zeroW 164)).setRow (w.heap.size + 1) cs).heap[w.heap.size]? = some (.cells z T (0, 0)) := by
  refine ⟨below_setRow (((Below.refl _ _).alloc (Nat.le_refl _) _).alloc (by simp) _) (Nat.le_succ _) _, by simp, setRow_heap _ _ _ _ _ _ (heap_alloc2_new _ _ _), ?_⟩
  rw [setRow_other _ _ _ _ (by omega)]
  exact heap_alloc2_old _ _ _
/-- The padding's cells, as they stand. -/
def padV : List Value := bV 0x80 :: List.replicate 63 (bV 0)
theorem padV_get (n j : Nat) (h : j < padLen n) : padV[j]? = some (.int .u8 (bv ((pad n).getD j 0))) := by
  have hb := padLen_bd n
  cases j with
  | zero => rfl
  | succ j =>
    have e1 : padV[j + 1]? = (List.replicate 63 (bV 0))[j]? := rfl
    have e2 : (pad n).getD (j + 1) 0 = 0 := by
      show (0x80 :: List.replicate (padLen n - 1) (0 : UInt8)).getD (j + 1) 0 = 0
      simp [List.getD, List.getElem?_replicate]
      split <;> rfl
    rw [e1, e2, List.getElem?_replicate, if_pos (by omega)]
    rfl
theorem KTab.below {w w' : World} (h : KTab w) (hb : Below w.heap.size w w') : KTab w' := fun t ht => by
  rw [hb.cell (p := ⟨4, t, none⟩) (World.block_lt_of_cell? w _ (h t ht))]
  exact h t ht
theorem KTab.pos {w : World} (h : KTab w) : 4 < w.heap.size := World.block_lt_of_cell? w _ (h 0 (by omega))
theorem sum_setup2 {w w2 : World} (o : Obj) (f1 : Below w.heap.size w w2) (f2 : w2.heap.size = w.heap.size + 2) {x y : Obj} (f3 : w2.heap[w.heap.size + 1]? = some x) (f4 : w2.heap[w.heap.size]? = some y) :
    Below w.heap.size w (w2.alloc o) ∧ (w2.alloc o).heap.size = w.heap.size + 3 ∧ (w2.alloc o).heap[w.heap.size + 1]? = some x ∧ (w2.alloc o).heap[w.heap.size]? = some y ∧ (w2.alloc o).heap[w.heap.size + 2]? = some o := by
  refine ⟨f1.alloc (by omega) _, by simp [f2], ?_, ?_, ?_⟩
  · rw [Below.heap_alloc _ _ _ (by omega)]; exact f3
  · rw [Below.heap_alloc _ _ _ (by omega)]; exact f4
  · rw [← f2]; exact heap_alloc_new _ _
theorem WInv.below {w w' : World} {B : Nat} {l : List UInt8} (h : WInv w B l) (hb : Below w.heap.size w w') : WInv w' B l := by
  obtain ⟨s, p, hc, hs, hp⟩ := h
  exact ⟨s, p, hc.kept hb, hs, hp⟩
/-- A whole message's words, ready to be written down. -/
theorem WInv.final {w : World} {B : Nat} {l : List UInt8} (h : WInv w B (l ++ pad l.length ++ len8 l.length)) :
    w.rangeAt B 0 (blocks (padded l) ((padded l).length / 64)).cells := by
  obtain ⟨s, p, hc, hs, _⟩ := h
  have e := hs (by simp [len8])
  intro j v hj
  have hj8 : j < s.cells.length := by rw [St.cells_length]; exact (List.getElem?_eq_some_iff.1 hj).1
  rw [Nat.zero_add, cell_of_row _ _ _ _ _ _ hc.2, List.getElem?_toArray, List.getElem?_append_left hj8, e]
  exact hj
set_option maxHeartbeats 1000000 in
set_option maxRecDepth 100000 in
theorem sum_any (l : List UInt8) (B : Nat) (w : World) (hk : KTab w) (hlen : l.length ≤ 576460752303423487) (hinv : WInv w B l) :
    Calls Tryz.prog 100 #[.pointer (some ⟨B, 0, none⟩)] w fun e w' =>
      e = .returned (.agg ((sha l).map bV).toArray) ∧ Below w.heap.size w w' := by
  obtain ⟨s, p, hc, hs, hp⟩ := hinv
  obtain ⟨n, hn⟩ : ∃ n, n = l.length := ⟨_, rfl⟩
  rw [← hn] at hc hlen
  have hB : B < w.heap.size := (Array.getElem?_eq_some_iff.1 hc.2).1
  obtain ⟨cs, hcs⟩ : ∃ cs, cs = s.cells ++ (p.map bV ++ [Value.int .i64 n]) := ⟨_, rfl⟩
  have hrow := hc.2
  rw [← hcs] at hrow
  have hl : cs.toArray.size = 73 := by simp [hcs, St.cells_length, hc.1]
  have HONE : Hid (cs.toArray.all (·.oneCell') = true) := by
    show _ = _
    rw [Array.all_eq_true_iff_forall_mem]
    intro v hv
    simp only [List.mem_toArray, hcs, List.mem_append, St.cells_list, List.mem_singleton] at hv
    rcases hv with hv | hv | rfl
    · exact (Array.all_eq_true_iff_forall_mem.1 (wV_one s.list)) v (by simpa using hv)
    · exact bV_one' p v hv
    · rfl
  have HL := Lib.hid hl
  have HROW := Lib.hid hrow
  have HCS := Lib.hid hcs
  have c72 := hc.size
  have HC := Lib.hid hc
  have HS := Lib.hid hs
  have HP := Lib.hid hp
  have HK := Lib.hid hk
  have HN := Lib.hid hn
  clear hl hrow hcs hc hs hp hk hn
  have hzw := zero_writer
  go_enter Tryz.func100, Tryz.ntmps100
  go_upto_region 2 with ((with_reducible show wpList _ _ _ _ _ _); first | (refine wpList_load_row rfl 164 (.tmp 6) rfl B rfl 164 cs.toArray (0, 0) _ ((Below.heap_alloc _ _ B hB).trans HROW.out) Tryz.underlying164 rfl (by rw [HL.out]; kernel_rfl) ?_; go_frame) | (refine wpList_store_row rfl 164 (.tmp 3) (.tmp 7) rfl (w.heap.size + 1) cs.toArray rfl rfl 164 _ (heap_alloc2_new _ _ _) (by rw [HL.out]; kernel_rfl) (by rw [HL.out]; rfl) HONE.out ?_; go_frame))
  obtain ⟨f1, f2, f3, f4⟩ := sum_setup w (List.replicate 32 (bV 0)).toArray cs.toArray 26
  generalize hw2 : World.setRow _ _ _ = w2
  have e2 : (((w.alloc (.cells (List.replicate 32 (bV 0)).toArray 26)).alloc (.cells zeroW 164)).setRow (w.heap.size + 1) cs.toArray) = w2 := hw2
  rw [e2] at f1 f2 f3 f4
  clear hw2 e2 c72 hzw
  have F1 := Lib.hid f1
  have F3 := Lib.hid f3
  have F4 := Lib.hid f4
  clear f1 f3 f4
  go_upto_region 4 with (fail)
  obtain ⟨g1, g2, g3, g4, g5⟩ := sum_setup2 (.cells padV.toArray 162) F1.out f2 F3.out F4.out
  generalize hw3 : World.alloc _ _ = w3
  have e3 : w2.alloc (.cells padV.toArray 162) = w3 := hw3
  rw [e3] at g1 g2 g3 g4 g5
  clear hw3 e3 f2 F1 F3 F4
  have c72 : w3.cell? ⟨B, 72, none⟩ = some (.int .i64 n) := by rw [g1.cell (p := ⟨B, 72, none⟩) hB]; exact HC.out.size
  have hI : WInv w3 (w.heap.size + 1) l := by
    refine ⟨s, p, ?_, HS.out, HP.out⟩
    rw [← HN.out]
    exact ⟨HC.out.1, by rw [g3, HCS.out]⟩
  have hK : KTab w3 := HK.out.below g1
  have hS : ∀ j, j < padLen n → w3.cell? ⟨w.heap.size + 2, 0 + j, none⟩ = some (.int .u8 (bv ((pad n).getD j 0))) := fun j hj => by
    rw [cell_of_row _ _ _ _ _ _ g5, Nat.zero_add, List.getElem?_toArray]
    exact padV_get n j hj
  have hb := padLen_bd n
  have hb1 : ((padLen n : Nat) : Int) ≤ 64 := by omega
  have HB := Lib.hid hb
  have HI := Lib.hid hI
  have HK3 := Lib.hid hK
  have HS3 := Lib.hid hS
  have G1 := Lib.hid g1
  have G2 := Lib.hid g2
  have G4 := Lib.hid g4
  clear hI hK hS g1 g2 g3 g4 g5 hb
  go_wp2_with (go_at_call 112; refine (pad_any n _ (by omega)).mono ?_; rintro e w' ⟨rfl, rfl⟩)
  refine (write_some' l (pad n) (w.heap.size + 2) 0 (padLen n) 64 (w.heap.size + 1) w3 (pad_length n).symm HK3.out (by have := HK.out.pos; omega) (by omega) HB.out.2.1 (by have := HB.out; have := HN.out; omega) HI.out HS3.out).mono ?_
  rintro e w4 ⟨rfl, hI4, hG4⟩
  have c72' : w4.cell? ⟨B, 72, none⟩ = some (.int .i64 n) := hG4.cell c72 (fun e => by have := Option.some.inj e; simp at this; omega)
  have HI4 := Lib.hid hI4
  have HG4 := Lib.hid hG4
  clear hI4 hG4 c72 hb1 HI HS3
  go_wp2_with (go_at_call 113; refine (bits_any n _ (by omega)).mono ?_; rintro e w5 ⟨rfl, ho5, hb5⟩; have HO5 := Lib.hid ho5; have HB5 := Lib.hid hb5; clear ho5 hb5)
  have hS : ∀ j, j < 8 → w5.cell? ⟨w4.heap.size, 0 + j, none⟩ = some (.int .u8 (bv ((len8 n).getD j 0))) := fun j hj => by
    rw [← Addr.add_mid]
    refine HO5.out.cells (g := w4.heap.size) rfl j _ ?_
    rw [List.getElem?_map, List.getElem?_eq_getElem (show j < (len8 n).length from hj)]
    simp [bV, List.getD, List.getElem?_eq_getElem (show j < (len8 n).length from hj)]
  have hz4 : w.heap.size + 3 ≤ w4.heap.size := by have := HG4.out.size; have := G2.out; omega
  have B4 := Lib.hid (grownBy_below HG4.out G1.out (Nat.le_succ _) (by have := G2.out; omega))
  have B5 := Lib.hid (B4.out.trans (HB5.out.mono (by omega)))
  have HS5 := Lib.hid hS
  clear hS
  refine (write_some' (l ++ pad n) (len8 n) w4.heap.size 0 8 8 (w.heap.size + 1) w5 rfl (HK.out.below B5.out) (by have := HK.out.pos; omega) (by omega) (Nat.le_refl _)
    (by have := HB.out; have := HN.out; rw [List.length_append, pad_length]; omega) (HI4.out.below HB5.out) HS5.out).mono ?_
  rintro e w6 ⟨rfl, hI6, hG6⟩
  rw [HN.out] at hI6
  have HR6 := Lib.hid hI6.final
  have hz5 : w.heap.size + 3 ≤ w5.heap.size := by have := HB5.out.size; omega
  have B6 := Lib.hid (grownBy_below hG6 B5.out (Nat.le_succ _) (by omega))
  have HG6 := Lib.hid hG6
  clear hI6 hG6 c72'
  have hH6 : w6.heap[w.heap.size]? = some (.cells (List.replicate 32 (bV 0)).toArray 26 (0, 0)) := by
    rw [HG6.out.block _ (by omega) (fun e => by have := Option.some.inj e; omega), HB5.out.block _ (by omega), HG4.out.block _ (by have := G2.out; omega) (fun e => by have := Option.some.inj e; omega)]
    exact G4.out
  have HH6 := Lib.hid hH6
  have hz6 : w.heap.size < w6.heap.size := by have := HG6.out.size; omega
  clear hH6 hz4 hz5
  obtain ⟨sf, hsf⟩ : ∃ sf, sf = blocks (padded l) ((padded l).length / 64) := ⟨_, rfl⟩
  have HSF := Lib.hid hsf
  rw [← hsf] at HR6
  clear hsf
  go_wp2_with ((with_reducible show wpList _ _ _ _ _ _); refine wpList_load_mid rfl 161 (.tmp 22) rfl (w.heap.size + 1) 0 rfl sf.cells (.array 8 24) HR6.out Tryz.underlying161 rfl (by kernel_rfl) ?_; go_frame)
  refine (bytes_any sf _).mono ?_
  rintro e w7 ⟨rfl, hb7⟩
  have hH7 : w7.heap[w.heap.size]? = some (.cells (List.replicate 32 (bV 0)).toArray 26 (0, 0)) := by rw [hb7.block _ hz6]; exact HH6.out
  have HH7 := Lib.hid hH7
  have B7 := Lib.hid (B6.out.trans (hb7.mono (by omega)))
  have hl : (sf.bytes.map bV).toArray.size = 32 := by simp [bytes_length]
  have HL2 := Lib.hid hl
  clear hH7 hb7 hl
  go_wp2_with ((with_reducible show wpList _ _ _ _ _ _); refine wpList_store_row rfl 26 (.tmp 2) (.tmp 24) rfl w.heap.size (sf.bytes.map bV).toArray rfl rfl 26 _ HH7.out (by rw [HL2.out]; kernel_rfl) (by rw [HL2.out]; rfl) (bV_one _) ?_; go_frame)
  refine bodyPost_ret (results_cell_row rfl _ _ w.heap.size 26 (sf.bytes.map bV).toArray (0, 0) (.array 32 5) rfl (setRow_heap _ _ _ _ _ _ HH7.out) Tryz.underlying26 rfl (by rw [HL2.out]; kernel_rfl)) rfl ⟨?_, below_setRow B7.out (Nat.le_refl _) _⟩
  rw [HSF.out]
  rfl
end Go.Proofs.YtdhcjaflbfpalaaGreatDoor.Sha

/-
  How the statements' arguments and the listed table read: a slice of bytes or numbers that came in, the table of the rounds' words, a start that fits. No conditions.
-/
namespace Go.Proofs.YtdhcjaflbfpalaaGreatDoor.Sha
open Go Go.ChangeShapes Go.WideShapes Go.ChangeAt Go.RowKit
theorem gTab : Tryz.prog.globalNamed "sargasso/digest.roundWords" = some 4 := by kernel_rfl
theorem gTabType : (Tryz.prog.globals[4]?).map (·.type) = some 184 := by kernel_rfl
theorem cellsTab : Tryz.prog.cellsOf 184 = 64 := by kernel_rfl
theorem cellsU32 : Tryz.prog.cellsOf 24 = 1 := by kernel_rfl
def kInts : List Int := kList.map wv
theorem kInts_get (t : Nat) (h : t < 64) : kInts.getD t 0 = wv (kW t) := by
  unfold kInts kW
  simp only [List.getD, List.getElem?_map]
  rw [List.getElem?_eq_getElem (show t < kList.length from h)]
  rfl
theorem laid_list {H : Type} : (Rows.laid_sargasso_digest_roundWords : DataW H) = Lib.tabData .u32 kInts := rfl
/-- WHAT THE ROW's LIST GIVES: the table's cells. -/
theorem table {W : World} (h : laidMetH Tryz.prog [("sargasso/digest.roundWords", Rows.laid_sargasso_digest_roundWords)] W) : KTab W := by
  rw [laid_list] at h
  have hT := Lib.tabIs_of_head (rest := []) gTab gTabType Tryz.underlying184 Tryz.underlying24 cellsU32 cellsTab h
  intro t ht
  rw [hT.cell gTab t (show t < 64 from ht), kInts_get t ht]
end Go.Proofs.YtdhcjaflbfpalaaGreatDoor.Sha

/-
  What a row that lists 3 errors of package api gives: each is there; a start that fits. No conditions.
-/
namespace Go.Proofs.YtdhcjaflbfpalaaGreatDoor.Sha
open Go Go.ChangeShapes Go.WideShapes Go.ChangeAt Go.RowKit
/-- The listed errors: name, place, text. -/
def errBgList : List (String × Nat × List UInt8) := [("sargasso/api.ErrKnown", 0, [107, 110, 111, 119, 110, 32, 97, 108, 114, 101, 97, 100, 121]), ("sargasso/api.ErrParent", 1, [110, 111, 32, 115, 117, 99, 104, 32, 112, 97, 114, 101, 110, 116]), ("sargasso/api.ErrFull", 2, [116, 104, 101, 114, 101, 32, 105, 115, 32, 110, 111, 32, 114, 111, 111, 109])]
def errBgRow (x : String × Nat × List UInt8) : String × DataW Unit := (x.1, .iface "*errors.errorString" (.ptr (.agg [.lit (.string x.2.2)])))
theorem errBg_globals : (errBgList.all fun x => decide (Tryz.prog.globalNamed x.1 = some x.2.1) && decide ((Tryz.prog.globals[x.2.1]?).map (·.type) = some 45)) = true := by kernel_rfl
theorem errBg_star : "*" ++ "errors.errorString" = "*errors.errorString" := by decide
theorem errBg_ptr (u : TypeId) (h : Tryz.prog.typeName? 3 u = some "*errors.errorString") : u = 188 :=
  typeName_ptr_named (nm := "errors.errorString") (by rw [errBg_star]; kernel_rfl) (by kernel_rfl) (by decide) u (by rw [errBg_star]; exact h)
theorem errBg_cells : Tryz.prog.cellsOf 208 = 1 := by kernel_rfl
theorem errBg_cellsStr : Tryz.prog.cellsOf 9 = 1 := by kernel_rfl
def errBgIs (W : World) (x : String × Nat × List UInt8) (a : Addr) : Prop :=
  W.cell? ⟨x.2.1, 0, none⟩ = some (.iface 188 (.pointer (some a))) ∧ (∃ s, W.cell? a = some (.string s) ∧ s.data.toList = x.2.2) ∧ ∃ c t, W.heap[a.block]? = some (.cells c t (0, 0))
set_option maxRecDepth 100000 in
theorem errBg_head {W : World} {x : String × Nat × List UInt8} {r : List (String × DataW Unit)} (hg : Tryz.prog.globalNamed x.1 = some x.2.1) (ht : (Tryz.prog.globals[x.2.1]?).map (·.type) = some 45) (h : laidMet Tryz.prog (errBgRow x :: r) W) : ∃ a, errBgIs W x a := by
  obtain ⟨a, s, h1, h2, h3, _⟩ := laid_sentinel h hg ht Tryz.underlying45 errBg_ptr Tryz.underlying188 Tryz.underlying208 rfl rfl Tryz.underlying9 errBg_cells errBg_cellsStr
  refine ⟨a, by simpa using World.var?_cell hg h1 0, ⟨s, h2, h3⟩, ?_⟩
  obtain ⟨ps, ⟨g0, t0, cs0, f0, p0, q0, hg0, ht0, hv0, hd0, _, e0⟩, _, hrows⟩ := h
  obtain rfl := Option.some.inj (hg.symm.trans hg0)
  obtain rfl := Option.some.inj (ht.symm.trans ht0)
  subst e0
  obtain ⟨l0⟩ := cs0
  have ok0 : ∀ u v, l0 = [.iface u v] → Value.okWide Tryz.prog W .any 0 u v := fun u v e => by
    subst e
    exact (hrows x.2.1 0 (by simp [MemPlace.row])).2 u v (by simpa using World.var?_cell hg hv0 0)
  obtain ⟨a0, s0, rfl, hc0, hs0, hz0, rfl⟩ := errorString_of_trod Tryz.underlying45 errBg_ptr Tryz.underlying188 Tryz.underlying208 rfl rfl Tryz.underlying9 errBg_cells errBg_cellsStr hd0 ok0
  have ea : a0 = a := by
    have := h1.symm.trans hv0
    simp at this
    exact this.symm
  rw [← ea]
  exact (hrows a0.block a0.off (by simp [MemPlace.row])).1
theorem errBg_all {W : World} (rest : List (String × DataW Unit)) : ∀ l : List (String × Nat × List UInt8), (∀ x ∈ l, Tryz.prog.globalNamed x.1 = some x.2.1 ∧ (Tryz.prog.globals[x.2.1]?).map (·.type) = some 45) → laidMet Tryz.prog (l.map errBgRow ++ rest) W → (∃ E : Nat → Addr, ∀ i x, l[i]? = some x → errBgIs W x (E i)) ∧ laidMet Tryz.prog rest W
  | [], _, h => ⟨⟨fun _ => ⟨0, 0, none⟩, fun i x h => by simp at h⟩, h⟩
  | x :: l, hg, h => by
    obtain ⟨⟨E, hE⟩, hrest⟩ := errBg_all rest l (fun y hy => hg y (List.mem_cons_of_mem _ hy)) (laidMet.tail h)
    obtain ⟨a, ha⟩ := errBg_head (hg x List.mem_cons_self).1 (hg x List.mem_cons_self).2 h
    refine ⟨⟨fun i => match i with | 0 => a | k + 1 => E k, fun i y hy => ?_⟩, hrest⟩
    cases i with
    | zero => simp at hy; subst hy; exact ha
    | succ k => exact hE k y (by simpa using hy)
theorem errBg_each {W : World} (h : laidMetH Tryz.prog Rows.bestGoesRow.laid W) : (∃ E : Nat → Addr, W.cell? ⟨0, 0, none⟩ = some (.iface 188 (.pointer (some (E 8)))) ∧ W.cell? ⟨1, 0, none⟩ = some (.iface 188 (.pointer (some (E 9)))) ∧ W.cell? ⟨2, 0, none⟩ = some (.iface 188 (.pointer (some (E 20))))) ∧ KTab W := by
  have h' : laidMet Tryz.prog (errBgList.map errBgRow ++ [("sargasso/digest.roundWords", Rows.laid_sargasso_digest_roundWords)]) W := h
  obtain ⟨⟨E, hE⟩, hrest⟩ := errBg_all _ errBgList (fun x hx => by
    have := List.all_eq_true.1 errBg_globals x hx
    simp only [Bool.and_eq_true, decide_eq_true_eq] at this
    exact this) h'
  exact ⟨⟨fun i => match i with | 8 => E 0 | 9 => E 1 | 20 => E 2 | _ => E 0, (hE 0 _ rfl).1, (hE 1 _ rfl).1, (hE 2 _ rfl).1⟩, table hrest⟩
/-- A WORLD FOR THE WITNESS: the settled one, each listed error as its initialiser lays it. -/
noncomputable def errBgLow : Nat := (World.holding Tryz.prog default ⟨#[], #[], []⟩).heap.size
noncomputable def errBgWorld (os : Os) : World :=
  let w0 := World.holding Tryz.prog os ⟨(errBgList.map fun x => Obj.cells #[.string ⟨x.2.2.toArray⟩] 208).toArray, #[], []⟩
  { w0 with heap := (errBgList.zipIdx).foldl (fun h x => h.modify x.1.2.1 fun
      | .cells _ t frozen => .cells #[.iface 188 (.pointer (some ⟨errBgLow + x.2, 0, none⟩))] t frozen
      | o => o) (w0.heap.modify 4 fun
      | .cells _ t frozen => .cells (kList.map wV).toArray t frozen
      | o => o) }
end Go.Proofs.YtdhcjaflbfpalaaGreatDoor.Sha

/-
  SHA-256 over plain numbers, made so that the kernel reckons it in a moment (each number is reckoned before it goes on); it is what 'sha' is. No program is imported. No conditions.
-/
namespace Go.Proofs.YtdhcjaflbfpalaaGreatDoor.Sha
open Go
noncomputable section
/-- k n, where n is reckoned first. -/
def frc {α : Type} (n : Nat) (k : Nat → α) : α := Nat.rec (k 0) (fun m _ => k (m + 1)) n
theorem frc_eq {α : Type} (n : Nat) (k : Nat → α) : frc n k = k n := by cases n <;> rfl
def frcL {α : Type} : List Nat → (List Nat → α) → α
  | [], k => k []
  | x :: l, k => frc x fun y => frcL l fun ys => k (y :: ys)
theorem frcL_eq {α : Type} : ∀ (l : List Nat) (k : List Nat → α), frcL l k = k l
  | [], _ => rfl
  | x :: l, k => by show frc x _ = _; rw [frc_eq, frcL_eq l]
def rotN (x n : Nat) : Nat := Nat.lor (Nat.shiftRight x n) (Nat.mod (Nat.shiftLeft x (Nat.sub 32 n)) 4294967296)
def ss0 (x : Nat) : Nat := Nat.xor (Nat.xor (rotN x 7) (rotN x 18)) (Nat.shiftRight x 3)
def ss1 (x : Nat) : Nat := Nat.xor (Nat.xor (rotN x 17) (rotN x 19)) (Nat.shiftRight x 10)
def bb0 (x : Nat) : Nat := Nat.xor (Nat.xor (rotN x 2) (rotN x 13)) (rotN x 22)
def bb1 (x : Nat) : Nat := Nat.xor (Nat.xor (rotN x 6) (rotN x 11)) (rotN x 25)
def rdN (b : Nat → Nat) (t : Nat) : Nat := Nat.lor (Nat.lor (Nat.lor (Nat.shiftLeft (b (4 * t)) 24) (Nat.shiftLeft (b (4 * t + 1)) 16)) (Nat.shiftLeft (b (4 * t + 2)) 8)) (b (4 * t + 3))
def firstA (b : Nat → Nat) : Nat → Nat → List Nat → List Nat
  | 0, _, r => r
  | n + 1, t, r => frc (rdN b t) fun x => firstA b n (t + 1) (x :: r)
def schedN : Nat → List Nat → List Nat
  | 0, r => r
  | n + 1, r => frc (Nat.mod (Nat.add (Nat.add (Nat.add (ss1 (r.getD 1 0)) (r.getD 6 0)) (ss0 (r.getD 14 0))) (r.getD 15 0)) 4294967296) fun x => schedN n (x :: r)
def revA : List Nat → List Nat → List Nat
  | [], r => r
  | x :: l, r => revA l (x :: r)
def kN : List Nat := [
  1116352408, 1899447441, 3049323471, 3921009573, 961987163, 1508970993, 2453635748, 2870763221,
  3624381080, 310598401, 607225278, 1426881987, 1925078388, 2162078206, 2614888103, 3248222580,
  3835390401, 4022224774, 264347078, 604807628, 770255983, 1249150122, 1555081692, 1996064986,
  2554220882, 2821834349, 2952996808, 3210313671, 3336571891, 3584528711, 113926993, 338241895,
  666307205, 773529912, 1294757372, 1396182291, 1695183700, 1986661051, 2177026350, 2456956037,
  2730485921, 2820302411, 3259730800, 3345764771, 3516065817, 3600352804, 4094571909, 275423344,
  430227734, 506948616, 659060556, 883997877, 958139571, 1322822218, 1537002063, 1747873779,
  1955562222, 2024104815, 2227730452, 2361852424, 2428436474, 2756734187, 3204031479, 3329325298]
def rndN : List Nat → List Nat → Nat → Nat → Nat → Nat → Nat → Nat → Nat → Nat → List Nat
  | k :: ks, x :: ws, a, b, c, d, e, f, g, h =>
    frc (Nat.mod (Nat.add (Nat.add (Nat.add (Nat.add h (bb1 e)) (Nat.xor (Nat.land e f) (Nat.land g (Nat.sub 4294967295 e)))) k) x) 4294967296) fun t1 =>
    frc (Nat.mod (Nat.add t1 (Nat.add (bb0 a) (Nat.xor (Nat.xor (Nat.land a b) (Nat.land a c)) (Nat.land b c)))) 4294967296) fun a' =>
    frc (Nat.mod (Nat.add d t1) 4294967296) fun e' => rndN ks ws a' a b c e' e f g
  | _, _, a, b, c, d, e, f, g, h => [a, b, c, d, e, f, g, h]
def addN : List Nat → List Nat → List Nat
  | x :: l, y :: m => Nat.mod (Nat.add x y) 4294967296 :: addN l m
  | _, _ => []
def rnd8 (ws : List Nat) (s : List Nat) : List Nat :=
  match s with
  | [a, b, c, d, e, f, g, h] => rndN kN ws a b c d e f g h
  | _ => []
def compN {α : Type} (s : List Nat) (b : Nat → Nat) (k : List Nat → α) : α := frcL (addN s (rnd8 (revA (schedN 48 (firstA b 16 0 [])) []) s)) k
def blksN {α : Type} (p : List Nat) (k : List Nat → α) : Nat → Nat → List Nat → α
  | 0, _, s => k s
  | n + 1, i, s => compN s (fun j => p.getD (64 * i + j) 0) fun s' => blksN p k n (i + 1) s'
def startN : List Nat := [0x6a09e667, 0xbb67ae85, 0x3c6ef372, 0xa54ff53a, 0x510e527f, 0x9b05688c, 0x1f83d9ab, 0x5be0cd19]
def bytesN : List Nat → List Nat
  | [] => []
  | x :: l => Nat.mod (Nat.shiftRight x 24) 256 :: Nat.mod (Nat.shiftRight x 16) 256 :: Nat.mod (Nat.shiftRight x 8) 256 :: Nat.mod x 256 :: bytesN l
def padN (l : List Nat) : List Nat :=
  let n := l.length
  let p := if n % 64 < 56 then 56 - n % 64 else 120 - n % 64
  l ++ (128 :: List.replicate (p - 1) 0) ++ [8 * n / 2 ^ 56 % 256, 8 * n / 2 ^ 48 % 256, 8 * n / 2 ^ 40 % 256, 8 * n / 2 ^ 32 % 256, 8 * n / 2 ^ 24 % 256, 8 * n / 2 ^ 16 % 256, 8 * n / 2 ^ 8 % 256, 8 * n % 256]
def shaN {α : Type} (l : List Nat) (k : List Nat → α) : α := frcL (padN l) fun p => blksN p (fun s => frcL (bytesN s) k) (p.length / 64) 0 startN
def dblN {α : Type} (l : List Nat) (k : List Nat → α) : α := shaN l fun d => shaN d k
theorem rotr_nat (x : UInt32) (n : Nat) (h1 : 1 ≤ n) (h2 : n ≤ 31) : (rotr x n).toNat = rotN x.toNat n := by
  unfold rotr rotN
  rw [UInt32.toNat_or, UInt32.toNat_shiftRight, UInt32.toNat_shiftLeft]
  have e1 : (UInt32.ofNat n).toNat % 32 = n := by rw [UInt32.toNat_ofNat']; omega
  have e2 : (UInt32.ofNat (32 - n)).toNat % 32 = 32 - n := by rw [UInt32.toNat_ofNat']; omega
  rw [e1, e2]
  rfl
theorem shr_nat (x : UInt32) (n : Nat) (h2 : n ≤ 31) : (x >>> UInt32.ofNat n).toNat = Nat.shiftRight x.toNat n := by
  rw [UInt32.toNat_shiftRight]
  have e1 : (UInt32.ofNat n).toNat % 32 = n := by rw [UInt32.toNat_ofNat']; omega
  rw [e1]
  rfl
theorem sS0_nat (x : UInt32) : (sS0 x).toNat = ss0 x.toNat := by
  unfold sS0 ss0
  rw [UInt32.toNat_xor, UInt32.toNat_xor, rotr_nat _ _ (by omega) (by omega), rotr_nat _ _ (by omega) (by omega), shr_nat _ _ (by omega)]
  rfl
theorem sS1_nat (x : UInt32) : (sS1 x).toNat = ss1 x.toNat := by
  unfold sS1 ss1
  rw [UInt32.toNat_xor, UInt32.toNat_xor, rotr_nat _ _ (by omega) (by omega), rotr_nat _ _ (by omega) (by omega), shr_nat _ _ (by omega)]
  rfl
theorem bS0_nat (x : UInt32) : (bS0 x).toNat = bb0 x.toNat := by
  unfold bS0 bb0
  rw [UInt32.toNat_xor, UInt32.toNat_xor, rotr_nat _ _ (by omega) (by omega), rotr_nat _ _ (by omega) (by omega), rotr_nat _ _ (by omega) (by omega)]
  rfl
theorem bS1_nat (x : UInt32) : (bS1 x).toNat = bb1 x.toNat := by
  unfold bS1 bb1
  rw [UInt32.toNat_xor, UInt32.toNat_xor, rotr_nat _ _ (by omega) (by omega), rotr_nat _ _ (by omega) (by omega), rotr_nat _ _ (by omega) (by omega)]
  rfl
theorem shl_nat (x : UInt8) (n : Nat) (h : n ≤ 24) : (x.toUInt32 <<< UInt32.ofNat n).toNat = Nat.shiftLeft x.toNat n := by
  rw [UInt32.toNat_shiftLeft]
  have e1 : (UInt32.ofNat n).toNat % 32 = n := by rw [UInt32.toNat_ofNat']; omega
  rw [e1]
  have h1 : x.toUInt32.toNat = x.toNat := by simp
  rw [h1]
  show x.toNat <<< n % 2 ^ 32 = x.toNat <<< n
  rw [Nat.shiftLeft_eq]
  refine Nat.mod_eq_of_lt ?_
  have h2 : x.toNat < 256 := x.toNat_lt
  have h3 : (2 : Nat) ^ n ≤ 2 ^ 24 := Nat.pow_le_pow_right (by omega) h
  calc x.toNat * 2 ^ n ≤ 255 * 2 ^ 24 := Nat.mul_le_mul (by omega) h3
    _ < 2 ^ 32 := by decide
theorem rd_nat (b : Nat → UInt8) (t : Nat) : (rd b t).toNat = rdN (fun j => (b j).toNat) t := by
  unfold rd rdN
  rw [UInt32.toNat_or, UInt32.toNat_or, UInt32.toNat_or, shl_nat _ _ (by omega), shl_nat _ _ (by omega), shl_nat _ _ (by omega)]
  have h1 : (b (4 * t + 3)).toUInt32.toNat = (b (4 * t + 3)).toNat := by simp
  rw [h1]
  rfl
/-- A row of words, the last one first. -/
def fzRow (b : Nat → UInt8) (t : Nat) : List Nat := ((row b t).map UInt32.toNat).reverse
theorem fzRow_succ (b : Nat → UInt8) (t : Nat) : fzRow b (t + 1) = (nextW b t (row b t)).toNat :: fzRow b t := by
  unfold fzRow
  show ((row b t ++ [nextW b t (row b t)]).map _).reverse = _
  rw [List.map_append, List.reverse_append]
  rfl
theorem fzRow_get (b : Nat → UInt8) (t i : Nat) (h : i < t) : (fzRow b t).getD i 0 = ((row b t).getD (t - 1 - i) 0).toNat := by
  have hl := row_length b t
  unfold fzRow
  have h1 : t - 1 - i < (row b t).length := by omega
  rw [List.getD_eq_getElem?_getD, List.getD_eq_getElem?_getD, List.getElem?_reverse (by simp; omega), List.length_map, hl, List.getElem?_map, List.getElem?_eq_getElem h1]
  rfl
theorem first_row (b : Nat → UInt8) : ∀ n t, t + n ≤ 16 → firstA (fun j => (b j).toNat) n t (fzRow b t) = fzRow b (t + n)
  | 0, _, _ => rfl
  | n + 1, t, h => by
    show frc _ _ = _
    rw [frc_eq, ← rd_nat, ← nextW_low b t (row b t) (by omega), ← fzRow_succ, first_row b n (t + 1) (by omega)]
    congr 1
    omega
theorem add_nat (x y : UInt32) : (x + y).toNat = (x.toNat + y.toNat) % 4294967296 := UInt32.toNat_add x y
theorem sched_row (b : Nat → UInt8) : ∀ n t, 16 ≤ t → schedN n (fzRow b t) = fzRow b (t + n)
  | 0, _, _ => rfl
  | n + 1, t, h => by
    show frc _ _ = _
    have e : Nat.mod (Nat.add (Nat.add (Nat.add (ss1 ((fzRow b t).getD 1 0)) ((fzRow b t).getD 6 0)) (ss0 ((fzRow b t).getD 14 0))) ((fzRow b t).getD 15 0)) 4294967296 = (nextW b t (row b t)).toNat := by
      rw [fzRow_get b t 1 (by omega), fzRow_get b t 6 (by omega), fzRow_get b t 14 (by omega), fzRow_get b t 15 (by omega), ← sS1_nat, ← sS0_nat, nextW_high b t _ h, add_nat, add_nat, add_nat]
      rw [show t - 1 - 1 = t - 2 from by omega, show t - 1 - 6 = t - 7 from by omega, show t - 1 - 14 = t - 15 from by omega, show t - 1 - 15 = t - 16 from by omega]
      simp only [Nat.mod_add_mod]
      rfl
    rw [frc_eq, e, ← fzRow_succ, sched_row b n (t + 1) (by omega)]
    congr 1
    omega
theorem revA_eq : ∀ (l r : List Nat), revA l r = l.reverse ++ r
  | [], _ => rfl
  | x :: l, r => by show revA l (x :: r) = _; rw [revA_eq l]; simp
theorem rows_all (b : Nat → UInt8) : revA (schedN 48 (firstA (fun j => (b j).toNat) 16 0 [])) [] = (row b 64).map UInt32.toNat := by
  have h1 := first_row b 16 0 (by omega)
  have e0 : fzRow b 0 = [] := rfl
  rw [e0] at h1
  rw [h1, sched_row b 48 16 (by omega), revA_eq]
  show ((row b 64).map UInt32.toNat).reverse.reverse ++ [] = _
  simp
theorem kN_eq : kN = kList.map UInt32.toNat := by decide +kernel
def stN (s : St) : List Nat := [s.a.toNat, s.b.toNat, s.c.toNat, s.d.toNat, s.e.toNat, s.f.toNat, s.g.toNat, s.h.toNat]
theorem not_nat (x : UInt32) : (~~~x).toNat = Nat.sub 4294967295 x.toNat := by
  rw [UInt32.toNat_not]
  rfl
theorem T1_nat (s : St) (k w : UInt32) : (T1 s k w).toNat = Nat.mod (Nat.add (Nat.add (Nat.add (Nat.add s.h.toNat (bb1 s.e.toNat)) (Nat.xor (Nat.land s.e.toNat s.f.toNat) (Nat.land s.g.toNat (Nat.sub 4294967295 s.e.toNat)))) k.toNat) w.toNat) 4294967296 := by
  unfold T1
  rw [add_nat, add_nat, add_nat, add_nat, bS1_nat, UInt32.toNat_xor, UInt32.toNat_and, UInt32.toNat_and, not_nat]
  simp only [Nat.mod_add_mod]
  rfl
theorem T12_nat (s : St) (t : UInt32) : (t + T2 s).toNat = Nat.mod (Nat.add t.toNat (Nat.add (bb0 s.a.toNat) (Nat.xor (Nat.xor (Nat.land s.a.toNat s.b.toNat) (Nat.land s.a.toNat s.c.toNat)) (Nat.land s.b.toNat s.c.toNat)))) 4294967296 := by
  unfold T2
  rw [add_nat, add_nat, bS0_nat, UInt32.toNat_xor, UInt32.toNat_xor, UInt32.toNat_and, UInt32.toNat_and, UInt32.toNat_and]
  simp only [Nat.add_mod_mod]
  rfl
theorem rounds_nat (l : List UInt32) (hl : l.length = 64) (s0 : St) : ∀ n t, t + n = 64 → ∀ s, s = rounds l s0 t →
    rndN ((kList.drop t).map UInt32.toNat) ((l.drop t).map UInt32.toNat) s.a.toNat s.b.toNat s.c.toNat s.d.toNat s.e.toNat s.f.toNat s.g.toNat s.h.toNat = stN (rounds l s0 64)
  | 0, t, h, s, hs => by
    obtain rfl : t = 64 := by omega
    rw [List.drop_of_length_le (by omega : l.length ≤ 64), ← hs, List.drop_of_length_le (by decide : kList.length ≤ 64)]
    rfl
  | n + 1, t, h, s, hs => by
    have hk : t < kList.length := by show t < 64; omega
    have ht : t < l.length := by omega
    have ek : kList[t] = kW t := by unfold kW; rw [List.getD_eq_getElem?_getD, List.getElem?_eq_getElem hk]; rfl
    have el : l[t] = l.getD t 0 := by rw [List.getD_eq_getElem?_getD, List.getElem?_eq_getElem ht]; rfl
    rw [List.drop_eq_getElem_cons hk, List.drop_eq_getElem_cons ht, List.map_cons, List.map_cons, ek, el]
    show frc _ (fun t1 => frc _ (fun a' => frc _ (fun e' => rndN _ _ a' _ _ _ e' _ _ _))) = _
    rw [frc_eq, frc_eq, frc_eq, ← T1_nat, ← T12_nat, show Nat.mod (Nat.add s.d.toNat (T1 s (kW t) (l.getD t 0)).toNat) 4294967296 = (s.d + T1 s (kW t) (l.getD t 0)).toNat from (add_nat _ _).symm]
    exact rounds_nat l hl s0 n (t + 1) (by omega) (s.round (kW t) (l.getD t 0)) (by rw [hs]; rfl)
theorem rnd8_st (ws : List Nat) (s : St) : rnd8 ws (stN s) = rndN kN ws s.a.toNat s.b.toNat s.c.toNat s.d.toNat s.e.toNat s.f.toNat s.g.toNat s.h.toNat := rfl
theorem add_st (s r : St) : addN (stN s) (stN r) = stN (s.plus r) := by
  show addN [_, _, _, _, _, _, _, _] [_, _, _, _, _, _, _, _] = [_, _, _, _, _, _, _, _]
  simp only [addN, St.plus, add_nat]
  rfl
theorem rnd_all (l : List UInt32) (hl : l.length = 64) (s : St) : rnd8 (l.map UInt32.toNat) (stN s) = stN (rounds l s 64) := by
  have h := rounds_nat l hl s 64 0 (by omega) s rfl
  rw [List.drop_zero, List.drop_zero, ← kN_eq, ← rnd8_st] at h
  exact h
theorem comp_eq (s : St) (b : Nat → UInt8) : compress s b = s.plus (rounds (row b 64) s 64) := rfl
theorem comp_nat {α : Type} (s : St) (b : Nat → UInt8) (k : List Nat → α) : compN (stN s) (fun j => (b j).toNat) k = k (stN (compress s b)) := by
  unfold compN
  rw [frcL_eq, rows_all, rnd_all _ (row_length b 64) s, add_st, comp_eq]
theorem getD_nat (l : List UInt8) (i : Nat) : (l.map UInt8.toNat).getD i 0 = (l.getD i 0).toNat := by
  rw [List.getD_eq_getElem?_getD, List.getD_eq_getElem?_getD, List.getElem?_map]
  cases l[i]? <;> rfl
theorem blks_nat {α : Type} (p : List UInt8) (k : List Nat → α) : ∀ n i, blksN (p.map UInt8.toNat) k n i (stN (blocks p i)) = k (stN (blocks p (i + n)))
  | 0, _ => rfl
  | n + 1, i => by
    show compN _ _ _ = _
    have e : (fun j => (p.map UInt8.toNat).getD (64 * i + j) 0) = fun j => ((blk p i) j).toNat := by
      funext j
      exact getD_nat p _
    rw [e, comp_nat]
    show blksN _ k n (i + 1) (stN (blocks p (i + 1))) = _
    rw [blks_nat p k n (i + 1)]
    congr 3
    omega
theorem wb_nat (x : UInt32) : (wordBytes x).map UInt8.toNat = [Nat.mod (Nat.shiftRight x.toNat 24) 256, Nat.mod (Nat.shiftRight x.toNat 16) 256, Nat.mod (Nat.shiftRight x.toNat 8) 256, Nat.mod x.toNat 256] := by
  unfold wordBytes
  simp only [List.map_cons, List.map_nil, UInt32.toNat_toUInt8, shr_nat _ _ (by omega : 24 ≤ 31), shr_nat _ _ (by omega : 16 ≤ 31), shr_nat _ _ (by omega : 8 ≤ 31)]
  rfl
theorem bytes_nat (s : St) : bytesN (stN s) = s.bytes.map UInt8.toNat := by
  unfold St.bytes St.list
  simp only [List.flatMap_cons, List.flatMap_nil, List.map_append, wb_nat, List.map_nil]
  rfl
theorem len8_nat (n : Nat) (k : Nat) : (lenByte n k).toNat = 8 * n / 2 ^ (56 - 8 * k) % 256 := by
  unfold lenByte
  exact UInt8.toNat_ofNat' 
theorem pad_nat (l : List UInt8) : padN (l.map UInt8.toNat) = (padded l).map UInt8.toNat := by
  unfold padN padded pad len8
  simp only [List.map_append, List.length_map, List.map_cons, List.map_replicate, List.map_nil, len8_nat, Nat.mul_zero, Nat.sub_zero, Nat.mul_one, Nat.reduceMul, Nat.reduceSub, Nat.pow_zero, Nat.div_one]
  rfl
theorem sha_nat {α : Type} (l : List UInt8) (k : List Nat → α) : shaN (l.map UInt8.toNat) k = k ((sha l).map UInt8.toNat) := by
  unfold shaN
  rw [frcL_eq, pad_nat, List.length_map]
  have h := blks_nat (padded l) (fun s => frcL (bytesN s) k) ((padded l).length / 64) 0
  have e : stN (blocks (padded l) 0) = startN := rfl
  rw [e] at h
  rw [h, frcL_eq, bytes_nat, Nat.zero_add]
  rfl
theorem dbl_nat {α : Type} (l : List UInt8) (k : List Nat → α) : dblN (l.map UInt8.toNat) k = k ((sha (sha l)).map UInt8.toNat) := by
  unfold dblN
  rw [sha_nat, sha_nat]
end
end Go.Proofs.YtdhcjaflbfpalaaGreatDoor.Sha

/-
  compact.Len, withRoom, lowestFirst, Put, Four and Eight answer what the chapter says, in new memory; nothing that was there turns. Conditions: fewer than 2^46 bytes, which lie where the slice says; numbers of 64 bits.
-/
namespace Go.Proofs.YtdhcjaflbfpalaaGreatDoor.Sha
open Go Go.RowKit
theorem below_made {w w' : World} (h : w.grownBy w' none) : Below w.heap.size w w' := (Below.refl _ _).grown h (Nat.le_refl _) (fun k hk => by cases hk)
/-- New memory: k bytes of room c, which read as bs. -/
def NewB (w w' : World) (k c : Nat) (bs : List UInt8) : Prop :=
  w'.ownsRow w.heap.size 5 1 (.slice (some ⟨w.heap.size, 0, none⟩) k c) k (bs.map bV) ∧ Below w.heap.size w w'
set_option maxRecDepth 100000 in
theorem room_any (bs : List UInt8) (sp : Option Addr) (n cap m : Nat) (km : Int) (hkm : km = (m : Int)) (w : World) (hs : SrcB w (.slice sp n cap) bs) (hn : n ≤ 70368744177664) (hm : m ≤ 9) :
    Calls Tryz.prog 102 #[.slice sp n cap, .int .i64 km] w fun e w' => e = .returned (.slice (some ⟨w.heap.size, 0, none⟩) n (n + m)) ∧ NewB w w' n (n + m) bs := by
  subst hkm
  obtain ⟨i0, hi, hz0, hz1, hz2⟩ := info_parts info_u8
  have hl := hs.le.1
  have HL := Lib.hid hl
  have HS := Lib.hid hs
  clear hl hs
  go_enter Tryz.func102, Tryz.ntmps102
  go_wp2_with (first | (at_make; refine wpList_make_own _ rfl _ _ 89 rfl w.heap.size 5 i0 (.int .u8 0) 1 Tryz.underlying89 hi hz0 hz1 _ _ _ (n + m) rfl rfl (by omega) (by rw [hz2]; omega) (by unfold maxLen; omega) (Nat.le_refl _) ?_; intro w2 hown hgrow; have HO := Lib.hid hown; have HB := Lib.hid (below_made hgrow); clear hown hgrow; go_frame) | (at_builtin; refine wpList_append_src _ rfl _ _ 89 rfl w.heap.size 5 i0 Tryz.underlying89 hi hz1 w.heap.size 0 (n + m) [] rfl HO.out (.slice sp n cap) bs rfl (HS.out.below HB.out) (by have := HL.out; omega) ?_; intro w3 HO3 HG3; go_frame))
  go_ret
  have e : 0 + bs.length = n := by rw [HL.out]; omega
  refine ⟨by rw [e]; rfl, ?_, (HB.out).grown HG3.out HB.out.size (fun k hk => by cases hk; exact Nat.le_refl _)⟩
  have h := HO3.out
  rw [e] at h
  exact h
def LfInv (n width k0 g cap : Nat) (xs : List Value) (w : World) (vb vn vi : Value) (wr : World) : Prop :=
  ∃ k : Nat, k ≤ width ∧ vi = .int .i64 k ∧ vn = .int .u64 ((n / 256 ^ k : Nat) : Int) ∧ vb = .slice (some ⟨g, 0, none⟩) (k0 + k) cap ∧ wr.ownsRow g 5 1 vb (k0 + k) (xs ++ (leB n k).map bV) ∧ Below g w wr
set_option maxHeartbeats 400000 in
set_option maxRecDepth 100000 in
theorem lowest_any (n width g k0 cap : Nat) (kw : Int) (hkw : kw = (width : Int)) (xs : List Value) (w : World) (hw : width ≤ 8) (hcap : k0 + width ≤ cap) (hc2 : cap ≤ 70368744177680) (hg : g < w.heap.size)
    (ho : w.ownsRow g 5 1 (.slice (some ⟨g, 0, none⟩) k0 cap) k0 xs) :
    Calls Tryz.prog 101 #[.slice (some ⟨g, 0, none⟩) k0 cap, .int .u64 n, .int .i64 kw] w fun e w' =>
      e = .returned (.slice (some ⟨g, 0, none⟩) (k0 + width) cap) ∧ w'.ownsRow g 5 1 (.slice (some ⟨g, 0, none⟩) (k0 + width) cap) (k0 + width) (xs ++ (leB n width).map bV) ∧ Below g w w' := by
  subst hkw
  obtain ⟨i0, hi, hz0, hz1, hz2⟩ := info_parts info_u8
  have HO := Lib.hid ho
  clear ho
  go_enter Tryz.func101, Tryz.ntmps101
  go_wp2_with fail
  go_loopw [0, 1, 8] (fun vb vn vi wr => LfInv n width k0 g cap xs w vb vn vi wr) (fun _ _ i _ => width - (intOf i).toNat)
  case atStart => exact ⟨0, by omega, rfl, by simp, rfl, by simpa [leB] using HO.out, Below.refl _ _⟩
  case round =>
    obtain ⟨k, hk, rfl, rfl, rfl, hown, hb⟩ := hrel
    have HO := Lib.hid hown
    have HB := Lib.hid hb
    clear hown hb
    by_cases hlt : k < width
    · obtain ⟨q, hq⟩ : ∃ q, q = n / 256 ^ k := ⟨_, rfl⟩
      have hq2 : n / 256 ^ (k + 1) = q / 256 := by rw [hq, pow_next, Nat.div_div_eq_div_mul]
      have hby : (q : Int) % 256 = bv (UInt8.ofNat q) := by rw [← bv_of, IntKind.wrap_u8']
      obtain ⟨c, hc⟩ : ∃ c, c = UInt8.ofNat q := ⟨_, rfl⟩
      have HT : Hid ((leB n (k + 1)).map bV = (leB n k).map bV ++ [.int .u8 (bv c)]) := by
        show _ = _
        rw [hc, hq, leB, List.map_append]
        rfl
      rw [← hq]
      rw [← hc] at hby
      have HQ2 := Lib.hid hq2
      clear hq hq2 hc
      go_wp2_with (at_builtin; refine wpList_append_fits _ rfl _ _ 89 rfl g 5 i0 1 Tryz.underlying89 hi hz1 g (k0 + k) cap _ rfl (HO.out.alloc _) ⟨wr.heap.size, 0, none⟩ 1 1 [.int .u8 (bv c)] rfl rfl (cell_one_new _ _ _) (one_u8 _) (by omega) ?_; intro w3 hown2 hgrow; have HO3 := Lib.hid hown2; have HG3 := Lib.hid hgrow; clear hown2 hgrow; go_frame)
      go_roundw
      case rel =>
        refine ⟨k + 1, by omega, by go_num, ?_, rfl, ?_, ?_⟩
        · rw [HQ2.out]; rfl
        · rw [HT.out, ← List.append_assoc]
          exact HO3.out
        · have h1 : g ≤ wr.heap.size := by have := HB.out.size; omega
          exact (HB.out.alloc h1 _).grown HG3.out (by simp; omega) (fun j hj => by cases hj; exact Nat.le_refl _)
      case measure => simp [intOf]; omega
    · have hkn : k = width := by omega
      subst hkn
      clear hlt
      go_wp2_with fail
      go_ret
      exact ⟨rfl, HO.out, HB.out⟩
theorem NewB.lt {w w1 : World} {n c : Nat} {bs : List UInt8} (h : NewB w w1 n c bs) : w.heap.size < w1.heap.size := by
  rcases h.1.2 with ⟨h', _⟩ | ⟨g, cap, cur, h', _, hg, _⟩
  · simp at h'
  · simp at h'
    rw [← h'.1] at hg
    exact (Array.getElem?_eq_some_iff.1 hg).1
/-- One byte more. -/
theorem NewB.push {w w1 w3 : World} {n c : Nat} {bs : List UInt8} (x : UInt8) {o : Obj} (h : NewB w w1 n c bs) (ho : w3.ownsRow w.heap.size 5 1 (.slice (some ⟨w.heap.size, 0, none⟩) (n + 1) c) (n + 1) (bs.map bV ++ [.int .u8 (bv x)]))
    (hg : (w1.alloc o).grownBy w3 (some w.heap.size)) : NewB w w3 (n + 1) c (bs ++ [x]) := by
  refine ⟨by rw [List.map_append]; exact ho, (h.2.alloc h.2.size o).grown hg ?_ (fun j hj => by cases hj; exact Nat.le_refl _)⟩
  have := h.lt
  simp
  omega
theorem NewB.low {w w1 w2 : World} {n k c : Nat} {bs cs : List UInt8} (h : NewB w w1 n c bs) (hb : Below w.heap.size w1 w2) (ho : w2.ownsRow w.heap.size 5 1 (.slice (some ⟨w.heap.size, 0, none⟩) k c) k (bs.map bV ++ cs.map bV)) : NewB w w2 k c (bs ++ cs) :=
  ⟨by rw [List.map_append]; exact ho, h.2.trans hb⟩
set_option maxRecDepth 100000 in
theorem four_any (bs : List UInt8) (sp : Option Addr) (n cap x : Nat) (w : World) (hs : SrcB w (.slice sp n cap) bs) (hn : n ≤ 70368744177664) (hx : x ≤ 4294967295) :
    Calls Tryz.prog 75 #[.slice sp n cap, .int .u32 x] w fun e w' => e = .returned (.slice (some ⟨w.heap.size, 0, none⟩) (n + 4) (n + 4)) ∧ NewB w w' (n + 4) (n + 4) (bs ++ leB x 4) := by
  have HS := Lib.hid hs
  clear hs
  go_enter Tryz.func75, Tryz.ntmps75
  go_wp2_with (first | (go_at_call 102; refine (room_any bs sp n cap 4 4 rfl _ HS.out hn (by omega)).mono ?_; rintro e w1 ⟨rfl, hn1⟩; have HN1 := Lib.hid hn1; clear hn1) | (go_at_call 101; refine (lowest_any x 4 w.heap.size n (n + 4) 4 rfl (bs.map bV) _ (by omega) (by omega) (by omega) HN1.out.lt HN1.out.1).mono ?_; rintro e w2 ⟨rfl, ho, hb⟩; have HN2 := Lib.hid (HN1.out.low hb ho); clear ho hb))
  go_ret
  exact ⟨rfl, HN2.out⟩
end Go.Proofs.YtdhcjaflbfpalaaGreatDoor.Sha

/-
  A Reader's Num, Four, Eight, Bytes and Hash answer what the chapter says, and leave what it says. Conditions: the Reader stands as it should; the three errors are there.
-/
namespace Go.Proofs.YtdhcjaflbfpalaaGreatDoor.Sha
open Go Go.RowKit
/-- What Num answers, leaves and meets. -/
def numL (most : Nat) (bs : List UInt8) (c : Nat) : Nat × List UInt8 × Nat :=
  let t := takeL 1 bs c
  let k := widN (leN t.1)
  let u := if k = 0 then t else takeL k t.2.1 t.2.2
  if u.2.2 ≠ 0 then (0, u.2.1, u.2.2) else if lenN (leN u.1) ≠ 1 + k then (0, u.2.1, 2) else if most < leN u.1 then (0, u.2.1, 4) else (leN u.1, u.2.1, 0)
end Go.Proofs.YtdhcjaflbfpalaaGreatDoor.Sha

/-
  A Reader's Four, Eight and Bytes answer what the chapter says, and leave what it says; Hash behind an error answers no digest. Conditions: the Reader stands as it should; the three errors are there.
-/
namespace Go.Proofs.YtdhcjaflbfpalaaGreatDoor.Sha
open Go Go.RowKit
theorem grownBy_below' {w w1 w2 : World} {row : Option Nat} (h : w.grownBy w1 row) (hb : Below w1.heap.size w1 w2) : w.grownBy w2 row := grownBy_trans h (grownBy_of_below hb row)
end Go.Proofs.YtdhcjaflbfpalaaGreatDoor.Sha

/-
  A Reader's Hash answers the next 32 bytes, or no digest, and leaves what the chapter says. Conditions: the Reader stands as it should; the three errors are there.
-/
namespace Go.Proofs.YtdhcjaflbfpalaaGreatDoor.Sha
open Go Go.RowKit
/-- Bytes filled up to a digest's 32. -/
def padH (x : List UInt8) : List UInt8 := x ++ List.replicate (32 - x.length) 0
end Go.Proofs.YtdhcjaflbfpalaaGreatDoor.Sha

/-
  Plain mathematics of readers of bytes, one behind the other: what was written is read again; cut off it ends too early; what is read has just these bytes. No conditions beyond those that each states.
-/
namespace Go.Proofs.YtdhcjaflbfpalaaGreatDoor.Sha
open Go Go.RowKit
/-- A reader of bytes: what it answers, what it leaves, what it met. -/
abbrev Par (α : Type) := List UInt8 → Nat → α × List UInt8 × Nat
def thenP {α β : Type} (p : Par α) (q : α → Par β) : Par β := fun bs c => q (p bs c).1 (p bs c).2.1 (p bs c).2.2
def mapP {α β : Type} (f : α → β) (p : Par α) : Par β := fun bs c => (f (p bs c).1, (p bs c).2)
def manyP {α : Type} (p : Par α) : Nat → Par (List α)
  | 0, bs, c => ([], bs, c)
  | n + 1, bs, c => if c ≠ 0 then ([], bs, c) else thenP p (fun a => mapP (a :: ·) (manyP p n)) bs c
/-- Bytes that it reads whole, whatever stands behind; cut off, they end too early. -/
def Good {α : Type} (p : Par α) (a : α) (x : List UInt8) : Prop := (∀ y, p (x ++ y) 0 = (a, y, 0)) ∧ ∀ k, k < x.length → (p (x.take k) 0).2.2 = 1
/-- An error stays. -/
def Stay {α : Type} (p : Par α) : Prop := ∀ bs c, c ≠ 0 → (p bs c).2.2 = c
/-- What is read stands so to the bytes that it was read from. -/
def BackR {α : Type} (p : Par α) (R : α → List UInt8 → Prop) : Prop := ∀ bs a r, p bs 0 = (a, r, 0) → ∃ x, bs = x ++ r ∧ R a x
section
variable {α β : Type} {p : Par α} {q : α → Par β} {a : α} {b : β} {x y : List UInt8}
theorem Good.andThen (h1 : Good p a x) (h2 : Good (q a) b y) (hs : ∀ a, Stay (q a)) : Good (thenP p q) b (x ++ y) := by
  refine ⟨fun z => ?_, fun k hk => ?_⟩
  · unfold thenP
    rw [List.append_assoc, h1.1]
    exact h2.1 z
  · by_cases h : k < x.length
    · rw [List.take_append_of_le_length (by omega)]
      unfold thenP
      rw [h1.2 k h]
      exact hs _ _ 1 (by omega)
    · rw [List.take_append, List.take_of_length_le (by omega)]
      unfold thenP
      rw [h1.1]
      exact h2.2 (k - x.length) (by rw [List.length_append] at hk; omega)
theorem Good.map (f : α → β) (h : Good p a x) : Good (mapP f p) (f a) x :=
  ⟨fun z => by unfold mapP; rw [h.1], fun k hk => h.2 k hk⟩
theorem Stay.andThen (h1 : Stay p) (h2 : ∀ a, Stay (q a)) : Stay (thenP p q) := fun bs c hc => by
  unfold thenP
  have e := h1 bs c hc
  rw [h2 _ _ _ (by rw [e]; exact hc), e]
theorem Stay.map (f : α → β) (h : Stay p) : Stay (mapP f p) := fun bs c hc => h bs c hc
theorem BackR.andThen {R : α → List UInt8 → Prop} {S : α → β → List UInt8 → Prop} (h1 : BackR p R) (h2 : ∀ a, BackR (q a) (S a)) (hs : ∀ a, Stay (q a)) : BackR (thenP p q) (fun b z => ∃ a x y, z = x ++ y ∧ R a x ∧ S a b y) := by
  intro bs b r h
  unfold thenP at h
  have hc : (p bs 0).2.2 = 0 := by
    by_cases h0 : (p bs 0).2.2 = 0
    · exact h0
    · have e := hs (p bs 0).1 (p bs 0).2.1 (p bs 0).2.2 h0
      rw [h] at e
      exact e.symm
  rw [hc] at h
  obtain ⟨x, e1, r1⟩ := h1 bs (p bs 0).1 (p bs 0).2.1 (Prod.ext rfl (Prod.ext rfl hc))
  obtain ⟨y, e2, r2⟩ := h2 _ _ _ _ h
  exact ⟨x ++ y, by rw [List.append_assoc, ← e2]; exact e1, _, x, y, rfl, r1, r2⟩
theorem BackR.map {R : α → List UInt8 → Prop} (f : α → β) (h : BackR p R) : BackR (mapP f p) (fun b z => ∃ a, b = f a ∧ R a z) := by
  intro bs b r h1
  unfold mapP at h1
  simp only [Prod.mk.injEq] at h1
  obtain ⟨x, e, hr⟩ := h bs (p bs 0).1 r (by rw [← h1.2])
  exact ⟨x, e, _, h1.1.symm, hr⟩
end
/-- So many bytes as a number. -/
def leP (k : Nat) : Par Nat := mapP leN (takeL k)
end Go.Proofs.YtdhcjaflbfpalaaGreatDoor.Sha

/-
  Plain mathematics of a block's header: its bytes; read out of bytes it is what was written, cut off it ends too early, longer it has another shape; any 80 bytes are one header's. No conditions beyond those that each states.
-/
namespace Go.Proofs.YtdhcjaflbfpalaaGreatDoor.Sha
open Go Go.RowKit
structure THd where
  ver : Nat
  prev : List UInt8
  root : List UInt8
  time : Nat
  work : Nat
  nonce : Nat
def HdOk (h : THd) : Prop := h.ver ≤ 4294967295 ∧ h.prev.length = 32 ∧ h.root.length = 32 ∧ h.time ≤ 4294967295 ∧ h.work ≤ 4294967295 ∧ h.nonce ≤ 4294967295
/-- A header's bytes. -/
def hdB (h : THd) : List UInt8 := leB h.ver 4 ++ h.prev ++ h.root ++ leB h.time 4 ++ leB h.work 4 ++ leB h.nonce 4
theorem hdB_length {h : THd} (hh : HdOk h) : (hdB h).length = 80 := by
  simp only [hdB, List.length_append, leB_length, hh.2.1, hh.2.2.1]
end Go.Proofs.YtdhcjaflbfpalaaGreatDoor.Sha

/-
  A header's id, as plain mathematics. No conditions.
-/
namespace Go.Proofs.YtdhcjaflbfpalaaGreatDoor.Sha
open Go Go.RowKit
/-- A header's digest. -/
def hdId (h : THd) : List UInt8 := sha (sha (hdB h))
theorem hdId_length (h : THd) : (hdId h).length = 32 := sha_length _
end Go.Proofs.YtdhcjaflbfpalaaGreatDoor.Sha

/-
  A place (api.Point) as the model has it: 32 bytes and a number, 33 cells; how two are held against each other. Conditions: digests of 32 bytes.
-/
namespace Go.Proofs.YtdhcjaflbfpalaaGreatDoor.Sha
open Go Go.RowKit
/-- A number of 32 bits as a cell. -/
def nV (n : Nat) : Value := .int .u32 (n : Int)
/-- A place: its transaction's digest, its number. -/
def ptL (h : List UInt8) (n : Nat) : List Value := h.map bV ++ [nV n]
theorem ptL_one' (h : List UInt8) (n : Nat) : ∀ v ∈ ptL h n, v.oneCell' = true := by
  intro v hv
  rcases List.mem_append.1 hv with h1 | h1
  · exact bV_one' h v h1
  · obtain rfl : v = nV n := by simpa using h1
    rfl
theorem ptL_one (h : List UInt8) (n : Nat) : (ptL h n).toArray.all (·.oneCell') = true := all_oneCell_toArray (ptL_one' h n)
/-- A whole row is read, in a list, where its guard asks for it. -/
theorem wpList_load_rowG {P : Program} {ops : Array Oper} {rest : List Oper} {o : Oper} {a : Act} {w : World} {Q : Exit → Act → World → Prop} (ty : TypeId) (x : Operand) (ho : o.op = .load ty x)
    (g : Nat) (hx : a.eval x = .pointer (some ⟨g, 0, none⟩)) (t : TypeId) (cs : Array Value) (fr : Nat × Nat) (d : TypeDesc) (hg : w.heap[g]? = some (.cells cs t fr))
    (hu : P.underlying ty = some d) (hd : (match d with | .struct _ | .array _ _ => true | _ => false) = true) (hi : (P.info? ty).map (·.size) = some cs.size) (hw : Region.wanted o (yielded ops a.tmps) = true)
    (h : wpList P ops Q rest (a.put o.dst (.agg cs)) w) : wpList P ops Q (o :: rest) a w :=
  wpList_step fun _ hK => by
    rw [if_pos hw]
    exact wp_load_row ty x ho g hx t cs fr d hg hu hd hi (hK _ _ h)
/-- The place that is none. -/
def nullL : List Value := ptL (List.replicate 32 0) 4294967295
end Go.Proofs.YtdhcjaflbfpalaaGreatDoor.Sha

/-
  A transaction as the model has it: inputs of 35 cells, outputs of 33, rows of them behind slices; what stands in memory keeps standing where only new memory turns. No conditions.
-/
namespace Go.Proofs.YtdhcjaflbfpalaaGreatDoor.Sha
open Go Go.RowKit
structure TIn where
  h : List UInt8
  n : Nat
  key : List UInt8
  seq : Nat
structure TOut where
  val : Nat
  lock : List UInt8
structure TTx where
  ver : Nat
  ins : List TIn
  outs : List TOut
  time : Nat
/-- A number of 64 bits as a cell. -/
def uV (n : Nat) : Value := .int .u64 (n : Int)
/-- An input's cells. -/
def inL (x : TIn) (kv : Value) : List Value := ptL x.h x.n ++ [kv, nV x.seq]
/-- An output's cells. -/
def outL (y : TOut) : List Value := uV y.val :: y.lock.map bV
theorem inL_length (x : TIn) (kv : Value) (h : x.h.length = 32) : (inL x kv).length = 35 := by simp [inL, ptL, h]
theorem outL_length (y : TOut) (h : y.lock.length = 32) : (outL y).length = 33 := by simp [outL, h]
/-- A key as a slice. -/
def KeyAt (w : World) (kv : Value) (key : List UInt8) : Prop := SrcB w kv key ∧ ∃ sp cap, kv = .slice sp key.length cap
theorem KeyAt.below {w w' : World} {kv : Value} {key : List UInt8} (h : KeyAt w kv key) (hb : Below w.heap.size w w') : KeyAt w' kv key := ⟨h.1.below hb, h.2⟩
/-- What may be of an input. -/
def InOk (x : TIn) : Prop := x.h.length = 32 ∧ x.n ≤ 4294967295 ∧ x.seq ≤ 4294967295
def OutOk (y : TOut) : Prop := y.lock.length = 32 ∧ y.val ≤ 18446744073709551615
/-- An input stands in block b from o on. -/
def InAt (w : World) (b o : Nat) (x : TIn) : Prop := InOk x ∧ ∃ kv, KeyAt w kv x.key ∧ w.rangeAt b o (inL x kv)
def OutAt (w : World) (b o : Nat) (y : TOut) : Prop := OutOk y ∧ w.rangeAt b o (outL y)
theorem range_below {w w' : World} {b o : Nat} {cs : List Value} (h : w.rangeAt b o cs) (hb : Below w.heap.size w w') : w'.rangeAt b o cs := fun j v hj => by
  have h1 := h j v hj
  rw [hb.cell (p := ⟨b, o + j, none⟩) (World.block_lt_of_cell? w _ h1)]
  exact h1
theorem InAt.below {w w' : World} {b o : Nat} {x : TIn} (h : InAt w b o x) (hb : Below w.heap.size w w') : InAt w' b o x := by
  obtain ⟨h0, kv, h1, h2⟩ := h
  exact ⟨h0, kv, h1.below hb, range_below h2 hb⟩
theorem OutAt.below {w w' : World} {b o : Nat} {y : TOut} (h : OutAt w b o y) (hb : Below w.heap.size w w') : OutAt w' b o y := ⟨h.1, range_below h.2 hb⟩
/-- A row of inputs behind a slice. -/
def InsAt (w : World) (v : Value) (l : List TIn) : Prop :=
  ∃ sp cap, v = .slice sp l.length cap ∧ l.length ≤ cap ∧ (0 < l.length → ∃ b o, sp = some ⟨b, o, none⟩ ∧ ∀ i x, l[i]? = some x → InAt w b (o + i * 35) x)
def OutsAt (w : World) (v : Value) (l : List TOut) : Prop :=
  ∃ sp cap, v = .slice sp l.length cap ∧ l.length ≤ cap ∧ (0 < l.length → ∃ b o, sp = some ⟨b, o, none⟩ ∧ ∀ i x, l[i]? = some x → OutAt w b (o + i * 33) x)
theorem InsAt.below {w w' : World} {v : Value} {l : List TIn} (h : InsAt w v l) (hb : Below w.heap.size w w') : InsAt w' v l := by
  obtain ⟨sp, cap, h1, h2, h3⟩ := h
  refine ⟨sp, cap, h1, h2, fun h0 => ?_⟩
  obtain ⟨b, o, h4, h5⟩ := h3 h0
  exact ⟨b, o, h4, fun i x hx => (h5 i x hx).below hb⟩
theorem OutsAt.below {w w' : World} {v : Value} {l : List TOut} (h : OutsAt w v l) (hb : Below w.heap.size w w') : OutsAt w' v l := by
  obtain ⟨sp, cap, h1, h2, h3⟩ := h
  refine ⟨sp, cap, h1, h2, fun h0 => ?_⟩
  obtain ⟨b, o, h4, h5⟩ := h3 h0
  exact ⟨b, o, h4, fun i x hx => (h5 i x hx).below hb⟩
/-- A transaction's cells. -/
def txL (t : TTx) (iv ov : Value) : List Value := [nV t.ver, iv, ov, nV t.time]
def TxOk (t : TTx) : Prop := t.ver ≤ 4294967295 ∧ t.time ≤ 4294967295
/-- A transaction by value. -/
def TxAt (w : World) (v : Value) (t : TTx) : Prop := TxOk t ∧ ∃ iv ov, v = .agg (txL t iv ov).toArray ∧ InsAt w iv t.ins ∧ OutsAt w ov t.outs
theorem TxAt.below {w w' : World} {v : Value} {t : TTx} (h : TxAt w v t) (hb : Below w.heap.size w w') : TxAt w' v t := by
  obtain ⟨h0, iv, ov, h1, h2, h3⟩ := h
  exact ⟨h0, iv, ov, h1, h2.below hb, h3.below hb⟩
/-- What of an input lies where. -/
theorem in_hash {w : World} {b o : Nat} {x : TIn} {kv : Value} (h : w.rangeAt b o (inL x kv)) : w.rangeAt b o (x.h.map bV) := fun j v hj => h j v (by
  rw [inL, ptL, List.append_assoc, List.getElem?_append_left (List.getElem?_eq_some_iff.1 hj).1]
  exact hj)
theorem out_val {w : World} {b o : Nat} {y : TOut} (h : w.rangeAt b o (outL y)) : w.cell? ⟨b, o, none⟩ = some (.int .u64 (y.val : Int)) := h 0 _ rfl
theorem out_lock {w : World} {b o : Nat} {y : TOut} (h : w.rangeAt b o (outL y)) : w.rangeAt b (o + 1) (y.lock.map bV) := fun j v hj => by
  have := h (j + 1) v (by rw [outL, List.getElem?_cons_succ]; exact hj)
  rw [show o + 1 + j = o + (j + 1) by omega]
  exact this
end Go.Proofs.YtdhcjaflbfpalaaGreatDoor.Sha

/-
  A transaction's bytes, as the chapter says: how many there are; two that have the same bytes are the same. What is amiss with one, in the chapter's order. No conditions beyond those that each states.
-/
namespace Go.Proofs.YtdhcjaflbfpalaaGreatDoor.Sha
open Go Go.RowKit
def inB (x : TIn) : List UInt8 := x.h ++ leB x.n 4 ++ putL x.key.length ++ x.key ++ leB x.seq 4
def outB (y : TOut) : List UInt8 := leB y.val 8 ++ y.lock
def insB (l : List TIn) : List UInt8 := l.flatMap inB
def outsB (l : List TOut) : List UInt8 := l.flatMap outB
/-- A transaction's bytes. -/
def txB (t : TTx) : List UInt8 := leB t.ver 4 ++ putL t.ins.length ++ insB t.ins ++ putL t.outs.length ++ outsB t.outs ++ leB t.time 4
def InsOk (l : List TIn) : Prop := ∀ x ∈ l, InOk x
def OutsOk (l : List TOut) : Prop := ∀ y ∈ l, OutOk y
theorem outB_length (y : TOut) (h : OutOk y) : (outB y).length = 40 := by simp [outB, leB_length, h.1]
theorem inB_length (x : TIn) (h : InOk x) : (inB x).length = 40 + lenN x.key.length + x.key.length := by simp [inB, leB_length, putL_length, h.1]; omega
theorem outsB_length : ∀ (l : List TOut), OutsOk l → (outsB l).length = 40 * l.length
  | [], _ => rfl
  | y :: l, h => by
    have ih := outsB_length l (fun z hz => h z (List.mem_cons_of_mem _ hz))
    simp only [outsB] at ih
    simp only [outsB, List.flatMap_cons, List.length_append, ih, outB_length y (h y List.mem_cons_self), List.length_cons]
    omega
def KeysLe (l : List TIn) (n : Nat) : Prop := ∀ x ∈ l, x.key.length ≤ n
end Go.Proofs.YtdhcjaflbfpalaaGreatDoor.Sha

/-
  How a transaction that came in by value reads. No conditions.
-/
namespace Go.Proofs.YtdhcjaflbfpalaaGreatDoor.Sha
open Go Go.ChangeShapes Go.WideShapes Go.ChangeAt Go.RowKit Go.Deep
/-- All that is known of a transaction that came in. -/
def TxCame (t : TTx) : Prop := TxOk t ∧ InsOk t.ins ∧ OutsOk t.outs ∧ KeysLe t.ins 9223372036854775807 ∧ t.ins.length ≤ 9223372036854775807 ∧ t.outs.length ≤ 9223372036854775807
end Go.Proofs.YtdhcjaflbfpalaaGreatDoor.Sha

/-
  The statements' own SamePoint tells whether two places are one. Nothing that was there turns. Condition: digests of 32 bytes.
-/
namespace Go.Proofs.YtdhcjaflbfpalaaGreatDoor.Sha
open Go Go.RowKit
theorem same_b (x y : List UInt8) (hx : x.length = 32) (hy : y.length = 32) (b : Bool) (hb : b = decide (x = y)) (w : World) :
    Calls Tryz.prog 17 #[.agg (x.map bV).toArray, .agg (y.map bV).toArray] w fun e w' => e = .returned (.bool b) ∧ Below w.heap.size w w' := by
  subst hb
  exact same_any x y hx hy w
end Go.Proofs.YtdhcjaflbfpalaaGreatDoor.Sha

/-
  The statements' own SameIn, SameOut tell whether two inputs, two outputs are the same. Nothing that was there turns. Conditions: digests of 32 bytes, keys that lie in memory, fewer than 2^46 bytes.
-/
namespace Go.Proofs.YtdhcjaflbfpalaaGreatDoor.Sha
open Go Go.RowKit
theorem range_of_box {w : World} {g : Nat} {cs : List Value} {T : TypeId} {fr : Nat × Nat} (h : w.heap[g]? = some (.cells cs.toArray T fr)) : w.rangeAt g 0 cs := fun j v hj => by
  rw [Nat.zero_add, cell_of_row _ _ _ _ _ _ h, List.getElem?_toArray]
  exact hj
end Go.Proofs.YtdhcjaflbfpalaaGreatDoor.Sha

/-
  The statements' own numbers in bytes and sums (chapter 2) answer what the chapter says; nothing that was there turns but the row that they are given. Conditions: own rows that are short; amounts that lie where the slice says.
-/
namespace Go.Proofs.YtdhcjaflbfpalaaGreatDoor.Sha
open Go Go.RowKit
set_option maxRecDepth 100000 in
theorem rlen_c (n : Nat) (k : Int) (w : World) (hk : ((lenN n : Nat) : Int) = k) :
    Calls Tryz.prog 116 #[.int .u64 n] w fun e w' => e = .returned (.int .i64 k) ∧ w = w' := by
  subst hk
  by_cases h1 : n < 253
  · have e : lenN n = 1 := by unfold lenN; rw [if_pos h1]
    rw [e]
    clear e
    go_enter Tryz.func116, Tryz.ntmps116
    go_wp2
    go_ret
    exact ⟨rfl, rfl⟩
  by_cases h2 : n ≤ 65535
  · have e : lenN n = 3 := by unfold lenN; rw [if_neg h1, if_pos h2]
    rw [e]
    have i1 : ¬ (n : Int) < 253 := by omega
    have i2 : (n : Int) < 65536 := by omega
    clear e h1 h2
    go_enter Tryz.func116, Tryz.ntmps116
    go_wp2
    go_ret
    exact ⟨rfl, rfl⟩
  by_cases h3 : n ≤ 4294967295
  · have e : lenN n = 5 := by unfold lenN; rw [if_neg h1, if_neg h2, if_pos h3]
    rw [e]
    have i1 : ¬ (n : Int) < 253 := by omega
    have i2 : ¬ (n : Int) < 65536 := by omega
    have i3 : (n : Int) < 4294967296 := by omega
    clear e h1 h2 h3
    go_enter Tryz.func116, Tryz.ntmps116
    go_wp2
    go_ret
    exact ⟨rfl, rfl⟩
  · have e : lenN n = 9 := by unfold lenN; rw [if_neg h1, if_neg h2, if_neg h3]
    rw [e]
    have i1 : ¬ (n : Int) < 253 := by omega
    have i2 : ¬ (n : Int) < 65536 := by omega
    have i3 : ¬ (n : Int) < 4294967296 := by omega
    clear e h1 h2 h3
    go_enter Tryz.func116, Tryz.ntmps116
    go_wp2
    go_ret
    exact ⟨rfl, rfl⟩
/-- An own row of bytes, nothing below B turned. -/
def OwnB (base B : Nat) (w0 w : World) (v : Value) (bs : List UInt8) : Prop := w.ownsRow base 5 1 v bs.length (bs.map bV) ∧ Below B w0 w ∧ B ≤ w.heap.size
theorem OwnB.push {base B : Nat} {w0 w w' : World} {v v' : Value} {bs : List UInt8} {o : Obj} (c : UInt8) (h : OwnB base B w0 w v bs) (hB : B ≤ base) (ho : w'.ownsRow base 5 1 v' (bs.length + 1) (bs.map bV ++ [.int .u8 (bv c)])) (hg : (w.alloc o).grownBy w' v.ownBlock) : OwnB base B w0 w' v' (bs ++ [c]) := by
  refine ⟨?_, own_grown (h.2.1.alloc h.2.2 o) hB (by have := h.2.2; simp; omega) (h.1.alloc o) hg, by have := hg.size; have := h.2.2; simp at *; omega⟩
  rw [List.map_append, List.length_append]
  exact ho
end Go.Proofs.YtdhcjaflbfpalaaGreatDoor.Sha
