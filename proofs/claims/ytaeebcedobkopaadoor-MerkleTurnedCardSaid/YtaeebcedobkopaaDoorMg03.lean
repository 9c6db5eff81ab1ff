/-
  Texts of this proof joined into one file: ShaSum, ShaReg, CmpMath, CmpLib, Args, ArgsHash, ShaArgs, Pt, TxData, TxMath, ArgsTx, CmpNum, CmpRdr, TxSame, CmpPut, RefWire, RefBuf, Held, RefTx, TxSm, TxBox. What each holds, and under which conditions, its own first sentence tells.
-/
import Derived.ProofKit
import Derived.OpenShut
import Derived.ShutString
import Derived.ChangeOld
import Derived.Deep.DeepHandedRow
import Derived.Lib.LaidTab
import Derived.Deep.MidRow
import Derived.Stop.BytesEq
import Derived.Deep.Slices
import Derived.Laws.Bits64
import Derived.Laws.Bits64b
import Derived.Laws.BitsAllLaws
import Derived.Stop.IfaceNil
import Derived.Maps.AppendAt
import Derived.Deep.RegionHeld3
import Derived.LaidEql
import Derived.Deep.DeepFit
import Derived.Great.BuildSlice
import Derived.IntWalk
import Derived.Test.YtaeebcedobkopaaDoorMg02
import Derived.Test.YtaeebcedobkopaaDoorMg01
import Derived.Test.YtaeebcedobkopaaDoorProg
import Derived.Test.YtaeebcedobkopaaDoorCards
import Derived.Test.YtaeebcedobkopaaDoorTie
/-
  digest's Writer.Sum answers the SHA-256 of all that was written, and turns nothing that was there. Conditions: the Writer stands as it should, the table is there, fewer than 2^59 bytes were written.
-/
namespace Go.Proofs.YtaeebcedobkopaaDoor.Sha
open Go Go.RowKit
theorem write_some' (l bs : List UInt8) (bb off n1 cap B : Nat) (w : World) (h1 : n1 = bs.length) (hk : KTab w) (hB0 : B ≠ 0) (hbb : bb ≠ B) (hcap : n1 ≤ cap) (hlen : l.length + n1 ≤ 1152921504606846975)
    (hinv : WInv w B l) (hsrc : ∀ j, j < n1 → w.cell? ⟨bb, off + j, none⟩ = some (.int .u8 (bv (bs.getD j 0)))) :
    Calls Tryd.prog 33 #[.pointer (some ⟨B, 0, none⟩), .slice (some ⟨bb, off, none⟩) n1 cap] w fun e w' =>
      e = .returned (.tuple #[]) ∧ WInv w' B (l ++ bs) ∧ w.grownBy w' (some B) := by
  subst h1
  exact write_some l bs bb off cap B w hk hB0 hbb hcap hlen hinv hsrc
def zeroSt : St := ⟨0, 0, 0, 0, 0, 0, 0, 0⟩
/-- A new Writer's cells. -/
def zeroW : Array Value := (zeroSt.cells ++ ((List.replicate 64 0).map bV ++ [Value.int .i64 (0 : Nat)])).toArray
theorem zero_writer (W : World) : (zeroValue 54).run Tryd.prog W = .ok (.agg zeroW) W := by kernel_rfl
theorem zero_inv {w : World} {B : Nat} (h : w.heap[B]? = some (.cells zeroW 54 (0, 0))) : WInv w B [] :=
  ⟨zeroSt, List.replicate 64 0, ⟨by simp, h⟩, fun e => absurd rfl e, rfl⟩
theorem sum_setup (w : World) (z cs : Array Value) (T : TypeId) : Below w.heap.size w (((w.alloc (.cells z T)).alloc (.cells zeroW 54)).setRow (w.heap.size + 1) cs)
    ∧ (((w.alloc (.cells z T)).alloc (.cells zeroW 54)).setRow (w.heap.size + 1) cs).heap.size = w.heap.size + 2
    ∧ (((w.alloc (.cells z T)).alloc (.cells zeroW 54)).setRow (w.heap.size + 1) cs).heap[w.heap.size + 1]? = some (.cells cs 54 (0, 0))
    ∧ (((w.alloc (.cells z T)).alloc (.cells zeroW 54)).setRow (w.heap.size + 1) cs).heap[w.heap.size]? = some (.cells z T (0, 0)) := by
  refine ⟨below_setRow (((Below.refl _ _).alloc (Nat.le_refl _) _).alloc (by simp) _) (Nat.le_succ _) _, by simp, setRow_heap _ _ _ _ _ _ (heap_alloc2_new _ _ _), ?_⟩
  rw [setRow_other _ _ _ _ (by omega)]
  exact heap_alloc2_old _ _ _
/-- The padding's cells, as they stand. -/
def padV : List Value := bV 0x80 :: List.replicate 63 (bV 0)
theorem padV_get (n j : Nat) (h : j < padLen n) : padV[j]? = some (.int .u8 (bv ((pad n).getD j 0))) := by
  have hb := padLen_bd n
  cases j with
  | zero => rfl
  | succ j =>
    have e1 : padV[j + 1]? = (List.replicate 63 (bV 0))[j]? := rfl
    have e2 : (pad n).getD (j + 1) 0 = 0 := by
      show (0x80 :: List.replicate (padLen n - 1) (0 : UInt8)).getD (j + 1) 0 = 0
      simp [List.getD, List.getElem?_replicate]
      split <;> rfl
    rw [e1, e2, List.getElem?_replicate, if_pos (by omega)]
    rfl
theorem KTab.below {w w' : World} (h : KTab w) (hb : Below w.heap.size w w') : KTab w' := fun t ht => by
  rw [hb.cell (p := ⟨0, t, none⟩) (World.block_lt_of_cell? w _ (h t ht))]
  exact h t ht
theorem KTab.pos {w : World} (h : KTab w) : 0 < w.heap.size := World.block_lt_of_cell? w _ (h 0 (by omega))
theorem sum_setup2 {w w2 : World} (o : Obj) (f1 : Below w.heap.size w w2) (f2 : w2.heap.size = w.heap.size + 2) {x y : Obj} (f3 : w2.heap[w.heap.size + 1]? = some x) (f4 : w2.heap[w.heap.size]? = some y) :
    Below w.heap.size w (w2.alloc o) ∧ (w2.alloc o).heap.size = w.heap.size + 3 ∧ (w2.alloc o).heap[w.heap.size + 1]? = some x ∧ (w2.alloc o).heap[w.heap.size]? = some y ∧ (w2.alloc o).heap[w.heap.size + 2]? = some o := by
  refine ⟨f1.alloc (by omega) _, by simp [f2], ?_, ?_, ?_⟩
  · rw [Below.heap_alloc _ _ _ (by omega)]; exact f3
  · rw [Below.heap_alloc _ _ _ (by omega)]; exact f4
  · rw [← f2]; exact heap_alloc_new _ _
theorem WInv.below {w w' : World} {B : Nat} {l : List UInt8} (h : WInv w B l) (hb : Below w.heap.size w w') : WInv w' B l := by
  obtain ⟨s, p, hc, hs, hp⟩ := h
  exact ⟨s, p, hc.kept hb, hs, hp⟩
/-- A whole message's words, ready to be written down. -/
theorem WInv.final {w : World} {B : Nat} {l : List UInt8} (h : WInv w B (l ++ pad l.length ++ len8 l.length)) :
    w.rangeAt B 0 (blocks (padded l) ((padded l).length / 64)).cells := by
  obtain ⟨s, p, hc, hs, _⟩ := h
  have e := hs (by simp [len8])
  intro j v hj
  have hj8 : j < s.cells.length := by rw [St.cells_length]; exact (List.getElem?_eq_some_iff.1 hj).1
  rw [Nat.zero_add, cell_of_row _ _ _ _ _ _ hc.2, List.getElem?_toArray, List.getElem?_append_left hj8, e]
  exact hj
set_option maxHeartbeats 1000000 in
set_option maxRecDepth 100000 in
theorem sum_any (l : List UInt8) (B : Nat) (w : World) (hk : KTab w) (hlen : l.length ≤ 576460752303423487) (hinv : WInv w B l) :
    Calls Tryd.prog 34 #[.pointer (some ⟨B, 0, none⟩)] w fun e w' =>
      e = .returned (.agg ((sha l).map bV).toArray) ∧ Below w.heap.size w w' := by
  obtain ⟨s, p, hc, hs, hp⟩ := hinv
  obtain ⟨n, hn⟩ : ∃ n, n = l.length := ⟨_, rfl⟩
  rw [← hn] at hc hlen
  have hB : B < w.heap.size := (Array.getElem?_eq_some_iff.1 hc.2).1
  obtain ⟨cs, hcs⟩ : ∃ cs, cs = s.cells ++ (p.map bV ++ [Value.int .i64 n]) := ⟨_, rfl⟩
  have hrow := hc.2
  rw [← hcs] at hrow
  have hl : cs.toArray.size = 73 := by simp [hcs, St.cells_length, hc.1]
  have HONE : Hid (cs.toArray.all (·.oneCell') = true) := by
    show _ = _
    rw [Array.all_eq_true_iff_forall_mem]
    intro v hv
    simp only [List.mem_toArray, hcs, List.mem_append, St.cells_list, List.mem_singleton] at hv
    rcases hv with hv | hv | rfl
    · exact (Array.all_eq_true_iff_forall_mem.1 (wV_one s.list)) v (by simpa using hv)
    · exact bV_one' p v hv
    · rfl
  have HL := Lib.hid hl
  have HROW := Lib.hid hrow
  have HCS := Lib.hid hcs
  have c72 := hc.size
  have HC := Lib.hid hc
  have HS := Lib.hid hs
  have HP := Lib.hid hp
  have HK := Lib.hid hk
  have HN := Lib.hid hn
  clear hl hrow hcs hc hs hp hk hn
  have hzw := zero_writer
  go_enter Tryd.func34, Tryd.ntmps34
  go_upto_region 2 with ((with_reducible show wpList _ _ _ _ _ _); first | (refine wpList_load_row rfl 54 (.tmp 6) rfl B rfl 54 cs.toArray (0, 0) _ ((Below.heap_alloc _ _ B hB).trans HROW.out) Tryd.underlying54 rfl (by rw [HL.out]; kernel_rfl) ?_; go_frame) | (refine wpList_store_row rfl 54 (.tmp 3) (.tmp 7) rfl (w.heap.size + 1) cs.toArray rfl rfl 54 _ (heap_alloc2_new _ _ _) (by rw [HL.out]; kernel_rfl) (by rw [HL.out]; rfl) HONE.out ?_; go_frame))
  obtain ⟨f1, f2, f3, f4⟩ := sum_setup w (List.replicate 32 (bV 0)).toArray cs.toArray 24
  generalize hw2 : World.setRow _ _ _ = w2
  have e2 : (((w.alloc (.cells (List.replicate 32 (bV 0)).toArray 24)).alloc (.cells zeroW 54)).setRow (w.heap.size + 1) cs.toArray) = w2 := hw2
  rw [e2] at f1 f2 f3 f4
  clear hw2 e2 c72 hzw
  have F1 := Lib.hid f1
  have F3 := Lib.hid f3
  have F4 := Lib.hid f4
  clear f1 f3 f4
  go_upto_region 4 with (fail)
  obtain ⟨g1, g2, g3, g4, g5⟩ := sum_setup2 (.cells padV.toArray 52) F1.out f2 F3.out F4.out
  generalize hw3 : World.alloc _ _ = w3
  have e3 : w2.alloc (.cells padV.toArray 52) = w3 := hw3
  rw [e3] at g1 g2 g3 g4 g5
  clear hw3 e3 f2 F1 F3 F4
  have c72 : w3.cell? ⟨B, 72, none⟩ = some (.int .i64 n) := by rw [g1.cell (p := ⟨B, 72, none⟩) hB]; exact HC.out.size
  have hI : WInv w3 (w.heap.size + 1) l := by
    refine ⟨s, p, ?_, HS.out, HP.out⟩
    rw [← HN.out]
    exact ⟨HC.out.1, by rw [g3, HCS.out]⟩
  have hK : KTab w3 := HK.out.below g1
  have hS : ∀ j, j < padLen n → w3.cell? ⟨w.heap.size + 2, 0 + j, none⟩ = some (.int .u8 (bv ((pad n).getD j 0))) := fun j hj => by
    rw [cell_of_row _ _ _ _ _ _ g5, Nat.zero_add, List.getElem?_toArray]
    exact padV_get n j hj
  have hb := padLen_bd n
  have hb1 : ((padLen n : Nat) : Int) ≤ 64 := by omega
  have HB := Lib.hid hb
  have HI := Lib.hid hI
  have HK3 := Lib.hid hK
  have HS3 := Lib.hid hS
  have G1 := Lib.hid g1
  have G2 := Lib.hid g2
  have G4 := Lib.hid g4
  clear hI hK hS g1 g2 g3 g4 g5 hb
  go_wp2_with (go_at_call 39; refine (pad_any n _ (by omega)).mono ?_; rintro e w' ⟨rfl, rfl⟩)
  refine (write_some' l (pad n) (w.heap.size + 2) 0 (padLen n) 64 (w.heap.size + 1) w3 (pad_length n).symm HK3.out (by have := HK.out.pos; omega) (by omega) HB.out.2.1 (by have := HB.out; have := HN.out; omega) HI.out HS3.out).mono ?_
  rintro e w4 ⟨rfl, hI4, hG4⟩
  have c72' : w4.cell? ⟨B, 72, none⟩ = some (.int .i64 n) := hG4.cell c72 (fun e => by have := Option.some.inj e; simp at this; omega)
  have HI4 := Lib.hid hI4
  have HG4 := Lib.hid hG4
  clear hI4 hG4 c72 hb1 HI HS3
  go_wp2_with (go_at_call 40; refine (bits_any n _ (by omega)).mono ?_; rintro e w5 ⟨rfl, ho5, hb5⟩; have HO5 := Lib.hid ho5; have HB5 := Lib.hid hb5; clear ho5 hb5)
  have hS : ∀ j, j < 8 → w5.cell? ⟨w4.heap.size, 0 + j, none⟩ = some (.int .u8 (bv ((len8 n).getD j 0))) := fun j hj => by
    rw [← Addr.add_mid]
    refine HO5.out.cells (g := w4.heap.size) rfl j _ ?_
    rw [List.getElem?_map, List.getElem?_eq_getElem (show j < (len8 n).length from hj)]
    simp [bV, List.getD, List.getElem?_eq_getElem (show j < (len8 n).length from hj)]
  have hz4 : w.heap.size + 3 ≤ w4.heap.size := by have := HG4.out.size; have := G2.out; omega
  have B4 := Lib.hid (grownBy_below HG4.out G1.out (Nat.le_succ _) (by have := G2.out; omega))
  have B5 := Lib.hid (B4.out.trans (HB5.out.mono (by omega)))
  have HS5 := Lib.hid hS
  clear hS
  refine (write_some' (l ++ pad n) (len8 n) w4.heap.size 0 8 8 (w.heap.size + 1) w5 rfl (HK.out.below B5.out) (by have := HK.out.pos; omega) (by omega) (Nat.le_refl _)
    (by have := HB.out; have := HN.out; rw [List.length_append, pad_length]; omega) (HI4.out.below HB5.out) HS5.out).mono ?_
  rintro e w6 ⟨rfl, hI6, hG6⟩
  rw [HN.out] at hI6
  have HR6 := Lib.hid hI6.final
  have hz5 : w.heap.size + 3 ≤ w5.heap.size := by have := HB5.out.size; omega
  have B6 := Lib.hid (grownBy_below hG6 B5.out (Nat.le_succ _) (by omega))
  have HG6 := Lib.hid hG6
  clear hI6 hG6 c72'
  have hH6 : w6.heap[w.heap.size]? = some (.cells (List.replicate 32 (bV 0)).toArray 24 (0, 0)) := by
    rw [HG6.out.block _ (by omega) (fun e => by have := Option.some.inj e; omega), HB5.out.block _ (by omega), HG4.out.block _ (by have := G2.out; omega) (fun e => by have := Option.some.inj e; omega)]
    exact G4.out
  have HH6 := Lib.hid hH6
  have hz6 : w.heap.size < w6.heap.size := by have := HG6.out.size; omega
  clear hH6 hz4 hz5
  obtain ⟨sf, hsf⟩ : ∃ sf, sf = blocks (padded l) ((padded l).length / 64) := ⟨_, rfl⟩
  have HSF := Lib.hid hsf
  rw [← hsf] at HR6
  clear hsf
  go_wp2_with ((with_reducible show wpList _ _ _ _ _ _); refine wpList_load_mid rfl 51 (.tmp 22) rfl (w.heap.size + 1) 0 rfl sf.cells (.array 8 50) HR6.out Tryd.underlying51 rfl (by kernel_rfl) ?_; go_frame)
  refine (bytes_any sf _).mono ?_
  rintro e w7 ⟨rfl, hb7⟩
  have hH7 : w7.heap[w.heap.size]? = some (.cells (List.replicate 32 (bV 0)).toArray 24 (0, 0)) := by rw [hb7.block _ hz6]; exact HH6.out
  have HH7 := Lib.hid hH7
  have B7 := Lib.hid (B6.out.trans (hb7.mono (by omega)))
  have hl : (sf.bytes.map bV).toArray.size = 32 := by simp [bytes_length]
  have HL2 := Lib.hid hl
  clear hH7 hb7 hl
  go_wp2_with ((with_reducible show wpList _ _ _ _ _ _); refine wpList_store_row rfl 24 (.tmp 2) (.tmp 24) rfl w.heap.size (sf.bytes.map bV).toArray rfl rfl 24 _ HH7.out (by rw [HL2.out]; kernel_rfl) (by rw [HL2.out]; rfl) (bV_one _) ?_; go_frame)
  refine bodyPost_ret (results_cell_row rfl _ _ w.heap.size 24 (sf.bytes.map bV).toArray (0, 0) (.array 32 5) rfl (setRow_heap _ _ _ _ _ _ HH7.out) Tryd.underlying24 rfl (by rw [HL2.out]; kernel_rfl)) rfl ⟨?_, below_setRow B7.out (Nat.le_refl _) _⟩
  rw [HSF.out]
  rfl
end Go.Proofs.YtaeebcedobkopaaDoor.Sha

/-
  A region that draws its order, whose operations only read and whose callees make memory but turn none that was there: one walk in the text's order serves every order. A slice cut from one that reads as bytes reads as those bytes' part. No conditions beyond those that each states.
-/
namespace Go.Proofs.YtaeebcedobkopaaDoor.Sha
open Go Go.RowKit
theorem same_true (x y : List UInt8) (hxy : x = y) (hx : x.length = 32) (w : World) :
    Calls Tryd.prog 13 #[.agg (x.map bV).toArray, .agg (y.map bV).toArray] w fun e w' => e = .returned (.bool true) ∧ Below w.heap.size w w' := by
  subst hxy
  have := same_any x x hx hx w
  rw [decide_eq_true rfl] at this
  exact this
end Go.Proofs.YtaeebcedobkopaaDoor.Sha

/-
  Plain mathematics of chapter 2: a number's lowest bytes, the lowest first, what bytes are as a number, a number in the fewest bytes, sums of amounts. No program is imported. No conditions.
-/
namespace Go.Proofs.YtaeebcedobkopaaDoor.Sha
open Go
/-- The lowest k bytes of n, the lowest first. -/
def leB (n : Nat) : Nat → List UInt8
  | 0 => []
  | k + 1 => leB n k ++ [UInt8.ofNat (n / 256 ^ k)]
theorem leB_length (n : Nat) : ∀ k, (leB n k).length = k
  | 0 => rfl
  | k + 1 => by simp [leB, leB_length n k]
/-- What bytes are as a number. -/
def leN : List UInt8 → Nat
  | [] => 0
  | x :: l => x.toNat + 256 * leN l
/-- How many bytes Put writes. -/
def lenN (n : Nat) : Nat := if n < 253 then 1 else if n ≤ 65535 then 3 else if n ≤ 4294967295 then 5 else 9
/-- The number in the fewest bytes. -/
def putL (n : Nat) : List UInt8 := if n < 253 then [UInt8.ofNat n] else if n ≤ 65535 then 253 :: leB n 2 else if n ≤ 4294967295 then 254 :: leB n 4 else 255 :: leB n 8
theorem putL_length (n : Nat) : (putL n).length = lenN n := by
  unfold putL lenN
  split
  · rfl
  · split
    · simp [leB_length]
    · split <;> simp [leB_length]
theorem lenN_bd (n : Nat) : 1 ≤ lenN n ∧ lenN n ≤ 9 := by unfold lenN; split <;> (try split) <;> (try split) <;> omega
/-- The greatest sum of amounts. -/
def most : Nat := 2100000000000000
end Go.Proofs.YtaeebcedobkopaaDoor.Sha

/-
  Laws for walks: bytes that are read somewhere put behind an own row that has room, or that grows; slices that read as numbers of 64 bits. No conditions beyond those that each states.
-/
namespace Go.Proofs.YtaeebcedobkopaaDoor.Sha
open Go Go.RowKit
theorem run_append_src0 {P : Program} {w : World} (base : Nat) (t ty e : TypeId) (i : TypeInfo) (ht : P.underlying t = some (.slice e)) (hi : P.info? e = some i)
    (g n cap : Nat) (xs : List Value) (hown : w.ownsRow base e i.size (.slice (some ⟨g, 0, none⟩) n cap) n xs) (sp : Option Addr) (c : Nat) :
    (Builtin.append_ #[t, t] ty #[.slice (some ⟨g, 0, none⟩) n cap, .slice sp 0 c]).run P w = .ok (.slice (some ⟨g, 0, none⟩) n cap) w := by
  rcases hown.2 with ⟨h, _⟩ | ⟨g', cap', cur, h, _, _, hnc, _⟩
  · simp at h
  · simp only [Value.slice.injEq, Option.some.injEq, Addr.mk.injEq, and_true, true_and] at h
    obtain ⟨rfl, rfl⟩ := h
    cases sp with
    | none => simp [Builtin.append_, run_underlying ht, sizeOf, typeInfo, hi, Builtin.lenOf, Builtin.firstCells, hnc, storeCells]
    | some ad => simp [Builtin.append_, run_underlying ht, sizeOf, typeInfo, hi, Builtin.lenOf, Builtin.firstCells, hnc, storeCells, loadCells, loadCellsFrom]
/-- 'append(own, bs...)', with room. -/
theorem wpList_append_src {P : Program} (w : World) {ops : Array Oper} {rest : List Oper} {o : Oper} {a : Act} {Q : Exit → Act → World → Prop}
    (hg : o.guard = none) (s x : Operand) (t : TypeId) (hop : o.op = Op.call { callee := Callee.builtin Builtin.append, args := #[s, x], argTypes := #[t, t] })
    (base : Nat) (e : TypeId) (i : TypeInfo) (h1 : P.underlying t = some (.slice e)) (h2 : P.info? e = some i) (h4 : i.size = 1)
    (g k cap : Nat) (xs : List Value) (hs : a.eval s = .slice (some ⟨g, 0, none⟩) k cap) (hown : w.ownsRow base e 1 (.slice (some ⟨g, 0, none⟩) k cap) k xs) (v : Value) (bs : List UInt8) (hx : a.eval x = v) (hsrc : SrcB w v bs) (b1 : k + bs.length ≤ cap)
    (hK : ∀ w', Hid (w'.ownsRow base e 1 (.slice (some ⟨g, 0, none⟩) (k + bs.length) cap) (k + bs.length) (xs ++ bs.map bV)) → Hid (w.grownBy w' (some g)) → wpList P ops Q rest (a.put o.dst (.slice (some ⟨g, 0, none⟩) (k + bs.length) cap)) w') :
    wpList P ops Q (o :: rest) a w := by
  rcases hsrc with ⟨sp, c, rfl, rfl⟩ | ⟨h0, bb, off, c, rfl, hc, hcell⟩
  · refine wpList_plain hg fun K hK' => ?_
    have hrun := run_append_src0 (P := P) (w := w) base t o.type e i h1 h2 g k cap xs (by rw [h4]; exact hown) sp c
    unfold Oper.wp
    simp [execOp, hop, resolve, invoke, builtin, hs, hx, hrun, Result.andThen]
    refine hK' _ _ (hK w ?_ (grownBy_refl _ _))
    show w.ownsRow _ _ _ _ _ _
    simpa using hown
  · exact wpList_append_fits w hg s x t hop base e i 1 h1 h2 h4 g k cap xs hs hown ⟨bb, off, none⟩ bs.length c (bs.map bV) hx (by simp)
      (fun j u hu => by
        rw [List.getElem?_map] at hu
        obtain ⟨b, hb, rfl⟩ := Option.map_eq_some_iff.1 hu
        have hj := (List.getElem?_eq_some_iff.1 hb).1
        rw [Addr.add_mid, hcell j hj]
        simp [bV, List.getD, hb])
      (bV_one' bs) b1 hK
theorem run_append_any0 {P : Program} {w : World} (base : Nat) (t ty e : TypeId) (i : TypeInfo) (ht : P.underlying t = some (.slice e)) (hi : P.info? e = some i)
    (v : Value) (n : Nat) (xs : List Value) (hown : w.ownsRow base e i.size v n xs) (sp : Option Addr) (c : Nat) :
    (Builtin.append_ #[t, t] ty #[v, .slice sp 0 c]).run P w = .ok v w := by
  rcases hown.2 with ⟨rfl, _⟩ | ⟨g, cap, cur, rfl, hr⟩
  · cases sp with
    | none => simp [Builtin.append_, run_underlying ht, sizeOf, typeInfo, hi, Builtin.lenOf, Builtin.firstCells]
    | some ad => simp [Builtin.append_, run_underlying ht, sizeOf, typeInfo, hi, Builtin.lenOf, Builtin.firstCells, loadCells, loadCellsFrom]
  · exact run_append_src0 base t ty e i ht hi g n cap xs hown sp c
/-- 'append(own, bs...)', whatever stands in either. -/
theorem wpList_append_any {P : Program} (w : World) {ops : Array Oper} {rest : List Oper} {o : Oper} {a : Act} {Q : Exit → Act → World → Prop}
    (hg : o.guard = none) (s x : Operand) (t : TypeId) (hop : o.op = Op.call { callee := Callee.builtin Builtin.append, args := #[s, x], argTypes := #[t, t] })
    (base : Nat) (e : TypeId) (i : TypeInfo) (h1 : P.underlying t = some (.slice e)) (h2 : P.info? e = some i) (hz : i.zero = some (.int .u8 0)) (h4 : i.size = 1) (h5 : i.bytes = 1)
    (v : Value) (k : Nat) (xs : List Value) (hs : a.eval s = v) (hown : w.ownsRow base e 1 v k xs) (y : Value) (bs : List UInt8) (hx : a.eval x = y) (hsrc : SrcB w y bs) (hlen : k + bs.length ≤ 70368744177680) (hbase : base ≤ w.heap.size)
    (hK : ∀ v' w', Hid (w'.ownsRow base e 1 v' (k + bs.length) (xs ++ bs.map bV)) → Hid (w.grownBy w' v.ownBlock) → wpList P ops Q rest (a.put o.dst v') w') :
    wpList P ops Q (o :: rest) a w := by
  rcases hsrc with ⟨sp, c, rfl, rfl⟩ | ⟨h0, bb, off, c, rfl, hc, hcell⟩
  · refine wpList_plain hg fun K hK' => ?_
    have hrun := run_append_any0 (P := P) (w := w) base t o.type e i h1 h2 v k xs (by rw [h4]; exact hown) sp c
    unfold Oper.wp
    simp [execOp, hop, resolve, invoke, builtin, hs, hx, hrun, Result.andThen]
    refine hK' _ _ (hK v w ?_ (grownBy_refl _ _))
    show w.ownsRow _ _ _ _ _ _
    simpa using hown
  · refine wpList_append_own w hg s x t hop base e i (.int .u8 0) 1 1 h1 h2 hz h4 h5 rfl (by decide) v k xs hs hown ⟨bb, off, none⟩ bs.length c (bs.map bV) hx (by simp)
      (fun j u hu => by
        rw [List.getElem?_map] at hu
        obtain ⟨b, hb, rfl⟩ := Option.map_eq_some_iff.1 hu
        have hj := (List.getElem?_eq_some_iff.1 hb).1
        rw [Addr.add_mid, hcell j hj]
        simp [bV, List.getD, hb])
      (bV_one' bs) (by unfold maxLen; omega) (by omega) hbase (fun v' w' a1 a2 _ => hK v' w' a1 a2)
/-- What is new stays new when its own row grows. -/
theorem own_grown {B : Nat} {w0 w w' : World} {base size n : Nat} {e : TypeId} {v : Value} {xs : List Value} (hb : Below B w0 w) (hB : B ≤ base) (hs : B ≤ w.heap.size) (h : w.ownsRow base e size v n xs) (hg : w.grownBy w' v.ownBlock) : Below B w0 w' := by
  refine hb.grown hg hs ?_
  intro k hk
  rcases h.2 with ⟨rfl, _⟩ | ⟨g, cap, cur, rfl, hbg, _⟩
  · cases hk
  · simp [Value.ownBlock] at hk
    omega
theorem own_len {w : World} {base n : Nat} {e : TypeId} {v : Value} {bs : List UInt8} (h : w.ownsRow base e 1 v n (bs.map bV)) : n = bs.length := by
  have := h.1
  rw [List.length_map] at this
  omega
/-- An own row, nil too, as a source. -/
theorem src_own {w : World} {base n : Nat} {v : Value} {bs : List UInt8} (h : w.ownsRow base 5 1 v n (bs.map bV)) : SrcB w v bs := by
  by_cases hn : 0 < n
  · exact src_of_own_any hn h
  · have hl := own_len h
    have hb : bs = [] := List.eq_nil_of_length_eq_zero (by omega)
    rcases h.2 with ⟨rfl, _⟩ | ⟨g, cap, cur, rfl, _⟩
    · exact .inl ⟨_, _, rfl, hb⟩
    · exact .inl ⟨_, _, by rw [show n = 0 by omega], hb⟩
theorem own_kept {w w' : World} {base n size : Nat} {e : TypeId} {v : Value} {xs : List Value} (h : w.ownsRow base e size v n xs) (hb : Below w.heap.size w w') : w'.ownsRow base e size v n xs := by
  refine h.kept (row := none) ⟨hb.os, hb.tape, hb.output, hb.size, fun k hk _ => hb.block k hk⟩ ?_
  cases hv : v.ownBlock with
  | none => exact .inl rfl
  | some b => exact .inr (by simp)
theorem own_base {w : World} {base base' n size : Nat} {e : TypeId} {v : Value} {xs : List Value} (h : w.ownsRow base e size v n xs) (hb : base' ≤ base) : w.ownsRow base' e size v n xs := by
  refine ⟨h.1, ?_⟩
  rcases h.2 with h' | ⟨g, cap, cur, hv, hbg, r⟩
  · exact .inl h'
  · exact .inr ⟨g, cap, cur, hv, Nat.le_trans hb hbg, r⟩
/-- The slice v reads as these numbers of 64 bits. -/
def SrcU (w : World) (v : Value) (l : List Nat) : Prop :=
  (∃ sp cap, v = .slice sp 0 cap ∧ l = []) ∨
  (0 < l.length ∧ ∃ bb off cap, v = .slice (some ⟨bb, off, none⟩) l.length cap ∧ l.length ≤ cap ∧ ∀ j, j < l.length → w.cell? ⟨bb, off + j, none⟩ = some (.int .u64 (l.getD j 0 : Nat)))
theorem SrcU.below {w w' : World} {v : Value} {l : List Nat} (h : SrcU w v l) (hb : Below w.heap.size w w') : SrcU w' v l := by
  rcases h with h | ⟨h0, bb, off, cap, hv, hc, hs⟩
  · exact .inl h
  · exact .inr ⟨h0, bb, off, cap, hv, hc, fun j hj => by
      rw [hb.cell (p := ⟨bb, off + j, none⟩) (World.block_lt_of_cell? w _ (hs j hj))]
      exact hs j hj⟩
theorem SrcU.len {w : World} {sp : Option Addr} {n cap : Nat} {l : List Nat} (h : SrcU w (.slice sp n cap) l) : n = l.length := by
  rcases h with ⟨sp', cap', hv, rfl⟩ | ⟨_, _, _, _, hv, _, _⟩
  · cases hv; rfl
  · cases hv; rfl
end Go.Proofs.YtaeebcedobkopaaDoor.Sha

/-
  How the statements' arguments read: a slice of bytes or numbers that came in; a start that fits. No conditions.
-/
namespace Go.Proofs.YtaeebcedobkopaaDoor.Sha
open Go Go.ChangeShapes Go.WideShapes Go.ChangeAt Go.RowKit
theorem own : ownKnob Tryd.prog.godebug = none := by kernel_rfl
theorem laidOut : laidOutB Tryd.prog = true := by kernel_rfl
/-- A slice of integers that came in. -/
def IsRow (k : IntKind) (w : World) (a : Option Addr) (len cap : Nat) (zs : List Int) : Prop :=
  (a = none ∧ len = 0 ∧ cap = 0 ∧ zs = []) ∨
  ∃ x, a = some x ∧ len ≤ cap ∧ cap ≤ maxLen ∧ zs.length = cap ∧ (∀ i, i < zs.length → w.cell? (x.add i) = some (.int k (zs.getD i 0))) ∧ ∀ n ∈ zs, (Lit.int k n).wf = true
theorem byte_of {z : Int} (h : (Lit.int .u8 z).wf = true) : bv (UInt8.ofNat z.toNat) = z := by
  have hb := bounds_u8 h
  unfold bv
  rw [UInt8.toNat_ofNat']
  omega
theorem IsRow.len {k : IntKind} {w : World} {a : Option Addr} {len cap : Nat} {zs : List Int} (h : IsRow k w a len cap zs) : len ≤ 9223372036854775807 := by
  rcases h with ⟨rfl, rfl, rfl, rfl⟩ | ⟨x, rfl, hl, hm, _⟩
  · omega
  · unfold maxLen at hm; omega
end Go.Proofs.YtaeebcedobkopaaDoor.Sha

/-
  How a digest that came in by value reads. No conditions.
-/
namespace Go.Proofs.YtaeebcedobkopaaDoor.Sha
open Go Go.ChangeShapes Go.WideShapes Go.ChangeAt Go.RowKit
/-- A digest's cells. -/
theorem hash_cells {H : Type} {enc : TypeId × Value → H} {W : World} {fuel : Nat} {cs : List Value} {x : DataW H × List MemPlace} (hf : DataW.trod enc Tryd.prog W 0 (fun _ => true) true fuel 24 cs = some x) :
    ∃ bs : List UInt8, bs.length = 32 ∧ cs = bs.map bV := by
  have c5 : Tryd.prog.cellsOf 5 = 1 := by kernel_rfl
  have c25 : Tryd.prog.cellsOf 24 = 32 := by kernel_rfl
  obtain ⟨xs, m, _, _, hlen, hxl, hel⟩ := DataW.trod_array Tryd.underlying24 hf
  rw [c25] at hlen
  have each : ∀ i (hi : i < cs.length), bV (UInt8.ofNat (intOf (cs[i])).toNat) = cs[i] := by
    intro i hi
    have h1 := hel i (by omega)
    rw [c5, Nat.mul_one, List.getElem?_eq_getElem (show i < xs.length by omega)] at h1
    obtain ⟨n, hn, _, hw⟩ := DataW.trod_int Tryd.underlying5 h1
    have h2 : cs[i]? = some (.int .u8 n) := by
      have := congrArg (·[0]?) hn
      simpa [List.getElem?_take, List.getElem?_drop] using this
    rw [List.getElem?_eq_getElem hi] at h2
    rw [Option.some.inj h2]
    show Value.int .u8 (bv (UInt8.ofNat n.toNat)) = _
    rw [byte_of hw]
  refine ⟨cs.map fun v => UInt8.ofNat (intOf v).toNat, by rw [List.length_map, hlen], ?_⟩
  rw [List.map_map]
  apply List.ext_getElem (by simp)
  intro i h1 h2
  simp only [List.getElem_map, Function.comp]
  exact (each i h1).symm
set_option maxRecDepth 100000 in
/-- A digest by value. -/
theorem array_in {H : Type} {enc : TypeId × Value → H} {W : World} {base : Nat} {v : Value} {d : DataW H} {p : List MemPlace} (hok : Value.okWide Tryd.prog W .any base 24 v) (h : DataW.Trod enc Tryd.prog W 0 (fun _ => true) true 24 v d p) :
    ∃ bs : List UInt8, bs.length = 32 ∧ v = .agg (bs.map bV).toArray := by
  simp only [Value.okWide, Tryd.underlying24] at hok
  obtain ⟨cs, rfl, _, _⟩ := hok
  obtain ⟨fuel, hf⟩ := h
  have hcells : (Value.agg cs).cells.toList = cs.toList := rfl
  rw [hcells] at hf
  obtain ⟨bs, hb, hcs⟩ := hash_cells hf
  exact ⟨bs, hb, by rw [← hcs, Array.toArray_toList]⟩
end Go.Proofs.YtaeebcedobkopaaDoor.Sha

/-
  How the statements' arguments and the listed table read: a slice of bytes or numbers that came in, the table of the rounds' words, a start that fits. No conditions.
-/
namespace Go.Proofs.YtaeebcedobkopaaDoor.Sha
open Go Go.ChangeShapes Go.WideShapes Go.ChangeAt Go.RowKit
theorem gTab : Tryd.prog.globalNamed "sargasso/digest.roundWords" = some 0 := by kernel_rfl
theorem gTabType : (Tryd.prog.globals[0]?).map (·.type) = some 68 := by kernel_rfl
theorem cellsTab : Tryd.prog.cellsOf 68 = 64 := by kernel_rfl
theorem cellsU32 : Tryd.prog.cellsOf 50 = 1 := by kernel_rfl
def kInts : List Int := kList.map wv
theorem kInts_get (t : Nat) (h : t < 64) : kInts.getD t 0 = wv (kW t) := by
  unfold kInts kW
  simp only [List.getD, List.getElem?_map]
  rw [List.getElem?_eq_getElem (show t < kList.length from h)]
  rfl
theorem laid_list {H : Type} : (Rows.laid_sargasso_digest_roundWords : DataW H) = Lib.tabData .u32 kInts := rfl
/-- WHAT THE ROW's LIST GIVES: the table's cells. -/
theorem table {W : World} (h : laidMetH Tryd.prog [("sargasso/digest.roundWords", Rows.laid_sargasso_digest_roundWords)] W) : KTab W := by
  rw [laid_list] at h
  have hT := Lib.tabIs_of_head (rest := []) gTab gTabType Tryd.underlying68 Tryd.underlying50 cellsU32 cellsTab h
  intro t ht
  rw [hT.cell gTab t (show t < 64 from ht), kInts_get t ht]
/-- A WORLD FOR THE WITNESS: the settled one, the table holding what its initialiser lays. -/
noncomputable def laidWorld (os : Os) : World :=
  { World.holding Tryd.prog os ⟨#[], #[], []⟩ with heap := (World.holding Tryd.prog os ⟨#[], #[], []⟩).heap.modify 0 fun
      | .cells _ t frozen => .cells (kList.map wV).toArray t frozen
      | o => o }
end Go.Proofs.YtaeebcedobkopaaDoor.Sha

/-
  A place (api.Point) as the model has it: 32 bytes and a number, 33 cells; how two are held against each other. Conditions: digests of 32 bytes.
-/
namespace Go.Proofs.YtaeebcedobkopaaDoor.Sha
open Go Go.RowKit
/-- A number of 32 bits as a cell. -/
def nV (n : Nat) : Value := .int .u32 (n : Int)
/-- A place: its transaction's digest, its number. -/
def ptL (h : List UInt8) (n : Nat) : List Value := h.map bV ++ [nV n]
theorem ptL_length (h : List UInt8) (n : Nat) : (ptL h n).length = h.length + 1 := by simp [ptL]
theorem ptL_size (h : List UInt8) (n : Nat) (hh : h.length = 32) : (ptL h n).toArray.size = 33 := by simp [ptL, hh]
theorem ptL_one' (h : List UInt8) (n : Nat) : ∀ v ∈ ptL h n, v.oneCell' = true := by
  intro v hv
  rcases List.mem_append.1 hv with h1 | h1
  · exact bV_one' h v h1
  · obtain rfl : v = nV n := by simpa using h1
    rfl
theorem ptL_one (h : List UInt8) (n : Nat) : (ptL h n).toArray.all (·.oneCell') = true := all_oneCell_toArray (ptL_one' h n)
theorem bV_nat (x : UInt8) : (x.toNat : Int) = bv x := rfl
theorem bV_cell : (fun x : UInt8 => Extern.Stop.cell x) = bV := rfl
/-- The digest lies at the place's head. -/
theorem pt_hash {w : World} {g : Nat} {h : List UInt8} {n : Nat} {T : TypeId} {fr : Nat × Nat} (hg : w.heap[g]? = some (.cells (ptL h n).toArray T fr)) : w.rangeAt g 0 (h.map bV) := fun j v hv => by
  rw [Nat.zero_add, cell_of_row _ _ _ _ _ _ hg, List.getElem?_toArray, ptL, List.getElem?_append_left (List.getElem?_eq_some_iff.1 hv).1]
  exact hv
/-- The number lies behind. -/
theorem pt_num {w : World} {g : Nat} {h : List UInt8} {n : Nat} {T : TypeId} {fr : Nat × Nat} (hh : h.length = 32) (hg : w.heap[g]? = some (.cells (ptL h n).toArray T fr)) : w.cell? ⟨g, 32, none⟩ = some (nV n) := by
  rw [cell_of_row _ _ _ _ _ _ hg, List.getElem?_toArray, ptL, List.getElem?_append_right (by simp [hh])]
  simp [hh]
theorem size_u8 (w : World) : (Go.sizeOf 5).run Tryd.prog w = .ok 1 w := by kernel_rfl
theorem eq_hash (d : Nat) (h h' : List UInt8) (hh : h.length = 32) (hh' : h'.length = 32) (w : World) : (Op.equalIn (d + 2) 24 (.agg (h.map bV).toArray) (.agg (h'.map bV).toArray)).run Tryd.prog w = .ok (decide (h = h')) w := by
  have := run_equalIn_bytes (P := Tryd.prog) w d 24 5 32 Tryd.underlying24 Tryd.underlying5 size_u8 h h' hh hh'
  rw [show (h == h') = decide (h = h') by by_cases e : h = h' <;> simp [e]] at this
  exact this
theorem run_eql_hash (h h' : List UInt8) (hh : h.length = 32) (hh' : h'.length = 32) (w : World) : (binOp .eql 24 (.agg (h.map bV).toArray) (.agg (h'.map bV).toArray)).run Tryd.prog w = .ok (.bool (decide (h = h'))) w := by
  rw [run_eql_struct, eq_hash 9998 h h' hh hh']
  rfl
theorem run_neq_hash (h h' : List UInt8) (hh : h.length = 32) (hh' : h'.length = 32) (w : World) : (binOp .neq 24 (.agg (h.map bV).toArray) (.agg (h'.map bV).toArray)).run Tryd.prog w = .ok (.bool (!decide (h = h'))) w := by
  rw [run_neq_struct, eq_hash 9998 h h' hh hh']
  rfl
theorem size_hash (w : World) : (Go.sizeOf 24).run Tryd.prog w = .ok 32 w := by kernel_rfl
theorem part_hash (h : List UInt8) (n : Nat) (hh : h.length = 32) (w : World) : (part 24 (ptL h n).toArray 0).run Tryd.prog w = .ok (.agg (h.map bV).toArray) w := by
  have hagg : (isAgg 24).run Tryd.prog w = .ok true w := by
    unfold isAgg
    rw [Sem.run_bind, run_underlying Tryd.underlying24 w]
    rfl
  have e : (ptL h n).toArray.extract 0 32 = (h.map bV).toArray := by
    rw [List.extract_toArray, List.extract_eq_take_drop, List.drop_zero, Nat.sub_zero, ptL, List.take_append_of_le_length (by simp [hh]), List.take_of_length_le (by simp [hh])]
  simp only [part, Sem.run_bind, hagg, Result.andThen_ok, if_true, size_hash, Sem.run_pure, Nat.zero_add, e]
theorem part_num (h : List UInt8) (n : Nat) (hh : h.length = 32) (w : World) : (part 50 (ptL h n).toArray 32).run Tryd.prog w = .ok (nV n) w := by
  have hagg : (isAgg 50).run Tryd.prog w = .ok false w := by
    unfold isAgg
    rw [Sem.run_bind, run_underlying Tryd.underlying50 w]
    rfl
  have e : (ptL h n).toArray[32]? = some (nV n) := by
    rw [List.getElem?_toArray, ptL, List.getElem?_append_right (by simp [hh])]
    simp [hh]
  simp only [part, Sem.run_bind, hagg, Result.andThen_ok, e]
  rfl
theorem eq_num (d n m : Nat) (w : World) : (Op.equalIn (d + 1) 50 (nV n) (nV m)).run Tryd.prog w = .ok (decide (n = m)) w := by
  rw [nV, nV, run_equalIn_int w d 50 .u32 .u32 _ _ Tryd.underlying50]
  congr 1
  rw [Bool.eq_iff_iff]
  simp
  omega
/-- In a quiet walk: an operation on two values, its answer laid ahead. -/
theorem quiet_bin {P : Program} {C : World → Prop} {a : Act} {o : Oper} {K : Act → Prop} (op : BinOp) (t : TypeId) (x y : Operand) (r : TypeId) (ho : o.op = .binOp op t x y r) (u v z : Value) (hx : a.eval x = u) (hy : a.eval y = v)
    (hg : ∀ w, (eqGuard op t x y u v).run P w = .ok () w) (h : ∀ w, (binOp op t u v).run P w = .ok z w) (hk : K (a.put o.dst z)) : o.quiet P a C K := by
  refine quiet_run z (fun w => ?_) hk
  simp only [execOp, ho, hx, hy, Sem.run_bind, hg, h, Result.andThen_ok, Sem.run_pure]
theorem quiet_eql_hash {C : World → Prop} {a : Act} {o : Oper} {K : Act → Prop} (x y : Operand) (r : TypeId) (ho : o.op = .binOp .eql 24 x y r) (h h' : List UInt8) (hh : h.length = 32) (hh' : h'.length = 32)
    (hx : a.eval x = .agg (h.map bV).toArray) (hy : a.eval y = .agg (h'.map bV).toArray) (b : Bool) (hb : b = decide (h = h')) (hk : K (a.put o.dst (.bool b))) : o.quiet Tryd.prog a C K := by
  subst hb
  exact quiet_bin .eql 24 x y r ho _ _ _ hx hy (fun w => run_eqGuard_agg w .eql 24 x y _ _ (by kernel_rfl)) (fun w => run_eql_hash h h' hh hh' w) hk
/-- '!=' of two digests, in a plain list. -/
theorem wpList_neq_hash {ops : Array Oper} {rest : List Oper} {o : Oper} {a : Act} {w : World} {Q : Exit → Act → World → Prop} (hgd : o.guard = none) (x y : Operand) (r : TypeId) (ho : o.op = .binOp .neq 24 x y r) (h h' : List UInt8) (hh : h.length = 32) (hh' : h'.length = 32)
    (hx : a.eval x = .agg (h.map bV).toArray) (hy : a.eval y = .agg (h'.map bV).toArray) (b : Bool) (hb : b = !decide (h = h')) (hk : wpList Tryd.prog ops Q rest (a.put o.dst (.bool b)) w) : wpList Tryd.prog ops Q (o :: rest) a w := by
  subst hb
  refine wpList_plain hgd fun K hK => ?_
  unfold Oper.wp
  simp only [execOp, ho, hx, hy, Sem.run_bind, run_eqGuard_agg w .neq 24 x y _ _ (show Tryd.prog.eqGuardType Tryd.prog.depth 24 = false by kernel_rfl), run_neq_hash h h' hh hh', Result.andThen_ok, Sem.run_pure]
  exact hK _ _ hk
/-- A whole row is read, in a list, where its guard asks for it. -/
theorem wpList_load_rowG {P : Program} {ops : Array Oper} {rest : List Oper} {o : Oper} {a : Act} {w : World} {Q : Exit → Act → World → Prop} (ty : TypeId) (x : Operand) (ho : o.op = .load ty x)
    (g : Nat) (hx : a.eval x = .pointer (some ⟨g, 0, none⟩)) (t : TypeId) (cs : Array Value) (fr : Nat × Nat) (d : TypeDesc) (hg : w.heap[g]? = some (.cells cs t fr))
    (hu : P.underlying ty = some d) (hd : (match d with | .struct _ | .array _ _ => true | _ => false) = true) (hi : (P.info? ty).map (·.size) = some cs.size) (hw : Region.wanted o (yielded ops a.tmps) = true)
    (h : wpList P ops Q rest (a.put o.dst (.agg cs)) w) : wpList P ops Q (o :: rest) a w :=
  wpList_step fun _ hK => by
    rw [if_pos hw]
    exact wp_load_row ty x ho g hx t cs fr d hg hu hd hi (hK _ _ h)
/-- In a quiet walk: one cell is read. -/
theorem quiet_load_cell {P : Program} {C : World → Prop} {a : Act} {o : Oper} {K : Act → Prop} (ty : TypeId) (x : Operand) (ho : o.op = .load ty x) (b off : Nat) (hx : a.eval x = .pointer (some ⟨b, off, none⟩)) (k : IntKind) (v : Value)
    (hg : ∀ w, C w → w.cell? ⟨b, off, none⟩ = some v) (hu : P.underlying ty = some (.int k)) (hk : K (a.put o.dst v)) : o.quiet P a C K :=
  ⟨v, fun w hw => by
    have hagg : (isAgg ty).run P w = .ok false w := by
      unfold isAgg
      rw [Sem.run_bind, run_underlying hu w]
      rfl
    unfold Oper.quietAt execOp
    simp [ho, hx, Instr.loadAt, Instr.sureAddr, Sem.run_bind, loadVar, hagg, hg w hw, Oper.quietUpon], hk⟩
/-- A part of a block is read, in a list, where its guard asks for it. -/
theorem wpList_load_midG {P : Program} {ops : Array Oper} {rest : List Oper} {o : Oper} {a : Act} {w : World} {Q : Exit → Act → World → Prop} (ty : TypeId) (x : Operand) (ho : o.op = .load ty x)
    (b off : Nat) (hx : a.eval x = .pointer (some ⟨b, off, none⟩)) (cs : List Value) (d : TypeDesc) (hc : w.rangeAt b off cs)
    (hu : P.underlying ty = some d) (hd : d.isRow = true) (hi : (P.info? ty).map (·.size) = some cs.length) (hw : Region.wanted o (yielded ops a.tmps) = true)
    (h : wpList P ops Q rest (a.put o.dst (.agg cs.toArray)) w) : wpList P ops Q (o :: rest) a w :=
  wpList_step fun _ hK => by
    rw [if_pos hw]
    exact wp_load_mid ty x ho b off hx cs d hc hu hd hi (hK _ _ h)
/-- In a quiet walk: a part of a block is read. -/
theorem quiet_load_mid {P : Program} {C : World → Prop} {a : Act} {o : Oper} {K : Act → Prop} (ty : TypeId) (x : Operand) (ho : o.op = .load ty x) (b off : Nat) (hx : a.eval x = .pointer (some ⟨b, off, none⟩)) (cs : List Value) (d : TypeDesc)
    (hg : ∀ w, C w → w.rangeAt b off cs) (hu : P.underlying ty = some d) (hd : d.isRow = true) (hi : (P.info? ty).map (·.size) = some cs.length) (hk : K (a.put o.dst (.agg cs.toArray))) : o.quiet P a C K :=
  ⟨_, fun w hw => by
    unfold Oper.quietAt execOp
    simp only [ho, hx, Instr.loadAt, Instr.sureAddr, Sem.run_bind, Sem.run_pure, Result.andThen_ok, run_loadVar_mid w b off ty cs d (hg w hw) hu hd hi]
    exact ⟨rfl, rfl⟩, hk⟩
/-- In a quiet walk: one cell of whatever type is read. -/
theorem quiet_load_one {P : Program} {C : World → Prop} {a : Act} {o : Oper} {K : Act → Prop} (ty : TypeId) (x : Operand) (ho : o.op = .load ty x) (b off : Nat) (hx : a.eval x = .pointer (some ⟨b, off, none⟩)) (v : Value) (d : TypeDesc)
    (hg : ∀ w, C w → w.cell? ⟨b, off, none⟩ = some v) (hu : P.underlying ty = some d) (hd : d.isRow = false) (hk : K (a.put o.dst v)) : o.quiet P a C K :=
  ⟨v, fun w hw => by
    have hagg : (isAgg ty).run P w = .ok false w := by
      unfold isAgg
      rw [Sem.run_bind, run_underlying hu w]
      cases d <;> simp_all
    unfold Oper.quietAt execOp
    simp [ho, hx, Instr.loadAt, Instr.sureAddr, Sem.run_bind, loadVar, hagg, hg w hw, Oper.quietUpon], hk⟩
/-- The place that is none. -/
def nullL : List Value := ptL (List.replicate 32 0) 4294967295
end Go.Proofs.YtaeebcedobkopaaDoor.Sha

/-
  A transaction as the model has it: inputs of 35 cells, outputs of 33, rows of them behind slices; what stands in memory keeps standing where only new memory turns. No conditions.
-/
namespace Go.Proofs.YtaeebcedobkopaaDoor.Sha
open Go Go.RowKit
structure TIn where
  h : List UInt8
  n : Nat
  key : List UInt8
  seq : Nat
structure TOut where
  val : Nat
  lock : List UInt8
structure TTx where
  ver : Nat
  ins : List TIn
  outs : List TOut
  time : Nat
/-- A number of 64 bits as a cell. -/
def uV (n : Nat) : Value := .int .u64 (n : Int)
/-- An input's cells. -/
def inL (x : TIn) (kv : Value) : List Value := ptL x.h x.n ++ [kv, nV x.seq]
/-- An output's cells. -/
def outL (y : TOut) : List Value := uV y.val :: y.lock.map bV
theorem inL_length (x : TIn) (kv : Value) (h : x.h.length = 32) : (inL x kv).length = 35 := by simp [inL, ptL, h]
theorem outL_length (y : TOut) (h : y.lock.length = 32) : (outL y).length = 33 := by simp [outL, h]
/-- A key as a slice. -/
def KeyAt (w : World) (kv : Value) (key : List UInt8) : Prop := SrcB w kv key ∧ ∃ sp cap, kv = .slice sp key.length cap
theorem KeyAt.below {w w' : World} {kv : Value} {key : List UInt8} (h : KeyAt w kv key) (hb : Below w.heap.size w w') : KeyAt w' kv key := ⟨h.1.below hb, h.2⟩
/-- What may be of an input. -/
def InOk (x : TIn) : Prop := x.h.length = 32 ∧ x.n ≤ 4294967295 ∧ x.seq ≤ 4294967295
def OutOk (y : TOut) : Prop := y.lock.length = 32 ∧ y.val ≤ 18446744073709551615
/-- An input stands in block b from o on. -/
def InAt (w : World) (b o : Nat) (x : TIn) : Prop := InOk x ∧ ∃ kv, KeyAt w kv x.key ∧ w.rangeAt b o (inL x kv)
def OutAt (w : World) (b o : Nat) (y : TOut) : Prop := OutOk y ∧ w.rangeAt b o (outL y)
theorem range_below {w w' : World} {b o : Nat} {cs : List Value} (h : w.rangeAt b o cs) (hb : Below w.heap.size w w') : w'.rangeAt b o cs := fun j v hj => by
  have h1 := h j v hj
  rw [hb.cell (p := ⟨b, o + j, none⟩) (World.block_lt_of_cell? w _ h1)]
  exact h1
theorem InAt.below {w w' : World} {b o : Nat} {x : TIn} (h : InAt w b o x) (hb : Below w.heap.size w w') : InAt w' b o x := by
  obtain ⟨h0, kv, h1, h2⟩ := h
  exact ⟨h0, kv, h1.below hb, range_below h2 hb⟩
theorem OutAt.below {w w' : World} {b o : Nat} {y : TOut} (h : OutAt w b o y) (hb : Below w.heap.size w w') : OutAt w' b o y := ⟨h.1, range_below h.2 hb⟩
/-- A row of inputs behind a slice. -/
def InsAt (w : World) (v : Value) (l : List TIn) : Prop :=
  ∃ sp cap, v = .slice sp l.length cap ∧ l.length ≤ cap ∧ (0 < l.length → ∃ b o, sp = some ⟨b, o, none⟩ ∧ ∀ i x, l[i]? = some x → InAt w b (o + i * 35) x)
def OutsAt (w : World) (v : Value) (l : List TOut) : Prop :=
  ∃ sp cap, v = .slice sp l.length cap ∧ l.length ≤ cap ∧ (0 < l.length → ∃ b o, sp = some ⟨b, o, none⟩ ∧ ∀ i x, l[i]? = some x → OutAt w b (o + i * 33) x)
theorem InsAt.below {w w' : World} {v : Value} {l : List TIn} (h : InsAt w v l) (hb : Below w.heap.size w w') : InsAt w' v l := by
  obtain ⟨sp, cap, h1, h2, h3⟩ := h
  refine ⟨sp, cap, h1, h2, fun h0 => ?_⟩
  obtain ⟨b, o, h4, h5⟩ := h3 h0
  exact ⟨b, o, h4, fun i x hx => (h5 i x hx).below hb⟩
theorem OutsAt.below {w w' : World} {v : Value} {l : List TOut} (h : OutsAt w v l) (hb : Below w.heap.size w w') : OutsAt w' v l := by
  obtain ⟨sp, cap, h1, h2, h3⟩ := h
  refine ⟨sp, cap, h1, h2, fun h0 => ?_⟩
  obtain ⟨b, o, h4, h5⟩ := h3 h0
  exact ⟨b, o, h4, fun i x hx => (h5 i x hx).below hb⟩
/-- A transaction's cells. -/
def txL (t : TTx) (iv ov : Value) : List Value := [nV t.ver, iv, ov, nV t.time]
def TxOk (t : TTx) : Prop := t.ver ≤ 4294967295 ∧ t.time ≤ 4294967295
/-- A transaction by value. -/
def TxAt (w : World) (v : Value) (t : TTx) : Prop := TxOk t ∧ ∃ iv ov, v = .agg (txL t iv ov).toArray ∧ InsAt w iv t.ins ∧ OutsAt w ov t.outs
theorem TxAt.below {w w' : World} {v : Value} {t : TTx} (h : TxAt w v t) (hb : Below w.heap.size w w') : TxAt w' v t := by
  obtain ⟨h0, iv, ov, h1, h2, h3⟩ := h
  exact ⟨h0, iv, ov, h1, h2.below hb, h3.below hb⟩
/-- What of an input lies where. -/
theorem in_hash {w : World} {b o : Nat} {x : TIn} {kv : Value} (h : w.rangeAt b o (inL x kv)) : w.rangeAt b o (x.h.map bV) := fun j v hj => h j v (by
  rw [inL, ptL, List.append_assoc, List.getElem?_append_left (List.getElem?_eq_some_iff.1 hj).1]
  exact hj)
theorem in_pt {w : World} {b o : Nat} {x : TIn} {kv : Value} (h : w.rangeAt b o (inL x kv)) : w.rangeAt b o (ptL x.h x.n) := fun j v hj => h j v (by
  rw [inL, List.getElem?_append_left (List.getElem?_eq_some_iff.1 hj).1]
  exact hj)
theorem in_num {w : World} {b o : Nat} {x : TIn} {kv : Value} (hx : x.h.length = 32) (h : w.rangeAt b o (inL x kv)) : w.cell? ⟨b, o + 32, none⟩ = some (.int .u32 (x.n : Int)) := h 32 _ (by
  rw [inL, List.getElem?_append_left (by simp [ptL, hx]), ptL, List.getElem?_append_right (by simp [hx])]
  simp [hx, nV])
theorem in_key {w : World} {b o : Nat} {x : TIn} {kv : Value} (hx : x.h.length = 32) (h : w.rangeAt b o (inL x kv)) : w.cell? ⟨b, o + 33, none⟩ = some kv := h 33 _ (by
  rw [inL, List.getElem?_append_right (by simp [ptL, hx])]
  simp [ptL, hx])
theorem in_seq {w : World} {b o : Nat} {x : TIn} {kv : Value} (hx : x.h.length = 32) (h : w.rangeAt b o (inL x kv)) : w.cell? ⟨b, o + 34, none⟩ = some (.int .u32 (x.seq : Int)) := h 34 _ (by
  rw [inL, List.getElem?_append_right (by simp [ptL, hx])]
  simp [ptL, hx, nV])
theorem out_val {w : World} {b o : Nat} {y : TOut} (h : w.rangeAt b o (outL y)) : w.cell? ⟨b, o, none⟩ = some (.int .u64 (y.val : Int)) := h 0 _ rfl
theorem out_lock {w : World} {b o : Nat} {y : TOut} (h : w.rangeAt b o (outL y)) : w.rangeAt b (o + 1) (y.lock.map bV) := fun j v hj => by
  have := h (j + 1) v (by rw [outL, List.getElem?_cons_succ]; exact hj)
  rw [show o + 1 + j = o + (j + 1) by omega]
  exact this
/-- What of a boxed transaction lies where. -/
theorem tx_cells {w : World} {g : Nat} {t : TTx} {iv ov : Value} {T : TypeId} {fr : Nat × Nat} (h : w.heap[g]? = some (.cells (txL t iv ov).toArray T fr)) :
    w.cell? ⟨g, 0, none⟩ = some (.int .u32 (t.ver : Int)) ∧ w.cell? ⟨g, 1, none⟩ = some iv ∧ w.cell? ⟨g, 2, none⟩ = some ov ∧ w.cell? ⟨g, 3, none⟩ = some (.int .u32 (t.time : Int)) :=
  ⟨by rw [cell_of_row _ _ _ _ _ _ h]; rfl, by rw [cell_of_row _ _ _ _ _ _ h]; rfl, by rw [cell_of_row _ _ _ _ _ _ h]; rfl, by rw [cell_of_row _ _ _ _ _ _ h]; rfl⟩
end Go.Proofs.YtaeebcedobkopaaDoor.Sha

/-
  A transaction's bytes, as the chapter says: how many there are; two that have the same bytes are the same. What is amiss with one, in the chapter's order. No conditions beyond those that each states.
-/
namespace Go.Proofs.YtaeebcedobkopaaDoor.Sha
open Go Go.RowKit
def inB (x : TIn) : List UInt8 := x.h ++ leB x.n 4 ++ putL x.key.length ++ x.key ++ leB x.seq 4
def outB (y : TOut) : List UInt8 := leB y.val 8 ++ y.lock
def insB (l : List TIn) : List UInt8 := l.flatMap inB
def outsB (l : List TOut) : List UInt8 := l.flatMap outB
/-- A transaction's bytes. -/
def txB (t : TTx) : List UInt8 := leB t.ver 4 ++ putL t.ins.length ++ insB t.ins ++ putL t.outs.length ++ outsB t.outs ++ leB t.time 4
def InsOk (l : List TIn) : Prop := ∀ x ∈ l, InOk x
def OutsOk (l : List TOut) : Prop := ∀ y ∈ l, OutOk y
theorem outB_length (y : TOut) (h : OutOk y) : (outB y).length = 40 := by simp [outB, leB_length, h.1]
theorem inB_length (x : TIn) (h : InOk x) : (inB x).length = 40 + lenN x.key.length + x.key.length := by simp [inB, leB_length, putL_length, h.1]; omega
theorem outsB_length : ∀ (l : List TOut), OutsOk l → (outsB l).length = 40 * l.length
  | [], _ => rfl
  | y :: l, h => by
    have ih := outsB_length l (fun z hz => h z (List.mem_cons_of_mem _ hz))
    simp only [outsB] at ih
    simp only [outsB, List.flatMap_cons, List.length_append, ih, outB_length y (h y List.mem_cons_self), List.length_cons]
    omega
def KeysLe (l : List TIn) (n : Nat) : Prop := ∀ x ∈ l, x.key.length ≤ n
end Go.Proofs.YtaeebcedobkopaaDoor.Sha

/-
  How a transaction that came in by value reads. No conditions.
-/
namespace Go.Proofs.YtaeebcedobkopaaDoor.Sha
open Go Go.ChangeShapes Go.WideShapes Go.ChangeAt Go.RowKit Go.Deep
/-- Many, each of which is somewhere: a list of them. -/
theorem list_of_each {α : Type} {p : Nat → α → Prop} : ∀ n, (∀ i, i < n → ∃ x, p i x) → ∃ l : List α, l.length = n ∧ ∀ i x, l[i]? = some x → p i x
  | 0, _ => ⟨[], rfl, fun i x h => by simp at h⟩
  | n + 1, h => by
    obtain ⟨l, hl, hp⟩ := list_of_each n (fun i hi => h i (by omega))
    obtain ⟨x, hx⟩ := h n (by omega)
    refine ⟨l ++ [x], by simp [hl], fun i y hy => ?_⟩
    by_cases hi : i < n
    · exact hp i y (by rwa [List.getElem?_append_left (by omega)] at hy)
    · have hin : i = n := by
        have := (List.getElem?_eq_some_iff.1 hy).1
        simp [hl] at this
        omega
      subst hin
      rw [List.getElem?_append_right (by omega), hl] at hy
      simp at hy
      rw [← hy]
      exact hx
theorem range_of_cells {w : World} {a : Addr} {n : Nat} {cs : List Value} (h : w.cells? 0 a n = some cs) (hn : 0 < n) : ∃ b o, a = ⟨b, o, none⟩ ∧ w.rangeAt b o cs := by
  obtain ⟨_, hcl, hat⟩ := World.cells?_some h
  obtain ⟨b, o, spot⟩ := a
  have h0 := hat 0 hn
  have hspot : spot = none := by
    have hs : (cs[0]?) = some (cs[0]'(by omega)) := List.getElem?_eq_getElem _
    rw [hs] at h0
    simpa [Addr.add] using World.cell?_spot h0
  subst hspot
  refine ⟨b, o, rfl, fun j v hj => ?_⟩
  have hjn : j < n := by have := (List.getElem?_eq_some_iff.1 hj).1; omega
  rw [← Addr.add_mid, hat j hjn]
  exact hj
/-- All that is known of a transaction that came in. -/
def TxCame (t : TTx) : Prop := TxOk t ∧ InsOk t.ins ∧ OutsOk t.outs ∧ KeysLe t.ins 9223372036854775807 ∧ t.ins.length ≤ 9223372036854775807 ∧ t.outs.length ≤ 9223372036854775807
end Go.Proofs.YtaeebcedobkopaaDoor.Sha

/-
  compact.number answers what bytes are as a number, the lowest first; widthBehind how many bytes stand behind a first one; bytes.Clone copies; nothing that was there turns. Conditions: at most eight bytes (number); the bytes lie where the slice says.
-/
namespace Go.Proofs.YtaeebcedobkopaaDoor.Sha
open Go Go.RowKit
/-- How many bytes stand behind a first one. -/
def widN (n : Nat) : Nat := if n = 253 then 2 else if n = 254 then 4 else if n = 255 then 8 else 0
/-- A copy in memory that is new, or none. -/
def CopyB (w w' : World) (v : Value) (bs : List UInt8) : Prop := w'.ownsRow w.heap.size 5 1 v bs.length (bs.map bV) ∧ Below w.heap.size w w'
end Go.Proofs.YtaeebcedobkopaaDoor.Sha

/-
  compact.Read makes a Reader on a copy of the bytes; its inner call takes so many bytes, or tells that there are too few; Left and Err tell what is left and the first error. Conditions: the Reader stands as it should; the three errors are there.
-/
namespace Go.Proofs.YtaeebcedobkopaaDoor.Sha
open Go Go.RowKit
/-- What lies behind a slice lies in this block. -/
def AtB (v : Value) (m : Nat) : Prop := ∀ sp n cap, v = .slice (some sp) n cap → 0 < n → sp.block = m
theorem SrcB.grown {w w' : World} {v : Value} {bs : List UInt8} {m r : Nat} (h : SrcB w v bs) (ha : AtB v m) (hm : m ≠ r) (hg : w.grownBy w' (some r)) : SrcB w' v bs := by
  rcases h with h | ⟨h0, bb, off, cap, hv, hc, hs⟩
  · exact .inl h
  · refine .inr ⟨h0, bb, off, cap, hv, hc, fun j hj => hg.cell (hs j hj) (fun e => ?_)⟩
    have e1 := ha ⟨bb, off, none⟩ _ _ hv h0
    have e2 := Option.some.inj e
    exact hm (by rw [← e1, ← e2])
/-- Taking k bytes: what is taken, what is left, the error. -/
def takeL (k : Nat) (bs : List UInt8) (c : Nat) : List UInt8 × List UInt8 × Nat := if c ≠ 0 then ([], bs, c) else if bs.length < k then ([], bs, 1) else (bs.take k, bs.drop k, 0)
section
variable {P : Program} {w : World} {ops : Array Oper} {rest : List Oper} {o : Oper} {a : Act} {Q : Exit → Act → World → Prop}
end
end Go.Proofs.YtaeebcedobkopaaDoor.Sha

/-
  The statements' own SameIn, SameOut tell whether two inputs, two outputs are the same. Nothing that was there turns. Conditions: digests of 32 bytes, keys that lie in memory, fewer than 2^46 bytes.
-/
namespace Go.Proofs.YtaeebcedobkopaaDoor.Sha
open Go Go.RowKit
theorem range_of_box {w : World} {g : Nat} {cs : List Value} {T : TypeId} {fr : Nat × Nat} (h : w.heap[g]? = some (.cells cs.toArray T fr)) : w.rangeAt g 0 cs := fun j v hj => by
  rw [Nat.zero_add, cell_of_row _ _ _ _ _ _ h, List.getElem?_toArray]
  exact hj
end Go.Proofs.YtaeebcedobkopaaDoor.Sha

/-
  compact.Len, withRoom, lowestFirst, Put, Four and Eight answer what the chapter says, in new memory; nothing that was there turns. Conditions: fewer than 2^46 bytes, which lie where the slice says; numbers of 64 bits.
-/
namespace Go.Proofs.YtaeebcedobkopaaDoor.Sha
open Go Go.RowKit
/-- New memory: k bytes of room c, which read as bs. -/
def NewB (w w' : World) (k c : Nat) (bs : List UInt8) : Prop :=
  w'.ownsRow w.heap.size 5 1 (.slice (some ⟨w.heap.size, 0, none⟩) k c) k (bs.map bV) ∧ Below w.heap.size w w'
theorem NewB.lt {w w1 : World} {n c : Nat} {bs : List UInt8} (h : NewB w w1 n c bs) : w.heap.size < w1.heap.size := by
  rcases h.1.2 with ⟨h', _⟩ | ⟨g, cap, cur, h', _, hg, _⟩
  · simp at h'
  · simp at h'
    rw [← h'.1] at hg
    exact (Array.getElem?_eq_some_iff.1 hg).1
/-- One byte more. -/
theorem NewB.push {w w1 w3 : World} {n c : Nat} {bs : List UInt8} (x : UInt8) {o : Obj} (h : NewB w w1 n c bs) (ho : w3.ownsRow w.heap.size 5 1 (.slice (some ⟨w.heap.size, 0, none⟩) (n + 1) c) (n + 1) (bs.map bV ++ [.int .u8 (bv x)]))
    (hg : (w1.alloc o).grownBy w3 (some w.heap.size)) : NewB w w3 (n + 1) c (bs ++ [x]) := by
  refine ⟨by rw [List.map_append]; exact ho, (h.2.alloc h.2.size o).grown hg ?_ (fun j hj => by cases hj; exact Nat.le_refl _)⟩
  have := h.lt
  simp
  omega
theorem NewB.low {w w1 w2 : World} {n k c : Nat} {bs cs : List UInt8} (h : NewB w w1 n c bs) (hb : Below w.heap.size w1 w2) (ho : w2.ownsRow w.heap.size 5 1 (.slice (some ⟨w.heap.size, 0, none⟩) k c) k (bs.map bV ++ cs.map bV)) : NewB w w2 k c (bs ++ cs) :=
  ⟨by rw [List.map_append]; exact ho, h.2.trans hb⟩
end Go.Proofs.YtaeebcedobkopaaDoor.Sha

/-
  The statements' own numbers in bytes and sums (chapter 2) answer what the chapter says; nothing that was there turns but the row that they are given. Conditions: own rows that are short; amounts that lie where the slice says.
-/
namespace Go.Proofs.YtaeebcedobkopaaDoor.Sha
open Go Go.RowKit
/-- An own row of bytes, nothing below B turned. -/
def OwnB (base B : Nat) (w0 w : World) (v : Value) (bs : List UInt8) : Prop := w.ownsRow base 5 1 v bs.length (bs.map bV) ∧ Below B w0 w ∧ B ≤ w.heap.size
theorem OwnB.push {base B : Nat} {w0 w w' : World} {v v' : Value} {bs : List UInt8} {o : Obj} (c : UInt8) (h : OwnB base B w0 w v bs) (hB : B ≤ base) (ho : w'.ownsRow base 5 1 v' (bs.length + 1) (bs.map bV ++ [.int .u8 (bv c)])) (hg : (w.alloc o).grownBy w' v.ownBlock) : OwnB base B w0 w' v' (bs ++ [c]) := by
  refine ⟨?_, own_grown (h.2.1.alloc h.2.2 o) hB (by have := h.2.2; simp; omega) (h.1.alloc o) hg, by have := hg.size; have := h.2.2; simp at *; omega⟩
  rw [List.map_append, List.length_append]
  exact ho
end Go.Proofs.YtaeebcedobkopaaDoor.Sha

/-
  The statements' own Four, Eight, Put write a number behind bytes of the caller's: whatever else was there stays, but for the row written to. Conditions: the row is the caller's own, fewer than 2^46 bytes.
-/
namespace Go.Proofs.YtaeebcedobkopaaDoor.Sha
open Go Go.RowKit
/-- An own row of bytes; since w0 nothing turned but the row r. -/
def OwnG (base : Nat) (r : Option Nat) (w0 w : World) (v : Value) (bs : List UInt8) : Prop :=
  w.ownsRow base 5 1 v bs.length (bs.map bV) ∧ w0.grownBy w r ∧ (v.ownBlock = r ∨ ∃ k, v.ownBlock = some k ∧ w0.heap.size ≤ k) ∧ base ≤ w.heap.size
theorem grown_over {w0 w w' : World} {r q : Option Nat} (h : w0.grownBy w r) (hg : w.grownBy w' q) (hq : q = r ∨ ∃ k, q = some k ∧ w0.heap.size ≤ k) : w0.grownBy w' r :=
  ⟨hg.os.trans h.os, hg.tape.trans h.tape, hg.output.trans h.output, Nat.le_trans h.size hg.size, fun k hk hne => by
    rw [hg.block k (Nat.lt_of_lt_of_le hk h.size) (by
      rcases hq with rfl | ⟨k', rfl, hk'⟩
      · exact hne
      · exact fun e => by have := Option.some.inj e; omega)]
    exact h.block k hk hne⟩
theorem OwnG.push {base : Nat} {r : Option Nat} {w0 w w' : World} {v v' : Value} {bs : List UInt8} {o : Obj} (c : UInt8) (h : OwnG base r w0 w v bs) (ho : w'.ownsRow base 5 1 v' (bs.length + 1) (bs.map bV ++ [.int .u8 (bv c)])) (hg : (w.alloc o).grownBy w' v.ownBlock)
    (hv : v'.ownBlock = v.ownBlock ∨ v'.ownBlock = some (w.alloc o).heap.size) : OwnG base r w0 w' v' (bs ++ [c]) := by
  have hg2 : w.grownBy w' v.ownBlock := grownBy_trans (World.grownBy_alloc w o _) hg
  refine ⟨?_, grown_over h.2.1 hg2 h.2.2.1, ?_, Nat.le_trans h.2.2.2 hg2.size⟩
  · rw [List.map_append, List.length_append]
    exact ho
  · rcases hv with e | e
    · rw [e]
      exact h.2.2.1
    · exact .inr ⟨_, e, by have := h.2.1.size; simp; omega⟩
theorem OwnG.trans {base : Nat} {r : Option Nat} {w0 w w' : World} {v v' : Value} {bs cs : List UInt8} (h : OwnG base r w0 w v bs) (k : OwnG base v.ownBlock w w' v' cs) : OwnG base r w0 w' v' cs :=
  ⟨k.1, grown_over h.2.1 k.2.1 h.2.2.1, by
    rcases k.2.2.1 with e | ⟨q, e, hq⟩
    · rw [e]
      exact h.2.2.1
    · exact .inr ⟨q, e, Nat.le_trans h.2.1.size hq⟩, k.2.2.2⟩
/-- Only new memory turned, if the row is above. -/
theorem OwnG.below {base B : Nat} {r : Option Nat} {w0 w : World} {v : Value} {bs : List UInt8} (h : OwnG base r w0 w v bs) (hr : ∀ k, r = some k → B ≤ k) (hB : B ≤ w0.heap.size) : Below B w0 w :=
  ⟨h.2.1.os, h.2.1.tape, h.2.1.output, h.2.1.size, fun k hk => h.2.1.block k (by omega) (fun e => by have := hr k e.symm; omega)⟩
section
variable {P : Program}
end
end Go.Proofs.YtaeebcedobkopaaDoor.Sha

/-
  What may be read first in a region that draws its order; bytes in the middle of a block as a source. No conditions beyond those that each states.
-/
namespace Go.Proofs.YtaeebcedobkopaaDoor.Sha
open Go Go.RowKit
/-- A cell that every world of S holds may be read first. -/
theorem yieldsIf_load_one {P : Program} {ops : Array Oper} {S : World → Prop} {op : Oper} {a : Act} (hw : Region.wanted op (yielded ops a.tmps) = true) (ty : TypeId) (x : Operand) (ho : op.op = .load ty x)
    (b off : Nat) (hx : a.eval x = .pointer (some ⟨b, off, none⟩)) (v : Value) (d : TypeDesc) (hS : ∀ w, S w → w.cell? ⟨b, off, none⟩ = some v)
    (hu : P.underlying ty = some d) (hd : d.isRow = false) : YieldsIf P ops S op v a :=
  .inl ⟨hw, fun w hw' => by
    have hagg : (isAgg ty).run P w = .ok false w := by
      unfold isAgg
      rw [Sem.run_bind, run_underlying hu w]
      cases d <;> simp_all
    unfold execOp
    simp [ho, hx, Instr.loadAt, Instr.sureAddr, Sem.run_bind, loadVar, hagg, hS w hw']⟩
/-- A whole row that every world of S holds may be read first. -/
theorem yieldsIf_load_row {P : Program} {ops : Array Oper} {S : World → Prop} {op : Oper} {a : Act} (hw : Region.wanted op (yielded ops a.tmps) = true) (ty : TypeId) (x : Operand) (ho : op.op = .load ty x)
    (g : Nat) (hx : a.eval x = .pointer (some ⟨g, 0, none⟩)) (t : TypeId) (cs : Array Value) (fr : Nat × Nat) (d : TypeDesc) (hS : ∀ w, S w → w.heap[g]? = some (.cells cs t fr))
    (hu : P.underlying ty = some d) (hd : (match d with | .struct _ | .array _ _ => true | _ => false) = true) (hi : (P.info? ty).map (·.size) = some cs.size) : YieldsIf P ops S op (.agg cs) a :=
  .inl ⟨hw, fun w hw' => by
    unfold execOp
    simp only [ho, hx, Instr.loadAt, Instr.sureAddr, Sem.run_bind, Sem.run_pure, Result.andThen_ok, run_loadVar_row w g t ty cs fr d (hS w hw') hu hd hi]⟩
/-- A part of a block as a source of bytes. -/
theorem src_range {w : World} {b o m c : Nat} {bs : List UInt8} (h : w.rangeAt b o (bs.map bV)) (hm : m = bs.length) (h0 : 0 < m) (hc : m ≤ c) : SrcB w (.slice (some ⟨b, o, none⟩) m c) bs := by
  refine .inr ⟨by omega, b, o, c, by rw [hm], by omega, fun j hj => h j _ ?_⟩
  rw [List.getElem?_map, List.getElem?_eq_getElem hj]
  simp [bV, List.getD, List.getElem?_eq_getElem hj]
theorem keyAt_src {w : World} {kv : Value} {key : List UInt8} (h : KeyAt w kv key) : SrcB w kv key := h.1
theorem get_of_drop {α : Type} {l rest : List α} {i : Nat} {x : α} (h : l.drop i = x :: rest) : l[i]? = some x := by
  have := congrArg (·[0]?) h
  simpa [List.getElem?_drop] using this
section
variable {P : Program} {md : Region.Mode} {l : List Oper} {Q : Exit → Act → World → Prop} {S : World → Prop}
/-- Take operation i first: the operation comes out written. -/
theorem held_take {i : Nat} {oi : Oper} {rest : List Oper} {v : Value} {fuel : Nat} {listed : Array Bool} {a : Act} {w : World} (hd : l.drop i = oi :: rest)
    (hs : Region.noSelect l.toArray = true) (hf : Region.free md l.toArray listed i = true) (hr : (Region.ready md l.toArray listed).contains i = true)
    (hQ : ∀ c a w, Q (.panic c) (a.put oi.dst v) w → Q (.panic c) a w) (hy : YieldsIf P l.toArray S oi v a) (hS : S w)
    (h : wpAnyH P md l.toArray Q S fuel (listed.setIfInBounds i true) (a.put oi.dst v) w) : wpAnyH P md l.toArray Q S (fuel + 1) listed a w :=
  wpAnyH_take (by rw [List.getElem?_toArray]; exact get_of_drop hd) hs hf hr hQ hy hS h
/-- Operation i comes up. -/
theorem held_cons {fuel : Nat} {listed : Array Bool} {a : Act} {w : World} {i : Nat} {o : Oper} {rest : List Oper} {rs : List Nat} (hd : l.drop i = o :: rest)
    (h : ∀ K' : Act → World → Prop, Shut (∀ a w, S w → (S w → wpAnyH P md l.toArray Q S fuel (listed.setIfInBounds i true) a w) → K' a w) → if Region.wanted o (yielded l.toArray a.tmps) = true then Oper.wp P o a w K' Q else K' (a.put o.dst undef) w)
    (hs : AllReadyH P md l.toArray Q S fuel listed a w rs) : AllReadyH P md l.toArray Q S fuel listed a w (i :: rs) :=
  AllReadyH.cons (by rw [List.getElem?_toArray]; exact get_of_drop hd) h hs
end
end Go.Proofs.YtaeebcedobkopaaDoor.Sha

/-
  The statements' own TxBytes writes a transaction's bytes as the chapter says. Nothing that was there turns. Conditions: a transaction that lies in memory; its inputs' bytes and its outputs' bytes fewer than 2^44.
-/
namespace Go.Proofs.YtaeebcedobkopaaDoor.Sha
open Go Go.RowKit
theorem OwnG.keep {base : Nat} {r : Option Nat} {w0 w w' : World} {v : Value} {bs : List UInt8} (h : OwnG base r w0 w v bs) (hb : Below w.heap.size w w') : OwnG base r w0 w' v bs :=
  ⟨own_kept h.1 hb, grownBy_trans h.2.1 (grownBy_of_below hb _), h.2.2.1, Nat.le_trans h.2.2.2 hb.size⟩
end Go.Proofs.YtaeebcedobkopaaDoor.Sha

/-
  What package tx is shown to answer, call by call, as hypotheses for the statements' walks. A transaction of a few inputs and outputs is small. No conditions.
-/
namespace Go.Proofs.YtaeebcedobkopaaDoor.Sha
open Go Go.RowKit
/-- Few enough. -/
def TxSmall (t : TTx) : Prop := TxCame t ∧ t.ins.length ≤ 1000 ∧ t.outs.length ≤ 1000 ∧ KeysLe t.ins 100000
theorem insB_bound : ∀ (l : List TIn) {n : Nat}, InsOk l → KeysLe l n → (insB l).length ≤ (49 + n) * l.length
  | [], _, _, _ => by simp [insB]
  | x :: l, n, h, hk => by
    have ih := insB_bound l (fun z hz => h z (List.mem_cons_of_mem _ hz)) (fun z hz => hk z (List.mem_cons_of_mem _ hz))
    have h1 := inB_length x (h x List.mem_cons_self)
    have h2 := lenN_bd x.key.length
    have h3 := hk x List.mem_cons_self
    simp only [insB] at ih
    simp only [insB, List.flatMap_cons, List.length_append, List.length_cons, h1, Nat.mul_add, Nat.mul_one]
    omega
theorem TxSmall.ins0 {t : TTx} (h : TxSmall t) : (insB t.ins).length ≤ 200000000 := by
  have h1 := insB_bound t.ins h.1.2.1 h.2.2.2
  have h2 := h.2.1
  have : (49 + 100000) * t.ins.length ≤ (49 + 100000) * 1000 := Nat.mul_le_mul_left _ h2
  omega
theorem TxSmall.ins {t : TTx} (h : TxSmall t) : (insB t.ins).length ≤ 17592186044416 := Nat.le_trans h.ins0 (by omega)
theorem TxSmall.outs {t : TTx} (h : TxSmall t) : (outsB t.outs).length ≤ 17592186044416 := by
  have h1 := outsB_length t.outs h.1.2.2.1
  have h2 := h.2.2.1
  omega
theorem TxSmall.len {t : TTx} (h : TxSmall t) : (txB t).length ≤ 35184372088832 := by
  have h1 := h.ins0
  have h2 := h.outs
  have h3 := lenN_bd t.ins.length
  have h4 := lenN_bd t.outs.length
  simp only [txB, List.length_append, leB_length, putL_length]
  omega
end Go.Proofs.YtaeebcedobkopaaDoor.Sha

/-
  What the walks of package tx share: cells of an input and an output as rows, bytes of so many of them, sums that stay. No conditions beyond those that each states.
-/
namespace Go.Proofs.YtaeebcedobkopaaDoor.Sha
open Go Go.RowKit
theorem in_one (x : TIn) (kv : Value) (hk : kv.oneCell' = true) : (inL x kv).toArray.all (·.oneCell') = true := by
  rw [Array.all_eq_true_iff_forall_mem]
  intro u hu
  simp only [inL, ptL, List.mem_toArray, List.mem_append, List.mem_cons, List.mem_map, List.not_mem_nil, or_false] at hu
  rcases hu with (⟨a, _, rfl⟩ | rfl) | rfl | rfl
  · rfl
  · rfl
  · exact hk
  · rfl
theorem out_one (y : TOut) : (outL y).toArray.all (·.oneCell') = true := by
  rw [Array.all_eq_true_iff_forall_mem]
  intro u hu
  simp only [outL, List.mem_toArray, List.mem_cons, List.mem_map] at hu
  rcases hu with rfl | ⟨a, _, rfl⟩
  · rfl
  · rfl
theorem TxSmall.bytes {t : TTx} (h : TxSmall t) : (txB t).length = 8 + lenN t.ins.length + lenN t.outs.length + (insB t.ins).length + 40 * t.outs.length := by
  simp only [txB, List.length_append, leB_length, putL_length, outsB_length t.outs h.1.2.2.1]
  omega
end Go.Proofs.YtaeebcedobkopaaDoor.Sha
