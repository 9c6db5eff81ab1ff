/-
  Texts of this proof joined into one file: TwGrow, CtPath, CnLay, CnSt, CnAll, CnBytes, CnSum, CnRefRow, RefPasts. What each holds, and under which conditions, its own first sentence tells.
-/
import Derived.Sort.Grow
import Derived.WalkSpells
import Derived.Carry
import Derived.Shelf.SlGeneric
import Derived.Shelf.SlSortCmp.WholeK
import Derived.IntWalk
import Derived.Lib.OwnKind
import Derived.Test.YtbgagaaoldjhnaaGreatDoorMg12
import Derived.Test.YtbgagaaoldjhnaaGreatDoorMg13
import Derived.Test.YtbgagaaoldjhnaaGreatDoorMg20
import Derived.Test.YtbgagaaoldjhnaaGreatDoorMg01
import Derived.Test.YtbgagaaoldjhnaaGreatDoorMg09
import Derived.Test.YtbgagaaoldjhnaaGreatDoorMg17
import Derived.Test.YtbgagaaoldjhnaaGreatDoorMg14
import Derived.Test.YtbgagaaoldjhnaaGreatDoorMg05
import Derived.Test.YtbgagaaoldjhnaaGreatDoorMg04
import Derived.Test.YtbgagaaoldjhnaaGreatDoorMg03
import Derived.Test.YtbgagaaoldjhnaaGreatDoorMg18
import Derived.Test.YtbgagaaoldjhnaaGreatDoorMg06
/-
  The laws' own chapter's example, and headers that grow out of numbers. Nothing that was there turns. Conditions: the numbers lie where the slice says, at most 60; the table of the rounds' words is there.
-/
namespace Go.Proofs.YtbgagaaoldjhnaaGreatDoor.Sha
open Go Go.RowKit
theorem field_head (h : THd) (hh : HdOk h) (tv : Value) (w : World) : (Instr.field 68 (.agg (blL h tv).toArray) 0).run Tryz.prog w = .ok (.agg (hdL h).toArray) w := by
  have hagg : (isAgg 27).run Tryz.prog w = .ok true w := by
    unfold isAgg
    rw [Sem.run_bind, run_underlying Tryz.underlying27 w]
    rfl
  have hsz : (Go.sizeOf 27).run Tryz.prog w = .ok 68 w := by kernel_rfl
  have e : (blL h tv).toArray.extract 0 68 = (hdL h).toArray := by
    rw [List.extract_toArray, List.extract_eq_take_drop, List.drop_zero, Nat.sub_zero, blL, List.take_append_of_le_length (by rw [hdL_length hh]; exact Nat.le_refl _), List.take_of_length_le (by rw [hdL_length hh]; exact Nat.le_refl _)]
  have hp : (part 27 (blL h tv).toArray 0).run Tryz.prog w = .ok (.agg (hdL h).toArray) w := by
    simp only [part, Sem.run_bind, hagg, Result.andThen_ok, if_true, hsz, Sem.run_pure, Nat.zero_add, e]
  have hf : ∀ x : Array Value, (Instr.field 68 (.agg x) 0).run Tryz.prog w = (part 27 x 0).run Tryz.prog w := fun x => by kernel_rfl
  rw [hf]
  exact hp
theorem ofT_start (h : THd) : ofT [stT h] (hdId h) = (h, 0, h.work, true) := by
  have e : findT [stT h] (hdId h) = ((0 : Nat) : Int) := findT_some (L := [stT h]) (x := stT h) rfl rfl (fun j y hj => by omega)
  unfold ofT
  rw [e, if_neg (by decide)]
  rfl
theorem numb_b (x n : Int) (hn : 1 ≤ n) (hn2 : n ≤ 4611686018427387904) (hx : -9223372036854775808 ≤ x ∧ x ≤ 9223372036854775807) (w : World) :
    Calls Tryz.prog 11 #[.int .i64 x, .int .i64 n] w fun e w' => e = .returned (.int .i64 (numb x n)) ∧ Below w.heap.size w w' :=
  (numb_any x n hn hn2 hx w).mono fun _ _ h => ⟨h.1, by rw [← h.2]; exact Below.refl _ _⟩
theorem info_hd : (Tryz.prog.info? 27).map (fun i => (i.zero, i.size, i.bytes)) = some (some (.agg (hdL hdZ).toArray), 68, 80) := by kernel_rfl
theorem built_hd (v t k : Nat) (p : List UInt8) (hp : p.length = 32) : Tryz.prog.built 27 [(0, .int .u32 (v : Int)), (1, .agg (p.map bV).toArray), (3, .int .u32 (t : Int)), (4, .int .u32 (k : Int))] = some (hdL ⟨v, p, zH, t, k, 0⟩).toArray := by
  have hz : ∀ parts, Tryz.prog.built 27 parts = Instr.fill ([(0, 1), (1, 32), (33, 32), (65, 1), (66, 1), (67, 1)].toArray[·]?) ([] ++ ([nV 0] ++ (List.replicate 32 (bV 0) ++ (List.replicate 32 (bV 0) ++ [nV 0, nV 0, nV 0])))).toArray parts := fun parts => by kernel_rfl
  have l1 : (p.map bV).length = 32 := by simp [hp]
  have e0 : hdL ⟨v, p, zH, t, k, 0⟩ = nV v :: (p.map bV ++ (List.replicate 32 (bV 0) ++ [nV t, nV k, nV 0])) := rfl
  rw [e0]
  obtain ⟨i, hi⟩ : ∃ i, i = p.map bV := ⟨_, rfl⟩
  rw [← hi] at l1 ⊢
  obtain ⟨Z, hZ⟩ : ∃ Z, Z = List.replicate 32 (bV 0) := ⟨_, rfl⟩
  have lz : Z.length = 32 := by rw [hZ]; rfl
  rw [hz, ← hZ, fill_mid _ 0 0 (.int .u32 (v : Int)) [nV v] [] [nV 0] _ _ rfl rfl rfl rfl, List.nil_append,
    fill_mid _ 1 1 (Value.agg i.toArray) i [nV v] Z _ _ rfl (by rw [l1]; rfl) rfl (by rw [l1, lz])]
  have e3 : [nV v] ++ (i ++ (Z ++ [nV 0, nV 0, nV 0])) = ([nV v] ++ i ++ Z) ++ ([nV 0] ++ [nV 0, nV 0]) := by simp
  rw [e3, fill_mid _ 3 65 (.int .u32 (t : Int)) [nV t] ([nV v] ++ i ++ Z) [nV 0] _ _ rfl rfl (by simp [l1, lz]) rfl]
  have e4 : ([nV v] ++ i ++ Z) ++ ([nV t] ++ [nV 0, nV 0]) = ([nV v] ++ i ++ Z ++ [nV t]) ++ ([nV 0] ++ [nV 0]) := by simp
  rw [e4, fill_mid _ 4 66 (.int .u32 (k : Int)) [nV k] ([nV v] ++ i ++ Z ++ [nV t]) [nV 0] _ _ rfl rfl (by simp [l1, lz]) rfl]
  show some _ = some _
  congr 2
  simp
/-- Numbers where a slice says. -/
def SrcZ (w : World) (sp : Option Addr) (m : Nat) (z : Nat → Int) : Prop := 0 < m → ∃ cb coff, sp = some ⟨cb, coff, none⟩ ∧ ∀ i, i < m → w.cell? ⟨cb, coff + i, none⟩ = some (.int .i64 (z i)) ∧ -9223372036854775808 ≤ z i ∧ z i ≤ 9223372036854775807
set_option maxHeartbeats 2000000 in
set_option maxRecDepth 100000 in
theorem tfirst_any (w : World) (hk : KTab w) : Calls Tryz.prog 4 #[] w fun e w' => e = .returned (.bool true) ∧ Below w.heap.size w w' := by
  have HK := Lib.hid hk
  clear hk
  go_enter Tryz.func4, Tryz.ntmps4
  go_wp2_with fail
  refine (rstart_any w).mono ?_
  rintro e w1 ⟨v, rfl, hb, bb⟩
  obtain ⟨hh, tv, rfl, _⟩ := hb
  have hf := field_head startX.head hh tv
  have NW := Lib.hid (ctnew_any w1 startX.head hh (HK.out.below bb))
  have TS : Hid (TrL (ndM [⟨stT startX.head, 0, .slice none 0 0⟩])) := stT_tr hh
  have OS := Lib.hid (ofT_start startX.head)
  have LI : Hid ((hdId startX.head).length = 32) := hdId_length _
  obtain ⟨cb, hcb⟩ : ∃ cb, cb = blL startX.head tv := ⟨_, rfl⟩
  rw [← hcb] at hf ⊢
  obtain ⟨cs, hcs⟩ : ∃ cs, cs = hdL startX.head := ⟨_, rfl⟩
  rw [← hcs] at hf NW
  have B1 := Lib.hid bb
  clear bb hh hcb hcs
  go_wp2_with fail
  clear hf
  refine NW.out.mono ?_
  rintro e w2 ⟨b, mb, g, rfl, hct, bb⟩
  have HT := Lib.hid hct
  have TR : Hid (TrL (ndM [⟨stT startX.head, g, .slice none 0 0⟩])) := TS.out
  have ST : Hid (Calls Tryz.prog 29 #[(.pointer (some ⟨b, 0, none⟩))] w2 fun e w' => e = .returned (.agg ((hdId startX.head).map bV).toArray) ∧ Below w2.heap.size w2 w') := ctstart_any w2 _ b mb _ hct TR.out
  have HG : Hid (∀ W, Below w2.heap.size w2 W → Calls Tryz.prog 15 #[(.pointer (some ⟨b, 0, none⟩)), .agg ((hdId startX.head).map bV).toArray] W fun e w' => e = .returned (.tuple #[.int .i64 0, .bool true]) ∧ Below W.heap.size W w') := fun W hW => by
    have h := ctheight_any W _ b mb _ (hdId startX.head) (hct.below hW) TR.out LI.out
    have e : ofT (ndM [⟨stT startX.head, g, .slice none 0 0⟩]) (hdId startX.head) = (startX.head, 0, startX.head.work, true) := OS.out
    rw [e] at h
    exact h
  have LN : Hid (∀ W, Below w2.heap.size w2 W → Calls Tryz.prog 27 #[(.pointer (some ⟨b, 0, none⟩))] W fun e w' => e = .returned (.int .i64 1) ∧ W = w') := fun W hW => ctlen_any W _ b mb _ (hct.below hW) TR.out
  obtain ⟨ci, hci⟩ : ∃ ci, ci = (hdId startX.head).map bV := ⟨_, rfl⟩
  rw [← hci] at ST HG
  have B2 := Lib.hid (B1.out.trans (bb.mono B1.out.size))
  clear hct bb NW TS OS hci
  go_wp2_with fail
  refine ST.out.mono ?_
  rintro e w3 ⟨rfl, bb⟩
  have C3 := Lib.hid bb
  have B3 := Lib.hid (B2.out.trans (bb.mono B2.out.size))
  clear bb ST
  go_wp2_with fail
  refine (HG.out w3 C3.out).mono ?_
  rintro e w4 ⟨rfl, bb⟩
  have C4 := Lib.hid (C3.out.trans (bb.mono C3.out.size))
  have B4 := Lib.hid (B3.out.trans (bb.mono B3.out.size))
  clear bb HG
  go_wp2_with fail
  refine (LN.out w4 C4.out).mono ?_
  rintro e w5 ⟨rfl, rfl⟩
  go_wp2_with fail
  go_ret
  exact ⟨rfl, B4.out⟩
def GrInv (z : Nat → Int) (m : Nat) (w : World) (vo vi : Value) (wr : World) : Prop :=
  ∃ (k : Nat) (ov : Value), ov = vo ∧ vi = .int .i64 (k : Int) ∧ k ≤ m ∧ RwOwn 68 27 w.heap.size wr ov ((grownN z k).map hdL) ∧ Below w.heap.size w wr
set_option maxHeartbeats 4000000 in
set_option maxRecDepth 100000 in
theorem tgrown_any (w : World) (sp : Option Addr) (m cap : Nat) (z : Nat → Int) (hz : SrcZ w sp m z) (hm : m ≤ 60) :
    Calls Tryz.prog 5 #[(.slice sp m cap)] w fun e w' => ∃ v, e = .returned v ∧ RwOwn 68 27 w.heap.size w' v ((grownN z m).map hdL) ∧ Below w.heap.size w w' := by
  obtain ⟨i0, hi, hz0, hz1, hz2⟩ := info_parts info_hd
  have HZ := Lib.hid hz
  have HM := Lib.hid hm
  clear hz hm
  go_enter Tryz.func5, Tryz.ntmps5
  go_wp2_with fail
  refine (rstart_any w).mono ?_
  rintro e w1 ⟨v, rfl, hb, bb⟩
  obtain ⟨hh, tv, rfl, _⟩ := hb
  have hf := field_head startX.head hh tv
  have LC : Hid ((hdL startX.head).length = 68) := hdL_length hh
  obtain ⟨cb, hcb⟩ : ∃ cb, cb = blL startX.head tv := ⟨_, rfl⟩
  rw [← hcb] at hf ⊢
  obtain ⟨cs, hcs⟩ : ∃ cs, cs = hdL startX.head := ⟨_, rfl⟩
  rw [← hcs] at hf LC
  have CSE := Lib.hid hcs
  have B1 := Lib.hid bb
  clear bb hh hcb hcs
  go_upto_region 2 with ((with_reducible show wpList _ _ _ _ _ _); (refine wpList_slice_one rfl 29 27 (.tmp 7) rfl cs rfl Tryz.underlying29 i0 _ hi hz0 (by rw [hz1, LC.out]) (by rw [LC.out]; omega) (by rw [LC.out]; omega) ?_; have nf := heap_alloc_new w1 (.cells (cs).toArray 27 (0, 0)); have bb := (Below.refl w1.heap.size w1).alloc (Nat.le_refl _) (.cells (cs).toArray 27 (0, 0)); obtain ⟨g1, hg1⟩ : ∃ g, g = w1.heap.size := ⟨_, rfl⟩; generalize hq : World.alloc _ _ = w2; have e2 : w1.alloc (.cells (cs).toArray 27 (0, 0)) = w2 := hq; rw [e2] at nf bb; rw [← hg1] at nf ⊢; have NF := Lib.hid nf; have B2 := Lib.hid (B1.out.trans (bb.mono B1.out.size)); have GB : Hid (w1.heap.size ≤ g1) := (by show _ ≤ _; rw [hg1]; exact Nat.le_refl _); clear nf bb hq e2 hg1; go_frame))
  clear hf
  have ST : Hid (RwOwn 68 27 w.heap.size w2 (.slice (some ⟨g1, 0, none⟩) 1 1) ((grownN z 0).map hdL)) := by
    have e : (grownN z 0).map hdL = [cs] := by rw [CSE.out]; rfl
    rw [e]
    exact rw_of_row NF.out (Nat.le_trans B1.out.size GB.out) LC.out
  clear B1 NF GB
  go_wp2_with fail
  go_loopw [3, 4] (fun vo vi wr => GrInv z m w vo vi wr) (fun _ vi _ => m - (intOf vi).toNat)
  case atStart => exact ⟨0, _, rfl, rfl, Nat.zero_le _, ST.out, B2.out⟩
  case round =>
    clear ST B2
    obtain ⟨k, ov, rfl, rfl, hk, ho, hb⟩ := hrel
    have B := Lib.hid hb
    by_cases hlt : k < m
    · obtain ⟨zb, zo, hsp, hzc⟩ := HZ.out (by omega)
      subst hsp
      have hzk := hzc k hlt
      have c0 := cell_below hzk.1 hb
      obtain ⟨nn, hnn⟩ : ∃ nn, nn = k + 1 := ⟨_, rfl⟩
      have GL : Hid ((grownN z k).length = nn) := by show _ = _; rw [grownN_length, hnn]
      obtain ⟨so, co, rfl⟩ : ∃ so co, ov = .slice so nn co := by
        obtain ⟨so, co, e⟩ := (ho.at (by omega)).shape
        exact ⟨so, co, by rw [e, List.length_map, GL.out]⟩
      obtain ⟨bo, oo, rfl, hgo⟩ := (ho.at (by omega)).get (by omega)
      obtain ⟨r, hr, hrn⟩ := numb_nat (z k) nn (by omega)
      obtain ⟨on, hon⟩ : ∃ on, (grownN z k)[r]? = some on := ⟨_, List.getElem?_eq_getElem (by rw [GL.out]; exact hrn)⟩
      have OKO := Lib.hid (grownN_ok z k on (List.mem_of_getElem? hon))
      have RO := Lib.hid (hgo r (hdL on) (by rw [List.getElem?_map, hon]; rfl))
      have LO : Hid ((hdL on).length = 68) := hdL_length OKO.out
      have LO' : Hid ((hdL on).toArray.size = 68) := by show _ = _; rw [List.size_toArray]; exact LO.out
      have OO : Hid ((hdL on).toArray.all (·.oneCell') = true) := all_oneCell_toArray (hdL_one' _)
      have RI := Lib.hid (fun W => rheadid_any on OKO.out W)
      have CT : Hid (∀ (W : World) (g : Nat), W.heap[g]? = some (.cells (hdL on).toArray 27 (0, 0)) → W.cell? ⟨g, 65, none⟩ = some (.int .u32 (on.time : Int))) := fun W g q => ((HdBox.mk q).cells OKO.out).2.1
      have NB := Lib.hid (numb_any (z k) (nn : Int) (by omega) (by have := HM.out; omega) hzk.2 wr)
      rw [hr] at NB
      have B30 := numb_bd ((z k).tdiv 64) 30 (by omega)
      have B4 := numb_bd ((z k).tdiv 2048) 4 (by omega)
      have ZB := Lib.hid hzk.2
      have NX : Hid (growH (grownN z k) k (z k) = ⟨k, hdId on, zH, (on.time + (numb ((z k).tdiv 64) 30).toNat) % 4294967296, 1 + (numb ((z k).tdiv 2048) 4).toNat, 0⟩) := by
        have e : (grownN z k).getD (numb (z k) (grownN z k).length).toNat startX.head = on := by
          rw [GL.out, hr, Int.toNat_natCast, List.getD_eq_getElem?_getD, hon]
          rfl
        show _ = _
        unfold growH
        rw [e, Nat.mod_eq_of_lt (show k < 4294967296 by have := HM.out; omega)]
      obtain ⟨a30, ha30⟩ : ∃ a30, a30 = numb ((z k).tdiv 64) 30 := ⟨_, rfl⟩
      obtain ⟨a4, ha4⟩ : ∃ a4, a4 = numb ((z k).tdiv 2048) 4 := ⟨_, rfl⟩
      rw [← ha30, ← ha4] at NX
      rw [← ha30] at B30
      rw [← ha4] at B4
      obtain ⟨t2, ht2⟩ : ∃ t2, t2 = (on.time + a30.toNat) % 4294967296 := ⟨_, rfl⟩
      obtain ⟨k2, hk2⟩ : ∃ k2, k2 = 1 + a4.toNat := ⟨_, rfl⟩
      rw [← ht2, ← hk2] at NX
      have N30 : Hid (∀ W, Calls Tryz.prog 11 #[.int .i64 ((z k).tdiv 64), .int .i64 30] W fun e w' => e = .returned (.int .i64 a30) ∧ Below W.heap.size W w') := fun W => by
        rw [ha30]
        exact numb_b _ 30 (by omega) (by omega) (by have h := ZB.out; have hb := tdiv_between (z k) 64 (by omega); rcases Int.le_total 0 (z k) with q | q; have := hb.1 q; omega; have := hb.2 q; omega) W
      have N4 : Hid (∀ W, Calls Tryz.prog 11 #[.int .i64 ((z k).tdiv 2048), .int .i64 4] W fun e w' => e = .returned (.int .i64 a4) ∧ Below W.heap.size W w') := fun W => by
        rw [ha4]
        exact numb_b _ 4 (by omega) (by omega) (by have h := ZB.out; have hb := tdiv_between (z k) 2048 (by omega); rcases Int.le_total 0 (z k) with q | q; have := hb.1 q; omega; have := hb.2 q; omega) W
      have BH : Hid (Tryz.prog.built 27 [(0, .int .u32 (k : Int)), (1, .agg ((hdId on).map bV).toArray), (3, .int .u32 (t2 : Int)), (4, .int .u32 (k2 : Int))] = some (hdL (growH (grownN z k) k (z k))).toArray) := by
        show _ = _
        rw [NX.out]
        exact built_hd k t2 k2 (hdId on) (hdId_length on)
      have LN : Hid ((hdL (growH (grownN z k) k (z k))).length = 68) := hdL_length (growH_ok _ _ _)
      have ONN : Hid (∀ u ∈ hdL (growH (grownN z k) k (z k)), u.oneCell' = true) := hdL_one' _
      have GS : Hid ((grownN z (k + 1)).map hdL = (grownN z k).map hdL ++ [hdL (growH (grownN z k) k (z k))]) := by show _ = _; rw [grownN, List.map_append]; rfl
      have DL : Hid (((grownN z k).map hdL).length ≤ 1000) := by show _ ≤ _; rw [List.length_map, GL.out, hnn]; have := HM.out; omega
      have OW := Lib.hid ho
      obtain ⟨L, hL⟩ : ∃ L, L = (grownN z k).map hdL := ⟨_, rfl⟩
      obtain ⟨cn, hcn⟩ : ∃ cn, cn = hdL (growH (grownN z k) k (z k)) := ⟨_, rfl⟩
      rw [← hL] at GS DL OW
      rw [← hcn] at GS BH LN ONN
      obtain ⟨ci, hci⟩ : ∃ ci, ci = (hdId on).map bV := ⟨_, rfl⟩
      rw [← hci] at RI BH
      obtain ⟨cw, hcw⟩ : ∃ cw, cw = hdL on := ⟨_, rfl⟩
      rw [← hcw] at RO LO LO' OO RI CT
      have T2 := Lib.hid ht2
      have K2 := Lib.hid hk2
      have B30 := Lib.hid B30
      have B4 := Lib.hid B4
      have HNN := Lib.hid hnn
      have TM : Hid (on.time ≤ 4294967295) := OKO.out.2.2.2.1
      have KM : Hid (k < 60) := by show _ < _; have := HM.out; omega
      have HZC := Lib.hid (hzc k hlt).1
      have r0 : 0 ≤ (r : Int) := by omega
      have r1 : (r : Int) < (nn : Int) := by omega
      have p0 : 0 ≤ (k : Int) := by omega
      have p1 : (k : Int) < (m : Int) := by omega
      clear hk ho hb hzc hzk hr hrn hon hgo ha30 ha4 ht2 hk2 hL hcn hci hcw NX hnn
      go_upto_region 5 with fail
      go_wp2_with fail
      refine NB.out.mono ?_
      rintro e w2 ⟨rfl, rfl⟩
      clear NB
      go_upto_region 6 with ((with_reducible show wpList _ _ _ _ _ _); first | (refine wpList_load_mid rfl 27 (.tmp 23) rfl bo (oo + r * 68) rfl cw _ RO.out Tryz.underlying27 rfl (by rw [LO.out]; kernel_rfl) ?_; go_frame) | (refine wpList_store_row rfl 27 (.tmp 5) (.tmp 24) rfl wr.heap.size cw.toArray rfl rfl 27 _ (heap_alloc_new _ _) (by rw [LO'.out]; kernel_rfl) (by rw [LO'.out]; rfl) OO.out ?_; go_frame))
      obtain ⟨_, f2, f3, f4⟩ := fill_setup (Below.refl wr.heap.size wr) (hdL hdZ).toArray cw.toArray 27
      generalize hqw3 : World.setRow _ _ _ = w3
      have ew3 : World.setRow (wr.alloc (.cells (hdL hdZ).toArray 27)) wr.heap.size cw.toArray = w3 := hqw3
      rw [ew3] at f2 f3 f4
      obtain ⟨g5, hg5⟩ : ∃ g5, g5 = wr.heap.size := ⟨_, rfl⟩
      rw [← hg5] at f2 ⊢
      have F5 := Lib.hid f2
      have Ng5 : Hid (wr.heap.size ≤ g5) := by show _ ≤ _; rw [hg5]; exact Nat.le_refl _
      have B3 := Lib.hid (B.out.trans (f4.mono B.out.size))
      have OW := Lib.hid (OW.out.keep f4)
      clear f2 f3 f4 hqw3 ew3 hg5
      clear c0 r0 r1 RO Ng5 LO' OO
      refine wp_region_end (fun w' => Below w3.heap.size w3 w') [25] (by kernel_rfl) (Below.drew (Below.refl _ _)) (fun hHeld => ?_)
      generalize hwd : w3.drew = wd at  hHeld ⊢
      clear hwd
      refine end_take (i := 0) (v := (.slice (some ⟨bo, oo, none⟩) nn co)) rfl (by kernel_rfl) (by kernel_rfl) (by kernel_rfl) (by kernel_rfl) (fun _ _ _ h => h) (Or.inl ⟨by rfl, fun w' _ => by kernel_rfl⟩) hHeld ?_
      go_frame
      refine end_take (i := 1) (v := (.int .i64 (k : Int))) rfl (by kernel_rfl) (by kernel_rfl) (by kernel_rfl) (by kernel_rfl) (fun _ _ _ h => h) (Or.inl ⟨by rfl, fun w' _ => by kernel_rfl⟩) hHeld ?_
      go_frame
      refine end_take (i := 2) (v := (.int .u32 (k : Int))) rfl (by kernel_rfl) (by kernel_rfl) (by kernel_rfl) (by kernel_rfl) (fun _ _ _ h => h) (Or.inl ⟨by rfl, fun w' _ => by go_simp; have := KM.out; rw [IntKind.wrap_u32]; omega⟩) hHeld ?_
      go_frame
      refine end_take (i := 3) (v := (.agg cw.toArray)) rfl (by kernel_rfl) (by kernel_rfl) (by kernel_rfl) (by kernel_rfl) (fun _ _ _ h => h) (yieldsIf_load_row (by rfl) 27 (.tmp 5) rfl g5 rfl 27 cw.toArray (0, 0) _ (fun w' hw' => row_below F5.out hw') Tryz.underlying27 rfl (by show _ = some cw.length; rw [LO.out]; kernel_rfl)) hHeld ?_
      go_frame
      refine end_take (i := 5) (v := (.pointer (some ⟨g5, 65, none⟩))) rfl (by kernel_rfl) (by kernel_rfl) (by kernel_rfl) (by kernel_rfl) (fun _ _ _ h => h) (Or.inl ⟨by rfl, fun w' _ => by kernel_rfl⟩) hHeld ?_
      go_frame
      refine end_take (i := 6) (v := (.int .u32 (on.time : Int))) rfl (by kernel_rfl) (by kernel_rfl) (by kernel_rfl) (by kernel_rfl) (fun _ _ _ h => h) (yieldsIf_load_one (by rfl) 23 (.tmp 30) rfl g5 (65) rfl _ _ (fun w' hw' => CT.out _ _ (row_below F5.out hw')) Tryz.underlying23 rfl) hHeld ?_
      go_frame
      refine end_take (i := 7) (v := (.slice (some ⟨zb, zo, none⟩) m cap)) rfl (by kernel_rfl) (by kernel_rfl) (by kernel_rfl) (by kernel_rfl) (fun _ _ _ h => h) (Or.inl ⟨by rfl, fun w' _ => by kernel_rfl⟩) hHeld ?_
      go_frame
      refine end_take (i := 8) (v := (.int .i64 (k : Int))) rfl (by kernel_rfl) (by kernel_rfl) (by kernel_rfl) (by kernel_rfl) (fun _ _ _ h => h) (Or.inl ⟨by rfl, fun w' _ => by kernel_rfl⟩) hHeld ?_
      go_frame
      refine end_take (i := 9) (v := (.pointer (some ⟨zb, zo + k, none⟩))) rfl (by kernel_rfl) (by kernel_rfl) (by kernel_rfl) (by kernel_rfl) (fun _ _ _ h => h) (Or.inl ⟨by rfl, fun w' _ => by go_simp⟩) hHeld ?_
      go_frame
      refine end_take (i := 10) (v := (.int .i64 (z k))) rfl (by kernel_rfl) (by kernel_rfl) (by kernel_rfl) (by kernel_rfl) (fun _ _ _ h => h) (yieldsIf_load_one (by rfl) 3 (.tmp 34) rfl zb (zo + k) rfl _ _ (fun w' hw' => cell_below HZC.out (B3.out.trans (hw'.mono B3.out.size))) Tryz.underlying3 rfl) hHeld ?_
      go_frame
      refine end_take (i := 11) (v := (.int .i64 ((z k).tdiv 64))) rfl (by kernel_rfl) (by kernel_rfl) (by kernel_rfl) (by kernel_rfl) (fun _ _ _ h => h) (Or.inl ⟨by rfl, fun w' _ => by go_simp; exact wrap_i64_tdiv _ _ ZB.out.1 ZB.out.2 (by omega)⟩) hHeld ?_
      go_frame
      refine end_take (i := 15) (v := (.slice (some ⟨zb, zo, none⟩) m cap)) rfl (by kernel_rfl) (by kernel_rfl) (by kernel_rfl) (by kernel_rfl) (fun _ _ _ h => h) (Or.inl ⟨by rfl, fun w' _ => by kernel_rfl⟩) hHeld ?_
      go_frame
      refine end_take (i := 16) (v := (.int .i64 (k : Int))) rfl (by kernel_rfl) (by kernel_rfl) (by kernel_rfl) (by kernel_rfl) (fun _ _ _ h => h) (Or.inl ⟨by rfl, fun w' _ => by kernel_rfl⟩) hHeld ?_
      go_frame
      refine end_take (i := 17) (v := (.pointer (some ⟨zb, zo + k, none⟩))) rfl (by kernel_rfl) (by kernel_rfl) (by kernel_rfl) (by kernel_rfl) (fun _ _ _ h => h) (Or.inl ⟨by rfl, fun w' _ => by go_simp⟩) hHeld ?_
      go_frame
      refine end_take (i := 18) (v := (.int .i64 (z k))) rfl (by kernel_rfl) (by kernel_rfl) (by kernel_rfl) (by kernel_rfl) (fun _ _ _ h => h) (yieldsIf_load_one (by rfl) 3 (.tmp 42) rfl zb (zo + k) rfl _ _ (fun w' hw' => cell_below HZC.out (B3.out.trans (hw'.mono B3.out.size))) Tryz.underlying3 rfl) hHeld ?_
      go_frame
      refine end_take (i := 19) (v := (.int .i64 ((z k).tdiv 2048))) rfl (by kernel_rfl) (by kernel_rfl) (by kernel_rfl) (by kernel_rfl) (fun _ _ _ h => h) (Or.inl ⟨by rfl, fun w' _ => by go_simp; exact wrap_i64_tdiv _ _ ZB.out.1 ZB.out.2 (by omega)⟩) hHeld ?_
      go_frame
      refine end_next (i := 4) (by kernel_rfl) rfl (fun K hK => ?_)
      go_simp
      refine (RI.out _).mono ?_
      rintro e v1 ⟨rfl, bb⟩
      have hv1 := hHeld.trans (bb.mono hHeld.size)
      clear bb hHeld
      go_wp2_with fail
      refine hK.out _ _ hv1 (fun hHeld => ?_)
      clear hK K hv1
      refine end_next (i := 12) (by kernel_rfl) rfl (fun K hK => ?_)
      go_simp
      refine (N30.out _).mono ?_
      rintro e v2 ⟨rfl, bb⟩
      have hv2 := hHeld.trans (bb.mono hHeld.size)
      clear bb hHeld
      go_wp2_with fail
      refine hK.out _ _ hv2 (fun hHeld => ?_)
      clear hK K hv2
      refine end_take (i := 13) (v := (.int .u32 a30)) rfl (by kernel_rfl) (by kernel_rfl) (by kernel_rfl) (by kernel_rfl) (fun _ _ _ h => h) (Or.inl ⟨by rfl, fun w' _ => by go_simp; have := B30.out; rw [IntKind.wrap_u32]; omega⟩) hHeld ?_
      go_frame
      refine end_take (i := 14) (v := (.int .u32 (t2 : Int))) rfl (by kernel_rfl) (by kernel_rfl) (by kernel_rfl) (by kernel_rfl) (fun _ _ _ h => h) (Or.inl ⟨by rfl, fun w' _ => by go_simp; have := B30.out; have := T2.out; rw [IntKind.wrap_u32]; omega⟩) hHeld ?_
      go_frame
      refine end_next (i := 20) (by kernel_rfl) rfl (fun K hK => ?_)
      go_simp
      refine (N4.out _).mono ?_
      rintro e v3 ⟨rfl, bb⟩
      have hv3 := hHeld.trans (bb.mono hHeld.size)
      clear bb hHeld
      go_wp2_with fail
      refine hK.out _ _ hv3 (fun hHeld => ?_)
      clear hK K hv3
      refine end_take (i := 21) (v := (.int .i64 (1 + a4))) rfl (by kernel_rfl) (by kernel_rfl) (by kernel_rfl) (by kernel_rfl) (fun _ _ _ h => h) (Or.inl ⟨by rfl, fun w' _ => by go_simp; have := B4.out; rw [IntKind.wrap_i64]; omega⟩) hHeld ?_
      go_frame
      refine end_take (i := 22) (v := (.int .u32 (k2 : Int))) rfl (by kernel_rfl) (by kernel_rfl) (by kernel_rfl) (by kernel_rfl) (fun _ _ _ h => h) (Or.inl ⟨by rfl, fun w' _ => by go_simp; have := B4.out; have := K2.out; rw [IntKind.wrap_u32]; omega⟩) hHeld ?_
      go_frame
      refine end_take (i := 23) (v := (.agg cn.toArray)) rfl (by kernel_rfl) (by kernel_rfl) (by kernel_rfl) (by kernel_rfl) (fun _ _ _ h => h) (yieldsIf_build (by rfl) 27 _ rfl [(0, .int .u32 (k : Int)), (1, .agg ci.toArray), (3, .int .u32 (t2 : Int)), (4, .int .u32 (k2 : Int))] (by kernel_rfl) _ BH.out) hHeld ?_
      go_frame
      refine end_next (i := 24) (by kernel_rfl) rfl (fun K hK => ?_)
      rw [if_pos (by rfl)]
      refine wp_slice_one 29 27 (.tmp 48) rfl cn rfl Tryz.underlying29 i0 _ hi hz0 (by rw [hz1, LN.out]) (by rw [LN.out]; omega) (by rw [LN.out]; omega) ?_
      have nf := heap_alloc_new v3 (.cells cn.toArray 27 (0, 0))
      have bb := (Below.refl v3.heap.size v3).alloc (Nat.le_refl _) (.cells cn.toArray 27 (0, 0))
      obtain ⟨gv4, hgv4⟩ : ∃ g, g = v3.heap.size := ⟨_, rfl⟩
      generalize hqv4 : World.alloc _ _ = v4
      have ev4 : v3.alloc (.cells cn.toArray 27 (0, 0)) = v4 := hqv4
      rw [ev4] at nf bb
      rw [← hgv4] at nf ⊢
      have NF := Lib.hid nf
      have hv4 := hHeld.trans (bb.mono hHeld.size)
      clear nf bb hqv4 ev4 hgv4 hHeld
      go_frame
      refine hK.out _ _ hv4 (fun hHeld => ?_)
      clear hK K hv4
      refine end_last (i := 25) (by kernel_rfl) (by kernel_rfl) rfl (fun K hK => ?_)
      rw [if_pos (by rfl)]
      have OWa := Lib.hid (OW.out.keep hHeld)
      have Ba := Lib.hid (B3.out.trans (hHeld.mono B3.out.size))
      refine wp_append_row v4 (.tmp 25) (.tmp 49) 29 rfl w.heap.size 27 i0 (.agg (hdL hdZ).toArray) 68 80 Tryz.underlying29 hi hz0 hz1 hz2 (by kernel_rfl) (by decide) (.slice (some ⟨bo, oo, none⟩) nn co) L.length L.flatten rfl OWa.out.1 ⟨gv4, 0, none⟩ 1 1 cn rfl (by rw [LN.out]) (fun j u hj => by rw [Addr.add_mid]; exact range_of_box NF.out j u hj) ONN.out (by have := DL.out; unfold maxLen; omega) (by have := DL.out; omega) Ba.out.size ?_
      intro nv v5 q1 q2 q3
      have OWn : Hid (RwOwn 68 27 w.heap.size v5 nv (L ++ [cn])) := RwOwn.push OWa.out.2 LN.out q1
      have Bn := Lib.hid (own_grown Ba.out (Nat.le_refl _) Ba.out.size OWa.out.1 q2)
      clear q1 q2 q3 hHeld OWa Ba NF
      go_frame
      refine hK.out _ _ ?_
      clear hK K
      refine end_late (i := 26) (v := nv) rfl (by kernel_rfl) (by kernel_rfl) (by kernel_rfl) (by kernel_rfl) (by kernel_rfl) (fun _ _ _ h => h) (Or.inl ⟨by rfl, fun w' _ => by kernel_rfl⟩) ?_
      go_frame
      refine end_done (by kernel_rfl) ?_ _
      have km := KM.out
      go_wp2_with fail
      go_roundw
      case rel => exact ⟨k + 1, nv, rfl, by go_num, by omega, by rw [GS.out]; exact OWn.out, Bn.out⟩
      case measure => simp [intOf]; omega
    · have e : k = m := by omega
      subst e
      have OW := Lib.hid ho
      clear ho hb hk
      go_wp2_with fail
      go_ret
      exact ⟨_, rfl, OW.out, B.out⟩
end Go.Proofs.YtbgagaaoldjhnaaGreatDoor.Sha

/-
  The program's tree: what two blocks have in common, the way from one to the other. Nothing that was there turns. Conditions: the tree lies where it should, nodes as the model has them, digests of 32 bytes.
-/
namespace Go.Proofs.YtbgagaaoldjhnaaGreatDoor.Sha
open Go Go.RowKit
def BothP (M : List CNd) (x y : Int) (va vb : Value) (bo : Bool) : Prop :=
  (bo = false ∧ (x < 0 ∨ y < 0)) ∨ (bo = true ∧ ∃ (k : Nat) (c : CNd) (k2 : Nat) (c2 : CNd), x = (k : Int) ∧ M[k]? = some c ∧ y = (k2 : Int) ∧ M[k2]? = some c2 ∧ va = .pointer (some ⟨c.ad, 0, none⟩) ∧ vb = .pointer (some ⟨c2.ad, 0, none⟩))
def BoPost (M : List CNd) (x y : Int) (e : Ending) : Prop := ∃ va vb bo, e = .returned (.tuple #[va, vb, .bool bo]) ∧ BothP M x y va vb bo
set_option maxHeartbeats 2000000 in
set_option maxRecDepth 100000 in
theorem ctboth_any (w : World) (base b mb : Nat) (M : List CNd) (ia ib : List UInt8) (h : CtAt w base b mb M) (ht : TrL (ndM M)) (hia : ia.length = 32) (hib : ib.length = 32) :
    Calls Tryz.prog 44 #[(.pointer (some ⟨b, 0, none⟩)), .agg (ia.map bV).toArray, .agg (ib.map bV).toArray] w fun e w' => BoPost M (findT (ndM M) ia) (findT (ndM M) ib) e ∧ Below w.heap.size w w' := by
  have HT := Lib.hid h
  have TR := Lib.hid ht
  have LS := Lib.hid ht.start.1
  obtain ⟨oa, qa, hlka, hcaa⟩ := ct_look h ht ia hia
  obtain ⟨ob, qb, hlkb, hcab⟩ := ct_look h ht ib hib
  have LKA := Lib.hid hlka
  have LKB := Lib.hid hlkb
  have CAA := Lib.hid hcaa
  have CAB := Lib.hid hcab
  have SA : Hid ((ia.map bV).length = 32) := by show _ = _; rw [List.length_map]; exact hia
  have SB : Hid ((ib.map bV).length = 32) := by show _ = _; rw [List.length_map]; exact hib
  obtain ⟨ca, hca⟩ : ∃ ca, ca = ia.map bV := ⟨_, rfl⟩
  obtain ⟨cb, hcb⟩ : ∃ cb, cb = ib.map bV := ⟨_, rfl⟩
  rw [← hca] at LKA SA ⊢
  rw [← hcb] at LKB SB ⊢
  clear h ht hlka hlkb hcaa hcab hia hib hca hcb
  go_enter Tryz.func44, Tryz.ntmps44
  go_upto_region 1 with fail
  have f0 := row_below (heap_alloc_new w (.cells ca.toArray 25 (0, 0))) ((Below.refl _ _).alloc (Nat.le_refl _) (.cells cb.toArray 25 (0, 0)))
  have f1 := heap_alloc_new (w.alloc (.cells ca.toArray 25 (0, 0))) (.cells cb.toArray 25 (0, 0))
  have bb : Below w.heap.size w ((w.alloc (.cells ca.toArray 25 (0, 0))).alloc (.cells cb.toArray 25 (0, 0))) := (((Below.refl w.heap.size w).alloc (by first | exact Nat.le_refl _ | (simp only [World.size_alloc]; omega)) (.cells ca.toArray 25 (0, 0))).alloc (by first | exact Nat.le_refl _ | (simp only [World.size_alloc]; omega)) (.cells cb.toArray 25 (0, 0)))
  simp only [World.size_alloc] at f1
  generalize hq : World.alloc _ _ = w1
  have eq : (w.alloc (.cells ca.toArray 25 (0, 0))).alloc (.cells cb.toArray 25 (0, 0)) = w1 := hq
  rw [eq] at f0 f1 bb
  obtain ⟨g5, hg5⟩ : ∃ g5, g5 = w.heap.size + 1 := ⟨_, rfl⟩
  have Gg5 : Hid (w.heap.size ≤ g5) := by show _ ≤ _; omega
  rw [← hg5] at f1 ⊢
  obtain ⟨g4, hg4⟩ : ∃ g4, g4 = w.heap.size := ⟨_, rfl⟩
  have Gg4 : Hid (w.heap.size ≤ g4) := by show _ ≤ _; omega
  rw [← hg4] at f0 ⊢
  have F4 := Lib.hid f0
  have F5 := Lib.hid f1
  have B1 := Lib.hid bb
  clear f0 f1 bb hq eq hg4 hg5
  refine wp_region_held_drew (S := (fun w' => Below w1.heap.size w1 w')) (by kernel_rfl) (Below.drew (Below.refl _ _)) (fun hHeld => ?_)
  generalize hwd : w1.drew = wd at  hHeld ⊢
  clear hwd
  refine held_take (i := 0) (v := (.pointer (some ⟨b, 0, none⟩))) rfl (by kernel_rfl) (by kernel_rfl) (by kernel_rfl) (fun _ _ _ h => h) (Or.inl ⟨by rfl, fun w' _ => by kernel_rfl⟩) hHeld ?_
  go_frame
  refine held_take (i := 1) (v := (.pointer (some ⟨b, 0, none⟩))) rfl (by kernel_rfl) (by kernel_rfl) (by kernel_rfl) (fun _ _ _ h => h) (Or.inl ⟨by rfl, fun w' _ => by kernel_rfl⟩) hHeld ?_
  go_frame
  refine held_take (i := 2) (v := (.pointer (some ⟨b, 32, none⟩))) rfl (by kernel_rfl) (by kernel_rfl) (by kernel_rfl) (fun _ _ _ h => h) (Or.inl ⟨by rfl, fun w' _ => by kernel_rfl⟩) hHeld ?_
  go_frame
  refine held_take (i := 3) (v := (.map (some mb))) rfl (by kernel_rfl) (by kernel_rfl) (by kernel_rfl) (fun _ _ _ h => h) (yieldsIf_load_one (by rfl) 74 (.tmp 16) rfl b (32) rfl _ _ (fun w' hw' => (HT.out.below (B1.out.trans (hw'.mono B1.out.size))).mcell LS.out) Tryz.underlying74 rfl) hHeld ?_
  go_frame
  refine held_take (i := 4) (v := (.agg ca.toArray)) rfl (by kernel_rfl) (by kernel_rfl) (by kernel_rfl) (fun _ _ _ h => h) (yieldsIf_load_row (by rfl) 25 (.tmp 4) rfl g4 rfl 25 ca.toArray (0, 0) _ (fun w' hw' => row_below F4.out hw') Tryz.underlying25 rfl (by show _ = some ca.length; rw [SA.out]; kernel_rfl)) hHeld ?_
  go_frame
  refine held_take (i := 5) (v := (.tuple #[oa, .bool qa])) rfl (by kernel_rfl) (by kernel_rfl) (by kernel_rfl) (fun _ _ _ h => h) (yieldsIf_lookup (by rfl) 74 (.tmp 17) (.tmp 18) true rfl _ _ _ rfl rfl (fun w' hw' => LKA.out w' (B1.out.trans (hw'.mono B1.out.size)))) hHeld ?_
  go_frame
  refine held_take (i := 6) (v := (.tuple #[oa, .bool qa])) rfl (by kernel_rfl) (by kernel_rfl) (by kernel_rfl) (fun _ _ _ h => h) (Or.inl ⟨by rfl, fun w' _ => by kernel_rfl⟩) hHeld ?_
  go_frame
  refine held_take (i := 7) (v := oa) rfl (by kernel_rfl) (by kernel_rfl) (by kernel_rfl) (fun _ _ _ h => h) (Or.inl ⟨by rfl, fun w' _ => by kernel_rfl⟩) hHeld ?_
  go_frame
  refine held_take (i := 8) (v := (.bool qa)) rfl (by kernel_rfl) (by kernel_rfl) (by kernel_rfl) (fun _ _ _ h => h) (Or.inl ⟨by rfl, fun w' _ => by kernel_rfl⟩) hHeld ?_
  go_frame
  refine held_take (i := 9) (v := oa) rfl (by kernel_rfl) (by kernel_rfl) (by kernel_rfl) (fun _ _ _ h => h) (Or.inl ⟨by rfl, fun w' _ => by kernel_rfl⟩) hHeld ?_
  go_frame
  refine held_take (i := 10) (v := (.bool qa)) rfl (by kernel_rfl) (by kernel_rfl) (by kernel_rfl) (fun _ _ _ h => h) (Or.inl ⟨by rfl, fun w' _ => by kernel_rfl⟩) hHeld ?_
  go_frame
  refine wpAnyH_done (by kernel_rfl) ?_ _
  obtain ⟨v8, hv8⟩ : ∃ v8, v8 = wd := ⟨_, rfl⟩
  rw [← hv8] at  hHeld ⊢
  clear hv8
  have B2 := Lib.hid (B1.out.trans (hHeld.mono B1.out.size))
  have F5 := Lib.hid (row_below F5.out hHeld)
  clear hHeld LKA F4 B1
  go_upto_region 2 with fail
  refine wp_region_held_drew (S := (fun w' => Below v8.heap.size v8 w')) (by kernel_rfl) (Below.drew (Below.refl _ _)) (fun hHeld => ?_)
  generalize hwd : v8.drew = wd at  hHeld ⊢
  clear hwd
  refine held_take (i := 0) (v := (.pointer (some ⟨b, 0, none⟩))) rfl (by kernel_rfl) (by kernel_rfl) (by kernel_rfl) (fun _ _ _ h => h) (Or.inl ⟨by rfl, fun w' _ => by kernel_rfl⟩) hHeld ?_
  go_frame
  refine held_take (i := 1) (v := (.pointer (some ⟨b, 0, none⟩))) rfl (by kernel_rfl) (by kernel_rfl) (by kernel_rfl) (fun _ _ _ h => h) (Or.inl ⟨by rfl, fun w' _ => by kernel_rfl⟩) hHeld ?_
  go_frame
  refine held_take (i := 2) (v := (.pointer (some ⟨b, 32, none⟩))) rfl (by kernel_rfl) (by kernel_rfl) (by kernel_rfl) (fun _ _ _ h => h) (Or.inl ⟨by rfl, fun w' _ => by kernel_rfl⟩) hHeld ?_
  go_frame
  refine held_take (i := 3) (v := (.map (some mb))) rfl (by kernel_rfl) (by kernel_rfl) (by kernel_rfl) (fun _ _ _ h => h) (yieldsIf_load_one (by rfl) 74 (.tmp 25) rfl b (32) rfl _ _ (fun w' hw' => (HT.out.below (B2.out.trans (hw'.mono B2.out.size))).mcell LS.out) Tryz.underlying74 rfl) hHeld ?_
  go_frame
  refine held_take (i := 4) (v := (.agg cb.toArray)) rfl (by kernel_rfl) (by kernel_rfl) (by kernel_rfl) (fun _ _ _ h => h) (yieldsIf_load_row (by rfl) 25 (.tmp 5) rfl g5 rfl 25 cb.toArray (0, 0) _ (fun w' hw' => row_below F5.out hw') Tryz.underlying25 rfl (by show _ = some cb.length; rw [SB.out]; kernel_rfl)) hHeld ?_
  go_frame
  refine held_take (i := 5) (v := (.tuple #[ob, .bool qb])) rfl (by kernel_rfl) (by kernel_rfl) (by kernel_rfl) (fun _ _ _ h => h) (yieldsIf_lookup (by rfl) 74 (.tmp 26) (.tmp 27) true rfl _ _ _ rfl rfl (fun w' hw' => LKB.out w' (B2.out.trans (hw'.mono B2.out.size)))) hHeld ?_
  go_frame
  refine held_take (i := 6) (v := (.tuple #[ob, .bool qb])) rfl (by kernel_rfl) (by kernel_rfl) (by kernel_rfl) (fun _ _ _ h => h) (Or.inl ⟨by rfl, fun w' _ => by kernel_rfl⟩) hHeld ?_
  go_frame
  refine held_take (i := 7) (v := ob) rfl (by kernel_rfl) (by kernel_rfl) (by kernel_rfl) (fun _ _ _ h => h) (Or.inl ⟨by rfl, fun w' _ => by kernel_rfl⟩) hHeld ?_
  go_frame
  refine held_take (i := 8) (v := (.bool qb)) rfl (by kernel_rfl) (by kernel_rfl) (by kernel_rfl) (fun _ _ _ h => h) (Or.inl ⟨by rfl, fun w' _ => by kernel_rfl⟩) hHeld ?_
  go_frame
  refine held_take (i := 9) (v := ob) rfl (by kernel_rfl) (by kernel_rfl) (by kernel_rfl) (fun _ _ _ h => h) (Or.inl ⟨by rfl, fun w' _ => by kernel_rfl⟩) hHeld ?_
  go_frame
  refine held_take (i := 10) (v := (.bool qb)) rfl (by kernel_rfl) (by kernel_rfl) (by kernel_rfl) (fun _ _ _ h => h) (Or.inl ⟨by rfl, fun w' _ => by kernel_rfl⟩) hHeld ?_
  go_frame
  refine wpAnyH_done (by kernel_rfl) ?_ _
  obtain ⟨v9, hv9⟩ : ∃ v9, v9 = wd := ⟨_, rfl⟩
  rw [← hv9] at  hHeld ⊢
  clear hv9
  have B3 := Lib.hid (B2.out.trans (hHeld.mono B2.out.size))
  clear hHeld LKB F5 B2
  rcases CAA.out with ⟨h1, rfl, rfl⟩ | ⟨k, c, h1, h2, h3, rfl, rfl⟩
  · rcases CAB.out with ⟨h4, rfl, rfl⟩ | ⟨k2, c2, h4, h5, h6, rfl, rfl⟩
    · have N : Hid (findT (ndM M) ia < 0 ∨ findT (ndM M) ib < 0) := .inl (by omega)
      clear h1 h4
      go_wp2_with fail
      go_ret3
      exact ⟨⟨_, _, _, rfl, .inl ⟨rfl, N.out⟩⟩, B3.out⟩
    · have N : Hid (findT (ndM M) ia < 0 ∨ findT (ndM M) ib < 0) := .inl (by omega)
      clear h5 h6
      clear h1 h4
      go_wp2_with fail
      go_ret3
      exact ⟨⟨_, _, _, rfl, .inl ⟨rfl, N.out⟩⟩, B3.out⟩
  · rcases CAB.out with ⟨h4, rfl, rfl⟩ | ⟨k2, c2, h4, h5, h6, rfl, rfl⟩
    · have N : Hid (findT (ndM M) ia < 0 ∨ findT (ndM M) ib < 0) := .inr (by omega)
      clear h2 h3
      clear h1 h4
      go_wp2_with fail
      go_ret3
      exact ⟨⟨_, _, _, rfl, .inl ⟨rfl, N.out⟩⟩, B3.out⟩
    · have N1 := Lib.hid h1
      have N2 := Lib.hid h2
      have N4 := Lib.hid h4
      have N5 := Lib.hid h5
      clear h1 h2 h3 h4 h5 h6
      go_wp2_with fail
      go_ret3
      exact ⟨⟨_, _, _, rfl, .inr ⟨rfl, k, c, k2, c2, N1.out, N2.out, N4.out, N5.out, rfl, rfl⟩⟩, B3.out⟩
theorem com_meet {L : List TNd} {x y j t : Nat} (h1 : (chainT L (x : Int))[t]? = some (j : Int)) (hc : comT L (x : Int) (y : Int) = t + 1) : meetT L (x : Int) (y : Int) = (L.getD j ndZ).id := by
  have hl := (List.getElem?_eq_some_iff.1 h1).1
  have hu : (upL L (x : Int)).length = (chainT L (x : Int)).length := by unfold chainT; rw [List.length_reverse]
  have e := up_chain (L := L) (k := (x : Int)) (p := (upL L (x : Int)).length - (t + 1)) (by omega)
  rw [show (chainT L (x : Int)).length - 1 - ((upL L (x : Int)).length - (t + 1)) = t by omega, h1] at e
  have e2 : (upL L (x : Int)).getD ((upL L (x : Int)).length - (t + 1)) 0 = (j : Int) := by rw [List.getD_eq_getElem?_getD, e]; rfl
  unfold meetT
  rw [hc, e2]
  rfl
theorem com_back {L : List TNd} {x y t : Nat} (hc : comT L (x : Int) (y : Int) = t + 1) : backT L (x : Int) (y : Int) = idsT L ((upL L (x : Int)).take ((chainT L (x : Int)).length - 1 - t)) := by
  have hu : (upL L (x : Int)).length = (chainT L (x : Int)).length := by unfold chainT; rw [List.length_reverse]
  unfold backT
  rw [hc, hu, show (chainT L (x : Int)).length - (t + 1) = (chainT L (x : Int)).length - 1 - t by omega]
theorem com_on {L : List TNd} {x y t : Nat} (hc : comT L (x : Int) (y : Int) = t + 1) : onT L (x : Int) (y : Int) = (idsT L ((upL L (y : Int)).take ((chainT L (y : Int)).length - 1 - t))).reverse := by
  have hu : (upL L (y : Int)).length = (chainT L (y : Int)).length := by unfold chainT; rw [List.length_reverse]
  unfold onT idsT
  rw [hc, hu, show (chainT L (y : Int)).length - (t + 1) = (chainT L (y : Int)).length - 1 - t by omega, List.map_reverse]
theorem chain_len {L : List TNd} (h : TrL L) {k : Nat} {x : TNd} (hx : L[k]? = some x) : (chainT L (k : Int)).length ≤ 4097 := by
  have h1 := chain_length h hx
  have h2 := h.ok _ (List.mem_of_getElem? hx)
  have := h2.2.2.2.2.2.1
  omega
/-- What Common leaves. -/
def CoPost (L : List TNd) (x y : Int) (e : Ending) : Prop :=
  ((x < 0 ∨ y < 0) ∧ e = .returned (.tuple #[.agg (List.replicate 32 (bV 0)).toArray, .bool false])) ∨ (0 ≤ x ∧ 0 ≤ y ∧ e = .returned (.tuple #[.agg ((meetT L x y).map bV).toArray, .bool true]))
set_option maxHeartbeats 2000000 in
set_option maxRecDepth 100000 in
theorem ctcommon_any (w : World) (base b mb : Nat) (M : List CNd) (ia ib : List UInt8) (h : CtAt w base b mb M) (ht : TrL (ndM M)) (hia : ia.length = 32) (hib : ib.length = 32) :
    Calls Tryz.prog 26 #[(.pointer (some ⟨b, 0, none⟩)), .agg (ia.map bV).toArray, .agg (ib.map bV).toArray] w fun e w' => CoPost (ndM M) (findT (ndM M) ia) (findT (ndM M) ib) e ∧ Below w.heap.size w w' := by
  have HT := Lib.hid h
  have TR := Lib.hid ht
  have BO : Hid (∀ W, Below w.heap.size w W → Calls Tryz.prog 44 #[(.pointer (some ⟨b, 0, none⟩)), .agg (ia.map bV).toArray, .agg (ib.map bV).toArray] W fun e w' => BoPost M (findT (ndM M) ia) (findT (ndM M) ib) e ∧ Below W.heap.size W w') := fun W hW => ctboth_any W base b mb M ia ib (h.below hW) ht hia hib
  have SA : Hid ((ia.map bV).toArray.size = 32) := by show _ = _; rw [List.size_toArray, List.length_map]; exact hia
  have SB : Hid ((ib.map bV).toArray.size = 32) := by show _ = _; rw [List.size_toArray, List.length_map]; exact hib
  obtain ⟨x, hx⟩ : ∃ x, x = findT (ndM M) ia := ⟨_, rfl⟩
  obtain ⟨y, hy⟩ : ∃ y, y = findT (ndM M) ib := ⟨_, rfl⟩
  rw [← hx, ← hy] at BO ⊢
  obtain ⟨ca, hca⟩ : ∃ ca, ca = ia.map bV := ⟨_, rfl⟩
  obtain ⟨cb, hcb⟩ : ∃ cb, cb = ib.map bV := ⟨_, rfl⟩
  rw [← hca] at BO SA ⊢
  rw [← hcb] at BO SB ⊢
  clear h ht hia hib hca hcb hx hy
  go_enter Tryz.func26, Tryz.ntmps26
  go_upto_region 1 with fail
  have f0 := row_below (row_below (heap_alloc_new w (.cells ca.toArray 25 (0, 0))) ((Below.refl _ _).alloc (Nat.le_refl _) (.cells cb.toArray 25 (0, 0)))) ((Below.refl _ _).alloc (Nat.le_refl _) (.cells (List.replicate 32 (bV 0)).toArray 25 (0, 0)))
  have f1 := row_below (heap_alloc_new (w.alloc (.cells ca.toArray 25 (0, 0))) (.cells cb.toArray 25 (0, 0))) ((Below.refl _ _).alloc (Nat.le_refl _) (.cells (List.replicate 32 (bV 0)).toArray 25 (0, 0)))
  have f2 := heap_alloc_new ((w.alloc (.cells ca.toArray 25 (0, 0))).alloc (.cells cb.toArray 25 (0, 0))) (.cells (List.replicate 32 (bV 0)).toArray 25 (0, 0))
  have bb : Below w.heap.size w (((w.alloc (.cells ca.toArray 25 (0, 0))).alloc (.cells cb.toArray 25 (0, 0))).alloc (.cells (List.replicate 32 (bV 0)).toArray 25 (0, 0))) := ((((Below.refl w.heap.size w).alloc (by first | exact Nat.le_refl _ | (simp only [World.size_alloc]; omega)) (.cells ca.toArray 25 (0, 0))).alloc (by first | exact Nat.le_refl _ | (simp only [World.size_alloc]; omega)) (.cells cb.toArray 25 (0, 0))).alloc (by first | exact Nat.le_refl _ | (simp only [World.size_alloc]; omega)) (.cells (List.replicate 32 (bV 0)).toArray 25 (0, 0)))
  simp only [World.size_alloc] at f1
  simp only [World.size_alloc] at f2
  generalize hq : World.alloc _ _ = w1
  have eq : ((w.alloc (.cells ca.toArray 25 (0, 0))).alloc (.cells cb.toArray 25 (0, 0))).alloc (.cells (List.replicate 32 (bV 0)).toArray 25 (0, 0)) = w1 := hq
  rw [eq] at f0 f1 f2 bb
  obtain ⟨g6, hg6⟩ : ∃ g6, g6 = w.heap.size + 1 + 1 := ⟨_, rfl⟩
  have Gg6 : Hid (w.heap.size ≤ g6) := by show _ ≤ _; omega
  rw [← hg6] at f2 ⊢
  obtain ⟨g5, hg5⟩ : ∃ g5, g5 = w.heap.size + 1 := ⟨_, rfl⟩
  have Gg5 : Hid (w.heap.size ≤ g5) := by show _ ≤ _; omega
  rw [← hg5] at f1 ⊢
  obtain ⟨g4, hg4⟩ : ∃ g4, g4 = w.heap.size := ⟨_, rfl⟩
  have Gg4 : Hid (w.heap.size ≤ g4) := by show _ ≤ _; omega
  rw [← hg4] at f0 ⊢
  have F4 := Lib.hid f0
  have F5 := Lib.hid f1
  have F6 := Lib.hid f2
  have B1 := Lib.hid bb
  clear f0 f1 f2 bb hq eq hg4 hg5 hg6
  go_wp2_with ((with_reducible show wpList _ _ _ _ _ _); first | (refine wpList_load_row rfl 25 (.tmp 4) rfl g4 rfl 25 ca.toArray (0, 0) _ F4.out Tryz.underlying25 rfl (by rw [SA.out]; kernel_rfl) ?_; go_frame) | (refine wpList_load_row rfl 25 (.tmp 5) rfl g5 rfl 25 cb.toArray (0, 0) _ F5.out Tryz.underlying25 rfl (by rw [SB.out]; kernel_rfl) ?_; go_frame))
  refine (BO.out w1 B1.out).mono ?_
  rintro e w2 ⟨⟨va, vb, bo, rfl, hbo⟩, bb⟩
  have F6 := Lib.hid (row_below F6.out bb)
  have B2 := Lib.hid (B1.out.trans (bb.mono B1.out.size))
  clear bb BO F4 F5 B1
  rcases hbo with ⟨rfl, hn⟩ | ⟨rfl, k, c, k2, c2, rfl, h2, rfl, h5, rfl, rfl⟩
  · have N := Lib.hid hn
    clear hn
    go_wp2_with ((with_reducible show wpList _ _ _ _ _ _); first | (refine wpList_buildTo rfl 25 _ rfl _ rfl (List.replicate 32 (bV 0)).toArray (by kernel_rfl) ?_; go_frame) | (refine wpList_store_row rfl 25 (.tmp 6) (.tmp 21) rfl g6 (List.replicate 32 (bV 0)).toArray rfl rfl 25 _ F6.out (by kernel_rfl) rfl (by kernel_rfl) ?_; go_frame))
    refine bodyPost_ret (results_row_tmp rfl _ _ g6 25 (List.replicate 32 (bV 0)).toArray (0, 0) _ rfl (setRow_heap _ _ _ _ _ _ F6.out) Tryz.underlying25 rfl (by kernel_rfl)) rfl ?_
    exact ⟨.inl ⟨N.out, rfl⟩, below_setRow B2.out (by have := Gg6.out; omega) _⟩
  · have MT := Lib.hid (ctmeet_any w base b mb M k k2 c c2 HT.out TR.out h2 h5 w2 B2.out)
    clear h2 h5
    go_wp2_with fail
    refine MT.out.mono ?_
    rintro e w3 ⟨⟨j, f, t, hf, rfl, h1, _, hc⟩, bb⟩
    have F6 := Lib.hid (row_below F6.out bb)
    have B3 := Lib.hid (B2.out.trans (bb.mono B2.out.size))
    have ME : Hid (meetT (ndM M) (k : Int) (k2 : Int) = f.nd.id) := by show _ = _; rw [com_meet h1 hc, getD_at (ndM_at hf)]
    have ok := TR.out.ok _ (List.mem_of_getElem? (ndM_at hf))
    have RI := Lib.hid (HT.out.idr hf B3.out)
    have LI : Hid ((f.nd.id.map bV).length = 32) := by show _ = _; rw [List.length_map]; exact ok.1
    have LI' : Hid ((f.nd.id.map bV).toArray.size = 32) := by show _ = _; rw [List.size_toArray]; exact LI.out
    have OI : Hid ((f.nd.id.map bV).toArray.all (·.oneCell') = true) := bV_one _
    obtain ⟨cd, hcd⟩ : ∃ cd, cd = f.nd.id.map bV := ⟨_, rfl⟩
    have CDE := Lib.hid hcd
    rw [← hcd] at RI LI LI' OI
    clear bb hf h1 hc ok hcd MT B2
    go_wp2_with ((with_reducible show wpList _ _ _ _ _ _); first | (refine wpList_load_mid rfl 25 (.tmp 26) rfl f.ad 0 rfl cd _ RI.out Tryz.underlying25 rfl (by rw [LI.out]; kernel_rfl) ?_; go_frame) | (refine wpList_store_row rfl 25 (.tmp 6) (.tmp 27) rfl g6 cd.toArray rfl rfl 25 _ F6.out (by rw [LI'.out]; kernel_rfl) (by rw [LI'.out]; rfl) OI.out ?_; go_frame))
    refine bodyPost_ret (results_row_tmp rfl _ _ g6 25 cd.toArray (0, 0) _ rfl (setRow_heap _ _ _ _ _ _ F6.out) Tryz.underlying25 rfl (by rw [LI'.out]; kernel_rfl)) rfl ?_
    exact ⟨.inr ⟨by omega, by omega, by rw [ME.out, CDE.out]; rfl⟩, below_setRow B3.out (by have := Gg6.out; omega) _⟩
/-- What Path leaves. -/
def CpPost (L : List TNd) (x y : Int) (w : World) (e : Ending) (w' : World) : Prop :=
  Below w.heap.size w w' ∧ (((x < 0 ∨ y < 0) ∧ e = .returned (.tuple #[.slice none 0 0, .slice none 0 0, .bool false])) ∨
    0 ≤ x ∧ 0 ≤ y ∧ ∃ v1 v2, e = .returned (.tuple #[v1, v2, .bool true]) ∧ HsAt w' v1 (backT L x y) ∧ HsAt w' v2 (onT L x y))
set_option maxHeartbeats 2000000 in
set_option maxRecDepth 100000 in
theorem ctpath_any (w : World) (base b mb : Nat) (M : List CNd) (ia ib : List UInt8) (h : CtAt w base b mb M) (ht : TrL (ndM M)) (hia : ia.length = 32) (hib : ib.length = 32) :
    Calls Tryz.prog 24 #[(.pointer (some ⟨b, 0, none⟩)), .agg (ia.map bV).toArray, .agg (ib.map bV).toArray] w (CpPost (ndM M) (findT (ndM M) ia) (findT (ndM M) ib) w) := by
  have HT := Lib.hid h
  have TR := Lib.hid ht
  have BO : Hid (∀ W, Below w.heap.size w W → Calls Tryz.prog 44 #[(.pointer (some ⟨b, 0, none⟩)), .agg (ia.map bV).toArray, .agg (ib.map bV).toArray] W fun e w' => BoPost M (findT (ndM M) ia) (findT (ndM M) ib) e ∧ Below W.heap.size W w') := fun W hW => ctboth_any W base b mb M ia ib (h.below hW) ht hia hib
  have SA : Hid ((ia.map bV).toArray.size = 32) := by show _ = _; rw [List.size_toArray, List.length_map]; exact hia
  have SB : Hid ((ib.map bV).toArray.size = 32) := by show _ = _; rw [List.size_toArray, List.length_map]; exact hib
  obtain ⟨x, hx⟩ : ∃ x, x = findT (ndM M) ia := ⟨_, rfl⟩
  obtain ⟨y, hy⟩ : ∃ y, y = findT (ndM M) ib := ⟨_, rfl⟩
  rw [← hx, ← hy] at BO ⊢
  obtain ⟨ca, hca⟩ : ∃ ca, ca = ia.map bV := ⟨_, rfl⟩
  obtain ⟨cb, hcb⟩ : ∃ cb, cb = ib.map bV := ⟨_, rfl⟩
  rw [← hca] at BO SA ⊢
  rw [← hcb] at BO SB ⊢
  clear h ht hia hib hca hcb hx hy
  go_enter Tryz.func24, Tryz.ntmps24
  go_upto_region 1 with fail
  have f0 := row_below (heap_alloc_new w (.cells ca.toArray 25 (0, 0))) ((Below.refl _ _).alloc (Nat.le_refl _) (.cells cb.toArray 25 (0, 0)))
  have f1 := heap_alloc_new (w.alloc (.cells ca.toArray 25 (0, 0))) (.cells cb.toArray 25 (0, 0))
  have bb : Below w.heap.size w ((w.alloc (.cells ca.toArray 25 (0, 0))).alloc (.cells cb.toArray 25 (0, 0))) := (((Below.refl w.heap.size w).alloc (by first | exact Nat.le_refl _ | (simp only [World.size_alloc]; omega)) (.cells ca.toArray 25 (0, 0))).alloc (by first | exact Nat.le_refl _ | (simp only [World.size_alloc]; omega)) (.cells cb.toArray 25 (0, 0)))
  simp only [World.size_alloc] at f1
  generalize hq : World.alloc _ _ = w1
  have eq : (w.alloc (.cells ca.toArray 25 (0, 0))).alloc (.cells cb.toArray 25 (0, 0)) = w1 := hq
  rw [eq] at f0 f1 bb
  obtain ⟨g5, hg5⟩ : ∃ g5, g5 = w.heap.size + 1 := ⟨_, rfl⟩
  have Gg5 : Hid (w.heap.size ≤ g5) := by show _ ≤ _; omega
  rw [← hg5] at f1 ⊢
  obtain ⟨g4, hg4⟩ : ∃ g4, g4 = w.heap.size := ⟨_, rfl⟩
  have Gg4 : Hid (w.heap.size ≤ g4) := by show _ ≤ _; omega
  rw [← hg4] at f0 ⊢
  have F4 := Lib.hid f0
  have F5 := Lib.hid f1
  have B1 := Lib.hid bb
  clear f0 f1 bb hq eq hg4 hg5
  go_wp2_with ((with_reducible show wpList _ _ _ _ _ _); first | (refine wpList_load_row rfl 25 (.tmp 4) rfl g4 rfl 25 ca.toArray (0, 0) _ F4.out Tryz.underlying25 rfl (by rw [SA.out]; kernel_rfl) ?_; go_frame) | (refine wpList_load_row rfl 25 (.tmp 5) rfl g5 rfl 25 cb.toArray (0, 0) _ F5.out Tryz.underlying25 rfl (by rw [SB.out]; kernel_rfl) ?_; go_frame))
  refine (BO.out w1 B1.out).mono ?_
  rintro e w2 ⟨⟨va, vb, bo, rfl, hbo⟩, bb⟩
  have B2 := Lib.hid (B1.out.trans (bb.mono B1.out.size))
  clear bb BO F4 F5 B1
  rcases hbo with ⟨rfl, hn⟩ | ⟨rfl, k, c, k2, c2, rfl, h2, rfl, h5, rfl, rfl⟩
  · have N := Lib.hid hn
    clear hn
    go_wp2_with fail
    go_ret3
    exact ⟨B2.out, .inl ⟨N.out, rfl⟩⟩
  · have MT := Lib.hid (ctmeet_any w base b mb M k k2 c c2 HT.out TR.out h2 h5 w2 B2.out)
    have KC := Lib.hid h2
    have KD := Lib.hid h5
    clear h2 h5
    go_wp2_with fail
    refine MT.out.mono ?_
    rintro e w3 ⟨⟨j, f, t, hf, rfl, h1, h2, hc⟩, bb⟩
    have B3 := Lib.hid (B2.out.trans (bb.mono B2.out.size))
    have BK : Hid (backT (ndM M) (k : Int) (k2 : Int) = idsT (ndM M) ((upL (ndM M) (k : Int)).take ((chainT (ndM M) (k : Int)).length - 1 - t))) := com_back hc
    have ON : Hid (onT (ndM M) (k : Int) (k2 : Int) = (idsT (ndM M) ((upL (ndM M) (k2 : Int)).take ((chainT (ndM M) (k2 : Int)).length - 1 - t))).reverse) := com_on hc
    have A1 := Lib.hid (ctabove_any w base b mb M k2 j t c2 f HT.out TR.out KD.out hf h2 w3 B3.out)
    have A2 : Hid (∀ W, Below w.heap.size w W → Calls Tryz.prog 46 #[.pointer (some ⟨c.ad, 0, none⟩), .pointer (some ⟨f.ad, 0, none⟩)] W fun e w' => ∃ v, e = .returned v ∧ HsOwn W.heap.size w' v (idsT (ndM M) ((upL (ndM M) (k : Int)).take ((chainT (ndM M) (k : Int)).length - 1 - t))) ∧ Below W.heap.size W w') := fun W hW => ctabove_any w base b mb M k j t c f HT.out TR.out KC.out hf h1 W hW
    have LN : Hid ((idsT (ndM M) ((upL (ndM M) (k2 : Int)).take ((chainT (ndM M) (k2 : Int)).length - 1 - t))).length ≤ 1048576) := by
      have := chain_len TR.out (ndM_at KD.out)
      show _ ≤ _
      unfold idsT
      rw [List.length_map, List.length_take]
      omega
    obtain ⟨l1, hl1⟩ : ∃ l1, l1 = idsT (ndM M) ((upL (ndM M) (k : Int)).take ((chainT (ndM M) (k : Int)).length - 1 - t)) := ⟨_, rfl⟩
    obtain ⟨l2, hl2⟩ : ∃ l2, l2 = idsT (ndM M) ((upL (ndM M) (k2 : Int)).take ((chainT (ndM M) (k2 : Int)).length - 1 - t)) := ⟨_, rfl⟩
    rw [← hl1] at BK A2
    rw [← hl2] at ON A1 LN
    clear bb hf h1 h2 hc MT B2 hl1 hl2
    go_wp2_with fail
    refine A1.out.mono ?_
    rintro e w4 ⟨ov, rfl, ho, bb⟩
    have HO := Lib.hid ho
    have B4 := Lib.hid (B3.out.trans (bb.mono B3.out.size))
    have OL := Lib.hid ho.1.lt
    have S3 := Lib.hid B3.out.size
    clear ho bb A1 B3
    go_wp2_with fail
    refine (hsrev_any _ ov l2 w4 HO.out LN.out).mono ?_
    rintro e w5 ⟨rfl, ha, hg⟩
    have HA := Lib.hid ha
    have B5 : Hid (Below w.heap.size w w5) := by
      rcases hg with rfl | ⟨g, hg1, hg2⟩
      · exact B4.out
      · exact B4.out.grown hg2 B4.out.size (fun q hq => by cases hq; exact Nat.le_trans S3.out (OL.out g hg1).1)
    clear ha hg HO B4 OL S3 LN
    go_wp2_with fail
    refine (A2.out w5 B5.out).mono ?_
    rintro e w6 ⟨bv, rfl, ho, bb⟩
    have HO := Lib.hid ho
    have HA := Lib.hid (HA.out.below bb)
    have B6 := Lib.hid (B5.out.trans (bb.mono B5.out.size))
    clear ho bb A2 B5
    go_wp2_with fail
    go_ret3
    exact ⟨B6.out, .inr ⟨by omega, by omega, _, _, rfl, by rw [BK.out]; exact HO.out.at, by rw [ON.out]; exact HA.out⟩⟩
end Go.Proofs.YtbgagaaoldjhnaaGreatDoor.Sha

/-
  Worlds that only grow: blocks are laid behind, orders drawn; digests and places held against each other do no more. Condition: digests of 32 bytes.
-/
namespace Go.Proofs.YtbgagaaoldjhnaaGreatDoor.Sha
open Go Go.RowKit
open Go.Sort (grow grow_empty grow_grow alloc_eq_grow heap_grow_old size_grow)
/-- w' is w with orders drawn and blocks laid behind. -/
def Lay (w w' : World) : Prop := ∃ q os, w' = grow (w.drewN q) os
theorem Lay.refl (w : World) : Lay w w := ⟨0, #[], by rw [grow_empty]; rfl⟩
theorem Lay.alloc {w w1 : World} (h : Lay w w1) (o : Obj) : Lay w (w1.alloc o) := by
  obtain ⟨q, os, rfl⟩ := h
  exact ⟨q, os ++ #[o], by rw [alloc_eq_grow, grow_grow]⟩
theorem Lay.drewN {w w1 : World} (h : Lay w w1) (n : Nat) : Lay w (w1.drewN n) := by
  obtain ⟨q, os, rfl⟩ := h
  exact ⟨q + n, os, by simp [World.drewN, grow, Nat.add_assoc]⟩
theorem Lay.below {w w' : World} (h : Lay w w') : Below w.heap.size w w' := by
  obtain ⟨q, os, rfl⟩ := h
  exact ⟨rfl, rfl, rfl, by simp [World.drewN], fun k hk => heap_grow_old (w.drewN q) os hk⟩
theorem Lay.trans {w w1 w2 : World} (h : Lay w w1) (k : Lay w1 w2) : Lay w w2 := by
  obtain ⟨q, os, rfl⟩ := h
  obtain ⟨q', os', rfl⟩ := k
  exact ⟨q + q', os ++ os', by simp [World.drewN, grow, Nat.add_assoc, Array.append_assoc]⟩
end Go.Proofs.YtbgagaaoldjhnaaGreatDoor.Sha

/-
  What a set becomes as it is told things: added one by one; a map's block above. No conditions.
-/
namespace Go.Proofs.YtbgagaaoldjhnaaGreatDoor.Sha
open Go Go.RowKit
/-- A map's block is above this one. -/
def HiM (base : Nat) (m : Option Nat) : Prop := ∀ q, m = some q → base ≤ q
theorem HiM.add {base s : Nat} {m m' : Option Nat} (h : HiM base m) (hs : base ≤ s) (hm : m' = m ∨ ∃ b, m' = some b ∧ s ≤ b) : HiM base m' := by
  rcases hm with rfl | ⟨b, rfl, hb⟩
  · exact h
  · intro q e
    cases e
    exact Nat.le_trans hs hb
theorem Below.set {base : Nat} {w0 w w' : World} {a : Nat} {m : Option Nat} (h : Below base w0 w) (hk : Kps (fun j => j ≠ a ∧ m ≠ some j) w w') (ha : base ≤ a) (hm : HiM base m) (hb : base ≤ w.heap.size) : Below base w0 w' :=
  h.trans ⟨hk.os, hk.tape, hk.output, hk.size, fun k hlt => hk.block k (by omega) ⟨by omega, fun e => by have := hm k e; omega⟩⟩
end Go.Proofs.YtbgagaaoldjhnaaGreatDoor.Sha

/-
  All coins of a set with their places, in the places' order: new memory; nothing that was there turns. Conditions: the set lies where the pointer says, at most 2^20 coins.
-/
namespace Go.Proofs.YtbgagaaoldjhnaaGreatDoor.Sha
open Go Go.RowKit
theorem IterAt.grown {w w' : World} {m : Option Nat} {r : Nat} {q : Option Nat} {rest : List TSp} (h : IterAt w m r rest) (hg : w.grownBy w' q) (h1 : q ≠ some r) (h2 : ∀ b, m = some b → q ≠ some b) : IterAt w' m r rest :=
  h.kps (F := fun k => q ≠ some k) (Kps.grown hg fun k _ hk e => hk e.symm) (fun b hb => h2 b hb) h1
end Go.Proofs.YtbgagaaoldjhnaaGreatDoor.Sha

/-
  A coin's bytes, as a set's digest reads them: package coins writes them into new memory; nothing that was there turns. Conditions: a coin as the model has it.
-/
namespace Go.Proofs.YtbgagaaoldjhnaaGreatDoor.Sha
open Go Go.RowKit
/-- A height's 64 bits. -/
def hN (h : Int) : Nat := (h % 18446744073709551616).toNat
end Go.Proofs.YtbgagaaoldjhnaaGreatDoor.Sha

/-
  A set's digest: of all coins' bytes, in the order of their places; nothing that was there turns. Conditions: the set lies where the pointer says, at most 2^20 coins; the table of the rounds' words is there.
-/
namespace Go.Proofs.YtbgagaaoldjhnaaGreatDoor.Sha
open Go Go.RowKit
theorem RwAt.kps {F : Nat → Prop} {k : Nat} {w w' : World} {v : Value} {L : List (List Value)} (h : RwAt k w v L) (hk : Kps F w w') (h0 : 0 < k) (hf : ∀ sp n cap, v = .slice (some sp) n cap → F sp.block) : RwAt k w' v L := by
  obtain ⟨ho, sp, cap, hv, hc, hr⟩ := h
  refine ⟨ho, sp, cap, hv, hc, fun hl => ?_⟩
  obtain ⟨b, o, hs, hx⟩ := hr hl
  refine ⟨b, o, hs, fun i x hi j u hj => ?_⟩
  have h1 := hx i x hi j u hj
  rw [World.cell?_of_block (hk.block b (World.block_lt_of_cell? w _ h1) (hf ⟨b, o, none⟩ L.length cap (by rw [hv, hs])))]
  exact h1
end Go.Proofs.YtbgagaaoldjhnaaGreatDoor.Sha

/-
  The statements' own copy of a row of coins: new memory; a row put behind an own one, whatever stands in either. Nothing that was there turns. Conditions: the coins lie where the slice says, at most 2^20 of them.
-/
namespace Go.Proofs.YtbgagaaoldjhnaaGreatDoor.Sha
open Go Go.RowKit
theorem RwAt.one {k : Nat} {w : World} {g : Nat} {T : TypeId} {fr : Nat × Nat} {x : List Value} (h : w.heap[g]? = some (.cells x.toArray T fr)) (hx : x.length = k) : RwAt k w (.slice (some ⟨g, 0, none⟩) 1 1) [x] := by
  refine ⟨fun y hy => by rw [List.mem_singleton.1 hy]; exact hx, some ⟨g, 0, none⟩, 1, rfl, Nat.le_refl _, fun _ => ⟨g, 0, rfl, fun i y hy => ?_⟩⟩
  match i, hy with
  | 0, hy =>
    simp only [List.getElem?_cons_zero, Option.some.injEq] at hy
    subst hy
    rw [Nat.zero_mul, Nat.zero_add]
    exact range_of_box h
  | i + 1, hy => simp at hy
theorem RwOwn.lower {k : Nat} {T : TypeId} {base base' : Nat} {w : World} {v : Value} {L : List (List Value)} (h : RwOwn k T base w v L) (hb : base' ≤ base) : RwOwn k T base' w v L := ⟨own_base h.1 hb, h.2⟩
end Go.Proofs.YtbgagaaoldjhnaaGreatDoor.Sha

/-
  The statements' own tree: the past of each block of a branch. Nothing that was there turns. Conditions: the tree lies where the pointer says, parents stand ahead, at most 4096 blocks.
-/
namespace Go.Proofs.YtbgagaaoldjhnaaGreatDoor.Sha
open Go Go.RowKit
def intC (x : Int) : List Value := [.int .i64 x]
theorem ints_own {base : Nat} {w : World} {v : Value} {l : List Int} (h : IntsOwn base w v l) : RwOwn 1 3 base w v (l.map intC) := by
  have e : (l.map intC).flatten = l.map (Value.int .i64 ·) := by
    induction l with
    | nil => rfl
    | cons x l ih =>
      have hl : IntsOwn base w v l → True := fun _ => trivial
      clear hl
      rw [List.map_cons, List.flatten_cons, List.map_cons]
      show Value.int .i64 x :: _ = _
      congr 1
      have : ∀ l : List Int, (l.map intC).flatten = l.map (Value.int .i64 ·) := by
        intro l
        induction l with
        | nil => rfl
        | cons y l ih => rw [List.map_cons, List.flatten_cons, ih]; rfl
      exact this l
  refine ⟨?_, fun x hx => ?_⟩
  · rw [e, List.length_map]
    exact h
  · obtain ⟨y, _, rfl⟩ := List.mem_map.1 hx
    rfl
theorem int_cell {w : World} {b o i : Nat} {x : Int} (h : w.rangeAt b (o + i * 1) (intC x)) : w.cell? ⟨b, o + i, none⟩ = some (.int .i64 x) := by
  have := h 0 _ rfl
  simpa using this
theorem ne_new {a b b' : Option Nat} {g : Nat} (h : a = none ∨ a ≠ b) (hb : b' = b ∨ b' = some g) (ha : ∀ q, a = some q → q < g) : a = none ∨ a ≠ b' := by
  rcases hb with rfl | rfl
  · exact h
  · cases a with
    | none => exact .inl rfl
    | some q =>
      right
      intro e
      have := ha q rfl
      have := Option.some.inj e
      omega
end Go.Proofs.YtbgagaaoldjhnaaGreatDoor.Sha
