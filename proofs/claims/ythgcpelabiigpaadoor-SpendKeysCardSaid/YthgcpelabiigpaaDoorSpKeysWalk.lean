/-
  The statement on keys and their locks answers true. Conditions: the bytes lie where the slice says, the table is there.
-/
import Derived.Deep.RegionHeld3
import Derived.Deep.OwnRows
import Derived.Test.YthgcpelabiigpaaDoorSpFirst
import Derived.Test.YthgcpelabiigpaaDoorShaSame
import Derived.Test.YthgcpelabiigpaaDoorRefNumb
import Derived.Test.YthgcpelabiigpaaDoorShaCopy
namespace Go.Proofs.YthgcpelabiigpaaDoor.Sha
open Go Go.RowKit

theorem bv_xor (x y : UInt8) : bits .xor .u8 (bv x) (bv y) = bv (x ^^^ y) := by
  unfold bv
  rw [u8_xor_nat _ _ x.toNat_lt y.toNat_lt, UInt8.toNat_xor]
theorem bv_pow (t : Nat) : (2 : Int) ^ t % 256 = bv (UInt8.ofNat (2 ^ t)) := by
  unfold bv
  rw [UInt8.toNat_ofNat']
  simp

/-- A whole row that every world of S holds may be read first. -/
theorem yieldsIf_load_row {P : Program} {ops : Array Oper} {S : World → Prop} {op : Oper} {a : Act} (hw : Region.wanted op (yielded ops a.tmps) = true) (ty : TypeId) (x : Operand) (ho : op.op = .load ty x)
    (g : Nat) (hx : a.eval x = .pointer (some ⟨g, 0, none⟩)) (t : TypeId) (cs : Array Value) (fr : Nat × Nat) (d : TypeDesc) (hS : ∀ w, S w → w.heap[g]? = some (.cells cs t fr))
    (hu : P.underlying ty = some d) (hd : (match d with | .struct _ | .array _ _ => true | _ => false) = true) (hi : (P.info? ty).map (·.size) = some cs.size) : YieldsIf P ops S op (.agg cs) a :=
  .inl ⟨hw, fun w hw' => by
    unfold execOp
    simp only [ho, hx, Instr.loadAt, Instr.sureAddr, Sem.run_bind, Sem.run_pure, Result.andThen_ok, run_loadVar_row w g t ty cs fr d (hS w hw') hu hd hi]⟩

set_option maxHeartbeats 4000000 in
set_option maxRecDepth 100000 in
theorem spkeys_main (bs : List UInt8) (sp : Option Addr) (n cap : Nat) (bit : Int) (w : World) (hk : KTab w) (hs : SrcB w (.slice sp n cap) bs) (hn0 : 0 < n) (hn : n ≤ 80) (hbit : -9223372036854775808 ≤ bit ∧ bit ≤ 9223372036854775807) :
    Calls Tryd.prog 4 #[.slice sp n cap, .int .i64 bit] w fun e w' => e = .returned (.bool true) ∧ Below w.heap.size w w' := by
  have HNB := Lib.hid hs.le.1
  have HK := Lib.hid hk
  have HS := Lib.hid hs
  clear hk hs
  have hz : ((n : Int) == 0) = false := by rw [beq_eq_false_iff_ne]; omega
  have hz2 : ¬ (80 : Int) < n := by omega
  have hz3 : decide ((80 : Int) < n) = false := by simp; omega
  go_enter Tryd.func4, Tryd.ntmps4
  go_upto_region 7 with (first | (go_at_call 7; refine (sfirst_any _ HK.out).mono ?_; rintro e w1 ⟨rfl, hb1⟩; have HB1 := Lib.hid hb1; clear hb1) | (go_at_call 19; refine (bytes_copy bs sp n cap _ (HS.out.below HB1.out) hn0 (by omega)).mono ?_; rintro e w2 ⟨rfl, ho2, hb2⟩; have HO2 := Lib.hid ho2; have HB2 := Lib.hid (HB1.out.trans (hb2.mono HB1.out.size)); clear ho2 hb2))
  have hg6 := HB1.out.size
  obtain ⟨g, hg⟩ : ∃ g, g = w1.heap.size := ⟨_, rfl⟩
  rw [← hg] at HO2 hg6 ⊢
  clear hg HB1
  obtain ⟨r, hr, hrn⟩ := numb_nat bit (8 * n) (by omega)
  have hnum := numb_any bit (8 * (n : Int)) (by omega) (by omega) hbit w2
  rw [show (8 * (n : Int)) = ((8 * n : Nat) : Int) by omega, hr, show ((8 * n : Nat) : Int) = (8 * (n : Int)) by omega] at hnum
  have HNUM := Lib.hid hnum
  obtain ⟨q, hq⟩ : ∃ q, q = r / 8 := ⟨_, rfl⟩
  obtain ⟨t, ht⟩ : ∃ t, t = r % 8 := ⟨_, rfl⟩
  have hqn : q < n := by omega
  have ht8 : t < 8 := by omega
  have hq1 : (r : Int).tdiv 8 = (q : Int) := by rw [Int.tdiv_eq_ediv_of_nonneg (by omega)]; omega
  have ht1 : (r : Int).tmod 8 = (t : Int) := by rw [Int.tmod_eq_emod_of_nonneg (by omega)]; omega
  obtain ⟨x, hx⟩ : ∃ x, x = bs.getD q 0 := ⟨_, rfl⟩
  have cq : w2.cell? ⟨g, q, none⟩ = some (.int .u8 (bv x)) := by
    have hqx : q < bs.length := by have := HNB.out; omega
    rw [HO2.out.cellAt q (by omega), List.getElem?_map, List.getElem?_eq_getElem hqx, hx]
    simp [bV, List.getD, List.getElem?_eq_getElem hqx]
  have zq := HO2.out.frozenAt q
  obtain ⟨y, hy⟩ : ∃ y, y = x ^^^ UInt8.ofNat (2 ^ t) := ⟨_, rfl⟩
  have hx1 : bits .xor .u8 (bv x) ((2 : Int) ^ t % 256) = bv y := by rw [bv_pow, bv_xor, hy]
  have HSET : Hid (∀ l : List UInt8, (l.map bV).set q (.int .u8 (bv y)) = (l.set q y).map bV) := fun l => (List.map_set (f := bV) (l := l) (i := q) (a := y)).symm
  clear hr hrn hnum hbit hq ht hx hy
  go_upto_region 8 with (go_at_call 20; refine HNUM.out.mono ?_; rintro e w' ⟨rfl, rfl⟩)
  clear HNUM
  go_upto_region 9 with (fail)
  clear cq zq
  obtain ⟨ho3, hg3⟩ := HO2.out.stored q (.int .u8 (bv y))
  rw [HSET.out] at ho3
  have hb3 := grownBy_below hg3 HB2.out hg6 HB2.out.size
  generalize hw3 : World.setCell _ _ _ = w3
  rw [hw3] at ho3 hb3
  have HO3 := Lib.hid ho3
  have HB3 := Lib.hid hb3
  have hg3 : g < w3.heap.size := (ho3.lt g rfl).2
  clear hw3 ho3 hb3 hg3 HO2 HB2 HSET hx1 hq1 ht1
  obtain ⟨cs, hcs⟩ : ∃ cs, cs = bs.set q y := ⟨_, rfl⟩
  rw [← hcs] at HO3
  have hcl : cs.length = n := by rw [hcs, List.length_set]; exact HNB.out.symm
  have hlen : bs.length ≤ 576460752303423487 := by have := HNB.out; omega
  have hlen2 : cs.length ≤ 576460752303423487 := by omega
  have hl32 : ∀ l, ((sha l).map bV).toArray.size = 32 := fun l => by simp [sha_length]
  have HL := Lib.hid hl32
  have HS3 := Lib.hid (src_of_own hn0 (Nat.le_refl _) HO3.out)
  have HCL := Lib.hid hcl
  clear hl32 hcs hcl HO3
  go_upto_region 10 with (first | (go_at_call 10; refine (lock_any bs _ _ (HK.out.below HB3.out) (HS.out.below HB3.out) hlen).mono ?_; rintro e w4 ⟨rfl, hb4⟩; have HB4 := Lib.hid hb4; clear hb4) | ((with_reducible show wpList _ _ _ _ _ _); refine wpList_store_row rfl 24 (.tmp 8) (.tmp 44) rfl w4.heap.size ((sha bs).map bV).toArray rfl rfl 24 _ (heap_alloc_new _ _) (by rw [HL.out]; kernel_rfl) (by rw [HL.out]; rfl) (bV_one _) ?_; go_frame))
  obtain ⟨_, f2, f3, f4⟩ := fill_setup HB4.out (List.replicate 32 (bV 0)).toArray ((sha bs).map bV).toArray 24
  have f5 : Below w3.heap.size w3 (World.setRow (w4.alloc (.cells (List.replicate 32 (bV 0)).toArray 24)) w4.heap.size ((sha bs).map bV).toArray) := HB4.out.trans (f4.mono HB4.out.size)
  obtain ⟨gx, hgx⟩ : ∃ gx, gx = w4.heap.size := ⟨_, rfl⟩
  rw [← hgx] at f2 f5 ⊢
  generalize hw5 : World.setRow _ _ _ = w5
  have e5 : World.setRow (w4.alloc (.cells (List.replicate 32 (bV 0)).toArray 24)) gx ((sha bs).map bV).toArray = w5 := hw5
  rw [e5] at f2 f5
  have HX5 := Lib.hid f2
  have HB5 := Lib.hid (HB3.out.trans (f5.mono HB3.out.size))
  have HS5 := Lib.hid (HS3.out.below f5)
  clear hw5 e5 f2 f3 f4 f5 hgx HB4 HS3 HB3
  go_upto_region 11 with (first | (go_at_call 10; refine (lock_any cs _ _ (HK.out.below HB5.out) HS5.out hlen2).mono ?_; rintro e w6 ⟨rfl, hb6⟩; have HB6 := Lib.hid hb6; clear hb6) | ((with_reducible show wpList _ _ _ _ _ _); refine wpList_store_row rfl 24 (.tmp 9) (.tmp 46) rfl w6.heap.size ((sha cs).map bV).toArray rfl rfl 24 _ (heap_alloc_new _ _) (by rw [HL.out]; kernel_rfl) (by rw [HL.out]; rfl) (bV_one _) ?_; go_frame))
  obtain ⟨_, f2, f3, f4⟩ := fill_setup HB6.out (List.replicate 32 (bV 0)).toArray ((sha cs).map bV).toArray 24
  have f5 : Below w5.heap.size w5 (World.setRow (w6.alloc (.cells (List.replicate 32 (bV 0)).toArray 24)) w6.heap.size ((sha cs).map bV).toArray) := HB6.out.trans (f4.mono HB6.out.size)
  obtain ⟨gy, hgy⟩ : ∃ gy, gy = w6.heap.size := ⟨_, rfl⟩
  rw [← hgy] at f2 f5 ⊢
  generalize hw7 : World.setRow _ _ _ = w7
  have e7 : World.setRow (w6.alloc (.cells (List.replicate 32 (bV 0)).toArray 24)) gy ((sha cs).map bV).toArray = w7 := hw7
  rw [e7] at f2 f5
  have HY7 := Lib.hid f2
  have HX7 := Lib.hid (row_below HX5.out f5)
  have HB7 := Lib.hid (HB5.out.trans (f5.mono HB5.out.size))
  have HC7 := Lib.hid (HS5.out.below f5)
  have HS7 := Lib.hid (HS.out.below HB7.out)
  have HK7 := Lib.hid (HK.out.below HB7.out)
  clear hw7 e7 f2 f3 f4 f5 hgy HB6 HX5 HS5 HB5
  obtain ⟨b1, hb1⟩ : ∃ b1, b1 = decide (sha bs = sha cs) := ⟨_, rfl⟩
  have O1 : Hid (∀ w', Below w7.heap.size w7 w' → Calls Tryd.prog 11 #[.slice sp n cap, .agg ((sha bs).map bV).toArray] w' fun e w'' => e = .returned (.bool true) ∧ Below w7.heap.size w7 w'') := fun w' hw' => cls hw' (opens_any bs (sha bs) _ w' (HK7.out.below hw') (HS7.out.below hw') hlen (sha_length _) true (by rw [opensL, decide_eq_true (by have := HNB.out; omega)]; simp))
  have O2 : Hid (∀ w', Below w7.heap.size w7 w' → Calls Tryd.prog 11 #[.slice (some ⟨g, 0, none⟩) n n, .agg ((sha cs).map bV).toArray] w' fun e w'' => e = .returned (.bool true) ∧ Below w7.heap.size w7 w'') := fun w' hw' => cls hw' (opens_any cs (sha cs) _ w' (HK7.out.below hw') (HC7.out.below hw') hlen2 (sha_length _) true (by rw [opensL, decide_eq_true (by have := HCL.out; omega)]; simp))
  have O3 : Hid (∀ w', Below w7.heap.size w7 w' → Calls Tryd.prog 11 #[.slice sp n cap, .agg ((sha cs).map bV).toArray] w' fun e w'' => e = .returned (.bool b1) ∧ Below w7.heap.size w7 w'') := fun w' hw' => cls hw' (opens_any bs (sha cs) _ w' (HK7.out.below hw') (HS7.out.below hw') hlen (sha_length _) b1 (by rw [hb1, opensL, decide_eq_true (show bs.length ≤ 80 by have := HNB.out; omega), Bool.true_and]))
  have O4 : Hid (∀ w', Below w7.heap.size w7 w' → Calls Tryd.prog 9 #[.agg ((sha bs).map bV).toArray, .agg ((sha cs).map bV).toArray] w' fun e w'' => e = .returned (.bool b1) ∧ Below w7.heap.size w7 w'') := fun w' hw' => cls hw' (by rw [hb1]; exact same_any _ _ (sha_length _) (sha_length _) w')
  clear hb1 hz hz2 hz3 hlen hlen2 hqn ht8
  refine wp_region_held_drew (S := (fun w' => Below w7.heap.size w7 w')) (by kernel_rfl) (Below.drew (Below.refl _ _)) (fun hHeld => ?_)
  refine wpAnyH_take (i := 0) (oi := _) (v := (.bool true)) rfl (by kernel_rfl) (by kernel_rfl) (by kernel_rfl) (fun _ _ _ h => h) (Or.inl ⟨by rfl, fun w' _ => by kernel_rfl⟩) hHeld ?_
  go_frame
  refine wpAnyH_take (i := 1) (oi := _) (v := (.bool true)) rfl (by kernel_rfl) (by kernel_rfl) (by kernel_rfl) (fun _ _ _ h => h) (Or.inl ⟨by rfl, fun w' _ => by kernel_rfl⟩) hHeld ?_
  go_frame
  refine wpAnyH_take (i := 2) (oi := _) (v := (.slice sp n cap)) rfl (by kernel_rfl) (by kernel_rfl) (by kernel_rfl) (fun _ _ _ h => h) (Or.inl ⟨by rfl, fun w' _ => by kernel_rfl⟩) hHeld ?_
  go_frame
  refine wpAnyH_take (i := 3) (oi := _) (v := (.agg ((sha bs).map bV).toArray)) rfl (by kernel_rfl) (by kernel_rfl) (by kernel_rfl) (fun _ _ _ h => h) (yieldsIf_load_row (by rfl) 24 _ rfl gx rfl 24 _ (0, 0) _ (fun w' hw' => row_below HX7.out hw') Tryd.underlying24 rfl (by rw [HL.out]; kernel_rfl)) hHeld ?_
  go_frame
  refine wpAnyH_ready (rs := [4]) (by kernel_rfl) (by simp) (AllReadyH.cons (o := _) rfl (fun K hK => ?_) AllReadyH.nil)
  go_simp
  refine (O1.out _ hHeld).mono ?_
  rintro e w8 ⟨rfl, hb8⟩
  clear hHeld
  go_wp2_with fail
  refine hK.out _ _ hb8 (fun hHeld => ?_)
  clear hK K hb8
  refine wpAnyH_take (i := 5) (oi := _) (v := (.bool true)) rfl (by kernel_rfl) (by kernel_rfl) (by kernel_rfl) (fun _ _ _ h => h) (Or.inl ⟨by rfl, fun w' _ => by kernel_rfl⟩) hHeld ?_
  go_frame
  refine wpAnyH_take (i := 6) (oi := _) (v := (.bool true)) rfl (by kernel_rfl) (by kernel_rfl) (by kernel_rfl) (fun _ _ _ h => h) (Or.inl ⟨by rfl, fun w' _ => by kernel_rfl⟩) hHeld ?_
  go_frame
  refine wpAnyH_take (i := 7) (oi := _) (v := (.slice (some ⟨g, 0, none⟩) n n)) rfl (by kernel_rfl) (by kernel_rfl) (by kernel_rfl) (fun _ _ _ h => h) (Or.inl ⟨by rfl, fun w' _ => by kernel_rfl⟩) hHeld ?_
  go_frame
  refine wpAnyH_take (i := 8) (oi := _) (v := (.agg ((sha cs).map bV).toArray)) rfl (by kernel_rfl) (by kernel_rfl) (by kernel_rfl) (fun _ _ _ h => h) (yieldsIf_load_row (by rfl) 24 _ rfl gy rfl 24 _ (0, 0) _ (fun w' hw' => row_below HY7.out hw') Tryd.underlying24 rfl (by rw [HL.out]; kernel_rfl)) hHeld ?_
  go_frame
  refine wpAnyH_ready (rs := [9]) (by kernel_rfl) (by simp) (AllReadyH.cons (o := _) rfl (fun K hK => ?_) AllReadyH.nil)
  go_simp
  refine (O2.out _ hHeld).mono ?_
  rintro e w8 ⟨rfl, hb8⟩
  clear hHeld
  go_wp2_with fail
  refine hK.out _ _ hb8 (fun hHeld => ?_)
  clear hK K hb8
  refine wpAnyH_take (i := 10) (oi := _) (v := (.bool true)) rfl (by kernel_rfl) (by kernel_rfl) (by kernel_rfl) (fun _ _ _ h => h) (Or.inl ⟨by rfl, fun w' _ => by kernel_rfl⟩) hHeld ?_
  go_frame
  refine wpAnyH_take (i := 11) (oi := _) (v := (.bool true)) rfl (by kernel_rfl) (by kernel_rfl) (by kernel_rfl) (fun _ _ _ h => h) (Or.inl ⟨by rfl, fun w' _ => by kernel_rfl⟩) hHeld ?_
  go_frame
  refine wpAnyH_take (i := 12) (oi := _) (v := (.slice sp n cap)) rfl (by kernel_rfl) (by kernel_rfl) (by kernel_rfl) (fun _ _ _ h => h) (Or.inl ⟨by rfl, fun w' _ => by kernel_rfl⟩) hHeld ?_
  go_frame
  refine wpAnyH_take (i := 13) (oi := _) (v := (.agg ((sha cs).map bV).toArray)) rfl (by kernel_rfl) (by kernel_rfl) (by kernel_rfl) (fun _ _ _ h => h) (yieldsIf_load_row (by rfl) 24 _ rfl gy rfl 24 _ (0, 0) _ (fun w' hw' => row_below HY7.out hw') Tryd.underlying24 rfl (by rw [HL.out]; kernel_rfl)) hHeld ?_
  go_frame
  refine wpAnyH_take (i := 15) (oi := _) (v := (.agg ((sha bs).map bV).toArray)) rfl (by kernel_rfl) (by kernel_rfl) (by kernel_rfl) (fun _ _ _ h => h) (yieldsIf_load_row (by rfl) 24 _ rfl gx rfl 24 _ (0, 0) _ (fun w' hw' => row_below HX7.out hw') Tryd.underlying24 rfl (by rw [HL.out]; kernel_rfl)) hHeld ?_
  go_frame
  refine wpAnyH_take (i := 16) (oi := _) (v := (.agg ((sha cs).map bV).toArray)) rfl (by kernel_rfl) (by kernel_rfl) (by kernel_rfl) (fun _ _ _ h => h) (yieldsIf_load_row (by rfl) 24 _ rfl gy rfl 24 _ (0, 0) _ (fun w' hw' => row_below HY7.out hw') Tryd.underlying24 rfl (by rw [HL.out]; kernel_rfl)) hHeld ?_
  go_frame
  refine wpAnyH_ready (rs := [14]) (by kernel_rfl) (by simp) (AllReadyH.cons (o := _) rfl (fun K hK => ?_) AllReadyH.nil)
  go_simp
  refine (O3.out _ hHeld).mono ?_
  rintro e w8 ⟨rfl, hb8⟩
  clear hHeld
  go_wp2_with fail
  refine hK.out _ _ hb8 (fun hHeld => ?_)
  clear hK K hb8
  refine wpAnyH_ready (rs := [17]) (by kernel_rfl) (by simp) (AllReadyH.cons (o := _) rfl (fun K hK => ?_) AllReadyH.nil)
  go_simp
  refine (O4.out _ hHeld).mono ?_
  rintro e w8 ⟨rfl, hb8⟩
  clear hHeld
  go_wp2_with fail
  refine hK.out _ _ hb8 (fun hHeld => ?_)
  clear hK K hb8
  refine wpAnyH_take (i := 18) (oi := _) (v := (.bool true)) rfl (by kernel_rfl) (by kernel_rfl) (by kernel_rfl) (fun _ _ _ h => h) (Or.inl ⟨by rfl, fun w' _ => by cases b1 <;> kernel_rfl⟩) hHeld ?_
  go_frame
  refine wpAnyH_take (i := 19) (oi := _) (v := (.bool true)) rfl (by kernel_rfl) (by kernel_rfl) (by kernel_rfl) (fun _ _ _ h => h) (Or.inl ⟨by rfl, fun w' _ => by kernel_rfl⟩) hHeld ?_
  go_frame
  refine wpAnyH_take (i := 20) (oi := _) (v := (.bool true)) rfl (by kernel_rfl) (by kernel_rfl) (by kernel_rfl) (fun _ _ _ h => h) (Or.inl ⟨by rfl, fun w' _ => by kernel_rfl⟩) hHeld ?_
  go_frame
  obtain ⟨Zl, hZ0⟩ : ∃ Zl : List UInt8, Zl = List.replicate 81 0 := ⟨_, rfl⟩
  have MK : ∀ w : World, (Instr.makeSlice 22 (.int .i64 81) (.int .i64 81)).run Tryd.prog w = .ok (.slice (some ⟨w.heap.size, 0, none⟩) 81 81) (w.alloc (.cells (Zl.map bV).toArray 5 (0, 0))) := fun w => by
    have h := run_make_row' 22 5 (.int .u8 0) 1 Tryd.underlying22 info_u8 rfl .i64 .i64 81 (by omega) (by omega) w
    have e : (madeCells #[.int .u8 0] 81) = (Zl.map bV).toArray := by rw [hZ0]; kernel_rfl
    rw [e] at h
    exact h
  have HZl : Hid (81 = Zl.length) := by rw [hZ0]; rfl
  clear hZ0
  refine wpAnyH_ready (rs := [21, 22]) (by kernel_rfl) (by simp) (AllReadyH.cons (o := _) rfl (fun K hK => ?_) (AllReadyH.cons (o := _) rfl (fun K hK => ?_) AllReadyH.nil))
  · go_simp
    obtain ⟨gA, hgA⟩ : ∃ gA, gA = w8.heap.size := ⟨_, rfl⟩
    have hr := heap_alloc_new w8 (.cells (Zl.map bV).toArray 5 (0, 0))
    have hb := hHeld.alloc hHeld.size (.cells (Zl.map bV).toArray 5 (0, 0))
    have hb' := (Below.refl w8.heap.size w8).alloc (Nat.le_refl _) (.cells (Zl.map bV).toArray 5 (0, 0))
    rw [← hgA] at hr ⊢
    generalize hwa : World.alloc _ _ = wa
    rw [hwa] at hr hb hb'
    have RA := Lib.hid hr
    clear hwa hr hb' hgA hHeld
    refine hK.out _ _ hb (fun hHeld => ?_)
    clear hK K hb
    refine wpAnyH_ready (rs := [22]) (by kernel_rfl) (by simp) (AllReadyH.cons (o := _) rfl (fun K hK => ?_) AllReadyH.nil)
    go_simp
    obtain ⟨gB, hgB⟩ : ∃ gB, gB = wa.heap.size := ⟨_, rfl⟩
    have hr := heap_alloc_new wa (.cells (Zl.map bV).toArray 5 (0, 0))
    have hb := hHeld.alloc hHeld.size (.cells (Zl.map bV).toArray 5 (0, 0))
    have hb' := (Below.refl wa.heap.size wa).alloc (Nat.le_refl _) (.cells (Zl.map bV).toArray 5 (0, 0))
    rw [← hgB] at hr ⊢
    generalize hwa : World.alloc _ _ = wb
    rw [hwa] at hr hb hb'
    have RB := Lib.hid hr
    have RA := Lib.hid (row_below RA.out hb')
    clear hwa hr hb' hgB hHeld
    refine hK.out _ _ hb (fun hHeld => ?_)
    clear hK K hb
    refine wpAnyH_ready (rs := [23]) (by kernel_rfl) (by simp) (AllReadyH.cons (o := _) rfl (fun K hK => ?_) AllReadyH.nil)
    go_simp
    refine (lock_any Zl _ wb (HK7.out.below hHeld) (src_row HZl.out (by omega) RB.out) (by have := HZl.out; omega)).mono ?_
    rintro e wd ⟨rfl, hb8⟩
    have RA := Lib.hid (row_below RA.out hb8)
    have hb9 := hHeld.trans (hb8.mono hHeld.size)
    clear hHeld
    go_wp2_with fail
    refine hK.out _ _ hb9 (fun hHeld => ?_)
    clear hK K hb8 hb9
    refine wpAnyH_ready (rs := [24]) (by kernel_rfl) (by simp) (AllReadyH.cons (o := _) rfl (fun K hK => ?_) AllReadyH.nil)
    go_simp
    refine (opens_any Zl (sha Zl) _ wd (HK7.out.below hHeld) (src_row HZl.out (by omega) RA.out) (by have := HZl.out; omega) (sha_length _) false (by rw [opensL, decide_eq_false (by have := HZl.out; omega)]; rfl)).mono ?_
    rintro e we ⟨rfl, hb8⟩
    have hb9 := hHeld.trans (hb8.mono hHeld.size)
    clear hHeld
    go_wp2_with fail
    refine hK.out _ _ hb9 (fun hHeld => ?_)
    clear hK K hb8 hb9
    refine wpAnyH_take (i := 25) (oi := { dst := some 72, op := .unOp .not 4 (.tmp 71), type := 4, pos := "law.go:44", after := #[{ on := 24, ground := .data }, { on := 20, ground := .guard }], guard := some (20, true) }) (v := (.bool true)) rfl (by kernel_rfl) (by kernel_rfl) (by kernel_rfl) (fun _ _ _ h => h) (Or.inl ⟨by rfl, fun w' _ => by kernel_rfl⟩) hHeld ?_
    go_frame
    refine wpAnyH_take (i := 26) (oi := { dst := some 73, op := .pick (.tmp 67) (.tmp 72) (.const (.bool false)), type := 4, pos := "law.go:44", after := #[{ on := 20, ground := .data }, { on := 25, ground := .data }], guard := none }) (v := (.bool true)) rfl (by kernel_rfl) (by kernel_rfl) (by kernel_rfl) (fun _ _ _ h => h) (Or.inl ⟨by rfl, fun w' _ => by kernel_rfl⟩) hHeld ?_
    go_frame
    refine wpAnyH_take (i := 27) (oi := { dst := some 4, op := .assign (.tmp 73), type := 4, pos := "law.go:44", after := #[{ on := 26, ground := .data }, { on := 24, ground := .chain }, { on := 0, ground := .phase }, { on := 1, ground := .phase }, { on := 2, ground := .phase }, { on := 3, ground := .phase }, { on := 4, ground := .phase }, { on := 5, ground := .phase }, { on := 6, ground := .phase }, { on := 7, ground := .phase }, { on := 8, ground := .phase }, { on := 9, ground := .phase }, { on := 10, ground := .phase }, { on := 11, ground := .phase }, { on := 12, ground := .phase }, { on := 13, ground := .phase }, { on := 14, ground := .phase }, { on := 15, ground := .phase }, { on := 16, ground := .phase }, { on := 17, ground := .phase }, { on := 18, ground := .phase }, { on := 19, ground := .phase }, { on := 20, ground := .phase }, { on := 21, ground := .phase }, { on := 22, ground := .phase }, { on := 23, ground := .phase }, { on := 24, ground := .phase }, { on := 25, ground := .phase }, { on := 26, ground := .phase }], guard := none }) (v := (.bool true)) rfl (by kernel_rfl) (by kernel_rfl) (by kernel_rfl) (fun _ _ _ h => h) (Or.inl ⟨by rfl, fun w' _ => by kernel_rfl⟩) hHeld ?_
    go_frame
    refine wpAnyH_done (by kernel_rfl) ?_ _
    have HW := Lib.hid (HB7.out.trans (hHeld.mono HB7.out.size))
    clear hHeld
    go_wp2_with fail
    go_ret
    exact ⟨by kernel_rfl, HW.out⟩
  · go_simp
    obtain ⟨gB, hgB⟩ : ∃ gB, gB = w8.heap.size := ⟨_, rfl⟩
    have hr := heap_alloc_new w8 (.cells (Zl.map bV).toArray 5 (0, 0))
    have hb := hHeld.alloc hHeld.size (.cells (Zl.map bV).toArray 5 (0, 0))
    have hb' := (Below.refl w8.heap.size w8).alloc (Nat.le_refl _) (.cells (Zl.map bV).toArray 5 (0, 0))
    rw [← hgB] at hr ⊢
    generalize hwa : World.alloc _ _ = wa
    rw [hwa] at hr hb hb'
    have RB := Lib.hid hr
    clear hwa hr hb' hgB hHeld
    refine hK.out _ _ hb (fun hHeld => ?_)
    clear hK K hb
    refine wpAnyH_ready (rs := [21, 23]) (by kernel_rfl) (by simp) (AllReadyH.cons (o := _) rfl (fun K hK => ?_) (AllReadyH.cons (o := _) rfl (fun K hK => ?_) AllReadyH.nil))
    · go_simp
      obtain ⟨gA, hgA⟩ : ∃ gA, gA = wa.heap.size := ⟨_, rfl⟩
      have hr := heap_alloc_new wa (.cells (Zl.map bV).toArray 5 (0, 0))
      have hb := hHeld.alloc hHeld.size (.cells (Zl.map bV).toArray 5 (0, 0))
      have hb' := (Below.refl wa.heap.size wa).alloc (Nat.le_refl _) (.cells (Zl.map bV).toArray 5 (0, 0))
      rw [← hgA] at hr ⊢
      generalize hwa : World.alloc _ _ = wb
      rw [hwa] at hr hb hb'
      have RA := Lib.hid hr
      have RB := Lib.hid (row_below RB.out hb')
      clear hwa hr hb' hgA hHeld
      refine hK.out _ _ hb (fun hHeld => ?_)
      clear hK K hb
      refine wpAnyH_ready (rs := [23]) (by kernel_rfl) (by simp) (AllReadyH.cons (o := _) rfl (fun K hK => ?_) AllReadyH.nil)
      go_simp
      refine (lock_any Zl _ wb (HK7.out.below hHeld) (src_row HZl.out (by omega) RB.out) (by have := HZl.out; omega)).mono ?_
      rintro e wd ⟨rfl, hb8⟩
      have RA := Lib.hid (row_below RA.out hb8)
      have hb9 := hHeld.trans (hb8.mono hHeld.size)
      clear hHeld
      go_wp2_with fail
      refine hK.out _ _ hb9 (fun hHeld => ?_)
      clear hK K hb8 hb9
      refine wpAnyH_ready (rs := [24]) (by kernel_rfl) (by simp) (AllReadyH.cons (o := _) rfl (fun K hK => ?_) AllReadyH.nil)
      go_simp
      refine (opens_any Zl (sha Zl) _ wd (HK7.out.below hHeld) (src_row HZl.out (by omega) RA.out) (by have := HZl.out; omega) (sha_length _) false (by rw [opensL, decide_eq_false (by have := HZl.out; omega)]; rfl)).mono ?_
      rintro e we ⟨rfl, hb8⟩
      have hb9 := hHeld.trans (hb8.mono hHeld.size)
      clear hHeld
      go_wp2_with fail
      refine hK.out _ _ hb9 (fun hHeld => ?_)
      clear hK K hb8 hb9
      refine wpAnyH_take (i := 25) (oi := { dst := some 72, op := .unOp .not 4 (.tmp 71), type := 4, pos := "law.go:44", after := #[{ on := 24, ground := .data }, { on := 20, ground := .guard }], guard := some (20, true) }) (v := (.bool true)) rfl (by kernel_rfl) (by kernel_rfl) (by kernel_rfl) (fun _ _ _ h => h) (Or.inl ⟨by rfl, fun w' _ => by kernel_rfl⟩) hHeld ?_
      go_frame
      refine wpAnyH_take (i := 26) (oi := { dst := some 73, op := .pick (.tmp 67) (.tmp 72) (.const (.bool false)), type := 4, pos := "law.go:44", after := #[{ on := 20, ground := .data }, { on := 25, ground := .data }], guard := none }) (v := (.bool true)) rfl (by kernel_rfl) (by kernel_rfl) (by kernel_rfl) (fun _ _ _ h => h) (Or.inl ⟨by rfl, fun w' _ => by kernel_rfl⟩) hHeld ?_
      go_frame
      refine wpAnyH_take (i := 27) (oi := { dst := some 4, op := .assign (.tmp 73), type := 4, pos := "law.go:44", after := #[{ on := 26, ground := .data }, { on := 24, ground := .chain }, { on := 0, ground := .phase }, { on := 1, ground := .phase }, { on := 2, ground := .phase }, { on := 3, ground := .phase }, { on := 4, ground := .phase }, { on := 5, ground := .phase }, { on := 6, ground := .phase }, { on := 7, ground := .phase }, { on := 8, ground := .phase }, { on := 9, ground := .phase }, { on := 10, ground := .phase }, { on := 11, ground := .phase }, { on := 12, ground := .phase }, { on := 13, ground := .phase }, { on := 14, ground := .phase }, { on := 15, ground := .phase }, { on := 16, ground := .phase }, { on := 17, ground := .phase }, { on := 18, ground := .phase }, { on := 19, ground := .phase }, { on := 20, ground := .phase }, { on := 21, ground := .phase }, { on := 22, ground := .phase }, { on := 23, ground := .phase }, { on := 24, ground := .phase }, { on := 25, ground := .phase }, { on := 26, ground := .phase }], guard := none }) (v := (.bool true)) rfl (by kernel_rfl) (by kernel_rfl) (by kernel_rfl) (fun _ _ _ h => h) (Or.inl ⟨by rfl, fun w' _ => by kernel_rfl⟩) hHeld ?_
      go_frame
      refine wpAnyH_done (by kernel_rfl) ?_ _
      have HW := Lib.hid (HB7.out.trans (hHeld.mono HB7.out.size))
      clear hHeld
      go_wp2_with fail
      go_ret
      exact ⟨by kernel_rfl, HW.out⟩
    · go_simp
      refine (lock_any Zl _ wa (HK7.out.below hHeld) (src_row HZl.out (by omega) RB.out) (by have := HZl.out; omega)).mono ?_
      rintro e wb ⟨rfl, hb8⟩
      have hb9 := hHeld.trans (hb8.mono hHeld.size)
      clear hHeld
      go_wp2_with fail
      refine hK.out _ _ hb9 (fun hHeld => ?_)
      clear hK K hb8 hb9
      refine wpAnyH_ready (rs := [21]) (by kernel_rfl) (by simp) (AllReadyH.cons (o := _) rfl (fun K hK => ?_) AllReadyH.nil)
      go_simp
      obtain ⟨gA, hgA⟩ : ∃ gA, gA = wb.heap.size := ⟨_, rfl⟩
      have hr := heap_alloc_new wb (.cells (Zl.map bV).toArray 5 (0, 0))
      have hb := hHeld.alloc hHeld.size (.cells (Zl.map bV).toArray 5 (0, 0))
      have hb' := (Below.refl wb.heap.size wb).alloc (Nat.le_refl _) (.cells (Zl.map bV).toArray 5 (0, 0))
      rw [← hgA] at hr ⊢
      generalize hwa : World.alloc _ _ = wd
      rw [hwa] at hr hb hb'
      have RA := Lib.hid hr
      clear hwa hr hb' hgA hHeld
      refine hK.out _ _ hb (fun hHeld => ?_)
      clear hK K hb
      refine wpAnyH_ready (rs := [24]) (by kernel_rfl) (by simp) (AllReadyH.cons (o := _) rfl (fun K hK => ?_) AllReadyH.nil)
      go_simp
      refine (opens_any Zl (sha Zl) _ wd (HK7.out.below hHeld) (src_row HZl.out (by omega) RA.out) (by have := HZl.out; omega) (sha_length _) false (by rw [opensL, decide_eq_false (by have := HZl.out; omega)]; rfl)).mono ?_
      rintro e we ⟨rfl, hb8⟩
      have hb9 := hHeld.trans (hb8.mono hHeld.size)
      clear hHeld
      go_wp2_with fail
      refine hK.out _ _ hb9 (fun hHeld => ?_)
      clear hK K hb8 hb9
      refine wpAnyH_take (i := 25) (oi := { dst := some 72, op := .unOp .not 4 (.tmp 71), type := 4, pos := "law.go:44", after := #[{ on := 24, ground := .data }, { on := 20, ground := .guard }], guard := some (20, true) }) (v := (.bool true)) rfl (by kernel_rfl) (by kernel_rfl) (by kernel_rfl) (fun _ _ _ h => h) (Or.inl ⟨by rfl, fun w' _ => by kernel_rfl⟩) hHeld ?_
      go_frame
      refine wpAnyH_take (i := 26) (oi := { dst := some 73, op := .pick (.tmp 67) (.tmp 72) (.const (.bool false)), type := 4, pos := "law.go:44", after := #[{ on := 20, ground := .data }, { on := 25, ground := .data }], guard := none }) (v := (.bool true)) rfl (by kernel_rfl) (by kernel_rfl) (by kernel_rfl) (fun _ _ _ h => h) (Or.inl ⟨by rfl, fun w' _ => by kernel_rfl⟩) hHeld ?_
      go_frame
      refine wpAnyH_take (i := 27) (oi := { dst := some 4, op := .assign (.tmp 73), type := 4, pos := "law.go:44", after := #[{ on := 26, ground := .data }, { on := 24, ground := .chain }, { on := 0, ground := .phase }, { on := 1, ground := .phase }, { on := 2, ground := .phase }, { on := 3, ground := .phase }, { on := 4, ground := .phase }, { on := 5, ground := .phase }, { on := 6, ground := .phase }, { on := 7, ground := .phase }, { on := 8, ground := .phase }, { on := 9, ground := .phase }, { on := 10, ground := .phase }, { on := 11, ground := .phase }, { on := 12, ground := .phase }, { on := 13, ground := .phase }, { on := 14, ground := .phase }, { on := 15, ground := .phase }, { on := 16, ground := .phase }, { on := 17, ground := .phase }, { on := 18, ground := .phase }, { on := 19, ground := .phase }, { on := 20, ground := .phase }, { on := 21, ground := .phase }, { on := 22, ground := .phase }, { on := 23, ground := .phase }, { on := 24, ground := .phase }, { on := 25, ground := .phase }, { on := 26, ground := .phase }], guard := none }) (v := (.bool true)) rfl (by kernel_rfl) (by kernel_rfl) (by kernel_rfl) (fun _ _ _ h => h) (Or.inl ⟨by rfl, fun w' _ => by kernel_rfl⟩) hHeld ?_
      go_frame
      refine wpAnyH_done (by kernel_rfl) ?_ _
      have HW := Lib.hid (HB7.out.trans (hHeld.mono HB7.out.size))
      clear hHeld
      go_wp2_with fail
      go_ret
      exact ⟨by kernel_rfl, HW.out⟩

set_option maxRecDepth 100000 in
theorem spkeys_long (sp : Option Addr) (n cap : Nat) (bit : Int) (w : World) (hk : KTab w) (hnm : n ≤ 9223372036854775807) (h : n = 0 ∨ 80 < n) :
    Calls Tryd.prog 4 #[.slice sp n cap, .int .i64 bit] w fun e w' => e = .returned (.bool true) ∧ Below w.heap.size w w' := by
  have HK := Lib.hid hk
  clear hk
  by_cases h0 : n = 0
  · subst h0
    have hz : (((0 : Nat) : Int) == 0) = true := rfl
    go_enter Tryd.func4, Tryd.ntmps4
    go_wp2_with (go_at_call 7; refine (sfirst_any _ HK.out).mono ?_; rintro e w1 ⟨rfl, hb1⟩; have HB1 := Lib.hid hb1; clear hb1)
    go_ret
    exact ⟨rfl, HB1.out⟩
  · have hz : ((n : Int) == 0) = false := by rw [beq_eq_false_iff_ne]; omega
    have hz2 : (80 : Int) < n := by omega
    clear h0 h
    go_enter Tryd.func4, Tryd.ntmps4
    go_wp2_with (go_at_call 7; refine (sfirst_any _ HK.out).mono ?_; rintro e w1 ⟨rfl, hb1⟩; have HB1 := Lib.hid hb1; clear hb1)
    go_ret
    exact ⟨rfl, HB1.out⟩
end Go.Proofs.YthgcpelabiigpaaDoor.Sha
