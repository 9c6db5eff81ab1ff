/-
  The statement on texts that differ in a bit answers true. Conditions: the bytes lie where the slice says, the table is there.
-/
import Derived.Test.YtboepklpbedanaaDoorShaCopy
import Derived.Test.YtboepklpbedanaaDoorPartsWalk
namespace Go.Proofs.YtboepklpbedanaaDoor.Sha
open Go Go.RowKit

theorem bv_xor (x y : UInt8) : bits .xor .u8 (bv x) (bv y) = bv (x ^^^ y) := by
  unfold bv
  rw [u8_xor_nat _ _ x.toNat_lt y.toNat_lt, UInt8.toNat_xor]
theorem bv_pow (t : Nat) : (2 : Int) ^ t % 256 = bv (UInt8.ofNat (2 ^ t)) := by
  unfold bv
  rw [UInt8.toNat_ofNat']
  simp
theorem flip_twice (x m : UInt8) : (x ^^^ m) ^^^ m = x := by rw [UInt8.xor_assoc, UInt8.xor_self, UInt8.xor_zero]
theorem own_below {w w' : World} {base g n cap : Nat} {xs : List Value} (h : w.ownsRow base 5 1 (.slice (some ⟨g, 0, none⟩) n cap) n xs) (hb : Below w.heap.size w w') : w'.ownsRow base 5 1 (.slice (some ⟨g, 0, none⟩) n cap) n xs := by
  refine h.kept (row := none) ⟨hb.os, hb.tape, hb.output, hb.size, fun k hk _ => hb.block k hk⟩ (.inr (by simp [Value.ownBlock]))
theorem row_below {w w' : World} {g : Nat} {o : Obj} (h : w.heap[g]? = some o) (hb : Below w.heap.size w w') : w'.heap[g]? = some o := by
  rw [hb.block g (Array.getElem?_eq_some_iff.1 h).1]
  exact h

theorem quiet_load_row {P : Program} {C : World → Prop} {a : Act} {o : Oper} {K : Act → Prop} (ty : TypeId) (x : Operand) (ho : o.op = .load ty x) (g : Nat) (hx : a.eval x = .pointer (some ⟨g, 0, none⟩)) (t : TypeId) (cs : Array Value) (fr : Nat × Nat) (d : TypeDesc)
    (hg : ∀ w, C w → w.heap[g]? = some (.cells cs t fr)) (hu : P.underlying ty = some d) (hd : (match d with | .struct _ | .array _ _ => true | _ => false) = true) (hi : (P.info? ty).map (·.size) = some cs.size)
    (hk : K (a.put o.dst (.agg cs))) : o.quiet P a C K :=
  ⟨_, fun w hw => by
    unfold Oper.quietAt execOp
    simp only [ho, hx, Instr.loadAt, Instr.sureAddr, Sem.run_bind, Sem.run_pure, Result.andThen_ok, run_loadVar_row w g t ty cs fr d (hg w hw) hu hd hi]
    exact ⟨rfl, rfl⟩, hk⟩
theorem same_is (x y : List UInt8) (b : Bool) (hb : b = decide (x = y)) (hx : x.length = 32) (hy : y.length = 32) (w : World) :
    Calls Tryd.prog 11 #[.agg (x.map bV).toArray, .agg (y.map bV).toArray] w fun e w' => e = .returned (.bool b) ∧ Below w.heap.size w w' := by
  rw [hb]
  exact same_any x y hx hy w
theorem hex_beq (x y : List UInt8) (h : x.length = y.length) : ((hexS x).toList == (hexS y).toList) = decide (x = y) := by
  rw [ByteArray.toList_eq, ByteArray.toList_eq]
  simp only [hexS]
  by_cases e : x = y
  · subst e; simp
  · rw [decide_eq_false e, beq_eq_false_iff_ne]
    exact fun h2 => e (hexL_inj h h2)
theorem src_of_own_any {w : World} {base n : Nat} {v : Value} {bs : List UInt8} (hn : 0 < n) (h : w.ownsRow base 5 1 v n (bs.map bV)) : SrcB w v bs := by
  rcases h.2 with ⟨_, h0⟩ | ⟨g, cap, cur, rfl, _, _, hc, _⟩
  · omega
  · exact src_of_own hn hc h

set_option maxHeartbeats 1000000 in
set_option maxRecDepth 100000 in
theorem turned_main (bs : List UInt8) (sp : Option Addr) (n cap : Nat) (bit : Int) (w : World) (hk : KTab w) (hs : SrcB w (.slice sp n cap) bs) (hn0 : 0 < n) (hn : n ≤ 200) (hbit : -9223372036854775808 ≤ bit ∧ bit ≤ 9223372036854775807) :
    Calls Tryd.prog 7 #[.slice sp n cap, .int .i64 bit] w fun e w' => e = .returned (.bool true) ∧ Below w.heap.size w w' := by
  have HNB := Lib.hid hs.le.1
  have HK := Lib.hid hk
  have HS := Lib.hid hs
  clear hk hs
  have hz : ((n : Int) == 0) = false := by rw [beq_eq_false_iff_ne]; omega
  have hz2 : ¬ (200 : Int) < n := by omega
  have hz3 : decide ((200 : Int) < n) = false := by simp; omega
  go_enter Tryd.func7, Tryd.ntmps7
  go_upto_region 7 with (first | (go_at_call 8; refine (first_any _ HK.out).mono ?_; rintro e w1 ⟨rfl, hb1⟩; have HB1 := Lib.hid hb1; clear hb1) | (go_at_call 23; refine (bytes_copy bs sp n cap _ (HS.out.below HB1.out) hn0 (by omega)).mono ?_; rintro e w2 ⟨rfl, ho2, hb2⟩; have HO2 := Lib.hid ho2; have HB2 := Lib.hid (HB1.out.trans (hb2.mono HB1.out.size)); clear ho2 hb2))
  have hg6 := HB1.out.size
  obtain ⟨g, hg⟩ : ∃ g, g = w1.heap.size := ⟨_, rfl⟩
  rw [← hg] at HO2 hg6 ⊢
  clear hg HB1
  obtain ⟨r, hr, hrn⟩ := numb_nat bit (8 * n) (by omega)
  have hnum := numb_any bit (8 * (n : Int)) (by omega) (by omega) hbit w2
  rw [show (8 * (n : Int)) = ((8 * n : Nat) : Int) by omega, hr, show ((8 * n : Nat) : Int) = (8 * (n : Int)) by omega] at hnum
  have HNUM := Lib.hid hnum
  obtain ⟨q, hq⟩ : ∃ q, q = r / 8 := ⟨_, rfl⟩
  obtain ⟨t, ht⟩ : ∃ t, t = r % 8 := ⟨_, rfl⟩
  have hqn : q < n := by omega
  have ht8 : t < 8 := by omega
  have hq1 : (r : Int).tdiv 8 = (q : Int) := by rw [Int.tdiv_eq_ediv_of_nonneg (by omega)]; omega
  have ht1 : (r : Int).tmod 8 = (t : Int) := by rw [Int.tmod_eq_emod_of_nonneg (by omega)]; omega
  obtain ⟨x, hx⟩ : ∃ x, x = bs.getD q 0 := ⟨_, rfl⟩
  have cq : w2.cell? ⟨g, q, none⟩ = some (.int .u8 (bv x)) := by
    have hqx : q < bs.length := by have := HNB.out; omega
    rw [HO2.out.cellAt q (by omega), List.getElem?_map, List.getElem?_eq_getElem hqx, hx]
    simp [bV, List.getD, List.getElem?_eq_getElem hqx]
  have zq := HO2.out.frozenAt q
  have HX := Lib.hid hx
  obtain ⟨y, hy⟩ : ∃ y, y = x ^^^ UInt8.ofNat (2 ^ t) := ⟨_, rfl⟩
  have hx1 : bits .xor .u8 (bv x) ((2 : Int) ^ t % 256) = bv y := by rw [bv_pow, bv_xor, hy]
  have hx2 : bits .xor .u8 (bv y) ((2 : Int) ^ t % 256) = bv x := by rw [bv_pow, bv_xor, hy, flip_twice]
  have HSET : Hid (∀ l : List UInt8, (l.map bV).set q (.int .u8 (bv y)) = (l.set q y).map bV) := fun l => (List.map_set (f := bV) (l := l) (i := q) (a := y)).symm
  have HBACK : Hid ((bs.set q y).set q x = bs) := by
    have hqx : q < bs.length := by have := HNB.out; omega
    have e : x = bs[q] := by rw [hx]; simp [List.getD, List.getElem?_eq_getElem hqx]
    show _ = _
    rw [List.set_set, e, List.set_getElem_self]
  have HSET2 : Hid (∀ l : List UInt8, (l.map bV).set q (.int .u8 (bv x)) = (l.set q x).map bV) := fun l => (List.map_set (f := bV) (l := l) (i := q) (a := x)).symm
  clear hr hrn hnum hbit hq ht hx hy
  go_upto_region 8 with (go_at_call 19; refine HNUM.out.mono ?_; rintro e w' ⟨rfl, rfl⟩)
  clear HNUM
  go_upto_region 9 with (fail)
  clear cq zq
  obtain ⟨ho3, hg3⟩ := HO2.out.stored q (.int .u8 (bv y))
  rw [HSET.out] at ho3
  have hb3 := grownBy_below hg3 HB2.out hg6 HB2.out.size
  generalize hw3 : World.setCell _ _ _ = w3
  rw [hw3] at ho3 hb3
  have HO3 := Lib.hid ho3
  have HB3 := Lib.hid hb3
  have hg3 : g < w3.heap.size := (ho3.lt g rfl).2
  clear hw3 ho3 hb3 hg3 HO2 HB2 HSET
  have hlen : bs.length ≤ 576460752303423487 := by have := HNB.out; omega
  have hl32 : ∀ l, ((sha l).map bV).toArray.size = 32 := fun l => by simp [sha_length]
  have HL := Lib.hid hl32
  clear hl32
  go_upto_region 10 with (first | (go_at_call 9; refine (sha_any bs _ _ (HK.out.below HB3.out) (HS.out.below HB3.out) hlen).mono ?_; rintro e w4 ⟨rfl, hb4⟩; have HB4 := Lib.hid hb4; clear hb4) | ((with_reducible show wpList _ _ _ _ _ _); refine wpList_store_row rfl 25 (.tmp 8) (.tmp 45) rfl w4.heap.size ((sha bs).map bV).toArray rfl rfl 25 _ (heap_alloc_new _ _) (by rw [HL.out]; kernel_rfl) (by rw [HL.out]; rfl) (bV_one _) ?_; go_frame))
  obtain ⟨_, f2, f3, f4⟩ := fill_setup HB4.out (List.replicate 32 (bV 0)).toArray ((sha bs).map bV).toArray 25
  have f5 : Below w3.heap.size w3 (World.setRow (w4.alloc (.cells (List.replicate 32 (bV 0)).toArray 25)) w4.heap.size ((sha bs).map bV).toArray) := HB4.out.trans (f4.mono HB4.out.size)
  obtain ⟨gx, hgx⟩ : ∃ gx, gx = w4.heap.size := ⟨_, rfl⟩
  have hgx3 : g < gx := by rw [hgx]; exact Nat.lt_of_lt_of_le (HO3.out.lt g rfl).2 HB4.out.size
  have hgxw : w.heap.size ≤ gx := by rw [hgx]; exact Nat.le_trans HB3.out.size HB4.out.size
  rw [← hgx] at f2 f5 ⊢
  generalize hw5 : World.setRow _ _ _ = w5
  have e5 : World.setRow (w4.alloc (.cells (List.replicate 32 (bV 0)).toArray 25)) gx ((sha bs).map bV).toArray = w5 := hw5
  rw [e5] at f2 f5
  have HX5 := Lib.hid f2
  have HB5 := Lib.hid (HB3.out.trans (f5.mono HB3.out.size))
  have HO5 := Lib.hid (own_below HO3.out f5)
  clear hw5 e5 f2 f3 f4 f5 hgx HB4 HO3 HB3
  go_upto_region 11 with (first | (go_at_call 9; refine (sha_any (bs.set q y) _ _ (HK.out.below HB5.out) (src_of_own hn0 (Nat.le_refl _) HO5.out) (by rw [List.length_set]; exact hlen)).mono ?_; rintro e w6 ⟨rfl, hb6⟩; have HB6 := Lib.hid hb6; clear hb6) | ((with_reducible show wpList _ _ _ _ _ _); refine wpList_store_row rfl 25 (.tmp 9) (.tmp 47) rfl w6.heap.size ((sha (bs.set q y)).map bV).toArray rfl rfl 25 _ (heap_alloc_new _ _) (by rw [HL.out]; kernel_rfl) (by rw [HL.out]; rfl) (bV_one _) ?_; go_frame))
  obtain ⟨_, f2, f3, f4⟩ := fill_setup HB6.out (List.replicate 32 (bV 0)).toArray ((sha (bs.set q y)).map bV).toArray 25
  have f5 : Below w5.heap.size w5 (World.setRow (w6.alloc (.cells (List.replicate 32 (bV 0)).toArray 25)) w6.heap.size ((sha (bs.set q y)).map bV).toArray) := HB6.out.trans (f4.mono HB6.out.size)
  obtain ⟨gy, hgy⟩ : ∃ gy, gy = w6.heap.size := ⟨_, rfl⟩
  have hgy3 : g < gy := by rw [hgy]; exact Nat.lt_of_lt_of_le (HO5.out.lt g rfl).2 HB6.out.size
  rw [← hgy] at f2 f5 ⊢
  generalize hw7 : World.setRow _ _ _ = w7
  have e7 : World.setRow (w6.alloc (.cells (List.replicate 32 (bV 0)).toArray 25)) gy ((sha (bs.set q y)).map bV).toArray = w7 := hw7
  rw [e7] at f2 f5
  have HY7 := Lib.hid f2
  have HX7 := Lib.hid (row_below HX5.out f5)
  have HB7 := Lib.hid (HB5.out.trans (f5.mono HB5.out.size))
  have HO7 := Lib.hid (own_below HO5.out f5)
  clear hw7 e7 f2 f3 f4 f5 hgy HB6 HX5 HO5 HB5
  obtain ⟨i0, hi, hz0, hz1, hzb⟩ := info_parts info_u8
  go_upto_region 12 with (first | (go_at_call 23; refine (bytes_copy bs sp n cap _ (HS.out.below HB7.out) hn0 (by omega)).mono ?_; rintro e w8 ⟨rfl, ho8, hb8⟩; have HO8 := Lib.hid ho8; have HB8 := Lib.hid hb8; clear ho8 hb8) | (at_builtin; refine wpList_append_own _ rfl _ _ 22 rfl w7.heap.size 5 i0 (.int .u8 0) 1 1 Tryd.underlying22 hi hz0 hz1 hzb rfl (by decide) _ _ _ rfl (HO8.out.alloc _) ⟨w8.heap.size, 0, none⟩ 1 1 [.int .u8 0] rfl rfl (cell_one_new _ _ _) (one_u8 _) (by unfold maxLen; omega) (by omega) (by have := HB8.out.size; simp; omega) ?_; intro v9 w9 ho9 hg9 _; have HO9 := Lib.hid ho9; have HG9 := Lib.hid hg9; clear ho9 hg9; go_frame) | fail)
  have hb9 : Below w7.heap.size w7 w9 := (HB8.out.alloc HB8.out.size _).grown HG9.out (by have := HB8.out.size; simp; omega) (fun k hk => by cases hk; exact Nat.le_refl _)
  have ho9 : w9.ownsRow w7.heap.size 5 1 v9 (n + 1) ((bs ++ [0]).map bV) := by rw [List.map_append]; exact HO9.out
  have HB9 := Lib.hid hb9
  have HO10 := Lib.hid ho9
  clear hb9 ho9 HO9 HG9 HB8 HO8
  refine (sha_any (bs ++ [0]) v9 _ ((HK.out.below HB7.out).below HB9.out) (src_of_own_any (Nat.succ_pos _) HO10.out) (by rw [List.length_append]; have := HNB.out; simp; omega)).mono ?_
  rintro e w10 ⟨rfl, hb10⟩
  have HB10 := Lib.hid (HB9.out.trans (hb10.mono HB9.out.size))
  clear hb10 HB9 HO10
  go_upto_region 12 with ((with_reducible show wpList _ _ _ _ _ _); refine wpList_store_row rfl 25 (.tmp 10) (.tmp 52) rfl w10.heap.size ((sha (bs ++ [0])).map bV).toArray rfl rfl 25 _ (heap_alloc_new _ _) (by rw [HL.out]; kernel_rfl) (by rw [HL.out]; rfl) (bV_one _) ?_; go_frame)
  obtain ⟨_, f2, f3, f4⟩ := fill_setup HB10.out (List.replicate 32 (bV 0)).toArray ((sha (bs ++ [0])).map bV).toArray 25
  have f5 : Below w7.heap.size w7 (World.setRow (w10.alloc (.cells (List.replicate 32 (bV 0)).toArray 25)) w10.heap.size ((sha (bs ++ [0])).map bV).toArray) := HB10.out.trans (f4.mono HB10.out.size)
  obtain ⟨gz, hgz⟩ : ∃ gz, gz = w10.heap.size := ⟨_, rfl⟩
  have hgz3 : g < gz := by rw [hgz]; exact Nat.lt_of_lt_of_le (HO7.out.lt g rfl).2 HB10.out.size
  rw [← hgz] at f2 f5 ⊢
  generalize hw11 : World.setRow _ _ _ = w11
  have e11 : World.setRow (w10.alloc (.cells (List.replicate 32 (bV 0)).toArray 25)) gz ((sha (bs ++ [0])).map bV).toArray = w11 := hw11
  rw [e11] at f2 f5
  have HZ11 := Lib.hid f2
  have HY11 := Lib.hid (row_below HY7.out f5)
  have HX11 := Lib.hid (row_below HX7.out f5)
  have HB11 := Lib.hid (HB7.out.trans (f5.mono HB7.out.size))
  have HO11 := Lib.hid (own_below HO7.out f5)
  clear hw11 e11 f2 f3 f4 f5 hgz HB10 HX7 HY7 HO7 HB7 hi hz0 hz1 hzb
  have cq : w11.cell? ⟨g, q, none⟩ = some (.int .u8 (bv y)) := by
    rw [HO11.out.cellAt q (by omega), List.getElem?_map, List.getElem?_set_self (by have := HNB.out; omega)]
    rfl
  have zq := HO11.out.frozenAt q
  go_upto_region 13 with (fail)
  clear cq zq
  obtain ⟨ho12, hg12⟩ := HO11.out.stored q (.int .u8 (bv x))
  rw [HSET2.out, HBACK.out] at ho12
  have hb12 := grownBy_below hg12 HB11.out hg6 HB11.out.size
  have HX12 := Lib.hid ((hg12.block gx (Array.getElem?_eq_some_iff.1 HX11.out).1 (fun e => by have := Option.some.inj e; omega)).trans HX11.out)
  have HY12 := Lib.hid ((hg12.block gy (Array.getElem?_eq_some_iff.1 HY11.out).1 (fun e => by have := Option.some.inj e; omega)).trans HY11.out)
  have HZ12 := Lib.hid ((hg12.block gz (Array.getElem?_eq_some_iff.1 HZ11.out).1 (fun e => by have := Option.some.inj e; omega)).trans HZ11.out)
  generalize hw12 : World.setCell _ _ _ = w12
  rw [hw12] at ho12 hb12 HX12 HY12 HZ12
  have HO12 := Lib.hid ho12
  have HB12 := Lib.hid hb12
  clear hw12 ho12 hb12 hg12 HX11 HY11 HZ11 HO11 HB11 HSET2 HBACK hx1 hx2 hq1 ht1
  obtain ⟨e1, he1⟩ : ∃ e1, e1 = decide (sha bs = sha (bs.set q y)) := ⟨_, rfl⟩
  obtain ⟨e2, he2⟩ : ∃ e2, e2 = decide (sha bs = sha (bs ++ [0])) := ⟨_, rfl⟩
  have HE1 := Lib.hid he1
  have HE2 := Lib.hid he2
  have HV1 : Hid (Value.bool ((hexS (sha bs)).toList == (hexS (sha (bs.set q y))).toList) = Value.bool e1) := by show _ = _; rw [hex_beq _ _ (by rw [sha_length, sha_length]), HE1.out]
  have HV2 : Hid (Value.bool ((hexS (sha bs)).toList == (hexS (sha (bs ++ [0]))).toList) = Value.bool e2) := by show _ = _; rw [hex_beq _ _ (by rw [sha_length, sha_length]), HE2.out]
  clear he1 he2
  refine wp_region_below (by kernel_rfl) (by kernel_rfl) w12 (Below.refl _ _) ?_
  go_big_quiet_step ((intro _; rfl))
  go_big_quiet_step ((intro _; rfl))
  go_big_quiet_step ((intro _; rfl))
  go_big_quiet_step ((intro hw'; exact cls hw' (sha_any bs _ _ ((HK.out.below HB12.out).below hw') (src_of_own hn0 (Nat.le_refl _) (own_below HO12.out hw')) hlen)))
  go_big_quiet_want
  refine quiet_load_row 25 (.tmp 8) rfl gx rfl 25 ((sha bs).map bV).toArray (0, 0) (.array 32 5) (fun w' hw' => row_below HX12.out hw') Tryd.underlying25 rfl (by rw [HL.out]; kernel_rfl) ?_
  go_frame
  go_big_quiet_on
  go_big_quiet_step ((intro hw'; exact cls hw' (same_true _ _ rfl (sha_length _) _)))
  go_big_quiet_step ((intro _; rfl))
  go_big_quiet_step ((intro _; rfl))
  go_big_quiet_want
  refine quiet_load_row 25 (.tmp 8) rfl gx rfl 25 ((sha bs).map bV).toArray (0, 0) (.array 32 5) (fun w' hw' => row_below HX12.out hw') Tryd.underlying25 rfl (by rw [HL.out]; kernel_rfl) ?_
  go_frame
  go_big_quiet_on
  go_big_quiet_step ((intro hw'; exact cls hw' (hex_any _ (sha_length _) _)))
  go_big_quiet_want
  refine quiet_load_row 25 (.tmp 9) rfl gy rfl 25 ((sha (bs.set q y)).map bV).toArray (0, 0) (.array 32 5) (fun w' hw' => row_below HY12.out hw') Tryd.underlying25 rfl (by rw [HL.out]; kernel_rfl) ?_
  go_frame
  go_big_quiet_on
  go_big_quiet_step ((intro hw'; exact cls hw' (hex_any _ (sha_length _) _)))
  go_big_quiet_step ((intro _; exact HV1.out))
  go_big_quiet_want
  refine quiet_load_row 25 (.tmp 8) rfl gx rfl 25 ((sha bs).map bV).toArray (0, 0) (.array 32 5) (fun w' hw' => row_below HX12.out hw') Tryd.underlying25 rfl (by rw [HL.out]; kernel_rfl) ?_
  go_frame
  go_big_quiet_on
  go_big_quiet_want
  refine quiet_load_row 25 (.tmp 9) rfl gy rfl 25 ((sha (bs.set q y)).map bV).toArray (0, 0) (.array 32 5) (fun w' hw' => row_below HY12.out hw') Tryd.underlying25 rfl (by rw [HL.out]; kernel_rfl) ?_
  go_frame
  go_big_quiet_on
  go_big_quiet_step ((intro hw'; exact cls hw' (same_is _ _ _ HE1.out (sha_length _) (sha_length _) _)))
  go_big_quiet_step ((intro _; rfl))
  go_big_quiet_step ((intro _; rfl))
  go_big_quiet_step ((intro _; rfl))
  go_big_quiet_want
  refine quiet_load_row 25 (.tmp 8) rfl gx rfl 25 ((sha bs).map bV).toArray (0, 0) (.array 32 5) (fun w' hw' => row_below HX12.out hw') Tryd.underlying25 rfl (by rw [HL.out]; kernel_rfl) ?_
  go_frame
  go_big_quiet_on
  go_big_quiet_step ((intro hw'; exact cls hw' (hex_any _ (sha_length _) _)))
  go_big_quiet_want
  refine quiet_load_row 25 (.tmp 10) rfl gz rfl 25 ((sha (bs ++ [0])).map bV).toArray (0, 0) (.array 32 5) (fun w' hw' => row_below HZ12.out hw') Tryd.underlying25 rfl (by rw [HL.out]; kernel_rfl) ?_
  go_frame
  go_big_quiet_on
  go_big_quiet_step ((intro hw'; exact cls hw' (hex_any _ (sha_length _) _)))
  go_big_quiet_step ((intro _; exact HV2.out))
  go_big_quiet_want
  refine quiet_load_row 25 (.tmp 8) rfl gx rfl 25 ((sha bs).map bV).toArray (0, 0) (.array 32 5) (fun w' hw' => row_below HX12.out hw') Tryd.underlying25 rfl (by rw [HL.out]; kernel_rfl) ?_
  go_frame
  go_big_quiet_on
  go_big_quiet_want
  refine quiet_load_row 25 (.tmp 10) rfl gz rfl 25 ((sha (bs ++ [0])).map bV).toArray (0, 0) (.array 32 5) (fun w' hw' => row_below HZ12.out hw') Tryd.underlying25 rfl (by rw [HL.out]; kernel_rfl) ?_
  go_frame
  go_big_quiet_on
  go_big_quiet_step ((intro hw'; exact cls hw' (same_is _ _ _ HE2.out (sha_length _) (sha_length _) _)))
  repeat (go_big_quiet_step ((intro _; rfl)))
  refine wpQuiet_nil ?_
  intro w13 hw13
  have HW13 := Lib.hid (HB12.out.trans (hw13.mono HB12.out.size))
  clear hw13
  go_wp2_with fail
  go_ret
  exact ⟨rfl, HW13.out⟩

set_option maxRecDepth 100000 in
theorem turned_long (sp : Option Addr) (n cap : Nat) (bit : Int) (w : World) (hk : KTab w) (hnm : n ≤ 9223372036854775807) (h : n = 0 ∨ 200 < n) :
    Calls Tryd.prog 7 #[.slice sp n cap, .int .i64 bit] w fun e w' => e = .returned (.bool true) ∧ Below w.heap.size w w' := by
  have HK := Lib.hid hk
  clear hk
  by_cases h0 : n = 0
  · subst h0
    have hz : (((0 : Nat) : Int) == 0) = true := rfl
    go_enter Tryd.func7, Tryd.ntmps7
    go_wp2_with (go_at_call 8; refine (first_any _ HK.out).mono ?_; rintro e w1 ⟨rfl, hb1⟩; have HB1 := Lib.hid hb1; clear hb1)
    go_ret
    exact ⟨rfl, HB1.out⟩
  · have hz : ((n : Int) == 0) = false := by rw [beq_eq_false_iff_ne]; omega
    have hz2 : (200 : Int) < n := by omega
    clear h0 h
    go_enter Tryd.func7, Tryd.ntmps7
    go_wp2_with (go_at_call 8; refine (first_any _ HK.out).mono ?_; rintro e w1 ⟨rfl, hb1⟩; have HB1 := Lib.hid hb1; clear hb1)
    go_ret
    exact ⟨rfl, HB1.out⟩
end Go.Proofs.YtboepklpbedanaaDoor.Sha
