/-
  Texts of this proof joined into one file: BlStartWalk, ErrBla, TxsOwn, TxCloneA. What each holds, and under which conditions, its own first sentence tells.
-/
import Derived.IntWalk
import Derived.Laws.Bits64b
import Derived.Stop.LaidErr
import Derived.Test.YtdamhoagiooicaaDoorMg17
import Derived.Test.YtdamhoagiooicaaDoorMg19
import Derived.Test.YtdamhoagiooicaaDoorMg02
import Derived.Test.YtdamhoagiooicaaDoorMg16
import Derived.Test.YtdamhoagiooicaaDoorMg04
import Derived.Test.YtdamhoagiooicaaDoorRows
import Derived.Test.YtdamhoagiooicaaDoorMg01
import Derived.Test.YtdamhoagiooicaaDoorMg06
import Derived.Test.YtdamhoagiooicaaDoorMg08
/-
  The statement on the block that each chain begins with answers true. Nothing that was there turns. Conditions: the bytes lie where the slice says; the errors and the table are there.
-/
namespace Go.Proofs.YtdamhoagiooicaaDoor.Sha
open Go Go.RowKit
theorem i64_or_add (a b k : Nat) (ha : a < 2 ^ k) (hb : 2 ^ k * b < 4611686018427387904) (hk : k ≤ 40) : bits .or .i64 (a : Int) ((2 ^ k * b : Nat) : Int) = ((a + 2 ^ k * b : Nat) : Int) := by
  have hp : 2 ^ k ≤ 2 ^ 40 := Nat.pow_le_pow_right (by omega) hk
  have ha2 : a < 4611686018427387904 := Nat.lt_of_lt_of_le ha (Nat.le_trans hp (by decide))
  have h1 : (BitVec.ofInt 64 (a : Int)).toNat = a := by
    rw [BitVec.ofInt_natCast, BitVec.toNat_ofNat]; exact Nat.mod_eq_of_lt (by omega)
  have h2 : (BitVec.ofInt 64 ((2 ^ k * b : Nat) : Int)).toNat = 2 ^ k * b := by
    rw [BitVec.ofInt_natCast, BitVec.toNat_ofNat]; exact Nat.mod_eq_of_lt (by omega)
  show IntKind.i64.wrap ((BitVec.ofInt 64 (a : Int) ||| BitVec.ofInt 64 ((2 ^ k * b : Nat) : Int)).toNat : Int) = _
  rw [BitVec.toNat_or, h1, h2, Nat.or_comm, ← Nat.two_pow_add_eq_or_of_lt ha, IntWalk.i64_in _ (by omega)]
  omega
def h3M : List UInt8 := 3 :: List.replicate 31 0
theorem four_bytes (j : Nat) (hj : j < 1048576) : ∃ x0 x1 x2 x3 : UInt8, leB j 4 = [x0, x1, x2, x3] ∧ j = x0.toNat + 256 * (x1.toNat + 256 * (x2.toNat + 256 * x3.toNat)) := by
  have h : leN (leB j 4) = j := leN_leB_of (by omega)
  obtain ⟨x0, h0⟩ : ∃ x, x = UInt8.ofNat (j / 256 ^ 0) := ⟨_, rfl⟩
  obtain ⟨x1, h1⟩ : ∃ x, x = UInt8.ofNat (j / 256 ^ 1) := ⟨_, rfl⟩
  obtain ⟨x2, h2⟩ : ∃ x, x = UInt8.ofNat (j / 256 ^ 2) := ⟨_, rfl⟩
  obtain ⟨x3, h3⟩ : ∃ x, x = UInt8.ofNat (j / 256 ^ 3) := ⟨_, rfl⟩
  have e : leB j 4 = [x0, x1, x2, x3] := by rw [h0, h1, h2, h3]; rfl
  refine ⟨x0, x1, x2, x3, e, ?_⟩
  rw [e] at h
  have e2 : leN [x0, x1, x2, x3] = x0.toNat + 256 * (x1.toNat + 256 * (x2.toNat + 256 * (x3.toNat + 256 * 0))) := rfl
  rw [e2] at h
  omega
set_option maxHeartbeats 4000000 in
set_option maxRecDepth 100000 in
theorem blockstart_main (E : Nat → Addr) (h : Int) (ex : List UInt8) (ve : Value) (w : World) (hh : -9223372036854775808 ≤ h ∧ h ≤ 9223372036854775807) (hs : SrcB w ve ex) (hk : KTab w) (hE : ErB w E) :
    Calls Tryd.prog 6 #[.int .i64 h, ve] w fun e w' => e = .returned (.bool true) ∧ Below w.heap.size w w' := by
  obtain ⟨j, hj, hj2⟩ := numb_nat h 1048576 (by omega)
  obtain ⟨x0, x1, x2, x3, hx4, hjx⟩ := four_bytes j hj2
  have NUM : Hid (∀ W, Calls Tryd.prog 14 #[.int .i64 h, .int .i64 1048576] W fun e w' => e = .returned (.int .i64 (j : Int)) ∧ W = w') := fun W => by
    have h := numb_any h 1048576 (by omega) (by omega) hh W
    rwa [show ((1048576 : Int)) = ((1048576 : Nat) : Int) by rfl, hj] at h
  obtain ⟨se, ne, ce, rfl, q1, q2⟩ := hs.shape'
  have NE := Lib.hid q1
  have HK := Lib.hid hk
  have HE := Lib.hid hE
  have SE := Lib.hid hs
  have FC : Hid (ex.length ≤ 70 → ∀ W, Below w.heap.size w W → Calls Tryd.prog 9 #[.int .i64 (j : Int), .int .u64 9, .agg (h3M.map bV).toArray, .slice se ne ce] W fun e w' => ∃ v', e = .returned v' ∧ TxNew W w' v' (firstT j 9 h3M ex) ∧ Below W.heap.size W w') := fun hx W hW =>
    blfirst_any (j : Int) j 9 h3M ex _ W (by
      have e : IntKind.u32.wrap (j : Int) = (j : Int) % 4294967296 := by
        unfold IntKind.wrap
        simp [IntKind.bits, IntKind.signed]
      rw [e]; omega) (by omega) (by omega) rfl (SE.out.below hW) (by omega)
  have HJX := Lib.hid hjx
  have HX4 := Lib.hid hx4
  have HJ2 := Lib.hid hj2
  clear hs hk hE q1 q2 hh hj hx4 hjx
  go_enter Tryd.func6, Tryd.ntmps6
  go_wp2_with fail
  refine (first7 E w HK.out HE.out).mono ?_
  rintro e w2 ⟨rfl, hb2⟩
  have B2 := Lib.hid hb2
  clear hb2
  by_cases h70 : 70 < ne
  · have t1 : (ne : Int) > 70 := by omega
    clear h70
    go_wp2_with fail
    go_ret
    exact ⟨rfl, B2.out⟩
  have t1 : ¬ (ne : Int) > 70 := by omega
  have hx : ex.length ≤ 70 := by have := NE.out; omega
  have FC := Lib.hid (FC.out hx)
  have HX70 := Lib.hid hx
  clear hx
  go_upto_region 7 with (go_at_call 14; refine (NUM.out _).mono ?_; rintro e w' ⟨rfl, rfl⟩)
  go_wp2_with ((with_reducible show wpList _ _ _ _ _ _); refine wpList_buildTo rfl 24 _ rfl _ rfl (h3M.map bV).toArray (by kernel_rfl) ?_; go_frame)
  refine (FC.out w2 B2.out).mono ?_
  rintro e w3 ⟨v3, rfl, t3, hb3⟩
  have t3 := t3.at
  have TA3 := Lib.hid t3
  have B3 := Lib.hid (B2.out.trans (hb3.mono B2.out.size))
  obtain ⟨_, iv, ov, rfl, hi3, ho3⟩ := t3
  obtain ⟨si, ci, hiv, _, hi4⟩ := hi3
  have hiv : iv = .slice si 1 ci := hiv
  subst hiv
  obtain ⟨b1, o1, rfl, hx1⟩ := hi4 (by show 0 < 1; omega)
  obtain ⟨_, kv, hkv, hr1⟩ := hx1 0 _ rfl
  rw [Nat.zero_mul, Nat.add_zero] at hr1
  obtain ⟨so, co, hov, _, ho4⟩ := ho3
  have hov : ov = .slice so 1 co := hov
  subst hov
  obtain ⟨b2, o2, rfl, hy1⟩ := ho4 (by show 0 < 1; omega)
  obtain ⟨_, hr2⟩ := hy1 0 _ rfl
  rw [Nat.zero_mul, Nat.add_zero] at hr2
  have hkl : (firstX j ex).key.length = 4 + ne := by simp only [firstX, List.length_append, leB_length]; have := NE.out; omega
  have hkey : (firstX j ex).key = [x0, x1, x2, x3] ++ ex := by show leB j 4 ++ ex = _; rw [HX4.out]
  obtain ⟨nk, hnk⟩ : ∃ nk, nk = 4 + ne := ⟨_, rfl⟩
  rcases hkv.1 with ⟨_, _, _, hnil⟩ | ⟨_, bk, ok, ck, hkv2, hck, hcell⟩
  · rw [hnil] at hkl
    simp at hkl
    omega
  rw [hkl, ← hnk] at hkv2 hck hcell
  subst hkv2
  have CK0 : Hid (∀ W, Below w3.heap.size w3 W → W.cell? ⟨bk, ok, none⟩ = some (.int .u8 (bv x0))) := fun W hW => by
    have e := hcell 0 (by omega)
    rw [hkey] at e
    rw [hW.cell (p := ⟨bk, ok, none⟩) (World.block_lt_of_cell? w3 _ e)]
    exact e
  have CK1 : Hid (∀ W, Below w3.heap.size w3 W → W.cell? ⟨bk, ok + 1, none⟩ = some (.int .u8 (bv x1))) := fun W hW => by
    have e := hcell 1 (by omega)
    rw [hkey] at e
    rw [hW.cell (p := ⟨bk, ok + 1, none⟩) (World.block_lt_of_cell? w3 _ e)]
    exact e
  have CK2 : Hid (∀ W, Below w3.heap.size w3 W → W.cell? ⟨bk, ok + 2, none⟩ = some (.int .u8 (bv x2))) := fun W hW => by
    have e := hcell 2 (by omega)
    rw [hkey] at e
    rw [hW.cell (p := ⟨bk, ok + 2, none⟩) (World.block_lt_of_cell? w3 _ e)]
    exact e
  have CK3 : Hid (∀ W, Below w3.heap.size w3 W → W.cell? ⟨bk, ok + 3, none⟩ = some (.int .u8 (bv x3))) := fun W hW => by
    have e := hcell 3 (by omega)
    rw [hkey] at e
    rw [hW.cell (p := ⟨bk, ok + 3, none⟩) (World.block_lt_of_cell? w3 _ e)]
    exact e
  have SKEY : Hid (SrcB w3 (.slice (some ⟨bk, ok, none⟩) nk ck) ([x0, x1, x2, x3] ++ ex)) := by
    show SrcB _ _ _
    rw [← hkey]
    exact hkv.1
  have CKV : Hid (∀ W, Below w3.heap.size w3 W → W.cell? ⟨b1, o1 + 33, none⟩ = some (.slice (some ⟨bk, ok, none⟩) nk ck)) := fun W hW => in_key zH_length (range_below hr1 hW)
  have CV : Hid (∀ W, Below w3.heap.size w3 W → W.cell? ⟨b2, o2, none⟩ = some (.int .u64 9)) := fun W hW => out_val (range_below hr2 hW)
  have LC : Hid ((txL (firstT j 9 h3M ex) (.slice (some ⟨b1, o1, none⟩) 1 ci) (.slice (some ⟨b2, o2, none⟩) 1 co)).length = 4) := rfl
  obtain ⟨ct, hct⟩ : ∃ ct, ct = txL (firstT j 9 h3M ex) (.slice (some ⟨b1, o1, none⟩) 1 ci) (.slice (some ⟨b2, o2, none⟩) 1 co) := ⟨_, rfl⟩
  have BX : Hid (∀ (W : World) (g : Nat), W.heap[g]? = some (.cells ct.toArray 32 (0, 0)) → W.cell? ⟨g, 1, none⟩ = some (.slice (some ⟨b1, o1, none⟩) 1 ci) ∧ W.cell? ⟨g, 2, none⟩ = some (.slice (some ⟨b2, o2, none⟩) 1 co)) := fun W g hW => by
    rw [hct] at hW
    exact ⟨(tx_cells hW).2.1, (tx_cells hW).2.2.1⟩
  have ONE : Hid (ct.toArray.all (·.oneCell') = true) := by show _ = _; rw [hct]; kernel_rfl
  rw [← hct] at TA3 LC
  have LC' : Hid (ct.toArray.size = 4) := by show _ = _; rw [List.size_toArray]; exact LC.out
  rw [← hct]
  have HNK := Lib.hid hnk
  have NK4 : Hid (4 ≤ nk) := by show _ ≤ _; omega
  have CAPK := Lib.hid hck
  clear hi4 ho4 hx1 hy1 hkv hcell hr1 hr2 hkl hkey hct hnk hck hb3 hj2
  obtain ⟨g6, hg6⟩ : ∃ g6, g6 = w3.heap.size := ⟨_, rfl⟩
  obtain ⟨_, f2, f3, f4⟩ := fill_setup (Below.refl w3.heap.size w3) [nV 0, .slice none 0 0, .slice none 0 0, nV 0].toArray ct.toArray 32
  go_upto_region 8 with ((with_reducible show wpList _ _ _ _ _ _); (refine wpList_store_row rfl 32 (.tmp 6) (.tmp 22) rfl w3.heap.size ct.toArray rfl rfl 32 _ (heap_alloc_new _ _) (by rw [LC'.out]; kernel_rfl) (by rw [LC'.out]; rfl) ONE.out ?_; go_frame))
  rw [← hg6] at f2 f3 f4 ⊢
  generalize hw4 : World.setRow _ _ _ = w4
  have e4 : World.setRow (w3.alloc (.cells [nV 0, .slice none 0 0, .slice none 0 0, nV 0].toArray 32)) g6 ct.toArray = w4 := hw4
  rw [e4] at f2 f4
  rw [hg6] at f4
  have F4 := Lib.hid f2
  have N4 := Lib.hid f4
  have B4 := Lib.hid (B3.out.trans (f4.mono B3.out.size))
  clear f2 f3 f4 hg6 hw4 e4
  go_wp2_with fail
  refine (blstart_any w4 (HK.out.below B4.out)).mono ?_
  rintro e w7 ⟨v7, rfl, t7, hb7⟩
  have SB := Lib.hid t7
  obtain ⟨hh7, tv, rfl, ht7⟩ := t7
  obtain ⟨sp7, cap7, rfl⟩ := ht7.shape
  have F7' := Lib.hid (row_below F4.out hb7)
  have N7 := Lib.hid (N4.out.trans (hb7.mono N4.out.size))
  have B7 := Lib.hid (B4.out.trans (hb7.mono B4.out.size))
  have LS : Hid ((blL startX.head (.slice sp7 startX.txs.length cap7)).toArray.size = 69) := blL_size hh7 _
  have ON7 : Hid ((blL startX.head (.slice sp7 startX.txs.length cap7)).toArray.all (·.oneCell') = true) := blL_one rfl
  obtain ⟨cs, hcs⟩ : ∃ cs, cs = blL startX.head (.slice sp7 startX.txs.length cap7) := ⟨_, rfl⟩
  have BX7 : Hid (∀ (W : World) (g : Nat), W.heap[g]? = some (.cells cs.toArray 39 (0, 0)) → W.cell? ⟨g, 68, none⟩ = some (.slice sp7 1 cap7) ∧ W.cell? ⟨g, 65, none⟩ = some (.int .u32 1000)) := fun W g hW => by
    rw [hcs] at hW
    have k : BlBox W g startX.head (.slice sp7 startX.txs.length cap7) := ⟨hW⟩
    refine ⟨k.txs hh7, ?_⟩
    have e := k.head 65 (nV 1000) (hdL_at hh7).2.1
    rw [Nat.zero_add] at e
    exact e
  rw [← hcs] at SB LS ON7
  rw [← hcs]
  have SB := SB.out
  clear hcs hb7 ht7 hh7
  have SB := Lib.hid SB
  obtain ⟨g7, hg7⟩ : ∃ g7, g7 = w7.heap.size := ⟨_, rfl⟩
  obtain ⟨_, f2, f3, f4⟩ := fill_setup (Below.refl w7.heap.size w7) Tryd.zeroCells39 cs.toArray 39
  go_upto_region 9 with ((with_reducible show wpList _ _ _ _ _ _); (refine wpList_store_row rfl 39 (.tmp 7) (.tmp 23) rfl w7.heap.size cs.toArray rfl rfl 39 _ (heap_alloc_new _ _) (by rw [LS.out]; kernel_rfl) (by rw [LS.out]; kernel_rfl) ON7.out ?_; go_frame))
  rw [← hg7] at f2 f3 f4 ⊢
  generalize hw5 : World.setRow _ _ _ = w5
  have e5 : World.setRow (w7.alloc (.cells Tryd.zeroCells39 39)) g7 cs.toArray = w5 := hw5
  rw [e5] at f2 f4
  rw [hg7] at f4
  have F7 := Lib.hid f2
  have F6 := Lib.hid (row_below F7'.out f4)
  have N5 := Lib.hid (N7.out.trans (f4.mono N7.out.size))
  have B5 := Lib.hid (B7.out.trans (f4.mono B7.out.size))
  have SB5 := Lib.hid (SB.out.below f4)
  clear f2 f3 f4 hg7 hw5 e5 SB F4 F7'
  have d1 := (BX.out _ _ F6.out).1
  have d2 := (BX.out _ _ F6.out).2
  have d3 := CKV.out _ N5.out
  have d4 := (BX7.out _ _ F7.out).1
  have u1 : IntKind.i64.wrap (4 + (ne : Int)) = (nk : Int) := by rw [i64_stays (by omega)]; have := HNK.out; omega
  have u2 : 4 + (ne : Int) = (nk : Int) := by have := HNK.out; omega
  go_upto_region 12 with fail
  clear d1 d2 d3 d4 u1 u2
  have CK0' := Lib.hid (fun W hW => CK0.out W (N5.out.trans (Below.mono hW N5.out.size)))
  have CK1' := Lib.hid (fun W hW => CK1.out W (N5.out.trans (Below.mono hW N5.out.size)))
  have CK2' := Lib.hid (fun W hW => CK2.out W (N5.out.trans (Below.mono hW N5.out.size)))
  have CK3' := Lib.hid (fun W hW => CK3.out W (N5.out.trans (Below.mono hW N5.out.size)))
  have b0 := x0.toNat_lt
  have b1' := x1.toNat_lt
  have b2' := x2.toNat_lt
  have b3' := x3.toNat_lt
  obtain ⟨y1, hy1⟩ : ∃ y, y = 256 * x1.toNat := ⟨_, rfl⟩
  obtain ⟨y2, hy2⟩ : ∃ y, y = 65536 * x2.toNat := ⟨_, rfl⟩
  obtain ⟨y3, hy3⟩ : ∃ y, y = 16777216 * x3.toNat := ⟨_, rfl⟩
  obtain ⟨s1, hs1⟩ : ∃ y, y = x0.toNat + y1 := ⟨_, rfl⟩
  obtain ⟨s2, hs2⟩ : ∃ y, y = s1 + y2 := ⟨_, rfl⟩
  have hj3 : j = s2 + y3 := by have := HJX.out; omega
  have v0 : IntKind.i64.wrap (bv x0) = bv x0 := by have := bv_bd x0; exact IntWalk.i64_in _ (by omega)
  have v1 : IntKind.i64.wrap (bv x1) = bv x1 := by have := bv_bd x1; exact IntWalk.i64_in _ (by omega)
  have v2 : IntKind.i64.wrap (bv x2) = bv x2 := by have := bv_bd x2; exact IntWalk.i64_in _ (by omega)
  have v3 : IntKind.i64.wrap (bv x3) = bv x3 := by have := bv_bd x3; exact IntWalk.i64_in _ (by omega)
  have sh1 : IntKind.i64.wrap (bv x1 * 256) = (y1 : Int) := by unfold bv; rw [IntWalk.i64_in _ (by omega)]; omega
  have sh2 : IntKind.i64.wrap (bv x2 * 65536) = (y2 : Int) := by unfold bv; rw [IntWalk.i64_in _ (by omega)]; omega
  have sh3 : IntKind.i64.wrap (bv x3 * 16777216) = (y3 : Int) := by unfold bv; rw [IntWalk.i64_in _ (by omega)]; omega
  have or1 : bits .or .i64 (bv x0) (y1 : Int) = (s1 : Int) := by
    have h := i64_or_add x0.toNat x1.toNat 8 (by omega) (by omega) (by omega)
    rw [show 2 ^ 8 * x1.toNat = y1 by omega, ← hs1] at h
    exact h
  have or2 : bits .or .i64 (s1 : Int) (y2 : Int) = (s2 : Int) := by
    have h := i64_or_add s1 x2.toNat 16 (by omega) (by omega) (by omega)
    rw [show 2 ^ 16 * x2.toNat = y2 by omega, ← hs2] at h
    exact h
  have or3 : bits .or .i64 (s2 : Int) (y3 : Int) = (j : Int) := by
    have h := i64_or_add s2 x3.toNat 24 (by omega) (by omega) (by omega)
    rw [show 2 ^ 24 * x3.toNat = y3 by omega, ← hj3] at h
    exact h
  have k0 : ¬ nk = 0 := by have := NK4.out; omega
  have k1 : ¬ (nk : Int) ≤ 1 := by have := NK4.out; omega
  have k2 : ¬ (nk : Int) ≤ 2 := by have := NK4.out; omega
  have k3 : ¬ (nk : Int) ≤ 3 := by have := NK4.out; omega
  clear b0 b1' b2' b3' hy1 hy2 hy3 hs1 hs2 hj3 CK0 CK1 CK2 CK3
  refine wp_region_held_drew (S := (fun w' => Below w5.heap.size w5 w')) (by kernel_rfl) (Below.drew (Below.refl _ _)) (fun hHeld => ?_)
  generalize hwd : w5.drew = wd at  hHeld ⊢
  clear hwd
  refine held_take (i := 0) (v := (.slice (some ⟨bk, ok, none⟩) nk ck)) rfl (by kernel_rfl) (by kernel_rfl) (by kernel_rfl) (fun _ _ _ h => h) (Or.inl ⟨by rfl, fun w' _ => by kernel_rfl⟩) hHeld ?_
  go_frame
  refine held_take (i := 1) (v := (.pointer (some ⟨bk, ok, none⟩))) rfl (by kernel_rfl) (by kernel_rfl) (by kernel_rfl) (fun _ _ _ h => h) (Or.inl ⟨by rfl, fun w' _ => by go_simp⟩) hHeld ?_
  go_frame
  refine held_take (i := 2) (v := (.int .u8 (bv x0))) rfl (by kernel_rfl) (by kernel_rfl) (by kernel_rfl) (fun _ _ _ h => h) (yieldsIf_load_one (by rfl) 5 (.tmp 58) rfl bk (ok) rfl _ _ (fun w' hw' => CK0'.out w' hw') Tryd.underlying5 rfl) hHeld ?_
  go_frame
  refine held_take (i := 3) (v := (.int .i64 (bv x0))) rfl (by kernel_rfl) (by kernel_rfl) (by kernel_rfl) (fun _ _ _ h => h) (Or.inl ⟨by rfl, fun w' _ => by go_simp⟩) hHeld ?_
  go_frame
  refine held_take (i := 4) (v := (.slice (some ⟨bk, ok, none⟩) nk ck)) rfl (by kernel_rfl) (by kernel_rfl) (by kernel_rfl) (fun _ _ _ h => h) (Or.inl ⟨by rfl, fun w' _ => by kernel_rfl⟩) hHeld ?_
  go_frame
  refine held_take (i := 5) (v := (.pointer (some ⟨bk, ok + 1, none⟩))) rfl (by kernel_rfl) (by kernel_rfl) (by kernel_rfl) (fun _ _ _ h => h) (Or.inl ⟨by rfl, fun w' _ => by go_simp⟩) hHeld ?_
  go_frame
  refine held_take (i := 6) (v := (.int .u8 (bv x1))) rfl (by kernel_rfl) (by kernel_rfl) (by kernel_rfl) (fun _ _ _ h => h) (yieldsIf_load_one (by rfl) 5 (.tmp 62) rfl bk (ok + 1) rfl _ _ (fun w' hw' => CK1'.out w' hw') Tryd.underlying5 rfl) hHeld ?_
  go_frame
  refine held_take (i := 7) (v := (.int .i64 (bv x1))) rfl (by kernel_rfl) (by kernel_rfl) (by kernel_rfl) (fun _ _ _ h => h) (Or.inl ⟨by rfl, fun w' _ => by go_simp⟩) hHeld ?_
  go_frame
  refine held_take (i := 8) (v := (.int .i64 (y1 : Int))) rfl (by kernel_rfl) (by kernel_rfl) (by kernel_rfl) (fun _ _ _ h => h) (Or.inl ⟨by rfl, fun w' _ => by go_simp⟩) hHeld ?_
  go_frame
  refine held_take (i := 9) (v := (.int .i64 (s1 : Int))) rfl (by kernel_rfl) (by kernel_rfl) (by kernel_rfl) (fun _ _ _ h => h) (Or.inl ⟨by rfl, fun w' _ => by go_simp⟩) hHeld ?_
  go_frame
  refine held_take (i := 10) (v := (.slice (some ⟨bk, ok, none⟩) nk ck)) rfl (by kernel_rfl) (by kernel_rfl) (by kernel_rfl) (fun _ _ _ h => h) (Or.inl ⟨by rfl, fun w' _ => by kernel_rfl⟩) hHeld ?_
  go_frame
  refine held_take (i := 11) (v := (.pointer (some ⟨bk, ok + 2, none⟩))) rfl (by kernel_rfl) (by kernel_rfl) (by kernel_rfl) (fun _ _ _ h => h) (Or.inl ⟨by rfl, fun w' _ => by go_simp⟩) hHeld ?_
  go_frame
  refine held_take (i := 12) (v := (.int .u8 (bv x2))) rfl (by kernel_rfl) (by kernel_rfl) (by kernel_rfl) (fun _ _ _ h => h) (yieldsIf_load_one (by rfl) 5 (.tmp 68) rfl bk (ok + 2) rfl _ _ (fun w' hw' => CK2'.out w' hw') Tryd.underlying5 rfl) hHeld ?_
  go_frame
  refine held_take (i := 13) (v := (.int .i64 (bv x2))) rfl (by kernel_rfl) (by kernel_rfl) (by kernel_rfl) (fun _ _ _ h => h) (Or.inl ⟨by rfl, fun w' _ => by go_simp⟩) hHeld ?_
  go_frame
  refine held_take (i := 14) (v := (.int .i64 (y2 : Int))) rfl (by kernel_rfl) (by kernel_rfl) (by kernel_rfl) (fun _ _ _ h => h) (Or.inl ⟨by rfl, fun w' _ => by go_simp⟩) hHeld ?_
  go_frame
  refine held_take (i := 15) (v := (.int .i64 (s2 : Int))) rfl (by kernel_rfl) (by kernel_rfl) (by kernel_rfl) (fun _ _ _ h => h) (Or.inl ⟨by rfl, fun w' _ => by go_simp⟩) hHeld ?_
  go_frame
  refine held_take (i := 16) (v := (.slice (some ⟨bk, ok, none⟩) nk ck)) rfl (by kernel_rfl) (by kernel_rfl) (by kernel_rfl) (fun _ _ _ h => h) (Or.inl ⟨by rfl, fun w' _ => by kernel_rfl⟩) hHeld ?_
  go_frame
  refine held_take (i := 17) (v := (.pointer (some ⟨bk, ok + 3, none⟩))) rfl (by kernel_rfl) (by kernel_rfl) (by kernel_rfl) (fun _ _ _ h => h) (Or.inl ⟨by rfl, fun w' _ => by go_simp⟩) hHeld ?_
  go_frame
  refine held_take (i := 18) (v := (.int .u8 (bv x3))) rfl (by kernel_rfl) (by kernel_rfl) (by kernel_rfl) (fun _ _ _ h => h) (yieldsIf_load_one (by rfl) 5 (.tmp 74) rfl bk (ok + 3) rfl _ _ (fun w' hw' => CK3'.out w' hw') Tryd.underlying5 rfl) hHeld ?_
  go_frame
  refine held_take (i := 19) (v := (.int .i64 (bv x3))) rfl (by kernel_rfl) (by kernel_rfl) (by kernel_rfl) (fun _ _ _ h => h) (Or.inl ⟨by rfl, fun w' _ => by go_simp⟩) hHeld ?_
  go_frame
  refine held_take (i := 20) (v := (.int .i64 (y3 : Int))) rfl (by kernel_rfl) (by kernel_rfl) (by kernel_rfl) (fun _ _ _ h => h) (Or.inl ⟨by rfl, fun w' _ => by go_simp⟩) hHeld ?_
  go_frame
  refine held_take (i := 21) (v := (.int .i64 (j : Int))) rfl (by kernel_rfl) (by kernel_rfl) (by kernel_rfl) (fun _ _ _ h => h) (Or.inl ⟨by rfl, fun w' _ => by go_simp⟩) hHeld ?_
  go_frame
  refine held_take (i := 22) (v := (.int .i64 (j : Int))) rfl (by kernel_rfl) (by kernel_rfl) (by kernel_rfl) (fun _ _ _ h => h) (Or.inl ⟨by rfl, fun w' _ => by kernel_rfl⟩) hHeld ?_
  go_frame
  refine wpAnyH_done (by kernel_rfl) ?_ _
  have BW := Lib.hid hHeld
  clear hHeld k0 k1 k2 k3 v0 v1 v2 v3 sh1 sh2 sh3 or1 or2 or3
  go_wp2_with fail
  obtain ⟨w6, rfl⟩ : ∃ w6 : World, w6 = wd := ⟨_, rfl⟩
  have N6 := Lib.hid (N5.out.trans (BW.out.mono N5.out.size))
  have B6 := Lib.hid (B5.out.trans (BW.out.mono B5.out.size))
  have HN4 := NK4
  obtain ⟨kc, hkc⟩ : ∃ kc, kc = sliced (some ⟨bk, ok, none⟩) 4 nk ck 1 := ⟨_, rfl⟩
  have SK : Hid (SrcB w6 kc ex) := by
    have h := src_tail (SKEY.out.below N6.out) 4 NK4.out
    rw [← hkc] at h
    exact h
  have HKC := Lib.hid hkc
  have SX := Lib.hid (SE.out.below B6.out)
  have LX : Hid (ex.length ≤ 70368744177680) := by show _ ≤ _; have := HX70.out; omega
  have BX2 : Hid (∀ W, Below w6.heap.size w6 W → W.cell? ⟨g6, 2, none⟩ = some (.slice (some ⟨b2, o2, none⟩) 1 co)) := fun W hW => (BX.out _ _ (row_below (row_below F6.out BW.out) hW)).2
  have CV := Lib.hid (fun W hW => CV.out W (N6.out.trans (Below.mono hW N6.out.size)))
  have F6 := Lib.hid (row_below F6.out BW.out)
  have F7 := Lib.hid (row_below F7.out BW.out)
  have TA6 : Hid (∀ W, Below w6.heap.size w6 W → TxAt W (.agg ct.toArray) (firstT j 9 h3M ex)) := fun W hW => (TA3.out.below N6.out).below hW
  have SB6 := Lib.hid (SB5.out.below BW.out)
  have HK6 := Lib.hid (HK.out.below B6.out)
  have CK : Hid (∀ W, Below w6.heap.size w6 W → Calls Tryd.prog 16 #[.agg cs.toArray] W fun e w' => e = .returned .nilIface ∧ Below W.heap.size W w') := fun W hW => by
    refine (blcheck_any E startX _ W (SB6.out.below hW) startX_small (HK6.out.below hW) ((HE.out.below B6.out).below hW)).mono ?_
    rintro e w' ⟨u, rfl, hf, hb⟩
    rw [start_fine] at hf
    rcases hf with ⟨_, rfl⟩ | ⟨q, p, g, h, _⟩
    · exact ⟨rfl, hb⟩
    · cases h
  obtain ⟨di, hdi⟩ : ∃ di, di = hdId startX.head := ⟨_, rfl⟩
  have LDI : Hid (di.length = 32) := by show _ = _; rw [hdi]; exact hdId_length _
  have ID1 : Hid (∀ W, Below w6.heap.size w6 W → Calls Tryd.prog 24 #[.agg cs.toArray] W fun e w' => e = .returned (.agg (di.map bV).toArray) ∧ Below W.heap.size W w') := fun W hW => by
    rw [hdi]
    exact blid_any startX _ W (SB6.out.below hW) (HK6.out.below hW)
  have HDI : Hid (hdId startX.head = di) := hdi.symm
  have CT : Hid (∀ W, Below w6.heap.size w6 W → W.cell? ⟨g7, 65, none⟩ = some (.int .u32 1000)) := fun W hW => (BX7.out _ _ (row_below F7.out hW)).2
  obtain ⟨sz, hsz⟩ : ∃ sz, sz = (blkB startX).length := ⟨_, rfl⟩
  have SZ : Hid (∀ W, Below w6.heap.size w6 W → Calls Tryd.prog 25 #[.agg cs.toArray] W fun e w' => e = .returned (.int .i64 (sz : Int)) ∧ Below W.heap.size W w') := fun W hW => by
    rw [hsz]
    exact blsize_any startX _ W (SB6.out.below hW) startX_small
  have BY : Hid (∀ W, Below w6.heap.size w6 W → Calls Tryd.prog 26 #[.agg cs.toArray] W fun e w' => ∃ sq cq, e = .returned (.slice sq sz cq) ∧ Below W.heap.size W w') := fun W hW => by
    refine (blbytes_any startX _ W (SB6.out.below hW) startX_small).mono ?_
    rintro e w' ⟨v', rfl, hc⟩
    obtain ⟨sq, nq, cq, rfl, hn, _⟩ := hc.src.shape'
    exact ⟨sq, cq, by rw [hsz, hn], hc.2⟩
  clear hkc hdi hsz SKEY CKV
  refine wp_region_held_drew (S := (fun w' => Below w6.heap.size w6 w')) (by kernel_rfl) (Below.drew (Below.refl _ _)) (fun hHeld => ?_)
  generalize hwd : w6.drew = wd at  hHeld ⊢
  clear hwd
  refine held_take (i := 0) (v := (.bool true)) rfl (by kernel_rfl) (by kernel_rfl) (by kernel_rfl) (fun _ _ _ h => h) (Or.inl ⟨by rfl, fun w' _ => by kernel_rfl⟩) hHeld ?_
  go_frame
  refine held_take (i := 1) (v := (.bool true)) rfl (by kernel_rfl) (by kernel_rfl) (by kernel_rfl) (fun _ _ _ h => h) (Or.inl ⟨by rfl, fun w' _ => by kernel_rfl⟩) hHeld ?_
  go_frame
  refine held_take (i := 2) (v := (.int .i64 (j : Int))) rfl (by kernel_rfl) (by kernel_rfl) (by kernel_rfl) (fun _ _ _ h => h) (Or.inl ⟨by rfl, fun w' _ => by kernel_rfl⟩) hHeld ?_
  go_frame
  refine held_take (i := 3) (v := (.int .i64 (j : Int))) rfl (by kernel_rfl) (by kernel_rfl) (by kernel_rfl) (fun _ _ _ h => h) (Or.inl ⟨by rfl, fun w' _ => by kernel_rfl⟩) hHeld ?_
  go_frame
  refine held_take (i := 4) (v := (.bool true)) rfl (by kernel_rfl) (by kernel_rfl) (by kernel_rfl) (fun _ _ _ h => h) (Or.inl ⟨by rfl, fun w' _ => by go_simp⟩) hHeld ?_
  go_frame
  refine held_take (i := 5) (v := (.bool true)) rfl (by kernel_rfl) (by kernel_rfl) (by kernel_rfl) (fun _ _ _ h => h) (Or.inl ⟨by rfl, fun w' _ => by kernel_rfl⟩) hHeld ?_
  go_frame
  refine held_take (i := 6) (v := (.bool true)) rfl (by kernel_rfl) (by kernel_rfl) (by kernel_rfl) (fun _ _ _ h => h) (Or.inl ⟨by rfl, fun w' _ => by kernel_rfl⟩) hHeld ?_
  go_frame
  refine held_take (i := 7) (v := (.slice (some ⟨bk, ok, none⟩) nk ck)) rfl (by kernel_rfl) (by kernel_rfl) (by kernel_rfl) (fun _ _ _ h => h) (Or.inl ⟨by rfl, fun w' _ => by kernel_rfl⟩) hHeld ?_
  go_frame
  refine held_take (i := 8) (v := kc) rfl (by kernel_rfl) (by kernel_rfl) (by kernel_rfl) (fun _ _ _ h => h) (yields_cutS_l (by rfl) 25 (.tmp 86) (.const (.int .i64 4)) rfl 5 1 Tryd.underlying25 (by kernel_rfl) (some ⟨bk, ok, none⟩) nk ck 4 kc rfl rfl HN4.out HKC.out) hHeld ?_
  go_frame
  refine held_take (i := 9) (v := (.slice se ne ce)) rfl (by kernel_rfl) (by kernel_rfl) (by kernel_rfl) (fun _ _ _ h => h) (Or.inl ⟨by rfl, fun w' _ => by kernel_rfl⟩) hHeld ?_
  go_frame
  refine wpAnyH_ready (rs := [10]) (by kernel_rfl) (by simp) (held_cons rfl (fun K hK => ?_) AllReadyH.nil)
  rw [if_pos (by rfl)]
  go_simp
  refine (same_bytes_t ex _ _ _ (SK.out.below hHeld) (SX.out.below hHeld) LX.out).mono ?_
  rintro e v1 ⟨rfl, bb⟩
  have hv1 := hHeld.trans (bb.mono hHeld.size)
  clear bb hHeld
  go_wp2_with fail
  refine hK.out _ _ hv1 (fun hHeld => ?_)
  clear hK K hv1
  refine held_take (i := 11) (v := (.bool true)) rfl (by kernel_rfl) (by kernel_rfl) (by kernel_rfl) (fun _ _ _ h => h) (Or.inl ⟨by rfl, fun w' _ => by kernel_rfl⟩) hHeld ?_
  go_frame
  refine held_take (i := 12) (v := (.bool true)) rfl (by kernel_rfl) (by kernel_rfl) (by kernel_rfl) (fun _ _ _ h => h) (Or.inl ⟨by rfl, fun w' _ => by kernel_rfl⟩) hHeld ?_
  go_frame
  refine held_take (i := 13) (v := (.pointer (some ⟨g6, 2, none⟩))) rfl (by kernel_rfl) (by kernel_rfl) (by kernel_rfl) (fun _ _ _ h => h) (Or.inl ⟨by rfl, fun w' _ => by kernel_rfl⟩) hHeld ?_
  go_frame
  refine held_take (i := 14) (v := (.slice (some ⟨b2, o2, none⟩) 1 co)) rfl (by kernel_rfl) (by kernel_rfl) (by kernel_rfl) (fun _ _ _ h => h) (yieldsIf_load_one (by rfl) 30 (.tmp 92) rfl g6 (2) rfl _ _ (fun w' hw' => BX2.out w' hw') Tryd.underlying30 rfl) hHeld ?_
  go_frame
  refine held_take (i := 15) (v := (.pointer (some ⟨b2, o2, none⟩))) rfl (by kernel_rfl) (by kernel_rfl) (by kernel_rfl) (fun _ _ _ h => h) (Or.inl ⟨by rfl, fun w' _ => by go_simp⟩) hHeld ?_
  go_frame
  refine held_take (i := 16) (v := (.pointer (some ⟨b2, o2, none⟩))) rfl (by kernel_rfl) (by kernel_rfl) (by kernel_rfl) (fun _ _ _ h => h) (Or.inl ⟨by rfl, fun w' _ => by go_simp⟩) hHeld ?_
  go_frame
  refine held_take (i := 17) (v := (.int .u64 9)) rfl (by kernel_rfl) (by kernel_rfl) (by kernel_rfl) (fun _ _ _ h => h) (yieldsIf_load_one (by rfl) 22 (.tmp 95) rfl b2 (o2) rfl _ _ (fun w' hw' => CV.out w' hw') Tryd.underlying22 rfl) hHeld ?_
  go_frame
  refine held_take (i := 18) (v := (.bool true)) rfl (by kernel_rfl) (by kernel_rfl) (by kernel_rfl) (fun _ _ _ h => h) (Or.inl ⟨by rfl, fun w' _ => by go_simp⟩) hHeld ?_
  go_frame
  refine held_take (i := 19) (v := (.bool true)) rfl (by kernel_rfl) (by kernel_rfl) (by kernel_rfl) (fun _ _ _ h => h) (Or.inl ⟨by rfl, fun w' _ => by kernel_rfl⟩) hHeld ?_
  go_frame
  refine held_take (i := 20) (v := (.bool true)) rfl (by kernel_rfl) (by kernel_rfl) (by kernel_rfl) (fun _ _ _ h => h) (Or.inl ⟨by rfl, fun w' _ => by kernel_rfl⟩) hHeld ?_
  go_frame
  refine held_take (i := 21) (v := (.agg ct.toArray)) rfl (by kernel_rfl) (by kernel_rfl) (by kernel_rfl) (fun _ _ _ h => h) (yieldsIf_load_row (by rfl) 32 (.tmp 6) rfl g6 rfl 32 ct.toArray (0, 0) _ (fun w' hw' => row_below F6.out hw') Tryd.underlying32 rfl (by rw [LC'.out]; kernel_rfl)) hHeld ?_
  go_frame
  refine wpAnyH_ready (rs := [22]) (by kernel_rfl) (by simp) (held_cons rfl (fun K hK => ?_) AllReadyH.nil)
  rw [if_pos (by rfl)]
  go_simp
  refine (rbase_any _ _ _ (TA6.out _ hHeld) true (firstT_base _ _ _ _).symm).mono ?_
  rintro e v2 ⟨rfl, bb⟩
  have hv2 := hHeld.trans (bb.mono hHeld.size)
  clear bb hHeld
  go_wp2_with fail
  refine hK.out _ _ hv2 (fun hHeld => ?_)
  clear hK K hv2
  refine held_take (i := 23) (v := (.bool true)) rfl (by kernel_rfl) (by kernel_rfl) (by kernel_rfl) (fun _ _ _ h => h) (Or.inl ⟨by rfl, fun w' _ => by kernel_rfl⟩) hHeld ?_
  go_frame
  refine held_take (i := 24) (v := (.bool true)) rfl (by kernel_rfl) (by kernel_rfl) (by kernel_rfl) (fun _ _ _ h => h) (Or.inl ⟨by rfl, fun w' _ => by kernel_rfl⟩) hHeld ?_
  go_frame
  refine held_take (i := 25) (v := (.agg cs.toArray)) rfl (by kernel_rfl) (by kernel_rfl) (by kernel_rfl) (fun _ _ _ h => h) (yieldsIf_load_row (by rfl) 39 (.tmp 7) rfl g7 rfl 39 cs.toArray (0, 0) _ (fun w' hw' => row_below F7.out hw') Tryd.underlying39 rfl (by rw [LS.out]; kernel_rfl)) hHeld ?_
  go_frame
  refine wpAnyH_ready (rs := [26]) (by kernel_rfl) (by simp) (held_cons rfl (fun K hK => ?_) AllReadyH.nil)
  rw [if_pos (by rfl)]
  go_simp
  refine (CK.out _ hHeld).mono ?_
  rintro e v3 ⟨rfl, bb⟩
  have hv3 := hHeld.trans (bb.mono hHeld.size)
  clear bb hHeld
  go_wp2_with fail
  refine hK.out _ _ hv3 (fun hHeld => ?_)
  clear hK K hv3
  refine held_take (i := 27) (v := (.bool true)) rfl (by kernel_rfl) (by kernel_rfl) (by kernel_rfl) (fun _ _ _ h => h) (Or.inl ⟨by rfl, fun w' _ => by kernel_rfl⟩) hHeld ?_
  go_frame
  refine held_take (i := 28) (v := (.bool true)) rfl (by kernel_rfl) (by kernel_rfl) (by kernel_rfl) (fun _ _ _ h => h) (Or.inl ⟨by rfl, fun w' _ => by kernel_rfl⟩) hHeld ?_
  go_frame
  refine held_take (i := 29) (v := (.bool true)) rfl (by kernel_rfl) (by kernel_rfl) (by kernel_rfl) (fun _ _ _ h => h) (Or.inl ⟨by rfl, fun w' _ => by kernel_rfl⟩) hHeld ?_
  go_frame
  refine held_take (i := 30) (v := (.agg cs.toArray)) rfl (by kernel_rfl) (by kernel_rfl) (by kernel_rfl) (fun _ _ _ h => h) (yieldsIf_load_row (by rfl) 39 (.tmp 7) rfl g7 rfl 39 cs.toArray (0, 0) _ (fun w' hw' => row_below F7.out hw') Tryd.underlying39 rfl (by rw [LS.out]; kernel_rfl)) hHeld ?_
  go_frame
  refine wpAnyH_ready (rs := [31]) (by kernel_rfl) (by simp) (held_cons rfl (fun K hK => ?_) AllReadyH.nil)
  rw [if_pos (by rfl)]
  go_simp
  refine (ID1.out _ hHeld).mono ?_
  rintro e v4 ⟨rfl, bb⟩
  have hv4 := hHeld.trans (bb.mono hHeld.size)
  clear bb hHeld
  go_wp2_with fail
  refine hK.out _ _ hv4 (fun hHeld => ?_)
  clear hK K hv4
  refine wpAnyH_ready (rs := [32]) (by kernel_rfl) (by simp) (held_cons rfl (fun K hK => ?_) AllReadyH.nil)
  rw [if_pos (by rfl)]
  go_simp
  refine (blstart_any _ (HK6.out.below hHeld)).mono ?_
  rintro e v5 ⟨v8, rfl, t8, bb⟩
  have SA := Lib.hid t8
  clear t8
  have hv5 := hHeld.trans (bb.mono hHeld.size)
  clear bb hHeld
  go_wp2_with fail
  refine hK.out _ _ hv5 (fun hHeld => ?_)
  clear hK K hv5
  refine wpAnyH_ready (rs := [33]) (by kernel_rfl) (by simp) (held_cons rfl (fun K hK => ?_) AllReadyH.nil)
  rw [if_pos (by rfl)]
  go_simp
  refine (blid_any startX v8 _ SA.out (HK6.out.below hHeld)).mono ?_
  rintro e v6 ⟨rfl, bb⟩
  rw [HDI.out]
  have SA := Lib.hid (SA.out.below bb)
  have hv6 := hHeld.trans (bb.mono hHeld.size)
  clear bb hHeld
  go_wp2_with fail
  refine hK.out _ _ hv6 (fun hHeld => ?_)
  clear hK K hv6
  refine wpAnyH_ready (rs := [34]) (by kernel_rfl) (by simp) (held_cons rfl (fun K hK => ?_) AllReadyH.nil)
  rw [if_pos (by rfl)]
  go_simp
  refine (same_v di di true LDI.out LDI.out (by simp) _).mono ?_
  rintro e v7 ⟨rfl, bb⟩
  have SA := Lib.hid (SA.out.below bb)
  have hv7 := hHeld.trans (bb.mono hHeld.size)
  clear bb hHeld
  go_wp2_with fail
  refine hK.out _ _ hv7 (fun hHeld => ?_)
  clear hK K hv7
  refine held_take (i := 35) (v := (.bool true)) rfl (by kernel_rfl) (by kernel_rfl) (by kernel_rfl) (fun _ _ _ h => h) (Or.inl ⟨by rfl, fun w' _ => by kernel_rfl⟩) hHeld ?_
  go_frame
  refine held_take (i := 36) (v := (.bool true)) rfl (by kernel_rfl) (by kernel_rfl) (by kernel_rfl) (fun _ _ _ h => h) (Or.inl ⟨by rfl, fun w' _ => by kernel_rfl⟩) hHeld ?_
  go_frame
  refine held_take (i := 37) (v := (.pointer (some ⟨g7, 0, none⟩))) rfl (by kernel_rfl) (by kernel_rfl) (by kernel_rfl) (fun _ _ _ h => h) (Or.inl ⟨by rfl, fun w' _ => by kernel_rfl⟩) hHeld ?_
  go_frame
  refine held_take (i := 38) (v := (.pointer (some ⟨g7, 65, none⟩))) rfl (by kernel_rfl) (by kernel_rfl) (by kernel_rfl) (fun _ _ _ h => h) (Or.inl ⟨by rfl, fun w' _ => by kernel_rfl⟩) hHeld ?_
  go_frame
  refine held_take (i := 39) (v := (.int .u32 1000)) rfl (by kernel_rfl) (by kernel_rfl) (by kernel_rfl) (fun _ _ _ h => h) (yieldsIf_load_one (by rfl) 28 (.tmp 117) rfl g7 (65) rfl _ _ (fun w' hw' => CT.out w' hw') Tryd.underlying28 rfl) hHeld ?_
  go_frame
  refine held_take (i := 40) (v := (.bool true)) rfl (by kernel_rfl) (by kernel_rfl) (by kernel_rfl) (fun _ _ _ h => h) (Or.inl ⟨by rfl, fun w' _ => by go_simp⟩) hHeld ?_
  go_frame
  refine held_take (i := 41) (v := (.bool true)) rfl (by kernel_rfl) (by kernel_rfl) (by kernel_rfl) (fun _ _ _ h => h) (Or.inl ⟨by rfl, fun w' _ => by kernel_rfl⟩) hHeld ?_
  go_frame
  refine held_take (i := 42) (v := (.bool true)) rfl (by kernel_rfl) (by kernel_rfl) (by kernel_rfl) (fun _ _ _ h => h) (Or.inl ⟨by rfl, fun w' _ => by kernel_rfl⟩) hHeld ?_
  go_frame
  refine held_take (i := 43) (v := (.agg cs.toArray)) rfl (by kernel_rfl) (by kernel_rfl) (by kernel_rfl) (fun _ _ _ h => h) (yieldsIf_load_row (by rfl) 39 (.tmp 7) rfl g7 rfl 39 cs.toArray (0, 0) _ (fun w' hw' => row_below F7.out hw') Tryd.underlying39 rfl (by rw [LS.out]; kernel_rfl)) hHeld ?_
  go_frame
  refine held_take (i := 45) (v := (.agg cs.toArray)) rfl (by kernel_rfl) (by kernel_rfl) (by kernel_rfl) (fun _ _ _ h => h) (yieldsIf_load_row (by rfl) 39 (.tmp 7) rfl g7 rfl 39 cs.toArray (0, 0) _ (fun w' hw' => row_below F7.out hw') Tryd.underlying39 rfl (by rw [LS.out]; kernel_rfl)) hHeld ?_
  go_frame
  refine wpAnyH_ready (rs := [44]) (by kernel_rfl) (by simp) (held_cons rfl (fun K hK => ?_) AllReadyH.nil)
  rw [if_pos (by rfl)]
  go_simp
  refine (SZ.out _ hHeld).mono ?_
  rintro e v8 ⟨rfl, bb⟩
  have SA := Lib.hid (SA.out.below bb)
  have hv8 := hHeld.trans (bb.mono hHeld.size)
  clear bb hHeld
  go_wp2_with fail
  refine hK.out _ _ hv8 (fun hHeld => ?_)
  clear hK K hv8
  refine wpAnyH_ready (rs := [46]) (by kernel_rfl) (by simp) (held_cons rfl (fun K hK => ?_) AllReadyH.nil)
  rw [if_pos (by rfl)]
  go_simp
  refine (BY.out _ hHeld).mono ?_
  rintro e v9 ⟨sq, cq, rfl, bb⟩
  have SA := Lib.hid (SA.out.below bb)
  have hv9 := hHeld.trans (bb.mono hHeld.size)
  clear bb hHeld
  go_wp2_with fail
  refine hK.out _ _ hv9 (fun hHeld => ?_)
  clear hK K hv9
  refine held_take (i := 47) (v := (.int .i64 (sz : Int))) rfl (by kernel_rfl) (by kernel_rfl) (by kernel_rfl) (fun _ _ _ h => h) (Or.inl ⟨by rfl, fun w' _ => by kernel_rfl⟩) hHeld ?_
  go_frame
  refine held_take (i := 48) (v := (.bool true)) rfl (by kernel_rfl) (by kernel_rfl) (by kernel_rfl) (fun _ _ _ h => h) (Or.inl ⟨by rfl, fun w' _ => by go_simp⟩) hHeld ?_
  go_frame
  refine held_take (i := 49) (v := (.bool true)) rfl (by kernel_rfl) (by kernel_rfl) (by kernel_rfl) (fun _ _ _ h => h) (Or.inl ⟨by rfl, fun w' _ => by kernel_rfl⟩) hHeld ?_
  go_frame
  refine held_take (i := 50) (v := (.bool true)) rfl (by kernel_rfl) (by kernel_rfl) (by kernel_rfl) (fun _ _ _ h => h) (Or.inl ⟨by rfl, fun w' _ => by kernel_rfl⟩) hHeld ?_
  go_frame
  refine wpAnyH_done (by kernel_rfl) ?_ _
  have BZ := Lib.hid (B6.out.trans (hHeld.mono B6.out.size))
  clear hHeld
  go_wp2_with fail
  go_ret
  exact ⟨rfl, BZ.out⟩
end Go.Proofs.YtdamhoagiooicaaDoor.Sha

/-
  What a row that lists 25 errors of package api gives: each is there, each its own; a start that fits. No conditions.
-/
namespace Go.Proofs.YtdamhoagiooicaaDoor.Sha
open Go Go.ChangeShapes Go.WideShapes Go.ChangeAt Go.RowKit
/-- The listed errors: name, place, text. -/
def errBlaList : List (String × Nat × List UInt8) := [("sargasso/api.ErrEnd", 8, [105, 116, 32, 101, 110, 100, 115, 32, 116, 111, 111, 32, 101, 97, 114, 108, 121]), ("sargasso/api.ErrShape", 9, [110, 111, 116, 32, 97, 115, 32, 105, 116, 32, 104, 97, 115, 32, 116, 111, 32, 98, 101]), ("sargasso/api.ErrLong", 1, [116, 111, 111, 32, 108, 111, 110, 103]), ("sargasso/api.ErrMany", 0, [116, 111, 111, 32, 109, 97, 110, 121, 44, 32, 111, 114, 32, 116, 111, 111, 32, 102, 101, 119]), ("sargasso/api.ErrValue", 7, [97, 110, 32, 97, 109, 111, 117, 110, 116, 32, 116, 104, 97, 116, 32, 99, 97, 110, 39, 116, 32, 98, 101]), ("sargasso/api.ErrTwice", 2, [111, 110, 101, 32, 116, 104, 105, 110, 103, 32, 116, 119, 105, 99, 101]), ("sargasso/api.ErrBase", 5, [110, 111, 32, 102, 105, 114, 115, 116, 32, 116, 114, 97, 110, 115, 97, 99, 116, 105, 111, 110, 32, 119, 104, 101, 114, 101, 32, 116, 104, 101, 114, 101, 32, 104, 97, 115, 32, 116, 111, 32, 98, 101, 32, 111, 110, 101, 44, 32, 111, 114, 32, 111, 110, 101, 32, 119, 104, 101, 114, 101, 32, 116, 104, 101, 114, 101, 32, 109, 97, 121, 32, 98, 101, 32, 110, 111, 110, 101]), ("sargasso/api.ErrRoot", 3, [97, 32, 114, 111, 111, 116, 32, 116, 104, 97, 116, 32, 100, 111, 101, 115, 32, 110, 111, 116, 32, 102, 105, 116]), ("sargasso/api.ErrKnown", 10, [107, 110, 111, 119, 110, 32, 97, 108, 114, 101, 97, 100, 121]), ("sargasso/api.ErrParent", 11, [110, 111, 32, 115, 117, 99, 104, 32, 112, 97, 114, 101, 110, 116]), ("sargasso/api.ErrInvalid", 12, [98, 101, 104, 105, 110, 100, 32, 119, 104, 97, 116, 32, 105, 115, 32, 110, 111, 116, 32, 118, 97, 108, 105, 100]), ("sargasso/api.ErrTime", 13, [97, 32, 116, 105, 109, 101, 32, 116, 104, 97, 116, 32, 105, 115, 32, 116, 111, 111, 32, 101, 97, 114, 108, 121]), ("sargasso/api.ErrMissing", 14, [97, 32, 99, 111, 105, 110, 32, 116, 104, 97, 116, 32, 105, 115, 32, 110, 111, 116, 32, 116, 104, 101, 114, 101]), ("sargasso/api.ErrKey", 6, [97, 32, 107, 101, 121, 32, 116, 104, 97, 116, 32, 100, 111, 101, 115, 32, 110, 111, 116, 32, 102, 105, 116]), ("sargasso/api.ErrYoung", 15, [97, 32, 99, 111, 105, 110, 32, 116, 104, 97, 116, 32, 105, 115, 32, 116, 111, 111, 32, 121, 111, 117, 110, 103]), ("sargasso/api.ErrEarly", 16, [116, 111, 111, 32, 101, 97, 114, 108, 121, 32, 116, 111, 32, 98, 101, 32, 116, 97, 107, 101, 110]), ("sargasso/api.ErrLess", 17, [108, 101, 115, 115, 32, 99, 111, 109, 101, 115, 32, 105, 110, 32, 116, 104, 97, 110, 32, 103, 111, 101, 115, 32, 111, 117, 116]), ("sargasso/api.ErrReward", 18, [109, 111, 114, 101, 32, 116, 104, 97, 110, 32, 116, 104, 101, 32, 114, 101, 119, 97, 114, 100]), ("sargasso/api.ErrClash", 19, [97, 32, 99, 111, 105, 110, 32, 116, 104, 97, 116, 32, 105, 115, 32, 115, 112, 101, 110, 116, 32, 105, 110, 32, 116, 104, 101, 32, 112, 111, 111, 108]), ("sargasso/api.ErrLimit", 20, [116, 111, 111, 32, 109, 97, 110, 121, 32, 116, 104, 97, 116, 32, 104, 97, 110, 103, 32, 116, 111, 103, 101, 116, 104, 101, 114]), ("sargasso/api.ErrFull", 21, [116, 104, 101, 114, 101, 32, 105, 115, 32, 110, 111, 32, 114, 111, 111, 109]), ("sargasso/api.ErrRange", 4, [97, 32, 110, 117, 109, 98, 101, 114, 32, 111, 117, 116, 32, 111, 102, 32, 105, 116, 115, 32, 114, 97, 110, 103, 101]), ("sargasso/api.ErrNone", 22, [116, 104, 101, 114, 101, 32, 105, 115, 32, 110, 111, 110, 101]), ("sargasso/api.ErrWord", 23, [110, 111, 32, 115, 117, 99, 104, 32, 119, 111, 114, 100]), ("sargasso/api.ErrNumber", 24, [110, 111, 116, 32, 97, 32, 110, 117, 109, 98, 101, 114])]
def errBlaRow (x : String × Nat × List UInt8) : String × DataW Unit := (x.1, .iface "*errors.errorString" (.ptr (.agg [.lit (.string x.2.2)])))
theorem errBla_laid : Rows.blockRootsRow.laid = errBlaList.map errBlaRow ++ [("sargasso/digest.roundWords", Rows.laid_sargasso_digest_roundWords)] := rfl
theorem errBla_globals : (errBlaList.all fun x => decide (Tryd.prog.globalNamed x.1 = some x.2.1) && decide ((Tryd.prog.globals[x.2.1]?).map (·.type) = some 51)) = true := by kernel_rfl
theorem errBla_star : "*" ++ "errors.errorString" = "*errors.errorString" := by decide
theorem errBla_ptr (u : TypeId) (h : Tryd.prog.typeName? 3 u = some "*errors.errorString") : u = 145 :=
  typeName_ptr_named (nm := "errors.errorString") (by rw [errBla_star]; kernel_rfl) (by kernel_rfl) (by decide) u (by rw [errBla_star]; exact h)
theorem errBla_cells : Tryd.prog.cellsOf 163 = 1 := by kernel_rfl
theorem errBla_cellsStr : Tryd.prog.cellsOf 9 = 1 := by kernel_rfl
def errBlaIs (W : World) (x : String × Nat × List UInt8) (a : Addr) : Prop :=
  W.cell? ⟨x.2.1, 0, none⟩ = some (.iface 145 (.pointer (some a))) ∧ (∃ s, W.cell? a = some (.string s) ∧ s.data.toList = x.2.2) ∧ ∃ c t, W.heap[a.block]? = some (.cells c t (0, 0))
set_option maxRecDepth 100000 in
theorem errBla_head {W : World} {x : String × Nat × List UInt8} {r : List (String × DataW Unit)} (hg : Tryd.prog.globalNamed x.1 = some x.2.1) (ht : (Tryd.prog.globals[x.2.1]?).map (·.type) = some 51) (h : laidMet Tryd.prog (errBlaRow x :: r) W) : ∃ a, errBlaIs W x a := by
  obtain ⟨a, s, h1, h2, h3, _⟩ := laid_sentinel h hg ht Tryd.underlying51 errBla_ptr Tryd.underlying145 Tryd.underlying163 rfl rfl Tryd.underlying9 errBla_cells errBla_cellsStr
  refine ⟨a, by simpa using World.var?_cell hg h1 0, ⟨s, h2, h3⟩, ?_⟩
  obtain ⟨ps, ⟨g0, t0, cs0, f0, p0, q0, hg0, ht0, hv0, hd0, _, e0⟩, _, hrows⟩ := h
  obtain rfl := Option.some.inj (hg.symm.trans hg0)
  obtain rfl := Option.some.inj (ht.symm.trans ht0)
  subst e0
  obtain ⟨l0⟩ := cs0
  have ok0 : ∀ u v, l0 = [.iface u v] → Value.okWide Tryd.prog W .any 0 u v := fun u v e => by
    subst e
    exact (hrows x.2.1 0 (by simp [MemPlace.row])).2 u v (by simpa using World.var?_cell hg hv0 0)
  obtain ⟨a0, s0, rfl, hc0, hs0, hz0, rfl⟩ := errorString_of_trod Tryd.underlying51 errBla_ptr Tryd.underlying145 Tryd.underlying163 rfl rfl Tryd.underlying9 errBla_cells errBla_cellsStr hd0 ok0
  have ea : a0 = a := by
    have := h1.symm.trans hv0
    simp at this
    exact this.symm
  rw [← ea]
  exact (hrows a0.block a0.off (by simp [MemPlace.row])).1
theorem errBla_all {W : World} (rest : List (String × DataW Unit)) : ∀ l : List (String × Nat × List UInt8), (∀ x ∈ l, Tryd.prog.globalNamed x.1 = some x.2.1 ∧ (Tryd.prog.globals[x.2.1]?).map (·.type) = some 51) → laidMet Tryd.prog (l.map errBlaRow ++ rest) W → (∃ E : Nat → Addr, ∀ i x, l[i]? = some x → errBlaIs W x (E i)) ∧ laidMet Tryd.prog rest W
  | [], _, h => ⟨⟨fun _ => ⟨0, 0, none⟩, fun i x h => by simp at h⟩, h⟩
  | x :: l, hg, h => by
    obtain ⟨⟨E, hE⟩, hrest⟩ := errBla_all rest l (fun y hy => hg y (List.mem_cons_of_mem _ hy)) (laidMet.tail h)
    obtain ⟨a, ha⟩ := errBla_head (hg x List.mem_cons_self).1 (hg x List.mem_cons_self).2 h
    refine ⟨⟨fun i => match i with | 0 => a | k + 1 => E k, fun i y hy => ?_⟩, hrest⟩
    cases i with
    | zero => simp at hy; subst hy; exact ha
    | succ k => exact hE k y (by simpa using hy)
theorem errBla_inj : ∀ i j : Fin 25, (errBlaList.map (·.2.2)).getD i.val [] = (errBlaList.map (·.2.2)).getD j.val [] → i = j := by decide +kernel
set_option maxRecDepth 100000 in
theorem errBla_errs {W : World} (h : laidMetH Tryd.prog Rows.blockRootsRow.laid W) : (∃ E, Errs W E) ∧ KTab W := by
  have h' : laidMet Tryd.prog (errBlaList.map errBlaRow ++ [("sargasso/digest.roundWords", Rows.laid_sargasso_digest_roundWords)]) W := h
  obtain ⟨⟨E, hE⟩, hrest⟩ := errBla_all _ errBlaList (fun x hx => by
    have := List.all_eq_true.1 errBla_globals x hx
    simp only [Bool.and_eq_true, decide_eq_true_eq] at this
    exact this) h'
  have hl : errBlaList.length = 25 := rfl
  have get : ∀ i (hi : i < 25), errBlaIs W (errBlaList[i]'(by rw [hl]; exact hi)) (E i) := fun i hi => hE i _ (List.getElem?_eq_getElem (by rw [hl]; exact hi))
  refine ⟨⟨E, fun i hi => ?_, fun i j hi hj e => ?_⟩, table hrest⟩
  · obtain ⟨h1, _, h3⟩ := get i hi
    refine ⟨?_, h3⟩
    have eg : errG.getD i 0 = (errBlaList[i]'(by rw [hl]; exact hi)).2.1 := by
      have : errG = errBlaList.map (·.2.1) := rfl
      rw [this]
      simp [List.getD, List.getElem?_eq_getElem (show i < errBlaList.length by rw [hl]; exact hi)]
    rw [eg]
    exact h1
  · obtain ⟨_, ⟨s, hs, ht⟩, _⟩ := get i hi
    obtain ⟨_, ⟨s', hs', ht'⟩, _⟩ := get j hj
    rw [e] at hs
    have es := Option.some.inj (hs.symm.trans hs')
    simp at es
    rw [es] at ht
    have := errBla_inj ⟨i, hi⟩ ⟨j, hj⟩ (by
      simp only [List.getD, List.getElem?_map]
      rw [List.getElem?_eq_getElem (show i < errBlaList.length by rw [hl]; exact hi), List.getElem?_eq_getElem (show j < errBlaList.length by rw [hl]; exact hj)]
      exact ht.symm.trans ht')
    exact congrArg Fin.val this
/-- A WORLD FOR THE WITNESS: the settled one, each listed error as its initialiser lays it. -/
noncomputable def errBlaLow : Nat := (World.holding Tryd.prog default ⟨#[], #[], []⟩).heap.size
noncomputable def errBlaWorld (os : Os) : World :=
  let w0 := World.holding Tryd.prog os ⟨(errBlaList.map fun x => Obj.cells #[.string ⟨x.2.2.toArray⟩] 163).toArray, #[], []⟩
  { w0 with heap := (errBlaList.zipIdx).foldl (fun h x => h.modify x.1.2.1 fun
      | .cells _ t frozen => .cells #[.iface 145 (.pointer (some ⟨errBlaLow + x.2, 0, none⟩))] t frozen
      | o => o) (w0.heap.modify 25 fun
      | .cells _ t frozen => .cells (kList.map wV).toArray t frozen
      | o => o) }
end Go.Proofs.YtdamhoagiooicaaDoor.Sha

/-
  Rows of transactions of one's own: each element's inputs and outputs stand on blocks of an interval of its own. No conditions.
-/
namespace Go.Proofs.YtdamhoagiooicaaDoor.Sha
open Go Go.RowKit
/-- An element: the transaction, its two slices, the interval of blocks that these stand on. -/
structure ETx where
  t : TTx
  iv : Value
  ov : Value
  lo : Nat
  hi : Nat
def ETx.cells (e : ETx) : List Value := txL e.t e.iv e.ov
def esL (es : List ETx) : List Value := es.flatMap ETx.cells
theorem esL_snoc (es : List ETx) (e : ETx) : esL (es ++ [e]) = esL es ++ e.cells := by simp [esL]
theorem esL_length : ∀ es : List ETx, (esL es).length = es.length * 4
  | [] => rfl
  | e :: es => by
    have ih := esL_length es
    show (e.cells ++ esL es).length = _
    rw [List.length_append, ih, List.length_cons]
    show 4 + _ = _
    omega
theorem esL_get : ∀ (es : List ETx) (i : Nat) (e : ETx), es[i]? = some e → ∀ j, j < 4 → (esL es)[i * 4 + j]? = e.cells[j]?
  | z :: es, 0, e, h, j, hj => by
    simp only [List.getElem?_cons_zero, Option.some.injEq] at h
    subst h
    show (z.cells ++ esL es)[0 * 4 + j]? = _
    rw [Nat.zero_mul, Nat.zero_add, List.getElem?_append_left (show j < z.cells.length from hj)]
  | z :: es, i + 1, e, h, j, hj => by
    rw [List.getElem?_cons_succ] at h
    show (z.cells ++ esL es)[(i + 1) * 4 + j]? = _
    rw [List.getElem?_append_right (show z.cells.length ≤ _ by show 4 ≤ _; omega), show (i + 1) * 4 + j - z.cells.length = i * 4 + j by show _ - 4 = _; omega]
    exact esL_get es i e h j hj
theorem esL_set : ∀ (es : List ETx) (i j : Nat) (e e' : ETx) (u : Value), es[i]? = some e → j < 4 → e'.cells = e.cells.set j u → (esL es).set (i * 4 + j) u = esL (es.set i e')
  | z :: es, 0, j, e, e', u, h, hj, hc => by
    simp only [List.getElem?_cons_zero, Option.some.injEq] at h
    subst h
    show (z.cells ++ esL es).set (0 * 4 + j) u = e'.cells ++ esL es
    rw [Nat.zero_mul, Nat.zero_add, List.set_append_left (h := show j < z.cells.length from hj), hc]
  | z :: es, i + 1, j, e, e', u, h, hj, hc => by
    rw [List.getElem?_cons_succ] at h
    show (z.cells ++ esL es).set ((i + 1) * 4 + j) u = z.cells ++ esL (es.set i e')
    rw [List.set_append_right (h := show z.cells.length ≤ _ by show 4 ≤ _; omega), show (i + 1) * 4 + j - z.cells.length = i * 4 + j by show _ - 4 = _; omega, esL_set es i j e e' u h hj hc]
/-- An own row whose elements read so is a row of transactions. -/
theorem TxsAt.of_own {w : World} {base : Nat} {v : Value} {es : List ETx} (h : w.ownsRow base 32 4 v es.length (esL es)) (ho : ∀ e ∈ es, TxOk e.t ∧ InsAt w e.iv e.t.ins ∧ OutsAt w e.ov e.t.outs) : TxsAt w v (es.map (·.t)) := by
  rcases h.2 with ⟨rfl, hn⟩ | ⟨g, cap, cur, rfl, _, hg, hc, _, hs, hx⟩
  · obtain rfl : es = [] := List.eq_nil_of_length_eq_zero hn
    exact TxsAt.nil _ _ _
  · refine ⟨_, _, by rw [List.length_map], by rw [List.length_map]; exact hc, fun _ => ⟨g, 0, rfl, fun i t ht => ?_⟩⟩
    rw [List.getElem?_map] at ht
    obtain ⟨e, he, rfl⟩ := Option.map_eq_some_iff.1 ht
    obtain ⟨h1, h2, h3⟩ := ho e (List.mem_of_getElem? he)
    refine ⟨h1, e.iv, e.ov, fun j u hj => ?_, h2, h3⟩
    have hj4 : j < 4 := (List.getElem?_eq_some_iff.1 hj).1
    have hi : i < es.length := (List.getElem?_eq_some_iff.1 he).1
    rw [Nat.zero_add, cell_of_row _ _ _ _ _ _ hg, ← Array.getElem?_toList]
    have e1 := esL_get es i e he j hj4
    rw [← hx, List.getElem?_take_of_lt (by omega)] at e1
    rw [e1]
    exact hj
/-- The row's shape, its block. -/
theorem own_blk {w : World} {base n size : Nat} {e : TypeId} {v : Value} {xs : List Value} (h : w.ownsRow base e size v n xs) (h0 : 0 < n) : ∃ g cap, v = .slice (some ⟨g, 0, none⟩) n cap ∧ base ≤ g ∧ g < w.heap.size ∧ n ≤ cap := by
  rcases h.2 with ⟨_, hn⟩ | ⟨g, cap, cur, rfl, hb, hg, hc, _⟩
  · omega
  · exact ⟨g, cap, rfl, hb, (Array.getElem?_eq_some_iff.1 hg).1, hc⟩
theorem own_range {w : World} {base n g cap size : Nat} {e : TypeId} {xs : List Value} (h : w.ownsRow base e size (.slice (some ⟨g, 0, none⟩) n cap) n xs) : w.rangeAt g 0 xs := by
  rcases h.2 with ⟨hv, _⟩ | ⟨g', cap', cur, hv, _, hg, _, _, _, hx⟩
  · cases hv
  · cases hv
    intro j u hj
    rw [Nat.zero_add, cell_of_row _ _ _ _ _ _ hg, ← Array.getElem?_toList]
    rw [← hx] at hj
    have := (List.getElem?_eq_some_iff.1 hj).1
    rw [List.getElem?_take_of_lt (by rw [List.length_take] at this; omega)] at hj
    exact hj
structure RowT (P : ETx → World → Prop) (base : Nat) (w : World) (v : Value) (es : List ETx) : Prop where
  own : w.ownsRow base 32 4 v es.length (esL es)
  ok : ∀ e ∈ es, TxOk e.t ∧ e.hi ≤ w.heap.size ∧ Sty (fun k => e.lo ≤ k ∧ k < e.hi) w (P e)
  apart : es.Pairwise (fun a b => a.hi ≤ b.lo)
  out : ∀ q, v.ownBlock = some q → ∀ e ∈ es, q < e.lo ∨ e.hi ≤ q
section
variable {P : ETx → World → Prop} {base : Nat} {w w' : World} {v v' : Value} {es : List ETx}
theorem RowT.nil : RowT P base w (.slice none 0 0) [] := ⟨World.ownsRow_nil _ _ _ _, fun e he => absurd he (by simp), List.Pairwise.nil, fun q hq => by simp [Value.ownBlock] at hq⟩
theorem RowT.at (h : RowT P base w v es) (hP : ∀ e W, P e W → InsAt W e.iv e.t.ins ∧ OutsAt W e.ov e.t.outs) : TxsAt w v (es.map (·.t)) :=
  TxsAt.of_own h.own fun e he => ⟨(h.ok e he).1, hP e w (h.ok e he).2.2.now⟩
theorem RowT.far {q : Option Nat} (h : RowT P base w v es) (hg : w.grownBy w' q) (h1 : v.ownBlock = none ∨ v.ownBlock ≠ q) (h2 : ∀ k, q = some k → ∀ e ∈ es, k < e.lo ∨ e.hi ≤ k) : RowT P base w' v es :=
  ⟨h.own.kept hg h1, fun e he => ⟨(h.ok e he).1, Nat.le_trans (h.ok e he).2.1 hg.size, (h.ok e he).2.2.on (Kps.grown hg fun k _ hk e2 => by
    have := h2 k e2.symm e he
    omega)⟩, h.apart, h.out⟩
theorem RowT.keep (h : RowT P base w v es) (hb : Below w.heap.size w w') : RowT P base w' v es :=
  ⟨own_kept h.own hb, fun e he => ⟨(h.ok e he).1, Nat.le_trans (h.ok e he).2.1 hb.size, (h.ok e he).2.2.on (Kps.new hb)⟩, h.apart, h.out⟩
theorem RowT.push (h : RowT P base w v es) {e : ETx} (ht : TxOk e.t) (hh : e.hi ≤ w.heap.size) (hp : Sty (fun k => e.lo ≤ k ∧ k < e.hi) w (P e)) (ha : ∀ a ∈ es, a.hi ≤ e.lo) (ho : ∀ q, v.ownBlock = some q → q < e.lo ∨ e.hi ≤ q)
    (hown : w'.ownsRow base 32 4 v' (es.length + 1) (esL es ++ e.cells)) (hg : w.grownBy w' v.ownBlock) (hat : v'.ownBlock = v.ownBlock ∨ v'.ownBlock = some w.heap.size) : RowT P base w' v' (es ++ [e]) := by
  have hall : ∀ a ∈ es ++ [e], TxOk a.t ∧ a.hi ≤ w.heap.size ∧ Sty (fun k => a.lo ≤ k ∧ k < a.hi) w (P a) ∧ ∀ q, v.ownBlock = some q → q < a.lo ∨ a.hi ≤ q := fun a hm => by
    rcases List.mem_append.1 hm with hm | hm
    · exact ⟨(h.ok a hm).1, (h.ok a hm).2.1, (h.ok a hm).2.2, fun q hq => h.out q hq a hm⟩
    · rw [List.mem_singleton.1 hm]
      exact ⟨ht, hh, hp, ho⟩
  refine ⟨by rw [esL_snoc, List.length_append]; exact hown, fun a hm => ?_, ?_, fun q hq a hm => ?_⟩
  · obtain ⟨h1, h2, h3, h4⟩ := hall a hm
    exact ⟨h1, Nat.le_trans h2 hg.size, h3.on (Kps.grown hg fun k _ hk e2 => by have := h4 k e2.symm; omega)⟩
  · rw [List.pairwise_append]
    refine ⟨h.apart, List.pairwise_singleton _ _, fun a hm b hb => ?_⟩
    rw [List.mem_singleton.1 hb]
    exact ha a hm
  · obtain ⟨h1, h2, h3, h4⟩ := hall a hm
    rcases hat with h5 | h5
    · exact h4 q (by rw [← h5]; exact hq)
    · rw [h5] at hq
      have := Option.some.inj hq
      exact .inr (by omega)
/-- Of two elements neither's interval meets the other's. -/
theorem RowT.two (h : RowT P base w v es) {i j : Nat} {a b : ETx} (hi : es[i]? = some a) (hj : es[j]? = some b) (hne : i ≠ j) : a.hi ≤ b.lo ∨ b.hi ≤ a.lo := by
  have hp := List.pairwise_iff_getElem.1 h.apart
  obtain ⟨h1, rfl⟩ := List.getElem?_eq_some_iff.1 hi
  obtain ⟨h2, rfl⟩ := List.getElem?_eq_some_iff.1 hj
  rcases Nat.lt_or_gt_of_ne hne with h3 | h3
  · exact .inl (hp i j h1 h2 h3)
  · exact .inr (hp j i h2 h1 h3)
end
end Go.Proofs.YtdamhoagiooicaaDoor.Sha

/-
  slices.Clone copies rows of inputs and of outputs; a cell of a row of one's own is stored into. Conditions: the rows lie in memory; fewer than a million.
-/
namespace Go.Proofs.YtdamhoagiooicaaDoor.Sha
open Go Go.RowKit
set_option maxHeartbeats 1000000 in
set_option maxRecDepth 100000 in
theorem clone_rowI (n : Nat) (xs : List Value) (v : Value) (w : World) (hv : ∃ sp cap, v = .slice sp n cap ∧ (0 < n → n ≤ cap ∧ ∃ b o, sp = some ⟨b, o, none⟩ ∧ w.rangeAt b o xs)) (hl : xs.length = n * 35) (h1 : ∀ u ∈ xs, u.oneCell' = true) (hn : n ≤ 1000000) :
    Calls Tryd.prog 71 #[v] w fun e w' => ∃ v', e = .returned v' ∧ w'.ownsRow w.heap.size 46 35 v' n xs ∧ Below w.heap.size w w' := by
  obtain ⟨i0, hi, hz0, hz1, hz2⟩ := info_parts info_in
  obtain ⟨sp, cap, rfl, hs⟩ := hv
  have hown0 : (w.alloc (.cells #[] 46)).ownsRow w.heap.size 46 35 (.slice (some ⟨w.heap.size, 0, none⟩) 0 0) 0 [] := World.ownsRow_lit w #[] 0 (Nat.le_refl _) (by unfold maxLen; omega) rfl
  have HO0 := Lib.hid hown0
  have HB0 := Lib.hid ((Below.refl w.heap.size w).alloc (Nat.le_refl _) (.cells #[] 46 (0, 0)))
  by_cases h0 : n = 0
  · subst h0
    obtain rfl : xs = [] := List.eq_nil_of_length_eq_zero (by omega)
    cases sp with
    | none =>
      clear hown0 HO0 hs
      have hq : ∀ W, (binOp .eql 29 (.slice none 0 cap) (.slice none 0 0)).run Tryd.prog W = .ok (.bool true) W := fun W => by kernel_rfl
      go_enter Tryd.func71, Tryd.ntmps71
      go_wp2_with fail
      go_ret
      exact ⟨_, rfl, World.ownsRow_nil w _ _ _, Below.refl _ _⟩
    | some ad =>
      have hap : ∀ ty, (Builtin.append_ #[29, 29] ty #[.slice (some ⟨w.heap.size, 0, none⟩) 0 0, .slice (some ad) 0 cap]).run Tryd.prog (w.alloc (.cells #[] 46)) = .ok (.slice (some ⟨w.heap.size, 0, none⟩) 0 0) (w.alloc (.cells #[] 46)) := fun ty =>
        run_append_src0 w.heap.size 29 ty 46 i0 Tryd.underlying29 hi w.heap.size 0 0 [] (by rw [hz1]; exact HO0.out) (some ad) cap
      clear hown0 hs
      have hq : ∀ W, (binOp .eql 29 (.slice (some ad) 0 cap) (.slice none 0 0)).run Tryd.prog W = .ok (.bool false) W := fun W => by kernel_rfl
      go_enter Tryd.func71, Tryd.ntmps71
      go_wp2_with fail
      go_ret
      exact ⟨_, rfl, HO0.out, HB0.out⟩
  · obtain ⟨hc, b, o, rfl, hr⟩ := hs (by omega)
    have HR := Lib.hid (range_below hr HB0.out)
    have HL := Lib.hid hl
    have H1 := Lib.hid h1
    clear hown0 hs hr hl h1
    have hq : ∀ W, (binOp .eql 29 (.slice (some ⟨b, o, none⟩) n cap) (.slice none 0 0)).run Tryd.prog W = .ok (.bool false) W := fun W => by kernel_rfl
    go_enter Tryd.func71, Tryd.ntmps71
    go_wp2_with (at_builtin; refine wpList_append_own _ rfl _ _ 29 rfl w.heap.size 46 i0 _ 35 72 Tryd.underlying29 hi hz0 hz1 hz2 (by kernel_rfl) (by decide) _ 0 [] rfl HO0.out ⟨b, o, none⟩ n cap xs rfl HL.out (fun j u hj => by rw [Addr.add_mid]; exact HR.out j u hj) H1.out (by unfold maxLen; omega) (by omega) (by simp) ?_; intro v' w2 ho hg _; have HO := Lib.hid ho; have HB := Lib.hid (HB0.out.grown hg HB0.out.size (fun k hk => by cases hk; exact Nat.le_refl _)); clear ho hg; go_frame)
    go_ret
    refine ⟨_, rfl, ?_, HB.out⟩
    have h := HO.out
    rw [Nat.zero_add, List.nil_append] at h
    exact h
set_option maxHeartbeats 1000000 in
set_option maxRecDepth 100000 in
theorem clone_rowO (n : Nat) (xs : List Value) (v : Value) (w : World) (hv : ∃ sp cap, v = .slice sp n cap ∧ (0 < n → n ≤ cap ∧ ∃ b o, sp = some ⟨b, o, none⟩ ∧ w.rangeAt b o xs)) (hl : xs.length = n * 33) (h1 : ∀ u ∈ xs, u.oneCell' = true) (hn : n ≤ 1000000) :
    Calls Tryd.prog 73 #[v] w fun e w' => ∃ v', e = .returned v' ∧ w'.ownsRow w.heap.size 48 33 v' n xs ∧ Below w.heap.size w w' := by
  obtain ⟨i0, hi, hz0, hz1, hz2⟩ := info_parts info_out
  obtain ⟨sp, cap, rfl, hs⟩ := hv
  have hown0 : (w.alloc (.cells #[] 48)).ownsRow w.heap.size 48 33 (.slice (some ⟨w.heap.size, 0, none⟩) 0 0) 0 [] := World.ownsRow_lit w #[] 0 (Nat.le_refl _) (by unfold maxLen; omega) rfl
  have HO0 := Lib.hid hown0
  have HB0 := Lib.hid ((Below.refl w.heap.size w).alloc (Nat.le_refl _) (.cells #[] 48 (0, 0)))
  by_cases h0 : n = 0
  · subst h0
    obtain rfl : xs = [] := List.eq_nil_of_length_eq_zero (by omega)
    cases sp with
    | none =>
      clear hown0 HO0 hs
      have hq : ∀ W, (binOp .eql 30 (.slice none 0 cap) (.slice none 0 0)).run Tryd.prog W = .ok (.bool true) W := fun W => by kernel_rfl
      go_enter Tryd.func73, Tryd.ntmps73
      go_wp2_with fail
      go_ret
      exact ⟨_, rfl, World.ownsRow_nil w _ _ _, Below.refl _ _⟩
    | some ad =>
      have hap : ∀ ty, (Builtin.append_ #[30, 30] ty #[.slice (some ⟨w.heap.size, 0, none⟩) 0 0, .slice (some ad) 0 cap]).run Tryd.prog (w.alloc (.cells #[] 48)) = .ok (.slice (some ⟨w.heap.size, 0, none⟩) 0 0) (w.alloc (.cells #[] 48)) := fun ty =>
        run_append_src0 w.heap.size 30 ty 48 i0 Tryd.underlying30 hi w.heap.size 0 0 [] (by rw [hz1]; exact HO0.out) (some ad) cap
      clear hown0 hs
      have hq : ∀ W, (binOp .eql 30 (.slice (some ad) 0 cap) (.slice none 0 0)).run Tryd.prog W = .ok (.bool false) W := fun W => by kernel_rfl
      go_enter Tryd.func73, Tryd.ntmps73
      go_wp2_with fail
      go_ret
      exact ⟨_, rfl, HO0.out, HB0.out⟩
  · obtain ⟨hc, b, o, rfl, hr⟩ := hs (by omega)
    have HR := Lib.hid (range_below hr HB0.out)
    have HL := Lib.hid hl
    have H1 := Lib.hid h1
    clear hown0 hs hr hl h1
    have hq : ∀ W, (binOp .eql 30 (.slice (some ⟨b, o, none⟩) n cap) (.slice none 0 0)).run Tryd.prog W = .ok (.bool false) W := fun W => by kernel_rfl
    go_enter Tryd.func73, Tryd.ntmps73
    go_wp2_with (at_builtin; refine wpList_append_own _ rfl _ _ 30 rfl w.heap.size 48 i0 _ 33 40 Tryd.underlying30 hi hz0 hz1 hz2 (by kernel_rfl) (by decide) _ 0 [] rfl HO0.out ⟨b, o, none⟩ n cap xs rfl HL.out (fun j u hj => by rw [Addr.add_mid]; exact HR.out j u hj) H1.out (by unfold maxLen; omega) (by omega) (by simp) ?_; intro v' w2 ho hg _; have HO := Lib.hid ho; have HB := Lib.hid (HB0.out.grown hg HB0.out.size (fun k hk => by cases hk; exact Nat.le_refl _)); clear ho hg; go_frame)
    go_ret
    refine ⟨_, rfl, ?_, HB.out⟩
    have h := HO.out
    rw [Nat.zero_add, List.nil_append] at h
    exact h
theorem insL_read {w : World} {b : Nat} : ∀ (l : List TIn) (ks : List Value) (o : Nat), l.length = ks.length → InsOk l → (∀ (i : Nat) x kv, l[i]? = some x → ks[i]? = some kv → w.rangeAt b (o + i * 35) (inL x kv)) → w.rangeAt b o (insL l ks)
  | [], [], _, _, _, _ => fun j v hj => by simp [insL] at hj
  | x :: l, kv :: ks, o, h, hok, hr => fun j v hj => by
    have e := inL_length x kv (hok x List.mem_cons_self).1
    rw [insL] at hj
    by_cases h35 : j < 35
    · rw [List.getElem?_append_left (by omega)] at hj
      have := hr 0 x kv rfl rfl j v hj
      simpa using this
    · rw [List.getElem?_append_right (by omega), e] at hj
      have ih := insL_read l ks (o + 35) (by simpa using h) (fun z hz => hok z (List.mem_cons_of_mem _ hz)) (fun i y kw hy hk => by
        have := hr (i + 1) y kw (by simpa using hy) (by simpa using hk)
        rw [show o + 35 + i * 35 = o + (i + 1) * 35 by omega]
        exact this) (j - 35) v hj
      rw [show o + 35 + (j - 35) = o + j by omega] at ih
      exact ih
theorem outsL_read {w : World} {b : Nat} : ∀ (l : List TOut) (o : Nat), OutsOk l → (∀ (i : Nat) y, l[i]? = some y → w.rangeAt b (o + i * 33) (outL y)) → w.rangeAt b o (outsL l)
  | [], _, _, _ => fun j v hj => by simp [outsL] at hj
  | y :: l, o, hok, hr => fun j v hj => by
    have e := outL_length y (hok y List.mem_cons_self).1
    rw [outsL, List.flatMap_cons] at hj
    by_cases h33 : j < 33
    · rw [List.getElem?_append_left (by omega)] at hj
      have := hr 0 y rfl j v hj
      simpa using this
    · rw [List.getElem?_append_right (by omega), e] at hj
      have ih := outsL_read l (o + 33) (fun z hz => hok z (List.mem_cons_of_mem _ hz)) (fun i z hz => by
        have := hr (i + 1) z (by simpa using hz)
        rw [show o + 33 + i * 33 = o + (i + 1) * 33 by omega]
        exact this) (j - 33) v hj
      rw [show o + 33 + (j - 33) = o + j by omega] at ih
      exact ih
theorem insL_ones : ∀ (l : List TIn) (ks : List Value), (∀ kv ∈ ks, kv.oneCell' = true) → ∀ u ∈ insL l ks, u.oneCell' = true
  | [], _, _, u, hu => by simp [insL] at hu
  | _ :: _, [], _, u, hu => by simp [insL] at hu
  | x :: l, kv :: ks, hk, u, hu => by
    rw [insL] at hu
    rcases List.mem_append.1 hu with h | h
    · exact in_mem_one x kv (hk kv List.mem_cons_self) u h
    · exact insL_ones l ks (fun k h => hk k (List.mem_cons_of_mem _ h)) u h
theorem outsL_ones (l : List TOut) : ∀ u ∈ outsL l, u.oneCell' = true := fun u hu => by
  obtain ⟨y, _, h⟩ := List.mem_flatMap.1 hu
  exact out_mem_one y u h
/-- A row of inputs that came in: the keys' slices. -/
theorem insAt_keys {w : World} {v : Value} {l : List TIn} (h : InsAt w v l) : ∃ ks : List Value, l.length = ks.length ∧ InsOk l ∧ (∀ (i : Nat) x kv, l[i]? = some x → ks[i]? = some kv → KeyAt w kv x.key)
    ∧ ∃ sp cap, v = .slice sp l.length cap ∧ (0 < l.length → l.length ≤ cap ∧ ∃ b o, sp = some ⟨b, o, none⟩ ∧ w.rangeAt b o (insL l ks)) := by
  obtain ⟨sp, cap, hv, hc, he⟩ := h
  by_cases h0 : l = []
  · subst h0
    exact ⟨[], rfl, fun _ h => absurd h (by simp), fun i x kv h => absurd h (by simp), sp, cap, hv, fun h => absurd h (by simp)⟩
  · obtain ⟨b, o, hs, he⟩ := he (List.length_pos_iff.2 h0)
    obtain ⟨ks, hl, hk⟩ := list_of_each (p := fun i kv => ∀ x, l[i]? = some x → KeyAt w kv x.key ∧ w.rangeAt b (o + i * 35) (inL x kv)) l.length (fun i hi => by
      obtain ⟨_, kv, h1, h2⟩ := he i _ (List.getElem?_eq_getElem hi)
      exact ⟨kv, fun x hx => by
        rw [List.getElem?_eq_getElem hi] at hx
        cases hx
        exact ⟨h1, h2⟩⟩)
    have hok : InsOk l := fun x hx => by
      obtain ⟨i, hi⟩ := List.getElem?_of_mem hx
      exact (he i x hi).1
    exact ⟨ks, hl.symm, hok, fun i x kv hx hkv => (hk i kv hkv x hx).1, sp, cap, hv, fun _ => ⟨hc, b, o, hs, insL_read l ks o hl.symm hok (fun i x kv hx hkv => (hk i kv hkv x hx).2)⟩⟩
theorem keys_ones {w : World} {l : List TIn} {ks : List Value} (hl : l.length = ks.length) (h : ∀ (i : Nat) x kv, l[i]? = some x → ks[i]? = some kv → KeyAt w kv x.key) : ∀ kv ∈ ks, kv.oneCell' = true := fun kv hk => by
  obtain ⟨i, hi⟩ := List.getElem?_of_mem hk
  have := (List.getElem?_eq_some_iff.1 hi).1
  obtain ⟨_, sp, cap, e⟩ := h i _ kv (List.getElem?_eq_getElem (by omega)) hi
  rw [e]
  rfl
theorem insL_set : ∀ (l : List TIn) (ks : List Value) (k : Nat) (kv : Value), l.length = ks.length → InsOk l → k < l.length → insL l (ks.set k kv) = (insL l ks).set (k * 35 + 33) kv
  | x :: l, k0 :: ks, 0, kv, h, hok, hk => by
    have e := (hok x List.mem_cons_self).1
    rw [List.set_cons_zero, insL, insL, List.set_append_left _ _ (by rw [inL_length x k0 e]; omega)]
    congr 1
    rw [inL, inL, List.set_append_right _ _ (by simp [ptL, e])]
    simp [ptL, e]
  | x :: l, k0 :: ks, k + 1, kv, h, hok, hk => by
    have e := inL_length x k0 (hok x List.mem_cons_self).1
    rw [List.set_cons_succ, insL, insL, List.set_append_right _ _ (by omega), e, show (k + 1) * 35 + 33 - 35 = k * 35 + 33 by omega,
      insL_set l ks k kv (by simpa using h) (fun z hz => hok z (List.mem_cons_of_mem _ hz)) (by simpa using hk)]
theorem wp_store_own {P : Program} {op : Oper} {a : Act} {w : World} {K : Act → World → Prop} {Q : Exit → Act → World → Prop} (ty : TypeId) (x y : Operand) (ho : op.op = .store ty x y)
    (g j base size n cap : Nat) (e : TypeId) (xs : List Value) (v : Value) (hx : a.eval x = .pointer (some ⟨g, j, none⟩)) (hy : a.eval y = v) (h1 : v.oneCell' = true) (hi : (P.info? ty).map (·.size) = some 1)
    (hown : w.ownsRow base e size (.slice (some ⟨g, 0, none⟩) n cap) n xs) (hj : j < n * size)
    (h : ∀ w', w'.ownsRow base e size (.slice (some ⟨g, 0, none⟩) n cap) n (xs.set j v) → w.grownBy w' (some g) → K (a.put op.dst undef) w') : op.wp P a w K Q := by
  rcases hown.2 with ⟨h', _⟩ | ⟨g', cap', cur, h', hb, hg, hnc, hcm, hcs, htake⟩
  · simp at h'
  simp only [Value.slice.injEq, Option.some.injEq, Addr.mk.injEq, and_true, true_and] at h'
  obtain ⟨rfl, rfl⟩ := h'
  have hjc : j < cur.toList.length := by
    rw [Array.length_toList, hcs]
    exact Nat.lt_of_lt_of_le hj (Nat.mul_le_mul_right _ hnc)
  have hsplit : cur.toList = cur.toList.take j ++ [cur.toList[j]] ++ cur.toList.drop (j + 1) := by
    rw [List.append_assoc, List.singleton_append, ← List.drop_eq_getElem_cons hjc, List.take_append_drop]
  have hset : (cur.toList.take j ++ [v] ++ cur.toList.drop (j + 1)) = cur.toList.set j v := by
    rw [List.append_assoc, List.singleton_append, List.set_eq_take_append_cons_drop, if_pos hjc]
  refine wp_store_part ty x y ho g j (cur.toList.take j) [cur.toList[j]] (cur.toList.drop (j + 1)) [v] e v hx hy (cells_one h1) (by rw [List.length_take]; omega) rfl (by rw [← hsplit, Array.toArray_toList]; exact hg) hi (one_mem h1) ?_
  intro w' q1 q2
  refine h w' ⟨by rw [List.length_set]; exact hown.1, .inr ⟨g, cap, _, rfl, hb, q1, hnc, hcm, ?_, ?_⟩⟩ q2
  · rw [hset]
    simpa using hcs
  · rw [hset, ← htake]
    simp [List.take_set]
end Go.Proofs.YtdamhoagiooicaaDoor.Sha
