/-
  The statement on the block that each chain begins with answers true. Nothing that was there turns. Conditions: the bytes lie where the slice says; the errors and the table are there.
-/
import Derived.IntWalk
import Derived.Laws.Bits64b
import Derived.Test.YtdamhoagiooicaaDoorMg17
import Derived.Test.YtdamhoagiooicaaDoorMg19
import Derived.Test.YtdamhoagiooicaaDoorMg02
import Derived.Test.YtdamhoagiooicaaDoorMg16
import Derived.Test.YtdamhoagiooicaaDoorMg04
namespace Go.Proofs.YtdamhoagiooicaaDoor.Sha
open Go Go.RowKit
theorem i64_or_add (a b k : Nat) (ha : a < 2 ^ k) (hb : 2 ^ k * b < 4611686018427387904) (hk : k ≤ 40) : bits .or .i64 (a : Int) ((2 ^ k * b : Nat) : Int) = ((a + 2 ^ k * b : Nat) : Int) := by
  have hp : 2 ^ k ≤ 2 ^ 40 := Nat.pow_le_pow_right (by omega) hk
  have ha2 : a < 4611686018427387904 := Nat.lt_of_lt_of_le ha (Nat.le_trans hp (by decide))
  have h1 : (BitVec.ofInt 64 (a : Int)).toNat = a := by
    rw [BitVec.ofInt_natCast, BitVec.toNat_ofNat]; exact Nat.mod_eq_of_lt (by omega)
  have h2 : (BitVec.ofInt 64 ((2 ^ k * b : Nat) : Int)).toNat = 2 ^ k * b := by
    rw [BitVec.ofInt_natCast, BitVec.toNat_ofNat]; exact Nat.mod_eq_of_lt (by omega)
  show IntKind.i64.wrap ((BitVec.ofInt 64 (a : Int) ||| BitVec.ofInt 64 ((2 ^ k * b : Nat) : Int)).toNat : Int) = _
  rw [BitVec.toNat_or, h1, h2, Nat.or_comm, ← Nat.two_pow_add_eq_or_of_lt ha, IntWalk.i64_in _ (by omega)]
  omega
def h3M : List UInt8 := 3 :: List.replicate 31 0
theorem four_bytes (j : Nat) (hj : j < 1048576) : ∃ x0 x1 x2 x3 : UInt8, leB j 4 = [x0, x1, x2, x3] ∧ j = x0.toNat + 256 * (x1.toNat + 256 * (x2.toNat + 256 * x3.toNat)) := by
  have h : leN (leB j 4) = j := leN_leB_of (by omega)
  obtain ⟨x0, h0⟩ : ∃ x, x = UInt8.ofNat (j / 256 ^ 0) := ⟨_, rfl⟩
  obtain ⟨x1, h1⟩ : ∃ x, x = UInt8.ofNat (j / 256 ^ 1) := ⟨_, rfl⟩
  obtain ⟨x2, h2⟩ : ∃ x, x = UInt8.ofNat (j / 256 ^ 2) := ⟨_, rfl⟩
  obtain ⟨x3, h3⟩ : ∃ x, x = UInt8.ofNat (j / 256 ^ 3) := ⟨_, rfl⟩
  have e : leB j 4 = [x0, x1, x2, x3] := by rw [h0, h1, h2, h3]; rfl
  refine ⟨x0, x1, x2, x3, e, ?_⟩
  rw [e] at h
  have e2 : leN [x0, x1, x2, x3] = x0.toNat + 256 * (x1.toNat + 256 * (x2.toNat + 256 * (x3.toNat + 256 * 0))) := rfl
  rw [e2] at h
  omega
set_option maxHeartbeats 4000000 in
set_option maxRecDepth 100000 in
theorem blockstart_main (E : Nat → Addr) (h : Int) (ex : List UInt8) (ve : Value) (w : World) (hh : -9223372036854775808 ≤ h ∧ h ≤ 9223372036854775807) (hs : SrcB w ve ex) (hk : KTab w) (hE : ErB w E) :
    Calls Tryd.prog 6 #[.int .i64 h, ve] w fun e w' => e = .returned (.bool true) ∧ Below w.heap.size w w' := by
  obtain ⟨j, hj, hj2⟩ := numb_nat h 1048576 (by omega)
  obtain ⟨x0, x1, x2, x3, hx4, hjx⟩ := four_bytes j hj2
  have NUM : Hid (∀ W, Calls Tryd.prog 14 #[.int .i64 h, .int .i64 1048576] W fun e w' => e = .returned (.int .i64 (j : Int)) ∧ W = w') := fun W => by
    have h := numb_any h 1048576 (by omega) (by omega) hh W
    rwa [show ((1048576 : Int)) = ((1048576 : Nat) : Int) by rfl, hj] at h
  obtain ⟨se, ne, ce, rfl, q1, q2⟩ := hs.shape'
  have NE := Lib.hid q1
  have HK := Lib.hid hk
  have HE := Lib.hid hE
  have SE := Lib.hid hs
  have FC : Hid (ex.length ≤ 70 → ∀ W, Below w.heap.size w W → Calls Tryd.prog 9 #[.int .i64 (j : Int), .int .u64 9, .agg (h3M.map bV).toArray, .slice se ne ce] W fun e w' => ∃ v', e = .returned v' ∧ TxNew W w' v' (firstT j 9 h3M ex) ∧ Below W.heap.size W w') := fun hx W hW =>
    blfirst_any (j : Int) j 9 h3M ex _ W (by
      have e : IntKind.u32.wrap (j : Int) = (j : Int) % 4294967296 := by
        unfold IntKind.wrap
        simp [IntKind.bits, IntKind.signed]
      rw [e]; omega) (by omega) (by omega) rfl (SE.out.below hW) (by omega)
  have HJX := Lib.hid hjx
  have HX4 := Lib.hid hx4
  have HJ2 := Lib.hid hj2
  clear hs hk hE q1 q2 hh hj hx4 hjx
  go_enter Tryd.func6, Tryd.ntmps6
  go_wp2_with fail
  refine (first7 E w HK.out HE.out).mono ?_
  rintro e w2 ⟨rfl, hb2⟩
  have B2 := Lib.hid hb2
  clear hb2
  by_cases h70 : 70 < ne
  · have t1 : (ne : Int) > 70 := by omega
    clear h70
    go_wp2_with fail
    go_ret
    exact ⟨rfl, B2.out⟩
  have t1 : ¬ (ne : Int) > 70 := by omega
  have hx : ex.length ≤ 70 := by have := NE.out; omega
  have FC := Lib.hid (FC.out hx)
  have HX70 := Lib.hid hx
  clear hx
  go_upto_region 7 with (go_at_call 14; refine (NUM.out _).mono ?_; rintro e w' ⟨rfl, rfl⟩)
  go_wp2_with ((with_reducible show wpList _ _ _ _ _ _); refine wpList_buildTo rfl 24 _ rfl _ rfl (h3M.map bV).toArray (by kernel_rfl) ?_; go_frame)
  refine (FC.out w2 B2.out).mono ?_
  rintro e w3 ⟨v3, rfl, t3, hb3⟩
  have t3 := t3.at
  have TA3 := Lib.hid t3
  have B3 := Lib.hid (B2.out.trans (hb3.mono B2.out.size))
  obtain ⟨_, iv, ov, rfl, hi3, ho3⟩ := t3
  obtain ⟨si, ci, hiv, _, hi4⟩ := hi3
  have hiv : iv = .slice si 1 ci := hiv
  subst hiv
  obtain ⟨b1, o1, rfl, hx1⟩ := hi4 (by show 0 < 1; omega)
  obtain ⟨_, kv, hkv, hr1⟩ := hx1 0 _ rfl
  rw [Nat.zero_mul, Nat.add_zero] at hr1
  obtain ⟨so, co, hov, _, ho4⟩ := ho3
  have hov : ov = .slice so 1 co := hov
  subst hov
  obtain ⟨b2, o2, rfl, hy1⟩ := ho4 (by show 0 < 1; omega)
  obtain ⟨_, hr2⟩ := hy1 0 _ rfl
  rw [Nat.zero_mul, Nat.add_zero] at hr2
  have hkl : (firstX j ex).key.length = 4 + ne := by simp only [firstX, List.length_append, leB_length]; have := NE.out; omega
  have hkey : (firstX j ex).key = [x0, x1, x2, x3] ++ ex := by show leB j 4 ++ ex = _; rw [HX4.out]
  obtain ⟨nk, hnk⟩ : ∃ nk, nk = 4 + ne := ⟨_, rfl⟩
  rcases hkv.1 with ⟨_, _, _, hnil⟩ | ⟨_, bk, ok, ck, hkv2, hck, hcell⟩
  · rw [hnil] at hkl
    simp at hkl
    omega
  rw [hkl, ← hnk] at hkv2 hck hcell
  subst hkv2
  have CK0 : Hid (∀ W, Below w3.heap.size w3 W → W.cell? ⟨bk, ok, none⟩ = some (.int .u8 (bv x0))) := fun W hW => by
    have e := hcell 0 (by omega)
    rw [hkey] at e
    rw [hW.cell (p := ⟨bk, ok, none⟩) (World.block_lt_of_cell? w3 _ e)]
    exact e
  have CK1 : Hid (∀ W, Below w3.heap.size w3 W → W.cell? ⟨bk, ok + 1, none⟩ = some (.int .u8 (bv x1))) := fun W hW => by
    have e := hcell 1 (by omega)
    rw [hkey] at e
    rw [hW.cell (p := ⟨bk, ok + 1, none⟩) (World.block_lt_of_cell? w3 _ e)]
    exact e
  have CK2 : Hid (∀ W, Below w3.heap.size w3 W → W.cell? ⟨bk, ok + 2, none⟩ = some (.int .u8 (bv x2))) := fun W hW => by
    have e := hcell 2 (by omega)
    rw [hkey] at e
    rw [hW.cell (p := ⟨bk, ok + 2, none⟩) (World.block_lt_of_cell? w3 _ e)]
    exact e
  have CK3 : Hid (∀ W, Below w3.heap.size w3 W → W.cell? ⟨bk, ok + 3, none⟩ = some (.int .u8 (bv x3))) := fun W hW => by
    have e := hcell 3 (by omega)
    rw [hkey] at e
    rw [hW.cell (p := ⟨bk, ok + 3, none⟩) (World.block_lt_of_cell? w3 _ e)]
    exact e
  have SKEY : Hid (SrcB w3 (.slice (some ⟨bk, ok, none⟩) nk ck) ([x0, x1, x2, x3] ++ ex)) := by
    show SrcB _ _ _
    rw [← hkey]
    exact hkv.1
  have CKV : Hid (∀ W, Below w3.heap.size w3 W → W.cell? ⟨b1, o1 + 33, none⟩ = some (.slice (some ⟨bk, ok, none⟩) nk ck)) := fun W hW => in_key zH_length (range_below hr1 hW)
  have CV : Hid (∀ W, Below w3.heap.size w3 W → W.cell? ⟨b2, o2, none⟩ = some (.int .u64 9)) := fun W hW => out_val (range_below hr2 hW)
  have LC : Hid ((txL (firstT j 9 h3M ex) (.slice (some ⟨b1, o1, none⟩) 1 ci) (.slice (some ⟨b2, o2, none⟩) 1 co)).length = 4) := rfl
  obtain ⟨ct, hct⟩ : ∃ ct, ct = txL (firstT j 9 h3M ex) (.slice (some ⟨b1, o1, none⟩) 1 ci) (.slice (some ⟨b2, o2, none⟩) 1 co) := ⟨_, rfl⟩
  have BX : Hid (∀ (W : World) (g : Nat), W.heap[g]? = some (.cells ct.toArray 32 (0, 0)) → W.cell? ⟨g, 1, none⟩ = some (.slice (some ⟨b1, o1, none⟩) 1 ci) ∧ W.cell? ⟨g, 2, none⟩ = some (.slice (some ⟨b2, o2, none⟩) 1 co)) := fun W g hW => by
    rw [hct] at hW
    exact ⟨(tx_cells hW).2.1, (tx_cells hW).2.2.1⟩
  have ONE : Hid (ct.toArray.all (·.oneCell') = true) := by show _ = _; rw [hct]; kernel_rfl
  rw [← hct] at TA3 LC
  have LC' : Hid (ct.toArray.size = 4) := by show _ = _; rw [List.size_toArray]; exact LC.out
  rw [← hct]
  have HNK := Lib.hid hnk
  have NK4 : Hid (4 ≤ nk) := by show _ ≤ _; omega
  have CAPK := Lib.hid hck
  clear hi4 ho4 hx1 hy1 hkv hcell hr1 hr2 hkl hkey hct hnk hck hb3 hj2
  obtain ⟨g6, hg6⟩ : ∃ g6, g6 = w3.heap.size := ⟨_, rfl⟩
  obtain ⟨_, f2, f3, f4⟩ := fill_setup (Below.refl w3.heap.size w3) [nV 0, .slice none 0 0, .slice none 0 0, nV 0].toArray ct.toArray 32
  go_upto_region 8 with ((with_reducible show wpList _ _ _ _ _ _); (refine wpList_store_row rfl 32 (.tmp 6) (.tmp 22) rfl w3.heap.size ct.toArray rfl rfl 32 _ (heap_alloc_new _ _) (by rw [LC'.out]; kernel_rfl) (by rw [LC'.out]; rfl) ONE.out ?_; go_frame))
  rw [← hg6] at f2 f3 f4 ⊢
  generalize hw4 : World.setRow _ _ _ = w4
  have e4 : World.setRow (w3.alloc (.cells [nV 0, .slice none 0 0, .slice none 0 0, nV 0].toArray 32)) g6 ct.toArray = w4 := hw4
  rw [e4] at f2 f4
  rw [hg6] at f4
  have F4 := Lib.hid f2
  have N4 := Lib.hid f4
  have B4 := Lib.hid (B3.out.trans (f4.mono B3.out.size))
  clear f2 f3 f4 hg6 hw4 e4
  go_wp2_with fail
  refine (blstart_any w4 (HK.out.below B4.out)).mono ?_
  rintro e w7 ⟨v7, rfl, t7, hb7⟩
  have SB := Lib.hid t7
  obtain ⟨hh7, tv, rfl, ht7⟩ := t7
  obtain ⟨sp7, cap7, rfl⟩ := ht7.shape
  have F7' := Lib.hid (row_below F4.out hb7)
  have N7 := Lib.hid (N4.out.trans (hb7.mono N4.out.size))
  have B7 := Lib.hid (B4.out.trans (hb7.mono B4.out.size))
  have LS : Hid ((blL startX.head (.slice sp7 startX.txs.length cap7)).toArray.size = 69) := blL_size hh7 _
  have ON7 : Hid ((blL startX.head (.slice sp7 startX.txs.length cap7)).toArray.all (·.oneCell') = true) := blL_one rfl
  obtain ⟨cs, hcs⟩ : ∃ cs, cs = blL startX.head (.slice sp7 startX.txs.length cap7) := ⟨_, rfl⟩
  have BX7 : Hid (∀ (W : World) (g : Nat), W.heap[g]? = some (.cells cs.toArray 39 (0, 0)) → W.cell? ⟨g, 68, none⟩ = some (.slice sp7 1 cap7) ∧ W.cell? ⟨g, 65, none⟩ = some (.int .u32 1000)) := fun W g hW => by
    rw [hcs] at hW
    have k : BlBox W g startX.head (.slice sp7 startX.txs.length cap7) := ⟨hW⟩
    refine ⟨k.txs hh7, ?_⟩
    have e := k.head 65 (nV 1000) (hdL_at hh7).2.1
    rw [Nat.zero_add] at e
    exact e
  rw [← hcs] at SB LS ON7
  rw [← hcs]
  have SB := SB.out
  clear hcs hb7 ht7 hh7
  have SB := Lib.hid SB
  obtain ⟨g7, hg7⟩ : ∃ g7, g7 = w7.heap.size := ⟨_, rfl⟩
  obtain ⟨_, f2, f3, f4⟩ := fill_setup (Below.refl w7.heap.size w7) Tryd.zeroCells39 cs.toArray 39
  go_upto_region 9 with ((with_reducible show wpList _ _ _ _ _ _); (refine wpList_store_row rfl 39 (.tmp 7) (.tmp 23) rfl w7.heap.size cs.toArray rfl rfl 39 _ (heap_alloc_new _ _) (by rw [LS.out]; kernel_rfl) (by rw [LS.out]; kernel_rfl) ON7.out ?_; go_frame))
  rw [← hg7] at f2 f3 f4 ⊢
  generalize hw5 : World.setRow _ _ _ = w5
  have e5 : World.setRow (w7.alloc (.cells Tryd.zeroCells39 39)) g7 cs.toArray = w5 := hw5
  rw [e5] at f2 f4
  rw [hg7] at f4
  have F7 := Lib.hid f2
  have F6 := Lib.hid (row_below F7'.out f4)
  have N5 := Lib.hid (N7.out.trans (f4.mono N7.out.size))
  have B5 := Lib.hid (B7.out.trans (f4.mono B7.out.size))
  have SB5 := Lib.hid (SB.out.below f4)
  clear f2 f3 f4 hg7 hw5 e5 SB F4 F7'
  have d1 := (BX.out _ _ F6.out).1
  have d2 := (BX.out _ _ F6.out).2
  have d3 := CKV.out _ N5.out
  have d4 := (BX7.out _ _ F7.out).1
  have u1 : IntKind.i64.wrap (4 + (ne : Int)) = (nk : Int) := by rw [i64_stays (by omega)]; have := HNK.out; omega
  have u2 : 4 + (ne : Int) = (nk : Int) := by have := HNK.out; omega
  go_upto_region 12 with fail
  clear d1 d2 d3 d4 u1 u2
  have CK0' := Lib.hid (fun W hW => CK0.out W (N5.out.trans (Below.mono hW N5.out.size)))
  have CK1' := Lib.hid (fun W hW => CK1.out W (N5.out.trans (Below.mono hW N5.out.size)))
  have CK2' := Lib.hid (fun W hW => CK2.out W (N5.out.trans (Below.mono hW N5.out.size)))
  have CK3' := Lib.hid (fun W hW => CK3.out W (N5.out.trans (Below.mono hW N5.out.size)))
  have b0 := x0.toNat_lt
  have b1' := x1.toNat_lt
  have b2' := x2.toNat_lt
  have b3' := x3.toNat_lt
  obtain ⟨y1, hy1⟩ : ∃ y, y = 256 * x1.toNat := ⟨_, rfl⟩
  obtain ⟨y2, hy2⟩ : ∃ y, y = 65536 * x2.toNat := ⟨_, rfl⟩
  obtain ⟨y3, hy3⟩ : ∃ y, y = 16777216 * x3.toNat := ⟨_, rfl⟩
  obtain ⟨s1, hs1⟩ : ∃ y, y = x0.toNat + y1 := ⟨_, rfl⟩
  obtain ⟨s2, hs2⟩ : ∃ y, y = s1 + y2 := ⟨_, rfl⟩
  have hj3 : j = s2 + y3 := by have := HJX.out; omega
  have v0 : IntKind.i64.wrap (bv x0) = bv x0 := by have := bv_bd x0; exact IntWalk.i64_in _ (by omega)
  have v1 : IntKind.i64.wrap (bv x1) = bv x1 := by have := bv_bd x1; exact IntWalk.i64_in _ (by omega)
  have v2 : IntKind.i64.wrap (bv x2) = bv x2 := by have := bv_bd x2; exact IntWalk.i64_in _ (by omega)
  have v3 : IntKind.i64.wrap (bv x3) = bv x3 := by have := bv_bd x3; exact IntWalk.i64_in _ (by omega)
  have sh1 : IntKind.i64.wrap (bv x1 * 256) = (y1 : Int) := by unfold bv; rw [IntWalk.i64_in _ (by omega)]; omega
  have sh2 : IntKind.i64.wrap (bv x2 * 65536) = (y2 : Int) := by unfold bv; rw [IntWalk.i64_in _ (by omega)]; omega
  have sh3 : IntKind.i64.wrap (bv x3 * 16777216) = (y3 : Int) := by unfold bv; rw [IntWalk.i64_in _ (by omega)]; omega
  have or1 : bits .or .i64 (bv x0) (y1 : Int) = (s1 : Int) := by
    have h := i64_or_add x0.toNat x1.toNat 8 (by omega) (by omega) (by omega)
    rw [show 2 ^ 8 * x1.toNat = y1 by omega, ← hs1] at h
    exact h
  have or2 : bits .or .i64 (s1 : Int) (y2 : Int) = (s2 : Int) := by
    have h := i64_or_add s1 x2.toNat 16 (by omega) (by omega) (by omega)
    rw [show 2 ^ 16 * x2.toNat = y2 by omega, ← hs2] at h
    exact h
  have or3 : bits .or .i64 (s2 : Int) (y3 : Int) = (j : Int) := by
    have h := i64_or_add s2 x3.toNat 24 (by omega) (by omega) (by omega)
    rw [show 2 ^ 24 * x3.toNat = y3 by omega, ← hj3] at h
    exact h
  have k0 : ¬ nk = 0 := by have := NK4.out; omega
  have k1 : ¬ (nk : Int) ≤ 1 := by have := NK4.out; omega
  have k2 : ¬ (nk : Int) ≤ 2 := by have := NK4.out; omega
  have k3 : ¬ (nk : Int) ≤ 3 := by have := NK4.out; omega
  clear b0 b1' b2' b3' hy1 hy2 hy3 hs1 hs2 hj3 CK0 CK1 CK2 CK3
  refine wp_region_held_drew (S := (fun w' => Below w5.heap.size w5 w')) (by kernel_rfl) (Below.drew (Below.refl _ _)) (fun hHeld => ?_)
  generalize hwd : w5.drew = wd at  hHeld ⊢
  clear hwd
  refine held_take (i := 0) (v := (.slice (some ⟨bk, ok, none⟩) nk ck)) rfl (by kernel_rfl) (by kernel_rfl) (by kernel_rfl) (fun _ _ _ h => h) (Or.inl ⟨by rfl, fun w' _ => by kernel_rfl⟩) hHeld ?_
  go_frame
  refine held_take (i := 1) (v := (.pointer (some ⟨bk, ok, none⟩))) rfl (by kernel_rfl) (by kernel_rfl) (by kernel_rfl) (fun _ _ _ h => h) (Or.inl ⟨by rfl, fun w' _ => by go_simp⟩) hHeld ?_
  go_frame
  refine held_take (i := 2) (v := (.int .u8 (bv x0))) rfl (by kernel_rfl) (by kernel_rfl) (by kernel_rfl) (fun _ _ _ h => h) (yieldsIf_load_one (by rfl) 5 (.tmp 58) rfl bk (ok) rfl _ _ (fun w' hw' => CK0'.out w' hw') Tryd.underlying5 rfl) hHeld ?_
  go_frame
  refine held_take (i := 3) (v := (.int .i64 (bv x0))) rfl (by kernel_rfl) (by kernel_rfl) (by kernel_rfl) (fun _ _ _ h => h) (Or.inl ⟨by rfl, fun w' _ => by go_simp⟩) hHeld ?_
  go_frame
  refine held_take (i := 4) (v := (.slice (some ⟨bk, ok, none⟩) nk ck)) rfl (by kernel_rfl) (by kernel_rfl) (by kernel_rfl) (fun _ _ _ h => h) (Or.inl ⟨by rfl, fun w' _ => by kernel_rfl⟩) hHeld ?_
  go_frame
  refine held_take (i := 5) (v := (.pointer (some ⟨bk, ok + 1, none⟩))) rfl (by kernel_rfl) (by kernel_rfl) (by kernel_rfl) (fun _ _ _ h => h) (Or.inl ⟨by rfl, fun w' _ => by go_simp⟩) hHeld ?_
  go_frame
  refine held_take (i := 6) (v := (.int .u8 (bv x1))) rfl (by kernel_rfl) (by kernel_rfl) (by kernel_rfl) (fun _ _ _ h => h) (yieldsIf_load_one (by rfl) 5 (.tmp 62) rfl bk (ok + 1) rfl _ _ (fun w' hw' => CK1'.out w' hw') Tryd.underlying5 rfl) hHeld ?_
  go_frame
  refine held_take (i := 7) (v := (.int .i64 (bv x1))) rfl (by kernel_rfl) (by kernel_rfl) (by kernel_rfl) (fun _ _ _ h => h) (Or.inl ⟨by rfl, fun w' _ => by go_simp⟩) hHeld ?_
  go_frame
  refine held_take (i := 8) (v := (.int .i64 (y1 : Int))) rfl (by kernel_rfl) (by kernel_rfl) (by kernel_rfl) (fun _ _ _ h => h) (Or.inl ⟨by rfl, fun w' _ => by go_simp⟩) hHeld ?_
  go_frame
  refine held_take (i := 9) (v := (.int .i64 (s1 : Int))) rfl (by kernel_rfl) (by kernel_rfl) (by kernel_rfl) (fun _ _ _ h => h) (Or.inl ⟨by rfl, fun w' _ => by go_simp⟩) hHeld ?_
  go_frame
  refine held_take (i := 10) (v := (.slice (some ⟨bk, ok, none⟩) nk ck)) rfl (by kernel_rfl) (by kernel_rfl) (by kernel_rfl) (fun _ _ _ h => h) (Or.inl ⟨by rfl, fun w' _ => by kernel_rfl⟩) hHeld ?_
  go_frame
  refine held_take (i := 11) (v := (.pointer (some ⟨bk, ok + 2, none⟩))) rfl (by kernel_rfl) (by kernel_rfl) (by kernel_rfl) (fun _ _ _ h => h) (Or.inl ⟨by rfl, fun w' _ => by go_simp⟩) hHeld ?_
  go_frame
  refine held_take (i := 12) (v := (.int .u8 (bv x2))) rfl (by kernel_rfl) (by kernel_rfl) (by kernel_rfl) (fun _ _ _ h => h) (yieldsIf_load_one (by rfl) 5 (.tmp 68) rfl bk (ok + 2) rfl _ _ (fun w' hw' => CK2'.out w' hw') Tryd.underlying5 rfl) hHeld ?_
  go_frame
  refine held_take (i := 13) (v := (.int .i64 (bv x2))) rfl (by kernel_rfl) (by kernel_rfl) (by kernel_rfl) (fun _ _ _ h => h) (Or.inl ⟨by rfl, fun w' _ => by go_simp⟩) hHeld ?_
  go_frame
  refine held_take (i := 14) (v := (.int .i64 (y2 : Int))) rfl (by kernel_rfl) (by kernel_rfl) (by kernel_rfl) (fun _ _ _ h => h) (Or.inl ⟨by rfl, fun w' _ => by go_simp⟩) hHeld ?_
  go_frame
  refine held_take (i := 15) (v := (.int .i64 (s2 : Int))) rfl (by kernel_rfl) (by kernel_rfl) (by kernel_rfl) (fun _ _ _ h => h) (Or.inl ⟨by rfl, fun w' _ => by go_simp⟩) hHeld ?_
  go_frame
  refine held_take (i := 16) (v := (.slice (some ⟨bk, ok, none⟩) nk ck)) rfl (by kernel_rfl) (by kernel_rfl) (by kernel_rfl) (fun _ _ _ h => h) (Or.inl ⟨by rfl, fun w' _ => by kernel_rfl⟩) hHeld ?_
  go_frame
  refine held_take (i := 17) (v := (.pointer (some ⟨bk, ok + 3, none⟩))) rfl (by kernel_rfl) (by kernel_rfl) (by kernel_rfl) (fun _ _ _ h => h) (Or.inl ⟨by rfl, fun w' _ => by go_simp⟩) hHeld ?_
  go_frame
  refine held_take (i := 18) (v := (.int .u8 (bv x3))) rfl (by kernel_rfl) (by kernel_rfl) (by kernel_rfl) (fun _ _ _ h => h) (yieldsIf_load_one (by rfl) 5 (.tmp 74) rfl bk (ok + 3) rfl _ _ (fun w' hw' => CK3'.out w' hw') Tryd.underlying5 rfl) hHeld ?_
  go_frame
  refine held_take (i := 19) (v := (.int .i64 (bv x3))) rfl (by kernel_rfl) (by kernel_rfl) (by kernel_rfl) (fun _ _ _ h => h) (Or.inl ⟨by rfl, fun w' _ => by go_simp⟩) hHeld ?_
  go_frame
  refine held_take (i := 20) (v := (.int .i64 (y3 : Int))) rfl (by kernel_rfl) (by kernel_rfl) (by kernel_rfl) (fun _ _ _ h => h) (Or.inl ⟨by rfl, fun w' _ => by go_simp⟩) hHeld ?_
  go_frame
  refine held_take (i := 21) (v := (.int .i64 (j : Int))) rfl (by kernel_rfl) (by kernel_rfl) (by kernel_rfl) (fun _ _ _ h => h) (Or.inl ⟨by rfl, fun w' _ => by go_simp⟩) hHeld ?_
  go_frame
  refine held_take (i := 22) (v := (.int .i64 (j : Int))) rfl (by kernel_rfl) (by kernel_rfl) (by kernel_rfl) (fun _ _ _ h => h) (Or.inl ⟨by rfl, fun w' _ => by kernel_rfl⟩) hHeld ?_
  go_frame
  refine wpAnyH_done (by kernel_rfl) ?_ _
  have BW := Lib.hid hHeld
  clear hHeld k0 k1 k2 k3 v0 v1 v2 v3 sh1 sh2 sh3 or1 or2 or3
  go_wp2_with fail
  obtain ⟨w6, rfl⟩ : ∃ w6 : World, w6 = wd := ⟨_, rfl⟩
  have N6 := Lib.hid (N5.out.trans (BW.out.mono N5.out.size))
  have B6 := Lib.hid (B5.out.trans (BW.out.mono B5.out.size))
  have HN4 := NK4
  obtain ⟨kc, hkc⟩ : ∃ kc, kc = sliced (some ⟨bk, ok, none⟩) 4 nk ck 1 := ⟨_, rfl⟩
  have SK : Hid (SrcB w6 kc ex) := by
    have h := src_tail (SKEY.out.below N6.out) 4 NK4.out
    rw [← hkc] at h
    exact h
  have HKC := Lib.hid hkc
  have SX := Lib.hid (SE.out.below B6.out)
  have LX : Hid (ex.length ≤ 70368744177680) := by show _ ≤ _; have := HX70.out; omega
  have BX2 : Hid (∀ W, Below w6.heap.size w6 W → W.cell? ⟨g6, 2, none⟩ = some (.slice (some ⟨b2, o2, none⟩) 1 co)) := fun W hW => (BX.out _ _ (row_below (row_below F6.out BW.out) hW)).2
  have CV := Lib.hid (fun W hW => CV.out W (N6.out.trans (Below.mono hW N6.out.size)))
  have F6 := Lib.hid (row_below F6.out BW.out)
  have F7 := Lib.hid (row_below F7.out BW.out)
  have TA6 : Hid (∀ W, Below w6.heap.size w6 W → TxAt W (.agg ct.toArray) (firstT j 9 h3M ex)) := fun W hW => (TA3.out.below N6.out).below hW
  have SB6 := Lib.hid (SB5.out.below BW.out)
  have HK6 := Lib.hid (HK.out.below B6.out)
  have CK : Hid (∀ W, Below w6.heap.size w6 W → Calls Tryd.prog 16 #[.agg cs.toArray] W fun e w' => e = .returned .nilIface ∧ Below W.heap.size W w') := fun W hW => by
    refine (blcheck_any E startX _ W (SB6.out.below hW) startX_small (HK6.out.below hW) ((HE.out.below B6.out).below hW)).mono ?_
    rintro e w' ⟨u, rfl, hf, hb⟩
    rw [start_fine] at hf
    rcases hf with ⟨_, rfl⟩ | ⟨q, p, g, h, _⟩
    · exact ⟨rfl, hb⟩
    · cases h
  obtain ⟨di, hdi⟩ : ∃ di, di = hdId startX.head := ⟨_, rfl⟩
  have LDI : Hid (di.length = 32) := by show _ = _; rw [hdi]; exact hdId_length _
  have ID1 : Hid (∀ W, Below w6.heap.size w6 W → Calls Tryd.prog 24 #[.agg cs.toArray] W fun e w' => e = .returned (.agg (di.map bV).toArray) ∧ Below W.heap.size W w') := fun W hW => by
    rw [hdi]
    exact blid_any startX _ W (SB6.out.below hW) (HK6.out.below hW)
  have HDI : Hid (hdId startX.head = di) := hdi.symm
  have CT : Hid (∀ W, Below w6.heap.size w6 W → W.cell? ⟨g7, 65, none⟩ = some (.int .u32 1000)) := fun W hW => (BX7.out _ _ (row_below F7.out hW)).2
  obtain ⟨sz, hsz⟩ : ∃ sz, sz = (blkB startX).length := ⟨_, rfl⟩
  have SZ : Hid (∀ W, Below w6.heap.size w6 W → Calls Tryd.prog 25 #[.agg cs.toArray] W fun e w' => e = .returned (.int .i64 (sz : Int)) ∧ Below W.heap.size W w') := fun W hW => by
    rw [hsz]
    exact blsize_any startX _ W (SB6.out.below hW) startX_small
  have BY : Hid (∀ W, Below w6.heap.size w6 W → Calls Tryd.prog 26 #[.agg cs.toArray] W fun e w' => ∃ sq cq, e = .returned (.slice sq sz cq) ∧ Below W.heap.size W w') := fun W hW => by
    refine (blbytes_any startX _ W (SB6.out.below hW) startX_small).mono ?_
    rintro e w' ⟨v', rfl, hc⟩
    obtain ⟨sq, nq, cq, rfl, hn, _⟩ := hc.src.shape'
    exact ⟨sq, cq, by rw [hsz, hn], hc.2⟩
  clear hkc hdi hsz SKEY CKV
  refine wp_region_held_drew (S := (fun w' => Below w6.heap.size w6 w')) (by kernel_rfl) (Below.drew (Below.refl _ _)) (fun hHeld => ?_)
  generalize hwd : w6.drew = wd at  hHeld ⊢
  clear hwd
  refine held_take (i := 0) (v := (.bool true)) rfl (by kernel_rfl) (by kernel_rfl) (by kernel_rfl) (fun _ _ _ h => h) (Or.inl ⟨by rfl, fun w' _ => by kernel_rfl⟩) hHeld ?_
  go_frame
  refine held_take (i := 1) (v := (.bool true)) rfl (by kernel_rfl) (by kernel_rfl) (by kernel_rfl) (fun _ _ _ h => h) (Or.inl ⟨by rfl, fun w' _ => by kernel_rfl⟩) hHeld ?_
  go_frame
  refine held_take (i := 2) (v := (.int .i64 (j : Int))) rfl (by kernel_rfl) (by kernel_rfl) (by kernel_rfl) (fun _ _ _ h => h) (Or.inl ⟨by rfl, fun w' _ => by kernel_rfl⟩) hHeld ?_
  go_frame
  refine held_take (i := 3) (v := (.int .i64 (j : Int))) rfl (by kernel_rfl) (by kernel_rfl) (by kernel_rfl) (fun _ _ _ h => h) (Or.inl ⟨by rfl, fun w' _ => by kernel_rfl⟩) hHeld ?_
  go_frame
  refine held_take (i := 4) (v := (.bool true)) rfl (by kernel_rfl) (by kernel_rfl) (by kernel_rfl) (fun _ _ _ h => h) (Or.inl ⟨by rfl, fun w' _ => by go_simp⟩) hHeld ?_
  go_frame
  refine held_take (i := 5) (v := (.bool true)) rfl (by kernel_rfl) (by kernel_rfl) (by kernel_rfl) (fun _ _ _ h => h) (Or.inl ⟨by rfl, fun w' _ => by kernel_rfl⟩) hHeld ?_
  go_frame
  refine held_take (i := 6) (v := (.bool true)) rfl (by kernel_rfl) (by kernel_rfl) (by kernel_rfl) (fun _ _ _ h => h) (Or.inl ⟨by rfl, fun w' _ => by kernel_rfl⟩) hHeld ?_
  go_frame
  refine held_take (i := 7) (v := (.slice (some ⟨bk, ok, none⟩) nk ck)) rfl (by kernel_rfl) (by kernel_rfl) (by kernel_rfl) (fun _ _ _ h => h) (Or.inl ⟨by rfl, fun w' _ => by kernel_rfl⟩) hHeld ?_
  go_frame
  refine held_take (i := 8) (v := kc) rfl (by kernel_rfl) (by kernel_rfl) (by kernel_rfl) (fun _ _ _ h => h) (yields_cutS_l (by rfl) 25 (.tmp 86) (.const (.int .i64 4)) rfl 5 1 Tryd.underlying25 (by kernel_rfl) (some ⟨bk, ok, none⟩) nk ck 4 kc rfl rfl HN4.out HKC.out) hHeld ?_
  go_frame
  refine held_take (i := 9) (v := (.slice se ne ce)) rfl (by kernel_rfl) (by kernel_rfl) (by kernel_rfl) (fun _ _ _ h => h) (Or.inl ⟨by rfl, fun w' _ => by kernel_rfl⟩) hHeld ?_
  go_frame
  refine wpAnyH_ready (rs := [10]) (by kernel_rfl) (by simp) (held_cons rfl (fun K hK => ?_) AllReadyH.nil)
  rw [if_pos (by rfl)]
  go_simp
  refine (same_bytes_t ex _ _ _ (SK.out.below hHeld) (SX.out.below hHeld) LX.out).mono ?_
  rintro e v1 ⟨rfl, bb⟩
  have hv1 := hHeld.trans (bb.mono hHeld.size)
  clear bb hHeld
  go_wp2_with fail
  refine hK.out _ _ hv1 (fun hHeld => ?_)
  clear hK K hv1
  refine held_take (i := 11) (v := (.bool true)) rfl (by kernel_rfl) (by kernel_rfl) (by kernel_rfl) (fun _ _ _ h => h) (Or.inl ⟨by rfl, fun w' _ => by kernel_rfl⟩) hHeld ?_
  go_frame
  refine held_take (i := 12) (v := (.bool true)) rfl (by kernel_rfl) (by kernel_rfl) (by kernel_rfl) (fun _ _ _ h => h) (Or.inl ⟨by rfl, fun w' _ => by kernel_rfl⟩) hHeld ?_
  go_frame
  refine held_take (i := 13) (v := (.pointer (some ⟨g6, 2, none⟩))) rfl (by kernel_rfl) (by kernel_rfl) (by kernel_rfl) (fun _ _ _ h => h) (Or.inl ⟨by rfl, fun w' _ => by kernel_rfl⟩) hHeld ?_
  go_frame
  refine held_take (i := 14) (v := (.slice (some ⟨b2, o2, none⟩) 1 co)) rfl (by kernel_rfl) (by kernel_rfl) (by kernel_rfl) (fun _ _ _ h => h) (yieldsIf_load_one (by rfl) 30 (.tmp 92) rfl g6 (2) rfl _ _ (fun w' hw' => BX2.out w' hw') Tryd.underlying30 rfl) hHeld ?_
  go_frame
  refine held_take (i := 15) (v := (.pointer (some ⟨b2, o2, none⟩))) rfl (by kernel_rfl) (by kernel_rfl) (by kernel_rfl) (fun _ _ _ h => h) (Or.inl ⟨by rfl, fun w' _ => by go_simp⟩) hHeld ?_
  go_frame
  refine held_take (i := 16) (v := (.pointer (some ⟨b2, o2, none⟩))) rfl (by kernel_rfl) (by kernel_rfl) (by kernel_rfl) (fun _ _ _ h => h) (Or.inl ⟨by rfl, fun w' _ => by go_simp⟩) hHeld ?_
  go_frame
  refine held_take (i := 17) (v := (.int .u64 9)) rfl (by kernel_rfl) (by kernel_rfl) (by kernel_rfl) (fun _ _ _ h => h) (yieldsIf_load_one (by rfl) 22 (.tmp 95) rfl b2 (o2) rfl _ _ (fun w' hw' => CV.out w' hw') Tryd.underlying22 rfl) hHeld ?_
  go_frame
  refine held_take (i := 18) (v := (.bool true)) rfl (by kernel_rfl) (by kernel_rfl) (by kernel_rfl) (fun _ _ _ h => h) (Or.inl ⟨by rfl, fun w' _ => by go_simp⟩) hHeld ?_
  go_frame
  refine held_take (i := 19) (v := (.bool true)) rfl (by kernel_rfl) (by kernel_rfl) (by kernel_rfl) (fun _ _ _ h => h) (Or.inl ⟨by rfl, fun w' _ => by kernel_rfl⟩) hHeld ?_
  go_frame
  refine held_take (i := 20) (v := (.bool true)) rfl (by kernel_rfl) (by kernel_rfl) (by kernel_rfl) (fun _ _ _ h => h) (Or.inl ⟨by rfl, fun w' _ => by kernel_rfl⟩) hHeld ?_
  go_frame
  refine held_take (i := 21) (v := (.agg ct.toArray)) rfl (by kernel_rfl) (by kernel_rfl) (by kernel_rfl) (fun _ _ _ h => h) (yieldsIf_load_row (by rfl) 32 (.tmp 6) rfl g6 rfl 32 ct.toArray (0, 0) _ (fun w' hw' => row_below F6.out hw') Tryd.underlying32 rfl (by rw [LC'.out]; kernel_rfl)) hHeld ?_
  go_frame
  refine wpAnyH_ready (rs := [22]) (by kernel_rfl) (by simp) (held_cons rfl (fun K hK => ?_) AllReadyH.nil)
  rw [if_pos (by rfl)]
  go_simp
  refine (rbase_any _ _ _ (TA6.out _ hHeld) true (firstT_base _ _ _ _).symm).mono ?_
  rintro e v2 ⟨rfl, bb⟩
  have hv2 := hHeld.trans (bb.mono hHeld.size)
  clear bb hHeld
  go_wp2_with fail
  refine hK.out _ _ hv2 (fun hHeld => ?_)
  clear hK K hv2
  refine held_take (i := 23) (v := (.bool true)) rfl (by kernel_rfl) (by kernel_rfl) (by kernel_rfl) (fun _ _ _ h => h) (Or.inl ⟨by rfl, fun w' _ => by kernel_rfl⟩) hHeld ?_
  go_frame
  refine held_take (i := 24) (v := (.bool true)) rfl (by kernel_rfl) (by kernel_rfl) (by kernel_rfl) (fun _ _ _ h => h) (Or.inl ⟨by rfl, fun w' _ => by kernel_rfl⟩) hHeld ?_
  go_frame
  refine held_take (i := 25) (v := (.agg cs.toArray)) rfl (by kernel_rfl) (by kernel_rfl) (by kernel_rfl) (fun _ _ _ h => h) (yieldsIf_load_row (by rfl) 39 (.tmp 7) rfl g7 rfl 39 cs.toArray (0, 0) _ (fun w' hw' => row_below F7.out hw') Tryd.underlying39 rfl (by rw [LS.out]; kernel_rfl)) hHeld ?_
  go_frame
  refine wpAnyH_ready (rs := [26]) (by kernel_rfl) (by simp) (held_cons rfl (fun K hK => ?_) AllReadyH.nil)
  rw [if_pos (by rfl)]
  go_simp
  refine (CK.out _ hHeld).mono ?_
  rintro e v3 ⟨rfl, bb⟩
  have hv3 := hHeld.trans (bb.mono hHeld.size)
  clear bb hHeld
  go_wp2_with fail
  refine hK.out _ _ hv3 (fun hHeld => ?_)
  clear hK K hv3
  refine held_take (i := 27) (v := (.bool true)) rfl (by kernel_rfl) (by kernel_rfl) (by kernel_rfl) (fun _ _ _ h => h) (Or.inl ⟨by rfl, fun w' _ => by kernel_rfl⟩) hHeld ?_
  go_frame
  refine held_take (i := 28) (v := (.bool true)) rfl (by kernel_rfl) (by kernel_rfl) (by kernel_rfl) (fun _ _ _ h => h) (Or.inl ⟨by rfl, fun w' _ => by kernel_rfl⟩) hHeld ?_
  go_frame
  refine held_take (i := 29) (v := (.bool true)) rfl (by kernel_rfl) (by kernel_rfl) (by kernel_rfl) (fun _ _ _ h => h) (Or.inl ⟨by rfl, fun w' _ => by kernel_rfl⟩) hHeld ?_
  go_frame
  refine held_take (i := 30) (v := (.agg cs.toArray)) rfl (by kernel_rfl) (by kernel_rfl) (by kernel_rfl) (fun _ _ _ h => h) (yieldsIf_load_row (by rfl) 39 (.tmp 7) rfl g7 rfl 39 cs.toArray (0, 0) _ (fun w' hw' => row_below F7.out hw') Tryd.underlying39 rfl (by rw [LS.out]; kernel_rfl)) hHeld ?_
  go_frame
  refine wpAnyH_ready (rs := [31]) (by kernel_rfl) (by simp) (held_cons rfl (fun K hK => ?_) AllReadyH.nil)
  rw [if_pos (by rfl)]
  go_simp
  refine (ID1.out _ hHeld).mono ?_
  rintro e v4 ⟨rfl, bb⟩
  have hv4 := hHeld.trans (bb.mono hHeld.size)
  clear bb hHeld
  go_wp2_with fail
  refine hK.out _ _ hv4 (fun hHeld => ?_)
  clear hK K hv4
  refine wpAnyH_ready (rs := [32]) (by kernel_rfl) (by simp) (held_cons rfl (fun K hK => ?_) AllReadyH.nil)
  rw [if_pos (by rfl)]
  go_simp
  refine (blstart_any _ (HK6.out.below hHeld)).mono ?_
  rintro e v5 ⟨v8, rfl, t8, bb⟩
  have SA := Lib.hid t8
  clear t8
  have hv5 := hHeld.trans (bb.mono hHeld.size)
  clear bb hHeld
  go_wp2_with fail
  refine hK.out _ _ hv5 (fun hHeld => ?_)
  clear hK K hv5
  refine wpAnyH_ready (rs := [33]) (by kernel_rfl) (by simp) (held_cons rfl (fun K hK => ?_) AllReadyH.nil)
  rw [if_pos (by rfl)]
  go_simp
  refine (blid_any startX v8 _ SA.out (HK6.out.below hHeld)).mono ?_
  rintro e v6 ⟨rfl, bb⟩
  rw [HDI.out]
  have SA := Lib.hid (SA.out.below bb)
  have hv6 := hHeld.trans (bb.mono hHeld.size)
  clear bb hHeld
  go_wp2_with fail
  refine hK.out _ _ hv6 (fun hHeld => ?_)
  clear hK K hv6
  refine wpAnyH_ready (rs := [34]) (by kernel_rfl) (by simp) (held_cons rfl (fun K hK => ?_) AllReadyH.nil)
  rw [if_pos (by rfl)]
  go_simp
  refine (same_v di di true LDI.out LDI.out (by simp) _).mono ?_
  rintro e v7 ⟨rfl, bb⟩
  have SA := Lib.hid (SA.out.below bb)
  have hv7 := hHeld.trans (bb.mono hHeld.size)
  clear bb hHeld
  go_wp2_with fail
  refine hK.out _ _ hv7 (fun hHeld => ?_)
  clear hK K hv7
  refine held_take (i := 35) (v := (.bool true)) rfl (by kernel_rfl) (by kernel_rfl) (by kernel_rfl) (fun _ _ _ h => h) (Or.inl ⟨by rfl, fun w' _ => by kernel_rfl⟩) hHeld ?_
  go_frame
  refine held_take (i := 36) (v := (.bool true)) rfl (by kernel_rfl) (by kernel_rfl) (by kernel_rfl) (fun _ _ _ h => h) (Or.inl ⟨by rfl, fun w' _ => by kernel_rfl⟩) hHeld ?_
  go_frame
  refine held_take (i := 37) (v := (.pointer (some ⟨g7, 0, none⟩))) rfl (by kernel_rfl) (by kernel_rfl) (by kernel_rfl) (fun _ _ _ h => h) (Or.inl ⟨by rfl, fun w' _ => by kernel_rfl⟩) hHeld ?_
  go_frame
  refine held_take (i := 38) (v := (.pointer (some ⟨g7, 65, none⟩))) rfl (by kernel_rfl) (by kernel_rfl) (by kernel_rfl) (fun _ _ _ h => h) (Or.inl ⟨by rfl, fun w' _ => by kernel_rfl⟩) hHeld ?_
  go_frame
  refine held_take (i := 39) (v := (.int .u32 1000)) rfl (by kernel_rfl) (by kernel_rfl) (by kernel_rfl) (fun _ _ _ h => h) (yieldsIf_load_one (by rfl) 28 (.tmp 117) rfl g7 (65) rfl _ _ (fun w' hw' => CT.out w' hw') Tryd.underlying28 rfl) hHeld ?_
  go_frame
  refine held_take (i := 40) (v := (.bool true)) rfl (by kernel_rfl) (by kernel_rfl) (by kernel_rfl) (fun _ _ _ h => h) (Or.inl ⟨by rfl, fun w' _ => by go_simp⟩) hHeld ?_
  go_frame
  refine held_take (i := 41) (v := (.bool true)) rfl (by kernel_rfl) (by kernel_rfl) (by kernel_rfl) (fun _ _ _ h => h) (Or.inl ⟨by rfl, fun w' _ => by kernel_rfl⟩) hHeld ?_
  go_frame
  refine held_take (i := 42) (v := (.bool true)) rfl (by kernel_rfl) (by kernel_rfl) (by kernel_rfl) (fun _ _ _ h => h) (Or.inl ⟨by rfl, fun w' _ => by kernel_rfl⟩) hHeld ?_
  go_frame
  refine held_take (i := 43) (v := (.agg cs.toArray)) rfl (by kernel_rfl) (by kernel_rfl) (by kernel_rfl) (fun _ _ _ h => h) (yieldsIf_load_row (by rfl) 39 (.tmp 7) rfl g7 rfl 39 cs.toArray (0, 0) _ (fun w' hw' => row_below F7.out hw') Tryd.underlying39 rfl (by rw [LS.out]; kernel_rfl)) hHeld ?_
  go_frame
  refine held_take (i := 45) (v := (.agg cs.toArray)) rfl (by kernel_rfl) (by kernel_rfl) (by kernel_rfl) (fun _ _ _ h => h) (yieldsIf_load_row (by rfl) 39 (.tmp 7) rfl g7 rfl 39 cs.toArray (0, 0) _ (fun w' hw' => row_below F7.out hw') Tryd.underlying39 rfl (by rw [LS.out]; kernel_rfl)) hHeld ?_
  go_frame
  refine wpAnyH_ready (rs := [44]) (by kernel_rfl) (by simp) (held_cons rfl (fun K hK => ?_) AllReadyH.nil)
  rw [if_pos (by rfl)]
  go_simp
  refine (SZ.out _ hHeld).mono ?_
  rintro e v8 ⟨rfl, bb⟩
  have SA := Lib.hid (SA.out.below bb)
  have hv8 := hHeld.trans (bb.mono hHeld.size)
  clear bb hHeld
  go_wp2_with fail
  refine hK.out _ _ hv8 (fun hHeld => ?_)
  clear hK K hv8
  refine wpAnyH_ready (rs := [46]) (by kernel_rfl) (by simp) (held_cons rfl (fun K hK => ?_) AllReadyH.nil)
  rw [if_pos (by rfl)]
  go_simp
  refine (BY.out _ hHeld).mono ?_
  rintro e v9 ⟨sq, cq, rfl, bb⟩
  have SA := Lib.hid (SA.out.below bb)
  have hv9 := hHeld.trans (bb.mono hHeld.size)
  clear bb hHeld
  go_wp2_with fail
  refine hK.out _ _ hv9 (fun hHeld => ?_)
  clear hK K hv9
  refine held_take (i := 47) (v := (.int .i64 (sz : Int))) rfl (by kernel_rfl) (by kernel_rfl) (by kernel_rfl) (fun _ _ _ h => h) (Or.inl ⟨by rfl, fun w' _ => by kernel_rfl⟩) hHeld ?_
  go_frame
  refine held_take (i := 48) (v := (.bool true)) rfl (by kernel_rfl) (by kernel_rfl) (by kernel_rfl) (fun _ _ _ h => h) (Or.inl ⟨by rfl, fun w' _ => by go_simp⟩) hHeld ?_
  go_frame
  refine held_take (i := 49) (v := (.bool true)) rfl (by kernel_rfl) (by kernel_rfl) (by kernel_rfl) (fun _ _ _ h => h) (Or.inl ⟨by rfl, fun w' _ => by kernel_rfl⟩) hHeld ?_
  go_frame
  refine held_take (i := 50) (v := (.bool true)) rfl (by kernel_rfl) (by kernel_rfl) (by kernel_rfl) (fun _ _ _ h => h) (Or.inl ⟨by rfl, fun w' _ => by kernel_rfl⟩) hHeld ?_
  go_frame
  refine wpAnyH_done (by kernel_rfl) ?_ _
  have BZ := Lib.hid (B6.out.trans (hHeld.mono B6.out.size))
  clear hHeld
  go_wp2_with fail
  go_ret
  exact ⟨rfl, BZ.out⟩
end Go.Proofs.YtdamhoagiooicaaDoor.Sha
