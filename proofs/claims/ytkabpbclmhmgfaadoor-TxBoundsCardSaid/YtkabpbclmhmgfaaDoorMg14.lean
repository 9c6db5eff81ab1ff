/-
  Texts of this proof joined into one file: TxTurnedWalk, BytesEq, RefSmall. What each holds, and under which conditions, its own first sentence tells.
-/
import Derived.Lib.BufferRead
import Derived.Test.YtkabpbclmhmgfaaDoorMg13
import Derived.Test.YtkabpbclmhmgfaaDoorMg08
import Derived.Test.YtkabpbclmhmgfaaDoorMg01
import Derived.Test.YtkabpbclmhmgfaaDoorMg03
import Derived.Test.YtkabpbclmhmgfaaDoorMg04
/-
  The statement on a transaction's bytes with one bit turned answers true, given what package tx is shown to answer. Conditions: the transaction lies in memory, the errors are there.
-/
namespace Go.Proofs.YtkabpbclmhmgfaaDoor.Sha
open Go Go.RowKit

theorem flip_other (x : UInt8) (t : Nat) (h : t < 8) : x ^^^ UInt8.ofNat (2 ^ t) ≠ x := fun e => by
  have h1 : UInt8.ofNat (2 ^ t) = 0 := by
    have h2 := congrArg (x ^^^ ·) e
    simp only [← UInt8.xor_assoc, UInt8.xor_self, UInt8.zero_xor] at h2
    exact h2
  have h3 : ∀ k : Fin 8, UInt8.ofNat (2 ^ k.1) ≠ 0 := by decide
  exact h3 ⟨t, h⟩ h1
theorem flip_tx {l m : List UInt8} {q : Nat} {y x : UInt8} (hq : q < l.length) (hx : x = l.getD q 0) (hy : y ≠ x) (h : l.set q y = m) : l ≠ m := fun e => by
  rw [← e] at h
  have h2 := congrArg (fun z : List UInt8 => z.getD q 0) h
  simp only [List.getD, List.getElem?_set_self hq, Option.getD_some] at h2
  exact hy (by rw [hx]; exact h2)
set_option maxHeartbeats 1000000 in
set_option maxRecDepth 100000 in
theorem txturned_main (E : Nat → Addr) (HF : ∀ w, Calls Tryd.prog 9 #[] w fun e w' => e = .returned (.bool true) ∧ Below w.heap.size w w') (HBy : BytesC) (HCh : CheckC E) (HSa : SameC) (HRe : ReadC E)
    (t : TTx) (bit : Int) (v : Value) (w : World) (hE : Er8 w E) (h1 : TxAt w v t) (k1 : TxCame t) (hbit : -9223372036854775808 ≤ bit ∧ bit ≤ 9223372036854775807) :
    Calls Tryd.prog 5 #[v, .int .i64 bit] w fun e w' => e = .returned (.bool true) ∧ Below w.heap.size w w' := by
  have H1 := Lib.hid h1
  obtain ⟨_, iv, ov, rfl, hi1, ho1⟩ := h1
  obtain ⟨si, ci, hiv, _⟩ := hi1
  obtain ⟨so, co, hov, _⟩ := ho1
  obtain ⟨ni, hni⟩ : ∃ ni, ni = t.ins.length := ⟨_, rfl⟩
  obtain ⟨no, hno⟩ : ∃ no, no = t.outs.length := ⟨_, rfl⟩
  rw [← hni] at hiv
  rw [← hno] at hov
  subst hiv hov
  have HE := Lib.hid hE
  have K1 := Lib.hid k1
  have HF := Lib.hid HF
  clear hE k1 hni hno
  go_enter Tryd.func5, Tryd.ntmps5
  go_upto_region 1 with fail
  obtain ⟨b1, f1⟩ := box1 w (txL t (.slice si ni ci) (.slice so no co)) 26
  generalize hw1 : World.alloc _ _ = w1
  rw [hw1] at b1 f1
  have B := Lib.hid b1
  have F := Lib.hid f1
  clear hw1 b1 f1
  go_upto_region 4 with (go_at_call 9; refine (HF.out _).mono ?_; rintro e w2 ⟨rfl, hb2⟩; have F := Lib.hid (row_below F.out hb2); have B := Lib.hid (B.out.trans (hb2.mono B.out.size)); clear hb2)
  obtain ⟨l1, hl1⟩ : ∃ l1, l1 = lightB t := ⟨_, rfl⟩
  have L1 := Lib.hid hl1
  clear hl1
  go_wp2_with ((with_reducible show wpList _ _ _ _ _ _); refine wpList_load_row rfl 26 (.tmp 2) rfl w.heap.size rfl 26 (txL t (.slice si ni ci) (.slice so no co)).toArray (0, 0) _ F.out Tryd.underlying26 rfl (by kernel_rfl) ?_; go_frame)
  refine (light_any t _ w2 (H1.out.below B.out) l1 L1.out K1.out.2.2.2.2.1).mono ?_
  rintro e w3 ⟨rfl, hb3⟩
  have F := Lib.hid (row_below F.out hb3)
  have B := Lib.hid (B.out.trans (hb3.mono B.out.size))
  clear hb3
  cases l1
  · go_wp2_with fail
    go_ret
    exact ⟨rfl, B.out⟩
  obtain ⟨_, d1, d2, _⟩ := tx_cells F.out
  by_cases hi20 : ni ≤ 20
  rotate_left
  · have c1 : (20 : Int) < (ni : Int) := by omega
    go_wp2_with fail
    go_ret
    exact ⟨rfl, B.out⟩
  have c1 : ¬ (20 : Int) < (ni : Int) := by omega
  by_cases ho20 : no ≤ 20
  rotate_left
  · have c2 : (20 : Int) < (no : Int) := by omega
    go_wp2_with fail
    go_ret
    exact ⟨rfl, B.out⟩
  have c2 : ¬ (20 : Int) < (no : Int) := by omega
  have TS := Lib.hid (small_of_light K1.out L1.out.symm)
  obtain ⟨cc, hcc⟩ : ∃ cc, cc = checkC t := ⟨_, rfl⟩
  have HCC := Lib.hid hcc
  clear hcc
  go_wp2_with ((with_reducible show wpList _ _ _ _ _ _); refine wpList_load_rowG 26 (.tmp 2) rfl w.heap.size rfl 26 (txL t (.slice si ni ci) (.slice so no co)).toArray (0, 0) _ F.out Tryd.underlying26 rfl (by kernel_rfl) rfl ?_; go_frame)
  refine (HCh t _ _ cc HCC.out (HE.out.below B.out) (H1.out.below B.out) TS.out).mono ?_
  rintro e w4 ⟨rfl, hb4⟩
  have F := Lib.hid (row_below F.out hb4)
  have B := Lib.hid (B.out.trans (hb4.mono B.out.size))
  clear hb4 d1 d2 c1 c2
  cases cc with
  | succ q =>
    rw [show errV E (q + 1) = Value.iface 133 (.pointer (some (E q))) from rfl]
    go_wp2_with fail
    go_ret
    exact ⟨rfl, B.out⟩
  | zero =>
    rw [show errV E 0 = Value.nilIface from rfl]
    go_wp2_with ((with_reducible show wpList _ _ _ _ _ _); refine wpList_load_row rfl 26 (.tmp 2) rfl w.heap.size rfl 26 (txL t (.slice si ni ci) (.slice so no co)).toArray (0, 0) _ F.out Tryd.underlying26 rfl (by kernel_rfl) ?_; go_frame)
    refine (HBy t _ _ (H1.out.below B.out) TS.out).mono ?_
    rintro e w5 ⟨v5, rfl, ho5, hb5⟩
    obtain ⟨nb, hnb⟩ : ∃ nb, nb = (txB t).length := ⟨_, rfl⟩
    have h10 : 10 ≤ nb := by rw [hnb]; exact txB_ten t
    have hnb2 : nb ≤ 70368744177600 := by rw [hnb]; exact Nat.le_trans TS.out.len (by omega)
    rw [← hnb] at ho5
    obtain ⟨g, cap, rfl, hgb, hcap⟩ := own_shape ho5 (by omega)
    have NB := Lib.hid hnb
    have HO5 := Lib.hid ho5
    have HB5 := Lib.hid hb5
    have hz : ((nb : Int) == 0) = false := by rw [beq_eq_false_iff_ne]; omega
    obtain ⟨r, hr, hrn⟩ := numb_nat bit (8 * nb) (by omega)
    have hnum := numb_any bit (8 * (nb : Int)) (by omega) (by omega) hbit w5
    rw [show (8 * (nb : Int)) = ((8 * nb : Nat) : Int) by omega, hr, show ((8 * nb : Nat) : Int) = (8 * (nb : Int)) by omega] at hnum
    have HNUM := Lib.hid hnum
    obtain ⟨q, hq⟩ : ∃ q, q = r / 8 := ⟨_, rfl⟩
    obtain ⟨k, hk⟩ : ∃ k, k = r % 8 := ⟨_, rfl⟩
    have hqn : q < nb := by omega
    have hk8 : k < 8 := by omega
    have hq1 : (r : Int).tdiv 8 = (q : Int) := by rw [Int.tdiv_eq_ediv_of_nonneg (by omega)]; omega
    have ht1 : (r : Int).tmod 8 = (k : Int) := by rw [Int.tmod_eq_emod_of_nonneg (by omega)]; omega
    obtain ⟨x, hx⟩ : ∃ x, x = (txB t).getD q 0 := ⟨_, rfl⟩
    have cq : w5.cell? ⟨g, q, none⟩ = some (.int .u8 (bv x)) := by
      have hqx : q < (txB t).length := by have := NB.out; omega
      rw [HO5.out.cellAt q (by omega), List.getElem?_map, List.getElem?_eq_getElem hqx, hx]
      simp [bV, List.getD, List.getElem?_eq_getElem hqx]
    have zq := HO5.out.frozenAt q
    obtain ⟨y, hy⟩ : ∃ y, y = x ^^^ UInt8.ofNat (2 ^ k) := ⟨_, rfl⟩
    have hx1 : bits .xor .u8 (bv x) ((2 : Int) ^ k % 256) = bv y := by rw [bv_pow, bv_xor, hy]
    have HSET : Hid (∀ l : List UInt8, (l.map bV).set q (.int .u8 (bv y)) = (l.set q y).map bV) := fun l => (List.map_set (f := bV) (l := l) (i := q) (a := y)).symm
    have HNE : Hid (∀ m, (txB t).set q y = m → txB t ≠ m) := fun m h => flip_tx (by rw [← hnb]; exact hqn) hx (by rw [hy]; exact flip_other x k hk8) h
    obtain ⟨bs, hbs⟩ : ∃ bs, bs = (txB t).set q y := ⟨_, rfl⟩
    have HBS := Lib.hid hbs
    have HLN : Hid (bs.length = nb) := by rw [hbs, hnb]; exact List.length_set ..
    obtain ⟨u, c, hru⟩ := read_pair bs
    have HR := Lib.hid hru
    clear hr hrn hnum hbit hq hk hx hy hbs hnb ho5 hb5 hru
    go_upto_region 10 with (go_at_call 27; refine HNUM.out.mono ?_; rintro e w' ⟨rfl, rfl⟩)
    clear HNUM
    go_upto_region 11 with (fail)
    clear cq zq
    obtain ⟨ho6, hg6⟩ := HO5.out.stored q (.int .u8 (bv y))
    rw [HSET.out, ← HBS.out] at ho6
    have hb6 := grownBy_below hg6 HB5.out hgb HB5.out.size
    generalize hw6 : World.setCell _ _ _ = w6
    rw [hw6] at ho6 hb6
    have S6 := Lib.hid (src_own ho6)
    have F := Lib.hid (row_below F.out hb6)
    have B := Lib.hid (B.out.trans (hb6.mono B.out.size))
    clear hw6 ho6 hb6 hg6 HO5 HB5 HSET
    go_wp2_with fail
    refine (HRe bs _ _ u c HR.out (HE.out.below B.out) S6.out (by have := HLN.out; omega)).mono ?_
    rintro e w7 ⟨v7, rfl, ht, hb⟩
    have T7 := Lib.hid ht
    obtain ⟨_, iv7, ov7, rfl, q1, q2⟩ := ht
    have ONE7 := Lib.hid (tx_one q1 q2)
    have F := Lib.hid (row_below F.out hb)
    have B := Lib.hid (B.out.trans (hb.mono B.out.size))
    have S6 := Lib.hid (S6.out.below hb)
    clear hb q1 q2
    go_upto_region 12 with ((with_reducible show wpList _ _ _ _ _ _); refine wpList_store_row rfl 26 (.tmp 8) (.tmp 61) rfl w7.heap.size (txL u iv7 ov7).toArray rfl rfl 26 _ (heap_alloc_new _ _) (by kernel_rfl) rfl ONE7.out ?_; go_frame)
    obtain ⟨_, f2, f3, f4⟩ := fill_setup (Below.refl w7.heap.size w7) txZ (txL u iv7 ov7).toArray 26
    obtain ⟨g8, hg⟩ : ∃ g8, g8 = w7.heap.size := ⟨_, rfl⟩
    unfold txZ at f2 f3 f4
    generalize hw : World.setRow _ _ _ = w8
    rw [hw] at f2 f3 f4
    rw [← hg] at f2 ⊢
    have F := Lib.hid (row_below F.out f4)
    have B := Lib.hid (B.out.trans (f4.mono B.out.size))
    have S6 := Lib.hid (S6.out.below f4)
    have T7 := Lib.hid (T7.out.below f4)
    have G8 := Lib.hid f2
    clear hw f2 f3 f4 hg
    cases c with
    | succ c =>
      rw [show errV E (c + 1) = Value.iface 133 (.pointer (some (E c))) from rfl]
      go_wp2_with fail
      go_ret
      exact ⟨rfl, B.out⟩
    | zero =>
      rw [show errV E 0 = Value.nilIface from rfl]
      obtain ⟨hu1, hu2⟩ := HR.out.back rfl
      have HUT : Hid ((false = true) ↔ u = t) := ⟨fun h => (Bool.false_ne_true h).elim, fun h => absurd (by rw [h]) (HNE.out (txB u) (by rw [← HBS.out]; exact hu1))⟩
      have US := Lib.hid hu2.small
      have UB := Lib.hid hu1
      clear hu1 hu2
      go_wp2_with (first | ((with_reducible show wpList _ _ _ _ _ _); refine wpList_load_rowG 26 (.tmp 8) rfl g8 rfl 26 (txL u iv7 ov7).toArray (0, 0) _ G8.out Tryd.underlying26 rfl (by kernel_rfl) rfl ?_; go_frame) | ((with_reducible show wpList _ _ _ _ _ _); refine wpList_load_rowG 26 (.tmp 2) rfl w.heap.size rfl 26 (txL t (.slice si ni ci) (.slice so no co)).toArray (0, 0) _ F.out Tryd.underlying26 rfl (by kernel_rfl) rfl ?_; go_frame))
      refine (HSa u t _ _ _ false HUT.out T7.out (H1.out.below B.out) US.out TS.out).mono ?_
      rintro e w9 ⟨rfl, hb9⟩
      have B := Lib.hid (B.out.trans (hb9.mono B.out.size))
      have S6 := Lib.hid (S6.out.below hb9)
      have T7 := Lib.hid (T7.out.below hb9)
      have G8 := Lib.hid (row_below G8.out hb9)
      clear hb9
      go_wp2_with ((with_reducible show wpList _ _ _ _ _ _); refine wpList_load_rowG 26 (.tmp 8) rfl g8 rfl 26 (txL u iv7 ov7).toArray (0, 0) _ G8.out Tryd.underlying26 rfl (by kernel_rfl) rfl ?_; go_frame)
      refine (HBy u _ _ T7.out US.out).mono ?_
      rintro e w10 ⟨v10, rfl, ho10, hb10⟩
      have S10 := Lib.hid (src_own ho10)
      have S6 := Lib.hid (S6.out.below hb10)
      have B := Lib.hid (B.out.trans (hb10.mono B.out.size))
      clear ho10 hb10
      go_wp2_with fail
      refine (same_bytes_v (txB u) bs _ _ true _ S10.out S6.out (by rw [← UB.out]; simp) (by rw [← UB.out]; have := HLN.out; omega)).mono ?_
      rintro e w11 ⟨rfl, hb11⟩
      have B := Lib.hid (B.out.trans (hb11.mono B.out.size))
      clear hb11
      go_wp2_with fail
      go_ret
      exact ⟨rfl, B.out⟩
end Go.Proofs.YtkabpbclmhmgfaaDoor.Sha

/-
  bytes.Equal answers whether two slices have the same bytes; nothing is written. Condition: the bytes lie where the slices say.
-/
namespace Go.Proofs.YtkabpbclmhmgfaaDoor.Sha
open Go Go.RowKit

theorem conv_src {w : World} {v : Value} {bs : List UInt8} (h : SrcB w v bs) : (convert 29 9 v).run Tryd.prog w = .ok (.string ⟨bs.toArray⟩) w := by
  rcases h with ⟨sp, cap, rfl, rfl⟩ | ⟨h0, bb, off, cap, rfl, hc, hs⟩
  · cases sp with
    | none => exact Lib.run_convert_nil_bytes w _ _ _ cap Tryd.underlying29 Tryd.underlying5 Tryd.underlying9
    | some a => exact run_convert_bytes_back w _ _ _ a cap [] Tryd.underlying29 Tryd.underlying5 Tryd.underlying9 (fun j hj => absurd hj (by simp))
  · exact run_convert_bytes_back w _ _ _ ⟨bb, off, none⟩ cap bs Tryd.underlying29 Tryd.underlying5 Tryd.underlying9 (fun j hj => by
      rw [Addr.add_mid, hs j hj]
      simp [bv, List.getD, List.getElem?_eq_getElem hj])
theorem bytes_beq_of (x y : List UInt8) : ((⟨x.toArray⟩ : ByteArray).toList == (⟨y.toArray⟩ : ByteArray).toList) = decide (x = y) := by
  rw [ByteArray.toList_eq, ByteArray.toList_eq]
  show (x == y) = decide (x = y)
  by_cases h : x = y <;> simp [h]
set_option maxRecDepth 100000 in
theorem equal_any (x y : List UInt8) (v v' : Value) (w : World) (h1 : SrcB w v x) (h2 : SrcB w v' y) (b : Bool) (hb : b = decide (x = y)) :
    Calls Tryd.prog 56 #[v, v'] w fun e w' => e = .returned (.bool b) ∧ w = w' := by
  obtain ⟨s1, c1, e1⟩ := h1.shape
  obtain ⟨s2, c2, e2⟩ := h2.shape
  obtain ⟨n1, hn1⟩ : ∃ n, n = x.length := ⟨_, rfl⟩
  obtain ⟨n2, hn2⟩ : ∃ n, n = y.length := ⟨_, rfl⟩
  rw [← hn1] at e1
  rw [← hn2] at e2
  have k1 := conv_src h1
  have k2 := conv_src h2
  rw [← bytes_beq_of] at hb
  obtain ⟨S1, hS1⟩ : ∃ S : ByteArray, S = ⟨x.toArray⟩ := ⟨_, rfl⟩
  obtain ⟨S2, hS2⟩ : ∃ S : ByteArray, S = ⟨y.toArray⟩ := ⟨_, rfl⟩
  rw [← hS1] at k1 hb
  rw [← hS2] at k2 hb
  have HB := Lib.hid hb
  clear h1 h2 hn1 hn2 hS1 hS2 hb
  subst e1 e2
  go_enter Tryd.func56, Tryd.ntmps56
  go_wp2_with fail
  go_ret
  exact ⟨by rw [HB.out]; rfl, rfl⟩
end Go.Proofs.YtkabpbclmhmgfaaDoor.Sha

/-
  Small functions of the statements' own SHA-256: a word turned right, the table of the rounds' words, as the chapter gives them. No conditions.
-/
namespace Go.Proofs.YtkabpbclmhmgfaaDoor.Sha
open Go Go.RowKit

theorem right_fact (x : UInt32) (n : Nat) (h1 : 1 ≤ n) (h2 : n ≤ 31) : bits .or .u32 (wv x / 2 ^ n) (wv x * 2 ^ (32 - n) % 4294967296) = wv (rotr x n) := by
  rw [← IntKind.wrap_u32', wv_shl x _ (by omega), wv_shr x n (by omega), wv_or]
  rfl
set_option maxRecDepth 100000 in
theorem right_any (x : UInt32) (n : Nat) (k : Int) (hk : k = (n : Int)) (h1 : 1 ≤ n) (h2 : n ≤ 31) (w : World) :
    Calls Tryd.prog 73 #[.int .u32 (wv x), .int .u64 k] w fun e w' => e = .returned (.int .u32 (wv (rotr x n))) ∧ w = w' := by
  subst hk
  go_enter Tryd.func73, Tryd.ntmps73
  go_wp2
  go_ret
  exact ⟨ret_int (right_fact x n h1 h2), rfl⟩
theorem right_z (x : UInt32) (k : Int) (h1 : 1 ≤ k) (h2 : k ≤ 31) (w : World) :
    Calls Tryd.prog 73 #[.int .u32 (wv x), .int .u64 k] w fun e w' => e = .returned (.int .u32 (wv (rotr x k.toNat))) ∧ w = w' :=
  right_any x k.toNat k (by omega) (by omega) (by omega) w
theorem wv_sum3 (a b c : UInt32) : (wv a + wv b + wv c) % 4294967296 = wv (a + b + c) := by rw [← wv_sum, ← wv_sum]; omega
theorem wv_sum4 (a b c d : UInt32) : (wv a + wv b + wv c + wv d) % 4294967296 = wv (a + b + c + d) := by rw [← wv_sum, ← wv_sum3]; omega
theorem wv_not (x : UInt32) : bits .xor .u32 IntKind.u32.max (wv x) = wv (~~~x) := by
  rw [show IntKind.u32.max = wv 4294967295 from rfl, wv_xor, show (4294967295 : UInt32) = -1 from rfl, UInt32.neg_one_xor]
set_option maxRecDepth 100000 in
theorem k_any (w : World) : Calls Tryd.prog 72 #[] w fun e w' => e = .returned (.slice (some ⟨w.heap.size, 0, none⟩) 64 64) ∧ w'.heap[w.heap.size]? = some (.cells (kList.map wV).toArray 22 (0, 0)) ∧ Below w.heap.size w w' := by
  go_enter Tryd.func72, Tryd.ntmps72
  go_wp2
  go_ret
  exact ⟨rfl, by rw [heap_alloc_new]; rfl, (Below.refl _ _).alloc (Nat.le_refl _) _⟩
end Go.Proofs.YtkabpbclmhmgfaaDoor.Sha
