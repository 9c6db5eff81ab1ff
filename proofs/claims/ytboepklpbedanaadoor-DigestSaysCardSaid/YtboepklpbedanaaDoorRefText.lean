/-
  The statements' own order of digests and their text: LessHash, Hex. Nothing that was there turns. Condition: digests of 32 bytes.
-/
import Derived.Laws.Concat
import Derived.Test.YtboepklpbedanaaDoorShaLess
namespace Go.Proofs.YtboepklpbedanaaDoor.Sha
open Go Go.RowKit

theorem lessL_at : ∀ (k : Nat) (l m : List UInt8), (∀ j, j < k → l.getD j 0 = m.getD j 0) → k < l.length → k < m.length → l.getD k 0 ≠ m.getD k 0 → lessL l m = decide (l.getD k 0 < m.getD k 0)
  | 0, x :: l, y :: m, _, _, _, h => by
    have h' : x ≠ y := h
    rw [less_cons, decide_eq_false h']
    simp
  | k + 1, x :: l, y :: m, hp, hl, hm, h => by
    have h0 : x = y := hp 0 (by omega)
    subst h0
    rw [less_cons, lessL_at k l m (fun j hj => hp (j + 1) (by omega)) (by simpa using hl) (by simpa using hm) h]
    simp
def LsInv (x y : List UInt8) (w : World) (i : Value) (wr : World) : Prop :=
  ∃ k : Nat, k ≤ 32 ∧ i = .int .i64 k ∧ (∀ j, j < k → x.getD j 0 = y.getD j 0) ∧ wr.heap[w.heap.size]? = some (.cells (x.map bV).toArray 25 (0, 0)) ∧ wr.heap[w.heap.size + 1]? = some (.cells (y.map bV).toArray 25 (0, 0)) ∧ Below w.heap.size w wr
theorem bv_lt (x y : UInt8) : decide (bv x < bv y) = decide (x < y) := by
  unfold bv
  by_cases h : x < y
  · rw [decide_eq_true h, decide_eq_true (by rw [UInt8.lt_iff_toNat_lt] at h; omega)]
  · rw [decide_eq_false h, decide_eq_false (by rw [UInt8.lt_iff_toNat_lt] at h; omega)]
set_option maxRecDepth 100000 in
theorem ref_less (x y : List UInt8) (hx : x.length = 32) (hy : y.length = 32) (w : World) :
    Calls Tryd.prog 15 #[.agg (x.map bV).toArray, .agg (y.map bV).toArray] w (SmPost (lessL x y) w) := by
  have HX := Lib.hid hx
  have HY := Lib.hid hy
  clear hx hy
  go_enter Tryd.func15, Tryd.ntmps15
  go_wp2_with fail
  go_loopw [5] (fun i wr => LsInv x y w i wr) (fun i _ => 32 - (intOf i).toNat)
  case atStart => exact ⟨0, by omega, rfl, fun j hj => by omega, heap_alloc2_old _ _ _, heap_alloc2_new _ _ _, ((Below.refl _ _).alloc (Nat.le_refl _) _).alloc (by simp) _⟩
  case round =>
    obtain ⟨k, hk, rfl, he, h1, h2, hb⟩ := hrel
    have H1 := Lib.hid h1
    have H2 := Lib.hid h2
    have HE := Lib.hid he
    have HB := Lib.hid hb
    by_cases hlt : k < 32
    · obtain ⟨a, ha⟩ : ∃ a, a = x.getD k 0 := ⟨_, rfl⟩
      obtain ⟨b, hb2⟩ : ∃ b, b = y.getD k 0 := ⟨_, rfl⟩
      have c1 : wr.cell? ⟨w.heap.size, k, none⟩ = some (.int .u8 (bv a)) := by rw [cell_of_row _ _ _ _ _ _ h1, bV_get _ _ (by rw [HX.out]; exact hlt), ha]
      have c2 : wr.cell? ⟨w.heap.size + 1, k, none⟩ = some (.int .u8 (bv b)) := by rw [cell_of_row _ _ _ _ _ _ h2, bV_get _ _ (by rw [HY.out]; exact hlt), hb2]
      have p0 : 0 ≤ (k : Int) := by omega
      have q0 : (k : Int) < 32 := by omega
      have HA := Lib.hid ha
      have HB2 := Lib.hid hb2
      clear h1 h2 he hb ha hb2
      by_cases hab : a = b
      · have ht : (bv a == bv b) = true := by rw [bv_beq, decide_eq_true hab]
        have ht' : (bv a != bv b) = false := by simp [bne, ht]
        have HAB := Lib.hid hab
        clear hab
        go_wp2_with fail
        go_quiet (fail)
        go_wp2_with fail
        go_roundw
        case rel =>
          refine ⟨k + 1, by omega, by go_num, fun j hj => ?_, H1.out, H2.out, below_drewN HB.out _⟩
          by_cases hj2 : j < k
          · exact HE.out j hj2
          · obtain rfl : j = k := by omega
            rw [← HA.out, ← HB2.out, HAB.out]
        case measure => simp [intOf]; omega
      · have ht : (bv a == bv b) = false := by rw [bv_beq, decide_eq_false hab]
        have ht' : (bv a != bv b) = true := by simp [bne, ht]
        have hless : lessL x y = decide (a < b) := by
          have h := lessL_at k x y HE.out (by rw [HX.out]; exact hlt) (by rw [HY.out]; exact hlt) (by rw [← HA.out, ← HB2.out]; exact hab)
          rw [← HA.out, ← HB2.out] at h
          exact h
        have HLS := Lib.hid hless
        clear hab hless
        go_wp2_with fail
        go_quiet (fail)
        go_wp2_with fail
        generalize hwk : World.drewN _ _ = wk
        have d1 : wk.cell? ⟨w.heap.size, k, none⟩ = some (.int .u8 (bv a)) := by rw [← hwk]; exact c1
        have d2 : wk.cell? ⟨w.heap.size + 1, k, none⟩ = some (.int .u8 (bv b)) := by rw [← hwk]; exact c2
        have HW := Lib.hid (show Below w.heap.size w wk by rw [← hwk]; exact below_drewN HB.out _)
        clear hwk c1 c2
        go_quiet (fail)
        go_wp2_with fail
        go_ret
        exact ⟨by rw [HLS.out, ← bv_lt]; rfl, below_drewN HW.out _⟩
    · have hge : ¬ (k : Int) < 32 := by omega
      have hxy : x = y := list_eq_of HX.out HY.out (fun j hj => he j (by omega))
      have HXY := Lib.hid hxy
      clear h1 h2 he hb hxy
      go_wp2_with fail
      go_ret
      exact ⟨by rw [HXY.out, less_self]; rfl, HB.out⟩

def HrInv (x : List UInt8) (w : World) (s i : Value) (wr : World) : Prop :=
  ∃ k : Nat, k ≤ 32 ∧ i = .int .i64 k ∧ s = .string (hexS (x.take k)) ∧ wr.heap[w.heap.size]? = some (.cells (x.map bV).toArray 25 (0, 0)) ∧ Below w.heap.size w wr
def oneS (c : UInt8) : ByteArray := ⟨#[c]⟩
theorem digit_cut (W : World) : ∀ i : Nat, i < 16 → (Instr.sliceAt 9 (.string { data := #[48, 49, 50, 51, 52, 53, 54, 55, 56, 57, 97, 98, 99, 100, 101, 102] }) (some (.int .u8 i)) (some (.int .u8 ((i : Int) + 1))) none).run Tryd.prog W = .ok (.string (oneS (digit i))) W := by
  intro i hi
  have h : i = 0 ∨ i = 1 ∨ i = 2 ∨ i = 3 ∨ i = 4 ∨ i = 5 ∨ i = 6 ∨ i = 7 ∨ i = 8 ∨ i = 9 ∨ i = 10 ∨ i = 11 ∨ i = 12 ∨ i = 13 ∨ i = 14 ∨ i = 15 := by omega
  rcases h with rfl | rfl | rfl | rfl | rfl | rfl | rfl | rfl | rfl | rfl | rfl | rfl | rfl | rfl | rfl | rfl <;> (show _ = _; kernel_rfl)
set_option maxHeartbeats 400000 in
set_option maxRecDepth 100000 in
theorem ref_hex (x : List UInt8) (hx : x.length = 32) (w : World) :
    Calls Tryd.prog 17 #[.agg (x.map bV).toArray] w fun e w' => e = .returned (.string (hexS x)) ∧ Below w.heap.size w w' := by
  have HX := Lib.hid hx
  clear hx
  go_enter Tryd.func17, Tryd.ntmps17
  go_wp2_with fail
  go_loopw [3, 4] (fun s i wr => HrInv x w s i wr) (fun _ i _ => 32 - (intOf i).toNat)
  case atStart => exact ⟨0, by omega, rfl, rfl, heap_alloc_new _ _, (Below.refl _ _).alloc (Nat.le_refl _) _⟩
  case round =>
    obtain ⟨k, hk, rfl, rfl, h1, hb⟩ := hrel
    have H1 := Lib.hid h1
    have HB := Lib.hid hb
    by_cases hlt : k < 32
    · obtain ⟨c, hc⟩ : ∃ c, c = x.getD k 0 := ⟨_, rfl⟩
      have c1 : wr.cell? ⟨w.heap.size, k, none⟩ = some (.int .u8 (bv c)) := by rw [cell_of_row _ _ _ _ _ _ h1, bV_get _ _ (by rw [HX.out]; exact hlt), hc]
      have p0 : 0 ≤ (k : Int) := by omega
      have q0 : (k : Int) < 32 := by omega
      have hcn := c.toNat_lt
      obtain ⟨p1, hp1⟩ : ∃ p1, p1 = c.toNat / 16 := ⟨_, rfl⟩
      obtain ⟨p2, hp2⟩ : ∃ p2, p2 = c.toNat % 16 := ⟨_, rfl⟩
      have e1 : bv c / 16 = (p1 : Int) := by rw [bv_hi, hp1]
      have e2 : bits .and .u8 (bv c) 15 = (p2 : Int) := by rw [bv_lo, hp2]
      have hd1 := fun W => digit_cut W p1 (by omega)
      have hd2 := fun W => digit_cut W p2 (by omega)
      have g1 : IntKind.u8.wrap ((p1 : Int) + 1) = (p1 : Int) + 1 := by rw [IntKind.wrap_u8']; omega
      have g2 : IntKind.u8.wrap ((p2 : Int) + 1) = (p2 : Int) + 1 := by rw [IntKind.wrap_u8']; omega
      have HHB : Hid (hexS (x.take k) ++ oneS (digit p1) ++ oneS (digit p2) = hexS (x.take (k + 1))) := by
        show _ = _
        have hkx : k < x.length := by rw [HX.out]; exact hlt
        have e : x[k] = c := by rw [hc]; simp [List.getD, List.getElem?_eq_getElem hkx]
        rw [List.take_succ_eq_append_getElem hkx, e]
        unfold hexS
        rw [hexL_snoc, hp1, hp2]
        apply ByteArray.ext
        simp [oneS, hexB]
      have z0 : (hexS (x.take k)).size ≤ 64 := by
        show (hexL (x.take k)).toArray.size ≤ 64
        rw [List.size_toArray, hexL_length, List.length_take]
        omega
      obtain ⟨s1, hs1⟩ : ∃ s, s = oneS (digit p1) := ⟨_, rfl⟩
      obtain ⟨s2, hs2⟩ : ∃ s, s = oneS (digit p2) := ⟨_, rfl⟩
      have z1 : s1.size = 1 := by rw [hs1]; rfl
      have z2 : s2.size = 1 := by rw [hs2]; rfl
      rw [← hs1] at hd1 HHB
      rw [← hs2] at hd2 HHB
      have z3 : (hexS (x.take k) ++ s1).size ≤ 65 := by rw [ByteArray.size_append]; omega
      have ha1 := fun W => run_string_add_sum (P := Tryd.prog) W (hexS (x.take k)) s1 (by omega)
      have ha2 := fun W => run_string_add_sum (P := Tryd.prog) W (hexS (x.take k) ++ s1) s2 (by omega)
      have hn1 : ¬ ((hexS (x.take k)).size + s1.size > 9223372036854775807) := by omega
      have hn2 : ¬ ((hexS (x.take k) ++ s1).size + s2.size > 9223372036854775807) := by omega
      clear hs1 hs2 z0 z1 z2 z3
      clear hc hcn hp1 hp2 h1 hb
      go_wp2_with fail
      go_quiet (fail)
      go_wp2_with fail
      go_roundw
      case rel => exact ⟨k + 1, by omega, by go_num, by rw [HHB.out], H1.out, below_drewN HB.out _⟩
      case measure => simp [intOf]; omega
    · have hge : ¬ (k : Int) < 32 := by omega
      have ht : x.take k = x := List.take_of_length_le (by rw [HX.out]; omega)
      have HT := Lib.hid ht
      clear h1 hb ht
      go_wp2_with fail
      go_ret
      exact ⟨by rw [HT.out]; rfl, HB.out⟩
end Go.Proofs.YtboepklpbedanaaDoor.Sha
