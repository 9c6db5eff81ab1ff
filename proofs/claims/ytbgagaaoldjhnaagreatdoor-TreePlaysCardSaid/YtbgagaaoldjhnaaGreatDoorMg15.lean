/-
  Texts of this proof joined into one file: SoHeap, SoPivot, SoChoose, SoPartEq. What each holds, and under which conditions, its own first sentence tells.
-/
import Derived.Sort.WalkB3
import Derived.Sort.WalkC
import Derived.Test.YtbgagaaoldjhnaaGreatDoorMg14
import Derived.Test.YtbgagaaoldjhnaaGreatDoorMg05
/-
  The library's heap sort over a row, its comparison being free to lay blocks. Conditions: those of SoE.
-/
namespace Go.Proofs.YtbgagaaoldjhnaaGreatDoor.Sha
open Go Go.RowKit
open Go.Sort (swp)
set_option maxHeartbeats 4000000 in
set_option maxRecDepth 100000 in
theorem so_sift {α : Type} [Inhabited α] {lt : α → α → Bool} {n lf sf : Nat} {lb sb : Array Value} (E : SoE α lt n lf lb sf sb) (w : World) (d : Array α) (lo hi first : Nat) (hI : E.I d w) (hlo : lo ≤ hi) (hfn : first + hi ≤ n) :
    Calls Tryz.prog 106 #[(.agg (soL lf lb sf sb).toArray), .int .i64 (lo : Int), .int .i64 (hi : Int), .int .i64 (first : Int)] w fun e w' => e = .returned (.tuple #[]) ∧ E.I (Sort.siftDown lt hi first lo d) w' ∧ E.R w w' := by
  have eg := E.eg
  have HI := Lib.hid hI
  have NL := Lib.hid E.le
  have A1 := Lib.hid hlo
  have A2 := Lib.hid hfn
  go_enter Tryz.func106, Tryz.ntmps106
  go_upto_region 1 with fail
  have f0 := heap_alloc_new w (.cells (soL lf lb sf sb).toArray 121 (0, 0))
  have bb := (Below.refl w.heap.size w).alloc (Nat.le_refl _) (.cells (soL lf lb sf sb).toArray 121 (0, 0))
  generalize hq : World.alloc _ _ = w1
  have eq : w.alloc (.cells (soL lf lb sf sb).toArray 121 (0, 0)) = w1 := hq
  rw [eq] at f0 bb
  obtain ⟨b0, hb0⟩ : ∃ b0, b0 = w.heap.size := ⟨_, rfl⟩
  rw [← hb0] at f0 ⊢
  have F0 := Lib.hid f0
  have I1 := Lib.hid (E.below _ _ _ hI bb)
  have R1 := Lib.hid (E.rb _ _ bb)
  clear f0 bb hq eq hb0 hI
  clear hlo hfn
  have nl := NL.out
  have a1 := A1.out
  have a2 := A2.out
  go_wp2_with fail
  go_loopw [8] (fun vr wr => ∃ (r : Nat) (dk : Array α), vr = .int .i64 (r : Int) ∧ r ≤ hi ∧ E.I dk wr ∧ E.R w wr ∧ wr.heap[b0]? = some (.cells (soL lf lb sf sb).toArray 121 (0, 0)) ∧ Sort.siftDown lt hi first r dk = Sort.siftDown lt hi first lo d) (fun vr _ => hi - (intOf vr).toNat)
  case atStart => exact ⟨lo, d, rfl, A1.out, I1.out, R1.out, F0.out, rfl⟩
  case round =>
    clear F0 I1 R1 HI
    obtain ⟨r, dk, rfl, hrh, hi_, hr, hf, ho⟩ := hrel
    have IK := Lib.hid hi_
    have RK := Lib.hid hr
    have FK := Lib.hid hf
    have OK := Lib.hid ho
    clear hi_ hr hf ho
    obtain ⟨c, hc⟩ : ∃ c, c = 2 * r + 1 := ⟨_, rfl⟩
    have EC : Hid (2 * (r : Int) + 1 = (c : Int)) := by show _ = _; omega
    have HC := Lib.hid hc
    clear hc
    go_upto_region 3 with fail
    rw [EC.out]
    by_cases h0 : hi ≤ c
    · have q0 : (hi : Int) ≤ (c : Int) := by have hc := HC.out; omega
      go_wp2_with fail
      go_end0
      exact ⟨rfl, by rw [← OK.out, Sort.sd_end lt dk (by have hc := HC.out; omega)]; exact IK.out, RK.out⟩
    have q0 : (c : Int) < (hi : Int) := by have hc := HC.out; omega
    by_cases h1 : c + 1 < hi
    · have q1 : (c : Int) + 1 < (hi : Int) := by have hc := HC.out; omega
      have hl := E.less dk wr (first + c) (first + c + 1) IK.out (by have hc := HC.out; omega) (by have hc := HC.out; omega)
      rw [show ((first + c : Nat) : Int) = (first : Int) + (c : Int) by have hc := HC.out; omega, show ((first + c + 1 : Nat) : Int) = (first : Int) + (c : Int) + 1 by have hc := HC.out; omega] at hl
      have c0 := so_c0 FK.out
      cases hv1 : lt dk[first + c]! dk[first + c + 1]! with
      | true =>
        rw [hv1] at hl
        go_upto_region 6 with (go_at_fn lf; refine hl.mono ?_; rintro e w' ⟨rfl, bb⟩; have IJ2 := Lib.hid (E.below _ _ _ IK.out bb); have FJ2 := Lib.hid (row_below FK.out bb); have RJ2 := Lib.hid (E.rt _ _ _ RK.out (E.rb _ _ bb)); have c0 := so_c0 FJ2.out; clear bb)
        have hl := E.less dk w' (first + r) (first + (c + 1)) IJ2.out (by have hc := HC.out; omega) (by have hc := HC.out; omega)
        rw [show ((first + r : Nat) : Int) = (first : Int) + (r : Int) by have hc := HC.out; omega, show ((first + (c + 1) : Nat) : Int) = (first : Int) + ((c : Int) + 1) by have hc := HC.out; omega] at hl
        have c0 := so_c0 FJ2.out
        cases hv : lt dk[first + r]! dk[first + (c + 1)]! with
        | false =>
          rw [hv] at hl
          go_wp2_with (go_at_fn lf; refine hl.mono ?_; rintro e w9 ⟨rfl, bb⟩; have I9 := Lib.hid (E.below _ _ _ IJ2.out bb); have F9 := Lib.hid (row_below FJ2.out bb); have R9 := Lib.hid (E.rt _ _ _ RJ2.out (E.rb _ _ bb)); have c1 := so_c1 F9.out; clear bb)
          refine bodyPost_ret (results_none rfl _ _ _) rfl ?_
          exact ⟨rfl, by rw [← OK.out, Sort.sd_right_stop lt dk (by have hc := HC.out; omega) (by rw [show first + (2 * r + 1) = first + c by have hc := HC.out; omega, show first + (2 * r + 2) = first + c + 1 by have hc := HC.out; omega]; exact hv1) (by rw [show first + (2 * r + 2) = first + (c + 1) by have hc := HC.out; omega]; exact hv)]; exact I9.out, R9.out⟩
        | true =>
          rw [hv] at hl
          go_wp2_with (go_at_fn lf; refine hl.mono ?_; rintro e w9 ⟨rfl, bb⟩; have I9 := Lib.hid (E.below _ _ _ IJ2.out bb); have F9 := Lib.hid (row_below FJ2.out bb); have R9 := Lib.hid (E.rt _ _ _ RJ2.out (E.rb _ _ bb)); have c1 := so_c1 F9.out; clear bb)
          obtain ⟨w2, hs, hi2, hr2⟩ := E.swap dk w9 (first + r) (first + (c + 1)) I9.out (by have hc := HC.out; omega) (by have hc := HC.out; omega)
          rw [show ((first + r : Nat) : Int) = (first : Int) + (r : Int) by have hc := HC.out; omega, show ((first + (c + 1) : Nat) : Int) = (first : Int) + ((c : Int) + 1) by have hc := HC.out; omega] at hs
          rw [hs, Oper.upon_value]
          have I3 := Lib.hid hi2
          have F3 := Lib.hid (E.rbox _ _ _ hr2 F9.out)
          have R3 := Lib.hid (E.rt _ _ _ R9.out hr2)
          clear hs hi2 hr2 hl
          go_wp2_with fail
          go_roundw
          case rel => exact ⟨first + (c + 1) - first, _, by have hc := HC.out; congr 1 <;> omega, by have hc := HC.out; omega, I3.out, R3.out, F3.out, by rw [← OK.out, Sort.sd_right_go lt dk (by have hc := HC.out; omega) (by rw [show first + (2 * r + 1) = first + c by have hc := HC.out; omega, show first + (2 * r + 2) = first + c + 1 by have hc := HC.out; omega]; exact hv1) (by rw [show first + (2 * r + 2) = first + (c + 1) by have hc := HC.out; omega]; exact hv), show 2 * r + 2 = first + (c + 1) - first by have hc := HC.out; omega, show first + (first + (c + 1) - first) = first + (c + 1) by have hc := HC.out; omega]⟩
          case measure => have hc := HC.out; simp [intOf]; omega

      | false =>
        rw [hv1] at hl
        go_upto_region 6 with (go_at_fn lf; refine hl.mono ?_; rintro e w' ⟨rfl, bb⟩; have IJ2 := Lib.hid (E.below _ _ _ IK.out bb); have FJ2 := Lib.hid (row_below FK.out bb); have RJ2 := Lib.hid (E.rt _ _ _ RK.out (E.rb _ _ bb)); have c0 := so_c0 FJ2.out; clear bb)
        have hl := E.less dk w' (first + r) (first + c) IJ2.out (by have hc := HC.out; omega) (by have hc := HC.out; omega)
        rw [show ((first + r : Nat) : Int) = (first : Int) + (r : Int) by have hc := HC.out; omega, show ((first + c : Nat) : Int) = (first : Int) + (c : Int) by have hc := HC.out; omega] at hl
        have c0 := so_c0 FJ2.out
        cases hv : lt dk[first + r]! dk[first + c]! with
        | false =>
          rw [hv] at hl
          go_wp2_with (go_at_fn lf; refine hl.mono ?_; rintro e w9 ⟨rfl, bb⟩; have I9 := Lib.hid (E.below _ _ _ IJ2.out bb); have F9 := Lib.hid (row_below FJ2.out bb); have R9 := Lib.hid (E.rt _ _ _ RJ2.out (E.rb _ _ bb)); have c1 := so_c1 F9.out; clear bb)
          refine bodyPost_ret (results_none rfl _ _ _) rfl ?_
          exact ⟨rfl, by rw [← OK.out, Sort.sd_left_stop lt dk (by have hc := HC.out; omega) (fun _ => by rw [show first + (2 * r + 1) = first + c by have hc := HC.out; omega, show first + (2 * r + 2) = first + c + 1 by have hc := HC.out; omega]; exact hv1) (by rw [show first + (2 * r + 1) = first + c by have hc := HC.out; omega]; exact hv)]; exact I9.out, R9.out⟩
        | true =>
          rw [hv] at hl
          go_wp2_with (go_at_fn lf; refine hl.mono ?_; rintro e w9 ⟨rfl, bb⟩; have I9 := Lib.hid (E.below _ _ _ IJ2.out bb); have F9 := Lib.hid (row_below FJ2.out bb); have R9 := Lib.hid (E.rt _ _ _ RJ2.out (E.rb _ _ bb)); have c1 := so_c1 F9.out; clear bb)
          obtain ⟨w2, hs, hi2, hr2⟩ := E.swap dk w9 (first + r) (first + c) I9.out (by have hc := HC.out; omega) (by have hc := HC.out; omega)
          rw [show ((first + r : Nat) : Int) = (first : Int) + (r : Int) by have hc := HC.out; omega, show ((first + c : Nat) : Int) = (first : Int) + (c : Int) by have hc := HC.out; omega] at hs
          rw [hs, Oper.upon_value]
          have I3 := Lib.hid hi2
          have F3 := Lib.hid (E.rbox _ _ _ hr2 F9.out)
          have R3 := Lib.hid (E.rt _ _ _ R9.out hr2)
          clear hs hi2 hr2 hl
          go_wp2_with fail
          go_roundw
          case rel => exact ⟨first + c - first, _, by have hc := HC.out; congr 1 <;> omega, by have hc := HC.out; omega, I3.out, R3.out, F3.out, by rw [← OK.out, Sort.sd_left_go lt dk (by have hc := HC.out; omega) (fun _ => by rw [show first + (2 * r + 1) = first + c by have hc := HC.out; omega, show first + (2 * r + 2) = first + c + 1 by have hc := HC.out; omega]; exact hv1) (by rw [show first + (2 * r + 1) = first + c by have hc := HC.out; omega]; exact hv), show 2 * r + 1 = first + c - first by have hc := HC.out; omega, show first + (first + c - first) = first + c by have hc := HC.out; omega]⟩
          case measure => have hc := HC.out; simp [intOf]; omega

    · have q1 : ¬ (c : Int) + 1 < (hi : Int) := by have hc := HC.out; omega
      go_upto_region 6 with fail
      have hl := E.less dk wr (first + r) (first + c) IK.out (by have hc := HC.out; omega) (by have hc := HC.out; omega)
      rw [show ((first + r : Nat) : Int) = (first : Int) + (r : Int) by have hc := HC.out; omega, show ((first + c : Nat) : Int) = (first : Int) + (c : Int) by have hc := HC.out; omega] at hl
      have c0 := so_c0 FK.out
      cases hv : lt dk[first + r]! dk[first + c]! with
      | false =>
        rw [hv] at hl
        go_wp2_with (go_at_fn lf; refine hl.mono ?_; rintro e w9 ⟨rfl, bb⟩; have I9 := Lib.hid (E.below _ _ _ IK.out bb); have F9 := Lib.hid (row_below FK.out bb); have R9 := Lib.hid (E.rt _ _ _ RK.out (E.rb _ _ bb)); have c1 := so_c1 F9.out; clear bb)
        refine bodyPost_ret (results_none rfl _ _ _) rfl ?_
        exact ⟨rfl, by rw [← OK.out, Sort.sd_left_stop lt dk (by have hc := HC.out; omega) (fun h => absurd h (by have hc := HC.out; omega)) (by rw [show first + (2 * r + 1) = first + c by have hc := HC.out; omega]; exact hv)]; exact I9.out, R9.out⟩
      | true =>
        rw [hv] at hl
        go_wp2_with (go_at_fn lf; refine hl.mono ?_; rintro e w9 ⟨rfl, bb⟩; have I9 := Lib.hid (E.below _ _ _ IK.out bb); have F9 := Lib.hid (row_below FK.out bb); have R9 := Lib.hid (E.rt _ _ _ RK.out (E.rb _ _ bb)); have c1 := so_c1 F9.out; clear bb)
        obtain ⟨w2, hs, hi2, hr2⟩ := E.swap dk w9 (first + r) (first + c) I9.out (by have hc := HC.out; omega) (by have hc := HC.out; omega)
        rw [show ((first + r : Nat) : Int) = (first : Int) + (r : Int) by have hc := HC.out; omega, show ((first + c : Nat) : Int) = (first : Int) + (c : Int) by have hc := HC.out; omega] at hs
        rw [hs, Oper.upon_value]
        have I3 := Lib.hid hi2
        have F3 := Lib.hid (E.rbox _ _ _ hr2 F9.out)
        have R3 := Lib.hid (E.rt _ _ _ R9.out hr2)
        clear hs hi2 hr2 hl
        go_wp2_with fail
        go_roundw
        case rel => exact ⟨first + c - first, _, by have hc := HC.out; congr 1 <;> omega, by have hc := HC.out; omega, I3.out, R3.out, F3.out, by rw [← OK.out, Sort.sd_left_go lt dk (by have hc := HC.out; omega) (fun h => absurd h (by have hc := HC.out; omega)) (by rw [show first + (2 * r + 1) = first + c by have hc := HC.out; omega]; exact hv), show 2 * r + 1 = first + c - first by have hc := HC.out; omega, show first + (first + c - first) = first + c by have hc := HC.out; omega]⟩
        case measure => have hc := HC.out; simp [intOf]; omega
set_option maxHeartbeats 4000000 in
set_option maxRecDepth 100000 in
theorem so_heap {α : Type} [Inhabited α] {lt : α → α → Bool} {n lf sf : Nat} {lb sb : Array Value} (E : SoE α lt n lf lb sf sb) (w : World) (d : Array α) (a b : Nat) (hI : E.I d w) (hab : a ≤ b) (hb : b ≤ n) :
    Calls Tryz.prog 90 #[(.agg (soL lf lb sf sb).toArray), .int .i64 (a : Int), .int .i64 (b : Int)] w fun e w' => e = .returned (.tuple #[]) ∧ E.I (Sort.heapSort lt d a b) w' ∧ E.R w w' := by
  have eg := E.eg
  have HI := Lib.hid hI
  have NL := Lib.hid E.le
  have SZ : Hid ((soL lf lb sf sb).toArray.size = 2) := rfl
  obtain ⟨h, hh⟩ : ∃ h, h = b - a := ⟨_, rfl⟩
  have EH : Hid ((b : Int) - (a : Int) = (h : Int)) := by show _ = _; omega
  have HE := Lib.hid hh
  have A1 : Hid (a + h ≤ n) := by show _ ≤ _; omega
  obtain ⟨K, hK2⟩ : ∃ K, K = (h - 1) / 2 + 1 := ⟨_, rfl⟩
  have KE := Lib.hid hK2
  have HQ : Hid (((h : Int) - 1).tdiv 2 = (K : Int) - 1) := by
    have q := half_start (a := 0) (b := h) (Nat.zero_le _)
    show _ = _
    rw [hK2]
    simpa using q
  go_enter Tryz.func90, Tryz.ntmps90
  go_upto_region 1 with fail
  have f0 := heap_alloc_new w (.cells (soL lf lb sf sb).toArray 121 (0, 0))
  have bb := (Below.refl w.heap.size w).alloc (Nat.le_refl _) (.cells (soL lf lb sf sb).toArray 121 (0, 0))
  generalize hq : World.alloc _ _ = w1
  have eq : w.alloc (.cells (soL lf lb sf sb).toArray 121 (0, 0)) = w1 := hq
  rw [eq] at f0 bb
  obtain ⟨b0, hb0⟩ : ∃ b0, b0 = w.heap.size := ⟨_, rfl⟩
  rw [← hb0] at f0 ⊢
  have F0 := Lib.hid f0
  have I1 := Lib.hid (E.below _ _ _ hI bb)
  have R1 := Lib.hid (E.rb _ _ bb)
  clear f0 bb hq eq hb0 hI
  clear hh hK2
  have nl := NL.out
  go_upto_region 4 with fail
  rw [EH.out]
  clear hab hb
  have hle : h ≤ 1048576 := by have := A1.out; omega
  have a1 := A1.out
  have hq := HQ.out
  have kle : K ≤ 1048577 := by have := KE.out; omega
  go_upto_region 5 with fail
  clear hq
  go_loopw [9] (fun vi wr => ∃ (k : Nat) (dk : Array α), vi = .int .i64 ((k : Int) - 1) ∧ k ≤ K ∧ E.I dk wr ∧ E.R w wr ∧ wr.heap[b0]? = some (.cells (soL lf lb sf sb).toArray 121 (0, 0)) ∧ Sort.heapBuild lt h a k dk = Sort.heapBuild lt h a K d) (fun vi _ => (intOf vi + 1).toNat)
  case atStart => exact ⟨K, d, rfl, Nat.le_refl _, I1.out, R1.out, F0.out, rfl⟩
  case round =>
    clear F0 I1 R1 HI
    obtain ⟨k, dk, rfl, hk, hi_, hr, hf, ho⟩ := hrel
    have IK := Lib.hid hi_
    have RK := Lib.hid hr
    have FK := Lib.hid hf
    have OK := Lib.hid ho
    clear hi_ hr hf ho
    cases k with
    | succ j =>
      have ej : (((j + 1 : Nat) : Int) - 1) = (j : Int) := by omega
      rw [ej]
      have jh : j ≤ h := by have := KE.out; omega
      have SD := so_sift E wr dk j h a IK.out jh A1.out
      clear ej
      go_wp2_with ((with_reducible show wpList _ _ _ _ _ _); (refine wpList_load_row rfl 121 (.tmp 3) rfl b0 rfl 121 (soL lf lb sf sb).toArray (0, 0) _ FK.out Tryz.underlying121 rfl (by rw [SZ.out]; kernel_rfl) ?_; go_frame))
      refine SD.mono ?_
      rintro e w2 ⟨rfl, i2, r2⟩
      have I2 := Lib.hid i2
      have F2 := Lib.hid (E.rbox _ _ _ r2 FK.out)
      have R2 := Lib.hid (E.rt _ _ _ RK.out r2)
      clear i2 r2 SD
      go_wp2_with fail
      go_roundw
      case rel => exact ⟨j, _, rfl, by omega, I2.out, R2.out, F2.out, by rw [← OK.out]; rfl⟩
      case measure => simp [intOf]
    | zero =>
      have OK2 : Hid (dk = Sort.heapBuild lt h a K d) := by show _ = _; rw [← OK.out]; rfl
      have e0 : (((0 : Nat) : Int) - 1) = -1 := by omega
      rw [e0]
      clear e0 hk OK
      go_wp2_with fail
      go_loopw [10] (fun vi wr2 => ∃ (k : Nat) (dj : Array α), vi = .int .i64 ((k : Int) - 1) ∧ k ≤ h ∧ E.I dj wr2 ∧ E.R w wr2 ∧ wr2.heap[b0]? = some (.cells (soL lf lb sf sb).toArray 121 (0, 0)) ∧ Sort.heapPop lt a k dj = Sort.heapPop lt a h dk) (fun vi _ => (intOf vi + 1).toNat)
      case atStart => exact ⟨h, dk, rfl, Nat.le_refl _, IK.out, RK.out, FK.out, rfl⟩
      case round =>
        clear IK RK FK
        obtain ⟨k, dj, rfl, hk, hi_, hr, hf, ho⟩ := hrel
        have IJ := Lib.hid hi_
        have RJ := Lib.hid hr
        have FJ := Lib.hid hf
        have OJ := Lib.hid ho
        have c1 := so_c1 hf
        clear hi_ hr hf ho
        cases k with
        | succ j =>
          have ej : (((j + 1 : Nat) : Int) - 1) = (j : Int) := by omega
          rw [ej]
          clear ej
          go_wp2_with fail
          obtain ⟨w2, hs, hi2, hr2⟩ := E.swap dj wr a (a + j) IJ.out (by omega) (by omega)
          rw [show ((a + j : Nat) : Int) = (a : Int) + (j : Int) by omega] at hs
          rw [hs, Oper.upon_value]
          have I3 := Lib.hid hi2
          have F3 := Lib.hid (E.rbox _ _ _ hr2 FJ.out)
          have R3 := Lib.hid (E.rt _ _ _ RJ.out hr2)
          clear hs hi2 hr2 c1
          have SD := so_sift E w2 (swp dj a (a + j)) 0 j a I3.out (Nat.zero_le _) (by omega)
          go_wp2_with ((with_reducible show wpList _ _ _ _ _ _); (refine wpList_load_row rfl 121 (.tmp 3) rfl b0 rfl 121 (soL lf lb sf sb).toArray (0, 0) _ F3.out Tryz.underlying121 rfl (by rw [SZ.out]; kernel_rfl) ?_; go_frame))
          refine SD.mono ?_
          rintro e w4 ⟨rfl, i2, r2⟩
          have I2 := Lib.hid i2
          have F2 := Lib.hid (E.rbox _ _ _ r2 F3.out)
          have R2 := Lib.hid (E.rt _ _ _ R3.out r2)
          clear i2 r2 SD
          go_wp2_with fail
          go_roundw
          case rel => exact ⟨j, _, rfl, by omega, I2.out, R2.out, F2.out, by rw [← OJ.out]; rfl⟩
          case measure => simp [intOf]
        | zero =>
          have e0 : (((0 : Nat) : Int) - 1) = -1 := by omega
          rw [e0]
          clear e0 hk c1
          go_wp2_with fail
          go_end0
          refine ⟨rfl, ?_, RJ.out⟩
          have e1 : Sort.heapSort lt d a b = dj := by
            unfold Sort.heapSort
            rw [← HE.out, ← KE.out, ← OK2.out, ← OJ.out]
            rfl
          rw [e1]
          exact IJ.out
end Go.Proofs.YtbgagaaoldjhnaaGreatDoor.Sha

/-
  The library's choice of a pivot over a row, its comparison being free to lay blocks. Conditions: those of SoE.
-/
namespace Go.Proofs.YtbgagaaoldjhnaaGreatDoor.Sha
open Go Go.RowKit
open Go.Sort (swp order2 median medianAdjacent choosePivot Hint)
theorem so_o2 {α : Type} [Inhabited α] (lt : α → α → Bool) (d : Array α) {a b S n : Nat} (ha : a < n) (hb : b < n) : (order2 lt d a b S).1 < n ∧ (order2 lt d a b S).2.1 < n ∧ (order2 lt d a b S).2.2 ≤ S + 1 := by
  unfold order2
  split
  · exact ⟨hb, ha, Nat.le_refl _⟩
  · exact ⟨ha, hb, Nat.le_succ _⟩
theorem so_md {α : Type} [Inhabited α] (lt : α → α → Bool) (d : Array α) {a b c S n : Nat} (ha : a < n) (hb : b < n) (hc : c < n) : (median lt d a b c S).1 < n ∧ (median lt d a b c S).2 ≤ S + 3 := by
  have h1 := so_o2 lt d (S := S) ha hb
  have h2 := so_o2 lt d (S := (order2 lt d a b S).2.2) h1.2.1 hc
  have h3 := so_o2 lt d (S := (order2 lt d (order2 lt d a b S).2.1 c (order2 lt d a b S).2.2).2.2) h1.1 h2.1
  unfold median
  exact ⟨h3.2.1, Nat.le_trans h3.2.2 (by omega)⟩
/-- What a call that counts exchanges leaves: all from w0 on may turn; the counter in block s. -/
structure SoC (w0 : World) (s : Nat) (W w' : World) (S : Nat) : Prop where
  low : Below w0.heap.size w0 w'
  cnt : w'.heap[s]? = some (.cells #[.int .i64 (S : Int)] 3 (0, 0))
  far : W.grownBy w' (some s)
theorem SoC.trans {w0 W W1 W2 : World} {s S S2 : Nat} (h : SoC w0 s W W1 S) (k : SoC w0 s W1 W2 S2) : SoC w0 s W W2 S2 := ⟨k.low, k.cnt, grownBy_trans h.far k.far⟩
theorem SoC.below {w0 W W1 W2 : World} {s S : Nat} (h : SoC w0 s W W1 S) (hb : Below W1.heap.size W1 W2) : SoC w0 s W W2 S := ⟨h.low.trans (hb.mono h.low.size), row_below h.cnt hb, grownBy_trans h.far (grownBy_of_below hb _)⟩
theorem SoC.box {w0 W W1 : World} {s S : Nat} (h : SoC w0 s W W1 S) {b : Nat} {cs : Array Value} {T : TypeId} (hb : W.heap[b]? = some (.cells cs T (0, 0))) (hs : b ≠ s) : W1.heap[b]? = some (.cells cs T (0, 0)) := row_far hb h.far (fun e => hs (Option.some.inj e).symm)
set_option maxHeartbeats 2000000 in
set_option maxRecDepth 100000 in
theorem so_order2 {α : Type} [Inhabited α] {lt : α → α → Bool} {n lf sf : Nat} {lb sb : Array Value} (E : SoE α lt n lf lb sf sb) (w0 w : World) (d : Array α) (a b S s : Nat) (hI : E.I d w0) (hlo : Below w0.heap.size w0 w) (hs : w.heap[s]? = some (.cells #[.int .i64 (S : Int)] 3 (0, 0))) (hns : w0.heap.size ≤ s) (ha : a < n) (hb : b < n) (hS : S ≤ 1000) :
    Calls Tryz.prog 118 #[(.agg (soL lf lb sf sb).toArray), .int .i64 (a : Int), .int .i64 (b : Int), .pointer (some ⟨s, 0, none⟩)] w fun e w' => e = .returned (.tuple #[.int .i64 ((order2 lt d a b S).1 : Int), .int .i64 ((order2 lt d a b S).2.1 : Int)]) ∧ SoC w0 s w w' (order2 lt d a b S).2.2 := by
  have eg := E.eg
  have HI := Lib.hid hI
  have LO := Lib.hid hlo
  have SR := Lib.hid hs
  have NS := Lib.hid hns
  have NL := Lib.hid E.le
  go_enter Tryz.func118, Tryz.ntmps118
  go_upto_region 1 with fail
  have f0 := heap_alloc_new w (.cells (soL lf lb sf sb).toArray 121 (0, 0))
  have bb := (Below.refl w.heap.size w).alloc (Nat.le_refl _) (.cells (soL lf lb sf sb).toArray 121 (0, 0))
  generalize hq : World.alloc _ _ = w1
  have eq : w.alloc (.cells (soL lf lb sf sb).toArray 121 (0, 0)) = w1 := hq
  rw [eq] at f0 bb
  obtain ⟨b0, hb0⟩ : ∃ b0, b0 = w.heap.size := ⟨_, rfl⟩
  rw [← hb0] at f0 ⊢
  have F0 := Lib.hid f0
  have C1 : Hid (SoC w0 s w w1 S) := (⟨LO.out, SR.out, ⟨rfl, rfl, rfl, Nat.le_refl _, fun _ _ _ => rfl⟩⟩ : SoC w0 s w w S).below bb
  clear f0 bb hq eq hb0 hI hlo hs hns
  have hl := E.less d w1 b a (E.below _ _ _ HI.out C1.out.low) hb ha
  have c0 := so_c0 F0.out
  cases hv : lt d[b]! d[a]! with
  | true =>
    have OE : Hid (order2 lt d a b S = (b, a, S + 1)) := by show _ = _; unfold order2; rw [hv]; rfl
    rw [hv] at hl
    have sle : S ≤ 1000 := hS
    go_wp2_with (first | (go_at_fn lf; refine hl.mono ?_; rintro e w2 ⟨rfl, bb⟩; have C2 := Lib.hid (C1.out.below bb); have cS : w2.cell? ⟨s, 0, none⟩ = some (.int .i64 (S : Int)) := (by rw [cell_of_row _ _ _ _ _ _ C2.out.cnt]; rfl); clear bb) | ((with_reducible show wpList _ _ _ _ _ _); refine wpList_store_part rfl 3 (.tmp 19) (.tmp 18) rfl s 0 [] [.int .i64 (S : Int)] [] [.int .i64 (((S + 1 : Nat) : Int))] 3 (.int .i64 (((S + 1 : Nat) : Int))) rfl (by go_num) rfl rfl rfl C2.out.cnt (by kernel_rfl) (fun u hu => by rcases List.mem_singleton.1 hu with rfl; rfl) ?_; intro w3 q1 q2; have C3 : Hid (SoC w0 s w w3 (S + 1)) := ⟨C2.out.low.grown q2 C2.out.low.size (fun k hk => by cases hk; exact NS.out), q1, grownBy_trans C2.out.far q2⟩; clear q1 q2; go_frame))
    go_ret2
    rw [OE.out]
    exact ⟨rfl, C3.out⟩
  | false =>
    have OE : Hid (order2 lt d a b S = (a, b, S)) := by show _ = _; unfold order2; rw [hv]; rfl
    rw [hv] at hl
    go_wp2_with (go_at_fn lf; refine hl.mono ?_; rintro e w2 ⟨rfl, bb⟩; have C2 := Lib.hid (C1.out.below bb); clear bb)
    go_ret2
    rw [OE.out]
    exact ⟨rfl, C2.out⟩
set_option maxHeartbeats 2000000 in
set_option maxRecDepth 100000 in
theorem so_median {α : Type} [Inhabited α] {lt : α → α → Bool} {n lf sf : Nat} {lb sb : Array Value} (E : SoE α lt n lf lb sf sb) (w0 w : World) (d : Array α) (a b c S s : Nat) (hI : E.I d w0) (hlo : Below w0.heap.size w0 w) (hs : w.heap[s]? = some (.cells #[.int .i64 (S : Int)] 3 (0, 0))) (hns : w0.heap.size ≤ s) (ha : a < n) (hb : b < n) (hc : c < n) (hS : S ≤ 996) :
    Calls Tryz.prog 110 #[(.agg (soL lf lb sf sb).toArray), .int .i64 (a : Int), .int .i64 (b : Int), .int .i64 (c : Int), .pointer (some ⟨s, 0, none⟩)] w fun e w' => e = .returned (.int .i64 ((median lt d a b c S).1 : Int)) ∧ SoC w0 s w w' (median lt d a b c S).2 := by
  have SZ : Hid ((soL lf lb sf sb).toArray.size = 2) := rfl
  have HI := Lib.hid hI
  have NS := Lib.hid hns
  have B0 : Hid (S ≤ 996 + 0) := hS
  go_enter Tryz.func110, Tryz.ntmps110
  go_upto_region 1 with fail
  have f0 := heap_alloc_new w (.cells (soL lf lb sf sb).toArray 121 (0, 0))
  have bb := (Below.refl w.heap.size w).alloc (Nat.le_refl _) (.cells (soL lf lb sf sb).toArray 121 (0, 0))
  generalize hq : World.alloc _ _ = w1
  have eq : w.alloc (.cells (soL lf lb sf sb).toArray 121 (0, 0)) = w1 := hq
  rw [eq] at f0 bb
  obtain ⟨b0, hb0⟩ : ∃ b0, b0 = w.heap.size := ⟨_, rfl⟩
  rw [← hb0] at f0 ⊢
  have F0 := Lib.hid f0
  have C1 : Hid (SoC w0 s w w1 S) := (⟨hlo, hs, ⟨rfl, rfl, rfl, Nat.le_refl _, fun _ _ _ => rfl⟩⟩ : SoC w0 s w w S).below bb
  have NB : Hid (b0 ≠ s) := by have := (Array.getElem?_eq_some_iff.1 hs).1; show _ ≠ _; omega
  clear f0 bb hq eq hb0
  clear hI hlo hs hns hS
  have OC := so_order2 E w0 w1 d a b S s HI.out C1.out.low C1.out.cnt NS.out ha hb (by have := B0.out; omega)
  obtain ⟨x0, y0, S0, ho⟩ : ∃ x y S', order2 lt d a b S = (x, y, S') := ⟨_, _, _, rfl⟩
  have OB := so_o2 lt d (S := S) ha hb
  rw [ho] at OC OB
  simp only at OC OB
  have O0 := Lib.hid ho
  have X0 : Hid (x0 < n) := OB.1
  have Y0 : Hid (y0 < n) := OB.2.1
  have B1 : Hid (S0 ≤ 996 + 1) := by have := OB.2.2; have := B0.out; show _ ≤ _; omega
  clear ho OB
  go_wp2_with ((with_reducible show wpList _ _ _ _ _ _); (refine wpList_load_row rfl 121 (.tmp 5) rfl b0 rfl 121 (soL lf lb sf sb).toArray (0, 0) _ F0.out Tryz.underlying121 rfl (by rw [SZ.out]; kernel_rfl) ?_; go_frame))
  refine OC.mono ?_
  rintro e w2 ⟨rfl, cc⟩
  have FA := Lib.hid (cc.box F0.out NB.out)
  have CA := Lib.hid (C1.out.trans cc)
  clear cc OC
  have OC := so_order2 E w0 w2 d y0 c S0 s HI.out CA.out.low CA.out.cnt NS.out Y0.out hc (by have := B1.out; omega)
  obtain ⟨x1, y1, S1, ho⟩ : ∃ x y S', order2 lt d y0 c S0 = (x, y, S') := ⟨_, _, _, rfl⟩
  have OB := so_o2 lt d (S := S0) Y0.out hc
  rw [ho] at OC OB
  simp only at OC OB
  have O1 := Lib.hid ho
  have X1 : Hid (x1 < n) := OB.1
  have Y1 : Hid (y1 < n) := OB.2.1
  have B2 : Hid (S1 ≤ 996 + 2) := by have := OB.2.2; have := B1.out; show _ ≤ _; omega
  clear ho OB
  go_wp2_with ((with_reducible show wpList _ _ _ _ _ _); (refine wpList_load_row rfl 121 (.tmp 5) rfl b0 rfl 121 (soL lf lb sf sb).toArray (0, 0) _ FA.out Tryz.underlying121 rfl (by rw [SZ.out]; kernel_rfl) ?_; go_frame))
  refine OC.mono ?_
  rintro e w3 ⟨rfl, cc⟩
  have FB := Lib.hid (cc.box FA.out NB.out)
  have CB := Lib.hid (CA.out.trans cc)
  clear cc OC
  have OC := so_order2 E w0 w3 d x0 x1 S1 s HI.out CB.out.low CB.out.cnt NS.out X0.out X1.out (by have := B2.out; omega)
  obtain ⟨x2, y2, S2, ho⟩ : ∃ x y S', order2 lt d x0 x1 S1 = (x, y, S') := ⟨_, _, _, rfl⟩
  have OB := so_o2 lt d (S := S1) X0.out X1.out
  rw [ho] at OC OB
  simp only at OC OB
  have O2 := Lib.hid ho
  have X2 : Hid (x2 < n) := OB.1
  have Y2 : Hid (y2 < n) := OB.2.1
  have B3 : Hid (S2 ≤ 996 + 3) := by have := OB.2.2; have := B2.out; show _ ≤ _; omega
  clear ho OB
  go_wp2_with ((with_reducible show wpList _ _ _ _ _ _); (refine wpList_load_row rfl 121 (.tmp 5) rfl b0 rfl 121 (soL lf lb sf sb).toArray (0, 0) _ FB.out Tryz.underlying121 rfl (by rw [SZ.out]; kernel_rfl) ?_; go_frame))
  refine OC.mono ?_
  rintro e w4 ⟨rfl, cc⟩
  have FC := Lib.hid (cc.box FB.out NB.out)
  have CC := Lib.hid (CB.out.trans cc)
  clear cc OC
  go_wp2_with fail
  go_ret
  have e1 : median lt d a b c S = (y2, S2) := by
    unfold median
    rw [O0.out]
    simp only
    rw [O1.out]
    simp only
    rw [O2.out]
  rw [e1]
  exact ⟨rfl, CC.out⟩
set_option maxHeartbeats 2000000 in
set_option maxRecDepth 100000 in
theorem so_medadj {α : Type} [Inhabited α] {lt : α → α → Bool} {n lf sf : Nat} {lb sb : Array Value} (E : SoE α lt n lf lb sf sb) (w0 w : World) (d : Array α) (a S s : Nat) (hI : E.I d w0) (hlo : Below w0.heap.size w0 w) (hs : w.heap[s]? = some (.cells #[.int .i64 (S : Int)] 3 (0, 0))) (hns : w0.heap.size ≤ s) (ha : 1 ≤ a) (hb : a + 1 < n) (hS : S ≤ 996) :
    Calls Tryz.prog 109 #[(.agg (soL lf lb sf sb).toArray), .int .i64 (a : Int), .pointer (some ⟨s, 0, none⟩)] w fun e w' => e = .returned (.int .i64 ((medianAdjacent lt d a S).1 : Int)) ∧ SoC w0 s w w' (medianAdjacent lt d a S).2 := by
  have SZ : Hid ((soL lf lb sf sb).toArray.size = 2) := rfl
  have NL := E.le
  go_enter Tryz.func109, Tryz.ntmps109
  go_upto_region 1 with fail
  have f0 := heap_alloc_new w (.cells (soL lf lb sf sb).toArray 121 (0, 0))
  have bb := (Below.refl w.heap.size w).alloc (Nat.le_refl _) (.cells (soL lf lb sf sb).toArray 121 (0, 0))
  generalize hq : World.alloc _ _ = w1
  have eq : w.alloc (.cells (soL lf lb sf sb).toArray 121 (0, 0)) = w1 := hq
  rw [eq] at f0 bb
  obtain ⟨b0, hb0⟩ : ∃ b0, b0 = w.heap.size := ⟨_, rfl⟩
  rw [← hb0] at f0 ⊢
  have F0 := Lib.hid f0
  have C1 : Hid (SoC w0 s w w1 S) := (⟨hlo, hs, ⟨rfl, rfl, rfl, Nat.le_refl _, fun _ _ _ => rfl⟩⟩ : SoC w0 s w w S).below bb
  have NB : Hid (b0 ≠ s) := by have := (Array.getElem?_eq_some_iff.1 hs).1; show _ ≠ _; omega
  clear f0 bb hq eq hb0
  have OC := so_median E w0 w1 d (a - 1) a (a + 1) S s hI C1.out.low C1.out.cnt hns (by omega) (by omega) hb hS
  rw [show (((a - 1 : Nat) : Int)) = (a : Int) - 1 by omega, show (((a + 1 : Nat) : Int)) = (a : Int) + 1 by omega] at OC
  clear hI hlo hs hns hS
  go_wp2_with ((with_reducible show wpList _ _ _ _ _ _); (refine wpList_load_row rfl 121 (.tmp 3) rfl b0 rfl 121 (soL lf lb sf sb).toArray (0, 0) _ F0.out Tryz.underlying121 rfl (by rw [SZ.out]; kernel_rfl) ?_; go_frame))
  refine OC.mono ?_
  rintro e w2 ⟨rfl, cc⟩
  have C2 := Lib.hid (C1.out.trans cc)
  clear cc OC
  go_wp2_with fail
  go_ret
  exact ⟨rfl, C2.out⟩
end Go.Proofs.YtbgagaaoldjhnaaGreatDoor.Sha

/-
  The library's choice of a pivot, whole. Conditions: those of SoE.
-/
namespace Go.Proofs.YtbgagaaoldjhnaaGreatDoor.Sha
open Go Go.RowKit
open Go.Sort (swp order2 median medianAdjacent choosePivot Hint)
def hintC : Hint → Nat
  | .unknown => 0
  | .increasing => 1
  | .decreasing => 2
def hintOf (S : Nat) : Hint := if S = 0 then .increasing else if S = 12 then .decreasing else .unknown
theorem choose_eq {α : Type} [Inhabited α] (lt : α → α → Bool) (d : Array α) (a b : Nat) : choosePivot lt d a b = (fun r : Nat × Nat => (r.1, hintOf r.2)) (if b - a ≥ 8 then (if b - a ≥ 50 then median lt d (medianAdjacent lt d (a + (b - a) / 4 * 1) 0).1 (medianAdjacent lt d (a + (b - a) / 4 * 2) (medianAdjacent lt d (a + (b - a) / 4 * 1) 0).2).1 (medianAdjacent lt d (a + (b - a) / 4 * 3) (medianAdjacent lt d (a + (b - a) / 4 * 2) (medianAdjacent lt d (a + (b - a) / 4 * 1) 0).2).2).1 (medianAdjacent lt d (a + (b - a) / 4 * 3) (medianAdjacent lt d (a + (b - a) / 4 * 2) (medianAdjacent lt d (a + (b - a) / 4 * 1) 0).2).2).2 else median lt d (a + (b - a) / 4 * 1) (a + (b - a) / 4 * 2) (a + (b - a) / 4 * 3) 0) else (a + (b - a) / 4 * 2, 0)) := rfl
set_option maxHeartbeats 4000000 in
set_option maxRecDepth 100000 in
theorem so_choose {α : Type} [Inhabited α] {lt : α → α → Bool} {n lf sf : Nat} {lb sb : Array Value} (E : SoE α lt n lf lb sf sb) (w : World) (d : Array α) (a b : Nat) (hI : E.I d w) (hab : a < b) (hb : b ≤ n) :
    Calls Tryz.prog 92 #[(.agg (soL lf lb sf sb).toArray), .int .i64 (a : Int), .int .i64 (b : Int)] w fun e w' => e = .returned (.tuple #[.int .i64 ((choosePivot lt d a b).1 : Int), .int .i64 (hintC (choosePivot lt d a b).2 : Int)]) ∧ E.I d w' ∧ E.R w w' := by
  have SZ : Hid ((soL lf lb sf sb).toArray.size = 2) := rfl
  have HI := Lib.hid hI
  have NL := Lib.hid E.le
  have CE := Lib.hid (choose_eq lt d a b)
  obtain ⟨l, hl⟩ : ∃ l, l = b - a := ⟨_, rfl⟩
  obtain ⟨q, hq⟩ : ∃ q, q = l / 4 := ⟨_, rfl⟩
  rw [← hl] at CE
  rw [← hq] at CE
  obtain ⟨i, hi⟩ : ∃ i, i = a + q * 1 := ⟨_, rfl⟩
  obtain ⟨j, hj⟩ : ∃ j, j = a + q * 2 := ⟨_, rfl⟩
  obtain ⟨k, hk⟩ : ∃ k, k = a + q * 3 := ⟨_, rfl⟩
  rw [← hi, ← hj, ← hk] at CE
  have EL : Hid ((b : Int) - (a : Int) = (l : Int)) := by show _ = _; omega
  have EQ : Hid ((l : Int).tdiv 4 = (q : Int)) := by show _ = _; rw [Int.tdiv_eq_ediv_of_nonneg (by omega)]; omega
  have EI : Hid ((a : Int) + (q : Int) = (i : Int)) := by show _ = _; omega
  have EJ : Hid ((a : Int) + (q : Int) * 2 = (j : Int)) := by show _ = _; omega
  have EK : Hid ((a : Int) + (q : Int) * 3 = (k : Int)) := by show _ = _; omega
  have IB : Hid (i < n ∧ j < n ∧ k < n ∧ (50 ≤ l → 1 ≤ i ∧ 1 ≤ j ∧ 1 ≤ k ∧ i + 1 < n ∧ j + 1 < n ∧ k + 1 < n)) := by show _ ∧ _; omega
  have QB : Hid (q ≤ 1048576 ∧ l ≤ 1048576 ∧ a ≤ 1048576) := by have := NL.out; show _ ∧ _; omega
  clear hl hq hi hj hk
  go_enter Tryz.func92, Tryz.ntmps92
  go_upto_region 1 with fail
  have f0 := heap_alloc_new w (.cells (soL lf lb sf sb).toArray 121 (0, 0))
  have bb := (Below.refl w.heap.size w).alloc (Nat.le_refl _) (.cells (soL lf lb sf sb).toArray 121 (0, 0))
  generalize hq : World.alloc _ _ = w1
  have eq : w.alloc (.cells (soL lf lb sf sb).toArray 121 (0, 0)) = w1 := hq
  rw [eq] at f0 bb
  obtain ⟨b0, hb0⟩ : ∃ b0, b0 = w.heap.size := ⟨_, rfl⟩
  rw [← hb0] at f0 ⊢
  have F0 := Lib.hid f0
  have B1 := Lib.hid bb
  clear f0 bb hq eq hb0
  have nl := NL.out
  go_upto_region 2 with fail
  rw [EL.out]
  clear hab hb nl
  go_upto_region 3 with fail
  have f0 := heap_alloc_new w1 (.cells #[.int .i64 0] 3 (0, 0))
  have bb := (Below.refl w1.heap.size w1).alloc (Nat.le_refl _) (.cells #[.int .i64 0] 3 (0, 0))
  generalize hq : World.alloc _ _ = w2
  have eq : w1.alloc (.cells #[.int .i64 0] 3 (0, 0)) = w2 := hq
  rw [eq] at f0 bb
  obtain ⟨s, hs0⟩ : ∃ s, s = w1.heap.size := ⟨_, rfl⟩
  rw [← hs0] at f0 ⊢
  have NB : Hid (b0 ≠ s) := by have := (Array.getElem?_eq_some_iff.1 F0.out).1; show _ ≠ _; omega
  have NS : Hid (w.heap.size ≤ s) := by show _ ≤ _; rw [hs0]; exact B1.out.size
  have FS : Hid (w2.heap[s]? = some (.cells #[.int .i64 ((0 : Nat) : Int)] 3 (0, 0))) := f0
  have F0 := Lib.hid (row_below F0.out bb)
  have C0 : Hid (SoC w s w2 w2 0) := ⟨B1.out.trans (bb.mono B1.out.size), f0, ⟨rfl, rfl, rfl, Nat.le_refl _, fun _ _ _ => rfl⟩⟩
  clear f0 bb hq eq hs0 B1 FS
  have qb := QB.out
  have eqq := EQ.out
  go_upto_region 6 with fail
  rw [EI.out, EJ.out, EK.out]
  clear eqq EI EJ EK EQ EL
  have HN := Lib.hid hI
  clear hI qb
  rcases Nat.lt_or_ge l 8 with h8 | h8
  · have E1 : Hid (choosePivot lt d a b = (j, hintOf 0)) := by show _ = _; rw [CE.out, if_neg (by omega)]
    clear CE
    have cS : w2.cell? ⟨s, 0, none⟩ = some (.int .i64 ((0 : Nat) : Int)) := by rw [cell_of_row _ _ _ _ _ _ C0.out.cnt]; rfl
    have IE := Lib.hid (E.below _ _ _ HI.out C0.out.low)
    have RE := Lib.hid (E.rb _ _ C0.out.low)
    go_wp2_with fail
    go_ret2
    rw [E1.out]
    exact ⟨rfl, IE.out, RE.out⟩
  rcases Nat.lt_or_ge l 50 with h5 | h5
  · have Z0 : Hid (0 ≤ 996) := Nat.zero_le _
    have OC := so_median E w w2 d i j k 0 s HI.out C0.out.low C0.out.cnt NS.out IB.out.1 IB.out.2.1 IB.out.2.2.1 (by have := Z0.out; omega)
    obtain ⟨p, S1, ho⟩ : ∃ x S', median lt d i j k 0 = (x, S') := ⟨_, _, rfl⟩
    rw [ho] at OC
    simp only at OC
    have Op := Lib.hid ho
    clear ho
    go_wp2_with ((with_reducible show wpList _ _ _ _ _ _); (refine wpList_load_row rfl 121 (.tmp 3) rfl b0 rfl 121 (soL lf lb sf sb).toArray (0, 0) _ F0.out Tryz.underlying121 rfl (by rw [SZ.out]; kernel_rfl) ?_; go_frame))
    refine OC.mono ?_
    rintro e w3 ⟨rfl, cc⟩
    have Fp := Lib.hid (cc.box F0.out NB.out)
    have Cp := Lib.hid (C0.out.trans cc)
    clear cc OC
    have E1 : Hid (choosePivot lt d a b = (p, hintOf S1)) := by show _ = _; rw [CE.out, if_pos (by omega), if_neg (by omega), Op.out]
    clear CE Op
    have cS : w3.cell? ⟨s, 0, none⟩ = some (.int .i64 (S1 : Int)) := by rw [cell_of_row _ _ _ _ _ _ Cp.out.cnt]; rfl
    have IE := Lib.hid (E.below _ _ _ HI.out Cp.out.low)
    have RE := Lib.hid (E.rb _ _ Cp.out.low)
    by_cases h0 : S1 = 0
    · subst h0
      go_wp2_with fail
      go_ret2
      rw [E1.out]
      exact ⟨rfl, IE.out, RE.out⟩
    by_cases h12 : S1 = 12
    · subst h12
      go_wp2_with fail
      go_ret2
      rw [E1.out]
      exact ⟨rfl, IE.out, RE.out⟩
    have hh : hintOf S1 = .unknown := by unfold hintOf; rw [if_neg h0, if_neg h12]
    go_wp2_with fail
    go_ret2
    rw [E1.out, hh]
    exact ⟨rfl, IE.out, RE.out⟩
  · have Z0 : Hid (0 ≤ 996) := Nat.zero_le _
    have OC := so_medadj E w w2 d i 0 s HI.out C0.out.low C0.out.cnt NS.out (by have := IB.out.2.2.2 h5; omega) (by have := IB.out.2.2.2 h5; omega) (by have := Z0.out; omega)
    obtain ⟨p, S1, ho⟩ : ∃ x S', medianAdjacent lt d i 0 = (x, S') := ⟨_, _, rfl⟩
    rw [ho] at OC
    simp only at OC
    have Op := Lib.hid ho
    clear ho
    go_wp2_with ((with_reducible show wpList _ _ _ _ _ _); (refine wpList_load_row rfl 121 (.tmp 3) rfl b0 rfl 121 (soL lf lb sf sb).toArray (0, 0) _ F0.out Tryz.underlying121 rfl (by rw [SZ.out]; kernel_rfl) ?_; go_frame))
    refine OC.mono ?_
    rintro e w3 ⟨rfl, cc⟩
    have Fp := Lib.hid (cc.box F0.out NB.out)
    have Cp := Lib.hid (C0.out.trans cc)
    clear cc OC
    have MB := so_md lt d (S := 0) (a := i - 1) (b := i) (c := i + 1) (n := n) (by have := IB.out.2.2.2 h5; omega) (by have := IB.out.2.2.2 h5; omega) (by have := IB.out.2.2.2 h5; omega)
    have Np : Hid (p < n ∧ S1 ≤ 3) := by have ho := Op.out; unfold medianAdjacent at ho; rw [ho] at MB; simp only at MB; have := Z0.out; exact ⟨MB.1, by omega⟩
    clear MB
    have Z1 : Hid (S1 ≤ 996) := by have := Np.out.2; show _ ≤ _; omega
    have OC := so_medadj E w w3 d j S1 s HI.out Cp.out.low Cp.out.cnt NS.out (by have := IB.out.2.2.2 h5; omega) (by have := IB.out.2.2.2 h5; omega) (by have := Z1.out; omega)
    obtain ⟨r, S2, ho⟩ : ∃ x S', medianAdjacent lt d j S1 = (x, S') := ⟨_, _, rfl⟩
    rw [ho] at OC
    simp only at OC
    have Or := Lib.hid ho
    clear ho
    go_wp2_with ((with_reducible show wpList _ _ _ _ _ _); (refine wpList_load_row rfl 121 (.tmp 3) rfl b0 rfl 121 (soL lf lb sf sb).toArray (0, 0) _ Fp.out Tryz.underlying121 rfl (by rw [SZ.out]; kernel_rfl) ?_; go_frame))
    refine OC.mono ?_
    rintro e w4 ⟨rfl, cc⟩
    have Fr := Lib.hid (cc.box Fp.out NB.out)
    have Cr := Lib.hid (Cp.out.trans cc)
    clear cc OC
    have MB := so_md lt d (S := S1) (a := j - 1) (b := j) (c := j + 1) (n := n) (by have := IB.out.2.2.2 h5; omega) (by have := IB.out.2.2.2 h5; omega) (by have := IB.out.2.2.2 h5; omega)
    have Nr : Hid (r < n ∧ S2 ≤ 6) := by have ho := Or.out; unfold medianAdjacent at ho; rw [ho] at MB; simp only at MB; have := Np.out.2; exact ⟨MB.1, by omega⟩
    clear MB
    have Z2 : Hid (S2 ≤ 996) := by have := Nr.out.2; show _ ≤ _; omega
    have OC := so_medadj E w w4 d k S2 s HI.out Cr.out.low Cr.out.cnt NS.out (by have := IB.out.2.2.2 h5; omega) (by have := IB.out.2.2.2 h5; omega) (by have := Z2.out; omega)
    obtain ⟨t, S3, ho⟩ : ∃ x S', medianAdjacent lt d k S2 = (x, S') := ⟨_, _, rfl⟩
    rw [ho] at OC
    simp only at OC
    have Ot := Lib.hid ho
    clear ho
    go_wp2_with ((with_reducible show wpList _ _ _ _ _ _); (refine wpList_load_row rfl 121 (.tmp 3) rfl b0 rfl 121 (soL lf lb sf sb).toArray (0, 0) _ Fr.out Tryz.underlying121 rfl (by rw [SZ.out]; kernel_rfl) ?_; go_frame))
    refine OC.mono ?_
    rintro e w5 ⟨rfl, cc⟩
    have Ft := Lib.hid (cc.box Fr.out NB.out)
    have Ct := Lib.hid (Cr.out.trans cc)
    clear cc OC
    have MB := so_md lt d (S := S2) (a := k - 1) (b := k) (c := k + 1) (n := n) (by have := IB.out.2.2.2 h5; omega) (by have := IB.out.2.2.2 h5; omega) (by have := IB.out.2.2.2 h5; omega)
    have Nt : Hid (t < n ∧ S3 ≤ 9) := by have ho := Ot.out; unfold medianAdjacent at ho; rw [ho] at MB; simp only at MB; have := Nr.out.2; exact ⟨MB.1, by omega⟩
    clear MB
    have Z3 : Hid (S3 ≤ 996) := by have := Nt.out.2; show _ ≤ _; omega
    have OC := so_median E w w5 d p r t S3 s HI.out Ct.out.low Ct.out.cnt NS.out Np.out.1 Nr.out.1 Nt.out.1 (by have := Z3.out; omega)
    obtain ⟨u, S4, ho⟩ : ∃ x S', median lt d p r t S3 = (x, S') := ⟨_, _, rfl⟩
    rw [ho] at OC
    simp only at OC
    have Ou := Lib.hid ho
    clear ho
    go_wp2_with ((with_reducible show wpList _ _ _ _ _ _); (refine wpList_load_row rfl 121 (.tmp 3) rfl b0 rfl 121 (soL lf lb sf sb).toArray (0, 0) _ Ft.out Tryz.underlying121 rfl (by rw [SZ.out]; kernel_rfl) ?_; go_frame))
    refine OC.mono ?_
    rintro e w6 ⟨rfl, cc⟩
    have Fu := Lib.hid (cc.box Ft.out NB.out)
    have Cu := Lib.hid (Ct.out.trans cc)
    clear cc OC
    have E1 : Hid (choosePivot lt d a b = (u, hintOf S4)) := by
      show _ = _
      rw [CE.out, if_pos (by omega), if_pos (by omega), Op.out]
      simp only
      rw [Or.out]
      simp only
      rw [Ot.out]
      simp only
      rw [Ou.out]
    clear CE Op Or Ot Ou
    have cS : w6.cell? ⟨s, 0, none⟩ = some (.int .i64 (S4 : Int)) := by rw [cell_of_row _ _ _ _ _ _ Cu.out.cnt]; rfl
    have IE := Lib.hid (E.below _ _ _ HI.out Cu.out.low)
    have RE := Lib.hid (E.rb _ _ Cu.out.low)
    by_cases h0 : S4 = 0
    · subst h0
      go_wp2_with fail
      go_ret2
      rw [E1.out]
      exact ⟨rfl, IE.out, RE.out⟩
    by_cases h12 : S4 = 12
    · subst h12
      go_wp2_with fail
      go_ret2
      rw [E1.out]
      exact ⟨rfl, IE.out, RE.out⟩
    have hh : hintOf S4 = .unknown := by unfold hintOf; rw [if_neg h0, if_neg h12]
    go_wp2_with fail
    go_ret2
    rw [E1.out, hh]
    exact ⟨rfl, IE.out, RE.out⟩
end Go.Proofs.YtbgagaaoldjhnaaGreatDoor.Sha

/-
  The library's partition of a row about a value that many share, its comparison being free to lay blocks. Conditions: those of SoE.
-/
namespace Go.Proofs.YtbgagaaoldjhnaaGreatDoor.Sha
open Go Go.RowKit
open Go.Sort (swp)
set_option maxHeartbeats 8000000 in
set_option maxRecDepth 100000 in
theorem so_parteq {α : Type} [Inhabited α] {lt : α → α → Bool} {n lf sf : Nat} {lb sb : Array Value} (E : SoE α lt n lf lb sf sb) (w : World) (d : Array α) (a b pivot : Nat) (hI : E.I d w) (hap : a ≤ pivot) (hpb : pivot < b) (hb : b ≤ n) :
    Calls Tryz.prog 95 #[(.agg (soL lf lb sf sb).toArray), .int .i64 (a : Int), .int .i64 (b : Int), .int .i64 (pivot : Int)] w fun e w' => e = .returned (.int .i64 ((Sort.partitionEqual lt d a b pivot).1 : Int)) ∧ E.I (Sort.partitionEqual lt d a b pivot).2 w' ∧ E.R w w' := by
  have eg := E.eg
  have HI := Lib.hid hI
  have NL := Lib.hid E.le
  go_enter Tryz.func95, Tryz.ntmps95
  go_upto_region 1 with fail
  have f0 := heap_alloc_new w (.cells (soL lf lb sf sb).toArray 121 (0, 0))
  have bb := (Below.refl w.heap.size w).alloc (Nat.le_refl _) (.cells (soL lf lb sf sb).toArray 121 (0, 0))
  generalize hq : World.alloc _ _ = w1
  have eq : w.alloc (.cells (soL lf lb sf sb).toArray 121 (0, 0)) = w1 := hq
  rw [eq] at f0 bb
  obtain ⟨b0, hb0⟩ : ∃ b0, b0 = w.heap.size := ⟨_, rfl⟩
  rw [← hb0] at f0 ⊢
  have F0 := Lib.hid f0
  have I1 := Lib.hid (E.below _ _ _ hI bb)
  have R1 := Lib.hid (E.rb _ _ bb)
  clear f0 bb hq eq hb0 hI
  have nl := NL.out
  have c1 := so_c1 F0.out
  go_wp2_with fail
  obtain ⟨w2, hs, hi2, hr2⟩ := E.swap d w1 (a) (pivot) I1.out (by omega) (by omega)
  rw [hs, Oper.upon_value]
  have I2 := Lib.hid hi2
  have F2 := Lib.hid (E.rbox _ _ _ hr2 F0.out)
  have R2 := Lib.hid (E.rt _ _ _ R1.out hr2)
  clear hs hi2 hr2
  clear c1 I1 R1 F0 HI
  go_wp2_with fail
  go_loopw [9, 10] (fun vi vj wu => ∃ (i j : Nat) (dk : Array α), vi = .int .i64 (i : Int) ∧ vj = .int .i64 (j : Int) ∧ a < i ∧ i ≤ j + 1 ∧ j < b ∧ E.I dk wu ∧ E.R w wu ∧ wu.heap[b0]? = some (.cells (soL lf lb sf sb).toArray 121 (0, 0)) ∧ Hid (Sort.partEqLoop lt a i j dk = Sort.partEqLoop lt a (a + 1) (b - 1) (swp d a pivot))) (fun vi vj _ => (intOf vj).toNat + 1 - (intOf vi).toNat)
  case atStart => exact ⟨a + 1, b - 1, swp d a pivot, by go_num, by go_num, by omega, by omega, by omega, I2.out, R2.out, F2.out, rfl⟩
  case round =>
    clear I2 R2 F2
    obtain ⟨i, j, dk, rfl, rfl, hai, hij, hjb, hi_, hr_, hf_, HE⟩ := hrel
    have IK := Lib.hid hi_
    have RK := Lib.hid hr_
    have FK := Lib.hid hf_
    clear hi_ hr_ hf_
    go_wp2_with fail
    go_loopw [9] (fun vi wu => ∃ i' : Nat, vi = .int .i64 (i' : Int) ∧ i ≤ i' ∧ i' ≤ j + 1 ∧ E.I dk wu ∧ E.R w wu ∧ wu.heap[b0]? = some (.cells (soL lf lb sf sb).toArray 121 (0, 0)) ∧ Hid (Sort.scanUp (fun x => !lt dk[a]! x) dk j i' = Sort.scanUp (fun x => !lt dk[a]! x) dk j i)) (fun vi _ => j + 1 - (intOf vi).toNat)
    case atStart => exact ⟨i, rfl, Nat.le_refl _, by omega, IK.out, RK.out, FK.out, rfl⟩
    case round =>
      clear IK RK FK
      obtain ⟨i', rfl, hii, hij', hi_, hr_, hf_, hsc⟩ := hrel
      have IU := Lib.hid hi_
      have RU := Lib.hid hr_
      have FU := Lib.hid hf_
      have c0 := so_c0 hf_
      clear hi_ hr_ hf_
      by_cases hle : i' ≤ j
      · have hl := E.less dk wr a i' IU.out (by omega) (by omega)
        cases hlv : lt dk[a]! dk[i']! with
        | false =>
          rw [hlv] at hl
          go_wp2_with (go_at_fn lf; refine hl.mono ?_; rintro e wv ⟨rfl, bb⟩; have IV := Lib.hid (E.below _ _ _ IU.out bb); have FV := Lib.hid (row_below FU.out bb); have RV := Lib.hid (E.rt _ _ _ RU.out (E.rb _ _ bb)); clear bb)
          go_roundw
          case rel => exact ⟨i' + 1, by go_num, by omega, by omega, IV.out, RV.out, FV.out, (scanUp_go (fun x => !lt dk[a]! x) dk j i' hle (by simp [hlv])).symm.trans hsc.out⟩
          case measure => simp [intOf]; omega
        | true =>
          rw [hlv] at hl
          have hi2 : Hid (i' = Sort.scanUp (fun x => !lt dk[a]! x) dk j i) := (scanUp_end (fun x => !lt dk[a]! x) dk j i' (Or.inr (by simp [hlv]))).symm.trans hsc.out
          clear hsc
          go_wp2_with (go_at_fn lf; refine hl.mono ?_; rintro e wv ⟨rfl, bb⟩; have IV := Lib.hid (E.below _ _ _ IU.out bb); have FV := Lib.hid (row_below FU.out bb); have RV := Lib.hid (E.rt _ _ _ RU.out (E.rb _ _ bb)); clear bb)
          clear hl c0 IU RU FU
          go_loopw [10] (fun vj wu => ∃ j' : Nat, vj = .int .i64 (j' : Int) ∧ j' ≤ j ∧ i' ≤ j' + 1 ∧ E.I dk wu ∧ E.R w wu ∧ wu.heap[b0]? = some (.cells (soL lf lb sf sb).toArray 121 (0, 0)) ∧ Hid (Sort.scanDown (fun x => lt dk[a]! x) dk i' j' = Sort.scanDown (fun x => lt dk[a]! x) dk i' j)) (fun vj _ => (intOf vj).toNat)
          case atStart => exact ⟨j, rfl, Nat.le_refl _, by omega, IV.out, RV.out, FV.out, rfl⟩
          case round =>
            clear IV RV FV
            obtain ⟨j', rfl, hjj, hij2, hi_, hr_, hf_, hsd⟩ := hrel
            have IX := Lib.hid hi_
            have RX := Lib.hid hr_
            have FX := Lib.hid hf_
            have c0 := so_c0 hf_
            have c1x := so_c1 hf_
            clear hi_ hr_ hf_
            by_cases hle2 : i' ≤ j'
            · have hl := E.less dk wr a j' IX.out (by omega) (by omega)
              cases hlv2 : lt dk[a]! dk[j']! with
              | true =>
                rw [hlv2] at hl
                go_wp2_with (go_at_fn lf; refine hl.mono ?_; rintro e wy ⟨rfl, bb⟩; have IY := Lib.hid (E.below _ _ _ IX.out bb); have FY := Lib.hid (row_below FX.out bb); have RY := Lib.hid (E.rt _ _ _ RX.out (E.rb _ _ bb)); clear bb)
                go_roundw
                case rel => exact ⟨j' - 1, by go_num, by omega, by omega, IY.out, RY.out, FY.out, (scanDown_go (fun x => lt dk[a]! x) dk i' j' hle2 (by omega) (by simp [hlv2])).symm.trans hsd.out⟩
                case measure => simp [intOf]; omega
              | false =>
                rw [hlv2] at hl
                have hj2 : Hid (j' = Sort.scanDown (fun x => lt dk[a]! x) dk i' j) := (scanDown_end (fun x => lt dk[a]! x) dk i' j' (Or.inr (by simp [hlv2]))).symm.trans hsd.out
                clear hsd
                go_wp2_with (go_at_fn lf; refine hl.mono ?_; rintro e wy ⟨rfl, bb⟩; have IY := Lib.hid (E.below _ _ _ IX.out bb); have FY := Lib.hid (row_below FX.out bb); have RY := Lib.hid (E.rt _ _ _ RX.out (E.rb _ _ bb)); have c1 := so_c1 FY.out; clear bb)
                clear hl c0 IX RX FX
                have hlt3 := Go.Proofs.scans_lt lt a i j dk (by omega) hi2.out hj2.out hle2
                obtain ⟨wz, hs, hi2, hr2⟩ := E.swap dk wy (i') (j') IY.out (by omega) (by omega)
                rw [hs, Oper.upon_value]
                have IZ := Lib.hid hi2
                have FZ := Lib.hid (E.rbox _ _ _ hr2 FY.out)
                have RZ := Lib.hid (E.rt _ _ _ RY.out hr2)
                clear hs hi2 hr2
                go_wp2_with fail
                go_roundw
                case rel => exact ⟨i' + 1, j' - 1, swp dk i' j', by go_num, by go_num, by omega, by omega, by omega, IZ.out, RZ.out, FZ.out, by rw [← HE.out]; exact (Go.Proofs.partEq_go lt a i j dk hi2.out hj2.out (by omega)).symm⟩
                case measure => simp [intOf]; omega
            · have hj2 : Hid (j' = Sort.scanDown (fun x => lt dk[a]! x) dk i' j) := (scanDown_end (fun x => lt dk[a]! x) dk i' j' (Or.inl hle2)).symm.trans hsd.out
              clear hsd
              go_wp2_with fail
              go_ret
              have e := Go.Proofs.partEq_break lt a i j dk hi2.out hj2.out (by omega)
              have e2 : Sort.partitionEqual lt d a b pivot = (i', dk) := by unfold Sort.partitionEqual; rw [← HE.out, e]
              rw [e2]
              exact ⟨rfl, IX.out, RX.out⟩
      · have hi2 : Hid (i' = Sort.scanUp (fun x => !lt dk[a]! x) dk j i) := (scanUp_end (fun x => !lt dk[a]! x) dk j i' (Or.inl hle)).symm.trans hsc.out
        clear hsc
        go_wp2_with fail
        clear c0
        have IV := IU
        have RV := RU
        have FV := FU
        clear IU RU FU
        go_loopw [10] (fun vj wu => ∃ j' : Nat, vj = .int .i64 (j' : Int) ∧ j' ≤ j ∧ i' ≤ j' + 1 ∧ E.I dk wu ∧ E.R w wu ∧ wu.heap[b0]? = some (.cells (soL lf lb sf sb).toArray 121 (0, 0)) ∧ Hid (Sort.scanDown (fun x => lt dk[a]! x) dk i' j' = Sort.scanDown (fun x => lt dk[a]! x) dk i' j)) (fun vj _ => (intOf vj).toNat)
        case atStart => exact ⟨j, rfl, Nat.le_refl _, by omega, IV.out, RV.out, FV.out, rfl⟩
        case round =>
          clear IV RV FV
          obtain ⟨j', rfl, hjj, hij2, hi_, hr_, hf_, hsd⟩ := hrel
          have IX := Lib.hid hi_
          have RX := Lib.hid hr_
          have FX := Lib.hid hf_
          have c0 := so_c0 hf_
          have c1x := so_c1 hf_
          clear hi_ hr_ hf_
          by_cases hle2 : i' ≤ j'
          · exfalso; omega
          · have hj2 : Hid (j' = Sort.scanDown (fun x => lt dk[a]! x) dk i' j) := (scanDown_end (fun x => lt dk[a]! x) dk i' j' (Or.inl hle2)).symm.trans hsd.out
            clear hsd
            go_wp2_with fail
            go_ret
            have e := Go.Proofs.partEq_break lt a i j dk hi2.out hj2.out (by omega)
            have e2 : Sort.partitionEqual lt d a b pivot = (i', dk) := by unfold Sort.partitionEqual; rw [← HE.out, e]
            rw [e2]
            exact ⟨rfl, IX.out, RX.out⟩
end Go.Proofs.YtbgagaaoldjhnaaGreatDoor.Sha
