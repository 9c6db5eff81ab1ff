/-
  Texts of this proof joined into one file: SoPart, SoPartial, SoRev, SoBreak. What each holds, and under which conditions, its own first sentence tells.
-/
import Derived.Sort.WalkC4
import Derived.Sort.WalkA6
import Derived.Sort.Walk7
import Derived.Shelf.SlSortFunc.Xorshift
import Derived.Shelf.GgSortFunc.Slice
import Derived.Test.YtbgagaaoldjhnaaGreatDoorMg14
import Derived.Test.YtbgagaaoldjhnaaGreatDoorMg05
/-
  The library's partition of a row about a value, its comparison being free to lay blocks. Conditions: those of SoE.
-/
namespace Go.Proofs.YtbgagaaoldjhnaaGreatDoor.Sha
open Go Go.RowKit
open Go.Sort (swp)
set_option maxHeartbeats 12000000 in
set_option maxRecDepth 100000 in
theorem so_part {α : Type} [Inhabited α] {lt : α → α → Bool} {n lf sf : Nat} {lb sb : Array Value} (E : SoE α lt n lf lb sf sb) (w : World) (d : Array α) (a b pivot : Nat) (hI : E.I d w) (hap : a ≤ pivot) (hpb : pivot < b) (hb : b ≤ n) :
    Calls Tryz.prog 96 #[(.agg (soL lf lb sf sb).toArray), .int .i64 (a : Int), .int .i64 (b : Int), .int .i64 (pivot : Int)] w fun e w' => e = .returned (.tuple #[.int .i64 ((Sort.partition lt d a b pivot).1 : Int), .bool (Sort.partition lt d a b pivot).2.1]) ∧ E.I (Sort.partition lt d a b pivot).2.2 w' ∧ E.R w w' := by
  have eg := E.eg
  have HI := Lib.hid hI
  have NL := Lib.hid E.le
  go_enter Tryz.func96, Tryz.ntmps96
  go_upto_region 1 with fail
  have f0 := heap_alloc_new w (.cells (soL lf lb sf sb).toArray 121 (0, 0))
  have bb := (Below.refl w.heap.size w).alloc (Nat.le_refl _) (.cells (soL lf lb sf sb).toArray 121 (0, 0))
  generalize hq : World.alloc _ _ = w1
  have eq : w.alloc (.cells (soL lf lb sf sb).toArray 121 (0, 0)) = w1 := hq
  rw [eq] at f0 bb
  obtain ⟨b0, hb0⟩ : ∃ b0, b0 = w.heap.size := ⟨_, rfl⟩
  rw [← hb0] at f0 ⊢
  have F0 := Lib.hid f0
  have I1 := Lib.hid (E.below _ _ _ hI bb)
  have R1 := Lib.hid (E.rb _ _ bb)
  clear f0 bb hq eq hb0 hI
  have nl := NL.out
  have c1 := so_c1 F0.out
  go_wp2_with fail
  obtain ⟨w2, hs, hi2, hr2⟩ := E.swap d w1 (a) (pivot) I1.out (by omega) (by omega)
  rw [hs, Oper.upon_value]
  have I2 := Lib.hid hi2
  have F2 := Lib.hid (E.rbox _ _ _ hr2 F0.out)
  have R2 := Lib.hid (E.rt _ _ _ R1.out hr2)
  clear hs hi2 hr2
  clear c1 I1 R1 F0 HI
  go_wp2_with fail
  obtain ⟨i, hi0⟩ : ∃ i, i = a + 1 := ⟨_, rfl⟩
  obtain ⟨j, hj0⟩ : ∃ j, j = b - 1 := ⟨_, rfl⟩
  obtain ⟨dk, hd0⟩ : ∃ dk, dk = swp d a pivot := ⟨_, rfl⟩
  rw [← hd0] at I2
  have EI : Hid ((a : Int) + 1 = (i : Int)) := by show _ = _; omega
  have EJ : Hid ((b : Int) - 1 = (j : Int)) := by show _ = _; omega
  rw [EI.out, EJ.out]
  have hai : a < i := by omega
  have hij : i ≤ j + 1 := by omega
  have hjb : j < b := by omega
  have HI0 := Lib.hid hi0
  have HJ0 := Lib.hid hj0
  have HD0 := Lib.hid hd0
  clear hi0 hj0 hd0 EI EJ
  go_loopw [10] (fun vi wu => ∃ i' : Nat, vi = .int .i64 (i' : Int) ∧ i ≤ i' ∧ i' ≤ j + 1 ∧ E.I dk wu ∧ E.R w wu ∧ wu.heap[b0]? = some (.cells (soL lf lb sf sb).toArray 121 (0, 0)) ∧ Hid (Sort.scanUp (fun x => lt x dk[a]!) dk j i' = Sort.scanUp (fun x => lt x dk[a]!) dk j i)) (fun vi _ => j + 1 - (intOf vi).toNat)
  case atStart => exact ⟨i, rfl, Nat.le_refl _, by omega, I2.out, R2.out, F2.out, rfl⟩
  case round =>
    clear I2 R2 F2
    obtain ⟨i', rfl, hii, hij', hi_, hr_, hf_, hsc⟩ := hrel
    have IU := Lib.hid hi_
    have RU := Lib.hid hr_
    have FU := Lib.hid hf_
    have c0 := so_c0 hf_
    clear hi_ hr_ hf_
    by_cases hle : i' ≤ j
    · have hl := E.less dk wr i' a IU.out (by omega) (by omega)
      cases hlv : lt dk[i']! dk[a]! with
      | true =>
        rw [hlv] at hl
        go_wp2_with (go_at_fn lf; refine hl.mono ?_; rintro e wv ⟨rfl, bb⟩; have IV := Lib.hid (E.below _ _ _ IU.out bb); have FV := Lib.hid (row_below FU.out bb); have RV := Lib.hid (E.rt _ _ _ RU.out (E.rb _ _ bb)); clear bb)
        go_roundw
        case rel => exact ⟨i' + 1, by go_num, by omega, by omega, IV.out, RV.out, FV.out, (scanUp_go (fun x => lt x dk[a]!) dk j i' hle (by simp [hlv])).symm.trans hsc.out⟩
        case measure => simp [intOf]; omega
      | false =>
        rw [hlv] at hl
        have hi2 : Hid (i' = Sort.scanUp (fun x => lt x dk[a]!) dk j i) := (scanUp_end (fun x => lt x dk[a]!) dk j i' (Or.inr (by simp [hlv]))).symm.trans hsc.out
        clear hsc
        go_wp2_with (go_at_fn lf; refine hl.mono ?_; rintro e wv ⟨rfl, bb⟩; have IV := Lib.hid (E.below _ _ _ IU.out bb); have FV := Lib.hid (row_below FU.out bb); have RV := Lib.hid (E.rt _ _ _ RU.out (E.rb _ _ bb)); clear bb)
        clear hl c0 IU RU FU
        go_loopw [11] (fun vj wu => ∃ j' : Nat, vj = .int .i64 (j' : Int) ∧ j' ≤ j ∧ i' ≤ j' + 1 ∧ E.I dk wu ∧ E.R w wu ∧ wu.heap[b0]? = some (.cells (soL lf lb sf sb).toArray 121 (0, 0)) ∧ Hid (Sort.scanDown (fun x => !lt x dk[a]!) dk i' j' = Sort.scanDown (fun x => !lt x dk[a]!) dk i' j)) (fun vj _ => (intOf vj).toNat)
        case atStart => exact ⟨j, rfl, Nat.le_refl _, by omega, IV.out, RV.out, FV.out, rfl⟩
        case round =>
          clear IV RV FV
          obtain ⟨j', rfl, hjj, hij2, hi_, hr_, hf_, hsd⟩ := hrel
          have IX := Lib.hid hi_
          have RX := Lib.hid hr_
          have FX := Lib.hid hf_
          have c0 := so_c0 hf_
          have c1x := so_c1 hf_
          clear hi_ hr_ hf_
          by_cases hle2 : i' ≤ j'
          · have hl := E.less dk wr j' a IX.out (by omega) (by omega)
            cases hlv2 : lt dk[j']! dk[a]! with
            | false =>
              rw [hlv2] at hl
              go_wp2_with (go_at_fn lf; refine hl.mono ?_; rintro e wy ⟨rfl, bb⟩; have IY := Lib.hid (E.below _ _ _ IX.out bb); have FY := Lib.hid (row_below FX.out bb); have RY := Lib.hid (E.rt _ _ _ RX.out (E.rb _ _ bb)); clear bb)
              go_roundw
              case rel => exact ⟨j' - 1, by go_num, by omega, by omega, IY.out, RY.out, FY.out, (scanDown_go (fun x => !lt x dk[a]!) dk i' j' hle2 (by omega) (by simp [hlv2])).symm.trans hsd.out⟩
              case measure => simp [intOf]; omega
            | true =>
              rw [hlv2] at hl
              have hj2 : Hid (j' = Sort.scanDown (fun x => !lt x dk[a]!) dk i' j) := (scanDown_end (fun x => !lt x dk[a]!) dk i' j' (Or.inr (by simp [hlv2]))).symm.trans hsd.out
              clear hsd
              go_wp2_with (go_at_fn lf; refine hl.mono ?_; rintro e wy ⟨rfl, bb⟩; have IY := Lib.hid (E.below _ _ _ IX.out bb); have FY := Lib.hid (row_below FX.out bb); have RY := Lib.hid (E.rt _ _ _ RX.out (E.rb _ _ bb)); have c1 := so_c1 FY.out; clear bb)
              clear hl c0 IX RX FX
              have hlt3 := part_scans_lt lt a i j dk (by omega) hi2.out hj2.out hle2
              obtain ⟨r, hr⟩ : ∃ r, r = Sort.partLoop lt a (i' + 1) (j' - 1) (swp dk i' j') := ⟨_, rfl⟩
              have PG : Hid (Sort.partition lt d a b pivot = (r.1, false, swp r.2 r.1 a)) := by show _ = _; rw [hr]; exact part_first_go lt d a b pivot HI0.out HJ0.out HD0.out hi2.out hj2.out (by omega)
              have HR := Lib.hid hr
              clear hr
              have JB : i' < j' ∧ j' ≤ j ∧ j < b := ⟨by omega, by omega, by have := HJ0.out; omega⟩
              obtain ⟨wz, hs, hi2, hr2⟩ := E.swap dk wy (i') (j') IY.out (by omega) (by omega)
              rw [hs, Oper.upon_value]
              have IZ := Lib.hid hi2
              have FZ := Lib.hid (E.rbox _ _ _ hr2 FY.out)
              have RZ := Lib.hid (E.rt _ _ _ RY.out hr2)
              clear hs hi2 hr2
              go_wp2_with fail
              go_loopw [10, 11] (fun vi vj wu => ∃ (i j : Nat) (dk : Array α), vi = .int .i64 (i : Int) ∧ vj = .int .i64 (j : Int) ∧ a < i ∧ i ≤ j + 1 ∧ j < b ∧ E.I dk wu ∧ E.R w wu ∧ wu.heap[b0]? = some (.cells (soL lf lb sf sb).toArray 121 (0, 0)) ∧ Hid (Sort.partLoop lt a i j dk = r)) (fun vi vj _ => (intOf vj).toNat + 1 - (intOf vi).toNat)
              case atStart => exact ⟨i' + 1, j' - 1, swp dk i' j', by go_num, by go_num, by omega, by omega, by omega, IZ.out, RZ.out, FZ.out, HR.out.symm⟩
              case round =>
                clear IZ RZ FZ hi2 hj2 hii hij' hjj hij2 hle hle2 hlt3 HR JB
                obtain ⟨i, j, dk, rfl, rfl, hai, hij, hjb, hi_, hr_, hf_, HE⟩ := hrel
                have IK := Lib.hid hi_
                have RK := Lib.hid hr_
                have FK := Lib.hid hf_
                clear hi_ hr_ hf_
                go_wp2_with fail
                go_loopw [10] (fun vi wu => ∃ i' : Nat, vi = .int .i64 (i' : Int) ∧ i ≤ i' ∧ i' ≤ j + 1 ∧ E.I dk wu ∧ E.R w wu ∧ wu.heap[b0]? = some (.cells (soL lf lb sf sb).toArray 121 (0, 0)) ∧ Hid (Sort.scanUp (fun x => lt x dk[a]!) dk j i' = Sort.scanUp (fun x => lt x dk[a]!) dk j i)) (fun vi _ => j + 1 - (intOf vi).toNat)
                case atStart => exact ⟨i, rfl, Nat.le_refl _, by omega, IK.out, RK.out, FK.out, rfl⟩
                case round =>
                  clear IK RK FK
                  obtain ⟨i', rfl, hii, hij', hi_, hr_, hf_, hsc⟩ := hrel
                  have IU := Lib.hid hi_
                  have RU := Lib.hid hr_
                  have FU := Lib.hid hf_
                  have c0 := so_c0 hf_
                  clear hi_ hr_ hf_
                  by_cases hle : i' ≤ j
                  · have hl := E.less dk wr i' a IU.out (by omega) (by omega)
                    cases hlv : lt dk[i']! dk[a]! with
                    | true =>
                      rw [hlv] at hl
                      go_wp2_with (go_at_fn lf; refine hl.mono ?_; rintro e wv ⟨rfl, bb⟩; have IV := Lib.hid (E.below _ _ _ IU.out bb); have FV := Lib.hid (row_below FU.out bb); have RV := Lib.hid (E.rt _ _ _ RU.out (E.rb _ _ bb)); clear bb)
                      go_roundw
                      case rel => exact ⟨i' + 1, by go_num, by omega, by omega, IV.out, RV.out, FV.out, (scanUp_go (fun x => lt x dk[a]!) dk j i' hle (by simp [hlv])).symm.trans hsc.out⟩
                      case measure => simp [intOf]; omega
                    | false =>
                      rw [hlv] at hl
                      have hi2 : Hid (i' = Sort.scanUp (fun x => lt x dk[a]!) dk j i) := (scanUp_end (fun x => lt x dk[a]!) dk j i' (Or.inr (by simp [hlv]))).symm.trans hsc.out
                      clear hsc
                      go_wp2_with (go_at_fn lf; refine hl.mono ?_; rintro e wv ⟨rfl, bb⟩; have IV := Lib.hid (E.below _ _ _ IU.out bb); have FV := Lib.hid (row_below FU.out bb); have RV := Lib.hid (E.rt _ _ _ RU.out (E.rb _ _ bb)); clear bb)
                      clear hl c0 IU RU FU
                      go_loopw [11] (fun vj wu => ∃ j' : Nat, vj = .int .i64 (j' : Int) ∧ j' ≤ j ∧ i' ≤ j' + 1 ∧ E.I dk wu ∧ E.R w wu ∧ wu.heap[b0]? = some (.cells (soL lf lb sf sb).toArray 121 (0, 0)) ∧ Hid (Sort.scanDown (fun x => !lt x dk[a]!) dk i' j' = Sort.scanDown (fun x => !lt x dk[a]!) dk i' j)) (fun vj _ => (intOf vj).toNat)
                      case atStart => exact ⟨j, rfl, Nat.le_refl _, by omega, IV.out, RV.out, FV.out, rfl⟩
                      case round =>
                        clear IV RV FV
                        obtain ⟨j', rfl, hjj, hij2, hi_, hr_, hf_, hsd⟩ := hrel
                        have IX := Lib.hid hi_
                        have RX := Lib.hid hr_
                        have FX := Lib.hid hf_
                        have c0 := so_c0 hf_
                        have c1x := so_c1 hf_
                        clear hi_ hr_ hf_
                        by_cases hle2 : i' ≤ j'
                        · have hl := E.less dk wr j' a IX.out (by omega) (by omega)
                          cases hlv2 : lt dk[j']! dk[a]! with
                          | false =>
                            rw [hlv2] at hl
                            go_wp2_with (go_at_fn lf; refine hl.mono ?_; rintro e wy ⟨rfl, bb⟩; have IY := Lib.hid (E.below _ _ _ IX.out bb); have FY := Lib.hid (row_below FX.out bb); have RY := Lib.hid (E.rt _ _ _ RX.out (E.rb _ _ bb)); clear bb)
                            go_roundw
                            case rel => exact ⟨j' - 1, by go_num, by omega, by omega, IY.out, RY.out, FY.out, (scanDown_go (fun x => !lt x dk[a]!) dk i' j' hle2 (by omega) (by simp [hlv2])).symm.trans hsd.out⟩
                            case measure => simp [intOf]; omega
                          | true =>
                            rw [hlv2] at hl
                            have hj2 : Hid (j' = Sort.scanDown (fun x => !lt x dk[a]!) dk i' j) := (scanDown_end (fun x => !lt x dk[a]!) dk i' j' (Or.inr (by simp [hlv2]))).symm.trans hsd.out
                            clear hsd
                            go_wp2_with (go_at_fn lf; refine hl.mono ?_; rintro e wy ⟨rfl, bb⟩; have IY := Lib.hid (E.below _ _ _ IX.out bb); have FY := Lib.hid (row_below FX.out bb); have RY := Lib.hid (E.rt _ _ _ RX.out (E.rb _ _ bb)); have c1 := so_c1 FY.out; clear bb)
                            clear hl c0 IX RX FX
                            have hlt3 := part_scans_lt lt a i j dk (by omega) hi2.out hj2.out hle2
                            obtain ⟨wz, hs, hi2, hr2⟩ := E.swap dk wy (i') (j') IY.out (by omega) (by omega)
                            rw [hs, Oper.upon_value]
                            have IZ := Lib.hid hi2
                            have FZ := Lib.hid (E.rbox _ _ _ hr2 FY.out)
                            have RZ := Lib.hid (E.rt _ _ _ RY.out hr2)
                            clear hs hi2 hr2
                            go_wp2_with fail
                            go_roundw
                            case rel => exact ⟨i' + 1, j' - 1, swp dk i' j', by go_num, by go_num, by omega, by omega, by omega, IZ.out, RZ.out, FZ.out, by show _ = _; rw [← HE.out]; exact (part_go lt a i j dk hi2.out hj2.out (by omega)).symm⟩
                            case measure => simp [intOf]; omega
                        · have hj2 : Hid (j' = Sort.scanDown (fun x => !lt x dk[a]!) dk i' j) := (scanDown_end (fun x => !lt x dk[a]!) dk i' j' (Or.inl hle2)).symm.trans hsd.out
                          clear hsd
                          go_wp2_with fail
                          have e := part_break lt a i j dk hi2.out hj2.out (by omega)
                          have er : r = (j', dk) := HE.out.symm.trans e
                          obtain ⟨wz, hs, hi2, hr2⟩ := E.swap dk wr (j') (a) IX.out (by omega) (by omega)
                          rw [hs, Oper.upon_value]
                          have IZ := Lib.hid hi2
                          have FZ := Lib.hid (E.rbox _ _ _ hr2 FX.out)
                          have RZ := Lib.hid (E.rt _ _ _ RX.out hr2)
                          clear hs hi2 hr2
                          go_wp2_with fail
                          go_ret2
                          rw [PG.out, er]
                          exact ⟨rfl, IZ.out, RZ.out⟩
                  · have hi2 : Hid (i' = Sort.scanUp (fun x => lt x dk[a]!) dk j i) := (scanUp_end (fun x => lt x dk[a]!) dk j i' (Or.inl hle)).symm.trans hsc.out
                    clear hsc
                    go_wp2_with fail
                    clear c0
                    have IV := IU
                    have RV := RU
                    have FV := FU
                    clear IU RU FU
                    go_loopw [11] (fun vj wu => ∃ j' : Nat, vj = .int .i64 (j' : Int) ∧ j' ≤ j ∧ i' ≤ j' + 1 ∧ E.I dk wu ∧ E.R w wu ∧ wu.heap[b0]? = some (.cells (soL lf lb sf sb).toArray 121 (0, 0)) ∧ Hid (Sort.scanDown (fun x => !lt x dk[a]!) dk i' j' = Sort.scanDown (fun x => !lt x dk[a]!) dk i' j)) (fun vj _ => (intOf vj).toNat)
                    case atStart => exact ⟨j, rfl, Nat.le_refl _, by omega, IV.out, RV.out, FV.out, rfl⟩
                    case round =>
                      clear IV RV FV
                      obtain ⟨j', rfl, hjj, hij2, hi_, hr_, hf_, hsd⟩ := hrel
                      have IX := Lib.hid hi_
                      have RX := Lib.hid hr_
                      have FX := Lib.hid hf_
                      have c0 := so_c0 hf_
                      have c1x := so_c1 hf_
                      clear hi_ hr_ hf_
                      by_cases hle2 : i' ≤ j'
                      · exfalso; omega
                      · have hj2 : Hid (j' = Sort.scanDown (fun x => !lt x dk[a]!) dk i' j) := (scanDown_end (fun x => !lt x dk[a]!) dk i' j' (Or.inl hle2)).symm.trans hsd.out
                        clear hsd
                        go_wp2_with fail
                        have e := part_break lt a i j dk hi2.out hj2.out (by omega)
                        have er : r = (j', dk) := HE.out.symm.trans e
                        obtain ⟨wz, hs, hi2, hr2⟩ := E.swap dk wr (j') (a) IX.out (by omega) (by omega)
                        rw [hs, Oper.upon_value]
                        have IZ := Lib.hid hi2
                        have FZ := Lib.hid (E.rbox _ _ _ hr2 FX.out)
                        have RZ := Lib.hid (E.rt _ _ _ RX.out hr2)
                        clear hs hi2 hr2
                        go_wp2_with fail
                        go_ret2
                        rw [PG.out, er]
                        exact ⟨rfl, IZ.out, RZ.out⟩
          · have hj2 : Hid (j' = Sort.scanDown (fun x => !lt x dk[a]!) dk i' j) := (scanDown_end (fun x => !lt x dk[a]!) dk i' j' (Or.inl hle2)).symm.trans hsd.out
            clear hsd
            go_wp2_with fail
            have e := part_first_break lt d a b pivot HI0.out HJ0.out HD0.out hi2.out hj2.out (by omega)
            obtain ⟨wz, hs, hi2, hr2⟩ := E.swap dk wr (j') (a) IX.out (by omega) (by omega)
            rw [hs, Oper.upon_value]
            have IZ := Lib.hid hi2
            have FZ := Lib.hid (E.rbox _ _ _ hr2 FX.out)
            have RZ := Lib.hid (E.rt _ _ _ RX.out hr2)
            clear hs hi2 hr2
            go_wp2_with fail
            go_ret2
            rw [e]
            exact ⟨rfl, IZ.out, RZ.out⟩
    · have hi2 : Hid (i' = Sort.scanUp (fun x => lt x dk[a]!) dk j i) := (scanUp_end (fun x => lt x dk[a]!) dk j i' (Or.inl hle)).symm.trans hsc.out
      clear hsc
      go_wp2_with fail
      clear c0
      have IV := IU
      have RV := RU
      have FV := FU
      clear IU RU FU
      go_loopw [11] (fun vj wu => ∃ j' : Nat, vj = .int .i64 (j' : Int) ∧ j' ≤ j ∧ i' ≤ j' + 1 ∧ E.I dk wu ∧ E.R w wu ∧ wu.heap[b0]? = some (.cells (soL lf lb sf sb).toArray 121 (0, 0)) ∧ Hid (Sort.scanDown (fun x => !lt x dk[a]!) dk i' j' = Sort.scanDown (fun x => !lt x dk[a]!) dk i' j)) (fun vj _ => (intOf vj).toNat)
      case atStart => exact ⟨j, rfl, Nat.le_refl _, by omega, IV.out, RV.out, FV.out, rfl⟩
      case round =>
        clear IV RV FV
        obtain ⟨j', rfl, hjj, hij2, hi_, hr_, hf_, hsd⟩ := hrel
        have IX := Lib.hid hi_
        have RX := Lib.hid hr_
        have FX := Lib.hid hf_
        have c0 := so_c0 hf_
        have c1x := so_c1 hf_
        clear hi_ hr_ hf_
        by_cases hle2 : i' ≤ j'
        · exfalso; omega
        · have hj2 : Hid (j' = Sort.scanDown (fun x => !lt x dk[a]!) dk i' j) := (scanDown_end (fun x => !lt x dk[a]!) dk i' j' (Or.inl hle2)).symm.trans hsd.out
          clear hsd
          go_wp2_with fail
          have e := part_first_break lt d a b pivot HI0.out HJ0.out HD0.out hi2.out hj2.out (by omega)
          obtain ⟨wz, hs, hi2, hr2⟩ := E.swap dk wr (j') (a) IX.out (by omega) (by omega)
          rw [hs, Oper.upon_value]
          have IZ := Lib.hid hi2
          have FZ := Lib.hid (E.rbox _ _ _ hr2 FX.out)
          have RZ := Lib.hid (E.rt _ _ _ RX.out hr2)
          clear hs hi2 hr2
          go_wp2_with fail
          go_ret2
          rw [e]
          exact ⟨rfl, IZ.out, RZ.out⟩
end Go.Proofs.YtbgagaaoldjhnaaGreatDoor.Sha

/-
  The library's insertion sort that gives up, its comparison being free to lay blocks. Conditions: those of SoE.
-/
namespace Go.Proofs.YtbgagaaoldjhnaaGreatDoor.Sha
open Go Go.RowKit
open Go.Sort (swp)
set_option maxHeartbeats 12000000 in
set_option maxRecDepth 100000 in
theorem so_pins {α : Type} [Inhabited α] {lt : α → α → Bool} {n lf sf : Nat} {lb sb : Array Value} (E : SoE α lt n lf lb sf sb) (w : World) (d : Array α) (a b : Nat) (hI : E.I d w) (hab : a < b) (hb : b ≤ n) :
    Calls Tryz.prog 94 #[(.agg (soL lf lb sf sb).toArray), .int .i64 (a : Int), .int .i64 (b : Int)] w fun e w' => e = .returned (.bool (Sort.partialInsertionSort lt d a b).2) ∧ E.I (Sort.partialInsertionSort lt d a b).1 w' ∧ E.R w w' := by
  have eg := E.eg
  have HI := Lib.hid hI
  have NL := Lib.hid E.le
  go_enter Tryz.func94, Tryz.ntmps94
  go_upto_region 1 with fail
  have f0 := heap_alloc_new w (.cells (soL lf lb sf sb).toArray 121 (0, 0))
  have bb := (Below.refl w.heap.size w).alloc (Nat.le_refl _) (.cells (soL lf lb sf sb).toArray 121 (0, 0))
  generalize hq : World.alloc _ _ = w1
  have eq : w.alloc (.cells (soL lf lb sf sb).toArray 121 (0, 0)) = w1 := hq
  rw [eq] at f0 bb
  obtain ⟨b0, hb0⟩ : ∃ b0, b0 = w.heap.size := ⟨_, rfl⟩
  rw [← hb0] at f0 ⊢
  have F0 := Lib.hid f0
  have I1 := Lib.hid (E.below _ _ _ hI bb)
  have R1 := Lib.hid (E.rb _ _ bb)
  clear f0 bb hq eq hb0 hI
  have nl := NL.out
  go_wp2_with fail
  go_loopw [7, 8] (fun vi vs wu => ∃ (i s : Nat) (dk : Array α), vi = .int .i64 (i : Int) ∧ vs = .int .i64 (s : Int) ∧ s ≤ 5 ∧ a + 1 ≤ i ∧ i ≤ b ∧ E.I dk wu ∧ E.R w wu ∧ wu.heap[b0]? = some (.cells (soL lf lb sf sb).toArray 121 (0, 0)) ∧ Hid (Sort.partialIns lt a b (5 - s) i dk = Sort.partialInsertionSort lt d a b)) (fun _ vs _ => 5 - (intOf vs).toNat)
  case atStart => exact ⟨a + 1, 0, d, by go_num, by go_num, by omega, Nat.le_refl _, by omega, I1.out, R1.out, F0.out, rfl⟩
  case round =>
    clear I1 R1 F0 HI
    obtain ⟨i, s, dk, rfl, rfl, hs5, hai, hib, hi_, hr_, hf_, HO⟩ := hrel
    have IK := Lib.hid hi_
    have RK := Lib.hid hr_
    have FK := Lib.hid hf_
    clear hi_ hr_ hf_
    by_cases hs : s < 5
    · go_wp2_with fail
      rw [show decide ((s : Int) < 5) = true from decide_eq_true (by omega)]
      go_loopw [7] (fun vi wu => ∃ k : Nat, vi = .int .i64 (k : Int) ∧ i ≤ k ∧ k ≤ b ∧ E.I dk wu ∧ E.R w wu ∧ wu.heap[b0]? = some (.cells (soL lf lb sf sb).toArray 121 (0, 0)) ∧ Hid (Sort.scanSorted lt dk b k = Sort.scanSorted lt dk b i)) (fun vi _ => b - (intOf vi).toNat)
      case atStart => exact ⟨i, rfl, Nat.le_refl _, hib, IK.out, RK.out, FK.out, rfl⟩
      case round =>
        clear IK RK FK
        obtain ⟨k, rfl, hik, hkb, hi_, hr_, hf_, HS⟩ := hrel
        have c0 := so_c0 hf_
        have IQ := Lib.hid hi_
        have RQ := Lib.hid hr_
        have FQ := Lib.hid hf_
        clear hi_ hr_ hf_
        by_cases hlt : k < b
        · have hl := E.less dk wr k (k - 1) IQ.out (by omega) (by omega)
          rw [show (((k - 1 : Nat) : Int)) = (k : Int) - 1 by omega] at hl
          cases hv : lt dk[k]! dk[k - 1]! with
          | false =>
            rw [hv] at hl
            go_wp2_with (go_at_fn lf; refine hl.mono ?_; rintro e wv ⟨rfl, bb⟩; have IV := Lib.hid (E.below _ _ _ IQ.out bb); have FV := Lib.hid (row_below FQ.out bb); have RV := Lib.hid (E.rt _ _ _ RQ.out (E.rb _ _ bb)); clear bb)
            go_roundw
            case rel => exact ⟨k + 1, by go_num, by omega, by omega, IV.out, RV.out, FV.out, (scanSorted_go lt dk b k hlt hv).symm.trans HS.out⟩
            case measure => simp [intOf]; omega
          | true =>
            rw [hv] at hl
            have HK : Hid (Sort.scanSorted lt dk b i = k) := HS.out.symm.trans (scanSorted_stop lt dk b k (Or.inr hv))
            clear HS
            have hkn : ¬ (k : Int) = (b : Int) := by omega
            go_upto_region 9 with (go_at_fn lf; refine hl.mono ?_; rintro e wv ⟨rfl, bb⟩; have IV := Lib.hid (E.below _ _ _ IQ.out bb); have FV := Lib.hid (row_below FQ.out bb); have RV := Lib.hid (E.rt _ _ _ RQ.out (E.rb _ _ bb)); clear bb)
            clear hl c0 IQ RQ FQ
            by_cases h50 : b - a < 50
            · have q5 : (b : Int) - (a : Int) < 50 := by omega
              go_wp2_with fail
              go_ret
              have e : Sort.partialInsertionSort lt d a b = (dk, false) := HO.out.symm.trans (pi_short lt a b s i dk (by omega) (by rw [HK.out]; omega) h50)
              rw [e]
              exact ⟨rfl, IV.out, RV.out⟩
            · have q5 : ¬ (b : Int) - (a : Int) < 50 := by omega
              have c1 := so_c1 FV.out
              go_wp2_with fail
              obtain ⟨wz, hs, hi2, hr2⟩ := E.swap dk wv (k) (k - 1) IV.out (by omega) (by omega)
              rw [show (((k - 1 : Nat) : Int)) = (k : Int) - 1 by omega] at hs
              rw [hs, Oper.upon_value]
              have IZ := Lib.hid hi2
              have FZ := Lib.hid (E.rbox _ _ _ hr2 FV.out)
              have RZ := Lib.hid (E.rt _ _ _ RV.out hr2)
              clear hs hi2 hr2
              clear c1 IV RV FV
              go_upto_region 12 with fail
              by_cases hka : k - a ≥ 2
              · have q0 : (k : Int) - (a : Int) ≥ 2 := by omega
                go_wp2_with fail
                go_loopw [9] (fun vj wu => ∃ (j : Nat) (dj : Array α), vj = .int .i64 (j : Int) ∧ j ≤ k - 1 ∧ E.I dj wu ∧ E.R w wu ∧ wu.heap[b0]? = some (.cells (soL lf lb sf sb).toArray 121 (0, 0)) ∧ Hid (Sort.shiftDown lt j dj = Sort.shiftDown lt (k - 1) (swp dk k (k - 1)))) (fun vj _ => (intOf vj).toNat)
                case atStart => exact ⟨k - 1, swp dk k (k - 1), by go_num, Nat.le_refl _, IZ.out, RZ.out, FZ.out, rfl⟩
                case round =>
                  clear IZ RZ FZ
                  obtain ⟨j, dj, rfl, hj1, hi_, hr_, hf_, HS⟩ := hrel
                  have c0 := so_c0 hf_
                  have IJ := Lib.hid hi_
                  have RJ := Lib.hid hr_
                  have FJ := Lib.hid hf_
                  clear hi_ hr_ hf_
                  by_cases hjb : 1 ≤ j
                  · have hl := E.less dj wr j (j - 1) IJ.out (by omega) (by omega)
                    rw [show (((j - 1 : Nat) : Int)) = (j : Int) - 1 by omega] at hl
                    cases hv2 : lt dj[j]! dj[j - 1]! with
                    | true =>
                      rw [hv2] at hl
                      go_wp2_with (go_at_fn lf; refine hl.mono ?_; rintro e wy ⟨rfl, bb⟩; have IU := Lib.hid (E.below _ _ _ IJ.out bb); have FU := Lib.hid (row_below FJ.out bb); have RU := Lib.hid (E.rt _ _ _ RJ.out (E.rb _ _ bb)); have c1 := so_c1 FU.out; clear bb)
                      obtain ⟨wz, hs, hi2, hr2⟩ := E.swap dj wy (j) (j - 1) IU.out (by omega) (by omega)
                      rw [show (((j - 1 : Nat) : Int)) = (j : Int) - 1 by omega] at hs
                      rw [hs, Oper.upon_value]
                      have IZ := Lib.hid hi2
                      have FZ := Lib.hid (E.rbox _ _ _ hr2 FU.out)
                      have RZ := Lib.hid (E.rt _ _ _ RU.out hr2)
                      clear hs hi2 hr2
                      clear hl
                      go_wp2_with fail
                      go_roundw
                      case rel => exact ⟨j - 1, swp dj j (j - 1), by go_num, by omega, IZ.out, RZ.out, FZ.out, by show _ = _; rw [← HS.out, shiftDown_go lt j dj hjb hv2]⟩
                      case measure => simp [intOf]; omega
                    | false =>
                      rw [hv2] at hl
                      go_upto_region 18 with (go_at_fn lf; refine hl.mono ?_; rintro e wy ⟨rfl, bb⟩; have IU := Lib.hid (E.below _ _ _ IJ.out bb); have FU := Lib.hid (row_below FJ.out bb); have RU := Lib.hid (E.rt _ _ _ RJ.out (E.rb _ _ bb)); clear bb)
                      clear hl c0
                      obtain ⟨D, hD⟩ : ∃ D, D = dj := ⟨_, rfl⟩
                      have HD : Hid (Sort.fixDown lt a k (swp dk k (k - 1)) = D) := by show _ = _; rw [hD]; unfold Sort.fixDown; rw [if_pos hka, ← HS.out, shiftDown_stop lt j dj (Or.inr hv2)]
                      rw [← hD] at IU
                      clear hD
                      clear HS
                      by_cases hkb2 : b - k ≥ 2
                      · have q1 : (b : Int) - (k : Int) ≥ 2 := by omega
                        go_wp2_with fail
                        go_loopw [10] (fun vj wu => ∃ (j : Nat) (dj : Array α), vj = .int .i64 (j : Int) ∧ k + 1 ≤ j ∧ j ≤ b ∧ E.I dj wu ∧ E.R w wu ∧ wu.heap[b0]? = some (.cells (soL lf lb sf sb).toArray 121 (0, 0)) ∧ Hid (Sort.shiftUp lt b j dj = Sort.shiftUp lt b (k + 1) D)) (fun vj _ => b - (intOf vj).toNat)
                        case atStart => exact ⟨k + 1, D, by go_num, Nat.le_refl _, by omega, IU.out, RU.out, FU.out, rfl⟩
                        case round =>
                          clear IU RU FU
                          obtain ⟨j, dj, rfl, hj1, hj2, hi_, hr_, hf_, HS⟩ := hrel
                          have c0 := so_c0 hf_
                          have IJ := Lib.hid hi_
                          have RJ := Lib.hid hr_
                          have FJ := Lib.hid hf_
                          clear hi_ hr_ hf_
                          by_cases hjb : j < b
                          · have hl := E.less dj wr j (j - 1) IJ.out (by omega) (by omega)
                            rw [show (((j - 1 : Nat) : Int)) = (j : Int) - 1 by omega] at hl
                            cases hv2 : lt dj[j]! dj[j - 1]! with
                            | true =>
                              rw [hv2] at hl
                              go_wp2_with (go_at_fn lf; refine hl.mono ?_; rintro e wy ⟨rfl, bb⟩; have IU := Lib.hid (E.below _ _ _ IJ.out bb); have FU := Lib.hid (row_below FJ.out bb); have RU := Lib.hid (E.rt _ _ _ RJ.out (E.rb _ _ bb)); have c1 := so_c1 FU.out; clear bb)
                              obtain ⟨wz, hs, hi2, hr2⟩ := E.swap dj wy (j) (j - 1) IU.out (by omega) (by omega)
                              rw [show (((j - 1 : Nat) : Int)) = (j : Int) - 1 by omega] at hs
                              rw [hs, Oper.upon_value]
                              have IZ := Lib.hid hi2
                              have FZ := Lib.hid (E.rbox _ _ _ hr2 FU.out)
                              have RZ := Lib.hid (E.rt _ _ _ RU.out hr2)
                              clear hs hi2 hr2
                              clear hl
                              go_wp2_with fail
                              go_roundw
                              case rel => exact ⟨j + 1, swp dj j (j - 1), by go_num, by omega, by omega, IZ.out, RZ.out, FZ.out, by show _ = _; rw [← HS.out, shiftUp_go lt b j dj hjb hv2]⟩
                              case measure => simp [intOf]; omega
                            | false =>
                              rw [hv2] at hl
                              go_wp2_with (go_at_fn lf; refine hl.mono ?_; rintro e wy ⟨rfl, bb⟩; have IU := Lib.hid (E.below _ _ _ IJ.out bb); have FU := Lib.hid (row_below FJ.out bb); have RU := Lib.hid (E.rt _ _ _ RJ.out (E.rb _ _ bb)); clear bb)
                              clear hl c0
                              have HU : Sort.fixUp lt b k D = dj := by unfold Sort.fixUp; rw [if_pos hkb2, ← HS.out, shiftUp_stop lt b j dj (Or.inr hv2)]
                              go_roundw
                              case rel => exact ⟨k, s + 1, dj, rfl, by go_num, by omega, by omega, by omega, IU.out, RU.out, FU.out, by show _ = _; rw [← HO.out, pi_go lt a b s i k dk (by omega) HK.out (by omega) (by omega), HD.out, HU]⟩
                              case measure => simp [intOf]; omega
                          · go_wp2_with fail
                            clear c0
                            have HU : Sort.fixUp lt b k D = dj := by unfold Sort.fixUp; rw [if_pos hkb2, ← HS.out, shiftUp_stop lt b j dj (Or.inl hjb)]
                            go_roundw
                            case rel => exact ⟨k, s + 1, dj, rfl, by go_num, by omega, by omega, by omega, IJ.out, RJ.out, FJ.out, by show _ = _; rw [← HO.out, pi_go lt a b s i k dk (by omega) HK.out (by omega) (by omega), HD.out, HU]⟩
                            case measure => simp [intOf]; omega
                      · have q1 : ¬ (b : Int) - (k : Int) ≥ 2 := by omega
                        go_wp2_with fail
                        have HU : Sort.fixUp lt b k D = D := by unfold Sort.fixUp; rw [if_neg hkb2]
                        go_roundw
                        case rel => exact ⟨k, s + 1, D, rfl, by go_num, by omega, by omega, by omega, IU.out, RU.out, FU.out, by show _ = _; rw [← HO.out, pi_go lt a b s i k dk (by omega) HK.out (by omega) (by omega), HD.out, HU]⟩
                        case measure => simp [intOf]; omega
                  · have hj0 : j = 0 := by omega
                    go_upto_region 18 with fail
                    clear c0
                    obtain ⟨D, hD⟩ : ∃ D, D = dj := ⟨_, rfl⟩
                    have HD : Hid (Sort.fixDown lt a k (swp dk k (k - 1)) = D) := by show _ = _; rw [hD]; unfold Sort.fixDown; rw [if_pos hka, ← HS.out, shiftDown_stop lt j dj (Or.inl hj0)]
                    rw [← hD] at IJ
                    clear hD
                    clear HS hj0
                    by_cases hkb2 : b - k ≥ 2
                    · have q1 : (b : Int) - (k : Int) ≥ 2 := by omega
                      go_wp2_with fail
                      go_loopw [10] (fun vj wu => ∃ (j : Nat) (dj : Array α), vj = .int .i64 (j : Int) ∧ k + 1 ≤ j ∧ j ≤ b ∧ E.I dj wu ∧ E.R w wu ∧ wu.heap[b0]? = some (.cells (soL lf lb sf sb).toArray 121 (0, 0)) ∧ Hid (Sort.shiftUp lt b j dj = Sort.shiftUp lt b (k + 1) D)) (fun vj _ => b - (intOf vj).toNat)
                      case atStart => exact ⟨k + 1, D, by go_num, Nat.le_refl _, by omega, IJ.out, RJ.out, FJ.out, rfl⟩
                      case round =>
                        clear IJ RJ FJ
                        obtain ⟨j, dj, rfl, hj1, hj2, hi_, hr_, hf_, HS⟩ := hrel
                        have c0 := so_c0 hf_
                        have IJ := Lib.hid hi_
                        have RJ := Lib.hid hr_
                        have FJ := Lib.hid hf_
                        clear hi_ hr_ hf_
                        by_cases hjb : j < b
                        · have hl := E.less dj wr j (j - 1) IJ.out (by omega) (by omega)
                          rw [show (((j - 1 : Nat) : Int)) = (j : Int) - 1 by omega] at hl
                          cases hv2 : lt dj[j]! dj[j - 1]! with
                          | true =>
                            rw [hv2] at hl
                            go_wp2_with (go_at_fn lf; refine hl.mono ?_; rintro e wy ⟨rfl, bb⟩; have IU := Lib.hid (E.below _ _ _ IJ.out bb); have FU := Lib.hid (row_below FJ.out bb); have RU := Lib.hid (E.rt _ _ _ RJ.out (E.rb _ _ bb)); have c1 := so_c1 FU.out; clear bb)
                            obtain ⟨wz, hs, hi2, hr2⟩ := E.swap dj wy (j) (j - 1) IU.out (by omega) (by omega)
                            rw [show (((j - 1 : Nat) : Int)) = (j : Int) - 1 by omega] at hs
                            rw [hs, Oper.upon_value]
                            have IZ := Lib.hid hi2
                            have FZ := Lib.hid (E.rbox _ _ _ hr2 FU.out)
                            have RZ := Lib.hid (E.rt _ _ _ RU.out hr2)
                            clear hs hi2 hr2
                            clear hl
                            go_wp2_with fail
                            go_roundw
                            case rel => exact ⟨j + 1, swp dj j (j - 1), by go_num, by omega, by omega, IZ.out, RZ.out, FZ.out, by show _ = _; rw [← HS.out, shiftUp_go lt b j dj hjb hv2]⟩
                            case measure => simp [intOf]; omega
                          | false =>
                            rw [hv2] at hl
                            go_wp2_with (go_at_fn lf; refine hl.mono ?_; rintro e wy ⟨rfl, bb⟩; have IU := Lib.hid (E.below _ _ _ IJ.out bb); have FU := Lib.hid (row_below FJ.out bb); have RU := Lib.hid (E.rt _ _ _ RJ.out (E.rb _ _ bb)); clear bb)
                            clear hl c0
                            have HU : Sort.fixUp lt b k D = dj := by unfold Sort.fixUp; rw [if_pos hkb2, ← HS.out, shiftUp_stop lt b j dj (Or.inr hv2)]
                            go_roundw
                            case rel => exact ⟨k, s + 1, dj, rfl, by go_num, by omega, by omega, by omega, IU.out, RU.out, FU.out, by show _ = _; rw [← HO.out, pi_go lt a b s i k dk (by omega) HK.out (by omega) (by omega), HD.out, HU]⟩
                            case measure => simp [intOf]; omega
                        · go_wp2_with fail
                          clear c0
                          have HU : Sort.fixUp lt b k D = dj := by unfold Sort.fixUp; rw [if_pos hkb2, ← HS.out, shiftUp_stop lt b j dj (Or.inl hjb)]
                          go_roundw
                          case rel => exact ⟨k, s + 1, dj, rfl, by go_num, by omega, by omega, by omega, IJ.out, RJ.out, FJ.out, by show _ = _; rw [← HO.out, pi_go lt a b s i k dk (by omega) HK.out (by omega) (by omega), HD.out, HU]⟩
                          case measure => simp [intOf]; omega
                    · have q1 : ¬ (b : Int) - (k : Int) ≥ 2 := by omega
                      go_wp2_with fail
                      have HU : Sort.fixUp lt b k D = D := by unfold Sort.fixUp; rw [if_neg hkb2]
                      go_roundw
                      case rel => exact ⟨k, s + 1, D, rfl, by go_num, by omega, by omega, by omega, IJ.out, RJ.out, FJ.out, by show _ = _; rw [← HO.out, pi_go lt a b s i k dk (by omega) HK.out (by omega) (by omega), HD.out, HU]⟩
                      case measure => simp [intOf]; omega
              · have q0 : ¬ (k : Int) - (a : Int) ≥ 2 := by omega
                go_upto_region 18 with fail
                obtain ⟨D, hD⟩ : ∃ D, D = swp dk k (k - 1) := ⟨_, rfl⟩
                have HD : Hid (Sort.fixDown lt a k (swp dk k (k - 1)) = D) := by show _ = _; rw [hD]; unfold Sort.fixDown; rw [if_neg hka]
                rw [← hD] at IZ
                clear hD
                by_cases hkb2 : b - k ≥ 2
                · have q1 : (b : Int) - (k : Int) ≥ 2 := by omega
                  go_wp2_with fail
                  go_loopw [10] (fun vj wu => ∃ (j : Nat) (dj : Array α), vj = .int .i64 (j : Int) ∧ k + 1 ≤ j ∧ j ≤ b ∧ E.I dj wu ∧ E.R w wu ∧ wu.heap[b0]? = some (.cells (soL lf lb sf sb).toArray 121 (0, 0)) ∧ Hid (Sort.shiftUp lt b j dj = Sort.shiftUp lt b (k + 1) D)) (fun vj _ => b - (intOf vj).toNat)
                  case atStart => exact ⟨k + 1, D, by go_num, Nat.le_refl _, by omega, IZ.out, RZ.out, FZ.out, rfl⟩
                  case round =>
                    clear IZ RZ FZ
                    obtain ⟨j, dj, rfl, hj1, hj2, hi_, hr_, hf_, HS⟩ := hrel
                    have c0 := so_c0 hf_
                    have IJ := Lib.hid hi_
                    have RJ := Lib.hid hr_
                    have FJ := Lib.hid hf_
                    clear hi_ hr_ hf_
                    by_cases hjb : j < b
                    · have hl := E.less dj wr j (j - 1) IJ.out (by omega) (by omega)
                      rw [show (((j - 1 : Nat) : Int)) = (j : Int) - 1 by omega] at hl
                      cases hv2 : lt dj[j]! dj[j - 1]! with
                      | true =>
                        rw [hv2] at hl
                        go_wp2_with (go_at_fn lf; refine hl.mono ?_; rintro e wy ⟨rfl, bb⟩; have IU := Lib.hid (E.below _ _ _ IJ.out bb); have FU := Lib.hid (row_below FJ.out bb); have RU := Lib.hid (E.rt _ _ _ RJ.out (E.rb _ _ bb)); have c1 := so_c1 FU.out; clear bb)
                        obtain ⟨wz, hs, hi2, hr2⟩ := E.swap dj wy (j) (j - 1) IU.out (by omega) (by omega)
                        rw [show (((j - 1 : Nat) : Int)) = (j : Int) - 1 by omega] at hs
                        rw [hs, Oper.upon_value]
                        have IZ := Lib.hid hi2
                        have FZ := Lib.hid (E.rbox _ _ _ hr2 FU.out)
                        have RZ := Lib.hid (E.rt _ _ _ RU.out hr2)
                        clear hs hi2 hr2
                        clear hl
                        go_wp2_with fail
                        go_roundw
                        case rel => exact ⟨j + 1, swp dj j (j - 1), by go_num, by omega, by omega, IZ.out, RZ.out, FZ.out, by show _ = _; rw [← HS.out, shiftUp_go lt b j dj hjb hv2]⟩
                        case measure => simp [intOf]; omega
                      | false =>
                        rw [hv2] at hl
                        go_wp2_with (go_at_fn lf; refine hl.mono ?_; rintro e wy ⟨rfl, bb⟩; have IU := Lib.hid (E.below _ _ _ IJ.out bb); have FU := Lib.hid (row_below FJ.out bb); have RU := Lib.hid (E.rt _ _ _ RJ.out (E.rb _ _ bb)); clear bb)
                        clear hl c0
                        have HU : Sort.fixUp lt b k D = dj := by unfold Sort.fixUp; rw [if_pos hkb2, ← HS.out, shiftUp_stop lt b j dj (Or.inr hv2)]
                        go_roundw
                        case rel => exact ⟨k, s + 1, dj, rfl, by go_num, by omega, by omega, by omega, IU.out, RU.out, FU.out, by show _ = _; rw [← HO.out, pi_go lt a b s i k dk (by omega) HK.out (by omega) (by omega), HD.out, HU]⟩
                        case measure => simp [intOf]; omega
                    · go_wp2_with fail
                      clear c0
                      have HU : Sort.fixUp lt b k D = dj := by unfold Sort.fixUp; rw [if_pos hkb2, ← HS.out, shiftUp_stop lt b j dj (Or.inl hjb)]
                      go_roundw
                      case rel => exact ⟨k, s + 1, dj, rfl, by go_num, by omega, by omega, by omega, IJ.out, RJ.out, FJ.out, by show _ = _; rw [← HO.out, pi_go lt a b s i k dk (by omega) HK.out (by omega) (by omega), HD.out, HU]⟩
                      case measure => simp [intOf]; omega
                · have q1 : ¬ (b : Int) - (k : Int) ≥ 2 := by omega
                  go_wp2_with fail
                  have HU : Sort.fixUp lt b k D = D := by unfold Sort.fixUp; rw [if_neg hkb2]
                  go_roundw
                  case rel => exact ⟨k, s + 1, D, rfl, by go_num, by omega, by omega, by omega, IZ.out, RZ.out, FZ.out, by show _ = _; rw [← HO.out, pi_go lt a b s i k dk (by omega) HK.out (by omega) (by omega), HD.out, HU]⟩
                  case measure => simp [intOf]; omega
        · have hkb' : k = b := by omega
          have HK : Hid (Sort.scanSorted lt dk b i = b) := by show _ = _; rw [← HS.out, scanSorted_stop lt dk b k (Or.inl hlt)]; exact hkb'
          clear HS
          subst hkb'
          go_wp2_with fail
          go_ret
          have e : Sort.partialInsertionSort lt d a k = (dk, true) := HO.out.symm.trans (pi_true lt a k s i dk (by omega) HK.out)
          rw [e]
          exact ⟨rfl, IQ.out, RQ.out⟩
    · have hs0 : s = 5 := by omega
      subst hs0
      go_wp2_with fail
      go_ret
      have e : Sort.partialInsertionSort lt d a b = (dk, false) := HO.out.symm.trans (pi_end lt a b i dk)
      rw [e]
      exact ⟨rfl, IK.out, RK.out⟩
end Go.Proofs.YtbgagaaoldjhnaaGreatDoor.Sha

/-
  The library's turning round of a row. Conditions: those of SoE.
-/
namespace Go.Proofs.YtbgagaaoldjhnaaGreatDoor.Sha
open Go Go.RowKit
open Go.Sort (swp)
set_option maxHeartbeats 2000000 in
set_option maxRecDepth 100000 in
theorem so_rev {α : Type} [Inhabited α] {lt : α → α → Bool} {n lf sf : Nat} {lb sb : Array Value} (E : SoE α lt n lf lb sf sb) (w : World) (d : Array α) (a b : Nat) (hI : E.I d w) (hab : a < b) (hb : b ≤ n) :
    Calls Tryz.prog 93 #[(.agg (soL lf lb sf sb).toArray), .int .i64 (a : Int), .int .i64 (b : Int)] w fun e w' => e = .returned (.tuple #[]) ∧ E.I (Sort.reverseRange d a b) w' ∧ E.R w w' := by
  have HI := Lib.hid hI
  have NL := Lib.hid E.le
  go_enter Tryz.func93, Tryz.ntmps93
  go_upto_region 1 with fail
  have f0 := heap_alloc_new w (.cells (soL lf lb sf sb).toArray 121 (0, 0))
  have bb := (Below.refl w.heap.size w).alloc (Nat.le_refl _) (.cells (soL lf lb sf sb).toArray 121 (0, 0))
  generalize hq : World.alloc _ _ = w1
  have eq : w.alloc (.cells (soL lf lb sf sb).toArray 121 (0, 0)) = w1 := hq
  rw [eq] at f0 bb
  obtain ⟨b0, hb0⟩ : ∃ b0, b0 = w.heap.size := ⟨_, rfl⟩
  rw [← hb0] at f0 ⊢
  have F0 := Lib.hid f0
  have I1 := Lib.hid (E.below _ _ _ hI bb)
  have R1 := Lib.hid (E.rb _ _ bb)
  clear f0 bb hq eq hb0 hI
  have nl := NL.out
  go_wp2_with fail
  go_loopw [6, 7] (fun vi vj wu => ∃ (i j : Nat) (dk : Array α), vi = .int .i64 (i : Int) ∧ vj = .int .i64 (j : Int) ∧ j < b ∧ i ≤ b ∧ E.I dk wu ∧ E.R w wu ∧ wu.heap[b0]? = some (.cells (soL lf lb sf sb).toArray 121 (0, 0)) ∧ Hid (Sort.reverseLoop i j dk = Sort.reverseLoop a (b - 1) d)) (fun vi vj _ => (intOf vj).toNat - (intOf vi).toNat)
  case atStart => exact ⟨a, b - 1, d, rfl, by go_num, by omega, by omega, I1.out, R1.out, F0.out, rfl⟩
  case round =>
    clear I1 R1 F0 HI
    obtain ⟨i, j, dk, rfl, rfl, hjb, hib, hi_, hr_, hf_, HS⟩ := hrel
    have c1 := so_c1 hf_
    have IK := Lib.hid hi_
    have RK := Lib.hid hr_
    have FK := Lib.hid hf_
    clear hi_ hr_ hf_
    by_cases hij : i < j
    · go_wp2_with fail
      obtain ⟨wz, hs, hi2, hr2⟩ := E.swap dk wr (i) (j) IK.out (by omega) (by omega)
      rw [hs, Oper.upon_value]
      have IZ := Lib.hid hi2
      have FZ := Lib.hid (E.rbox _ _ _ hr2 FK.out)
      have RZ := Lib.hid (E.rt _ _ _ RK.out hr2)
      clear hs hi2 hr2
      go_wp2_with fail
      go_roundw
      case rel => exact ⟨i + 1, j - 1, swp dk i j, by go_num, by go_num, by omega, by omega, IZ.out, RZ.out, FZ.out, by show _ = _; rw [← HS.out, Sort.reverseLoop.eq_def i j, if_pos hij]⟩
      case measure => simp [intOf]; omega
    · go_wp2_with fail
      go_end0
      exact ⟨rfl, by unfold Sort.reverseRange; rw [← HS.out, Sort.reverseLoop, if_neg hij]; exact IK.out, RK.out⟩
end Go.Proofs.YtbgagaaoldjhnaaGreatDoor.Sha

/-
  The library's way to break up a row's pattern. Conditions: those of SoE.
-/
namespace Go.Proofs.YtbgagaaoldjhnaaGreatDoor.Sha
open Go Go.RowKit
open Go.Shelf
def slice_lay_ren : Go.Shelf.Ren := ⟨fun | 6 => 39 | 10 => 57 | 11 => 58 | 12 => 59 | 13 => 60 | 14 => 61 | 24 => 87 | 25 => 88 | 26 => 89 | 27 => 90 | 28 => 91 | 29 => 92 | 30 => 93 | 31 => 94 | 32 => 95 | 33 => 96 | 34 => 106 | 35 => 107 | 36 => 108 | 37 => 109 | 38 => 110 | 39 => 118 | n => n, fun | 20 => 20 | 26 => 93 | 35 => 113 | 0 => 0 | 37 => 115 | 3 => 3 | 41 => 118 | 44 => 121 | 49 => 23 | 51 => 45 | 4 => 4 | 54 => 153 | 53 => 152 | 58 => 48 | 5 => 5 | 9 => 9 | 60 => 168 | 64 => 172 | 66 => 183 | 67 => 184 | 17 => 17 | 32 => 110 | 33 => 111 | 82 => 205 | 12 => 12 | 75 => 198 | 76 => 199 | 77 => 200 | 78 => 201 | 79 => 202 | 80 => 203 | n => n, fun | n => n⟩
theorem slice_lay : Go.Proofs.LaysGg.n6 Tryz.prog slice_lay_ren := {
  mixed := by kernel_rfl
  f6 := Tryz.func39.trans (congrArg some (by kernel_rfl))
  f10 := Tryz.func57.trans (congrArg some (by kernel_rfl))
  f11 := Tryz.func58.trans (congrArg some (by kernel_rfl))
  f12 := Tryz.func59.trans (congrArg some (by kernel_rfl))
  f13 := Tryz.func60.trans (congrArg some (by kernel_rfl))
  f14 := Tryz.func61.trans (congrArg some (by kernel_rfl))
  f24 := Tryz.func87.trans (congrArg some (by kernel_rfl))
  f25 := Tryz.func88.trans (congrArg some (by kernel_rfl))
  f26 := Tryz.func89.trans (congrArg some (by kernel_rfl))
  f27 := Tryz.func90.trans (congrArg some (by kernel_rfl))
  f28 := Tryz.func91.trans (congrArg some (by kernel_rfl))
  f29 := Tryz.func92.trans (congrArg some (by kernel_rfl))
  f30 := Tryz.func93.trans (congrArg some (by kernel_rfl))
  f31 := Tryz.func94.trans (congrArg some (by kernel_rfl))
  f32 := Tryz.func95.trans (congrArg some (by kernel_rfl))
  f33 := Tryz.func96.trans (congrArg some (by kernel_rfl))
  f34 := Tryz.func106.trans (congrArg some (by kernel_rfl))
  f35 := Tryz.func107.trans (congrArg some (by kernel_rfl))
  f36 := Tryz.func108.trans (congrArg some (by kernel_rfl))
  f37 := Tryz.func109.trans (congrArg some (by kernel_rfl))
  f38 := Tryz.func110.trans (congrArg some (by kernel_rfl))
  f39 := Tryz.func118.trans (congrArg some (by kernel_rfl))
  t0 := Tryz.underlying0
  a0 := Tryz.isAgg0
  z0 := Tryz.sizeOf0
  v0 := Tryz.zeroValue0
  i0 := by kernel_rfl
  t3 := Tryz.underlying3
  a3 := Tryz.isAgg3
  z3 := Tryz.sizeOf3
  v3 := Tryz.zeroValue3
  i3 := by kernel_rfl
  t4 := Tryz.underlying4
  a4 := Tryz.isAgg4
  z4 := Tryz.sizeOf4
  v4 := Tryz.zeroValue4
  i4 := by kernel_rfl
  t5 := Tryz.underlying5
  a5 := Tryz.isAgg5
  z5 := Tryz.sizeOf5
  v5 := Tryz.zeroValue5
  i5 := by kernel_rfl
  t9 := Tryz.underlying9
  a9 := Tryz.isAgg9
  z9 := Tryz.sizeOf9
  v9 := Tryz.zeroValue9
  i9 := by kernel_rfl
  t12 := Tryz.underlying12
  a12 := Tryz.isAgg12
  z12 := Tryz.sizeOf12
  v12 := Tryz.zeroValue12
  i12 := by kernel_rfl
  t17 := Tryz.underlying17
  a17 := Tryz.isAgg17
  z17 := Tryz.sizeOf17
  v17 := Tryz.zeroValue17
  i17 := by kernel_rfl
  t20 := Tryz.underlying20
  a20 := Tryz.isAgg20
  z20 := Tryz.sizeOf20
  v20 := Tryz.zeroValue20
  i20 := by kernel_rfl
  t26 := Tryz.underlying93
  a26 := Tryz.isAgg93
  z26 := Tryz.sizeOf93
  v26 := Tryz.zeroValue93
  i26 := by kernel_rfl
  t32 := Tryz.underlying110
  a32 := Tryz.isAgg110
  z32 := Tryz.sizeOf110
  v32 := Tryz.zeroValue110
  i32 := by kernel_rfl
  t33 := Tryz.underlying111
  a33 := Tryz.isAgg111
  z33 := Tryz.sizeOf111
  v33 := Tryz.zeroValue111
  i33 := by kernel_rfl
  t35 := Tryz.underlying113
  a35 := Tryz.isAgg113
  z35 := Tryz.sizeOf113
  v35 := Tryz.zeroValue113
  i35 := by kernel_rfl
  t37 := Tryz.underlying115
  a37 := Tryz.isAgg115
  z37 := Tryz.sizeOf115
  v37 := Tryz.zeroValue115
  i37 := by kernel_rfl
  t41 := Tryz.underlying118
  a41 := Tryz.isAgg118
  z41 := Tryz.sizeOf118
  v41 := Tryz.zeroValue118
  i41 := by kernel_rfl
  t44 := Tryz.underlying121
  a44 := Tryz.isAgg121
  z44 := Tryz.sizeOf121
  v44 := Tryz.zeroValue121
  i44 := by kernel_rfl
  t49 := Tryz.underlying23
  a49 := Tryz.isAgg23
  z49 := Tryz.sizeOf23
  v49 := Tryz.zeroValue23
  i49 := by kernel_rfl
  t51 := Tryz.underlying45
  a51 := Tryz.isAgg45
  z51 := Tryz.sizeOf45
  v51 := Tryz.zeroValue45
  i51 := by kernel_rfl
  t53 := Tryz.underlying152
  a53 := Tryz.isAgg152
  z53 := Tryz.sizeOf152
  v53 := Tryz.zeroValue152
  i53 := by kernel_rfl
  t54 := Tryz.underlying153
  a54 := Tryz.isAgg153
  z54 := Tryz.sizeOf153
  v54 := Tryz.zeroValue153
  i54 := by kernel_rfl
  t58 := Tryz.underlying48
  a58 := Tryz.isAgg48
  z58 := Tryz.sizeOf48
  v58 := Tryz.zeroValue48
  i58 := by kernel_rfl
  t60 := Tryz.underlying168
  a60 := Tryz.isAgg168
  z60 := Tryz.sizeOf168
  v60 := Tryz.zeroValue168
  i60 := by kernel_rfl
  t64 := Tryz.underlying172
  a64 := Tryz.isAgg172
  z64 := Tryz.sizeOf172
  v64 := Tryz.zeroValue172
  i64 := by kernel_rfl
  t66 := Tryz.underlying183
  a66 := Tryz.isAgg183
  z66 := Tryz.sizeOf183
  v66 := Tryz.zeroValue183
  i66 := by kernel_rfl
  t67 := Tryz.underlying184
  a67 := Tryz.isAgg184
  z67 := Tryz.sizeOf184
  v67 := Tryz.zeroValue184
  i67 := by kernel_rfl
  t75 := Tryz.underlying198
  a75 := Tryz.isAgg198
  z75 := Tryz.sizeOf198
  v75 := Tryz.zeroValue198
  i75 := by kernel_rfl
  t76 := Tryz.underlying199
  a76 := Tryz.isAgg199
  z76 := Tryz.sizeOf199
  v76 := Tryz.zeroValue199
  i76 := by kernel_rfl
  t77 := Tryz.underlying200
  a77 := Tryz.isAgg200
  z77 := Tryz.sizeOf200
  v77 := Tryz.zeroValue200
  i77 := by kernel_rfl
  t78 := Tryz.underlying201
  a78 := Tryz.isAgg201
  z78 := Tryz.sizeOf201
  v78 := Tryz.zeroValue201
  i78 := by kernel_rfl
  t79 := Tryz.underlying202
  a79 := Tryz.isAgg202
  z79 := Tryz.sizeOf202
  v79 := Tryz.zeroValue202
  i79 := by kernel_rfl
  t80 := Tryz.underlying203
  a80 := Tryz.isAgg203
  z80 := Tryz.sizeOf203
  v80 := Tryz.zeroValue203
  i80 := by kernel_rfl
  t82 := Tryz.underlying205
  a82 := Tryz.isAgg205
  z82 := Tryz.sizeOf205
  v82 := Tryz.zeroValue205
  i82 := by kernel_rfl }
open Go.Sort (swp bitsLen xorNextN two_pow_bitsLen_le xorNextN_lt xorNext_toNat)
theorem so_pow (L : Nat) (hL : L < 4611686018427387904) (w : World) : Calls Tryz.prog 107 #[.int .i64 (L : Int)] w fun e w' => e = .returned (.int .u64 ((1 <<< bitsLen L : Nat) : Int)) ∧ w' = w :=
  Any.nextPowerOfTwo (P := Tryz.prog) (ρ := slice_lay_ren) { slice_lay with } L hL w
theorem so_next (s X : Nat) (hX : X < 18446744073709551616) (w : World) (h : w.heap[s]? = some (.cells #[.int .u64 (X : Int)] 168 (0, 0))) : Calls Tryz.prog 108 #[.pointer (some ⟨s, 0, none⟩)] w fun e w' => e = .returned (.int .u64 (xorNextN X : Nat)) ∧ w'.heap[s]? = some (.cells #[.int .u64 (xorNextN X : Nat)] 168 (0, 0)) ∧ w.grownBy w' (some s) := by
  refine (Any.xorshift_Next (P := Tryz.prog) (ρ := slice_lay_ren) { slice_lay with } s 0 X hX w (by rw [cell_of_row _ _ _ _ _ _ h]; rfl) (frozen_of_row _ _ _ _ _ h)).mono ?_
  rintro e w' ⟨he, rfl⟩
  obtain ⟨hlt, hk⟩ := Array.getElem?_eq_some_iff.1 h
  refine ⟨he, ?_, grownBy_trans (b := w.setCell ⟨s, 0, none⟩ _) ⟨rfl, rfl, rfl, Nat.le_of_eq (by show _ = (w.heap.modify s _).size; rw [Array.size_modify]), fun k _ hk => by show (w.heap.modify s _)[k]? = _; rw [Array.getElem?_modify, if_neg (fun e => hk (by rw [e]))]⟩ ⟨rfl, rfl, rfl, Nat.le_refl _, fun _ _ _ => rfl⟩⟩
  show (w.heap.modify s _)[s]? = _
  rw [Array.getElem?_eq_getElem (by rw [Array.size_modify]; exact hlt), Array.getElem_modify_self, hk]
  rfl
set_option maxHeartbeats 4000000 in
set_option maxRecDepth 100000 in
theorem so_brk {α : Type} [Inhabited α] {lt : α → α → Bool} {n lf sf : Nat} {lb sb : Array Value} (E : SoE α lt n lf lb sf sb) (w : World) (d : Array α) (a b : Nat) (hI : E.I d w) (hab : a ≤ b) (hb : b ≤ n) :
    Calls Tryz.prog 91 #[(.agg (soL lf lb sf sb).toArray), .int .i64 (a : Int), .int .i64 (b : Int)] w fun e w' => e = .returned (.tuple #[]) ∧ E.I (Sort.breakPatterns d a b) w' ∧ E.R w w' := by
  have HI := Lib.hid hI
  have NL := Lib.hid E.le
  obtain ⟨L, hl⟩ : ∃ L, L = b - a := ⟨_, rfl⟩
  have EL : Hid ((b : Int) - (a : Int) = (L : Int)) := by show _ = _; omega
  have EB : Hid (b = a + L) := by show _ = _; omega
  have AN : Hid (a + L ≤ n) := by show _ ≤ _; omega
  clear hl
  go_enter Tryz.func91, Tryz.ntmps91
  go_upto_region 1 with fail
  have f0 := heap_alloc_new w (.cells (soL lf lb sf sb).toArray 121 (0, 0))
  have bb := (Below.refl w.heap.size w).alloc (Nat.le_refl _) (.cells (soL lf lb sf sb).toArray 121 (0, 0))
  generalize hq : World.alloc _ _ = w1
  have eq : w.alloc (.cells (soL lf lb sf sb).toArray 121 (0, 0)) = w1 := hq
  rw [eq] at f0 bb
  obtain ⟨b0, hb0⟩ : ∃ b0, b0 = w.heap.size := ⟨_, rfl⟩
  rw [← hb0] at f0 ⊢
  have F0 := Lib.hid f0
  have I1 := Lib.hid (E.below _ _ _ hI bb)
  have R1 := Lib.hid (E.rb _ _ bb)
  have B0 : Hid (w.heap.size ≤ w1.heap.size) := bb.size
  clear f0 bb hq eq hb0 hI
  have nl := NL.out
  have an := AN.out
  go_upto_region 2 with fail
  rw [EL.out]
  clear hab hb EL
  by_cases h8 : L < 8
  · go_wp2_with fail
    go_end0
    have e : Sort.breakPatterns d a b = d := by
      unfold Sort.breakPatterns
      simp only
      rw [if_neg (by rw [EB.out]; omega)]
    rw [e]
    exact ⟨rfl, I1.out, R1.out⟩
  have h8z : ¬ (L : Int) < 8 := by omega
  have h8g : 8 ≤ L := by omega
  go_upto_region 4 with fail
  have f0 := heap_alloc_new w1 (.cells #[.int .u64 (L : Int)] 168 (0, 0))
  have bb := (Below.refl w1.heap.size w1).alloc (Nat.le_refl _) (.cells #[.int .u64 (L : Int)] 168 (0, 0))
  generalize hq : World.alloc _ _ = w2
  have eq : w1.alloc (.cells #[.int .u64 (L : Int)] 168 (0, 0)) = w2 := hq
  rw [eq] at f0 bb
  obtain ⟨s, hs0⟩ : ∃ s, s = w1.heap.size := ⟨_, rfl⟩
  rw [← hs0] at f0 ⊢
  have X2 := Lib.hid f0
  have NB : Hid (b0 ≠ s) := by have := (Array.getElem?_eq_some_iff.1 F0.out).1; show _ ≠ _; omega
  have NS : Hid (w.heap.size ≤ s) := by show _ ≤ _; rw [hs0]; exact B0.out
  have I2 := Lib.hid (E.below _ _ _ I1.out bb)
  have R2 := Lib.hid (E.rt _ _ _ R1.out (E.rb _ _ bb))
  have F2 := Lib.hid (row_below F0.out bb)
  clear f0 bb hq eq hs0 I1 R1 F0 B0
  obtain ⟨M, hM⟩ : ∃ M : Nat, M = 1 <<< bitsLen L := ⟨_, rfl⟩
  have HP := so_pow L (by omega) w2
  rw [← hM] at HP
  have hM1 : 1 ≤ M := by rw [hM, Nat.one_shiftLeft]; exact Nat.two_pow_pos _
  have hM2 : M ≤ 2 * L := by rw [hM, Nat.one_shiftLeft]; exact two_pow_bitsLen_le (by omega)
  obtain ⟨q, hq⟩ : ∃ q, q = L / 4 := ⟨_, rfl⟩
  have eqq : (L : Int).tdiv 4 = (q : Int) := by rw [Int.tdiv_eq_ediv_of_nonneg (by omega)]; omega
  obtain ⟨m, hm⟩ : ∃ m, m = a + q * 2 - 1 := ⟨_, rfl⟩
  have q2 : 2 ≤ q ∧ q * 4 ≤ L := by omega
  have EM : Hid ((a : Int) + (q : Int) * 2 - 1 = (m : Int) ∧ m + 1 = a + q * 2) := by show _ ∧ _; omega
  have HB : Hid (bpRest a L M m 3 0 (UInt64.ofNat L, d) = Sort.breakPatterns d a b) := by
    show _ = _
    rw [EB.out, breakPatterns_eq d a L h8g, ← hM, ← hq, ← hm]
  clear hM hq hm EB
  go_wp2_with fail
  refine HP.mono ?_
  rintro e w3 ⟨rfl, rfl⟩
  clear HP
  go_wp2_with fail
  rw [EM.out.1]
  go_loopw [9] (fun vi wu => ∃ (t : Nat) (r : UInt64) (dk : Array α), vi = .int .i64 ((m + t : Nat) : Int) ∧ t ≤ 3 ∧ E.I dk wu ∧ E.R w wu ∧ wu.heap[b0]? = some (.cells (soL lf lb sf sb).toArray 121 (0, 0)) ∧ wu.heap[s]? = some (.cells #[.int .u64 (r.toNat : Int)] 168 (0, 0)) ∧ Hid (bpRest a L M m (3 - t) t (r, dk) = Sort.breakPatterns d a b)) (fun vi _ => m + 4 - (intOf vi).toNat)
  case atStart => exact ⟨0, UInt64.ofNat L, d, rfl, by omega, I2.out, R2.out, F2.out, by rw [show (UInt64.ofNat L).toNat = L from by simp; omega]; exact X2.out, HB.out⟩
  case round =>
    clear I2 R2 F2 X2 HB
    obtain ⟨t, r, dk, rfl, ht, hi_, hr_, hf_, hx_, HB⟩ := hrel
    have IK := Lib.hid hi_
    have RK := Lib.hid hr_
    have FK := Lib.hid hf_
    clear hi_ hr_ hf_
    have XK := Lib.hid hx_
    clear hx_
    by_cases ht3 : t < 3
    · have hle : (((m + t : Nat) : Int)) ≤ (a : Int) + (q : Int) * 2 + 1 := by have := EM.out.2; omega
      obtain ⟨X, hX⟩ : ∃ X : Nat, X = xorNextN r.toNat := ⟨_, rfl⟩
      have HN := so_next s r.toNat r.toNat_lt wr XK.out
      rw [← hX] at HN
      have lX : X < 18446744073709551616 := by rw [hX]; exact xorNextN_lt _ r.toNat_lt
      obtain ⟨O, hO⟩ : ∃ O : Nat, O = X &&& (M - 1) := ⟨_, rfl⟩
      have lO : O ≤ M - 1 := by rw [hO]; exact Nat.and_le_right
      have eAnd : bits .and .u64 (X : Int) ((M : Int) - 1) = (O : Int) := by
        rw [show ((M : Int) - 1) = ((M - 1 : Nat) : Int) by omega, bits_and_u64_nat _ _ lX (by omega), hO]
      have HX : Hid (X = (Sort.xorNext r).toNat ∧ O = (Sort.xorNext r).toNat &&& (M - 1)) := by
        have e : X = (Sort.xorNext r).toNat := by rw [hX, xorNext_toNat]
        exact ⟨e, by rw [hO, e]⟩
      clear hX hO
      go_wp2_with fail
      refine HN.mono ?_
      rintro e w2 ⟨rfl, hx, hg⟩
      have IR := E.rand d dk w wr w2 s HI.out IK.out RK.out NS.out hg
      have IV := Lib.hid IR.1
      have RV := Lib.hid IR.2
      have FV := Lib.hid (row_far FK.out hg (fun e => NB.out (Option.some.inj e).symm))
      have XV := Lib.hid hx
      have c1 := so_c1 FV.out
      clear IR hx hg IK RK FK XK HN
      by_cases hLO : L ≤ O
      · have hLOz : (L : Int) ≤ (O : Int) := by omega
        go_wp2_with fail
        obtain ⟨wz, hs, hi2, hr2⟩ := E.swap dk w2 (m + t) (a + (O - L)) IV.out (by have := EM.out.2; omega) (by omega)
        rw [show (((m + t : Nat) : Int)) = (m : Int) + (t : Int) by omega] at hs
        rw [show (((a + (O - L) : Nat) : Int)) = (a : Int) + ((O : Int) - (L : Int)) by omega] at hs
        rw [hs, Oper.upon_value]
        have IZ := Lib.hid hi2
        have XZ := Lib.hid (E.rx _ _ _ _ hr2 XV.out)
        have FZ := Lib.hid (E.rbox _ _ _ hr2 FV.out)
        have RZ := Lib.hid (E.rt _ _ _ RV.out hr2)
        clear hs hi2 hr2
        go_wp2_with fail
        go_roundw
        case rel => exact ⟨t + 1, Sort.xorNext r, swp dk (m + t) (a + (O - L)), by go_num, by omega, IZ.out, RZ.out, FZ.out, by rw [← HX.out.1]; exact XZ.out, by show _ = _; rw [← HB.out, bp_step a L M _ t r dk (O - L) ht3 (by rw [← HX.out.2, if_pos (by omega)])]⟩
        case measure => simp [intOf]; omega
      · have hLOz : ¬ (L : Int) ≤ (O : Int) := by omega
        go_wp2_with fail
        obtain ⟨wz, hs, hi2, hr2⟩ := E.swap dk w2 (m + t) (a + O) IV.out (by have := EM.out.2; omega) (by omega)
        rw [show (((m + t : Nat) : Int)) = (m : Int) + (t : Int) by omega] at hs
        rw [show (((a + O : Nat) : Int)) = (a : Int) + (O : Int) by omega] at hs
        rw [hs, Oper.upon_value]
        have IZ := Lib.hid hi2
        have XZ := Lib.hid (E.rx _ _ _ _ hr2 XV.out)
        have FZ := Lib.hid (E.rbox _ _ _ hr2 FV.out)
        have RZ := Lib.hid (E.rt _ _ _ RV.out hr2)
        clear hs hi2 hr2
        go_wp2_with fail
        go_roundw
        case rel => exact ⟨t + 1, Sort.xorNext r, swp dk (m + t) (a + O), by go_num, by omega, IZ.out, RZ.out, FZ.out, by rw [← HX.out.1]; exact XZ.out, by show _ = _; rw [← HB.out, bp_step a L M _ t r dk O ht3 (by rw [← HX.out.2, if_neg (by omega)])]⟩
        case measure => simp [intOf]; omega
    · have ht0 : t = 3 := by omega
      subst ht0
      have hle : ¬ (((m + 3 : Nat) : Int)) ≤ (a : Int) + (q : Int) * 2 + 1 := by have := EM.out.2; omega
      go_wp2_with fail
      go_end0
      exact ⟨rfl, by rw [← HB.out]; exact IK.out, RK.out⟩
end Go.Proofs.YtbgagaaoldjhnaaGreatDoor.Sha
