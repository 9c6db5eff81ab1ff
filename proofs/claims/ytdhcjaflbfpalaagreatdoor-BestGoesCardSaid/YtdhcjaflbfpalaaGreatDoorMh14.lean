/-
  Texts of this proof joined into one file: SoChoose, SoPartEq, SoPart, SoPartial, SoRev. What each holds, and under which conditions, its own first sentence tells.
-/
import Derived.Sort.WalkC
import Derived.Sort.WalkC4
import Derived.Sort.WalkA6
import Derived.Test.YtdhcjaflbfpalaaGreatDoorMh13
import Derived.Test.YtdhcjaflbfpalaaGreatDoorMh05
/-
  The library's choice of a pivot, whole. Conditions: those of SoE.
-/
namespace Go.Proofs.YtdhcjaflbfpalaaGreatDoor.Sha
open Go Go.RowKit
open Go.Sort (swp order2 median medianAdjacent choosePivot Hint)
def hintC : Hint → Nat
  | .unknown => 0
  | .increasing => 1
  | .decreasing => 2
def hintOf (S : Nat) : Hint := if S = 0 then .increasing else if S = 12 then .decreasing else .unknown
theorem choose_eq {α : Type} [Inhabited α] (lt : α → α → Bool) (d : Array α) (a b : Nat) : choosePivot lt d a b = (fun r : Nat × Nat => (r.1, hintOf r.2)) (if b - a ≥ 8 then (if b - a ≥ 50 then median lt d (medianAdjacent lt d (a + (b - a) / 4 * 1) 0).1 (medianAdjacent lt d (a + (b - a) / 4 * 2) (medianAdjacent lt d (a + (b - a) / 4 * 1) 0).2).1 (medianAdjacent lt d (a + (b - a) / 4 * 3) (medianAdjacent lt d (a + (b - a) / 4 * 2) (medianAdjacent lt d (a + (b - a) / 4 * 1) 0).2).2).1 (medianAdjacent lt d (a + (b - a) / 4 * 3) (medianAdjacent lt d (a + (b - a) / 4 * 2) (medianAdjacent lt d (a + (b - a) / 4 * 1) 0).2).2).2 else median lt d (a + (b - a) / 4 * 1) (a + (b - a) / 4 * 2) (a + (b - a) / 4 * 3) 0) else (a + (b - a) / 4 * 2, 0)) := rfl
set_option maxHeartbeats 4000000 in
set_option maxRecDepth 100000 in
theorem so_choose {α : Type} [Inhabited α] {lt : α → α → Bool} {n lf sf : Nat} {lb sb : Array Value} (E : SoE α lt n lf lb sf sb) (w : World) (d : Array α) (a b : Nat) (hI : E.I d w) (hab : a < b) (hb : b ≤ n) :
    Calls Tryz.prog 91 #[(.agg (soL lf lb sf sb).toArray), .int .i64 (a : Int), .int .i64 (b : Int)] w fun e w' => e = .returned (.tuple #[.int .i64 ((choosePivot lt d a b).1 : Int), .int .i64 (hintC (choosePivot lt d a b).2 : Int)]) ∧ E.I d w' ∧ E.R w w' := by
  have SZ : Hid ((soL lf lb sf sb).toArray.size = 2) := rfl
  have HI := Lib.hid hI
  have NL := Lib.hid E.le
  have CE := Lib.hid (choose_eq lt d a b)
  obtain ⟨l, hl⟩ : ∃ l, l = b - a := ⟨_, rfl⟩
  obtain ⟨q, hq⟩ : ∃ q, q = l / 4 := ⟨_, rfl⟩
  rw [← hl] at CE
  rw [← hq] at CE
  obtain ⟨i, hi⟩ : ∃ i, i = a + q * 1 := ⟨_, rfl⟩
  obtain ⟨j, hj⟩ : ∃ j, j = a + q * 2 := ⟨_, rfl⟩
  obtain ⟨k, hk⟩ : ∃ k, k = a + q * 3 := ⟨_, rfl⟩
  rw [← hi, ← hj, ← hk] at CE
  have EL : Hid ((b : Int) - (a : Int) = (l : Int)) := by show _ = _; omega
  have EQ : Hid ((l : Int).tdiv 4 = (q : Int)) := by show _ = _; rw [Int.tdiv_eq_ediv_of_nonneg (by omega)]; omega
  have EI : Hid ((a : Int) + (q : Int) = (i : Int)) := by show _ = _; omega
  have EJ : Hid ((a : Int) + (q : Int) * 2 = (j : Int)) := by show _ = _; omega
  have EK : Hid ((a : Int) + (q : Int) * 3 = (k : Int)) := by show _ = _; omega
  have IB : Hid (i < n ∧ j < n ∧ k < n ∧ (50 ≤ l → 1 ≤ i ∧ 1 ≤ j ∧ 1 ≤ k ∧ i + 1 < n ∧ j + 1 < n ∧ k + 1 < n)) := by show _ ∧ _; omega
  have QB : Hid (q ≤ 1048576 ∧ l ≤ 1048576 ∧ a ≤ 1048576) := by have := NL.out; show _ ∧ _; omega
  clear hl hq hi hj hk
  go_enter Tryz.func91, Tryz.ntmps91
  go_upto_region 1 with fail
  have f0 := heap_alloc_new w (.cells (soL lf lb sf sb).toArray 140 (0, 0))
  have bb := (Below.refl w.heap.size w).alloc (Nat.le_refl _) (.cells (soL lf lb sf sb).toArray 140 (0, 0))
  generalize hq : World.alloc _ _ = w1
  have eq : w.alloc (.cells (soL lf lb sf sb).toArray 140 (0, 0)) = w1 := hq
  rw [eq] at f0 bb
  obtain ⟨b0, hb0⟩ : ∃ b0, b0 = w.heap.size := ⟨_, rfl⟩
  rw [← hb0] at f0 ⊢
  have F0 := Lib.hid f0
  have B1 := Lib.hid bb
  clear f0 bb hq eq hb0
  have nl := NL.out
  go_upto_region 2 with fail
  rw [EL.out]
  clear hab hb nl
  go_upto_region 3 with fail
  have f0 := heap_alloc_new w1 (.cells #[.int .i64 0] 3 (0, 0))
  have bb := (Below.refl w1.heap.size w1).alloc (Nat.le_refl _) (.cells #[.int .i64 0] 3 (0, 0))
  generalize hq : World.alloc _ _ = w2
  have eq : w1.alloc (.cells #[.int .i64 0] 3 (0, 0)) = w2 := hq
  rw [eq] at f0 bb
  obtain ⟨s, hs0⟩ : ∃ s, s = w1.heap.size := ⟨_, rfl⟩
  rw [← hs0] at f0 ⊢
  have NB : Hid (b0 ≠ s) := by have := (Array.getElem?_eq_some_iff.1 F0.out).1; show _ ≠ _; omega
  have NS : Hid (w.heap.size ≤ s) := by show _ ≤ _; rw [hs0]; exact B1.out.size
  have FS : Hid (w2.heap[s]? = some (.cells #[.int .i64 ((0 : Nat) : Int)] 3 (0, 0))) := f0
  have F0 := Lib.hid (row_below F0.out bb)
  have C0 : Hid (SoC w s w2 w2 0) := ⟨B1.out.trans (bb.mono B1.out.size), f0, ⟨rfl, rfl, rfl, Nat.le_refl _, fun _ _ _ => rfl⟩⟩
  clear f0 bb hq eq hs0 B1 FS
  have qb := QB.out
  have eqq := EQ.out
  go_upto_region 6 with fail
  rw [EI.out, EJ.out, EK.out]
  clear eqq EI EJ EK EQ EL
  have HN := Lib.hid hI
  clear hI qb
  rcases Nat.lt_or_ge l 8 with h8 | h8
  · have E1 : Hid (choosePivot lt d a b = (j, hintOf 0)) := by show _ = _; rw [CE.out, if_neg (by omega)]
    clear CE
    have cS : w2.cell? ⟨s, 0, none⟩ = some (.int .i64 ((0 : Nat) : Int)) := by rw [cell_of_row _ _ _ _ _ _ C0.out.cnt]; rfl
    have IE := Lib.hid (E.below _ _ _ HI.out C0.out.low)
    have RE := Lib.hid (E.rb _ _ C0.out.low)
    go_wp2_with fail
    go_ret2
    rw [E1.out]
    exact ⟨rfl, IE.out, RE.out⟩
  rcases Nat.lt_or_ge l 50 with h5 | h5
  · have Z0 : Hid (0 ≤ 996) := Nat.zero_le _
    have OC := so_median E w w2 d i j k 0 s HI.out C0.out.low C0.out.cnt NS.out IB.out.1 IB.out.2.1 IB.out.2.2.1 (by have := Z0.out; omega)
    obtain ⟨p, S1, ho⟩ : ∃ x S', median lt d i j k 0 = (x, S') := ⟨_, _, rfl⟩
    rw [ho] at OC
    simp only at OC
    have Op := Lib.hid ho
    clear ho
    go_wp2_with ((with_reducible show wpList _ _ _ _ _ _); (refine wpList_load_row rfl 140 (.tmp 3) rfl b0 rfl 140 (soL lf lb sf sb).toArray (0, 0) _ F0.out Tryz.underlying140 rfl (by rw [SZ.out]; kernel_rfl) ?_; go_frame))
    refine OC.mono ?_
    rintro e w3 ⟨rfl, cc⟩
    have Fp := Lib.hid (cc.box F0.out NB.out)
    have Cp := Lib.hid (C0.out.trans cc)
    clear cc OC
    have E1 : Hid (choosePivot lt d a b = (p, hintOf S1)) := by show _ = _; rw [CE.out, if_pos (by omega), if_neg (by omega), Op.out]
    clear CE Op
    have cS : w3.cell? ⟨s, 0, none⟩ = some (.int .i64 (S1 : Int)) := by rw [cell_of_row _ _ _ _ _ _ Cp.out.cnt]; rfl
    have IE := Lib.hid (E.below _ _ _ HI.out Cp.out.low)
    have RE := Lib.hid (E.rb _ _ Cp.out.low)
    by_cases h0 : S1 = 0
    · subst h0
      go_wp2_with fail
      go_ret2
      rw [E1.out]
      exact ⟨rfl, IE.out, RE.out⟩
    by_cases h12 : S1 = 12
    · subst h12
      go_wp2_with fail
      go_ret2
      rw [E1.out]
      exact ⟨rfl, IE.out, RE.out⟩
    have hh : hintOf S1 = .unknown := by unfold hintOf; rw [if_neg h0, if_neg h12]
    go_wp2_with fail
    go_ret2
    rw [E1.out, hh]
    exact ⟨rfl, IE.out, RE.out⟩
  · have Z0 : Hid (0 ≤ 996) := Nat.zero_le _
    have OC := so_medadj E w w2 d i 0 s HI.out C0.out.low C0.out.cnt NS.out (by have := IB.out.2.2.2 h5; omega) (by have := IB.out.2.2.2 h5; omega) (by have := Z0.out; omega)
    obtain ⟨p, S1, ho⟩ : ∃ x S', medianAdjacent lt d i 0 = (x, S') := ⟨_, _, rfl⟩
    rw [ho] at OC
    simp only at OC
    have Op := Lib.hid ho
    clear ho
    go_wp2_with ((with_reducible show wpList _ _ _ _ _ _); (refine wpList_load_row rfl 140 (.tmp 3) rfl b0 rfl 140 (soL lf lb sf sb).toArray (0, 0) _ F0.out Tryz.underlying140 rfl (by rw [SZ.out]; kernel_rfl) ?_; go_frame))
    refine OC.mono ?_
    rintro e w3 ⟨rfl, cc⟩
    have Fp := Lib.hid (cc.box F0.out NB.out)
    have Cp := Lib.hid (C0.out.trans cc)
    clear cc OC
    have MB := so_md lt d (S := 0) (a := i - 1) (b := i) (c := i + 1) (n := n) (by have := IB.out.2.2.2 h5; omega) (by have := IB.out.2.2.2 h5; omega) (by have := IB.out.2.2.2 h5; omega)
    have Np : Hid (p < n ∧ S1 ≤ 3) := by have ho := Op.out; unfold medianAdjacent at ho; rw [ho] at MB; simp only at MB; have := Z0.out; exact ⟨MB.1, by omega⟩
    clear MB
    have Z1 : Hid (S1 ≤ 996) := by have := Np.out.2; show _ ≤ _; omega
    have OC := so_medadj E w w3 d j S1 s HI.out Cp.out.low Cp.out.cnt NS.out (by have := IB.out.2.2.2 h5; omega) (by have := IB.out.2.2.2 h5; omega) (by have := Z1.out; omega)
    obtain ⟨r, S2, ho⟩ : ∃ x S', medianAdjacent lt d j S1 = (x, S') := ⟨_, _, rfl⟩
    rw [ho] at OC
    simp only at OC
    have Or := Lib.hid ho
    clear ho
    go_wp2_with ((with_reducible show wpList _ _ _ _ _ _); (refine wpList_load_row rfl 140 (.tmp 3) rfl b0 rfl 140 (soL lf lb sf sb).toArray (0, 0) _ Fp.out Tryz.underlying140 rfl (by rw [SZ.out]; kernel_rfl) ?_; go_frame))
    refine OC.mono ?_
    rintro e w4 ⟨rfl, cc⟩
    have Fr := Lib.hid (cc.box Fp.out NB.out)
    have Cr := Lib.hid (Cp.out.trans cc)
    clear cc OC
    have MB := so_md lt d (S := S1) (a := j - 1) (b := j) (c := j + 1) (n := n) (by have := IB.out.2.2.2 h5; omega) (by have := IB.out.2.2.2 h5; omega) (by have := IB.out.2.2.2 h5; omega)
    have Nr : Hid (r < n ∧ S2 ≤ 6) := by have ho := Or.out; unfold medianAdjacent at ho; rw [ho] at MB; simp only at MB; have := Np.out.2; exact ⟨MB.1, by omega⟩
    clear MB
    have Z2 : Hid (S2 ≤ 996) := by have := Nr.out.2; show _ ≤ _; omega
    have OC := so_medadj E w w4 d k S2 s HI.out Cr.out.low Cr.out.cnt NS.out (by have := IB.out.2.2.2 h5; omega) (by have := IB.out.2.2.2 h5; omega) (by have := Z2.out; omega)
    obtain ⟨t, S3, ho⟩ : ∃ x S', medianAdjacent lt d k S2 = (x, S') := ⟨_, _, rfl⟩
    rw [ho] at OC
    simp only at OC
    have Ot := Lib.hid ho
    clear ho
    go_wp2_with ((with_reducible show wpList _ _ _ _ _ _); (refine wpList_load_row rfl 140 (.tmp 3) rfl b0 rfl 140 (soL lf lb sf sb).toArray (0, 0) _ Fr.out Tryz.underlying140 rfl (by rw [SZ.out]; kernel_rfl) ?_; go_frame))
    refine OC.mono ?_
    rintro e w5 ⟨rfl, cc⟩
    have Ft := Lib.hid (cc.box Fr.out NB.out)
    have Ct := Lib.hid (Cr.out.trans cc)
    clear cc OC
    have MB := so_md lt d (S := S2) (a := k - 1) (b := k) (c := k + 1) (n := n) (by have := IB.out.2.2.2 h5; omega) (by have := IB.out.2.2.2 h5; omega) (by have := IB.out.2.2.2 h5; omega)
    have Nt : Hid (t < n ∧ S3 ≤ 9) := by have ho := Ot.out; unfold medianAdjacent at ho; rw [ho] at MB; simp only at MB; have := Nr.out.2; exact ⟨MB.1, by omega⟩
    clear MB
    have Z3 : Hid (S3 ≤ 996) := by have := Nt.out.2; show _ ≤ _; omega
    have OC := so_median E w w5 d p r t S3 s HI.out Ct.out.low Ct.out.cnt NS.out Np.out.1 Nr.out.1 Nt.out.1 (by have := Z3.out; omega)
    obtain ⟨u, S4, ho⟩ : ∃ x S', median lt d p r t S3 = (x, S') := ⟨_, _, rfl⟩
    rw [ho] at OC
    simp only at OC
    have Ou := Lib.hid ho
    clear ho
    go_wp2_with ((with_reducible show wpList _ _ _ _ _ _); (refine wpList_load_row rfl 140 (.tmp 3) rfl b0 rfl 140 (soL lf lb sf sb).toArray (0, 0) _ Ft.out Tryz.underlying140 rfl (by rw [SZ.out]; kernel_rfl) ?_; go_frame))
    refine OC.mono ?_
    rintro e w6 ⟨rfl, cc⟩
    have Fu := Lib.hid (cc.box Ft.out NB.out)
    have Cu := Lib.hid (Ct.out.trans cc)
    clear cc OC
    have E1 : Hid (choosePivot lt d a b = (u, hintOf S4)) := by
      show _ = _
      rw [CE.out, if_pos (by omega), if_pos (by omega), Op.out]
      simp only
      rw [Or.out]
      simp only
      rw [Ot.out]
      simp only
      rw [Ou.out]
    clear CE Op Or Ot Ou
    have cS : w6.cell? ⟨s, 0, none⟩ = some (.int .i64 (S4 : Int)) := by rw [cell_of_row _ _ _ _ _ _ Cu.out.cnt]; rfl
    have IE := Lib.hid (E.below _ _ _ HI.out Cu.out.low)
    have RE := Lib.hid (E.rb _ _ Cu.out.low)
    by_cases h0 : S4 = 0
    · subst h0
      go_wp2_with fail
      go_ret2
      rw [E1.out]
      exact ⟨rfl, IE.out, RE.out⟩
    by_cases h12 : S4 = 12
    · subst h12
      go_wp2_with fail
      go_ret2
      rw [E1.out]
      exact ⟨rfl, IE.out, RE.out⟩
    have hh : hintOf S4 = .unknown := by unfold hintOf; rw [if_neg h0, if_neg h12]
    go_wp2_with fail
    go_ret2
    rw [E1.out, hh]
    exact ⟨rfl, IE.out, RE.out⟩
end Go.Proofs.YtdhcjaflbfpalaaGreatDoor.Sha

/-
  The library's partition of a row about a value that many share, its comparison being free to lay blocks. Conditions: those of SoE.
-/
namespace Go.Proofs.YtdhcjaflbfpalaaGreatDoor.Sha
open Go Go.RowKit
open Go.Sort (swp)
set_option maxHeartbeats 8000000 in
set_option maxRecDepth 100000 in
theorem so_parteq {α : Type} [Inhabited α] {lt : α → α → Bool} {n lf sf : Nat} {lb sb : Array Value} (E : SoE α lt n lf lb sf sb) (w : World) (d : Array α) (a b pivot : Nat) (hI : E.I d w) (hap : a ≤ pivot) (hpb : pivot < b) (hb : b ≤ n) :
    Calls Tryz.prog 94 #[(.agg (soL lf lb sf sb).toArray), .int .i64 (a : Int), .int .i64 (b : Int), .int .i64 (pivot : Int)] w fun e w' => e = .returned (.int .i64 ((Sort.partitionEqual lt d a b pivot).1 : Int)) ∧ E.I (Sort.partitionEqual lt d a b pivot).2 w' ∧ E.R w w' := by
  have eg := E.eg
  have HI := Lib.hid hI
  have NL := Lib.hid E.le
  go_enter Tryz.func94, Tryz.ntmps94
  go_upto_region 1 with fail
  have f0 := heap_alloc_new w (.cells (soL lf lb sf sb).toArray 140 (0, 0))
  have bb := (Below.refl w.heap.size w).alloc (Nat.le_refl _) (.cells (soL lf lb sf sb).toArray 140 (0, 0))
  generalize hq : World.alloc _ _ = w1
  have eq : w.alloc (.cells (soL lf lb sf sb).toArray 140 (0, 0)) = w1 := hq
  rw [eq] at f0 bb
  obtain ⟨b0, hb0⟩ : ∃ b0, b0 = w.heap.size := ⟨_, rfl⟩
  rw [← hb0] at f0 ⊢
  have F0 := Lib.hid f0
  have I1 := Lib.hid (E.below _ _ _ hI bb)
  have R1 := Lib.hid (E.rb _ _ bb)
  clear f0 bb hq eq hb0 hI
  have nl := NL.out
  have c1 := so_c1 F0.out
  go_wp2_with fail
  obtain ⟨w2, hs, hi2, hr2⟩ := E.swap d w1 (a) (pivot) I1.out (by omega) (by omega)
  rw [hs, Oper.upon_value]
  have I2 := Lib.hid hi2
  have F2 := Lib.hid (E.rbox _ _ _ hr2 F0.out)
  have R2 := Lib.hid (E.rt _ _ _ R1.out hr2)
  clear hs hi2 hr2
  clear c1 I1 R1 F0 HI
  go_wp2_with fail
  go_loopw [9, 10] (fun vi vj wu => ∃ (i j : Nat) (dk : Array α), vi = .int .i64 (i : Int) ∧ vj = .int .i64 (j : Int) ∧ a < i ∧ i ≤ j + 1 ∧ j < b ∧ E.I dk wu ∧ E.R w wu ∧ wu.heap[b0]? = some (.cells (soL lf lb sf sb).toArray 140 (0, 0)) ∧ Hid (Sort.partEqLoop lt a i j dk = Sort.partEqLoop lt a (a + 1) (b - 1) (swp d a pivot))) (fun vi vj _ => (intOf vj).toNat + 1 - (intOf vi).toNat)
  case atStart => exact ⟨a + 1, b - 1, swp d a pivot, by go_num, by go_num, by omega, by omega, by omega, I2.out, R2.out, F2.out, rfl⟩
  case round =>
    clear I2 R2 F2
    obtain ⟨i, j, dk, rfl, rfl, hai, hij, hjb, hi_, hr_, hf_, HE⟩ := hrel
    have IK := Lib.hid hi_
    have RK := Lib.hid hr_
    have FK := Lib.hid hf_
    clear hi_ hr_ hf_
    go_wp2_with fail
    go_loopw [9] (fun vi wu => ∃ i' : Nat, vi = .int .i64 (i' : Int) ∧ i ≤ i' ∧ i' ≤ j + 1 ∧ E.I dk wu ∧ E.R w wu ∧ wu.heap[b0]? = some (.cells (soL lf lb sf sb).toArray 140 (0, 0)) ∧ Hid (Sort.scanUp (fun x => !lt dk[a]! x) dk j i' = Sort.scanUp (fun x => !lt dk[a]! x) dk j i)) (fun vi _ => j + 1 - (intOf vi).toNat)
    case atStart => exact ⟨i, rfl, Nat.le_refl _, by omega, IK.out, RK.out, FK.out, rfl⟩
    case round =>
      clear IK RK FK
      obtain ⟨i', rfl, hii, hij', hi_, hr_, hf_, hsc⟩ := hrel
      have IU := Lib.hid hi_
      have RU := Lib.hid hr_
      have FU := Lib.hid hf_
      have c0 := so_c0 hf_
      clear hi_ hr_ hf_
      by_cases hle : i' ≤ j
      · have hl := E.less dk wr a i' IU.out (by omega) (by omega)
        cases hlv : lt dk[a]! dk[i']! with
        | false =>
          rw [hlv] at hl
          go_wp2_with (go_at_fn lf; refine hl.mono ?_; rintro e wv ⟨rfl, bb⟩; have IV := Lib.hid (E.below _ _ _ IU.out bb); have FV := Lib.hid (row_below FU.out bb); have RV := Lib.hid (E.rt _ _ _ RU.out (E.rb _ _ bb)); clear bb)
          go_roundw
          case rel => exact ⟨i' + 1, by go_num, by omega, by omega, IV.out, RV.out, FV.out, (scanUp_go (fun x => !lt dk[a]! x) dk j i' hle (by simp [hlv])).symm.trans hsc.out⟩
          case measure => simp [intOf]; omega
        | true =>
          rw [hlv] at hl
          have hi2 : Hid (i' = Sort.scanUp (fun x => !lt dk[a]! x) dk j i) := (scanUp_end (fun x => !lt dk[a]! x) dk j i' (Or.inr (by simp [hlv]))).symm.trans hsc.out
          clear hsc
          go_wp2_with (go_at_fn lf; refine hl.mono ?_; rintro e wv ⟨rfl, bb⟩; have IV := Lib.hid (E.below _ _ _ IU.out bb); have FV := Lib.hid (row_below FU.out bb); have RV := Lib.hid (E.rt _ _ _ RU.out (E.rb _ _ bb)); clear bb)
          clear hl c0 IU RU FU
          go_loopw [10] (fun vj wu => ∃ j' : Nat, vj = .int .i64 (j' : Int) ∧ j' ≤ j ∧ i' ≤ j' + 1 ∧ E.I dk wu ∧ E.R w wu ∧ wu.heap[b0]? = some (.cells (soL lf lb sf sb).toArray 140 (0, 0)) ∧ Hid (Sort.scanDown (fun x => lt dk[a]! x) dk i' j' = Sort.scanDown (fun x => lt dk[a]! x) dk i' j)) (fun vj _ => (intOf vj).toNat)
          case atStart => exact ⟨j, rfl, Nat.le_refl _, by omega, IV.out, RV.out, FV.out, rfl⟩
          case round =>
            clear IV RV FV
            obtain ⟨j', rfl, hjj, hij2, hi_, hr_, hf_, hsd⟩ := hrel
            have IX := Lib.hid hi_
            have RX := Lib.hid hr_
            have FX := Lib.hid hf_
            have c0 := so_c0 hf_
            have c1x := so_c1 hf_
            clear hi_ hr_ hf_
            by_cases hle2 : i' ≤ j'
            · have hl := E.less dk wr a j' IX.out (by omega) (by omega)
              cases hlv2 : lt dk[a]! dk[j']! with
              | true =>
                rw [hlv2] at hl
                go_wp2_with (go_at_fn lf; refine hl.mono ?_; rintro e wy ⟨rfl, bb⟩; have IY := Lib.hid (E.below _ _ _ IX.out bb); have FY := Lib.hid (row_below FX.out bb); have RY := Lib.hid (E.rt _ _ _ RX.out (E.rb _ _ bb)); clear bb)
                go_roundw
                case rel => exact ⟨j' - 1, by go_num, by omega, by omega, IY.out, RY.out, FY.out, (scanDown_go (fun x => lt dk[a]! x) dk i' j' hle2 (by omega) (by simp [hlv2])).symm.trans hsd.out⟩
                case measure => simp [intOf]; omega
              | false =>
                rw [hlv2] at hl
                have hj2 : Hid (j' = Sort.scanDown (fun x => lt dk[a]! x) dk i' j) := (scanDown_end (fun x => lt dk[a]! x) dk i' j' (Or.inr (by simp [hlv2]))).symm.trans hsd.out
                clear hsd
                go_wp2_with (go_at_fn lf; refine hl.mono ?_; rintro e wy ⟨rfl, bb⟩; have IY := Lib.hid (E.below _ _ _ IX.out bb); have FY := Lib.hid (row_below FX.out bb); have RY := Lib.hid (E.rt _ _ _ RX.out (E.rb _ _ bb)); have c1 := so_c1 FY.out; clear bb)
                clear hl c0 IX RX FX
                have hlt3 := Go.Proofs.scans_lt lt a i j dk (by omega) hi2.out hj2.out hle2
                obtain ⟨wz, hs, hi2, hr2⟩ := E.swap dk wy (i') (j') IY.out (by omega) (by omega)
                rw [hs, Oper.upon_value]
                have IZ := Lib.hid hi2
                have FZ := Lib.hid (E.rbox _ _ _ hr2 FY.out)
                have RZ := Lib.hid (E.rt _ _ _ RY.out hr2)
                clear hs hi2 hr2
                go_wp2_with fail
                go_roundw
                case rel => exact ⟨i' + 1, j' - 1, swp dk i' j', by go_num, by go_num, by omega, by omega, by omega, IZ.out, RZ.out, FZ.out, by rw [← HE.out]; exact (Go.Proofs.partEq_go lt a i j dk hi2.out hj2.out (by omega)).symm⟩
                case measure => simp [intOf]; omega
            · have hj2 : Hid (j' = Sort.scanDown (fun x => lt dk[a]! x) dk i' j) := (scanDown_end (fun x => lt dk[a]! x) dk i' j' (Or.inl hle2)).symm.trans hsd.out
              clear hsd
              go_wp2_with fail
              go_ret
              have e := Go.Proofs.partEq_break lt a i j dk hi2.out hj2.out (by omega)
              have e2 : Sort.partitionEqual lt d a b pivot = (i', dk) := by unfold Sort.partitionEqual; rw [← HE.out, e]
              rw [e2]
              exact ⟨rfl, IX.out, RX.out⟩
      · have hi2 : Hid (i' = Sort.scanUp (fun x => !lt dk[a]! x) dk j i) := (scanUp_end (fun x => !lt dk[a]! x) dk j i' (Or.inl hle)).symm.trans hsc.out
        clear hsc
        go_wp2_with fail
        clear c0
        have IV := IU
        have RV := RU
        have FV := FU
        clear IU RU FU
        go_loopw [10] (fun vj wu => ∃ j' : Nat, vj = .int .i64 (j' : Int) ∧ j' ≤ j ∧ i' ≤ j' + 1 ∧ E.I dk wu ∧ E.R w wu ∧ wu.heap[b0]? = some (.cells (soL lf lb sf sb).toArray 140 (0, 0)) ∧ Hid (Sort.scanDown (fun x => lt dk[a]! x) dk i' j' = Sort.scanDown (fun x => lt dk[a]! x) dk i' j)) (fun vj _ => (intOf vj).toNat)
        case atStart => exact ⟨j, rfl, Nat.le_refl _, by omega, IV.out, RV.out, FV.out, rfl⟩
        case round =>
          clear IV RV FV
          obtain ⟨j', rfl, hjj, hij2, hi_, hr_, hf_, hsd⟩ := hrel
          have IX := Lib.hid hi_
          have RX := Lib.hid hr_
          have FX := Lib.hid hf_
          have c0 := so_c0 hf_
          have c1x := so_c1 hf_
          clear hi_ hr_ hf_
          by_cases hle2 : i' ≤ j'
          · exfalso; omega
          · have hj2 : Hid (j' = Sort.scanDown (fun x => lt dk[a]! x) dk i' j) := (scanDown_end (fun x => lt dk[a]! x) dk i' j' (Or.inl hle2)).symm.trans hsd.out
            clear hsd
            go_wp2_with fail
            go_ret
            have e := Go.Proofs.partEq_break lt a i j dk hi2.out hj2.out (by omega)
            have e2 : Sort.partitionEqual lt d a b pivot = (i', dk) := by unfold Sort.partitionEqual; rw [← HE.out, e]
            rw [e2]
            exact ⟨rfl, IX.out, RX.out⟩
end Go.Proofs.YtdhcjaflbfpalaaGreatDoor.Sha

/-
  The library's partition of a row about a value, its comparison being free to lay blocks. Conditions: those of SoE.
-/
namespace Go.Proofs.YtdhcjaflbfpalaaGreatDoor.Sha
open Go Go.RowKit
open Go.Sort (swp)
set_option maxHeartbeats 12000000 in
set_option maxRecDepth 100000 in
theorem so_part {α : Type} [Inhabited α] {lt : α → α → Bool} {n lf sf : Nat} {lb sb : Array Value} (E : SoE α lt n lf lb sf sb) (w : World) (d : Array α) (a b pivot : Nat) (hI : E.I d w) (hap : a ≤ pivot) (hpb : pivot < b) (hb : b ≤ n) :
    Calls Tryz.prog 95 #[(.agg (soL lf lb sf sb).toArray), .int .i64 (a : Int), .int .i64 (b : Int), .int .i64 (pivot : Int)] w fun e w' => e = .returned (.tuple #[.int .i64 ((Sort.partition lt d a b pivot).1 : Int), .bool (Sort.partition lt d a b pivot).2.1]) ∧ E.I (Sort.partition lt d a b pivot).2.2 w' ∧ E.R w w' := by
  have eg := E.eg
  have HI := Lib.hid hI
  have NL := Lib.hid E.le
  go_enter Tryz.func95, Tryz.ntmps95
  go_upto_region 1 with fail
  have f0 := heap_alloc_new w (.cells (soL lf lb sf sb).toArray 140 (0, 0))
  have bb := (Below.refl w.heap.size w).alloc (Nat.le_refl _) (.cells (soL lf lb sf sb).toArray 140 (0, 0))
  generalize hq : World.alloc _ _ = w1
  have eq : w.alloc (.cells (soL lf lb sf sb).toArray 140 (0, 0)) = w1 := hq
  rw [eq] at f0 bb
  obtain ⟨b0, hb0⟩ : ∃ b0, b0 = w.heap.size := ⟨_, rfl⟩
  rw [← hb0] at f0 ⊢
  have F0 := Lib.hid f0
  have I1 := Lib.hid (E.below _ _ _ hI bb)
  have R1 := Lib.hid (E.rb _ _ bb)
  clear f0 bb hq eq hb0 hI
  have nl := NL.out
  have c1 := so_c1 F0.out
  go_wp2_with fail
  obtain ⟨w2, hs, hi2, hr2⟩ := E.swap d w1 (a) (pivot) I1.out (by omega) (by omega)
  rw [hs, Oper.upon_value]
  have I2 := Lib.hid hi2
  have F2 := Lib.hid (E.rbox _ _ _ hr2 F0.out)
  have R2 := Lib.hid (E.rt _ _ _ R1.out hr2)
  clear hs hi2 hr2
  clear c1 I1 R1 F0 HI
  go_wp2_with fail
  obtain ⟨i, hi0⟩ : ∃ i, i = a + 1 := ⟨_, rfl⟩
  obtain ⟨j, hj0⟩ : ∃ j, j = b - 1 := ⟨_, rfl⟩
  obtain ⟨dk, hd0⟩ : ∃ dk, dk = swp d a pivot := ⟨_, rfl⟩
  rw [← hd0] at I2
  have EI : Hid ((a : Int) + 1 = (i : Int)) := by show _ = _; omega
  have EJ : Hid ((b : Int) - 1 = (j : Int)) := by show _ = _; omega
  rw [EI.out, EJ.out]
  have hai : a < i := by omega
  have hij : i ≤ j + 1 := by omega
  have hjb : j < b := by omega
  have HI0 := Lib.hid hi0
  have HJ0 := Lib.hid hj0
  have HD0 := Lib.hid hd0
  clear hi0 hj0 hd0 EI EJ
  go_loopw [10] (fun vi wu => ∃ i' : Nat, vi = .int .i64 (i' : Int) ∧ i ≤ i' ∧ i' ≤ j + 1 ∧ E.I dk wu ∧ E.R w wu ∧ wu.heap[b0]? = some (.cells (soL lf lb sf sb).toArray 140 (0, 0)) ∧ Hid (Sort.scanUp (fun x => lt x dk[a]!) dk j i' = Sort.scanUp (fun x => lt x dk[a]!) dk j i)) (fun vi _ => j + 1 - (intOf vi).toNat)
  case atStart => exact ⟨i, rfl, Nat.le_refl _, by omega, I2.out, R2.out, F2.out, rfl⟩
  case round =>
    clear I2 R2 F2
    obtain ⟨i', rfl, hii, hij', hi_, hr_, hf_, hsc⟩ := hrel
    have IU := Lib.hid hi_
    have RU := Lib.hid hr_
    have FU := Lib.hid hf_
    have c0 := so_c0 hf_
    clear hi_ hr_ hf_
    by_cases hle : i' ≤ j
    · have hl := E.less dk wr i' a IU.out (by omega) (by omega)
      cases hlv : lt dk[i']! dk[a]! with
      | true =>
        rw [hlv] at hl
        go_wp2_with (go_at_fn lf; refine hl.mono ?_; rintro e wv ⟨rfl, bb⟩; have IV := Lib.hid (E.below _ _ _ IU.out bb); have FV := Lib.hid (row_below FU.out bb); have RV := Lib.hid (E.rt _ _ _ RU.out (E.rb _ _ bb)); clear bb)
        go_roundw
        case rel => exact ⟨i' + 1, by go_num, by omega, by omega, IV.out, RV.out, FV.out, (scanUp_go (fun x => lt x dk[a]!) dk j i' hle (by simp [hlv])).symm.trans hsc.out⟩
        case measure => simp [intOf]; omega
      | false =>
        rw [hlv] at hl
        have hi2 : Hid (i' = Sort.scanUp (fun x => lt x dk[a]!) dk j i) := (scanUp_end (fun x => lt x dk[a]!) dk j i' (Or.inr (by simp [hlv]))).symm.trans hsc.out
        clear hsc
        go_wp2_with (go_at_fn lf; refine hl.mono ?_; rintro e wv ⟨rfl, bb⟩; have IV := Lib.hid (E.below _ _ _ IU.out bb); have FV := Lib.hid (row_below FU.out bb); have RV := Lib.hid (E.rt _ _ _ RU.out (E.rb _ _ bb)); clear bb)
        clear hl c0 IU RU FU
        go_loopw [11] (fun vj wu => ∃ j' : Nat, vj = .int .i64 (j' : Int) ∧ j' ≤ j ∧ i' ≤ j' + 1 ∧ E.I dk wu ∧ E.R w wu ∧ wu.heap[b0]? = some (.cells (soL lf lb sf sb).toArray 140 (0, 0)) ∧ Hid (Sort.scanDown (fun x => !lt x dk[a]!) dk i' j' = Sort.scanDown (fun x => !lt x dk[a]!) dk i' j)) (fun vj _ => (intOf vj).toNat)
        case atStart => exact ⟨j, rfl, Nat.le_refl _, by omega, IV.out, RV.out, FV.out, rfl⟩
        case round =>
          clear IV RV FV
          obtain ⟨j', rfl, hjj, hij2, hi_, hr_, hf_, hsd⟩ := hrel
          have IX := Lib.hid hi_
          have RX := Lib.hid hr_
          have FX := Lib.hid hf_
          have c0 := so_c0 hf_
          have c1x := so_c1 hf_
          clear hi_ hr_ hf_
          by_cases hle2 : i' ≤ j'
          · have hl := E.less dk wr j' a IX.out (by omega) (by omega)
            cases hlv2 : lt dk[j']! dk[a]! with
            | false =>
              rw [hlv2] at hl
              go_wp2_with (go_at_fn lf; refine hl.mono ?_; rintro e wy ⟨rfl, bb⟩; have IY := Lib.hid (E.below _ _ _ IX.out bb); have FY := Lib.hid (row_below FX.out bb); have RY := Lib.hid (E.rt _ _ _ RX.out (E.rb _ _ bb)); clear bb)
              go_roundw
              case rel => exact ⟨j' - 1, by go_num, by omega, by omega, IY.out, RY.out, FY.out, (scanDown_go (fun x => !lt x dk[a]!) dk i' j' hle2 (by omega) (by simp [hlv2])).symm.trans hsd.out⟩
              case measure => simp [intOf]; omega
            | true =>
              rw [hlv2] at hl
              have hj2 : Hid (j' = Sort.scanDown (fun x => !lt x dk[a]!) dk i' j) := (scanDown_end (fun x => !lt x dk[a]!) dk i' j' (Or.inr (by simp [hlv2]))).symm.trans hsd.out
              clear hsd
              go_wp2_with (go_at_fn lf; refine hl.mono ?_; rintro e wy ⟨rfl, bb⟩; have IY := Lib.hid (E.below _ _ _ IX.out bb); have FY := Lib.hid (row_below FX.out bb); have RY := Lib.hid (E.rt _ _ _ RX.out (E.rb _ _ bb)); have c1 := so_c1 FY.out; clear bb)
              clear hl c0 IX RX FX
              have hlt3 := part_scans_lt lt a i j dk (by omega) hi2.out hj2.out hle2
              obtain ⟨r, hr⟩ : ∃ r, r = Sort.partLoop lt a (i' + 1) (j' - 1) (swp dk i' j') := ⟨_, rfl⟩
              have PG : Hid (Sort.partition lt d a b pivot = (r.1, false, swp r.2 r.1 a)) := by show _ = _; rw [hr]; exact part_first_go lt d a b pivot HI0.out HJ0.out HD0.out hi2.out hj2.out (by omega)
              have HR := Lib.hid hr
              clear hr
              have JB : i' < j' ∧ j' ≤ j ∧ j < b := ⟨by omega, by omega, by have := HJ0.out; omega⟩
              obtain ⟨wz, hs, hi2, hr2⟩ := E.swap dk wy (i') (j') IY.out (by omega) (by omega)
              rw [hs, Oper.upon_value]
              have IZ := Lib.hid hi2
              have FZ := Lib.hid (E.rbox _ _ _ hr2 FY.out)
              have RZ := Lib.hid (E.rt _ _ _ RY.out hr2)
              clear hs hi2 hr2
              go_wp2_with fail
              go_loopw [10, 11] (fun vi vj wu => ∃ (i j : Nat) (dk : Array α), vi = .int .i64 (i : Int) ∧ vj = .int .i64 (j : Int) ∧ a < i ∧ i ≤ j + 1 ∧ j < b ∧ E.I dk wu ∧ E.R w wu ∧ wu.heap[b0]? = some (.cells (soL lf lb sf sb).toArray 140 (0, 0)) ∧ Hid (Sort.partLoop lt a i j dk = r)) (fun vi vj _ => (intOf vj).toNat + 1 - (intOf vi).toNat)
              case atStart => exact ⟨i' + 1, j' - 1, swp dk i' j', by go_num, by go_num, by omega, by omega, by omega, IZ.out, RZ.out, FZ.out, HR.out.symm⟩
              case round =>
                clear IZ RZ FZ hi2 hj2 hii hij' hjj hij2 hle hle2 hlt3 HR JB
                obtain ⟨i, j, dk, rfl, rfl, hai, hij, hjb, hi_, hr_, hf_, HE⟩ := hrel
                have IK := Lib.hid hi_
                have RK := Lib.hid hr_
                have FK := Lib.hid hf_
                clear hi_ hr_ hf_
                go_wp2_with fail
                go_loopw [10] (fun vi wu => ∃ i' : Nat, vi = .int .i64 (i' : Int) ∧ i ≤ i' ∧ i' ≤ j + 1 ∧ E.I dk wu ∧ E.R w wu ∧ wu.heap[b0]? = some (.cells (soL lf lb sf sb).toArray 140 (0, 0)) ∧ Hid (Sort.scanUp (fun x => lt x dk[a]!) dk j i' = Sort.scanUp (fun x => lt x dk[a]!) dk j i)) (fun vi _ => j + 1 - (intOf vi).toNat)
                case atStart => exact ⟨i, rfl, Nat.le_refl _, by omega, IK.out, RK.out, FK.out, rfl⟩
                case round =>
                  clear IK RK FK
                  obtain ⟨i', rfl, hii, hij', hi_, hr_, hf_, hsc⟩ := hrel
                  have IU := Lib.hid hi_
                  have RU := Lib.hid hr_
                  have FU := Lib.hid hf_
                  have c0 := so_c0 hf_
                  clear hi_ hr_ hf_
                  by_cases hle : i' ≤ j
                  · have hl := E.less dk wr i' a IU.out (by omega) (by omega)
                    cases hlv : lt dk[i']! dk[a]! with
                    | true =>
                      rw [hlv] at hl
                      go_wp2_with (go_at_fn lf; refine hl.mono ?_; rintro e wv ⟨rfl, bb⟩; have IV := Lib.hid (E.below _ _ _ IU.out bb); have FV := Lib.hid (row_below FU.out bb); have RV := Lib.hid (E.rt _ _ _ RU.out (E.rb _ _ bb)); clear bb)
                      go_roundw
                      case rel => exact ⟨i' + 1, by go_num, by omega, by omega, IV.out, RV.out, FV.out, (scanUp_go (fun x => lt x dk[a]!) dk j i' hle (by simp [hlv])).symm.trans hsc.out⟩
                      case measure => simp [intOf]; omega
                    | false =>
                      rw [hlv] at hl
                      have hi2 : Hid (i' = Sort.scanUp (fun x => lt x dk[a]!) dk j i) := (scanUp_end (fun x => lt x dk[a]!) dk j i' (Or.inr (by simp [hlv]))).symm.trans hsc.out
                      clear hsc
                      go_wp2_with (go_at_fn lf; refine hl.mono ?_; rintro e wv ⟨rfl, bb⟩; have IV := Lib.hid (E.below _ _ _ IU.out bb); have FV := Lib.hid (row_below FU.out bb); have RV := Lib.hid (E.rt _ _ _ RU.out (E.rb _ _ bb)); clear bb)
                      clear hl c0 IU RU FU
                      go_loopw [11] (fun vj wu => ∃ j' : Nat, vj = .int .i64 (j' : Int) ∧ j' ≤ j ∧ i' ≤ j' + 1 ∧ E.I dk wu ∧ E.R w wu ∧ wu.heap[b0]? = some (.cells (soL lf lb sf sb).toArray 140 (0, 0)) ∧ Hid (Sort.scanDown (fun x => !lt x dk[a]!) dk i' j' = Sort.scanDown (fun x => !lt x dk[a]!) dk i' j)) (fun vj _ => (intOf vj).toNat)
                      case atStart => exact ⟨j, rfl, Nat.le_refl _, by omega, IV.out, RV.out, FV.out, rfl⟩
                      case round =>
                        clear IV RV FV
                        obtain ⟨j', rfl, hjj, hij2, hi_, hr_, hf_, hsd⟩ := hrel
                        have IX := Lib.hid hi_
                        have RX := Lib.hid hr_
                        have FX := Lib.hid hf_
                        have c0 := so_c0 hf_
                        have c1x := so_c1 hf_
                        clear hi_ hr_ hf_
                        by_cases hle2 : i' ≤ j'
                        · have hl := E.less dk wr j' a IX.out (by omega) (by omega)
                          cases hlv2 : lt dk[j']! dk[a]! with
                          | false =>
                            rw [hlv2] at hl
                            go_wp2_with (go_at_fn lf; refine hl.mono ?_; rintro e wy ⟨rfl, bb⟩; have IY := Lib.hid (E.below _ _ _ IX.out bb); have FY := Lib.hid (row_below FX.out bb); have RY := Lib.hid (E.rt _ _ _ RX.out (E.rb _ _ bb)); clear bb)
                            go_roundw
                            case rel => exact ⟨j' - 1, by go_num, by omega, by omega, IY.out, RY.out, FY.out, (scanDown_go (fun x => !lt x dk[a]!) dk i' j' hle2 (by omega) (by simp [hlv2])).symm.trans hsd.out⟩
                            case measure => simp [intOf]; omega
                          | true =>
                            rw [hlv2] at hl
                            have hj2 : Hid (j' = Sort.scanDown (fun x => !lt x dk[a]!) dk i' j) := (scanDown_end (fun x => !lt x dk[a]!) dk i' j' (Or.inr (by simp [hlv2]))).symm.trans hsd.out
                            clear hsd
                            go_wp2_with (go_at_fn lf; refine hl.mono ?_; rintro e wy ⟨rfl, bb⟩; have IY := Lib.hid (E.below _ _ _ IX.out bb); have FY := Lib.hid (row_below FX.out bb); have RY := Lib.hid (E.rt _ _ _ RX.out (E.rb _ _ bb)); have c1 := so_c1 FY.out; clear bb)
                            clear hl c0 IX RX FX
                            have hlt3 := part_scans_lt lt a i j dk (by omega) hi2.out hj2.out hle2
                            obtain ⟨wz, hs, hi2, hr2⟩ := E.swap dk wy (i') (j') IY.out (by omega) (by omega)
                            rw [hs, Oper.upon_value]
                            have IZ := Lib.hid hi2
                            have FZ := Lib.hid (E.rbox _ _ _ hr2 FY.out)
                            have RZ := Lib.hid (E.rt _ _ _ RY.out hr2)
                            clear hs hi2 hr2
                            go_wp2_with fail
                            go_roundw
                            case rel => exact ⟨i' + 1, j' - 1, swp dk i' j', by go_num, by go_num, by omega, by omega, by omega, IZ.out, RZ.out, FZ.out, by show _ = _; rw [← HE.out]; exact (part_go lt a i j dk hi2.out hj2.out (by omega)).symm⟩
                            case measure => simp [intOf]; omega
                        · have hj2 : Hid (j' = Sort.scanDown (fun x => !lt x dk[a]!) dk i' j) := (scanDown_end (fun x => !lt x dk[a]!) dk i' j' (Or.inl hle2)).symm.trans hsd.out
                          clear hsd
                          go_wp2_with fail
                          have e := part_break lt a i j dk hi2.out hj2.out (by omega)
                          have er : r = (j', dk) := HE.out.symm.trans e
                          obtain ⟨wz, hs, hi2, hr2⟩ := E.swap dk wr (j') (a) IX.out (by omega) (by omega)
                          rw [hs, Oper.upon_value]
                          have IZ := Lib.hid hi2
                          have FZ := Lib.hid (E.rbox _ _ _ hr2 FX.out)
                          have RZ := Lib.hid (E.rt _ _ _ RX.out hr2)
                          clear hs hi2 hr2
                          go_wp2_with fail
                          go_ret2
                          rw [PG.out, er]
                          exact ⟨rfl, IZ.out, RZ.out⟩
                  · have hi2 : Hid (i' = Sort.scanUp (fun x => lt x dk[a]!) dk j i) := (scanUp_end (fun x => lt x dk[a]!) dk j i' (Or.inl hle)).symm.trans hsc.out
                    clear hsc
                    go_wp2_with fail
                    clear c0
                    have IV := IU
                    have RV := RU
                    have FV := FU
                    clear IU RU FU
                    go_loopw [11] (fun vj wu => ∃ j' : Nat, vj = .int .i64 (j' : Int) ∧ j' ≤ j ∧ i' ≤ j' + 1 ∧ E.I dk wu ∧ E.R w wu ∧ wu.heap[b0]? = some (.cells (soL lf lb sf sb).toArray 140 (0, 0)) ∧ Hid (Sort.scanDown (fun x => !lt x dk[a]!) dk i' j' = Sort.scanDown (fun x => !lt x dk[a]!) dk i' j)) (fun vj _ => (intOf vj).toNat)
                    case atStart => exact ⟨j, rfl, Nat.le_refl _, by omega, IV.out, RV.out, FV.out, rfl⟩
                    case round =>
                      clear IV RV FV
                      obtain ⟨j', rfl, hjj, hij2, hi_, hr_, hf_, hsd⟩ := hrel
                      have IX := Lib.hid hi_
                      have RX := Lib.hid hr_
                      have FX := Lib.hid hf_
                      have c0 := so_c0 hf_
                      have c1x := so_c1 hf_
                      clear hi_ hr_ hf_
                      by_cases hle2 : i' ≤ j'
                      · exfalso; omega
                      · have hj2 : Hid (j' = Sort.scanDown (fun x => !lt x dk[a]!) dk i' j) := (scanDown_end (fun x => !lt x dk[a]!) dk i' j' (Or.inl hle2)).symm.trans hsd.out
                        clear hsd
                        go_wp2_with fail
                        have e := part_break lt a i j dk hi2.out hj2.out (by omega)
                        have er : r = (j', dk) := HE.out.symm.trans e
                        obtain ⟨wz, hs, hi2, hr2⟩ := E.swap dk wr (j') (a) IX.out (by omega) (by omega)
                        rw [hs, Oper.upon_value]
                        have IZ := Lib.hid hi2
                        have FZ := Lib.hid (E.rbox _ _ _ hr2 FX.out)
                        have RZ := Lib.hid (E.rt _ _ _ RX.out hr2)
                        clear hs hi2 hr2
                        go_wp2_with fail
                        go_ret2
                        rw [PG.out, er]
                        exact ⟨rfl, IZ.out, RZ.out⟩
          · have hj2 : Hid (j' = Sort.scanDown (fun x => !lt x dk[a]!) dk i' j) := (scanDown_end (fun x => !lt x dk[a]!) dk i' j' (Or.inl hle2)).symm.trans hsd.out
            clear hsd
            go_wp2_with fail
            have e := part_first_break lt d a b pivot HI0.out HJ0.out HD0.out hi2.out hj2.out (by omega)
            obtain ⟨wz, hs, hi2, hr2⟩ := E.swap dk wr (j') (a) IX.out (by omega) (by omega)
            rw [hs, Oper.upon_value]
            have IZ := Lib.hid hi2
            have FZ := Lib.hid (E.rbox _ _ _ hr2 FX.out)
            have RZ := Lib.hid (E.rt _ _ _ RX.out hr2)
            clear hs hi2 hr2
            go_wp2_with fail
            go_ret2
            rw [e]
            exact ⟨rfl, IZ.out, RZ.out⟩
    · have hi2 : Hid (i' = Sort.scanUp (fun x => lt x dk[a]!) dk j i) := (scanUp_end (fun x => lt x dk[a]!) dk j i' (Or.inl hle)).symm.trans hsc.out
      clear hsc
      go_wp2_with fail
      clear c0
      have IV := IU
      have RV := RU
      have FV := FU
      clear IU RU FU
      go_loopw [11] (fun vj wu => ∃ j' : Nat, vj = .int .i64 (j' : Int) ∧ j' ≤ j ∧ i' ≤ j' + 1 ∧ E.I dk wu ∧ E.R w wu ∧ wu.heap[b0]? = some (.cells (soL lf lb sf sb).toArray 140 (0, 0)) ∧ Hid (Sort.scanDown (fun x => !lt x dk[a]!) dk i' j' = Sort.scanDown (fun x => !lt x dk[a]!) dk i' j)) (fun vj _ => (intOf vj).toNat)
      case atStart => exact ⟨j, rfl, Nat.le_refl _, by omega, IV.out, RV.out, FV.out, rfl⟩
      case round =>
        clear IV RV FV
        obtain ⟨j', rfl, hjj, hij2, hi_, hr_, hf_, hsd⟩ := hrel
        have IX := Lib.hid hi_
        have RX := Lib.hid hr_
        have FX := Lib.hid hf_
        have c0 := so_c0 hf_
        have c1x := so_c1 hf_
        clear hi_ hr_ hf_
        by_cases hle2 : i' ≤ j'
        · exfalso; omega
        · have hj2 : Hid (j' = Sort.scanDown (fun x => !lt x dk[a]!) dk i' j) := (scanDown_end (fun x => !lt x dk[a]!) dk i' j' (Or.inl hle2)).symm.trans hsd.out
          clear hsd
          go_wp2_with fail
          have e := part_first_break lt d a b pivot HI0.out HJ0.out HD0.out hi2.out hj2.out (by omega)
          obtain ⟨wz, hs, hi2, hr2⟩ := E.swap dk wr (j') (a) IX.out (by omega) (by omega)
          rw [hs, Oper.upon_value]
          have IZ := Lib.hid hi2
          have FZ := Lib.hid (E.rbox _ _ _ hr2 FX.out)
          have RZ := Lib.hid (E.rt _ _ _ RX.out hr2)
          clear hs hi2 hr2
          go_wp2_with fail
          go_ret2
          rw [e]
          exact ⟨rfl, IZ.out, RZ.out⟩
end Go.Proofs.YtdhcjaflbfpalaaGreatDoor.Sha

/-
  The library's insertion sort that gives up, its comparison being free to lay blocks. Conditions: those of SoE.
-/
namespace Go.Proofs.YtdhcjaflbfpalaaGreatDoor.Sha
open Go Go.RowKit
open Go.Sort (swp)
set_option maxHeartbeats 12000000 in
set_option maxRecDepth 100000 in
theorem so_pins {α : Type} [Inhabited α] {lt : α → α → Bool} {n lf sf : Nat} {lb sb : Array Value} (E : SoE α lt n lf lb sf sb) (w : World) (d : Array α) (a b : Nat) (hI : E.I d w) (hab : a < b) (hb : b ≤ n) :
    Calls Tryz.prog 93 #[(.agg (soL lf lb sf sb).toArray), .int .i64 (a : Int), .int .i64 (b : Int)] w fun e w' => e = .returned (.bool (Sort.partialInsertionSort lt d a b).2) ∧ E.I (Sort.partialInsertionSort lt d a b).1 w' ∧ E.R w w' := by
  have eg := E.eg
  have HI := Lib.hid hI
  have NL := Lib.hid E.le
  go_enter Tryz.func93, Tryz.ntmps93
  go_upto_region 1 with fail
  have f0 := heap_alloc_new w (.cells (soL lf lb sf sb).toArray 140 (0, 0))
  have bb := (Below.refl w.heap.size w).alloc (Nat.le_refl _) (.cells (soL lf lb sf sb).toArray 140 (0, 0))
  generalize hq : World.alloc _ _ = w1
  have eq : w.alloc (.cells (soL lf lb sf sb).toArray 140 (0, 0)) = w1 := hq
  rw [eq] at f0 bb
  obtain ⟨b0, hb0⟩ : ∃ b0, b0 = w.heap.size := ⟨_, rfl⟩
  rw [← hb0] at f0 ⊢
  have F0 := Lib.hid f0
  have I1 := Lib.hid (E.below _ _ _ hI bb)
  have R1 := Lib.hid (E.rb _ _ bb)
  clear f0 bb hq eq hb0 hI
  have nl := NL.out
  go_wp2_with fail
  go_loopw [7, 8] (fun vi vs wu => ∃ (i s : Nat) (dk : Array α), vi = .int .i64 (i : Int) ∧ vs = .int .i64 (s : Int) ∧ s ≤ 5 ∧ a + 1 ≤ i ∧ i ≤ b ∧ E.I dk wu ∧ E.R w wu ∧ wu.heap[b0]? = some (.cells (soL lf lb sf sb).toArray 140 (0, 0)) ∧ Hid (Sort.partialIns lt a b (5 - s) i dk = Sort.partialInsertionSort lt d a b)) (fun _ vs _ => 5 - (intOf vs).toNat)
  case atStart => exact ⟨a + 1, 0, d, by go_num, by go_num, by omega, Nat.le_refl _, by omega, I1.out, R1.out, F0.out, rfl⟩
  case round =>
    clear I1 R1 F0 HI
    obtain ⟨i, s, dk, rfl, rfl, hs5, hai, hib, hi_, hr_, hf_, HO⟩ := hrel
    have IK := Lib.hid hi_
    have RK := Lib.hid hr_
    have FK := Lib.hid hf_
    clear hi_ hr_ hf_
    by_cases hs : s < 5
    · go_wp2_with fail
      rw [show decide ((s : Int) < 5) = true from decide_eq_true (by omega)]
      go_loopw [7] (fun vi wu => ∃ k : Nat, vi = .int .i64 (k : Int) ∧ i ≤ k ∧ k ≤ b ∧ E.I dk wu ∧ E.R w wu ∧ wu.heap[b0]? = some (.cells (soL lf lb sf sb).toArray 140 (0, 0)) ∧ Hid (Sort.scanSorted lt dk b k = Sort.scanSorted lt dk b i)) (fun vi _ => b - (intOf vi).toNat)
      case atStart => exact ⟨i, rfl, Nat.le_refl _, hib, IK.out, RK.out, FK.out, rfl⟩
      case round =>
        clear IK RK FK
        obtain ⟨k, rfl, hik, hkb, hi_, hr_, hf_, HS⟩ := hrel
        have c0 := so_c0 hf_
        have IQ := Lib.hid hi_
        have RQ := Lib.hid hr_
        have FQ := Lib.hid hf_
        clear hi_ hr_ hf_
        by_cases hlt : k < b
        · have hl := E.less dk wr k (k - 1) IQ.out (by omega) (by omega)
          rw [show (((k - 1 : Nat) : Int)) = (k : Int) - 1 by omega] at hl
          cases hv : lt dk[k]! dk[k - 1]! with
          | false =>
            rw [hv] at hl
            go_wp2_with (go_at_fn lf; refine hl.mono ?_; rintro e wv ⟨rfl, bb⟩; have IV := Lib.hid (E.below _ _ _ IQ.out bb); have FV := Lib.hid (row_below FQ.out bb); have RV := Lib.hid (E.rt _ _ _ RQ.out (E.rb _ _ bb)); clear bb)
            go_roundw
            case rel => exact ⟨k + 1, by go_num, by omega, by omega, IV.out, RV.out, FV.out, (scanSorted_go lt dk b k hlt hv).symm.trans HS.out⟩
            case measure => simp [intOf]; omega
          | true =>
            rw [hv] at hl
            have HK : Hid (Sort.scanSorted lt dk b i = k) := HS.out.symm.trans (scanSorted_stop lt dk b k (Or.inr hv))
            clear HS
            have hkn : ¬ (k : Int) = (b : Int) := by omega
            go_upto_region 9 with (go_at_fn lf; refine hl.mono ?_; rintro e wv ⟨rfl, bb⟩; have IV := Lib.hid (E.below _ _ _ IQ.out bb); have FV := Lib.hid (row_below FQ.out bb); have RV := Lib.hid (E.rt _ _ _ RQ.out (E.rb _ _ bb)); clear bb)
            clear hl c0 IQ RQ FQ
            by_cases h50 : b - a < 50
            · have q5 : (b : Int) - (a : Int) < 50 := by omega
              go_wp2_with fail
              go_ret
              have e : Sort.partialInsertionSort lt d a b = (dk, false) := HO.out.symm.trans (pi_short lt a b s i dk (by omega) (by rw [HK.out]; omega) h50)
              rw [e]
              exact ⟨rfl, IV.out, RV.out⟩
            · have q5 : ¬ (b : Int) - (a : Int) < 50 := by omega
              have c1 := so_c1 FV.out
              go_wp2_with fail
              obtain ⟨wz, hs, hi2, hr2⟩ := E.swap dk wv (k) (k - 1) IV.out (by omega) (by omega)
              rw [show (((k - 1 : Nat) : Int)) = (k : Int) - 1 by omega] at hs
              rw [hs, Oper.upon_value]
              have IZ := Lib.hid hi2
              have FZ := Lib.hid (E.rbox _ _ _ hr2 FV.out)
              have RZ := Lib.hid (E.rt _ _ _ RV.out hr2)
              clear hs hi2 hr2
              clear c1 IV RV FV
              go_upto_region 12 with fail
              by_cases hka : k - a ≥ 2
              · have q0 : (k : Int) - (a : Int) ≥ 2 := by omega
                go_wp2_with fail
                go_loopw [9] (fun vj wu => ∃ (j : Nat) (dj : Array α), vj = .int .i64 (j : Int) ∧ j ≤ k - 1 ∧ E.I dj wu ∧ E.R w wu ∧ wu.heap[b0]? = some (.cells (soL lf lb sf sb).toArray 140 (0, 0)) ∧ Hid (Sort.shiftDown lt j dj = Sort.shiftDown lt (k - 1) (swp dk k (k - 1)))) (fun vj _ => (intOf vj).toNat)
                case atStart => exact ⟨k - 1, swp dk k (k - 1), by go_num, Nat.le_refl _, IZ.out, RZ.out, FZ.out, rfl⟩
                case round =>
                  clear IZ RZ FZ
                  obtain ⟨j, dj, rfl, hj1, hi_, hr_, hf_, HS⟩ := hrel
                  have c0 := so_c0 hf_
                  have IJ := Lib.hid hi_
                  have RJ := Lib.hid hr_
                  have FJ := Lib.hid hf_
                  clear hi_ hr_ hf_
                  by_cases hjb : 1 ≤ j
                  · have hl := E.less dj wr j (j - 1) IJ.out (by omega) (by omega)
                    rw [show (((j - 1 : Nat) : Int)) = (j : Int) - 1 by omega] at hl
                    cases hv2 : lt dj[j]! dj[j - 1]! with
                    | true =>
                      rw [hv2] at hl
                      go_wp2_with (go_at_fn lf; refine hl.mono ?_; rintro e wy ⟨rfl, bb⟩; have IU := Lib.hid (E.below _ _ _ IJ.out bb); have FU := Lib.hid (row_below FJ.out bb); have RU := Lib.hid (E.rt _ _ _ RJ.out (E.rb _ _ bb)); have c1 := so_c1 FU.out; clear bb)
                      obtain ⟨wz, hs, hi2, hr2⟩ := E.swap dj wy (j) (j - 1) IU.out (by omega) (by omega)
                      rw [show (((j - 1 : Nat) : Int)) = (j : Int) - 1 by omega] at hs
                      rw [hs, Oper.upon_value]
                      have IZ := Lib.hid hi2
                      have FZ := Lib.hid (E.rbox _ _ _ hr2 FU.out)
                      have RZ := Lib.hid (E.rt _ _ _ RU.out hr2)
                      clear hs hi2 hr2
                      clear hl
                      go_wp2_with fail
                      go_roundw
                      case rel => exact ⟨j - 1, swp dj j (j - 1), by go_num, by omega, IZ.out, RZ.out, FZ.out, by show _ = _; rw [← HS.out, shiftDown_go lt j dj hjb hv2]⟩
                      case measure => simp [intOf]; omega
                    | false =>
                      rw [hv2] at hl
                      go_upto_region 18 with (go_at_fn lf; refine hl.mono ?_; rintro e wy ⟨rfl, bb⟩; have IU := Lib.hid (E.below _ _ _ IJ.out bb); have FU := Lib.hid (row_below FJ.out bb); have RU := Lib.hid (E.rt _ _ _ RJ.out (E.rb _ _ bb)); clear bb)
                      clear hl c0
                      obtain ⟨D, hD⟩ : ∃ D, D = dj := ⟨_, rfl⟩
                      have HD : Hid (Sort.fixDown lt a k (swp dk k (k - 1)) = D) := by show _ = _; rw [hD]; unfold Sort.fixDown; rw [if_pos hka, ← HS.out, shiftDown_stop lt j dj (Or.inr hv2)]
                      rw [← hD] at IU
                      clear hD
                      clear HS
                      by_cases hkb2 : b - k ≥ 2
                      · have q1 : (b : Int) - (k : Int) ≥ 2 := by omega
                        go_wp2_with fail
                        go_loopw [10] (fun vj wu => ∃ (j : Nat) (dj : Array α), vj = .int .i64 (j : Int) ∧ k + 1 ≤ j ∧ j ≤ b ∧ E.I dj wu ∧ E.R w wu ∧ wu.heap[b0]? = some (.cells (soL lf lb sf sb).toArray 140 (0, 0)) ∧ Hid (Sort.shiftUp lt b j dj = Sort.shiftUp lt b (k + 1) D)) (fun vj _ => b - (intOf vj).toNat)
                        case atStart => exact ⟨k + 1, D, by go_num, Nat.le_refl _, by omega, IU.out, RU.out, FU.out, rfl⟩
                        case round =>
                          clear IU RU FU
                          obtain ⟨j, dj, rfl, hj1, hj2, hi_, hr_, hf_, HS⟩ := hrel
                          have c0 := so_c0 hf_
                          have IJ := Lib.hid hi_
                          have RJ := Lib.hid hr_
                          have FJ := Lib.hid hf_
                          clear hi_ hr_ hf_
                          by_cases hjb : j < b
                          · have hl := E.less dj wr j (j - 1) IJ.out (by omega) (by omega)
                            rw [show (((j - 1 : Nat) : Int)) = (j : Int) - 1 by omega] at hl
                            cases hv2 : lt dj[j]! dj[j - 1]! with
                            | true =>
                              rw [hv2] at hl
                              go_wp2_with (go_at_fn lf; refine hl.mono ?_; rintro e wy ⟨rfl, bb⟩; have IU := Lib.hid (E.below _ _ _ IJ.out bb); have FU := Lib.hid (row_below FJ.out bb); have RU := Lib.hid (E.rt _ _ _ RJ.out (E.rb _ _ bb)); have c1 := so_c1 FU.out; clear bb)
                              obtain ⟨wz, hs, hi2, hr2⟩ := E.swap dj wy (j) (j - 1) IU.out (by omega) (by omega)
                              rw [show (((j - 1 : Nat) : Int)) = (j : Int) - 1 by omega] at hs
                              rw [hs, Oper.upon_value]
                              have IZ := Lib.hid hi2
                              have FZ := Lib.hid (E.rbox _ _ _ hr2 FU.out)
                              have RZ := Lib.hid (E.rt _ _ _ RU.out hr2)
                              clear hs hi2 hr2
                              clear hl
                              go_wp2_with fail
                              go_roundw
                              case rel => exact ⟨j + 1, swp dj j (j - 1), by go_num, by omega, by omega, IZ.out, RZ.out, FZ.out, by show _ = _; rw [← HS.out, shiftUp_go lt b j dj hjb hv2]⟩
                              case measure => simp [intOf]; omega
                            | false =>
                              rw [hv2] at hl
                              go_wp2_with (go_at_fn lf; refine hl.mono ?_; rintro e wy ⟨rfl, bb⟩; have IU := Lib.hid (E.below _ _ _ IJ.out bb); have FU := Lib.hid (row_below FJ.out bb); have RU := Lib.hid (E.rt _ _ _ RJ.out (E.rb _ _ bb)); clear bb)
                              clear hl c0
                              have HU : Sort.fixUp lt b k D = dj := by unfold Sort.fixUp; rw [if_pos hkb2, ← HS.out, shiftUp_stop lt b j dj (Or.inr hv2)]
                              go_roundw
                              case rel => exact ⟨k, s + 1, dj, rfl, by go_num, by omega, by omega, by omega, IU.out, RU.out, FU.out, by show _ = _; rw [← HO.out, pi_go lt a b s i k dk (by omega) HK.out (by omega) (by omega), HD.out, HU]⟩
                              case measure => simp [intOf]; omega
                          · go_wp2_with fail
                            clear c0
                            have HU : Sort.fixUp lt b k D = dj := by unfold Sort.fixUp; rw [if_pos hkb2, ← HS.out, shiftUp_stop lt b j dj (Or.inl hjb)]
                            go_roundw
                            case rel => exact ⟨k, s + 1, dj, rfl, by go_num, by omega, by omega, by omega, IJ.out, RJ.out, FJ.out, by show _ = _; rw [← HO.out, pi_go lt a b s i k dk (by omega) HK.out (by omega) (by omega), HD.out, HU]⟩
                            case measure => simp [intOf]; omega
                      · have q1 : ¬ (b : Int) - (k : Int) ≥ 2 := by omega
                        go_wp2_with fail
                        have HU : Sort.fixUp lt b k D = D := by unfold Sort.fixUp; rw [if_neg hkb2]
                        go_roundw
                        case rel => exact ⟨k, s + 1, D, rfl, by go_num, by omega, by omega, by omega, IU.out, RU.out, FU.out, by show _ = _; rw [← HO.out, pi_go lt a b s i k dk (by omega) HK.out (by omega) (by omega), HD.out, HU]⟩
                        case measure => simp [intOf]; omega
                  · have hj0 : j = 0 := by omega
                    go_upto_region 18 with fail
                    clear c0
                    obtain ⟨D, hD⟩ : ∃ D, D = dj := ⟨_, rfl⟩
                    have HD : Hid (Sort.fixDown lt a k (swp dk k (k - 1)) = D) := by show _ = _; rw [hD]; unfold Sort.fixDown; rw [if_pos hka, ← HS.out, shiftDown_stop lt j dj (Or.inl hj0)]
                    rw [← hD] at IJ
                    clear hD
                    clear HS hj0
                    by_cases hkb2 : b - k ≥ 2
                    · have q1 : (b : Int) - (k : Int) ≥ 2 := by omega
                      go_wp2_with fail
                      go_loopw [10] (fun vj wu => ∃ (j : Nat) (dj : Array α), vj = .int .i64 (j : Int) ∧ k + 1 ≤ j ∧ j ≤ b ∧ E.I dj wu ∧ E.R w wu ∧ wu.heap[b0]? = some (.cells (soL lf lb sf sb).toArray 140 (0, 0)) ∧ Hid (Sort.shiftUp lt b j dj = Sort.shiftUp lt b (k + 1) D)) (fun vj _ => b - (intOf vj).toNat)
                      case atStart => exact ⟨k + 1, D, by go_num, Nat.le_refl _, by omega, IJ.out, RJ.out, FJ.out, rfl⟩
                      case round =>
                        clear IJ RJ FJ
                        obtain ⟨j, dj, rfl, hj1, hj2, hi_, hr_, hf_, HS⟩ := hrel
                        have c0 := so_c0 hf_
                        have IJ := Lib.hid hi_
                        have RJ := Lib.hid hr_
                        have FJ := Lib.hid hf_
                        clear hi_ hr_ hf_
                        by_cases hjb : j < b
                        · have hl := E.less dj wr j (j - 1) IJ.out (by omega) (by omega)
                          rw [show (((j - 1 : Nat) : Int)) = (j : Int) - 1 by omega] at hl
                          cases hv2 : lt dj[j]! dj[j - 1]! with
                          | true =>
                            rw [hv2] at hl
                            go_wp2_with (go_at_fn lf; refine hl.mono ?_; rintro e wy ⟨rfl, bb⟩; have IU := Lib.hid (E.below _ _ _ IJ.out bb); have FU := Lib.hid (row_below FJ.out bb); have RU := Lib.hid (E.rt _ _ _ RJ.out (E.rb _ _ bb)); have c1 := so_c1 FU.out; clear bb)
                            obtain ⟨wz, hs, hi2, hr2⟩ := E.swap dj wy (j) (j - 1) IU.out (by omega) (by omega)
                            rw [show (((j - 1 : Nat) : Int)) = (j : Int) - 1 by omega] at hs
                            rw [hs, Oper.upon_value]
                            have IZ := Lib.hid hi2
                            have FZ := Lib.hid (E.rbox _ _ _ hr2 FU.out)
                            have RZ := Lib.hid (E.rt _ _ _ RU.out hr2)
                            clear hs hi2 hr2
                            clear hl
                            go_wp2_with fail
                            go_roundw
                            case rel => exact ⟨j + 1, swp dj j (j - 1), by go_num, by omega, by omega, IZ.out, RZ.out, FZ.out, by show _ = _; rw [← HS.out, shiftUp_go lt b j dj hjb hv2]⟩
                            case measure => simp [intOf]; omega
                          | false =>
                            rw [hv2] at hl
                            go_wp2_with (go_at_fn lf; refine hl.mono ?_; rintro e wy ⟨rfl, bb⟩; have IU := Lib.hid (E.below _ _ _ IJ.out bb); have FU := Lib.hid (row_below FJ.out bb); have RU := Lib.hid (E.rt _ _ _ RJ.out (E.rb _ _ bb)); clear bb)
                            clear hl c0
                            have HU : Sort.fixUp lt b k D = dj := by unfold Sort.fixUp; rw [if_pos hkb2, ← HS.out, shiftUp_stop lt b j dj (Or.inr hv2)]
                            go_roundw
                            case rel => exact ⟨k, s + 1, dj, rfl, by go_num, by omega, by omega, by omega, IU.out, RU.out, FU.out, by show _ = _; rw [← HO.out, pi_go lt a b s i k dk (by omega) HK.out (by omega) (by omega), HD.out, HU]⟩
                            case measure => simp [intOf]; omega
                        · go_wp2_with fail
                          clear c0
                          have HU : Sort.fixUp lt b k D = dj := by unfold Sort.fixUp; rw [if_pos hkb2, ← HS.out, shiftUp_stop lt b j dj (Or.inl hjb)]
                          go_roundw
                          case rel => exact ⟨k, s + 1, dj, rfl, by go_num, by omega, by omega, by omega, IJ.out, RJ.out, FJ.out, by show _ = _; rw [← HO.out, pi_go lt a b s i k dk (by omega) HK.out (by omega) (by omega), HD.out, HU]⟩
                          case measure => simp [intOf]; omega
                    · have q1 : ¬ (b : Int) - (k : Int) ≥ 2 := by omega
                      go_wp2_with fail
                      have HU : Sort.fixUp lt b k D = D := by unfold Sort.fixUp; rw [if_neg hkb2]
                      go_roundw
                      case rel => exact ⟨k, s + 1, D, rfl, by go_num, by omega, by omega, by omega, IJ.out, RJ.out, FJ.out, by show _ = _; rw [← HO.out, pi_go lt a b s i k dk (by omega) HK.out (by omega) (by omega), HD.out, HU]⟩
                      case measure => simp [intOf]; omega
              · have q0 : ¬ (k : Int) - (a : Int) ≥ 2 := by omega
                go_upto_region 18 with fail
                obtain ⟨D, hD⟩ : ∃ D, D = swp dk k (k - 1) := ⟨_, rfl⟩
                have HD : Hid (Sort.fixDown lt a k (swp dk k (k - 1)) = D) := by show _ = _; rw [hD]; unfold Sort.fixDown; rw [if_neg hka]
                rw [← hD] at IZ
                clear hD
                by_cases hkb2 : b - k ≥ 2
                · have q1 : (b : Int) - (k : Int) ≥ 2 := by omega
                  go_wp2_with fail
                  go_loopw [10] (fun vj wu => ∃ (j : Nat) (dj : Array α), vj = .int .i64 (j : Int) ∧ k + 1 ≤ j ∧ j ≤ b ∧ E.I dj wu ∧ E.R w wu ∧ wu.heap[b0]? = some (.cells (soL lf lb sf sb).toArray 140 (0, 0)) ∧ Hid (Sort.shiftUp lt b j dj = Sort.shiftUp lt b (k + 1) D)) (fun vj _ => b - (intOf vj).toNat)
                  case atStart => exact ⟨k + 1, D, by go_num, Nat.le_refl _, by omega, IZ.out, RZ.out, FZ.out, rfl⟩
                  case round =>
                    clear IZ RZ FZ
                    obtain ⟨j, dj, rfl, hj1, hj2, hi_, hr_, hf_, HS⟩ := hrel
                    have c0 := so_c0 hf_
                    have IJ := Lib.hid hi_
                    have RJ := Lib.hid hr_
                    have FJ := Lib.hid hf_
                    clear hi_ hr_ hf_
                    by_cases hjb : j < b
                    · have hl := E.less dj wr j (j - 1) IJ.out (by omega) (by omega)
                      rw [show (((j - 1 : Nat) : Int)) = (j : Int) - 1 by omega] at hl
                      cases hv2 : lt dj[j]! dj[j - 1]! with
                      | true =>
                        rw [hv2] at hl
                        go_wp2_with (go_at_fn lf; refine hl.mono ?_; rintro e wy ⟨rfl, bb⟩; have IU := Lib.hid (E.below _ _ _ IJ.out bb); have FU := Lib.hid (row_below FJ.out bb); have RU := Lib.hid (E.rt _ _ _ RJ.out (E.rb _ _ bb)); have c1 := so_c1 FU.out; clear bb)
                        obtain ⟨wz, hs, hi2, hr2⟩ := E.swap dj wy (j) (j - 1) IU.out (by omega) (by omega)
                        rw [show (((j - 1 : Nat) : Int)) = (j : Int) - 1 by omega] at hs
                        rw [hs, Oper.upon_value]
                        have IZ := Lib.hid hi2
                        have FZ := Lib.hid (E.rbox _ _ _ hr2 FU.out)
                        have RZ := Lib.hid (E.rt _ _ _ RU.out hr2)
                        clear hs hi2 hr2
                        clear hl
                        go_wp2_with fail
                        go_roundw
                        case rel => exact ⟨j + 1, swp dj j (j - 1), by go_num, by omega, by omega, IZ.out, RZ.out, FZ.out, by show _ = _; rw [← HS.out, shiftUp_go lt b j dj hjb hv2]⟩
                        case measure => simp [intOf]; omega
                      | false =>
                        rw [hv2] at hl
                        go_wp2_with (go_at_fn lf; refine hl.mono ?_; rintro e wy ⟨rfl, bb⟩; have IU := Lib.hid (E.below _ _ _ IJ.out bb); have FU := Lib.hid (row_below FJ.out bb); have RU := Lib.hid (E.rt _ _ _ RJ.out (E.rb _ _ bb)); clear bb)
                        clear hl c0
                        have HU : Sort.fixUp lt b k D = dj := by unfold Sort.fixUp; rw [if_pos hkb2, ← HS.out, shiftUp_stop lt b j dj (Or.inr hv2)]
                        go_roundw
                        case rel => exact ⟨k, s + 1, dj, rfl, by go_num, by omega, by omega, by omega, IU.out, RU.out, FU.out, by show _ = _; rw [← HO.out, pi_go lt a b s i k dk (by omega) HK.out (by omega) (by omega), HD.out, HU]⟩
                        case measure => simp [intOf]; omega
                    · go_wp2_with fail
                      clear c0
                      have HU : Sort.fixUp lt b k D = dj := by unfold Sort.fixUp; rw [if_pos hkb2, ← HS.out, shiftUp_stop lt b j dj (Or.inl hjb)]
                      go_roundw
                      case rel => exact ⟨k, s + 1, dj, rfl, by go_num, by omega, by omega, by omega, IJ.out, RJ.out, FJ.out, by show _ = _; rw [← HO.out, pi_go lt a b s i k dk (by omega) HK.out (by omega) (by omega), HD.out, HU]⟩
                      case measure => simp [intOf]; omega
                · have q1 : ¬ (b : Int) - (k : Int) ≥ 2 := by omega
                  go_wp2_with fail
                  have HU : Sort.fixUp lt b k D = D := by unfold Sort.fixUp; rw [if_neg hkb2]
                  go_roundw
                  case rel => exact ⟨k, s + 1, D, rfl, by go_num, by omega, by omega, by omega, IZ.out, RZ.out, FZ.out, by show _ = _; rw [← HO.out, pi_go lt a b s i k dk (by omega) HK.out (by omega) (by omega), HD.out, HU]⟩
                  case measure => simp [intOf]; omega
        · have hkb' : k = b := by omega
          have HK : Hid (Sort.scanSorted lt dk b i = b) := by show _ = _; rw [← HS.out, scanSorted_stop lt dk b k (Or.inl hlt)]; exact hkb'
          clear HS
          subst hkb'
          go_wp2_with fail
          go_ret
          have e : Sort.partialInsertionSort lt d a k = (dk, true) := HO.out.symm.trans (pi_true lt a k s i dk (by omega) HK.out)
          rw [e]
          exact ⟨rfl, IQ.out, RQ.out⟩
    · have hs0 : s = 5 := by omega
      subst hs0
      go_wp2_with fail
      go_ret
      have e : Sort.partialInsertionSort lt d a b = (dk, false) := HO.out.symm.trans (pi_end lt a b i dk)
      rw [e]
      exact ⟨rfl, IK.out, RK.out⟩
end Go.Proofs.YtdhcjaflbfpalaaGreatDoor.Sha

/-
  The library's turning round of a row. Conditions: those of SoE.
-/
namespace Go.Proofs.YtdhcjaflbfpalaaGreatDoor.Sha
open Go Go.RowKit
open Go.Sort (swp)
set_option maxHeartbeats 2000000 in
set_option maxRecDepth 100000 in
theorem so_rev {α : Type} [Inhabited α] {lt : α → α → Bool} {n lf sf : Nat} {lb sb : Array Value} (E : SoE α lt n lf lb sf sb) (w : World) (d : Array α) (a b : Nat) (hI : E.I d w) (hab : a < b) (hb : b ≤ n) :
    Calls Tryz.prog 92 #[(.agg (soL lf lb sf sb).toArray), .int .i64 (a : Int), .int .i64 (b : Int)] w fun e w' => e = .returned (.tuple #[]) ∧ E.I (Sort.reverseRange d a b) w' ∧ E.R w w' := by
  have HI := Lib.hid hI
  have NL := Lib.hid E.le
  go_enter Tryz.func92, Tryz.ntmps92
  go_upto_region 1 with fail
  have f0 := heap_alloc_new w (.cells (soL lf lb sf sb).toArray 140 (0, 0))
  have bb := (Below.refl w.heap.size w).alloc (Nat.le_refl _) (.cells (soL lf lb sf sb).toArray 140 (0, 0))
  generalize hq : World.alloc _ _ = w1
  have eq : w.alloc (.cells (soL lf lb sf sb).toArray 140 (0, 0)) = w1 := hq
  rw [eq] at f0 bb
  obtain ⟨b0, hb0⟩ : ∃ b0, b0 = w.heap.size := ⟨_, rfl⟩
  rw [← hb0] at f0 ⊢
  have F0 := Lib.hid f0
  have I1 := Lib.hid (E.below _ _ _ hI bb)
  have R1 := Lib.hid (E.rb _ _ bb)
  clear f0 bb hq eq hb0 hI
  have nl := NL.out
  go_wp2_with fail
  go_loopw [6, 7] (fun vi vj wu => ∃ (i j : Nat) (dk : Array α), vi = .int .i64 (i : Int) ∧ vj = .int .i64 (j : Int) ∧ j < b ∧ i ≤ b ∧ E.I dk wu ∧ E.R w wu ∧ wu.heap[b0]? = some (.cells (soL lf lb sf sb).toArray 140 (0, 0)) ∧ Hid (Sort.reverseLoop i j dk = Sort.reverseLoop a (b - 1) d)) (fun vi vj _ => (intOf vj).toNat - (intOf vi).toNat)
  case atStart => exact ⟨a, b - 1, d, rfl, by go_num, by omega, by omega, I1.out, R1.out, F0.out, rfl⟩
  case round =>
    clear I1 R1 F0 HI
    obtain ⟨i, j, dk, rfl, rfl, hjb, hib, hi_, hr_, hf_, HS⟩ := hrel
    have c1 := so_c1 hf_
    have IK := Lib.hid hi_
    have RK := Lib.hid hr_
    have FK := Lib.hid hf_
    clear hi_ hr_ hf_
    by_cases hij : i < j
    · go_wp2_with fail
      obtain ⟨wz, hs, hi2, hr2⟩ := E.swap dk wr (i) (j) IK.out (by omega) (by omega)
      rw [hs, Oper.upon_value]
      have IZ := Lib.hid hi2
      have FZ := Lib.hid (E.rbox _ _ _ hr2 FK.out)
      have RZ := Lib.hid (E.rt _ _ _ RK.out hr2)
      clear hs hi2 hr2
      go_wp2_with fail
      go_roundw
      case rel => exact ⟨i + 1, j - 1, swp dk i j, by go_num, by go_num, by omega, by omega, IZ.out, RZ.out, FZ.out, by show _ = _; rw [← HS.out, Sort.reverseLoop.eq_def i j, if_pos hij]⟩
      case measure => simp [intOf]; omega
    · go_wp2_with fail
      go_end0
      exact ⟨rfl, by unfold Sort.reverseRange; rw [← HS.out, Sort.reverseLoop, if_neg hij]; exact IK.out, RK.out⟩
end Go.Proofs.YtdhcjaflbfpalaaGreatDoor.Sha
