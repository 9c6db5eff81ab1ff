/-
  Texts of this proof joined into one file: SoBreak, SoPdq, CtRev, SoLess, SoSlice, SoHash. What each holds, and under which conditions, its own first sentence tells.
-/
import Derived.Sort.Walk7
import Derived.Shelf.SlSortFunc.Xorshift
import Derived.Shelf.GgSortFunc.Slice
import Derived.Sort.Walk13a
import Derived.Sort.AssemblyPlain
import Derived.Deep.LoopGhost
import Derived.Shelf.SlicesQ.Reverse
import Derived.Sort.Statements
import Derived.Shelf.GgSortFunc.SmallK
import Derived.Shelf.GgSortFunc.Tiny
import Derived.Test.YtdhcjaflbfpalaaGreatDoorMh14
import Derived.Test.YtdhcjaflbfpalaaGreatDoorMh13
import Derived.Test.YtdhcjaflbfpalaaGreatDoorMh05
import Derived.Test.YtdhcjaflbfpalaaGreatDoorMh09
import Derived.Test.YtdhcjaflbfpalaaGreatDoorMh08
import Derived.Test.YtdhcjaflbfpalaaGreatDoorMh11
/-
  The library's way to break up a row's pattern. Conditions: those of SoE.
-/
namespace Go.Proofs.YtdhcjaflbfpalaaGreatDoor.Sha
open Go Go.RowKit
open Go.Shelf
def slice_lay_ren : Go.Shelf.Ren := ⟨fun | 6 => 45 | 10 => 64 | 11 => 65 | 12 => 66 | 13 => 67 | 14 => 68 | 24 => 86 | 25 => 87 | 26 => 88 | 27 => 89 | 28 => 90 | 29 => 91 | 30 => 92 | 31 => 93 | 32 => 94 | 33 => 95 | 34 => 103 | 35 => 104 | 36 => 105 | 37 => 106 | 38 => 107 | 39 => 115 | n => n, fun | 20 => 20 | 26 => 97 | 35 => 134 | 0 => 0 | 37 => 126 | 3 => 3 | 41 => 119 | 44 => 140 | 49 => 24 | 51 => 65 | 4 => 4 | 54 => 154 | 53 => 153 | 58 => 93 | 5 => 5 | 9 => 9 | 60 => 167 | 64 => 171 | 66 => 181 | 67 => 182 | 17 => 17 | 32 => 131 | 33 => 132 | 82 => 202 | 12 => 12 | 75 => 195 | 76 => 196 | 77 => 197 | 78 => 198 | 79 => 199 | 80 => 200 | n => n, fun | n => n⟩
theorem slice_lay : Go.Proofs.LaysGg.n6 Tryz.prog slice_lay_ren := {
  mixed := by kernel_rfl
  f6 := Tryz.func45.trans (congrArg some (by kernel_rfl))
  f10 := Tryz.func64.trans (congrArg some (by kernel_rfl))
  f11 := Tryz.func65.trans (congrArg some (by kernel_rfl))
  f12 := Tryz.func66.trans (congrArg some (by kernel_rfl))
  f13 := Tryz.func67.trans (congrArg some (by kernel_rfl))
  f14 := Tryz.func68.trans (congrArg some (by kernel_rfl))
  f24 := Tryz.func86.trans (congrArg some (by kernel_rfl))
  f25 := Tryz.func87.trans (congrArg some (by kernel_rfl))
  f26 := Tryz.func88.trans (congrArg some (by kernel_rfl))
  f27 := Tryz.func89.trans (congrArg some (by kernel_rfl))
  f28 := Tryz.func90.trans (congrArg some (by kernel_rfl))
  f29 := Tryz.func91.trans (congrArg some (by kernel_rfl))
  f30 := Tryz.func92.trans (congrArg some (by kernel_rfl))
  f31 := Tryz.func93.trans (congrArg some (by kernel_rfl))
  f32 := Tryz.func94.trans (congrArg some (by kernel_rfl))
  f33 := Tryz.func95.trans (congrArg some (by kernel_rfl))
  f34 := Tryz.func103.trans (congrArg some (by kernel_rfl))
  f35 := Tryz.func104.trans (congrArg some (by kernel_rfl))
  f36 := Tryz.func105.trans (congrArg some (by kernel_rfl))
  f37 := Tryz.func106.trans (congrArg some (by kernel_rfl))
  f38 := Tryz.func107.trans (congrArg some (by kernel_rfl))
  f39 := Tryz.func115.trans (congrArg some (by kernel_rfl))
  t0 := Tryz.underlying0
  a0 := Tryz.isAgg0
  z0 := Tryz.sizeOf0
  v0 := Tryz.zeroValue0
  i0 := by kernel_rfl
  t3 := Tryz.underlying3
  a3 := Tryz.isAgg3
  z3 := Tryz.sizeOf3
  v3 := Tryz.zeroValue3
  i3 := by kernel_rfl
  t4 := Tryz.underlying4
  a4 := Tryz.isAgg4
  z4 := Tryz.sizeOf4
  v4 := Tryz.zeroValue4
  i4 := by kernel_rfl
  t5 := Tryz.underlying5
  a5 := Tryz.isAgg5
  z5 := Tryz.sizeOf5
  v5 := Tryz.zeroValue5
  i5 := by kernel_rfl
  t9 := Tryz.underlying9
  a9 := Tryz.isAgg9
  z9 := Tryz.sizeOf9
  v9 := Tryz.zeroValue9
  i9 := by kernel_rfl
  t12 := Tryz.underlying12
  a12 := Tryz.isAgg12
  z12 := Tryz.sizeOf12
  v12 := Tryz.zeroValue12
  i12 := by kernel_rfl
  t17 := Tryz.underlying17
  a17 := Tryz.isAgg17
  z17 := Tryz.sizeOf17
  v17 := Tryz.zeroValue17
  i17 := by kernel_rfl
  t20 := Tryz.underlying20
  a20 := Tryz.isAgg20
  z20 := Tryz.sizeOf20
  v20 := Tryz.zeroValue20
  i20 := by kernel_rfl
  t26 := Tryz.underlying97
  a26 := Tryz.isAgg97
  z26 := Tryz.sizeOf97
  v26 := Tryz.zeroValue97
  i26 := by kernel_rfl
  t32 := Tryz.underlying131
  a32 := Tryz.isAgg131
  z32 := Tryz.sizeOf131
  v32 := Tryz.zeroValue131
  i32 := by kernel_rfl
  t33 := Tryz.underlying132
  a33 := Tryz.isAgg132
  z33 := Tryz.sizeOf132
  v33 := Tryz.zeroValue132
  i33 := by kernel_rfl
  t35 := Tryz.underlying134
  a35 := Tryz.isAgg134
  z35 := Tryz.sizeOf134
  v35 := Tryz.zeroValue134
  i35 := by kernel_rfl
  t37 := Tryz.underlying126
  a37 := Tryz.isAgg126
  z37 := Tryz.sizeOf126
  v37 := Tryz.zeroValue126
  i37 := by kernel_rfl
  t41 := Tryz.underlying119
  a41 := Tryz.isAgg119
  z41 := Tryz.sizeOf119
  v41 := Tryz.zeroValue119
  i41 := by kernel_rfl
  t44 := Tryz.underlying140
  a44 := Tryz.isAgg140
  z44 := Tryz.sizeOf140
  v44 := Tryz.zeroValue140
  i44 := by kernel_rfl
  t49 := Tryz.underlying24
  a49 := Tryz.isAgg24
  z49 := Tryz.sizeOf24
  v49 := Tryz.zeroValue24
  i49 := by kernel_rfl
  t51 := Tryz.underlying65
  a51 := Tryz.isAgg65
  z51 := Tryz.sizeOf65
  v51 := Tryz.zeroValue65
  i51 := by kernel_rfl
  t53 := Tryz.underlying153
  a53 := Tryz.isAgg153
  z53 := Tryz.sizeOf153
  v53 := Tryz.zeroValue153
  i53 := by kernel_rfl
  t54 := Tryz.underlying154
  a54 := Tryz.isAgg154
  z54 := Tryz.sizeOf154
  v54 := Tryz.zeroValue154
  i54 := by kernel_rfl
  t58 := Tryz.underlying93
  a58 := Tryz.isAgg93
  z58 := Tryz.sizeOf93
  v58 := Tryz.zeroValue93
  i58 := by kernel_rfl
  t60 := Tryz.underlying167
  a60 := Tryz.isAgg167
  z60 := Tryz.sizeOf167
  v60 := Tryz.zeroValue167
  i60 := by kernel_rfl
  t64 := Tryz.underlying171
  a64 := Tryz.isAgg171
  z64 := Tryz.sizeOf171
  v64 := Tryz.zeroValue171
  i64 := by kernel_rfl
  t66 := Tryz.underlying181
  a66 := Tryz.isAgg181
  z66 := Tryz.sizeOf181
  v66 := Tryz.zeroValue181
  i66 := by kernel_rfl
  t67 := Tryz.underlying182
  a67 := Tryz.isAgg182
  z67 := Tryz.sizeOf182
  v67 := Tryz.zeroValue182
  i67 := by kernel_rfl
  t75 := Tryz.underlying195
  a75 := Tryz.isAgg195
  z75 := Tryz.sizeOf195
  v75 := Tryz.zeroValue195
  i75 := by kernel_rfl
  t76 := Tryz.underlying196
  a76 := Tryz.isAgg196
  z76 := Tryz.sizeOf196
  v76 := Tryz.zeroValue196
  i76 := by kernel_rfl
  t77 := Tryz.underlying197
  a77 := Tryz.isAgg197
  z77 := Tryz.sizeOf197
  v77 := Tryz.zeroValue197
  i77 := by kernel_rfl
  t78 := Tryz.underlying198
  a78 := Tryz.isAgg198
  z78 := Tryz.sizeOf198
  v78 := Tryz.zeroValue198
  i78 := by kernel_rfl
  t79 := Tryz.underlying199
  a79 := Tryz.isAgg199
  z79 := Tryz.sizeOf199
  v79 := Tryz.zeroValue199
  i79 := by kernel_rfl
  t80 := Tryz.underlying200
  a80 := Tryz.isAgg200
  z80 := Tryz.sizeOf200
  v80 := Tryz.zeroValue200
  i80 := by kernel_rfl
  t82 := Tryz.underlying202
  a82 := Tryz.isAgg202
  z82 := Tryz.sizeOf202
  v82 := Tryz.zeroValue202
  i82 := by kernel_rfl }
open Go.Sort (swp bitsLen xorNextN two_pow_bitsLen_le xorNextN_lt xorNext_toNat)
theorem so_pow (L : Nat) (hL : L < 4611686018427387904) (w : World) : Calls Tryz.prog 104 #[.int .i64 (L : Int)] w fun e w' => e = .returned (.int .u64 ((1 <<< bitsLen L : Nat) : Int)) ∧ w' = w :=
  Any.nextPowerOfTwo (P := Tryz.prog) (ρ := slice_lay_ren) { slice_lay with } L hL w
theorem so_next (s X : Nat) (hX : X < 18446744073709551616) (w : World) (h : w.heap[s]? = some (.cells #[.int .u64 (X : Int)] 167 (0, 0))) : Calls Tryz.prog 105 #[.pointer (some ⟨s, 0, none⟩)] w fun e w' => e = .returned (.int .u64 (xorNextN X : Nat)) ∧ w'.heap[s]? = some (.cells #[.int .u64 (xorNextN X : Nat)] 167 (0, 0)) ∧ w.grownBy w' (some s) := by
  refine (Any.xorshift_Next (P := Tryz.prog) (ρ := slice_lay_ren) { slice_lay with } s 0 X hX w (by rw [cell_of_row _ _ _ _ _ _ h]; rfl) (frozen_of_row _ _ _ _ _ h)).mono ?_
  rintro e w' ⟨he, rfl⟩
  obtain ⟨hlt, hk⟩ := Array.getElem?_eq_some_iff.1 h
  refine ⟨he, ?_, grownBy_trans (b := w.setCell ⟨s, 0, none⟩ _) ⟨rfl, rfl, rfl, Nat.le_of_eq (by show _ = (w.heap.modify s _).size; rw [Array.size_modify]), fun k _ hk => by show (w.heap.modify s _)[k]? = _; rw [Array.getElem?_modify, if_neg (fun e => hk (by rw [e]))]⟩ ⟨rfl, rfl, rfl, Nat.le_refl _, fun _ _ _ => rfl⟩⟩
  show (w.heap.modify s _)[s]? = _
  rw [Array.getElem?_eq_getElem (by rw [Array.size_modify]; exact hlt), Array.getElem_modify_self, hk]
  rfl
set_option maxHeartbeats 4000000 in
set_option maxRecDepth 100000 in
theorem so_brk {α : Type} [Inhabited α] {lt : α → α → Bool} {n lf sf : Nat} {lb sb : Array Value} (E : SoE α lt n lf lb sf sb) (w : World) (d : Array α) (a b : Nat) (hI : E.I d w) (hab : a ≤ b) (hb : b ≤ n) :
    Calls Tryz.prog 90 #[(.agg (soL lf lb sf sb).toArray), .int .i64 (a : Int), .int .i64 (b : Int)] w fun e w' => e = .returned (.tuple #[]) ∧ E.I (Sort.breakPatterns d a b) w' ∧ E.R w w' := by
  have HI := Lib.hid hI
  have NL := Lib.hid E.le
  obtain ⟨L, hl⟩ : ∃ L, L = b - a := ⟨_, rfl⟩
  have EL : Hid ((b : Int) - (a : Int) = (L : Int)) := by show _ = _; omega
  have EB : Hid (b = a + L) := by show _ = _; omega
  have AN : Hid (a + L ≤ n) := by show _ ≤ _; omega
  clear hl
  go_enter Tryz.func90, Tryz.ntmps90
  go_upto_region 1 with fail
  have f0 := heap_alloc_new w (.cells (soL lf lb sf sb).toArray 140 (0, 0))
  have bb := (Below.refl w.heap.size w).alloc (Nat.le_refl _) (.cells (soL lf lb sf sb).toArray 140 (0, 0))
  generalize hq : World.alloc _ _ = w1
  have eq : w.alloc (.cells (soL lf lb sf sb).toArray 140 (0, 0)) = w1 := hq
  rw [eq] at f0 bb
  obtain ⟨b0, hb0⟩ : ∃ b0, b0 = w.heap.size := ⟨_, rfl⟩
  rw [← hb0] at f0 ⊢
  have F0 := Lib.hid f0
  have I1 := Lib.hid (E.below _ _ _ hI bb)
  have R1 := Lib.hid (E.rb _ _ bb)
  have B0 : Hid (w.heap.size ≤ w1.heap.size) := bb.size
  clear f0 bb hq eq hb0 hI
  have nl := NL.out
  have an := AN.out
  go_upto_region 2 with fail
  rw [EL.out]
  clear hab hb EL
  by_cases h8 : L < 8
  · go_wp2_with fail
    go_end0
    have e : Sort.breakPatterns d a b = d := by
      unfold Sort.breakPatterns
      simp only
      rw [if_neg (by rw [EB.out]; omega)]
    rw [e]
    exact ⟨rfl, I1.out, R1.out⟩
  have h8z : ¬ (L : Int) < 8 := by omega
  have h8g : 8 ≤ L := by omega
  go_upto_region 4 with fail
  have f0 := heap_alloc_new w1 (.cells #[.int .u64 (L : Int)] 167 (0, 0))
  have bb := (Below.refl w1.heap.size w1).alloc (Nat.le_refl _) (.cells #[.int .u64 (L : Int)] 167 (0, 0))
  generalize hq : World.alloc _ _ = w2
  have eq : w1.alloc (.cells #[.int .u64 (L : Int)] 167 (0, 0)) = w2 := hq
  rw [eq] at f0 bb
  obtain ⟨s, hs0⟩ : ∃ s, s = w1.heap.size := ⟨_, rfl⟩
  rw [← hs0] at f0 ⊢
  have X2 := Lib.hid f0
  have NB : Hid (b0 ≠ s) := by have := (Array.getElem?_eq_some_iff.1 F0.out).1; show _ ≠ _; omega
  have NS : Hid (w.heap.size ≤ s) := by show _ ≤ _; rw [hs0]; exact B0.out
  have I2 := Lib.hid (E.below _ _ _ I1.out bb)
  have R2 := Lib.hid (E.rt _ _ _ R1.out (E.rb _ _ bb))
  have F2 := Lib.hid (row_below F0.out bb)
  clear f0 bb hq eq hs0 I1 R1 F0 B0
  obtain ⟨M, hM⟩ : ∃ M : Nat, M = 1 <<< bitsLen L := ⟨_, rfl⟩
  have HP := so_pow L (by omega) w2
  rw [← hM] at HP
  have hM1 : 1 ≤ M := by rw [hM, Nat.one_shiftLeft]; exact Nat.two_pow_pos _
  have hM2 : M ≤ 2 * L := by rw [hM, Nat.one_shiftLeft]; exact two_pow_bitsLen_le (by omega)
  obtain ⟨q, hq⟩ : ∃ q, q = L / 4 := ⟨_, rfl⟩
  have eqq : (L : Int).tdiv 4 = (q : Int) := by rw [Int.tdiv_eq_ediv_of_nonneg (by omega)]; omega
  obtain ⟨m, hm⟩ : ∃ m, m = a + q * 2 - 1 := ⟨_, rfl⟩
  have q2 : 2 ≤ q ∧ q * 4 ≤ L := by omega
  have EM : Hid ((a : Int) + (q : Int) * 2 - 1 = (m : Int) ∧ m + 1 = a + q * 2) := by show _ ∧ _; omega
  have HB : Hid (bpRest a L M m 3 0 (UInt64.ofNat L, d) = Sort.breakPatterns d a b) := by
    show _ = _
    rw [EB.out, breakPatterns_eq d a L h8g, ← hM, ← hq, ← hm]
  clear hM hq hm EB
  go_wp2_with fail
  refine HP.mono ?_
  rintro e w3 ⟨rfl, rfl⟩
  clear HP
  go_wp2_with fail
  rw [EM.out.1]
  go_loopw [9] (fun vi wu => ∃ (t : Nat) (r : UInt64) (dk : Array α), vi = .int .i64 ((m + t : Nat) : Int) ∧ t ≤ 3 ∧ E.I dk wu ∧ E.R w wu ∧ wu.heap[b0]? = some (.cells (soL lf lb sf sb).toArray 140 (0, 0)) ∧ wu.heap[s]? = some (.cells #[.int .u64 (r.toNat : Int)] 167 (0, 0)) ∧ Hid (bpRest a L M m (3 - t) t (r, dk) = Sort.breakPatterns d a b)) (fun vi _ => m + 4 - (intOf vi).toNat)
  case atStart => exact ⟨0, UInt64.ofNat L, d, rfl, by omega, I2.out, R2.out, F2.out, by rw [show (UInt64.ofNat L).toNat = L from by simp; omega]; exact X2.out, HB.out⟩
  case round =>
    clear I2 R2 F2 X2 HB
    obtain ⟨t, r, dk, rfl, ht, hi_, hr_, hf_, hx_, HB⟩ := hrel
    have IK := Lib.hid hi_
    have RK := Lib.hid hr_
    have FK := Lib.hid hf_
    clear hi_ hr_ hf_
    have XK := Lib.hid hx_
    clear hx_
    by_cases ht3 : t < 3
    · have hle : (((m + t : Nat) : Int)) ≤ (a : Int) + (q : Int) * 2 + 1 := by have := EM.out.2; omega
      obtain ⟨X, hX⟩ : ∃ X : Nat, X = xorNextN r.toNat := ⟨_, rfl⟩
      have HN := so_next s r.toNat r.toNat_lt wr XK.out
      rw [← hX] at HN
      have lX : X < 18446744073709551616 := by rw [hX]; exact xorNextN_lt _ r.toNat_lt
      obtain ⟨O, hO⟩ : ∃ O : Nat, O = X &&& (M - 1) := ⟨_, rfl⟩
      have lO : O ≤ M - 1 := by rw [hO]; exact Nat.and_le_right
      have eAnd : bits .and .u64 (X : Int) ((M : Int) - 1) = (O : Int) := by
        rw [show ((M : Int) - 1) = ((M - 1 : Nat) : Int) by omega, bits_and_u64_nat _ _ lX (by omega), hO]
      have HX : Hid (X = (Sort.xorNext r).toNat ∧ O = (Sort.xorNext r).toNat &&& (M - 1)) := by
        have e : X = (Sort.xorNext r).toNat := by rw [hX, xorNext_toNat]
        exact ⟨e, by rw [hO, e]⟩
      clear hX hO
      go_wp2_with fail
      refine HN.mono ?_
      rintro e w2 ⟨rfl, hx, hg⟩
      have IR := E.rand d dk w wr w2 s HI.out IK.out RK.out NS.out hg
      have IV := Lib.hid IR.1
      have RV := Lib.hid IR.2
      have FV := Lib.hid (row_far FK.out hg (fun e => NB.out (Option.some.inj e).symm))
      have XV := Lib.hid hx
      have c1 := so_c1 FV.out
      clear IR hx hg IK RK FK XK HN
      by_cases hLO : L ≤ O
      · have hLOz : (L : Int) ≤ (O : Int) := by omega
        go_wp2_with fail
        obtain ⟨wz, hs, hi2, hr2⟩ := E.swap dk w2 (m + t) (a + (O - L)) IV.out (by have := EM.out.2; omega) (by omega)
        rw [show (((m + t : Nat) : Int)) = (m : Int) + (t : Int) by omega] at hs
        rw [show (((a + (O - L) : Nat) : Int)) = (a : Int) + ((O : Int) - (L : Int)) by omega] at hs
        rw [hs, Oper.upon_value]
        have IZ := Lib.hid hi2
        have XZ := Lib.hid (E.rx _ _ _ _ hr2 XV.out)
        have FZ := Lib.hid (E.rbox _ _ _ hr2 FV.out)
        have RZ := Lib.hid (E.rt _ _ _ RV.out hr2)
        clear hs hi2 hr2
        go_wp2_with fail
        go_roundw
        case rel => exact ⟨t + 1, Sort.xorNext r, swp dk (m + t) (a + (O - L)), by go_num, by omega, IZ.out, RZ.out, FZ.out, by rw [← HX.out.1]; exact XZ.out, by show _ = _; rw [← HB.out, bp_step a L M _ t r dk (O - L) ht3 (by rw [← HX.out.2, if_pos (by omega)])]⟩
        case measure => simp [intOf]; omega
      · have hLOz : ¬ (L : Int) ≤ (O : Int) := by omega
        go_wp2_with fail
        obtain ⟨wz, hs, hi2, hr2⟩ := E.swap dk w2 (m + t) (a + O) IV.out (by have := EM.out.2; omega) (by omega)
        rw [show (((m + t : Nat) : Int)) = (m : Int) + (t : Int) by omega] at hs
        rw [show (((a + O : Nat) : Int)) = (a : Int) + (O : Int) by omega] at hs
        rw [hs, Oper.upon_value]
        have IZ := Lib.hid hi2
        have XZ := Lib.hid (E.rx _ _ _ _ hr2 XV.out)
        have FZ := Lib.hid (E.rbox _ _ _ hr2 FV.out)
        have RZ := Lib.hid (E.rt _ _ _ RV.out hr2)
        clear hs hi2 hr2
        go_wp2_with fail
        go_roundw
        case rel => exact ⟨t + 1, Sort.xorNext r, swp dk (m + t) (a + O), by go_num, by omega, IZ.out, RZ.out, FZ.out, by rw [← HX.out.1]; exact XZ.out, by show _ = _; rw [← HB.out, bp_step a L M _ t r dk O ht3 (by rw [← HX.out.2, if_neg (by omega)])]⟩
        case measure => simp [intOf]; omega
    · have ht0 : t = 3 := by omega
      subst ht0
      have hle : ¬ (((m + 3 : Nat) : Int)) ≤ (a : Int) + (q : Int) * 2 + 1 := by have := EM.out.2; omega
      go_wp2_with fail
      go_end0
      exact ⟨rfl, by rw [← HB.out]; exact IK.out, RK.out⟩
end Go.Proofs.YtdhcjaflbfpalaaGreatDoor.Sha

/-
  The library's sort of a row, whole, its comparison being free to lay blocks. Conditions: those of SoE; the comparison is a strict weak order.
-/
namespace Go.Proofs.YtdhcjaflbfpalaaGreatDoor.Sha
open Go Go.RowKit
open Go.Sort (swp pdq Rd SWO)
/-- A world of a call that began in w: its row holds d; its own box in block b0. -/
structure SoW {α : Type} [Inhabited α] {lt : α → α → Bool} {n lf sf : Nat} {lb sb : Array Value} (E : SoE α lt n lf lb sf sb) (w : World) (b0 : Nat) (d : Array α) (W : World) : Prop where
  i : E.I d W
  r : E.R w W
  f : W.heap[b0]? = some (.cells (soL lf lb sf sb).toArray 140 (0, 0))
section
variable {α : Type} [Inhabited α] {lt : α → α → Bool} {n lf sf : Nat} {lb sb : Array Value} {E : SoE α lt n lf lb sf sb}
theorem SoW.call {w W W' : World} {b0 : Nat} {d d' : Array α} (h : SoW E w b0 d W) (hi : E.I d' W') (hr : E.R W W') : SoW E w b0 d' W' := ⟨hi, E.rt _ _ _ h.r hr, E.rbox _ _ _ hr h.f⟩
theorem SoW.below {w W W' : World} {b0 : Nat} {d : Array α} (h : SoW E w b0 d W) (hb : Below W.heap.size W W') : SoW E w b0 d W' := ⟨E.below _ _ _ h.i hb, E.rt _ _ _ h.r (E.rb _ _ hb), row_below h.f hb⟩
end
set_option maxHeartbeats 16000000 in
set_option maxRecDepth 1000000 in
theorem so_pdq {α : Type} [Inhabited α] {lt : α → α → Bool} {n lf sf : Nat} {lb sb : Array Value} (E : SoE α lt n lf lb sf sb) (hO : SWO lt) : ∀ (N a b limit : Nat) (d : Array α) (w : World), b - a < N → E.I d w → a ≤ b → b ≤ n → limit ≤ 1048576 → Sort.Below lt a b d →
    Calls Tryz.prog 68 #[(.agg (soL lf lb sf sb).toArray), .int .i64 (a : Int), .int .i64 (b : Int), .int .i64 (limit : Int)] w fun e w' => e = .returned (.tuple #[]) ∧ E.I (pdq lt d a b limit true true) w' ∧ E.R w w' := by
  have eg := E.eg
  have NL := Lib.hid E.le
  have SZ : Hid ((soL lf lb sf sb).toArray.size = 2) := rfl
  intro N
  induction N with
  | zero => intro _ _ _ _ _ h; exact absurd h (Nat.not_lt_zero _)
  | succ N ih =>
    intro a b limit d w hN hI hab hb hlimit hB
    have HI := Lib.hid hI
    go_enter Tryz.func68, Tryz.ntmps68
    go_upto_region 1 with fail
    have f0 := heap_alloc_new w (.cells (soL lf lb sf sb).toArray 140 (0, 0))
    have bb := (Below.refl w.heap.size w).alloc (Nat.le_refl _) (.cells (soL lf lb sf sb).toArray 140 (0, 0))
    generalize hq : World.alloc _ _ = w1
    have eq : w.alloc (.cells (soL lf lb sf sb).toArray 140 (0, 0)) = w1 := hq
    rw [eq] at f0 bb
    obtain ⟨b0, hb0⟩ : ∃ b0, b0 = w.heap.size := ⟨_, rfl⟩
    rw [← hb0] at f0 ⊢
    have F0 := Lib.hid f0
    have I1 := Lib.hid (E.below _ _ _ hI bb)
    have R1 := Lib.hid (E.rb _ _ bb)
    clear f0 bb hq eq hb0 hI
    have nl := NL.out
    have K0 : Hid (SoW E w b0 d w1) := ⟨I1.out, R1.out, F0.out⟩
    clear I1 R1 F0
    go_wp2_with fail
    go_loopg [1, 2, 3, 8, 9] (b - a) (fun k s1 s2 s3 s8 s9 wu => ∃ (p q lm : Nat) (wb wp : Bool) (dk : Array α), s1 = .int .i64 (p : Int) ∧ s2 = .int .i64 (q : Int) ∧ s3 = .int .i64 (lm : Int) ∧ s8 = .bool wb ∧ s9 = .bool wp ∧ p ≤ q ∧ q ≤ n ∧ q - p ≤ k ∧ k ≤ b - a ∧ lm ≤ limit ∧ Sort.Below lt p q dk ∧ Hid (SoW E w b0 dk wu) ∧ Hid (pdq lt dk p q lm wb wp = pdq lt d a b limit true true))
    case atStart => exact ⟨a, b, limit, true, true, d, rfl, rfl, rfl, rfl, rfl, hab, hb, Nat.le_refl _, Nat.le_refl _, Nat.le_refl _, hB, K0, rfl⟩
    case round =>
      clear K0 HI
      obtain ⟨p, q, lm, wb, wp, dk, rfl, rfl, rfl, rfl, rfl, hpq, hq, hk, hkN, hlm, hBk, K, HE⟩ := hrel
      have BK := Lib.hid hBk
      clear hBk
      by_cases h12 : q - p ≤ 12
      · have h12z : (q : Int) - (p : Int) ≤ 12 := by omega
        have hc := so_ins E wr dk p q K.out.i hpq hq
        have FK := Lib.hid K.out.f
        go_wp2_with ((with_reducible show wpList _ _ _ _ _ _); (refine wpList_load_row rfl 140 (.tmp 4) rfl b0 rfl 140 (soL lf lb sf sb).toArray (0, 0) _ FK.out Tryz.underlying140 rfl (by rw [SZ.out]; kernel_rfl) ?_; go_frame))
        refine hc.mono ?_
        rintro e w2 ⟨rfl, hi2, hr2⟩
        clear hc FK
        go_wp2_with fail
        (try simp only [Exit.inBlock, Exit.then])
        refine bodyPost_ret (results_none rfl _ _ _) rfl ?_
        exact ⟨rfl, by rw [← HE.out, Sort.pdq_small h12]; exact hi2, (K.out.call hi2 hr2).r⟩
      have h12z : ¬ (q : Int) - (p : Int) ≤ 12 := by omega
      by_cases hl0 : lm = 0
      · have hl0z : (lm : Int) = 0 := by omega
        have hc := so_heap E wr dk p q K.out.i hpq hq
        have FK := Lib.hid K.out.f
        go_wp2_with ((with_reducible show wpList _ _ _ _ _ _); (refine wpList_load_row rfl 140 (.tmp 4) rfl b0 rfl 140 (soL lf lb sf sb).toArray (0, 0) _ FK.out Tryz.underlying140 rfl (by rw [SZ.out]; kernel_rfl) ?_; go_frame))
        refine hc.mono ?_
        rintro e w2 ⟨rfl, hi2, hr2⟩
        clear hc FK
        go_wp2_with fail
        (try simp only [Exit.inBlock, Exit.then])
        refine bodyPost_ret (results_none rfl _ _ _) rfl ?_
        exact ⟨rfl, by rw [← HE.out, Sort.pdq_heap h12 hl0]; exact hi2, (K.out.call hi2 hr2).r⟩
      have hl0z : ¬ (lm : Int) = 0 := by omega
      have hds := E.size _ _ K.out.i
      obtain ⟨s1, B1, hc1, s2, B2, hpv, s3, B3⟩ := Sort.rd_facts (lt := lt) (limit := lm) (wb := wb) (wp := wp) hO Sort.partialInsertionSort_holds Sort.reverseRange_holds (show p < q by omega) (show q ≤ dk.size by omega) BK.out
      obtain ⟨r, hr⟩ : ∃ r, r = Sort.rd lt dk p q lm wb wp := ⟨_, rfl⟩
      rw [← hr] at s3 B3 hc1 hpv
      have S3 : Hid (r.pi.1.size = n) := s3.trans hds
      have B3 := Lib.hid B3
      have HC1 := Lib.hid hc1
      have HP := Lib.hid hpv
      have W1 : Hid (wb = false → r.d1 = Sort.breakPatterns dk p q ∧ r.lim = lm - 1) := by intro h; subst h; rw [hr]; exact Sort.rd_false
      have W2 : Hid (wb = true → r.d1 = dk ∧ r.lim = lm) := by intro h; subst h; rw [hr]; exact Sort.rd_true
      have RC : Hid (r.c = Sort.choosePivot lt r.d1 p q) := by show _ = _; rw [hr]; exact Sort.rd_c
      have DC : Hid (r.c.2 = .decreasing → r.d2 = Sort.reverseRange r.d1 p q ∧ r.pivot = (q - 1) - (r.c.1 - p) ∧ r.hint = .increasing) := by rw [hr]; exact Sort.rd_dec
      have DN : Hid (r.c.2 ≠ .decreasing → r.d2 = r.d1 ∧ r.pivot = r.c.1 ∧ r.hint = r.c.2) := by rw [hr]; exact Sort.rd_not
      have PY : Hid ((wb && wp && decide (r.hint = .increasing)) = true → r.pi = Sort.partialInsertionSort lt r.d2 p q) := by rw [hr]; exact Sort.rd_pi_yes
      have PN : Hid ((wb && wp && decide (r.hint = .increasing)) = false → r.pi = (r.d2, false)) := by rw [hr]; exact Sort.rd_pi_no
      have LL : Hid (r.lim ≤ lm) := by rw [hr]; exact Sort.rd_lim_le
      have PD : Hid (r.pi.2 = true → pdq lt dk p q lm wb wp = r.pi.1) := by rw [hr]; exact Sort.pdq_done h12 hl0
      have HR : Hid (True ∧ True ∧ True ∧ (∀ (_ : ¬ q - p ≤ 12) (_ : ¬ lm = 0), r.pi.2 = false → (decide (p > 0) && !lt r.pi.1[p - 1]! r.pi.1[r.pivot]!) = true → p < (Sort.partitionEqual lt r.pi.1 p q r.pivot).1 ∧ (Sort.partitionEqual lt r.pi.1 p q r.pivot).1 ≤ q → pdq lt dk p q lm wb wp = pdq lt (Sort.partitionEqual lt r.pi.1 p q r.pivot).2 (Sort.partitionEqual lt r.pi.1 p q r.pivot).1 q r.lim wb wp) ∧
          (∀ (_ : ¬ q - p ≤ 12) (_ : ¬ lm = 0), r.pi.2 = false → (decide (p > 0) && !lt r.pi.1[p - 1]! r.pi.1[r.pivot]!) = false → p ≤ (Sort.partition lt r.pi.1 p q r.pivot).1 ∧ (Sort.partition lt r.pi.1 p q r.pivot).1 < q → (Sort.partition lt r.pi.1 p q r.pivot).1 - p < q - (Sort.partition lt r.pi.1 p q r.pivot).1 → pdq lt dk p q lm wb wp = pdq lt (pdq lt (Sort.partition lt r.pi.1 p q r.pivot).2.2 p (Sort.partition lt r.pi.1 p q r.pivot).1 r.lim true true) ((Sort.partition lt r.pi.1 p q r.pivot).1 + 1) q r.lim (decide ((Sort.partition lt r.pi.1 p q r.pivot).1 - p ≥ (q - p) / 8)) (Sort.partition lt r.pi.1 p q r.pivot).2.1) ∧
          (∀ (_ : ¬ q - p ≤ 12) (_ : ¬ lm = 0), r.pi.2 = false → (decide (p > 0) && !lt r.pi.1[p - 1]! r.pi.1[r.pivot]!) = false → p ≤ (Sort.partition lt r.pi.1 p q r.pivot).1 ∧ (Sort.partition lt r.pi.1 p q r.pivot).1 < q → ¬ (Sort.partition lt r.pi.1 p q r.pivot).1 - p < q - (Sort.partition lt r.pi.1 p q r.pivot).1 → pdq lt dk p q lm wb wp = pdq lt (pdq lt (Sort.partition lt r.pi.1 p q r.pivot).2.2 ((Sort.partition lt r.pi.1 p q r.pivot).1 + 1) q r.lim true true) p (Sort.partition lt r.pi.1 p q r.pivot).1 r.lim (decide (q - (Sort.partition lt r.pi.1 p q r.pivot).1 ≥ (q - p) / 8)) (Sort.partition lt r.pi.1 p q r.pivot).2.1)) := by
        rw [hr]
        exact ⟨trivial, trivial, trivial, fun h h0 => Sort.pdq_eq h h0, fun h h0 => Sort.pdq_left h h0, fun h h0 => Sort.pdq_right h h0⟩
      clear hr s1 B1 s2 B2 s3 hc1 hpv hds BK
      go_upto_if 35 with fail
      go_cut [3] from 19 (fun s3 wx => s3 = .int .i64 (r.lim : Int) ∧ Hid (SoW E w b0 r.d1 wx))
      case first =>
        cases wb
        · have w1' := Lib.hid (W1.out rfl)
          have hc := so_brk E wr dk p q K.out.i hpq hq
          have FK := Lib.hid K.out.f
          go_wp2_with ((with_reducible show wpList _ _ _ _ _ _); (refine wpList_load_row rfl 140 (.tmp 4) rfl b0 rfl 140 (soL lf lb sf sb).toArray (0, 0) _ FK.out Tryz.underlying140 rfl (by rw [SZ.out]; kernel_rfl) ?_; go_frame))
          refine hc.mono ?_
          rintro e w2 ⟨rfl, hi2, hr2⟩
          clear hc FK
          go_wp2_with fail
          go_meet
          case rel => exact ⟨by rw [w1'.out.2]; congr 1; omega, by rw [w1'.out.1]; exact K.out.call hi2 hr2⟩
        · have w1' := Lib.hid (W2.out rfl)
          go_wp2_with fail
          go_meet
          case rel => exact ⟨by rw [w1'.out.2], by rw [w1'.out.1]; exact K.out⟩
      case rest =>
        obtain ⟨rfl, K1⟩ := hcut
        clear K W1 W2
        have hc := so_choose E wc r.d1 p q K1.out.i (by omega) hq
        rw [← RC.out] at hc
        have FK := Lib.hid K1.out.f
        go_wp2_with ((with_reducible show wpList _ _ _ _ _ _); (refine wpList_load_row rfl 140 (.tmp 4) rfl b0 rfl 140 (soL lf lb sf sb).toArray (0, 0) _ FK.out Tryz.underlying140 rfl (by rw [SZ.out]; kernel_rfl) ?_; go_frame))
        refine hc.mono ?_
        rintro e w2 ⟨rfl, hi2, hr2⟩
        clear hc FK
        have K2 : Hid (SoW E w b0 r.d1 w2) := K1.out.call hi2 hr2
        clear hi2 hr2 K1 RC
        go_upto_if 50 with fail
        go_cut [11, 12] from 19 (fun s11 s12 wx => s11 = .int .i64 (r.pivot : Int) ∧ s12 = .int .i64 (hintC r.hint : Int) ∧ Hid (SoW E w b0 r.d2 wx))
        case first =>
          have hcc := HC1.out
          by_cases hh : r.c.2 = .decreasing
          · have hz : ((hintC r.c.2 : Nat) : Int) = 2 := by rw [hh]; rfl
            have DD := Lib.hid (DC.out hh)
            have hc := so_rev E w2 r.d1 p q K2.out.i (by omega) hq
            have FK := Lib.hid K2.out.f
            go_wp2_with ((with_reducible show wpList _ _ _ _ _ _); (refine wpList_load_row rfl 140 (.tmp 4) rfl b0 rfl 140 (soL lf lb sf sb).toArray (0, 0) _ FK.out Tryz.underlying140 rfl (by rw [SZ.out]; kernel_rfl) ?_; go_frame))
            refine hc.mono ?_
            rintro e w3 ⟨rfl, hi3, hr3⟩
            clear hc FK
            go_wp2_with fail
            go_meet
            case rel => exact ⟨by rw [DD.out.2.1]; congr 1; omega, by rw [DD.out.2.2]; rfl, by rw [DD.out.1]; exact K2.out.call hi3 hr3⟩
          · have hz : ¬ ((hintC r.c.2 : Nat) : Int) = 2 := by
              intro h
              apply hh
              cases h3 : r.c.2 with
              | unknown => rw [h3] at h; exact absurd h (by decide)
              | increasing => rw [h3] at h; exact absurd h (by decide)
              | decreasing => rfl
            have DD := Lib.hid (DN.out hh)
            go_wp2_with fail
            go_meet
            case rel => exact ⟨by rw [DD.out.2.1], by rw [DD.out.2.2], by rw [DD.out.1]; exact K2.out⟩
        case rest =>
          obtain ⟨rfl, rfl, K3⟩ := hcut
          clear K2 DC DN HC1
          go_upto_region 16 with fail
          go_cut [12, 68] from 19 (fun s12 s68 wx => s12 = .int .i64 (hintC r.hint : Int) ∧ s68 = .bool (wb && wp && decide (r.hint = .increasing)) ∧ wx = wc)
          case first =>
            cases wb <;> cases wp <;> cases hh3 : r.hint <;>
              (have hcode := congrArg hintC hh3
               simp only [hintC] at hcode
               go_wp2_with fail
               go_meet
               exact ⟨by simp [hh3, hintC], by simp [hh3, hintC], rfl⟩)
          case rest =>
            obtain ⟨rfl, rfl, rfl⟩ := hcut
            go_upto_if 68 with fail
            go_cut [] from 19 (fun wx => Hid (r.pi.2 = false) ∧ Hid (SoW E w b0 r.pi.1 wx))
            case first =>
              cases h68 : (wb && wp && decide (r.hint = .increasing))
              · have ep := Lib.hid (PN.out h68)
                go_wp2_with fail
                go_meet
                case rel => exact ⟨by show _ = _; rw [ep.out], by rw [ep.out]; exact K3.out⟩
              · have ep := Lib.hid (PY.out h68)
                have hc := so_pins E wc r.d2 p q K3.out.i (by omega) hq
                rw [← ep.out] at hc
                have FK := Lib.hid K3.out.f
                go_wp2_with ((with_reducible show wpList _ _ _ _ _ _); (refine wpList_load_row rfl 140 (.tmp 4) rfl b0 rfl 140 (soL lf lb sf sb).toArray (0, 0) _ FK.out Tryz.underlying140 rfl (by rw [SZ.out]; kernel_rfl) ?_; go_frame))
                refine hc.mono ?_
                rintro e w4 ⟨rfl, hi4, hr4⟩
                clear hc FK
                have K4 : Hid (SoW E w b0 r.pi.1 w4) := K3.out.call hi4 hr4
                clear hi4 hr4
                cases hp2 : r.pi.2
                · go_wp2_with fail
                  go_meet
                  exact ⟨hp2, K4⟩
                · skip
                  go_wp2_with fail
                  (try simp only [Exit.inBlock, Exit.then])
                  refine bodyPost_ret (results_none rfl _ _ _) rfl ?_
                  exact ⟨rfl, by rw [← HE.out, PD.out hp2]; exact K4.out.i, K4.out.r⟩
            case rest =>
              obtain ⟨hp2, K5⟩ := hcut
              clear K3 PY PN PD
              have hpv := HP.out
              go_upto_region 18 with fail
              go_cut [83] from 19 (fun s83 wx => s83 = .bool (decide (p > 0) && !lt r.pi.1[p - 1]! r.pi.1[r.pivot]!) ∧ Hid (SoW E w b0 r.pi.1 wx))
              case first =>
                rcases Nat.eq_zero_or_pos p with hp0 | hp0
                · have hp0z : decide ((p : Int) > 0) = false := decide_eq_false (by omega)
                  go_wp2_with fail
                  go_meet
                  case rel => exact ⟨by simp [hp0], K5⟩
                · have hp0z : (p : Int) > 0 := by omega
                  have hl := E.less r.pi.1 wc (p - 1) r.pivot K5.out.i (by omega) (by omega)
                  rw [show ((p - 1 : Nat) : Int) = (p : Int) - 1 by omega] at hl
                  have c0 := so_c0 K5.out.f
                  cases hlv : lt r.pi.1[p - 1]! r.pi.1[r.pivot]! <;>
                    (rw [hlv] at hl
                     go_wp2_with (go_at_fn lf; refine hl.mono ?_; rintro e w' ⟨rfl, bb⟩)
                     go_meet
                     exact ⟨by simp [hp0, hlv], K5.out.below bb⟩)
              case rest =>
                obtain ⟨rfl, K6⟩ := hcut
                clear K5
                cases h87 : (decide (p > 0) && !lt r.pi.1[p - 1]! r.pi.1[r.pivot]!)
                · clear hpv
                  obtain ⟨mid, ap, d4, hx⟩ : ∃ mid ap d4, Sort.partition lt r.pi.1 p q r.pivot = (mid, ap, d4) := ⟨_, _, _, rfl⟩
                  have rr := Sort.round_part hO (Sort.partition_holds lt) HP.out.1 HP.out.2 (show q ≤ r.pi.1.size by rw [S3.out]; exact hq) B3.out hx
                  have RR := Lib.hid rr
                  have RQ : p ≤ mid ∧ mid < q := ⟨rr.1, rr.2.1⟩
                  have S4 : Hid (d4.size = n) := rr.2.2.1.trans S3.out
                  clear rr
                  obtain ⟨g, hg⟩ : ∃ g, g = (q - p) / 8 := ⟨_, rfl⟩
                  have G8 : Hid (g = (q - p) / 8) := hg
                  have g8 : ((q : Int) - (p : Int)).tdiv 8 = (g : Int) := by rw [Int.tdiv_eq_ediv_of_nonneg (by omega)]; omega
                  have g9 : ((q : Int) - (p : Int)) / 8 = (g : Int) := by omega
                  clear hg
                  have hc := so_part E wc r.pi.1 p q r.pivot K6.out.i HP.out.1 HP.out.2 hq
                  rw [hx] at hc
                  have PX := Lib.hid hx
                  clear hx
                  have FK := Lib.hid K6.out.f
                  go_wp2_with ((with_reducible show wpList _ _ _ _ _ _); (refine wpList_load_row rfl 140 (.tmp 4) rfl b0 rfl 140 (soL lf lb sf sb).toArray (0, 0) _ FK.out Tryz.underlying140 rfl (by rw [SZ.out]; kernel_rfl) ?_; go_frame))
                  refine hc.mono ?_
                  rintro e w7 ⟨rfl, hi7, hr7⟩
                  clear hc FK
                  have K7 : Hid (SoW E w b0 d4 w7) := K6.out.call hi7 hr7
                  clear hi7 hr7
                  by_cases h4 : mid - p < q - mid
                  · have h4z : (mid : Int) - (p : Int) < (q : Int) - (mid : Int) := by omega
                    have PS := Sort.pdq_sorts lt hO d4 p mid r.lim true true (by omega) (by rw [S4.out]; omega) RR.out.2.2.2.1
                    have PL := Lib.hid PS
                    clear PS
                    have hc := ih p mid r.lim d4 w7 (by omega) K7.out.i (by omega) (by omega) (Nat.le_trans (Nat.le_trans LL.out hlm) hlimit) RR.out.2.2.2.1
                    have FK := Lib.hid K7.out.f
                    go_wp2_with ((with_reducible show wpList _ _ _ _ _ _); (refine wpList_load_row rfl 140 (.tmp 4) rfl b0 rfl 140 (soL lf lb sf sb).toArray (0, 0) _ FK.out Tryz.underlying140 rfl (by rw [SZ.out]; kernel_rfl) ?_; go_frame))
                    refine hc.mono ?_
                    rintro e w8 ⟨rfl, hi8, hr8⟩
                    clear hc FK
                    have K8 : Hid (SoW E w b0 (pdq lt d4 p mid r.lim true true) w8) := K7.out.call hi8 hr8
                    clear hi8 hr8
                    go_wp2_with fail
                    go_roundg (q - (mid + 1))
                    case measure => omega
                    case rel =>
                      refine ⟨mid + 1, q, r.lim, decide (mid - p ≥ (q - p) / 8), ap, pdq lt d4 p mid r.lim true true, by go_num, rfl, rfl, ?_, rfl, by omega, by omega, Nat.le_refl _, by omega, Nat.le_trans LL.out hlm, (RR.out.2.2.2.2.2.1 _ PL.out.1 PL.out.2).1, K8, ?_⟩
                      · exact congrArg Value.bool (decide_eq_decide.2 (by have := G8.out; constructor <;> intro h <;> omega))
                      · show _ = _
                        rw [← HE.out, HR.out.2.2.2.2.1 h12 hl0 hp2.out h87 (by rw [PX.out]; exact ⟨RQ.1, RQ.2⟩) (by rw [PX.out]; exact h4), PX.out]
                  · have h4z : ¬ (mid : Int) - (p : Int) < (q : Int) - (mid : Int) := by omega
                    have PS := Sort.pdq_sorts lt hO d4 (mid + 1) q r.lim true true (by omega) (by rw [S4.out]; omega) RR.out.2.2.2.2.1
                    have PL := Lib.hid PS
                    clear PS
                    have hc := ih (mid + 1) q r.lim d4 w7 (by omega) K7.out.i (by omega) (by omega) (Nat.le_trans (Nat.le_trans LL.out hlm) hlimit) RR.out.2.2.2.2.1
                    rw [show ((mid + 1 : Nat) : Int) = (mid : Int) + 1 by omega] at hc
                    have FK := Lib.hid K7.out.f
                    go_wp2_with ((with_reducible show wpList _ _ _ _ _ _); (refine wpList_load_row rfl 140 (.tmp 4) rfl b0 rfl 140 (soL lf lb sf sb).toArray (0, 0) _ FK.out Tryz.underlying140 rfl (by rw [SZ.out]; kernel_rfl) ?_; go_frame))
                    refine hc.mono ?_
                    rintro e w8 ⟨rfl, hi8, hr8⟩
                    clear hc FK
                    have K8 : Hid (SoW E w b0 (pdq lt d4 (mid + 1) q r.lim true true) w8) := K7.out.call hi8 hr8
                    clear hi8 hr8
                    go_wp2_with fail
                    go_roundg (mid - p)
                    case measure => omega
                    case rel =>
                      refine ⟨p, mid, r.lim, decide (q - mid ≥ (q - p) / 8), ap, pdq lt d4 (mid + 1) q r.lim true true, by go_num, rfl, rfl, ?_, rfl, by omega, by omega, Nat.le_refl _, by omega, Nat.le_trans LL.out hlm, (RR.out.2.2.2.2.2.2 _ PL.out.1 PL.out.2).1, K8, ?_⟩
                      · exact congrArg Value.bool (decide_eq_decide.2 (by have := G8.out; constructor <;> intro h <;> omega))
                      · show _ = _
                        rw [← HE.out, HR.out.2.2.2.2.2 h12 hl0 hp2.out h87 (by rw [PX.out]; exact ⟨RQ.1, RQ.2⟩) (by rw [PX.out]; exact h4), PX.out]
                · clear hpv
                  obtain ⟨mid, d4, hx⟩ : ∃ mid d4, Sort.partitionEqual lt r.pi.1 p q r.pivot = (mid, d4) := ⟨_, _, rfl⟩
                  have h87' := h87
                  simp only [Bool.and_eq_true, decide_eq_true_eq, Bool.not_eq_true'] at h87'
                  have rr := Sort.round_eq hO (Sort.partitionEqual_holds lt) h87'.1 HP.out.1 HP.out.2 (show q ≤ r.pi.1.size by rw [S3.out]; exact hq) B3.out h87'.2 hx
                  have RR := Lib.hid rr
                  have RQ : p < mid ∧ mid ≤ q := ⟨rr.1, rr.2.1⟩
                  clear h87' rr
                  have hc := so_parteq E wc r.pi.1 p q r.pivot K6.out.i HP.out.1 HP.out.2 hq
                  rw [hx] at hc
                  have PX := Lib.hid hx
                  clear hx
                  have FK := Lib.hid K6.out.f
                  go_wp2_with ((with_reducible show wpList _ _ _ _ _ _); (refine wpList_load_row rfl 140 (.tmp 4) rfl b0 rfl 140 (soL lf lb sf sb).toArray (0, 0) _ FK.out Tryz.underlying140 rfl (by rw [SZ.out]; kernel_rfl) ?_; go_frame))
                  refine hc.mono ?_
                  rintro e w7 ⟨rfl, hi7, hr7⟩
                  clear hc FK
                  have K7 : Hid (SoW E w b0 d4 w7) := K6.out.call hi7 hr7
                  clear hi7 hr7
                  go_wp2_with fail
                  go_roundg (q - mid)
                  case measure => omega
                  case rel => exact ⟨mid, q, r.lim, wb, wp, d4, rfl, rfl, rfl, rfl, rfl, by omega, hq, Nat.le_refl _, by omega, Nat.le_trans LL.out hlm, RR.out.2.2.2.1, K7, by show _ = _; rw [← HE.out, HR.out.2.2.2.1 h12 hl0 hp2.out h87 (by rw [PX.out]; exact ⟨RQ.1, RQ.2⟩), PX.out]⟩
end Go.Proofs.YtdhcjaflbfpalaaGreatDoor.Sha

/-
  A row of digests turned round in place: the library's Reverse. Condition: the row is one of its own.
-/
namespace Go.Proofs.YtdhcjaflbfpalaaGreatDoor.Sha
open Go Go.RowKit
open Go.Shelf Go.Lib Go.Sort
abbrev OH : Type := {x : List UInt8 // x.length = 32}
instance : Inhabited OH := ⟨⟨List.replicate 32 0, rfl⟩⟩
def encH (x : OH) : List Value := x.1.map bV
theorem encH_len (x : OH) : (encH x).length = 32 := by unfold encH; rw [List.length_map]; exact x.2
theorem encH_one (x : OH) : ∀ v ∈ encH x, v.oneCell' = true := bV_one' _
theorem lift_hs : ∀ (l : List (List UInt8)), HsOk l → ∃ d : List OH, d.map (·.1) = l
  | [], _ => ⟨[], rfl⟩
  | x :: l, h => by
    obtain ⟨d, hd⟩ := lift_hs l (fun y hy => h y (List.mem_cons_of_mem _ hy))
    exact ⟨⟨x, h x (List.mem_cons_self ..)⟩ :: d, by rw [List.map_cons, hd]⟩
theorem hsL_enc (d : List OH) : hsL (d.map (·.1)) = (d.map encH).flatten := by
  unfold hsL
  rw [List.flatMap_def, List.map_map]
  rfl
theorem allK_encH (d : List OH) : AllK 32 (d.map encH) := fun x hx => by
  obtain ⟨y, _, rfl⟩ := List.mem_map.1 hx
  exact encH_len y
theorem holds_hs {w : World} {g cap base : Nat} {d : List OH} (h : w.ownsRow base 26 32 (.slice (some ⟨g, 0, none⟩) d.length cap) d.length (d.map encH).flatten) : HoldsK encH 32 w g 0 d.toArray := by
  intro t ht
  simp only [size_flatK, List.size_toArray] at ht
  rw [get_flatK _ _ _ _ (by simpa using ht), Nat.zero_add]
  refine ⟨?_, ?_⟩
  · have h1 : t / 32 < d.length := Nat.div_lt_of_lt_mul (by omega)
    have h2 : t % 32 < 32 := Nat.mod_lt _ (by omega)
    have h3 : (d.map encH)[t / 32]? = some (encH (d[t / 32]'h1)) := by rw [List.getElem?_map, List.getElem?_eq_getElem h1]; rfl
    have h4 := flatten_get (d.map encH) (t / 32) _ (allK_encH d) h3 (t % 32) h2
    rw [show t / 32 * 32 + t % 32 = t by omega] at h4
    have h5 : (encH (d[t / 32]'h1)).length = 32 := encH_len _
    rw [h.cellAt t ht, h4, getElem!_pos d.toArray (t / 32) (by simpa using h1)]
    simp only [List.getElem_toArray, id]
    rw [getElem!_pos (encH (d[t / 32]'h1)) (t % 32) (by omega), List.getElem?_eq_getElem (by omega)]
  · rcases h.2 with ⟨hv, _⟩ | ⟨g', cap', cur, hv, _, hb, _⟩
    · cases hv
    · cases hv
      simp [World.frozen?, hb]
theorem hsAt_holds {w : World} {g cap : Nat} {d : List OH} (h : HoldsK encH 32 w g 0 d.toArray) (hc : d.length ≤ cap) : HsAt w (.slice (some ⟨g, 0, none⟩) d.length cap) (d.map (·.1)) := by
  refine ⟨fun x hx => ?_, some ⟨g, 0, none⟩, cap, by rw [List.length_map], by rw [List.length_map]; exact hc, fun _ => ⟨g, 0, rfl, fun i x hx j v hv => ?_⟩⟩
  · obtain ⟨y, _, rfl⟩ := List.mem_map.1 hx
    exact y.2
  · rw [List.getElem?_map] at hx
    cases hd : d[i]? with
    | none => rw [hd] at hx; cases hx
    | some y =>
      rw [hd] at hx
      have hx : y.1 = x := by injection hx
      subst hx
      have hi := (List.getElem?_eq_some_iff.1 hd).1
      have hj : j < 32 := by have := (List.getElem?_eq_some_iff.1 hv).1; rwa [List.length_map, y.2] at this
      have h1 := (HoldsK.cell h (i := i) (c := j) (by simpa using hi) hj).1
      rw [h1]
      have e : d.toArray[i]! = y := by rw [getElem!_pos d.toArray i (by simpa using hi)]; simp only [List.getElem_toArray]; exact (List.getElem?_eq_some_iff.1 hd).2
      rw [e]
      have h2 : (encH y)[j]? = some v := hv
      rw [getElem!_pos (encH y) j (by rw [encH_len]; exact hj)]
      rw [List.getElem?_eq_getElem (by rw [encH_len]; exact hj)] at h2
      exact h2
theorem grown_putK {w : World} {g n : Nat} (d : Array OH) : w.grownBy (putRowK encH 32 (Sort.ahead w n) g 0 d) (some g) := by
  refine ⟨rfl, rfl, rfl, ?_, fun k hk hne => ?_⟩
  · simp [putRowK, putRow, mapBlock, Go.Sort.ahead]
  · have : g ≠ k := fun e => hne (by rw [e])
    simp [putRowK, putRow, mapBlock, Go.Sort.ahead, Array.getElem?_modify, this]
theorem isAgg_hash32 (w : World) : (isAgg 26).run Tryz.prog w = .ok true w := by kernel_rfl
end Go.Proofs.YtdhcjaflbfpalaaGreatDoor.Sha

/-
  The comparison by which the tree sorts ids. Condition: the row is in its place.
-/
namespace Go.Proofs.YtdhcjaflbfpalaaGreatDoor.Sha
open Go Go.RowKit
open Go.Sort (HoldsK SWO)
def ltH (x y : OH) : Bool := lessL x.1 y.1
theorem swoH : SWO ltH := by
  have hl : ∀ x y : OH, x.1.length = y.1.length := fun x y => x.2.trans y.2.symm
  refine ⟨fun x => less_self x.1, fun x y z h k => less_trans x.1 y.1 z.1 (hl _ _) (hl _ _) h k, fun x y z h k => ?_⟩
  show lessL x.1 z.1 = false
  have h' : lessL x.1 y.1 = false := h
  have k' : lessL y.1 z.1 = false := k
  by_cases e1 : x.1 = y.1
  · rw [e1]; exact k'
  by_cases e2 : y.1 = z.1
  · rw [← e2]; exact h'
  exact less_asym z.1 x.1 (hl _ _) (less_trans z.1 y.1 x.1 (hl _ _) (hl _ _) (less_total y.1 z.1 (hl _ _) e2 k') (less_total x.1 y.1 (hl _ _) e1 h'))
theorem holds_range {w : World} {g i : Nat} {d : Array OH} (h : HoldsK encH 32 w g 0 d) (hi : i < d.size) : w.rangeAt g (i * 32) ((d[i]!).1.map bV) := fun j v hv => by
  have hj : j < 32 := by have := (List.getElem?_eq_some_iff.1 hv).1; rwa [List.length_map, (d[i]!).2] at this
  have h1 := (HoldsK.cell h (i := i) (c := j) hi hj).1
  rw [Nat.zero_add] at h1
  rw [h1]
  have h2 : (encH d[i]!)[j]? = some v := hv
  rw [getElem!_pos (encH d[i]!) j (by rw [encH_len]; exact hj)]
  rw [List.getElem?_eq_getElem (by rw [encH_len]; exact hj)] at h2
  exact h2
set_option maxHeartbeats 2000000 in
set_option maxRecDepth 100000 in
theorem under1_any (ib g cap n i j : Nat) (d : Array OH) (w : World) (hb : w.heap[ib]? = some (.cells #[(.slice (some ⟨g, 0, none⟩) n cap)] 52 (0, 0))) (hH : HoldsK encH 32 w g 0 d) (hs : d.size = n) (hi : i < n) (hj : j < n) (hn : n ≤ 1048576) :
    Calls Tryz.prog 58 #[.int .i64 (i : Int), .int .i64 (j : Int), .pointer (some ⟨ib, 0, none⟩)] w fun e w' => e = .returned (.bool (ltH d[i]! d[j]!)) ∧ Below w.heap.size w w' := by
  have HB := Lib.hid hb
  obtain ⟨c, hc⟩ : ∃ c, c = ltH d[i]! d[j]! := ⟨_, rfl⟩
  have hcc : ∀ w, Calls Tryz.prog 47 #[.agg ((d[i]!).1.map bV).toArray, .agg ((d[j]!).1.map bV).toArray] w fun e w' => e = .returned (.bool c) ∧ Below w.heap.size w w' := fun w => by rw [hc]; exact less_any _ _ (d[i]!).2 (d[j]!).2 w
  have ri := holds_range hH (show i < d.size by omega)
  have rj := holds_range hH (show j < d.size by omega)
  have li : ((d[i]!).1.map bV).length = 32 := by rw [List.length_map]; exact (d[i]!).2
  have lj : ((d[j]!).1.map bV).length = 32 := by rw [List.length_map]; exact (d[j]!).2
  rw [← hc]
  generalize (d[i]!).1.map bV = ci at ri li hcc
  generalize (d[j]!).1.map bV = cj at rj lj hcc
  have HC := Lib.hid hcc
  have RI := Lib.hid ri
  have RJ := Lib.hid rj
  have LI := Lib.hid li
  have LJ := Lib.hid lj
  clear hb hH hs hcc ri rj li lj hc
  go_enter Tryz.func58, Tryz.ntmps58
  go_upto_region 1 with fail
  refine wp_region_held_drew (S := (fun w' => Below w.heap.size w w')) (by kernel_rfl) (Below.drew (Below.refl _ _)) (fun hHeld => ?_)
  generalize hwd : w.drew = wd at  hHeld ⊢
  clear hwd
  refine held_take (i := 0) (v := (.slice (some ⟨g, 0, none⟩) n cap)) rfl (by kernel_rfl) (by kernel_rfl) (by kernel_rfl) (fun _ _ _ h => h) (yieldsIf_load_one (by rfl) 52 (.tmp 2) rfl ib (0) rfl _ _ (fun w' hw' => by rw [cell_of_row _ _ _ _ _ _ (row_below HB.out hw')]; rfl) Tryz.underlying52 rfl) hHeld ?_
  go_frame
  refine held_take (i := 1) (v := (.int .i64 (i : Int))) rfl (by kernel_rfl) (by kernel_rfl) (by kernel_rfl) (fun _ _ _ h => h) (Or.inl ⟨by rfl, fun w' _ => by kernel_rfl⟩) hHeld ?_
  go_frame
  refine held_take (i := 2) (v := (.pointer (some ⟨g, i * 32, none⟩))) rfl (by kernel_rfl) (by kernel_rfl) (by kernel_rfl) (fun _ _ _ h => h) (Or.inl ⟨by rfl, fun w' _ => by go_simp⟩) hHeld ?_
  go_frame
  refine held_take (i := 3) (v := (.agg ci.toArray)) rfl (by kernel_rfl) (by kernel_rfl) (by kernel_rfl) (fun _ _ _ h => h) (Sha.yieldsIf_load_mid (by rfl) 26 (.tmp 8) rfl g (i * 32) rfl ci _ (fun w' hw' => range_below RI.out hw') Tryz.underlying26 rfl (by rw [LI.out]; kernel_rfl)) hHeld ?_
  go_frame
  refine held_take (i := 4) (v := (.slice (some ⟨g, 0, none⟩) n cap)) rfl (by kernel_rfl) (by kernel_rfl) (by kernel_rfl) (fun _ _ _ h => h) (yieldsIf_load_one (by rfl) 52 (.tmp 2) rfl ib (0) rfl _ _ (fun w' hw' => by rw [cell_of_row _ _ _ _ _ _ (row_below HB.out hw')]; rfl) Tryz.underlying52 rfl) hHeld ?_
  go_frame
  refine held_take (i := 5) (v := (.int .i64 (j : Int))) rfl (by kernel_rfl) (by kernel_rfl) (by kernel_rfl) (fun _ _ _ h => h) (Or.inl ⟨by rfl, fun w' _ => by kernel_rfl⟩) hHeld ?_
  go_frame
  refine held_take (i := 6) (v := (.pointer (some ⟨g, j * 32, none⟩))) rfl (by kernel_rfl) (by kernel_rfl) (by kernel_rfl) (fun _ _ _ h => h) (Or.inl ⟨by rfl, fun w' _ => by go_simp⟩) hHeld ?_
  go_frame
  refine held_take (i := 7) (v := (.agg cj.toArray)) rfl (by kernel_rfl) (by kernel_rfl) (by kernel_rfl) (fun _ _ _ h => h) (Sha.yieldsIf_load_mid (by rfl) 26 (.tmp 12) rfl g (j * 32) rfl cj _ (fun w' hw' => range_below RJ.out hw') Tryz.underlying26 rfl (by rw [LJ.out]; kernel_rfl)) hHeld ?_
  go_frame
  refine wpAnyH_ready (rs := [8]) (by kernel_rfl) (by simp) (held_cons rfl (fun K hK => ?_) AllReadyH.nil)
  go_simp
  refine (HC.out _).mono ?_
  rintro e v1 ⟨rfl, bb⟩
  have hv1 := hHeld.trans (bb.mono hHeld.size)
  clear bb hHeld
  go_wp2_with fail
  refine hK.out _ _ hv1 (fun hHeld => ?_)
  clear hK K hv1
  refine held_take (i := 9) (v := (.bool c)) rfl (by kernel_rfl) (by kernel_rfl) (by kernel_rfl) (fun _ _ _ h => h) (Or.inl ⟨by rfl, fun w' _ => by kernel_rfl⟩) hHeld ?_
  go_frame
  refine wpAnyH_done (by kernel_rfl) ?_ _
  go_wp2_with fail
  go_ret
  exact ⟨rfl, hHeld⟩
end Go.Proofs.YtdhcjaflbfpalaaGreatDoor.Sha

/-
  The library's Slice over a row of digests, by the tree's comparison: the row holds the same digests, in their order. Conditions: the row is one of its own; the slice's box stands beside it.
-/
namespace Go.Proofs.YtdhcjaflbfpalaaGreatDoor.Sha
open Go Go.RowKit
open Go.Shelf Go.Lib
open Go.Sort (HoldsK SWO pdq swp putRowK flatK holdsK_putRowK holdsK_ahead putRowK_self swap_worldK PermIn SortedIn putRow mapBlock onCells)
def soI (w0 : World) (g n : Nat) (d : Array OH) (W : World) : Prop := w0.grownBy W (some g) ∧ HoldsK encH 32 W g 0 d ∧ d.size = n ∧ ∃ cs : Array Value, W.heap[g]? = some (Obj.cells cs 26 (0, 0))
def soR (g : Nat) (W W' : World) : Prop := W.grownBy W' (some g) ∧ ∀ (b : Nat) (cs : Array Value) (T : TypeId), T ≠ 26 → W.heap[b]? = some (Obj.cells cs T (0, 0)) → W'.heap[b]? = some (Obj.cells cs T (0, 0))
theorem holdsK_block {w w' : World} {g : Nat} {d : Array OH} (h : HoldsK encH 32 w g 0 d) (e : w'.heap[g]? = w.heap[g]?) : HoldsK encH 32 w' g 0 d := fun t ht => by
  have := h t ht
  rw [World.cell?_of_block (w := w) (w' := w') e, World.frozen?_of_block (w := w) (w' := w') e]
  exact this
theorem holdsK_below {w w' : World} {g : Nat} {d : Array OH} (h : HoldsK encH 32 w g 0 d) (hg : g < w.heap.size) (hb : Below w.heap.size w w') : HoldsK encH 32 w' g 0 d := holdsK_block h (hb.block g hg)
theorem putK_row {w : World} {g : Nat} {d : Array OH} {cs : Array Value} {T : TypeId} (h : w.heap[g]? = some (.cells cs T (0, 0))) : ∃ cs', (putRowK encH 32 w g 0 d).heap[g]? = some (.cells cs' T (0, 0)) := by
  simp [putRowK, putRow, mapBlock, Array.getElem?_modify, h, onCells]
theorem so_swap {w0 W : World} {g n cap i j : Nat} {d : Array OH} (hI : soI w0 g n d W) (hi : i < n) (hj : j < n) : ∃ w', (callFunc 85 (#[.int .i64 (i : Int), .int .i64 (j : Int)] ++ #[.slice (some ⟨g, 0, none⟩) n cap, typeHandle Tryz.prog 26])).run Tryz.prog W = .ok (.value (.tuple #[])) w' ∧ soI w0 g n (swp d i j) w' ∧ soR g W w' := by
  obtain ⟨ie, hie⟩ : ∃ ie, Tryz.prog.info? 26 = some ie := Option.isSome_iff_exists.1 (by kernel_rfl)
  have hz : ie.size = 32 := by
    have h : (Tryz.prog.info? 26).map (fun i => i.size) = some 32 := by kernel_rfl
    rw [hie] at h
    exact Option.some.inj h
  have hs := swapSwapsK_of_literal (P := Tryz.prog) false 85 (fun args W => run_callFunc_extern Tryz.func85 (by kernel_rfl) (by kernel_rfl) (by kernel_rfl) (e := Extern.ReflectliteSwapper.swap false) (by kernel_rfl) args W) 26 ie hie encH 32 encH_len hz isAgg_hash32 encH_one g 0 n cap W d hI.2.1 hI.2.2.1 i j hi hj
  have hself := putRowK_self encH 32 W g 0 d hI.2.1
  have hw := swap_worldK encH 32 encH_len W 0 0 g 0 d i j (by rw [hI.2.2.1]; exact hi) (by rw [hI.2.2.1]; exact hj)
  change ((putRowK encH 32 W g 0 d).setCells _ _ _).setCells _ _ _ = putRowK encH 32 W g 0 (swp d i j) at hw
  rw [hself] at hw
  rw [hw] at hs
  obtain ⟨cs, hc⟩ := hI.2.2.2
  have hg : W.grownBy (putRowK encH 32 W g 0 (swp d i j)) (some g) := grown_putK (n := 0) _
  have hsz : (swp d i j).size = d.size := Go.Sort.size_swp _ _ _
  refine ⟨_, hs, ⟨grownBy_trans hI.1 hg, holdsK_putRowK encH 32 W g 0 d _ hI.2.1 hsz, hsz.trans hI.2.2.1, putK_row hc⟩, hg, fun b cs' T hT hb => ?_⟩
  exact row_far hb hg (fun e => hT (by
    have e' : g = b := Option.some.inj e
    rw [← e'] at hb
    exact (Obj.cells.inj (Option.some.inj (hc.symm.trans hb))).2.1.symm))
theorem soI_lt {w0 W : World} {g n : Nat} {d : Array OH} (h : soI w0 g n d W) : g < W.heap.size := by
  obtain ⟨cs, hc⟩ := h.2.2.2
  exact (Array.getElem?_eq_some_iff.1 hc).1
/-- The row of digests as the sort sees it. -/
noncomputable def so_inst (w0 : World) (g ib n cap : Nat) (hbx : w0.heap[ib]? = some (.cells #[(.slice (some ⟨g, 0, none⟩) n cap)] 52 (0, 0))) (hne : ib ≠ g) (hgl : g < w0.heap.size) (hn : n ≤ 1048576) : SoE OH ltH n 58 #[.pointer (some ⟨ib, 0, none⟩)] 85 #[.slice (some ⟨g, 0, none⟩) n cap, typeHandle Tryz.prog 26] where
  I := soI w0 g n
  R := soR g
  size := fun d W h => h.2.2.1
  below := fun d W W' h hb => ⟨grownBy_trans h.1 (grownBy_of_below hb _), holdsK_below h.2.1 (soI_lt h) hb, h.2.2.1, h.2.2.2.elim fun cs hc => ⟨cs, row_below hc hb⟩⟩
  rb := fun W W' hb => ⟨grownBy_of_below hb _, fun b cs T _ h => row_below h hb⟩
  rt := fun a b c h k => ⟨grownBy_trans h.1 k.1, fun x cs T hT hx => k.2 x cs T hT (h.2 x cs T hT hx)⟩
  rbox := fun W W' b h hb => h.2 b _ _ (by decide) hb
  eg := enters_of Tryz.func58 (by kernel_rfl) rfl
  less := fun d W i j h hi hj => under1_any ib g cap n i j d W (row_far hbx h.1 (fun e => hne (Option.some.inj e).symm)) h.2.1 h.2.2.1 hi hj hn
  swap := fun d W i j h hi hj => so_swap h hi hj
  rx := fun W W' b v h hb => h.2 b _ _ (by decide) hb
  rand := fun d' d w W W' s h' h k hs hg => by
    have hgw := soI_lt h'
    have hne2 : s ≠ g := by omega
    have hold : ∀ b o, W.heap[b]? = some o → b ≠ s → W'.heap[b]? = some o := fun b o hb hbs => row_far hb hg (fun e => hbs (Option.some.inj e).symm)
    obtain ⟨cs, hc⟩ := h.2.2.2
    have e : W'.heap[g]? = W.heap[g]? := (hold g _ hc hne2.symm).trans hc.symm
    have hb0 : ∀ b, b < w.heap.size → some b ≠ some s := fun b hb e => by have := Option.some.inj e; omega
    exact ⟨⟨⟨hg.os.trans h.1.os, hg.tape.trans h.1.tape, hg.output.trans h.1.output, Nat.le_trans h.1.size hg.size, fun b hb hbg => (hg.block b (Nat.lt_of_lt_of_le hb h.1.size) (hb0 b (Nat.lt_of_lt_of_le hb h'.1.size))).trans (h.1.block b hb hbg)⟩, holdsK_block h.2.1 e, h.2.2.1, cs, e.trans hc⟩, ⟨hg.os.trans k.1.os, hg.tape.trans k.1.tape, hg.output.trans k.1.output, Nat.le_trans k.1.size hg.size, fun b hb hbg => (hg.block b (Nat.lt_of_lt_of_le hb k.1.size) (hb0 b hb)).trans (k.1.block b hb hbg)⟩, fun b cs' T hT hb => hold b _ (k.2 b cs' T hT hb) (fun e => hb0 b (Array.getElem?_eq_some_iff.1 hb).1 (by rw [e]))⟩
  le := hn
end Go.Proofs.YtdhcjaflbfpalaaGreatDoor.Sha

/-
  sort.Slice over a row of ids by the tree's comparison: the same ids, none less than the one ahead. Conditions: the row is one of its own, of one id or more; the slice stands in a box.
-/
namespace Go.Proofs.YtdhcjaflbfpalaaGreatDoor.Sha
open Go Go.RowKit
open Go.Shelf Go.Lib
open Go.Sort (HoldsK pdq PermIn SortedIn grow size_grow)
noncomputable def hsTI : TypeInfo := (Tryz.prog.info? 52).get (by kernel_rfl)
noncomputable def hTI : TypeInfo := (Tryz.prog.info? 26).get (by kernel_rfl)
theorem hash_kind (n : Nat) (h2 : 2 ≤ n) : Lib.swapperK n hTI 17 = 9 := by
  have a : hTI.hasPointers = false := by kernel_rfl
  have b : hTI.bytes = 32 := by kernel_rfl
  have c : (n == 0) = false := by simp; omega
  have d : (n == 1) = false := by simp; omega
  simp [Lib.swapperK, a, b, c, d]
theorem below_grow (w : World) (os : Array Obj) : Below w.heap.size w (grow w os) := ⟨rfl, rfl, rfl, by rw [size_grow]; exact Nat.le_add_right _ _, fun k hk => by show (w.heap ++ os)[k]? = _; rw [Array.getElem?_append_left hk]⟩
theorem below_slice (t : TypeId) (p : Option Addr) (n c : Nat) (w : World) : Below w.heap.size w (sliceWorld Tryz.prog slice_lay_ren t p n c w) := by
  unfold sliceWorld
  have h := (Below.refl w.heap.size w).alloc (Nat.le_refl _) (.cells #[.slice p n c] t)
  exact h.trans (((Below.refl _ _).alloc (Nat.le_refl _) _).mono h.size)
theorem hssort_own (base ib : Nat) (v : Value) (l : List (List UInt8)) (w : World) (h : HsOwn base w v l) (hbx : w.heap[ib]? = some (.cells #[v] 52 (0, 0))) (hn : l.length ≤ 1048576) (h0 : 1 ≤ l.length) :
    Calls Tryz.prog 45 #[.iface 52 v, .func (.func 58) #[] #[.pointer (some ⟨ib, 0, none⟩)]] w fun e w' => e = .returned (.tuple #[]) ∧ ∃ l' : List (List UInt8), l'.Perm l ∧ l'.Pairwise (fun x y => lessL y x = false) ∧ HsAt w' v l' ∧ w.grownBy w' v.ownBlock ∧ ∀ g, v.ownBlock = some g → ∃ cs, w'.heap[g]? = some (.cells cs 26 (0, 0)) := by
  obtain ⟨d, rfl⟩ := lift_hs l h.2
  rw [List.length_map] at hn h0
  have h1 := h.1
  rw [List.length_map, hsL_enc] at h1
  have hcase := h1.2
  rcases hcase with ⟨rfl, hz⟩ | ⟨g, cap, cur, rfl, _, hb, hcap, _⟩
  · omega
  · have hH := holds_hs h1
    have hgl : g < w.heap.size := (Array.getElem?_eq_some_iff.1 hb).1
    by_cases h2 : 2 ≤ d.length
    · have hne : ib ≠ g := fun e => by
        rw [e, hb] at hbx
        have := (Obj.cells.inj (Option.some.inj hbx)).2.1
        exact absurd this (by decide)
      have hk := hash_kind d.length h2
      have hbw := below_slice 52 (some ⟨g, 0, none⟩) d.length cap w
      have hp := so_pdq (so_inst w g ib d.length cap hbx hne hgl hn) swoH (d.length + 1) 0 d.length (Lib.bitLen d.length) d.toArray (sliceWorld Tryz.prog slice_lay_ren 52 (some ⟨g, 0, none⟩) d.length cap w) (by omega) ⟨grownBy_of_below hbw _, holdsK_below hH hgl hbw, by simp, cur, row_below hb hbw⟩ (Nat.zero_le _) (Nat.le_refl _) (Nat.le_trans (Lib.bitLen_le d.length 62 (by omega) (by omega)) (by omega)) (Or.inl rfl)
      have hc := Any.sort_Slice_of_pdq slice_lay 52 26 hsTI hTI (by kernel_rfl) (by kernel_rfl) (by kernel_rfl) (by kernel_rfl) 17 (fun _ => by kernel_rfl) (some ⟨g, 0, none⟩) d.length cap (by omega) 85 (by rw [hk]; kernel_rfl) (.func 58) #[] #[.pointer (some ⟨ib, 0, none⟩)] w (fun w' => soI w g d.length (pdq ltH d.toArray 0 d.length (Lib.bitLen d.length) true true) w') (by
        unfold sliceBound
        rw [hk]
        exact hp.mono fun e w' hh => ⟨hh.1, hh.2.1⟩)
      change Calls Tryz.prog 45 _ _ _ at hc
      refine hc.mono ?_
      rintro e w' ⟨rfl, hI⟩
      have hs := Sort.pdq_sorts ltH swoH d.toArray 0 d.length (Lib.bitLen d.length) true true (Nat.zero_le _) (by simp) (Or.inl rfl)
      generalize pdq ltH d.toArray 0 d.length (Lib.bitLen d.length) true true = d2 at hI hs
      obtain ⟨d2⟩ := d2
      have hlen : d2.length = d.length := by simpa using hI.2.2.1
      refine ⟨rfl, d2.map (·.1), ?_, ?_, ?_, hI.1, fun g' e => by cases e; exact hI.2.2.2⟩
      · have hp2 := hs.1.2.2
        have e1 : (Array.mk d2).extract 0 d.length = Array.mk d2 := by rw [← hlen]; exact Array.extract_size
        have e2 : (d.toArray).extract 0 d.length = d.toArray := by simp
        rw [e1, e2] at hp2
        exact hp2.map _
      · rw [List.pairwise_map, List.pairwise_iff_getElem]
        intro i j hi hj hij
        have hq := hs.2 i j (Nat.zero_le _) hij (by omega)
        rw [getElem!_pos (Array.mk d2) i (by simpa using hi), getElem!_pos (Array.mk d2) j (by simpa using hj)] at hq
        exact hq
      · have h3 := hsAt_holds (cap := cap) (d := d2) hI.2.1 (by omega)
        rw [hlen] at h3
        exact h3
    · have e1 : d.length = 1 := by omega
      have hc := Any.sort_Slice_tiny slice_lay 52 26 hsTI hTI (by kernel_rfl) (by kernel_rfl) (by kernel_rfl) (by kernel_rfl) 17 (fun _ => by kernel_rfl) (some ⟨g, 0, none⟩) d.length cap (by omega) 78 (by rw [e1]; kernel_rfl) (.func 58) #[] #[.pointer (some ⟨ib, 0, none⟩)] w
      change Calls Tryz.prog 45 _ _ _ at hc
      refine hc.mono ?_
      rintro e w' ⟨rfl, os, rfl⟩
      obtain ⟨x, rfl⟩ := List.length_eq_one_iff.1 e1
      exact ⟨rfl, _, List.Perm.refl _, by simp, h.at.below (below_grow w os), grownBy_of_below (below_grow w os) _, fun g' e => by cases e; exact ⟨cur, row_below hb (below_grow w os)⟩⟩
end Go.Proofs.YtdhcjaflbfpalaaGreatDoor.Sha
