/-
  Texts of this proof joined into one file: CnTwiceWalk, ErrCno, RefLess, RefPtLess. What each holds, and under which conditions, its own first sentence tells.
-/
import Derived.Stop.LaidErr
import Derived.Test.YtlmfchcafhidoaaDoorMg08
import Derived.Test.YtlmfchcafhidoaaDoorRows
import Derived.Test.YtlmfchcafhidoaaDoorMg01
import Derived.Test.YtlmfchcafhidoaaDoorMg07
/-
  The statement on two coins of one place answers true. Nothing that was there turns. Conditions: a place, coins as the model has them; the errors, the table of the rounds' words are there.
-/
namespace Go.Proofs.YtlmfchcafhidoaaDoor.Sha
open Go Go.RowKit
theorem setsum_one (w : World) (a : Nat) (m : Option Nat) (x : TSp) (h : SetAt w a m [x]) (sl : List UInt8) (hs : sl = sha (bytesC [x])) (hk : KTab w) :
    Calls Tryd.prog 24 #[.pointer (some ⟨a, 0, none⟩)] w fun e w' => e = .returned (.agg (sl.map bV).toArray) ∧ Below w.heap.size w w' :=
  (setsum_any w a m [x] h (by simp) hk).mono fun _ _ ⟨l', h1, h2, _, h4⟩ => ⟨by rw [h1, hs, List.perm_singleton.1 h2], h4⟩
set_option maxHeartbeats 4000000 in
set_option maxRecDepth 100000 in
theorem cointwice_main (E : Nat → Addr) (p : TPt) (a b : TMn) (w : World) (hp : PtOk p) (ha : MnOk a) (hb : MnOk b) (hE : Errs w E) (hk : KTab w) :
    Calls Tryd.prog 6 #[.agg (ptC p).toArray, .agg (mnL a).toArray, .agg (mnL b).toArray] w fun e w' => e = .returned (.bool true) ∧ Below w.heap.size w w' := by
  have HP := Lib.hid hp
  have HA := Lib.hid ha
  have HB := Lib.hid hb
  have HE := Lib.hid hE
  have HK := Lib.hid hk
  clear hp ha hb hE hk
  go_enter Tryd.func6, Tryd.ntmps6
  go_upto_region 1 with fail
  have f3 := row_below (row_below (heap_alloc_new w (.cells (ptC p).toArray 27 (0, 0))) ((Below.refl _ _).alloc (Nat.le_refl _) (.cells (mnL a).toArray 39 (0, 0)))) ((Below.refl _ _).alloc (Nat.le_refl _) (.cells (mnL b).toArray 39 (0, 0)))
  have f4 := row_below (heap_alloc_new (w.alloc (.cells (ptC p).toArray 27 (0, 0))) (.cells (mnL a).toArray 39 (0, 0))) ((Below.refl _ _).alloc (Nat.le_refl _) (.cells (mnL b).toArray 39 (0, 0)))
  have f5 := heap_alloc_new ((w.alloc (.cells (ptC p).toArray 27 (0, 0))).alloc (.cells (mnL a).toArray 39 (0, 0))) (.cells (mnL b).toArray 39 (0, 0))
  have b0 := (((Below.refl w.heap.size w).alloc (Nat.le_refl _) (.cells (ptC p).toArray 27 (0, 0))).alloc (by simp) (.cells (mnL a).toArray 39 (0, 0))).alloc (by simp only [World.size_alloc]; omega) (.cells (mnL b).toArray 39 (0, 0))
  simp only [World.size_alloc] at f4 f5
  generalize hw1 : World.alloc _ _ = w1
  have e1 : ((w.alloc (.cells (ptC p).toArray 27 (0, 0))).alloc (.cells (mnL a).toArray 39 (0, 0))).alloc (.cells (mnL b).toArray 39 (0, 0)) = w1 := hw1
  rw [e1] at f3 f4 f5 b0
  obtain ⟨g3, hg3⟩ : ∃ g3, g3 = w.heap.size := ⟨_, rfl⟩
  have G3 : Hid (w.heap.size ≤ g3) := by show _ ≤ _; rw [hg3]; exact Nat.le_refl _
  rw [← hg3] at f3 f4 f5 ⊢
  have B1 := Lib.hid b0
  clear hw1 e1 hg3
  go_wp2_with fail
  refine (cfirst_any E w1 (HE.out.below B1.out)).mono ?_
  rintro e w2 ⟨rfl, b2⟩
  have B2 := Lib.hid (B1.out.trans (b2.mono B1.out.size))
  have F3 := Lib.hid (row_below f3 b2)
  have F4 := Lib.hid (row_below f4 b2)
  have F5 := Lib.hid (row_below f5 b2)
  clear f3 f4 f5 b0 b2
  obtain ⟨va, hva⟩ : ∃ va, va = a.val := ⟨_, rfl⟩
  obtain ⟨vb, hvb⟩ : ∃ vb, vb = b.val := ⟨_, rfl⟩
  have F4' : Hid (w2.heap[g3 + 1]? = some (.cells ([] ++ [Value.int .u64 (va : Int)] ++ mnR a).toArray 39 (0, 0))) := by
    show _ = _
    rw [hva]
    exact F4.out
  have F5' : Hid (w2.heap[g3 + 1 + 1]? = some (.cells ([] ++ [Value.int .u64 (vb : Int)] ++ mnR b).toArray 39 (0, 0))) := by
    show _ = _
    rw [hvb]
    exact F5.out
  have VA := Lib.hid hva
  have VB := Lib.hid hvb
  have ca : w2.cell? ⟨g3 + 1, 0, none⟩ = some (.int .u64 (va : Int)) := by rw [cell_of_row _ _ _ _ _ _ F4'.out]; rfl
  have va0 : 0 ≤ (va : Int) := by omega
  have EA : Hid (Value.int .u64 ((va : Int) % 2100000000000001) = .int .u64 ((topM va : Nat) : Int)) := congrArg (Value.int .u64) (by unfold topM; omega)
  have EB : Hid (Value.int .u64 ((vb : Int) % 2100000000000001) = .int .u64 ((topM vb : Nat) : Int)) := congrArg (Value.int .u64) (by unfold topM; omega)
  have PL : Hid ((ptC p).toArray.size = 33) := ptC_size HP.out
  have AS : Hid ((mnL (mnT a)).toArray.size = 35) := mnL_size (mnT_ok HA.out)
  have BS : Hid ((mnL (mnT b)).toArray.size = 35) := mnL_size (mnT_ok HB.out)
  have FS : Hid ((mnL (mnF b)).toArray.size = 35) := mnL_size (mnF_ok HB.out)
  clear hva hvb F4 F5
  go_upto_region 5 with ((with_reducible show wpList _ _ _ _ _ _); refine wpList_store_part rfl 37 (.tmp 24) (.tmp 23) rfl (g3 + 1) 0 [] [.int .u64 (va : Int)] (mnR a) [.int .u64 ((topM va : Nat) : Int)] 39 (.int .u64 ((topM va : Nat) : Int)) rfl EA.out rfl rfl rfl F4'.out (by kernel_rfl) (by simp [Value.oneCell']) ?_; intro w3 q1 q2; have Q1 := Lib.hid q1; have Q2 := Lib.hid q2; clear q1 q2; go_frame)
  have F4 : Hid (w3.heap[g3 + 1]? = some (.cells (mnL (mnT a)).toArray 39 (0, 0))) := by
    have h := Q1.out
    rw [VA.out] at h
    exact h
  have F3 := Lib.hid (row_far F3.out Q2.out (fun e => by have := Option.some.inj e; omega))
  have F5' := Lib.hid (row_far F5'.out Q2.out (fun e => by have := Option.some.inj e; omega))
  have B3 := Lib.hid (B2.out.grown Q2.out B2.out.size (fun k hk => by cases hk; have := G3.out; omega))
  have cb : w3.cell? ⟨g3 + 1 + 1, 0, none⟩ = some (.int .u64 (vb : Int)) := by rw [cell_of_row _ _ _ _ _ _ F5'.out]; rfl
  clear ca Q1 Q2 F4' EA B2
  go_upto_region 6 with ((with_reducible show wpList _ _ _ _ _ _); refine wpList_store_part rfl 37 (.tmp 28) (.tmp 27) rfl (g3 + 1 + 1) 0 [] [.int .u64 (vb : Int)] (mnR b) [.int .u64 ((topM vb : Nat) : Int)] 39 (.int .u64 ((topM vb : Nat) : Int)) rfl EB.out rfl rfl rfl F5'.out (by kernel_rfl) (by simp [Value.oneCell']) ?_; intro w4 q1 q2; have Q1 := Lib.hid q1; have Q2 := Lib.hid q2; clear q1 q2; go_frame)
  have F5 : Hid (w4.heap[g3 + 1 + 1]? = some (.cells (mnL (mnT b)).toArray 39 (0, 0))) := by
    have h := Q1.out
    rw [VB.out] at h
    exact h
  have F3 := Lib.hid (row_far F3.out Q2.out (fun e => by have := Option.some.inj e; omega))
  have F4 := Lib.hid (row_far F4.out Q2.out (fun e => by have := Option.some.inj e; omega))
  have B4 := Lib.hid (B3.out.grown Q2.out B3.out.size (fun k hk => by cases hk; have := G3.out; omega))
  clear cb Q1 Q2 F5' EB B3
  go_upto_region 7 with ((with_reducible show wpList _ _ _ _ _ _); first | (refine wpList_load_row rfl 39 (.tmp 5) rfl (g3 + 1 + 1) rfl 39 (mnL (mnT b)).toArray (0, 0) _ F5.out Tryd.underlying39 rfl (by rw [BS.out]; kernel_rfl) ?_; go_frame) | (refine wpList_store_row rfl 39 (.tmp 8) (.tmp 29) rfl w4.heap.size (mnL (mnT b)).toArray rfl rfl 39 _ (heap_alloc_new _ _) (by rw [BS.out]; kernel_rfl) (by rw [BS.out]; rfl) (mnL_all _) ?_; go_frame))
  obtain ⟨_, f2, f3, f4⟩ := fill_setup (Below.refl w4.heap.size w4) (mnL mnZ).toArray (mnL (mnT b)).toArray 39
  generalize hw5 : World.setRow _ _ _ = w5
  have e5 : World.setRow (w4.alloc (.cells (mnL mnZ).toArray 39)) w4.heap.size (mnL (mnT b)).toArray = w5 := hw5
  rw [e5] at f2 f3 f4
  obtain ⟨g8, hg8⟩ : ∃ g8, g8 = w4.heap.size := ⟨_, rfl⟩
  rw [← hg8] at f2 ⊢
  have G8 : Hid (g3 + 1 + 1 < g8) := by show _ < _; rw [hg8]; exact (Array.getElem?_eq_some_iff.1 F5.out).1
  have F8 := Lib.hid f2
  have F3 := Lib.hid (row_below F3.out f4)
  have F4 := Lib.hid (row_below F4.out f4)
  have F5 := Lib.hid (row_below F5.out f4)
  have B5 := Lib.hid (B4.out.trans (f4.mono B4.out.size))
  clear f2 f3 f4 hw5 e5 hg8 B4
  go_upto_region 8 with ((with_reducible show wpList _ _ _ _ _ _); refine wpList_store_part rfl 37 (.tmp 30) (.const (.int .u64 2100000000000001)) rfl g8 0 [] [.int .u64 ((topM b.val : Nat) : Int)] (mnR b) [.int .u64 2100000000000001] 39 (.int .u64 2100000000000001) rfl rfl rfl rfl rfl F8.out (by kernel_rfl) (by simp [Value.oneCell']) ?_; intro w6 q1 q2; have Q1 := Lib.hid q1; have Q2 := Lib.hid q2; clear q1 q2; go_frame)
  have F8 : Hid (w6.heap[g8]? = some (.cells (mnL (mnF b)).toArray 39 (0, 0))) := Q1.out
  have F3 := Lib.hid (row_far F3.out Q2.out (fun e => by have := Option.some.inj e; have := G8.out; omega))
  have F4 := Lib.hid (row_far F4.out Q2.out (fun e => by have := Option.some.inj e; have := G8.out; omega))
  have F5 := Lib.hid (row_far F5.out Q2.out (fun e => by have := Option.some.inj e; have := G8.out; omega))
  have B6 := Lib.hid (B5.out.grown Q2.out B5.out.size (fun k hk => by cases hk; have := G3.out; have := G8.out; omega))
  clear Q1 Q2 B5
  go_upto_region 9 with fail
  have f9 := heap_alloc_new w6 (.cells #[.map none] 32 (0, 0))
  have b9 := (Below.refl w6.heap.size w6).alloc (Nat.le_refl _) (.cells #[.map none] 32 (0, 0))
  generalize hw7 : World.alloc _ _ = w7
  have e7 : w6.alloc (.cells #[.map none] 32 (0, 0)) = w7 := hw7
  rw [e7] at f9 b9
  obtain ⟨g9, hg9⟩ : ∃ g9, g9 = w6.heap.size := ⟨_, rfl⟩
  have G9 : Hid (g8 < g9) := by show _ < _; rw [hg9]; exact (Array.getElem?_eq_some_iff.1 F8.out).1
  have W9 : Hid (w.heap.size ≤ g9) := by show _ ≤ _; rw [hg9]; exact B6.out.size
  rw [← hg9] at f9 ⊢
  have S7 : Hid (SetAt w7 g9 none []) := ⟨f9, rfl⟩
  have L7 : Hid (g9 < w7.heap.size) := (Array.getElem?_eq_some_iff.1 f9).1
  have BX : Hid (∀ W, Below g9 w7 W → W.heap[g3]? = some (.cells (ptC p).toArray 27 (0, 0)) ∧ W.heap[g3 + 1]? = some (.cells (mnL (mnT a)).toArray 39 (0, 0)) ∧ W.heap[g3 + 1 + 1]? = some (.cells (mnL (mnT b)).toArray 39 (0, 0)) ∧ W.heap[g8]? = some (.cells (mnL (mnF b)).toArray 39 (0, 0)) ∧ Below w.heap.size w W) := fun W hW => by
    have h1 := G8.out
    have h2 := G9.out
    refine ⟨?_, ?_, ?_, ?_, B6.out.trans ((b9.mono B6.out.size).trans (hW.mono W9.out))⟩
    · rw [hW.block g3 (by omega)]; exact row_below F3.out b9
    · rw [hW.block (g3 + 1) (by omega)]; exact row_below F4.out b9
    · rw [hW.block (g3 + 1 + 1) (by omega)]; exact row_below F5.out b9
    · rw [hW.block g8 (by omega)]; exact row_below F8.out b9
  clear f9 b9 hw7 e7 hg9 F3 F4 F5 F8
  -- the first one
  obtain ⟨X3, X4, X5, X8, XB⟩ := BX.out w7 (Below.refl _ _)
  have A1 := setadd_any E w7 g9 none [] p (mnT a) (EC.of (HE.out.below XB)) S7.out HP.out (mnT_ok HA.out)
  rw [addR_fits (topM_le _) rfl, addL_fits (topM_le _) rfl, List.nil_append, show errV E 0 = .nilIface from rfl] at A1
  have A1 := Lib.hid A1
  have X3 := Lib.hid X3
  have X4 := Lib.hid X4
  clear X5 X8 XB
  go_wp2_with ((with_reducible show wpList _ _ _ _ _ _); first | (refine wpList_load_row rfl 27 (.tmp 3) rfl g3 rfl 27 (ptC p).toArray (0, 0) _ X3.out Tryd.underlying27 rfl (by rw [PL.out]; kernel_rfl) ?_; go_frame) | (refine wpList_load_row rfl 39 (.tmp 4) rfl (g3 + 1) rfl 39 (mnL (mnT a)).toArray (0, 0) _ X4.out Tryd.underlying39 rfl (by rw [AS.out]; kernel_rfl) ?_; go_frame))
  refine A1.out.mono ?_
  rintro e w8 ⟨rfl, m8, s8, hm8, k8⟩
  have M8 : Hid (HiM g9 m8) := HiM.add (fun q e => by cases e) (Nat.le_of_lt L7.out) hm8
  have D8 := Lib.hid (Below.set (Below.refl g9 w7) k8 (Nat.le_refl _) (fun q e => by cases e) (Nat.le_of_lt L7.out))
  have L8 : Hid (g9 ≤ w8.heap.size) := Nat.le_trans (Nat.le_of_lt L7.out) D8.out.size
  have S8 := Lib.hid s8
  clear s8 hm8 k8 A1 X3 X4 S7
  -- another one there
  obtain ⟨X3, X4, X5, X8, XB⟩ := BX.out w8 D8.out
  have A2 := setadd_any E w8 g9 m8 _ p (mnT b) (EC.of (HE.out.below XB)) S8.out HP.out (mnT_ok HB.out)
  rw [addL_not (addR_there (topM_le _) (by rw [getC_one]; rfl)), addR_there (topM_le _) (by rw [getC_one]; rfl)] at A2
  have A2 := Lib.hid A2
  have X3 := Lib.hid X3
  have X5 := Lib.hid X5
  clear X4 X8 XB
  go_wp2_with ((with_reducible show wpList _ _ _ _ _ _); first | (refine wpList_load_row rfl 27 (.tmp 3) rfl g3 rfl 27 (ptC p).toArray (0, 0) _ X3.out Tryd.underlying27 rfl (by rw [PL.out]; kernel_rfl) ?_; go_frame) | (refine wpList_load_row rfl 39 (.tmp 5) rfl (g3 + 1 + 1) rfl 39 (mnL (mnT b)).toArray (0, 0) _ X5.out Tryd.underlying39 rfl (by rw [BS.out]; kernel_rfl) ?_; go_frame))
  refine A2.out.mono ?_
  rintro e w9 ⟨rfl, m9, s9, hm9, k9⟩
  have M9 : Hid (HiM g9 m9) := HiM.add M8.out (Nat.le_trans (Nat.le_of_lt L7.out) D8.out.size) hm9
  have D9 := Lib.hid (Below.set D8.out k9 (Nat.le_refl _) M8.out L8.out)
  have L9 : Hid (g9 ≤ w9.heap.size) := Nat.le_trans L8.out k9.size
  have S9 := Lib.hid s9
  clear s9 hm9 k9 A2 X3 X5 S8
  -- too great a one
  obtain ⟨X3, X4, X5, X8, XB⟩ := BX.out w9 D9.out
  have A3 := setadd_any E w9 g9 m9 _ (ptN p) (mnF b) (EC.of (HE.out.below XB)) S9.out (ptN_ok HP.out) (mnF_ok HB.out)
  rw [addL_not (addR_great (by show 2100000000000000 < 2100000000000001; omega)), addR_great (by show 2100000000000000 < 2100000000000001; omega)] at A3
  have A3 := Lib.hid A3
  have PH : Hid (w9.rangeAt g3 0 (p.h.map bV)) := pt_hash_r (range_of_box X3)
  have LH : Hid ((p.h.map bV).length = 32) := by show _ = _; rw [List.length_map, HP.out.1]
  have X8 := Lib.hid X8
  obtain ⟨np, hnp⟩ : ∃ np, np = p.n := ⟨_, rfl⟩
  have NP := Lib.hid hnp
  have NB : Hid (np ≤ 4294967295) := by show _ ≤ _; rw [hnp]; exact HP.out.2
  have cn : w9.cell? ⟨g3, 32, none⟩ = some (.int .u32 (np : Int)) := by
    rw [hnp]
    have := pt_num_r HP.out.1 (range_of_box X3)
    rwa [Nat.zero_add] at this
  have BT : Hid (Tryd.prog.built 27 [(0, .agg (p.h.map bV).toArray), (1, .int .u32 (((np : Int) + 1) % 4294967296))] = some (ptC (ptN p)).toArray) := by
    have h := built_pt p.h (ptN p).n HP.out.1
    have e : (((ptN p).n : Nat) : Int) = ((np : Int) + 1) % 4294967296 := by
      rw [NP.out]
      show (((p.n + 1) % 4294967296 : Nat) : Int) = _
      omega
    rw [e] at h
    exact h
  have nb := NB.out
  clear hnp X3 X4 X5 XB
  go_wp2_with ((with_reducible show wpList _ _ _ _ _ _); first | (refine wpList_load_mid rfl 24 (.tmp 37) rfl g3 0 rfl (p.h.map bV) _ PH.out Tryd.underlying24 rfl (by rw [LH.out]; kernel_rfl) ?_; go_frame) | (refine wpList_buildTo rfl 27 _ rfl _ rfl (ptC (ptN p)).toArray (by rw [← BT.out]; kernel_rfl) ?_; go_frame) | (refine wpList_load_row rfl 39 (.tmp 8) rfl g8 rfl 39 (mnL (mnF b)).toArray (0, 0) _ X8.out Tryd.underlying39 rfl (by rw [FS.out]; kernel_rfl) ?_; go_frame))
  refine A3.out.mono ?_
  rintro e w10 ⟨rfl, m10, s10, hm10, k10⟩
  have M10 : Hid (HiM g9 m10) := HiM.add M9.out L9.out hm10
  have D10 := Lib.hid (Below.set D9.out k10 (Nat.le_refl _) M9.out L9.out)
  have S10 := Lib.hid s10
  have G10 : Hid (g9 < w10.heap.size) := (Array.getElem?_eq_some_iff.1 s10.box).1
  have Q10 : Hid (∀ q, m10 = some q → q < w10.heap.size) := s10.map.lt
  clear s10 hm10 k10 A3 PH X8 cn S9
  -- a copy
  go_wp2_with fail
  refine (setclone_any w10 g9 m10 _ S10.out).mono ?_
  rintro e w11 ⟨a11, m11, rfl, c11, ha11, hm11, b11⟩
  have A11 : Hid (w10.heap.size ≤ a11) := ha11
  have M11 := Lib.hid hm11
  have C11 := Lib.hid c11
  have S11 := Lib.hid (S10.out.below b11)
  have D11 := Lib.hid (D10.out.trans (b11.mono (Nat.le_of_lt G10.out)))
  have G11 : Hid (w10.heap.size ≤ w11.heap.size) := b11.size
  clear c11 ha11 hm11 b11 S10
  obtain ⟨_, _, _, _, XB⟩ := BX.out w11 D11.out
  obtain ⟨sl, hsl⟩ : ∃ sl, sl = sha (bytesC [⟨p, mnT a⟩]) := ⟨_, rfl⟩
  have SM := Lib.hid (fun (W : World) (x : Nat) (m : Option Nat) (h : SetAt W x m [⟨p, mnT a⟩]) (hk : KTab W) => setsum_one W x m _ h sl hsl hk)
  have LS : Hid (sl.length = 32) := by show _ = _; rw [hsl]; exact sha_length _
  have LS' : Hid ((sl.map bV).toArray.size = 32) := by show _ = _; simp [LS.out]
  have K11 := Lib.hid (HK.out.below XB)
  clear XB hsl
  go_wp2_with fail
  refine (SM.out w11 g9 m10 S11.out K11.out).mono ?_
  rintro e w12 ⟨rfl, b12⟩
  have S12 := Lib.hid (S11.out.below b12)
  have C12 := Lib.hid (C11.out.below b12)
  have D12 := Lib.hid (D11.out.trans (b12.mono (Nat.le_trans (Nat.le_of_lt G10.out) G11.out)))
  have G12 : Hid (w10.heap.size ≤ w12.heap.size) := Nat.le_trans G11.out b12.size
  clear b12 S11 C11 K11
  go_upto_region 14 with ((with_reducible show wpList _ _ _ _ _ _); refine wpList_store_row rfl 24 (.tmp 14) (.tmp 46) rfl w12.heap.size (sl.map bV).toArray rfl rfl 24 _ (heap_alloc_new _ _) (by rw [LS'.out]; kernel_rfl) (by rw [LS'.out]; rfl) (bV_one _) ?_; go_frame)
  obtain ⟨_, f2, f3, f4⟩ := fill_setup (Below.refl w12.heap.size w12) (List.replicate 32 (bV 0)).toArray (sl.map bV).toArray 24
  generalize hw13 : World.setRow _ _ _ = w13
  have e13 : World.setRow (w12.alloc (.cells (List.replicate 32 (bV 0)).toArray 24)) w12.heap.size (sl.map bV).toArray = w13 := hw13
  rw [e13] at f2 f3 f4
  obtain ⟨g14, hg14⟩ : ∃ g14, g14 = w12.heap.size := ⟨_, rfl⟩
  rw [← hg14] at f2 ⊢
  have G14 : Hid (w10.heap.size ≤ g14) := by show _ ≤ _; rw [hg14]; exact G12.out
  have F14 := Lib.hid f2
  have S13 := Lib.hid (S12.out.below f4)
  have C13 := Lib.hid (C12.out.below f4)
  have D13 := Lib.hid (D12.out.trans (f4.mono (Nat.le_trans (Nat.le_of_lt G10.out) G12.out)))
  have L13 : Hid (g9 ≤ w13.heap.size) := Nat.le_trans (Nat.le_trans (Nat.le_of_lt G10.out) G12.out) f4.size
  clear f2 f3 f4 hw13 e13 hg14 S12 C12 D12
  -- the other one behind it
  obtain ⟨X3, X4, X5, X8, XB⟩ := BX.out w13 D13.out
  have A4 := setadd_any E w13 g9 m10 _ (ptN p) (mnT b) (EC.of (HE.out.below XB)) S13.out (ptN_ok HP.out) (mnT_ok HB.out)
  rw [addR_fits (topM_le _) (getC_other _ (ptN_ne HP.out)), addL_fits (topM_le _) (getC_other _ (ptN_ne HP.out)), show errV E 0 = .nilIface from rfl] at A4
  have A4 := Lib.hid A4
  have PH : Hid (w13.rangeAt g3 0 (p.h.map bV)) := pt_hash_r (range_of_box X3)
  have X5 := Lib.hid X5
  have cn : w13.cell? ⟨g3, 32, none⟩ = some (.int .u32 (np : Int)) := by
    rw [NP.out]
    have := pt_num_r HP.out.1 (range_of_box X3)
    rwa [Nat.zero_add] at this
  clear X3 X4 X8 XB
  go_wp2_with ((with_reducible show wpList _ _ _ _ _ _); first | (refine wpList_load_mid rfl 24 (.tmp 47) rfl g3 0 rfl (p.h.map bV) _ PH.out Tryd.underlying24 rfl (by rw [LH.out]; kernel_rfl) ?_; go_frame) | (refine wpList_buildTo rfl 27 _ rfl _ rfl (ptC (ptN p)).toArray (by rw [← BT.out]; kernel_rfl) ?_; go_frame) | (refine wpList_load_row rfl 39 (.tmp 5) rfl (g3 + 1 + 1) rfl 39 (mnL (mnT b)).toArray (0, 0) _ X5.out Tryd.underlying39 rfl (by rw [BS.out]; kernel_rfl) ?_; go_frame))
  refine A4.out.mono ?_
  rintro e w14 ⟨rfl, m14, s14, hm14, k14⟩
  have NE : Hid (∀ x, w10.heap.size ≤ x → x ≠ g9 ∧ m10 ≠ some x) := fun x hx => ⟨by have := G10.out; omega, fun e => by have := Q10.out x e; omega⟩
  have D14 := Lib.hid (Below.set D13.out k14 (Nat.le_refl _) M10.out L13.out)
  have S14 := Lib.hid s14
  have C14 := Lib.hid (C13.out.kps k14 (NE.out a11 A11.out) (fun q e => NE.out q (M11.out q e)))
  have F14 := Lib.hid (row_kps F14.out k14 (NE.out g14 G14.out))
  have L14 : Hid (g9 ≤ w14.heap.size) := Nat.le_trans L13.out k14.size
  clear s14 hm14 k14 A4 PH X5 cn S13 C13 D13
  -- what the copy has
  obtain ⟨X3, _, _, _, XB⟩ := BX.out w14 D14.out
  have GT := setget_any w14 a11 m11 _ p C14.out HP.out
  rw [getC_one] at GT
  simp only [Option.getD_some, Option.isSome_some] at GT
  have GT := Lib.hid GT
  have X3 := Lib.hid X3
  clear XB
  go_wp2_with ((with_reducible show wpList _ _ _ _ _ _); (refine wpList_load_row rfl 27 (.tmp 3) rfl g3 rfl 27 (ptC p).toArray (0, 0) _ X3.out Tryd.underlying27 rfl (by rw [PL.out]; kernel_rfl) ?_; go_frame))
  refine GT.out.mono ?_
  rintro e w15 ⟨rfl, b15⟩
  have S15 := Lib.hid (S14.out.below b15)
  have C15 := Lib.hid (C14.out.below b15)
  have F15 := Lib.hid (row_below F14.out b15)
  have D15 := Lib.hid (D14.out.trans (b15.mono L14.out))
  have L15 : Hid (g9 ≤ w15.heap.size) := Nat.le_trans L14.out b15.size
  clear b15 S14 C14 F14 D14 GT X3
  go_upto_region 16 with ((with_reducible show wpList _ _ _ _ _ _); refine wpList_store_row rfl 39 (.tmp 16) (.tmp 59) rfl w15.heap.size (mnL (mnT a)).toArray rfl rfl 39 _ (heap_alloc_new _ _) (by rw [AS.out]; kernel_rfl) (by rw [AS.out]; rfl) (mnL_all _) ?_; go_frame)
  obtain ⟨_, f2, f3, f4⟩ := fill_setup (Below.refl w15.heap.size w15) (mnL mnZ).toArray (mnL (mnT a)).toArray 39
  generalize hw16 : World.setRow _ _ _ = w16
  have e16 : World.setRow (w15.alloc (.cells (mnL mnZ).toArray 39)) w15.heap.size (mnL (mnT a)).toArray = w16 := hw16
  rw [e16] at f2 f3 f4
  obtain ⟨g16, hg16⟩ : ∃ g16, g16 = w15.heap.size := ⟨_, rfl⟩
  rw [← hg16] at f2 ⊢
  have F16 := Lib.hid f2
  have S16 := Lib.hid (S15.out.below f4)
  have C16 := Lib.hid (C15.out.below f4)
  have F14 := Lib.hid (row_below F15.out f4)
  have D16 := Lib.hid (D15.out.trans (f4.mono L15.out))
  clear f2 f3 f4 hw16 e16 hg16 S15 C15 F15 D15
  obtain ⟨_, X4, X5, _, XB⟩ := BX.out w16 D16.out
  have X4 := Lib.hid X4
  have X5 := Lib.hid X5
  have B16 := Lib.hid XB
  have K16 := Lib.hid (HK.out.below XB)
  have E16 := Lib.hid (HE.out.below XB)
  have AO : Hid (MnOk (mnT a)) := mnT_ok HA.out
  obtain ⟨za, hza⟩ : ∃ za, za = topM a.val := ⟨_, rfl⟩
  obtain ⟨zb, hzb⟩ : ∃ zb, zb = topM b.val := ⟨_, rfl⟩
  have CA : Hid (∀ (W : World) (g : Nat), W.heap[g]? = some (.cells (mnL (mnT a)).toArray 39 (0, 0)) → W.cell? ⟨g, 0, none⟩ = some (.int .u64 (za : Int))) := fun W g h => by
    rw [cell_of_row _ _ _ _ _ _ h, hza]
    rfl
  have CB : Hid (∀ (W : World) (g : Nat), W.heap[g]? = some (.cells (mnL (mnT b)).toArray 39 (0, 0)) → W.cell? ⟨g, 0, none⟩ = some (.int .u64 (zb : Int))) := fun W g h => by
    rw [cell_of_row _ _ _ _ _ _ h, hzb]
    rfl
  have ba : (za : Int) ≤ 2100000000000000 := by have := topM_le a.val; omega
  have bb' : (zb : Int) ≤ 2100000000000000 := by have := topM_le b.val; omega
  have TT : Hid (∀ W, SetAt W g9 m14 [⟨p, mnT a⟩, ⟨ptN p, mnT b⟩] → Calls Tryd.prog 19 #[.pointer (some ⟨g9, 0, none⟩)] W fun e w' => e = .returned (.int .u64 ((za : Int) + (zb : Int))) ∧ Below W.heap.size W w') := fun W h => by
    have h1 := settotal_any W g9 m14 _ h (za + zb) (by
      have : worthC [⟨p, mnT a⟩, ⟨ptN p, mnT b⟩] = za + zb := by simp [worthC, mnT, hza, hzb]
      rw [this]
      omega)
    rw [Int.natCast_add] at h1
    exact h1
  clear hza hzb X3 XB
  refine wp_region_held_drew (S := (fun w' => Below w16.heap.size w16 w')) (by kernel_rfl) (Below.drew (Below.refl _ _)) (fun hHeld => ?_)
  generalize hwd : w16.drew = wd at  hHeld ⊢
  clear hwd
  refine held_take (i := 0) (v := (.bool true)) rfl (by kernel_rfl) (by kernel_rfl) (by kernel_rfl) (fun _ _ _ h => h) (Or.inl ⟨by rfl, fun w' _ => by kernel_rfl⟩) hHeld ?_
  go_frame
  refine held_take (i := 1) (v := (.bool true)) rfl (by kernel_rfl) (by kernel_rfl) (by kernel_rfl) (fun _ _ _ h => h) (Or.inl ⟨by rfl, fun w' _ => by kernel_rfl⟩) hHeld ?_
  go_frame
  refine held_take (i := 2) (v := .nilIface) rfl (by kernel_rfl) (by kernel_rfl) (by kernel_rfl) (fun _ _ _ h => h) (Or.inl ⟨by rfl, fun w' _ => by kernel_rfl⟩) hHeld ?_
  go_frame
  refine held_take (i := 3) (v := (.bool true)) rfl (by kernel_rfl) (by kernel_rfl) (by kernel_rfl) (fun _ _ _ h => h) (Or.inl ⟨by rfl, fun w' _ => by kernel_rfl⟩) hHeld ?_
  go_frame
  refine held_take (i := 4) (v := (.bool true)) rfl (by kernel_rfl) (by kernel_rfl) (by kernel_rfl) (fun _ _ _ h => h) (Or.inl ⟨by rfl, fun w' _ => by kernel_rfl⟩) hHeld ?_
  go_frame
  refine held_take (i := 5) (v := (.bool true)) rfl (by kernel_rfl) (by kernel_rfl) (by kernel_rfl) (fun _ _ _ h => h) (Or.inl ⟨by rfl, fun w' _ => by kernel_rfl⟩) hHeld ?_
  go_frame
  refine held_take (i := 6) (v := (errV E 6)) rfl (by kernel_rfl) (by kernel_rfl) (by kernel_rfl) (fun _ _ _ h => h) (Or.inl ⟨by rfl, fun w' _ => by kernel_rfl⟩) hHeld ?_
  go_frame
  refine wpAnyH_ready (rs := [7]) (by kernel_rfl) (by simp) (held_cons rfl (fun K hK => ?_) AllReadyH.nil)
  rw [if_pos (by rfl)]
  go_simp
  refine (is_any E 6 106 true rfl _ (E16.out.below hHeld) (by omega)).mono ?_
  rintro e v1 ⟨rfl, bb⟩
  have hv1 := hHeld.trans (bb.mono hHeld.size)
  clear bb hHeld
  go_wp2_with fail
  refine hK.out _ _ hv1 (fun hHeld => ?_)
  clear hK K hv1
  refine held_take (i := 8) (v := (.bool true)) rfl (by kernel_rfl) (by kernel_rfl) (by kernel_rfl) (fun _ _ _ h => h) (Or.inl ⟨by rfl, fun w' _ => by kernel_rfl⟩) hHeld ?_
  go_frame
  refine held_take (i := 9) (v := (.bool true)) rfl (by kernel_rfl) (by kernel_rfl) (by kernel_rfl) (fun _ _ _ h => h) (Or.inl ⟨by rfl, fun w' _ => by kernel_rfl⟩) hHeld ?_
  go_frame
  refine held_take (i := 10) (v := (errV E 5)) rfl (by kernel_rfl) (by kernel_rfl) (by kernel_rfl) (fun _ _ _ h => h) (Or.inl ⟨by rfl, fun w' _ => by kernel_rfl⟩) hHeld ?_
  go_frame
  refine wpAnyH_ready (rs := [11]) (by kernel_rfl) (by simp) (held_cons rfl (fun K hK => ?_) AllReadyH.nil)
  rw [if_pos (by rfl)]
  go_simp
  refine (is_any E 5 105 true rfl _ (E16.out.below hHeld) (by omega)).mono ?_
  rintro e v2 ⟨rfl, bb⟩
  have hv2 := hHeld.trans (bb.mono hHeld.size)
  clear bb hHeld
  go_wp2_with fail
  refine hK.out _ _ hv2 (fun hHeld => ?_)
  clear hK K hv2
  refine held_take (i := 12) (v := (.bool true)) rfl (by kernel_rfl) (by kernel_rfl) (by kernel_rfl) (fun _ _ _ h => h) (Or.inl ⟨by rfl, fun w' _ => by kernel_rfl⟩) hHeld ?_
  go_frame
  refine held_take (i := 13) (v := (.bool true)) rfl (by kernel_rfl) (by kernel_rfl) (by kernel_rfl) (fun _ _ _ h => h) (Or.inl ⟨by rfl, fun w' _ => by kernel_rfl⟩) hHeld ?_
  go_frame
  refine held_take (i := 14) (v := .nilIface) rfl (by kernel_rfl) (by kernel_rfl) (by kernel_rfl) (fun _ _ _ h => h) (Or.inl ⟨by rfl, fun w' _ => by kernel_rfl⟩) hHeld ?_
  go_frame
  refine held_take (i := 15) (v := (.bool true)) rfl (by kernel_rfl) (by kernel_rfl) (by kernel_rfl) (fun _ _ _ h => h) (Or.inl ⟨by rfl, fun w' _ => by kernel_rfl⟩) hHeld ?_
  go_frame
  refine held_take (i := 16) (v := (.bool true)) rfl (by kernel_rfl) (by kernel_rfl) (by kernel_rfl) (fun _ _ _ h => h) (Or.inl ⟨by rfl, fun w' _ => by kernel_rfl⟩) hHeld ?_
  go_frame
  refine held_take (i := 17) (v := (.bool true)) rfl (by kernel_rfl) (by kernel_rfl) (by kernel_rfl) (fun _ _ _ h => h) (Or.inl ⟨by rfl, fun w' _ => by kernel_rfl⟩) hHeld ?_
  go_frame
  refine held_take (i := 18) (v := (.bool true)) rfl (by kernel_rfl) (by kernel_rfl) (by kernel_rfl) (fun _ _ _ h => h) (Or.inl ⟨by rfl, fun w' _ => by kernel_rfl⟩) hHeld ?_
  go_frame
  refine held_take (i := 19) (v := (.bool true)) rfl (by kernel_rfl) (by kernel_rfl) (by kernel_rfl) (fun _ _ _ h => h) (Or.inl ⟨by rfl, fun w' _ => by kernel_rfl⟩) hHeld ?_
  go_frame
  refine held_take (i := 20) (v := (.bool true)) rfl (by kernel_rfl) (by kernel_rfl) (by kernel_rfl) (fun _ _ _ h => h) (Or.inl ⟨by rfl, fun w' _ => by kernel_rfl⟩) hHeld ?_
  go_frame
  refine held_take (i := 21) (v := (.agg (mnL (mnT a)).toArray)) rfl (by kernel_rfl) (by kernel_rfl) (by kernel_rfl) (fun _ _ _ h => h) (yieldsIf_load_row (by rfl) 39 (.tmp 16) rfl g16 rfl 39 (mnL (mnT a)).toArray (0, 0) _ (fun w' hw' => row_below F16.out hw') Tryd.underlying39 rfl (by rw [AS.out]; kernel_rfl)) hHeld ?_
  go_frame
  refine held_take (i := 22) (v := (.agg (mnL (mnT a)).toArray)) rfl (by kernel_rfl) (by kernel_rfl) (by kernel_rfl) (fun _ _ _ h => h) (yieldsIf_load_row (by rfl) 39 (.tmp 4) rfl (g3 + 1) rfl 39 (mnL (mnT a)).toArray (0, 0) _ (fun w' hw' => row_below X4.out hw') Tryd.underlying39 rfl (by rw [AS.out]; kernel_rfl)) hHeld ?_
  go_frame
  refine wpAnyH_ready (rs := [23]) (by kernel_rfl) (by simp) (held_cons rfl (fun K hK => ?_) AllReadyH.nil)
  rw [if_pos (by rfl)]
  go_simp
  refine (samemn_true (mnT a) AO.out _).mono ?_
  rintro e v3 ⟨rfl, bb⟩
  have hv3 := hHeld.trans (bb.mono hHeld.size)
  clear bb hHeld
  go_wp2_with fail
  refine hK.out _ _ hv3 (fun hHeld => ?_)
  clear hK K hv3
  refine held_take (i := 24) (v := (.bool true)) rfl (by kernel_rfl) (by kernel_rfl) (by kernel_rfl) (fun _ _ _ h => h) (Or.inl ⟨by rfl, fun w' _ => by kernel_rfl⟩) hHeld ?_
  go_frame
  refine held_take (i := 25) (v := (.bool true)) rfl (by kernel_rfl) (by kernel_rfl) (by kernel_rfl) (fun _ _ _ h => h) (Or.inl ⟨by rfl, fun w' _ => by kernel_rfl⟩) hHeld ?_
  go_frame
  refine held_take (i := 26) (v := (.pointer (some ⟨a11, 0, none⟩))) rfl (by kernel_rfl) (by kernel_rfl) (by kernel_rfl) (fun _ _ _ h => h) (Or.inl ⟨by rfl, fun w' _ => by kernel_rfl⟩) hHeld ?_
  go_frame
  refine wpAnyH_ready (rs := [27]) (by kernel_rfl) (by simp) (held_cons rfl (fun K hK => ?_) AllReadyH.nil)
  rw [if_pos (by rfl)]
  go_simp
  refine (setlen_k _ a11 m11 _ (C16.out.below hHeld) 1 rfl).mono ?_
  rintro e v4 ⟨rfl, bb⟩
  have hv4 := hHeld.trans (bb.mono hHeld.size)
  clear bb hHeld
  go_wp2_with fail
  refine hK.out _ _ hv4 (fun hHeld => ?_)
  clear hK K hv4
  refine held_take (i := 28) (v := (.bool true)) rfl (by kernel_rfl) (by kernel_rfl) (by kernel_rfl) (fun _ _ _ h => h) (Or.inl ⟨by rfl, fun w' _ => by kernel_rfl⟩) hHeld ?_
  go_frame
  refine held_take (i := 29) (v := (.bool true)) rfl (by kernel_rfl) (by kernel_rfl) (by kernel_rfl) (fun _ _ _ h => h) (Or.inl ⟨by rfl, fun w' _ => by kernel_rfl⟩) hHeld ?_
  go_frame
  refine held_take (i := 30) (v := (.bool true)) rfl (by kernel_rfl) (by kernel_rfl) (by kernel_rfl) (fun _ _ _ h => h) (Or.inl ⟨by rfl, fun w' _ => by kernel_rfl⟩) hHeld ?_
  go_frame
  refine wpAnyH_ready (rs := [31]) (by kernel_rfl) (by simp) (held_cons rfl (fun K hK => ?_) AllReadyH.nil)
  rw [if_pos (by rfl)]
  go_simp
  refine (setlen_k _ g9 m14 _ (S16.out.below hHeld) 2 rfl).mono ?_
  rintro e v5 ⟨rfl, bb⟩
  have hv5 := hHeld.trans (bb.mono hHeld.size)
  clear bb hHeld
  go_wp2_with fail
  refine hK.out _ _ hv5 (fun hHeld => ?_)
  clear hK K hv5
  refine held_take (i := 32) (v := (.bool true)) rfl (by kernel_rfl) (by kernel_rfl) (by kernel_rfl) (fun _ _ _ h => h) (Or.inl ⟨by rfl, fun w' _ => by kernel_rfl⟩) hHeld ?_
  go_frame
  refine held_take (i := 33) (v := (.bool true)) rfl (by kernel_rfl) (by kernel_rfl) (by kernel_rfl) (fun _ _ _ h => h) (Or.inl ⟨by rfl, fun w' _ => by kernel_rfl⟩) hHeld ?_
  go_frame
  refine held_take (i := 34) (v := (.bool true)) rfl (by kernel_rfl) (by kernel_rfl) (by kernel_rfl) (fun _ _ _ h => h) (Or.inl ⟨by rfl, fun w' _ => by kernel_rfl⟩) hHeld ?_
  go_frame
  refine held_take (i := 35) (v := (.pointer (some ⟨a11, 0, none⟩))) rfl (by kernel_rfl) (by kernel_rfl) (by kernel_rfl) (fun _ _ _ h => h) (Or.inl ⟨by rfl, fun w' _ => by kernel_rfl⟩) hHeld ?_
  go_frame
  refine held_take (i := 37) (v := (.agg (sl.map bV).toArray)) rfl (by kernel_rfl) (by kernel_rfl) (by kernel_rfl) (fun _ _ _ h => h) (yieldsIf_load_row (by rfl) 24 (.tmp 14) rfl g14 rfl 24 (sl.map bV).toArray (0, 0) _ (fun w' hw' => row_below F14.out hw') Tryd.underlying24 rfl (by rw [LS'.out]; kernel_rfl)) hHeld ?_
  go_frame
  refine wpAnyH_ready (rs := [36]) (by kernel_rfl) (by simp) (held_cons rfl (fun K hK => ?_) AllReadyH.nil)
  rw [if_pos (by rfl)]
  go_simp
  refine (SM.out _ a11 m11 (C16.out.below hHeld) (K16.out.below hHeld)).mono ?_
  rintro e v6 ⟨rfl, bb⟩
  have hv6 := hHeld.trans (bb.mono hHeld.size)
  clear bb hHeld
  go_wp2_with fail
  refine hK.out _ _ hv6 (fun hHeld => ?_)
  clear hK K hv6
  refine wpAnyH_ready (rs := [38]) (by kernel_rfl) (by simp) (held_cons rfl (fun K hK => ?_) AllReadyH.nil)
  rw [if_pos (by rfl)]
  go_simp
  refine (same_true sl sl rfl LS.out _).mono ?_
  rintro e v7 ⟨rfl, bb⟩
  have hv7 := hHeld.trans (bb.mono hHeld.size)
  clear bb hHeld
  go_wp2_with fail
  refine hK.out _ _ hv7 (fun hHeld => ?_)
  clear hK K hv7
  refine held_take (i := 39) (v := (.bool true)) rfl (by kernel_rfl) (by kernel_rfl) (by kernel_rfl) (fun _ _ _ h => h) (Or.inl ⟨by rfl, fun w' _ => by kernel_rfl⟩) hHeld ?_
  go_frame
  refine held_take (i := 40) (v := (.bool true)) rfl (by kernel_rfl) (by kernel_rfl) (by kernel_rfl) (fun _ _ _ h => h) (Or.inl ⟨by rfl, fun w' _ => by kernel_rfl⟩) hHeld ?_
  go_frame
  refine held_take (i := 42) (v := (.pointer (some ⟨g3 + 1, 0, none⟩))) rfl (by kernel_rfl) (by kernel_rfl) (by kernel_rfl) (fun _ _ _ h => h) (Or.inl ⟨by rfl, fun w' _ => by kernel_rfl⟩) hHeld ?_
  go_frame
  refine held_take (i := 43) (v := (.int .u64 (za : Int))) rfl (by kernel_rfl) (by kernel_rfl) (by kernel_rfl) (fun _ _ _ h => h) (yieldsIf_load_one (by rfl) 37 (.tmp 103) rfl (g3 + 1) (0) rfl _ _ (fun w' hw' => CA.out _ _ (row_below X4.out hw')) Tryd.underlying37 rfl) hHeld ?_
  go_frame
  refine held_take (i := 44) (v := (.pointer (some ⟨g3 + 1 + 1, 0, none⟩))) rfl (by kernel_rfl) (by kernel_rfl) (by kernel_rfl) (fun _ _ _ h => h) (Or.inl ⟨by rfl, fun w' _ => by kernel_rfl⟩) hHeld ?_
  go_frame
  refine held_take (i := 45) (v := (.int .u64 (zb : Int))) rfl (by kernel_rfl) (by kernel_rfl) (by kernel_rfl) (fun _ _ _ h => h) (yieldsIf_load_one (by rfl) 37 (.tmp 105) rfl (g3 + 1 + 1) (0) rfl _ _ (fun w' hw' => CB.out _ _ (row_below X5.out hw')) Tryd.underlying37 rfl) hHeld ?_
  go_frame
  refine held_take (i := 46) (v := (.int .u64 ((za : Int) + (zb : Int)))) rfl (by kernel_rfl) (by kernel_rfl) (by kernel_rfl) (fun _ _ _ h => h) (Or.inl ⟨by rfl, fun w' _ => by go_simp; rw [IntKind.wrap_u64]; omega⟩) hHeld ?_
  go_frame
  refine wpAnyH_ready (rs := [41]) (by kernel_rfl) (by simp) (held_cons rfl (fun K hK => ?_) AllReadyH.nil)
  rw [if_pos (by rfl)]
  go_simp
  refine (TT.out _ (S16.out.below hHeld)).mono ?_
  rintro e v8 ⟨rfl, bb⟩
  have hv8 := hHeld.trans (bb.mono hHeld.size)
  clear bb hHeld
  go_wp2_with fail
  refine hK.out _ _ hv8 (fun hHeld => ?_)
  clear hK K hv8
  refine held_take (i := 47) (v := (.bool true)) rfl (by kernel_rfl) (by kernel_rfl) (by kernel_rfl) (fun _ _ _ h => h) (Or.inl ⟨by rfl, fun w' _ => by go_simp⟩) hHeld ?_
  go_frame
  refine held_take (i := 48) (v := (.bool true)) rfl (by kernel_rfl) (by kernel_rfl) (by kernel_rfl) (fun _ _ _ h => h) (Or.inl ⟨by rfl, fun w' _ => by kernel_rfl⟩) hHeld ?_
  go_frame
  refine held_take (i := 49) (v := (.bool true)) rfl (by kernel_rfl) (by kernel_rfl) (by kernel_rfl) (fun _ _ _ h => h) (Or.inl ⟨by rfl, fun w' _ => by kernel_rfl⟩) hHeld ?_
  go_frame
  refine wpAnyH_done (by kernel_rfl) ?_ _
  have BF := Lib.hid (B16.out.trans (hHeld.mono B16.out.size))
  clear hHeld
  go_wp2_with fail
  go_ret
  exact ⟨rfl, BF.out⟩
end Go.Proofs.YtlmfchcafhidoaaDoor.Sha

/-
  What a row that lists 25 errors of package api gives: each is there, each its own; a start that fits. No conditions.
-/
namespace Go.Proofs.YtlmfchcafhidoaaDoor.Sha
open Go Go.ChangeShapes Go.WideShapes Go.ChangeAt Go.RowKit
/-- The listed errors: name, place, text. -/
def errCnoList : List (String × Nat × List UInt8) := [("sargasso/api.ErrEnd", 4, [105, 116, 32, 101, 110, 100, 115, 32, 116, 111, 111, 32, 101, 97, 114, 108, 121]), ("sargasso/api.ErrShape", 5, [110, 111, 116, 32, 97, 115, 32, 105, 116, 32, 104, 97, 115, 32, 116, 111, 32, 98, 101]), ("sargasso/api.ErrLong", 6, [116, 111, 111, 32, 108, 111, 110, 103]), ("sargasso/api.ErrMany", 7, [116, 111, 111, 32, 109, 97, 110, 121, 44, 32, 111, 114, 32, 116, 111, 111, 32, 102, 101, 119]), ("sargasso/api.ErrValue", 0, [97, 110, 32, 97, 109, 111, 117, 110, 116, 32, 116, 104, 97, 116, 32, 99, 97, 110, 39, 116, 32, 98, 101]), ("sargasso/api.ErrTwice", 1, [111, 110, 101, 32, 116, 104, 105, 110, 103, 32, 116, 119, 105, 99, 101]), ("sargasso/api.ErrBase", 8, [110, 111, 32, 102, 105, 114, 115, 116, 32, 116, 114, 97, 110, 115, 97, 99, 116, 105, 111, 110, 32, 119, 104, 101, 114, 101, 32, 116, 104, 101, 114, 101, 32, 104, 97, 115, 32, 116, 111, 32, 98, 101, 32, 111, 110, 101, 44, 32, 111, 114, 32, 111, 110, 101, 32, 119, 104, 101, 114, 101, 32, 116, 104, 101, 114, 101, 32, 109, 97, 121, 32, 98, 101, 32, 110, 111, 110, 101]), ("sargasso/api.ErrRoot", 9, [97, 32, 114, 111, 111, 116, 32, 116, 104, 97, 116, 32, 100, 111, 101, 115, 32, 110, 111, 116, 32, 102, 105, 116]), ("sargasso/api.ErrKnown", 10, [107, 110, 111, 119, 110, 32, 97, 108, 114, 101, 97, 100, 121]), ("sargasso/api.ErrParent", 11, [110, 111, 32, 115, 117, 99, 104, 32, 112, 97, 114, 101, 110, 116]), ("sargasso/api.ErrInvalid", 12, [98, 101, 104, 105, 110, 100, 32, 119, 104, 97, 116, 32, 105, 115, 32, 110, 111, 116, 32, 118, 97, 108, 105, 100]), ("sargasso/api.ErrTime", 13, [97, 32, 116, 105, 109, 101, 32, 116, 104, 97, 116, 32, 105, 115, 32, 116, 111, 111, 32, 101, 97, 114, 108, 121]), ("sargasso/api.ErrMissing", 2, [97, 32, 99, 111, 105, 110, 32, 116, 104, 97, 116, 32, 105, 115, 32, 110, 111, 116, 32, 116, 104, 101, 114, 101]), ("sargasso/api.ErrKey", 14, [97, 32, 107, 101, 121, 32, 116, 104, 97, 116, 32, 100, 111, 101, 115, 32, 110, 111, 116, 32, 102, 105, 116]), ("sargasso/api.ErrYoung", 15, [97, 32, 99, 111, 105, 110, 32, 116, 104, 97, 116, 32, 105, 115, 32, 116, 111, 111, 32, 121, 111, 117, 110, 103]), ("sargasso/api.ErrEarly", 16, [116, 111, 111, 32, 101, 97, 114, 108, 121, 32, 116, 111, 32, 98, 101, 32, 116, 97, 107, 101, 110]), ("sargasso/api.ErrLess", 17, [108, 101, 115, 115, 32, 99, 111, 109, 101, 115, 32, 105, 110, 32, 116, 104, 97, 110, 32, 103, 111, 101, 115, 32, 111, 117, 116]), ("sargasso/api.ErrReward", 18, [109, 111, 114, 101, 32, 116, 104, 97, 110, 32, 116, 104, 101, 32, 114, 101, 119, 97, 114, 100]), ("sargasso/api.ErrClash", 19, [97, 32, 99, 111, 105, 110, 32, 116, 104, 97, 116, 32, 105, 115, 32, 115, 112, 101, 110, 116, 32, 105, 110, 32, 116, 104, 101, 32, 112, 111, 111, 108]), ("sargasso/api.ErrLimit", 20, [116, 111, 111, 32, 109, 97, 110, 121, 32, 116, 104, 97, 116, 32, 104, 97, 110, 103, 32, 116, 111, 103, 101, 116, 104, 101, 114]), ("sargasso/api.ErrFull", 21, [116, 104, 101, 114, 101, 32, 105, 115, 32, 110, 111, 32, 114, 111, 111, 109]), ("sargasso/api.ErrRange", 22, [97, 32, 110, 117, 109, 98, 101, 114, 32, 111, 117, 116, 32, 111, 102, 32, 105, 116, 115, 32, 114, 97, 110, 103, 101]), ("sargasso/api.ErrNone", 23, [116, 104, 101, 114, 101, 32, 105, 115, 32, 110, 111, 110, 101]), ("sargasso/api.ErrWord", 24, [110, 111, 32, 115, 117, 99, 104, 32, 119, 111, 114, 100]), ("sargasso/api.ErrNumber", 25, [110, 111, 116, 32, 97, 32, 110, 117, 109, 98, 101, 114])]
def errCnoRow (x : String × Nat × List UInt8) : String × DataW Unit := (x.1, .iface "*errors.errorString" (.ptr (.agg [.lit (.string x.2.2)])))
theorem errCno_laid : Rows.coinsOrderRow.laid = errCnoList.map errCnoRow := rfl
theorem errCno_globals : (errCnoList.all fun x => decide (Tryd.prog.globalNamed x.1 = some x.2.1) && decide ((Tryd.prog.globals[x.2.1]?).map (·.type) = some 49)) = true := by kernel_rfl
theorem errCno_star : "*" ++ "errors.errorString" = "*errors.errorString" := by decide
theorem errCno_ptr (u : TypeId) (h : Tryd.prog.typeName? 3 u = some "*errors.errorString") : u = 142 :=
  typeName_ptr_named (nm := "errors.errorString") (by rw [errCno_star]; kernel_rfl) (by kernel_rfl) (by decide) u (by rw [errCno_star]; exact h)
theorem errCno_cells : Tryd.prog.cellsOf 159 = 1 := by kernel_rfl
theorem errCno_cellsStr : Tryd.prog.cellsOf 9 = 1 := by kernel_rfl
def errCnoIs (W : World) (x : String × Nat × List UInt8) (a : Addr) : Prop :=
  W.cell? ⟨x.2.1, 0, none⟩ = some (.iface 142 (.pointer (some a))) ∧ (∃ s, W.cell? a = some (.string s) ∧ s.data.toList = x.2.2) ∧ ∃ c t, W.heap[a.block]? = some (.cells c t (0, 0))
set_option maxRecDepth 100000 in
theorem errCno_head {W : World} {x : String × Nat × List UInt8} {r : List (String × DataW Unit)} (hg : Tryd.prog.globalNamed x.1 = some x.2.1) (ht : (Tryd.prog.globals[x.2.1]?).map (·.type) = some 49) (h : laidMet Tryd.prog (errCnoRow x :: r) W) : ∃ a, errCnoIs W x a := by
  obtain ⟨a, s, h1, h2, h3, _⟩ := laid_sentinel h hg ht Tryd.underlying49 errCno_ptr Tryd.underlying142 Tryd.underlying159 rfl rfl Tryd.underlying9 errCno_cells errCno_cellsStr
  refine ⟨a, by simpa using World.var?_cell hg h1 0, ⟨s, h2, h3⟩, ?_⟩
  obtain ⟨ps, ⟨g0, t0, cs0, f0, p0, q0, hg0, ht0, hv0, hd0, _, e0⟩, _, hrows⟩ := h
  obtain rfl := Option.some.inj (hg.symm.trans hg0)
  obtain rfl := Option.some.inj (ht.symm.trans ht0)
  subst e0
  obtain ⟨l0⟩ := cs0
  have ok0 : ∀ u v, l0 = [.iface u v] → Value.okWide Tryd.prog W .any 0 u v := fun u v e => by
    subst e
    exact (hrows x.2.1 0 (by simp [MemPlace.row])).2 u v (by simpa using World.var?_cell hg hv0 0)
  obtain ⟨a0, s0, rfl, hc0, hs0, hz0, rfl⟩ := errorString_of_trod Tryd.underlying49 errCno_ptr Tryd.underlying142 Tryd.underlying159 rfl rfl Tryd.underlying9 errCno_cells errCno_cellsStr hd0 ok0
  have ea : a0 = a := by
    have := h1.symm.trans hv0
    simp at this
    exact this.symm
  rw [← ea]
  exact (hrows a0.block a0.off (by simp [MemPlace.row])).1
theorem errCno_all {W : World} (rest : List (String × DataW Unit)) : ∀ l : List (String × Nat × List UInt8), (∀ x ∈ l, Tryd.prog.globalNamed x.1 = some x.2.1 ∧ (Tryd.prog.globals[x.2.1]?).map (·.type) = some 49) → laidMet Tryd.prog (l.map errCnoRow ++ rest) W → (∃ E : Nat → Addr, ∀ i x, l[i]? = some x → errCnoIs W x (E i)) ∧ laidMet Tryd.prog rest W
  | [], _, h => ⟨⟨fun _ => ⟨0, 0, none⟩, fun i x h => by simp at h⟩, h⟩
  | x :: l, hg, h => by
    obtain ⟨⟨E, hE⟩, hrest⟩ := errCno_all rest l (fun y hy => hg y (List.mem_cons_of_mem _ hy)) (laidMet.tail h)
    obtain ⟨a, ha⟩ := errCno_head (hg x List.mem_cons_self).1 (hg x List.mem_cons_self).2 h
    refine ⟨⟨fun i => match i with | 0 => a | k + 1 => E k, fun i y hy => ?_⟩, hrest⟩
    cases i with
    | zero => simp at hy; subst hy; exact ha
    | succ k => exact hE k y (by simpa using hy)
theorem errCno_inj : ∀ i j : Fin 25, (errCnoList.map (·.2.2)).getD i.val [] = (errCnoList.map (·.2.2)).getD j.val [] → i = j := by decide +kernel
set_option maxRecDepth 100000 in
theorem errCno_errs {W : World} (h : laidMetH Tryd.prog Rows.coinsOrderRow.laid W) : ∃ E, Errs W E := by
  have h' : laidMet Tryd.prog (errCnoList.map errCnoRow ++ []) W := h
  obtain ⟨⟨E, hE⟩, _⟩ := errCno_all _ errCnoList (fun x hx => by
    have := List.all_eq_true.1 errCno_globals x hx
    simp only [Bool.and_eq_true, decide_eq_true_eq] at this
    exact this) h'
  have hl : errCnoList.length = 25 := rfl
  have get : ∀ i (hi : i < 25), errCnoIs W (errCnoList[i]'(by rw [hl]; exact hi)) (E i) := fun i hi => hE i _ (List.getElem?_eq_getElem (by rw [hl]; exact hi))
  refine ⟨E, fun i hi => ?_, fun i j hi hj e => ?_⟩
  · obtain ⟨h1, _, h3⟩ := get i hi
    refine ⟨?_, h3⟩
    have eg : errG.getD i 0 = (errCnoList[i]'(by rw [hl]; exact hi)).2.1 := by
      have : errG = errCnoList.map (·.2.1) := rfl
      rw [this]
      simp [List.getD, List.getElem?_eq_getElem (show i < errCnoList.length by rw [hl]; exact hi)]
    rw [eg]
    exact h1
  · obtain ⟨_, ⟨s, hs, ht⟩, _⟩ := get i hi
    obtain ⟨_, ⟨s', hs', ht'⟩, _⟩ := get j hj
    rw [e] at hs
    have es := Option.some.inj (hs.symm.trans hs')
    simp at es
    rw [es] at ht
    have := errCno_inj ⟨i, hi⟩ ⟨j, hj⟩ (by
      simp only [List.getD, List.getElem?_map]
      rw [List.getElem?_eq_getElem (show i < errCnoList.length by rw [hl]; exact hi), List.getElem?_eq_getElem (show j < errCnoList.length by rw [hl]; exact hj)]
      exact ht.symm.trans ht')
    exact congrArg Fin.val this
/-- A WORLD FOR THE WITNESS: the settled one, each listed error as its initialiser lays it. -/
noncomputable def errCnoLow : Nat := (World.holding Tryd.prog default ⟨#[], #[], []⟩).heap.size
noncomputable def errCnoWorld (os : Os) : World :=
  let w0 := World.holding Tryd.prog os ⟨(errCnoList.map fun x => Obj.cells #[.string ⟨x.2.2.toArray⟩] 159).toArray, #[], []⟩
  { w0 with heap := (errCnoList.zipIdx).foldl (fun h x => h.modify x.1.2.1 fun
      | .cells _ t frozen => .cells #[.iface 142 (.pointer (some ⟨errCnoLow + x.2, 0, none⟩))] t frozen
      | o => o) w0.heap }
end Go.Proofs.YtlmfchcafhidoaaDoor.Sha

/-
  The statements' own order of digests, LessHash. Nothing that was there turns. Condition: digests of 32 bytes.
-/
namespace Go.Proofs.YtlmfchcafhidoaaDoor.Sha
open Go Go.RowKit
theorem lessL_at : ∀ (k : Nat) (l m : List UInt8), (∀ j, j < k → l.getD j 0 = m.getD j 0) → k < l.length → k < m.length → l.getD k 0 ≠ m.getD k 0 → lessL l m = decide (l.getD k 0 < m.getD k 0)
  | 0, x :: l, y :: m, _, _, _, h => by
    have h' : x ≠ y := h
    rw [less_cons, decide_eq_false h']
    simp
  | k + 1, x :: l, y :: m, hp, hl, hm, h => by
    have h0 : x = y := hp 0 (by omega)
    subst h0
    rw [less_cons, lessL_at k l m (fun j hj => hp (j + 1) (by omega)) (by simpa using hl) (by simpa using hm) h]
    simp
def LsInv (x y : List UInt8) (w : World) (i : Value) (wr : World) : Prop :=
  ∃ k : Nat, k ≤ 32 ∧ i = .int .i64 k ∧ (∀ j, j < k → x.getD j 0 = y.getD j 0) ∧ wr.heap[w.heap.size]? = some (.cells (x.map bV).toArray 24 (0, 0)) ∧ wr.heap[w.heap.size + 1]? = some (.cells (y.map bV).toArray 24 (0, 0)) ∧ Below w.heap.size w wr
theorem bv_lt (x y : UInt8) : decide (bv x < bv y) = decide (x < y) := by
  unfold bv
  by_cases h : x < y
  · rw [decide_eq_true h, decide_eq_true (by rw [UInt8.lt_iff_toNat_lt] at h; omega)]
  · rw [decide_eq_false h, decide_eq_false (by rw [UInt8.lt_iff_toNat_lt] at h; omega)]
set_option maxRecDepth 100000 in
theorem ref_less (x y : List UInt8) (hx : x.length = 32) (hy : y.length = 32) (w : World) :
    Calls Tryd.prog 40 #[.agg (x.map bV).toArray, .agg (y.map bV).toArray] w (SmPost (lessL x y) w) := by
  have HX := Lib.hid hx
  have HY := Lib.hid hy
  clear hx hy
  go_enter Tryd.func40, Tryd.ntmps40
  go_wp2_with fail
  go_loopw [5] (fun i wr => LsInv x y w i wr) (fun i _ => 32 - (intOf i).toNat)
  case atStart => exact ⟨0, by omega, rfl, fun j hj => by omega, heap_alloc2_old _ _ _, heap_alloc2_new _ _ _, ((Below.refl _ _).alloc (Nat.le_refl _) _).alloc (by simp) _⟩
  case round =>
    obtain ⟨k, hk, rfl, he, h1, h2, hb⟩ := hrel
    have H1 := Lib.hid h1
    have H2 := Lib.hid h2
    have HE := Lib.hid he
    have HB := Lib.hid hb
    by_cases hlt : k < 32
    · obtain ⟨a, ha⟩ : ∃ a, a = x.getD k 0 := ⟨_, rfl⟩
      obtain ⟨b, hb2⟩ : ∃ b, b = y.getD k 0 := ⟨_, rfl⟩
      have c1 : wr.cell? ⟨w.heap.size, k, none⟩ = some (.int .u8 (bv a)) := by rw [cell_of_row _ _ _ _ _ _ h1, bV_get _ _ (by rw [HX.out]; exact hlt), ha]
      have c2 : wr.cell? ⟨w.heap.size + 1, k, none⟩ = some (.int .u8 (bv b)) := by rw [cell_of_row _ _ _ _ _ _ h2, bV_get _ _ (by rw [HY.out]; exact hlt), hb2]
      have p0 : 0 ≤ (k : Int) := by omega
      have q0 : (k : Int) < 32 := by omega
      have HA := Lib.hid ha
      have HB2 := Lib.hid hb2
      clear h1 h2 he hb ha hb2
      by_cases hab : a = b
      · have ht : (bv a == bv b) = true := by rw [bv_beq, decide_eq_true hab]
        have ht' : (bv a != bv b) = false := by simp [bne, ht]
        have HAB := Lib.hid hab
        clear hab
        go_wp2_with fail
        go_quiet (fail)
        go_wp2_with fail
        go_roundw
        case rel =>
          refine ⟨k + 1, by omega, by go_num, fun j hj => ?_, H1.out, H2.out, below_drewN HB.out _⟩
          by_cases hj2 : j < k
          · exact HE.out j hj2
          · obtain rfl : j = k := by omega
            rw [← HA.out, ← HB2.out, HAB.out]
        case measure => simp [intOf]; omega
      · have ht : (bv a == bv b) = false := by rw [bv_beq, decide_eq_false hab]
        have ht' : (bv a != bv b) = true := by simp [bne, ht]
        have hless : lessL x y = decide (a < b) := by
          have h := lessL_at k x y HE.out (by rw [HX.out]; exact hlt) (by rw [HY.out]; exact hlt) (by rw [← HA.out, ← HB2.out]; exact hab)
          rw [← HA.out, ← HB2.out] at h
          exact h
        have HLS := Lib.hid hless
        clear hab hless
        go_wp2_with fail
        go_quiet (fail)
        go_wp2_with fail
        generalize hwk : World.drewN _ _ = wk
        have d1 : wk.cell? ⟨w.heap.size, k, none⟩ = some (.int .u8 (bv a)) := by rw [← hwk]; exact c1
        have d2 : wk.cell? ⟨w.heap.size + 1, k, none⟩ = some (.int .u8 (bv b)) := by rw [← hwk]; exact c2
        have HW := Lib.hid (show Below w.heap.size w wk by rw [← hwk]; exact below_drewN HB.out _)
        clear hwk c1 c2
        go_quiet (fail)
        go_wp2_with fail
        go_ret
        exact ⟨by rw [HLS.out, ← bv_lt]; rfl, below_drewN HW.out _⟩
    · have hge : ¬ (k : Int) < 32 := by omega
      have hxy : x = y := list_eq_of HX.out HY.out (fun j hj => he j (by omega))
      have HXY := Lib.hid hxy
      clear h1 h2 he hb hxy
      go_wp2_with fail
      go_ret
      exact ⟨by rw [HXY.out, less_self]; rfl, HB.out⟩
end Go.Proofs.YtlmfchcafhidoaaDoor.Sha

/-
  The statements' own order of places. Nothing that was there turns. Condition: digests of 32 bytes.
-/
namespace Go.Proofs.YtlmfchcafhidoaaDoor.Sha
open Go Go.RowKit
set_option maxRecDepth 100000 in
theorem rlesspt_any (h h' : List UInt8) (n n' : Nat) (hh : h.length = 32) (hh' : h'.length = 32) (b : Bool) (hb : b = lessPt h n h' n') (w : World) :
    Calls Tryd.prog 26 #[.agg (ptL h n).toArray, .agg (ptL h' n').toArray] w fun e w' => e = .returned (.bool b) ∧ Below w.heap.size w w' := by
  have hl : (h.map bV).length = 32 := by simp [hh]
  have hl' : (h'.map bV).length = 32 := by simp [hh']
  have HL := Lib.hid hl
  have HL' := Lib.hid hl'
  have HH := Lib.hid hh
  have HH' := Lib.hid hh'
  have HB := Lib.hid hb
  clear hl hl' hh hh' hb
  go_enter Tryd.func26, Tryd.ntmps26
  go_upto_region 1 with fail
  obtain ⟨B, F, F'⟩ := pt_boxes w h h' n n' 27
  generalize hw1 : World.alloc _ _ = w1
  rw [hw1] at B F F'
  have B := Lib.hid B
  have F := Lib.hid F
  have F' := Lib.hid F'
  clear hw1
  go_wp2_with ((with_reducible show wpList _ _ _ _ _ _); first | (refine wpList_load_mid rfl 24 (.tmp 5) rfl w.heap.size 0 rfl (h.map bV) _ (pt_hash F.out) Tryd.underlying24 rfl (by rw [HL.out]; kernel_rfl) ?_; go_frame) | (refine wpList_load_mid rfl 24 (.tmp 7) rfl (w.heap.size + 1) 0 rfl (h'.map bV) _ (pt_hash F'.out) Tryd.underlying24 rfl (by rw [HL'.out]; kernel_rfl) ?_; go_frame))
  refine (same_b h h' HH.out HH'.out _ rfl _).mono ?_
  rintro e w2 ⟨rfl, hb2⟩
  have c : w2.cell? ⟨w.heap.size, 32, none⟩ = some (.int .u32 (n : Int)) := pt_num HH.out (row_below F.out hb2)
  have c' : w2.cell? ⟨w.heap.size + 1, 32, none⟩ = some (.int .u32 (n' : Int)) := pt_num HH'.out (row_below F'.out hb2)
  have B2 := Lib.hid (B.out.trans (hb2.mono B.out.size))
  have F2 := Lib.hid (row_below F.out hb2)
  have F2' := Lib.hid (row_below F'.out hb2)
  clear hb2 F F' B
  by_cases he : h = h'
  · rw [decide_eq_true he]
    have HE := Lib.hid he
    clear he
    go_wp2_with fail
    go_ret
    exact ⟨by rw [HB.out, lessPt, if_pos HE.out]; congr 2, B2.out⟩
  · rw [decide_eq_false he]
    have HE := Lib.hid he
    clear he c c'
    go_wp2_with ((with_reducible show wpList _ _ _ _ _ _); first | (refine wpList_load_mid rfl 24 (.tmp 15) rfl w.heap.size 0 rfl (h.map bV) _ (pt_hash F2.out) Tryd.underlying24 rfl (by rw [HL.out]; kernel_rfl) ?_; go_frame) | (refine wpList_load_mid rfl 24 (.tmp 17) rfl (w.heap.size + 1) 0 rfl (h'.map bV) _ (pt_hash F2'.out) Tryd.underlying24 rfl (by rw [HL'.out]; kernel_rfl) ?_; go_frame))
    refine (ref_less h h' HH.out HH'.out _).mono ?_
    rintro e w3 ⟨rfl, hb3⟩
    have B3 := Lib.hid (B2.out.trans (hb3.mono B2.out.size))
    clear hb3
    go_wp2_with fail
    go_ret
    exact ⟨by rw [HB.out, lessPt, if_neg HE.out]; rfl, B3.out⟩
end Go.Proofs.YtlmfchcafhidoaaDoor.Sha
