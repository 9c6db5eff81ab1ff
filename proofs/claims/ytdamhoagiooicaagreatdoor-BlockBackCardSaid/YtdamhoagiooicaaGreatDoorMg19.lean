/-
  Texts of this proof joined into one file: BlEach, BlCheck, BlConcat, MkClimb0. What each holds, and under which conditions, its own first sentence tells.
-/
import Derived.IntWalk
import Derived.Deep.RegionWith
import Derived.Test.YtdamhoagiooicaaGreatDoorMg16
import Derived.Test.YtdamhoagiooicaaGreatDoorMg14
import Derived.Test.YtdamhoagiooicaaGreatDoorMg10
import Derived.Test.YtdamhoagiooicaaGreatDoorMg03
import Derived.Test.YtdamhoagiooicaaGreatDoorMg15
import Derived.Test.YtdamhoagiooicaaGreatDoorMg09
import Derived.Test.YtdamhoagiooicaaGreatDoorMg18
import Derived.Test.YtdamhoagiooicaaGreatDoorMg06
/-
  Package block tells what is amiss with one of a block's transactions, and where. Nothing that was there turns. Conditions: a few transactions that lie in memory; the errors are there.
-/
namespace Go.Proofs.YtdamhoagiooicaaGreatDoor.Sha
open Go Go.RowKit
def EaInv (n : Nat) (P : Nat → Prop) (w1 : World) (vi : Value) (wr : World) : Prop := ∃ k : Nat, k ≤ n ∧ vi = .int .i64 k ∧ P k ∧ Below w1.heap.size w1 wr
set_option maxHeartbeats 2000000 in
set_option maxRecDepth 100000 in
theorem bleach_any (E : Nat → Addr) (l : List TTx) (v : Value) (w : World) (h1 : TxsAt w v l) (hs : ∀ t ∈ l, TxSmall t) (hl : l.length ≤ 1000) (hE : Er6 w E) :
    Calls Tryz.prog 54 #[v] w fun e w' => ∃ u, e = .returned u ∧ FltV w' E u (eachR l) ∧ Below w.heap.size w w' := by
  obtain ⟨sp, cap, rfl⟩ := h1.shape
  obtain ⟨n, hn⟩ : ∃ n, n = l.length := ⟨_, rfl⟩
  rw [← hn] at h1 ⊢
  have HT := Lib.hid h1
  have NN := Lib.hid hn
  have TS := Lib.hid hs
  have HE := Lib.hid hE
  have bn : n ≤ 1000 := by rw [hn]; exact hl
  have B0 : Hid (Below w.heap.size w w) := Below.refl _ _
  clear h1 hn hs hl hE
  go_enter Tryz.func54, Tryz.ntmps54
  go_wp2_with fail
  go_loopw [10] (fun vi wr => EaInv n (fun k => ∀ (j : Nat) (u : TTx), j < k → l[j]? = some u → checkC u = 0) w vi wr) (fun i _ => n - (intOf i).toNat)
  case atStart => exact ⟨0, by omega, rfl, fun j u hj => by omega, Below.refl _ _⟩
  case round =>
    obtain ⟨k, hk, rfl, hp, B⟩ := hrel
    have B := Lib.hid B
    have HP := Lib.hid hp
    clear hp
    by_cases hlt : k < n
    · skip
      obtain ⟨b, o, hs1, _, hg⟩ := HT.out.get (by omega)
      obtain ⟨t, hgt⟩ : ∃ t, l[k]? = some t := ⟨_, List.getElem?_eq_getElem (by have := NN.out; omega)⟩
      obtain ⟨iv, ov, hr, hta⟩ := hg k t hgt
      have LC : Hid ((txL t iv ov).length = 4) := rfl
      have LC' : Hid ((txL t iv ov).toArray.size = 4) := rfl
      have ONE : Hid ((txL t iv ov).toArray.all (·.oneCell') = true) := by
        obtain ⟨_, iv', ov', e, h1, h2⟩ := hta
        have e : txL t iv ov = txL t iv' ov' := by simpa using e
        rw [e]
        exact tx_one h1 h2
      obtain ⟨ct, hct⟩ : ∃ ct, ct = txL t iv ov := ⟨_, rfl⟩
      rw [← hct] at hr hta LC LC' ONE
      have R := Lib.hid (range_below (range_below hr B0.out) B.out)
      have TW := Lib.hid hta
      have TA : Hid (∀ W, Below wr.heap.size wr W → TxAt W (.agg ct.toArray) t) := fun W hW => ((hta.below B0.out).below B.out).below hW
      have GT := Lib.hid hgt
      have p0 : 0 ≤ (k : Int) := by omega
      have q0 : (k : Int) < (n : Int) := by omega
      subst hs1
      clear hg hgt hr hta hct
      obtain ⟨g5, hg5⟩ : ∃ g5, g5 = wr.heap.size := ⟨_, rfl⟩
      obtain ⟨_, f2, f3, f4⟩ := fill_setup (Below.refl wr.heap.size wr) [nV 0, .slice none 0 0, .slice none 0 0, nV 0].toArray ct.toArray 66
      go_upto_region 4 with ((with_reducible show wpList _ _ _ _ _ _); first | (refine wpList_load_mid rfl 66 (.tmp 13) rfl b (o + k * 4) rfl ct _ R.out Tryz.underlying66 rfl (by rw [LC.out]; kernel_rfl) ?_; go_frame) | (refine wpList_store_row rfl 66 (.tmp 4) (.tmp 14) rfl wr.heap.size ct.toArray rfl rfl 66 _ (heap_alloc_new _ _) (by rw [LC'.out]; kernel_rfl) (by rw [LC'.out]; rfl) ONE.out ?_; go_frame))
      rw [← hg5] at f2 f3 f4 ⊢
      generalize hw5 : World.setRow _ _ _ = w5
      have e5 : World.setRow (wr.alloc (.cells [nV 0, .slice none 0 0, .slice none 0 0, nV 0].toArray 66)) g5 ct.toArray = w5 := hw5
      rw [e5] at f2 f4
      rw [hg5] at f4
      have F5 := Lib.hid f2
      have N5 := Lib.hid f4
      have B5 := Lib.hid (B.out.trans (f4.mono B.out.size))
      have G5 := Lib.hid hg5
      clear f2 f3 f4 hg5 hw5 e5
      obtain ⟨c, hc⟩ : ∃ c, c = checkC t := ⟨_, rfl⟩
      have TSM := Lib.hid (TS.out t (List.mem_of_getElem? GT.out))
      have CK : Hid (Calls Tryz.prog 93 #[.agg ct.toArray] w5 fun e w' => e = .returned (errV E c) ∧ Below w5.heap.size w5 w') := check_all E t _ w5 c hc (HE.out.below B5.out) (TA.out _ N5.out) TSM.out
      have HC := Lib.hid hc
      clear hc
      cases c with
      | zero =>
        have CK2 : Hid (Calls Tryz.prog 93 #[.agg ct.toArray] w5 fun e w' => e = .returned .nilIface ∧ Below w5.heap.size w5 w') := CK.out
        go_wp2_with (first | ((with_reducible show wpList _ _ _ _ _ _); (refine wpList_load_row rfl 66 (.tmp 4) rfl g5 rfl 66 ct.toArray (0, 0) _ F5.out Tryz.underlying66 rfl (by rw [LC'.out]; kernel_rfl) ?_; go_frame)) | (go_at_call 93; refine CK2.out.mono ?_; rintro e w6 ⟨rfl, hb6⟩; have B6 := Lib.hid (B5.out.trans (hb6.mono B5.out.size)); clear hb6))
        go_roundw
        case rel =>
          refine ⟨k + 1, by omega, by go_num, fun j u hj hu => ?_, B6.out⟩
          by_cases hjk : j < k
          · exact HP.out j u hjk hu
          · obtain rfl : j = k := by omega
            rw [GT.out] at hu
            cases hu
            exact HC.out.symm
        case measure => simp [intOf]; omega
      | succ q =>
        have CK2 : Hid (Calls Tryz.prog 93 #[.agg ct.toArray] w5 fun e w' => e = .returned (.iface 176 (.pointer (some (E q)))) ∧ Below w5.heap.size w5 w') := CK.out
        go_wp2_with (first | ((with_reducible show wpList _ _ _ _ _ _); first | (refine wpList_load_row rfl 66 (.tmp 4) rfl g5 rfl 66 ct.toArray (0, 0) _ F5.out Tryz.underlying66 rfl (by rw [LC'.out]; kernel_rfl) ?_; go_frame) | (refine wpList_buildTo rfl 130 _ rfl _ rfl #[.int .i64 (k : Int), .iface 176 (.pointer (some (E q)))] (by kernel_rfl) ?_; go_frame)) | (go_at_call 93; refine CK2.out.mono ?_; rintro e w6 ⟨rfl, hb6⟩; have B6 := Lib.hid (B5.out.trans (hb6.mono B5.out.size)); clear hb6))
        go_ret
        refine ⟨_, rfl, .inr ⟨q, k, w6.heap.size, ?_, rfl, heap_alloc_new _ _⟩, B6.out.alloc B6.out.size _⟩
        rw [eachR_chk HP.out GT.out (by rw [← HC.out]; omega), HC.out]
    · have hkn : k = n := by omega
      have hge : ¬ (k : Int) < (n : Int) := by omega
      have H0 : Hid (∀ (j : Nat) (u : TTx), l[j]? = some u → checkC u = 0) := fun j u hu => HP.out j u (by have := (List.getElem?_eq_some_iff.1 hu).1; have := NN.out; omega) hu
      clear hkn
      obtain ⟨wo, rfl⟩ : ∃ wo : World, wo = wr := ⟨_, rfl⟩
      have BO := Lib.hid B.out
      clear B HP
      go_wp2_with fail
      go_loopw [27] (fun vi wr => EaInv n (fun k => ∀ (j : Nat) (u : TTx), j < k → l[j]? = some u → baseB u = decide (j = 0)) w vi wr) (fun i _ => n - (intOf i).toNat)
      case atStart => exact ⟨0, by omega, rfl, fun j u hj => by omega, BO.out⟩
      case round =>
        clear BO hlt hge hk
        obtain ⟨k, hk, rfl, hp, B⟩ := hrel
        have B := Lib.hid B
        have HP := Lib.hid hp
        clear hp
        by_cases hlt : k < n
        · skip
          obtain ⟨b, o, hs1, _, hg⟩ := HT.out.get (by omega)
          obtain ⟨t, hgt⟩ : ∃ t, l[k]? = some t := ⟨_, List.getElem?_eq_getElem (by have := NN.out; omega)⟩
          obtain ⟨iv, ov, hr, hta⟩ := hg k t hgt
          have LC : Hid ((txL t iv ov).length = 4) := rfl
          have LC' : Hid ((txL t iv ov).toArray.size = 4) := rfl
          have ONE : Hid ((txL t iv ov).toArray.all (·.oneCell') = true) := by
            obtain ⟨_, iv', ov', e, h1, h2⟩ := hta
            have e : txL t iv ov = txL t iv' ov' := by simpa using e
            rw [e]
            exact tx_one h1 h2
          obtain ⟨ct, hct⟩ : ∃ ct, ct = txL t iv ov := ⟨_, rfl⟩
          rw [← hct] at hr hta LC LC' ONE
          have R := Lib.hid (range_below (range_below hr B0.out) B.out)
          have TW := Lib.hid hta
          have TA : Hid (∀ W, Below wr.heap.size wr W → TxAt W (.agg ct.toArray) t) := fun W hW => ((hta.below B0.out).below B.out).below hW
          have GT := Lib.hid hgt
          have p0 : 0 ≤ (k : Int) := by omega
          have q0 : (k : Int) < (n : Int) := by omega
          subst hs1
          clear hg hgt hr hta hct
          obtain ⟨g5, hg5⟩ : ∃ g5, g5 = wr.heap.size := ⟨_, rfl⟩
          obtain ⟨_, f2, f3, f4⟩ := fill_setup (Below.refl wr.heap.size wr) [nV 0, .slice none 0 0, .slice none 0 0, nV 0].toArray ct.toArray 66
          go_upto_region 11 with ((with_reducible show wpList _ _ _ _ _ _); first | (refine wpList_load_mid rfl 66 (.tmp 30) rfl b (o + k * 4) rfl ct _ R.out Tryz.underlying66 rfl (by rw [LC.out]; kernel_rfl) ?_; go_frame) | (refine wpList_store_row rfl 66 (.tmp 7) (.tmp 31) rfl wr.heap.size ct.toArray rfl rfl 66 _ (heap_alloc_new _ _) (by rw [LC'.out]; kernel_rfl) (by rw [LC'.out]; rfl) ONE.out ?_; go_frame))
          rw [← hg5] at f2 f3 f4 ⊢
          generalize hw5 : World.setRow _ _ _ = w5
          have e5 : World.setRow (wr.alloc (.cells [nV 0, .slice none 0 0, .slice none 0 0, nV 0].toArray 66)) g5 ct.toArray = w5 := hw5
          rw [e5] at f2 f4
          rw [hg5] at f4
          have F5 := Lib.hid f2
          have N5 := Lib.hid f4
          have B5 := Lib.hid (B.out.trans (f4.mono B.out.size))
          have G5 := Lib.hid hg5
          clear f2 f3 f4 hg5 hw5 e5
          obtain ⟨c, hc⟩ : ∃ c, c = baseB t := ⟨_, rfl⟩
          have CK : Hid (Calls Tryz.prog 94 #[.agg ct.toArray] w5 fun e w' => e = .returned (.bool c) ∧ Below w5.heap.size w5 w') := base_all t _ w5 c hc (TA.out _ N5.out) (TS.out t (List.mem_of_getElem? GT.out))
          have HC := Lib.hid hc
          obtain ⟨d, hd⟩ : ∃ d, d = decide (k = 0) := ⟨_, rfl⟩
          have e1 : ((k : Int) == 0) = d := by rw [hd, Bool.eq_iff_iff, beq_iff_eq, decide_eq_true_eq]; omega
          have HD := Lib.hid hd
          clear hc hd
          have q7 : ∀ W, Below w5.heap.size w5 W → W.cell? ⟨6, 0, none⟩ = some (.iface 176 (.pointer (some (E 6)))) := fun W hW => ((HE.out.below B5.out).below hW) 6 (by omega)
          have Q7 := Lib.hid q7
          clear q7
          by_cases hcd : c = d
          · subst hcd
            have e2 : (c != c) = false := by simp
            go_wp2_with (first | ((with_reducible show wpList _ _ _ _ _ _); (refine wpList_load_row rfl 66 (.tmp 7) rfl g5 rfl 66 ct.toArray (0, 0) _ F5.out Tryz.underlying66 rfl (by rw [LC'.out]; kernel_rfl) ?_; go_frame)) | (go_at_call 94; refine CK.out.mono ?_; rintro e w6 ⟨rfl, hb6⟩; have B6 := Lib.hid (B5.out.trans (hb6.mono B5.out.size)); clear hb6))
            go_roundw
            case rel =>
              refine ⟨k + 1, by omega, by go_num, fun j u hj hu => ?_, B6.out⟩
              by_cases hjk : j < k
              · exact HP.out j u hjk hu
              · obtain rfl : j = k := by omega
                rw [GT.out] at hu
                cases hu
                rw [← HC.out, HD.out]
            case measure => simp [intOf]; omega
          · have HCD := Lib.hid hcd
            obtain ⟨rfl, rfl⟩ | ⟨rfl, rfl⟩ : (c = true ∧ d = false) ∨ (c = false ∧ d = true) := by cases c <;> cases d <;> simp_all
            all_goals
              clear hcd
              go_wp2_with (first | ((with_reducible show wpList _ _ _ _ _ _); first | (refine wpList_load_row rfl 66 (.tmp 7) rfl g5 rfl 66 ct.toArray (0, 0) _ F5.out Tryz.underlying66 rfl (by rw [LC'.out]; kernel_rfl) ?_; go_frame) | (refine wpList_buildTo rfl 130 _ rfl _ rfl #[.int .i64 (k : Int), .iface 176 (.pointer (some (E 6)))] (by kernel_rfl) ?_; go_frame)) | (go_at_call 94; refine CK.out.mono ?_; rintro e w6 ⟨rfl, hb6⟩; have B6 := Lib.hid (B5.out.trans (hb6.mono B5.out.size)); have q8 := Q7.out w6 hb6; clear hb6))
              go_ret
              refine ⟨_, rfl, .inr ⟨6, k, w6.heap.size, ?_, rfl, heap_alloc_new _ _⟩, B6.out.alloc B6.out.size _⟩
              rw [eachR_bas H0.out HP.out GT.out (by rw [← HC.out, ← HD.out]; exact HCD.out)]
        · have hkn : k = n := by omega
          have hge : ¬ (k : Int) < (n : Int) := by omega
          have H1 : Hid (∀ (j : Nat) (u : TTx), l[j]? = some u → baseB u = decide (j = 0)) := fun j u hu => HP.out j u (by have := (List.getElem?_eq_some_iff.1 hu).1; have := NN.out; omega) hu
          clear hkn
          go_wp2_with fail
          go_ret
          exact ⟨_, rfl, .inl (by rw [eachR_fine H0.out H1.out]; exact ⟨rfl, rfl⟩), B.out⟩
end Go.Proofs.YtdamhoagiooicaaGreatDoor.Sha

/-
  Package block tells what is amiss with a block, and where. Nothing that was there turns. Conditions: a block of a few transactions that lies in memory; the errors and the table are there.
-/
namespace Go.Proofs.YtdamhoagiooicaaGreatDoor.Sha
open Go Go.RowKit
set_option maxHeartbeats 4000000 in
set_option maxRecDepth 100000 in
theorem blcheck_any (E : Nat → Addr) (x : TBlk) (v : Value) (w : World) (h1 : BlkAt w v x) (hs : BlkSmall x) (hk : KTab w) (hE : ErB w E) :
    Calls Tryz.prog 22 #[v] w fun e w' => ∃ u, e = .returned u ∧ FltV w' E u (blkR x) ∧ Below w.heap.size w w' := by
  have HK := Lib.hid hk
  have HE := Lib.hid hE
  have SZL := Lib.hid (hs.len h1.1)
  clear hk hE
  obtain ⟨hh, tv, rfl, ht⟩ := h1
  obtain ⟨sp, cap, rfl⟩ := ht.shape
  obtain ⟨n, hn⟩ : ∃ n, n = x.txs.length := ⟨_, rfl⟩
  rw [← hn] at ht ⊢
  have hcap : n ≤ cap := ht.len.2
  obtain ⟨cs, hcs⟩ : ∃ cs, cs = blL x.head (.slice sp n cap) := ⟨_, rfl⟩
  rw [← hcs]
  have CS := Lib.hid hcs
  have LCS : Hid (cs.length = 69) := by show _ = _; rw [hcs]; exact blL_length hh _
  have LCS' : Hid (cs.toArray.size = 69) := by show _ = _; rw [hcs]; exact blL_size hh _
  have BV : Hid (∀ W, Below w.heap.size w W → BlkAt W (.agg cs.toArray) x) := fun W hW => by rw [hcs]; exact ⟨hh, _, rfl, ht.below hW⟩
  have HH := Lib.hid hh
  have HT := Lib.hid ht
  have NN := Lib.hid hn
  have TS := Lib.hid hs
  have bn : n ≤ 1000 := by rw [hn]; exact hs.2
  clear hs
  clear hcs hh ht hn
  go_enter Tryz.func22, Tryz.ntmps22
  go_upto_region 1 with fail
  have f0 := heap_alloc_new w (.cells cs.toArray 29 (0, 0))
  have b0 := (Below.refl w.heap.size w).alloc (Nat.le_refl _) (.cells cs.toArray 29 (0, 0))
  generalize hw1 : World.alloc _ _ = w1
  have e1 : w.alloc (.cells cs.toArray 29 (0, 0)) = w1 := hw1
  rw [e1] at f0 b0
  have k0 := f0
  rw [CS.out] at k0
  have K : Hid (BlBox w1 w.heap.size x.head (.slice sp n cap)) := ⟨k0⟩
  have F0 := Lib.hid f0
  have B0 := Lib.hid b0
  clear hw1 e1 f0 b0 k0
  obtain ⟨wk, hwk⟩ : ∃ wk, wk = x.head.work := ⟨_, rfl⟩
  obtain ⟨ce, hce⟩ : ∃ ce, ce = if workB wk then Value.iface 176 (.pointer (some (E 21))) else .nilIface := ⟨_, rfl⟩
  have HC : Hid (Calls Tryz.prog 53 #[.agg (hdL x.head).toArray] w1 fun e w' => e = .returned ce ∧ Below w1.heap.size w1 w') :=
    check_hd x.head HH.out w1 (E 21) ((HE.out.below B0.out) 21 (by omega)) ce (by rw [hce, hwk])
  have HR : Hid (w1.rangeAt w.heap.size 0 (hdL x.head)) := K.out.head
  have HL : Hid ((hdL x.head).length = 68) := hdL_length HH.out
  obtain ⟨hl, hhl⟩ : ∃ hl, hl = hdL x.head := ⟨_, rfl⟩
  rw [← hhl] at HC HR HL
  have WK := Lib.hid hwk
  have CE := Lib.hid hce
  clear hhl hwk hce
  go_upto_region 2 with (first | ((with_reducible show wpList _ _ _ _ _ _); refine wpList_load_mid rfl 26 (.tmp 5) rfl w.heap.size 0 rfl hl _ HR.out Tryz.underlying26 rfl (by rw [HL.out]; kernel_rfl) ?_; go_frame) | (go_at_call 53; refine HC.out.mono ?_; rintro e w2 ⟨rfl, hb2⟩; have B2 := Lib.hid (B0.out.trans (hb2.mono B0.out.size)); have N2 := Lib.hid hb2; clear hb2))
  clear HC HR HL
  by_cases hw : workB wk = true
  · obtain rfl : ce = .iface 176 (.pointer (some (E 21))) := by rw [CE.out, if_pos hw]
    have HW := Lib.hid hw
    clear hw
    go_wp2_with fail
    go_ret
    exact ⟨_, rfl, .inl (by unfold blkR; rw [if_pos (by rw [← WK.out]; exact HW.out)]; exact ⟨rfl, rfl⟩), B2.out⟩
  obtain rfl : ce = .nilIface := by rw [CE.out, if_neg hw]
  have HW : Hid (blkR x = if x.txs.length = 0 ∨ 200 < x.txs.length then (4, none) else if 20000 < (blkB x).length then (3, none)
      else if (eachR x.txs).1 ≠ 0 then eachR x.txs else if twiceB (insAll x.txs) = true then (6, none) else if blRoot x = x.head.root then (0, none) else (8, none)) := by
    show _ = _
    unfold blkR
    rw [if_neg (by rw [← WK.out]; exact hw)]
  clear hw CE
  have c68 : w2.cell? ⟨w.heap.size, 68, none⟩ = some (.slice sp n cap) := (K.out.below N2.out).txs HH.out
  have q3 : w2.cell? ⟨1, 0, none⟩ = some (.iface 176 (.pointer (some (E 3)))) := (HE.out.below B2.out) 3 (by omega)
  have F2 := Lib.hid (row_below F0.out N2.out)
  by_cases hn0 : n = 0
  · subst hn0
    go_wp2_with fail
    go_ret
    exact ⟨_, rfl, .inl (by rw [HW.out, if_pos (.inl NN.out.symm)]; exact ⟨rfl, rfl⟩), B2.out⟩
  have t0 : ((n : Int) == 0) = false := by rw [beq_eq_false_iff_ne]; omega
  by_cases hn2 : 200 < n
  · have t1 : (n : Int) > 200 := by omega
    have HN2 := Lib.hid hn2
    clear hn0 hn2
    go_wp2_with fail
    go_ret
    exact ⟨_, rfl, .inl (by rw [HW.out, if_pos (.inr (by rw [← NN.out]; exact HN2.out))]; exact ⟨rfl, rfl⟩), B2.out⟩
  have t1 : ¬ (n : Int) > 200 := by omega
  have HW2 : Hid (blkR x = if 20000 < (blkB x).length then (3, none)
      else if (eachR x.txs).1 ≠ 0 then eachR x.txs else if twiceB (insAll x.txs) = true then (6, none) else if blRoot x = x.head.root then (0, none) else (8, none)) := by
    show _ = _
    rw [HW.out, if_neg (by rw [← NN.out]; omega)]
  clear HW hn0 hn2
  obtain ⟨sz, hsz⟩ : ∃ sz, sz = (blkB x).length := ⟨_, rfl⟩
  rw [← hsz] at HW2 SZL
  have bsz : sz ≤ 200200000000 := SZL.out
  have SZ : Hid (Calls Tryz.prog 12 #[.agg cs.toArray] w2 fun e w' => e = .returned (.int .i64 (sz : Int)) ∧ Below w2.heap.size w2 w') := by
    rw [hsz]
    exact blsize_any x _ w2 (BV.out w2 B2.out) TS.out
  clear hsz q3
  by_cases h20 : 20000 < sz
  · have t2 : (sz : Int) > 20000 := by omega
    have H20 := Lib.hid h20
    have QL : Hid (∀ W, Below w.heap.size w W → W.cell? ⟨2, 0, none⟩ = some (.iface 176 (.pointer (some (E 2))))) := fun W hW => (HE.out.below hW) 2 (by omega)
    clear h20
    go_wp2_with (first | ((with_reducible show wpList _ _ _ _ _ _); (refine wpList_load_row rfl 29 (.tmp 1) rfl w.heap.size rfl 29 cs.toArray (0, 0) _ F2.out Tryz.underlying29 rfl (by rw [LCS'.out]; kernel_rfl) ?_; go_frame)) | (go_at_call 12; refine SZ.out.mono ?_; rintro e w3 ⟨rfl, hb3⟩; have B3 := Lib.hid (B2.out.trans (hb3.mono B2.out.size)); have q2 := QL.out _ B3.out; clear hb3))
    go_ret
    exact ⟨_, rfl, .inl (by rw [HW2.out, if_pos H20.out]; exact ⟨rfl, rfl⟩), B3.out⟩
  have t2 : ¬ (sz : Int) > 20000 := by omega
  have HW3 : Hid (blkR x = if (eachR x.txs).1 ≠ 0 then eachR x.txs else if twiceB (insAll x.txs) = true then (6, none) else if blRoot x = x.head.root then (0, none) else (8, none)) := by
    show _ = _
    rw [HW2.out, if_neg h20]
  clear HW2 h20
  go_upto_region 9 with (first | ((with_reducible show wpList _ _ _ _ _ _); (refine wpList_load_row rfl 29 (.tmp 1) rfl w.heap.size rfl 29 cs.toArray (0, 0) _ F2.out Tryz.underlying29 rfl (by rw [LCS'.out]; kernel_rfl) ?_; go_frame)) | (go_at_call 12; refine SZ.out.mono ?_; rintro e w3 ⟨rfl, hb3⟩; have B3 := Lib.hid (B2.out.trans (hb3.mono B2.out.size)); have N3 := Lib.hid (N2.out.trans (hb3.mono N2.out.size)); clear hb3))
  clear c68 SZ t0 t1 t2
  have c68 : w3.cell? ⟨w.heap.size, 68, none⟩ = some (.slice sp n cap) := (K.out.below N3.out).txs HH.out
  have EC : Hid (Calls Tryz.prog 54 #[.slice sp n cap] w3 fun e w' => ∃ u, e = .returned u ∧ FltV w' E u (eachR x.txs) ∧ Below w3.heap.size w3 w') :=
    bleach_any E x.txs _ w3 (HT.out.below B3.out) TS.out.1 TS.out.2 (HE.out.below B3.out).e6
  go_wp2_with fail
  refine EC.out.mono ?_
  rintro e w4 ⟨u, rfl, hf, hb4⟩
  have B4 := Lib.hid (B3.out.trans (hb4.mono B3.out.size))
  have N4 := Lib.hid (N3.out.trans (hb4.mono N3.out.size))
  obtain ⟨er, her⟩ : ∃ er, er = eachR x.txs := ⟨_, rfl⟩
  rw [← her] at hf HW3
  clear c68 EC hb4 her
  rcases hf with ⟨hn, hu⟩ | ⟨q, p, g, hr, hu, hg⟩
  · obtain ⟨c, o⟩ := er
    obtain rfl : o = none := hn
    cases c with
    | succ q =>
      obtain rfl : u = .iface 176 (.pointer (some (E q))) := hu
      go_wp2_with fail
      go_ret
      exact ⟨_, rfl, .inl (by rw [HW3.out, if_pos (by simp)]; exact ⟨rfl, rfl⟩), B4.out⟩
    | zero =>
      obtain rfl : u = .nilIface := hu
      have HW4 : Hid (blkR x = if twiceB (insAll x.txs) = true then (6, none) else if blRoot x = x.head.root then (0, none) else (8, none)) := by
        show _ = _
        rw [HW3.out, if_neg (by simp)]
      clear HW3
      go_upto_region 12 with fail
      obtain ⟨tb, htb⟩ : ∃ tb, tb = twiceB (insAll x.txs) := ⟨_, rfl⟩
      rw [← htb] at HW4
      have TB : Hid (Calls Tryz.prog 55 #[.slice sp n cap] w4 fun e w' => e = .returned (.bool tb) ∧ Below w4.heap.size w4 w') :=
        bltwice_any x.txs _ w4 (HT.out.below B4.out) TS.out.1 TS.out.2 tb htb
      have c68 : w4.cell? ⟨w.heap.size, 68, none⟩ = some (.slice sp n cap) := (K.out.below N4.out).txs HH.out
      clear htb
      go_wp2_with fail
      refine TB.out.mono ?_
      rintro e w5 ⟨rfl, hb5⟩
      have B5 := Lib.hid (B4.out.trans (hb5.mono B4.out.size))
      have N5 := Lib.hid (N4.out.trans (hb5.mono N4.out.size))
      clear c68 TB hb5
      cases tb with
      | true =>
        have q5 : w5.cell? ⟨3, 0, none⟩ = some (.iface 176 (.pointer (some (E 5)))) := (HE.out.below B5.out) 5 (by omega)
        go_wp2_with fail
        go_ret
        exact ⟨_, rfl, .inl (by rw [HW4.out, if_pos (by simp)]; exact ⟨rfl, rfl⟩), B5.out⟩
      | false =>
        have HW5 : Hid (blkR x = if blRoot x = x.head.root then (0, none) else (8, none)) := by
          show _ = _
          rw [HW4.out, if_neg (by simp)]
        clear HW4
        go_wp2_with fail
        have K5 := Lib.hid (K.out.below N5.out)
        have F5 := Lib.hid (row_below F0.out N5.out)
        obtain ⟨R, hR⟩ : ∃ R, R = blRoot x := ⟨_, rfl⟩
        obtain ⟨R2, hR2⟩ : ∃ R2, R2 = x.head.root := ⟨_, rfl⟩
        have LR : Hid (R.length = 32) := by show _ = _; rw [hR]; exact blRoot_length x
        have LR2 : Hid (R2.length = 32) := by show _ = _; rw [hR2]; exact HH.out.2.2.1
        rw [← hR, ← hR2] at HW5
        have RC : Hid (∀ W, Below w.heap.size w W → Calls Tryz.prog 16 #[.agg cs.toArray] W fun e w' => e = .returned (.agg (R.map bV).toArray) ∧ Below W.heap.size W w') := fun W hW => by
          rw [hR]
          exact blroot_any x _ W (BV.out W hW) TS.out (HK.out.below hW)
        have RG : Hid (∀ W, Below w5.heap.size w5 W → W.rangeAt w.heap.size 33 (R2.map bV)) := fun W hW => by rw [hR2]; exact (K5.out.below hW).root HH.out
        have LX2 : Hid ((R2.map bV).length = 32) := by show _ = _; rw [List.length_map, LR2.out]
        have QR : Hid (∀ W, Below w.heap.size w W → W.cell? ⟨4, 0, none⟩ = some (.iface 176 (.pointer (some (E 7))))) := fun W hW => (HE.out.below hW) 7 (by omega)
        have nh := run_neq_hash R R2 LR.out LR2.out
        clear hR hR2
        refine wp_region_held_drew (S := (fun w' => Below w5.heap.size w5 w')) (by kernel_rfl) (Below.drew (Below.refl _ _)) (fun hHeld => ?_)
        generalize hwd : w5.drew = wd at hHeld ⊢
        clear hwd
        refine held_take (i := 0) (v := (.agg cs.toArray)) rfl (by kernel_rfl) (by kernel_rfl) (by kernel_rfl) (fun _ _ _ h => h) (yieldsIf_load_row (by rfl) 29 (.tmp 1) rfl w.heap.size rfl 29 cs.toArray (0, 0) _ (fun w' hw' => row_below F5.out hw') Tryz.underlying29 rfl (by rw [LCS'.out]; kernel_rfl)) hHeld ?_
        go_frame
        refine held_take (i := 2) (v := (.pointer (some ⟨w.heap.size, 0, none⟩))) rfl (by kernel_rfl) (by kernel_rfl) (by kernel_rfl) (fun _ _ _ h => h) (Or.inl ⟨by rfl, fun w' _ => by kernel_rfl⟩) hHeld ?_
        go_frame
        refine held_take (i := 3) (v := (.pointer (some ⟨w.heap.size, 33, none⟩))) rfl (by kernel_rfl) (by kernel_rfl) (by kernel_rfl) (fun _ _ _ h => h) (Or.inl ⟨by rfl, fun w' _ => by kernel_rfl⟩) hHeld ?_
        go_frame
        refine held_take (i := 4) (v := (.agg (R2.map bV).toArray)) rfl (by kernel_rfl) (by kernel_rfl) (by kernel_rfl) (fun _ _ _ h => h) (Sha.yieldsIf_load_mid (by rfl) 24 (.tmp 41) rfl w.heap.size (33) rfl (R2.map bV) _ (fun w' hw' => RG.out w' hw') Tryz.underlying24 rfl (by rw [LX2.out]; kernel_rfl)) hHeld ?_
        go_frame
        refine wpAnyH_ready (rs := [1]) (by kernel_rfl) (by simp) (held_cons rfl (fun K hK => ?_) AllReadyH.nil)
        go_simp
        refine (RC.out _ (B5.out.trans (hHeld.mono B5.out.size))).mono ?_
        rintro e v1 ⟨rfl, bb⟩
        have hv1 := hHeld.trans (bb.mono hHeld.size)
        clear bb hHeld
        go_wp2_with fail
        refine hK.out _ _ hv1 (fun hHeld => ?_)
        clear hK K hv1
        refine held_take (i := 5) (v := (.bool (!decide (R = R2)))) rfl (by kernel_rfl) (by kernel_rfl) (by kernel_rfl) (fun _ _ _ h => h) (Or.inl ⟨by rfl, fun w' _ => by go_simp⟩) hHeld ?_
        go_frame
        refine held_take (i := 6) (v := (.bool (!decide (R = R2)))) rfl (by kernel_rfl) (by kernel_rfl) (by kernel_rfl) (fun _ _ _ h => h) (Or.inl ⟨by rfl, fun w' _ => by kernel_rfl⟩) hHeld ?_
        go_frame
        refine wpAnyH_done (by kernel_rfl) ?_ _
        clear nh
        have B6 := Lib.hid (B5.out.trans (hHeld.mono B5.out.size))
        clear hHeld
        by_cases hrr : R = R2
        · have e1 : (!decide (R = R2)) = false := by rw [decide_eq_true hrr]; rfl
          rw [e1]
          have HRR := Lib.hid hrr
          clear hrr e1
          go_wp2_with fail
          go_ret
          exact ⟨_, rfl, .inl (by rw [HW5.out, if_pos HRR.out]; exact ⟨rfl, rfl⟩), B6.out⟩
        · have e1 : (!decide (R = R2)) = true := by rw [decide_eq_false hrr]; rfl
          rw [e1]
          have HRR := Lib.hid hrr
          clear hrr e1
          have q7 := QR.out _ B6.out
          go_wp2_with fail
          go_ret
          exact ⟨_, rfl, .inl (by rw [HW5.out, if_neg HRR.out]; exact ⟨rfl, rfl⟩), B6.out⟩
  · obtain rfl : u = .iface 126 (.pointer (some ⟨g, 0, none⟩)) := hu
    have HG := Lib.hid hg
    have HRr := Lib.hid hr
    clear hg hr
    go_wp2_with fail
    go_ret
    exact ⟨_, rfl, .inr ⟨q, p, g, by rw [HW3.out, HRr.out, if_pos (by simp)], rfl, HG.out⟩, B4.out⟩
end Go.Proofs.YtdamhoagiooicaaGreatDoor.Sha

/-
  slices.Concat of any two rows of bytes that are not both empty: new memory. Condition: the bytes lie where the slices say; few enough.
-/
namespace Go.Proofs.YtdamhoagiooicaaGreatDoor.Sha
open Go Go.RowKit
set_option maxHeartbeats 1000000 in
set_option maxRecDepth 100000 in
theorem concat_any (a b : List UInt8) (v1 v2 : Value) (gs : Nat) (w : World) (h0 : w.cell? ⟨gs, 0, none⟩ = some v1) (h1 : w.cell? ⟨gs, 1, none⟩ = some v2) (s1 : SrcB w v1 a) (s2 : SrcB w v2 b) (hp : 0 < a.length) (ha : a.length ≤ 1000) (hb : b.length ≤ 70368744170000) :
    Calls Tryz.prog 104 #[.slice (some ⟨gs, 0, none⟩) 2 2] w fun e w' => ∃ gk nk ck, e = .returned (.slice (some ⟨gk, 0, none⟩) nk ck) ∧ w.heap.size ≤ gk ∧ KeyAt w' (.slice (some ⟨gk, 0, none⟩) nk ck) (a ++ b) ∧ Below w.heap.size w w' := by
  obtain ⟨i0, hi, hz0, hz1, hz2⟩ := info_parts info_u8
  obtain ⟨p1, n1, c1, rfl, hn1, _⟩ := s1.shape'
  obtain ⟨p2, n2, c2, rfl, hn2, _⟩ := s2.shape'
  have HA := Lib.hid hn1.symm
  have HB := Lib.hid hn2.symm
  have S1 := Lib.hid s1
  have S2 := Lib.hid s2
  have hlt := World.block_lt_of_cell? w _ h0
  simp only at hlt
  have H1 := Lib.hid h1
  rw [← hn1] at hp ha
  rw [← hn2] at hb
  obtain ⟨m, hm⟩ : ∃ m, m = n1 + n2 := ⟨_, rfl⟩
  have u1 : IntKind.i64.wrap (n1 : Int) = (n1 : Int) := IntWalk.i64_in _ (by omega)
  have u2 : IntKind.i64.wrap ((n1 : Int) + (n2 : Int)) = (m : Int) := by rw [IntWalk.i64_in _ (by omega)]; omega
  have u3 : (n1 : Int) + (n2 : Int) = (m : Int) := by omega
  have b1 : ¬ (n1 : Int) < 0 := by omega
  have b2 : ¬ (m : Int) < 0 := by omega
  have GN : Hid (Calls Tryz.prog 130 #[.slice none 0 0, .int .i64 m] w fun e w' => ∃ cap, m ≤ cap ∧ e = .returned (.slice (some ⟨w.heap.size, 0, none⟩) 0 cap) ∧ w'.ownsRow w.heap.size 5 1 (.slice (some ⟨w.heap.size, 0, none⟩) 0 cap) 0 [] ∧ Below w.heap.size w w') := grow_nil m w (by omega) (by omega)
  have HM := Lib.hid hm
  clear hm hn1 hn2 s1 s2
  go_enter Tryz.func104, Tryz.ntmps104
  go_wp2_with fail
  refine wp_loop_rounds 3 ?_
  rw [rounds_succ]
  go_wp2_with fail
  rw [rounds_succ]
  go_wp2_with fail
  rw [rounds_succ]
  go_wp2_with fail
  refine GN.out.mono ?_
  rintro e w1 ⟨cap, hcap, rfl, ho, hb1⟩
  have c0 : w1.cell? ⟨gs, 0, none⟩ = some (.slice p1 n1 c1) := by rw [hb1.cell (p := ⟨gs, 0, none⟩) hlt]; exact h0
  have HO := Lib.hid ho
  have HB1 := Lib.hid hb1
  have S1' := Lib.hid (S1.out.below hb1)
  have HC := Lib.hid hcap
  clear ho hb1 h0 h1 u1 u2 u3 b1 b2 hcap GN
  go_wp2_with fail
  refine wp_loop_rounds 3 ?_
  rw [rounds_succ]
  go_wp2_with (at_builtin; refine wpList_append_src _ rfl _ _ 30 rfl w.heap.size 5 i0 Tryz.underlying30 hi hz1 w.heap.size 0 cap [] rfl HO.out _ a rfl S1'.out (by have := HA.out; have := HC.out; have := HM.out; omega) ?_; intro w2 q1 q2; have HO2 : Hid (w2.ownsRow w.heap.size 5 1 (.slice (some ⟨w.heap.size, 0, none⟩) n1 cap) n1 (a.map bV)) := (by have h := q1.out; rw [HA.out, Nat.zero_add, List.nil_append] at h; exact h); have G2 := Lib.hid q2.out; clear q1 q2; rw [HA.out, Nat.zero_add]; have c1 : w2.cell? ⟨gs, 1, none⟩ = some (.slice p2 n2 c2) := (by rw [World.cell?_of_block (G2.out.block gs (Nat.lt_of_lt_of_le hlt HB1.out.size) (fun e => by have := Option.some.inj e; omega)), HB1.out.cell (p := ⟨gs, 1, none⟩) hlt]; exact H1.out); clear c0; go_frame)
  have B2 := Lib.hid (HB1.out.grown G2.out HB1.out.size (fun k hk => by cases hk; exact Nat.le_refl _))
  have S2' := Lib.hid (S2.out.below B2.out)
  rw [rounds_succ]
  go_wp2_with (at_builtin; refine wpList_append_src _ rfl _ _ 30 rfl w.heap.size 5 i0 Tryz.underlying30 hi hz1 w.heap.size n1 cap (a.map bV) rfl HO2.out _ b rfl S2'.out (by have := HB.out; have := HC.out; have := HM.out; omega) ?_; intro w3 q1 q2; have HO3 : Hid (w3.ownsRow w.heap.size 5 1 (.slice (some ⟨w.heap.size, 0, none⟩) (n1 + n2) cap) (n1 + n2) ((a ++ b).map bV)) := (by have h := q1.out; rw [HB.out] at h; rw [List.map_append]; exact h); have G3 := Lib.hid q2.out; clear q1 q2; rw [HB.out]; go_frame)
  have B3 := Lib.hid (B2.out.grown G3.out B2.out.size (fun k hk => by cases hk; exact Nat.le_refl _))
  rw [rounds_succ]
  go_wp2_with fail
  go_ret
  exact ⟨w.heap.size, n1 + n2, cap, rfl, Nat.le_refl _, ⟨src_own HO3.out, some ⟨w.heap.size, 0, none⟩, cap, by rw [List.length_append, HA.out, HB.out]⟩, B3.out⟩
end Go.Proofs.YtdamhoagiooicaaGreatDoor.Sha

/-
  A whole box written, the new world hidden; what a loop that climbs keeps. No conditions.
-/
namespace Go.Proofs.YtdamhoagiooicaaGreatDoor.Sha
open Go Go.RowKit
section
variable {P : Program}
theorem wpList_store_whole {ops : Array Oper} {rest : List Oper} {op : Oper} {a : Act} {w : World} {Q : Exit → Act → World → Prop} (hgd : op.guard = none) (ty : TypeId) (x y : Operand) (ho : op.op = .store ty x y)
    (g : Nat) (old new : List Value) (T : TypeId) (hx : a.eval x = .pointer (some ⟨g, 0, none⟩)) (hy : a.eval y = .agg new.toArray) (hlen : old.length = new.length) (hrow : w.heap[g]? = some (.cells old.toArray T (0, 0)))
    (hi : (P.info? ty).map (·.size) = some new.length) (h1 : new.toArray.all (·.oneCell') = true)
    (h : ∀ w', w'.heap[g]? = some (.cells new.toArray T (0, 0)) → w.grownBy w' (some g) → wpList P ops Q rest (a.put op.dst undef) w') : wpList P ops Q (op :: rest) a w :=
  wpList_store_row hgd ty x y ho g new.toArray hx hy T old.toArray hrow (by simpa using hi) (by simpa using hlen) h1 (h _ (setRow_heap _ _ _ _ _ _ hrow) (setRow_grown _))
theorem wp_store_whole {op : Oper} {a : Act} {w : World} {K : Act → World → Prop} {Q : Exit → Act → World → Prop} (ty : TypeId) (x y : Operand) (ho : op.op = .store ty x y)
    (g : Nat) (old new : List Value) (T : TypeId) (hx : a.eval x = .pointer (some ⟨g, 0, none⟩)) (hy : a.eval y = .agg new.toArray) (hlen : old.length = new.length) (hrow : w.heap[g]? = some (.cells old.toArray T (0, 0)))
    (hi : (P.info? ty).map (·.size) = some new.length) (h1 : new.toArray.all (·.oneCell') = true)
    (h : ∀ w', w'.heap[g]? = some (.cells new.toArray T (0, 0)) → w.grownBy w' (some g) → K (a.put op.dst undef) w') : op.wp P a w K Q :=
  wp_store_row ty x y ho g new.toArray hx hy T old.toArray hrow (by simpa using hi) (by simpa using hlen) h1 (h _ (setRow_heap _ _ _ _ _ _ hrow) (setRow_grown _))
end
/-- Two boxes. -/
theorem boxes_two (w : World) (x y : Array Value) (T : TypeId) :
    Below w.heap.size w ((w.alloc (.cells x T (0, 0))).alloc (.cells y T (0, 0)))
    ∧ ((w.alloc (.cells x T (0, 0))).alloc (.cells y T (0, 0))).heap[w.heap.size]? = some (.cells x T (0, 0))
    ∧ ((w.alloc (.cells x T (0, 0))).alloc (.cells y T (0, 0))).heap[w.heap.size + 1]? = some (.cells y T (0, 0)) := by
  refine ⟨((Below.refl _ _).alloc (Nat.le_refl _) _).alloc (by simp) _, ?_, ?_⟩
  · have h1 := heap_alloc_new w (.cells x T (0, 0))
    exact row_below h1 ((Below.refl _ _).alloc (Nat.le_refl _) (.cells y T (0, 0)))
  · have h1 := heap_alloc_new (w.alloc (.cells x T (0, 0))) (.cells y T (0, 0))
    rw [World.size_alloc] at h1
    exact h1
/-- Where the leaf, the answer lie. -/
structure ClAt (w : World) (g : Nat) (lf : List UInt8) (wr : World) : Prop where
  leaf : wr.heap[g]? = some (.cells (lf.map bV).toArray 24 (0, 0))
  zero : wr.heap[g + 1]? = some (.cells (zM.map bV).toArray 24 (0, 0))
  low : Below w.heap.size w wr
  lo : w.heap.size ≤ g
theorem ClAt.below {w : World} {g : Nat} {lf : List UInt8} {wr w' : World} (h : ClAt w g lf wr) (hb : Below wr.heap.size wr w') : ClAt w g lf w' :=
  ⟨row_below h.leaf hb, row_below h.zero hb, h.low.trans (hb.mono h.low.size), h.lo⟩
theorem ClAt.turn {w : World} {g : Nat} {lf lf' : List UInt8} {wr w' : World} (h : ClAt w g lf wr) (hn : w'.heap[g]? = some (.cells (lf'.map bV).toArray 24 (0, 0))) (hg : wr.grownBy w' (some g)) : ClAt w g lf' w' :=
  ⟨hn, row_far h.zero hg (fun e => by have := Option.some.inj e; omega), h.low.grown hg h.low.size (fun k hk => by cases hk; exact h.lo), h.lo⟩
def climbInv (R : List UInt8) (p : List (List UInt8)) (w : World) (g : Nat) (va vi : Value) (wr : World) : Prop :=
  ∃ (k j : Nat) (lf : List UInt8), vi = .int .i64 j ∧ va = .int .i64 k ∧ j ≤ p.length ∧ k ≤ 1048576 ∧ climbL prH lf k (p.drop j) = R ∧ lf.length = 32 ∧ ClAt w g lf wr
theorem climb_step {R lf x : List UInt8} {p : List (List UInt8)} {k j : Nat} (h : climbL prH lf k (p.drop j) = R) (hj : j < p.length) (hx : x = p.getD j []) :
    climbL prH (if k % 2 = 0 then prH lf x else prH x lf) (k / 2) (p.drop (j + 1)) = R := by
  rw [List.drop_eq_getElem_cons hj, climbL] at h
  rw [hx, List.getD_eq_getElem?_getD, List.getElem?_eq_getElem hj]
  exact h
end Go.Proofs.YtdamhoagiooicaaGreatDoor.Sha
