/-
  Texts of this proof joined into one file: Flt, BlEach, BlCheck, BlFirst7, KdMath, RtMath, RtRow, TxsOwn. What each holds, and under which conditions, its own first sentence tells.
-/
import Derived.IntWalk
import Derived.Deep.RegionWith
import Derived.Test.YtcghbogkplcohaaDoorMg13
import Derived.Test.YtcghbogkplcohaaDoorMg05
import Derived.Test.YtcghbogkplcohaaDoorMg08
import Derived.Test.YtcghbogkplcohaaDoorMg12
import Derived.Test.YtcghbogkplcohaaDoorMg03
import Derived.Test.YtcghbogkplcohaaDoorMg07
/-
  What is amiss with a block, and where: as plain data, and as the program's error. No conditions.
-/
namespace Go.Proofs.YtcghbogkplcohaaDoor.Sha
open Go Go.RowKit
/-- An error with a place around it, or none around it: the value. r: the error's number (its place in the document's order; 0: none), the place. -/
def FltV (w : World) (E : Nat → Addr) (v : Value) (r : Nat × Option Nat) : Prop :=
  (r.2 = none ∧ v = errV E r.1) ∨ ∃ q p g, r = (q + 1, some p) ∧ v = .iface 79 (.pointer (some ⟨g, 0, none⟩)) ∧ w.heap[g]? = some (.cells #[.int .i64 (p : Int), errV E (q + 1)] 81 (0, 0))
theorem FltV.below {w w' : World} {E : Nat → Addr} {v : Value} {r : Nat × Option Nat} (h : FltV w E v r) (hb : Below w.heap.size w w') : FltV w' E v r := by
  rcases h with h | ⟨q, p, g, h1, h2, h3⟩
  · exact .inl h
  · exact .inr ⟨q, p, g, h1, h2, row_below h3 hb⟩
/-- The first that may not be by itself. -/
def chkAt : Nat → List TTx → Option (Nat × Nat)
  | _, [] => none
  | i, t :: l => if checkC t = 0 then chkAt (i + 1) l else some (i, checkC t)
/-- The first that may not be where it stands. -/
def basAt : Nat → List TTx → Option Nat
  | _, [] => none
  | i, t :: l => if baseB t = decide (i = 0) then basAt (i + 1) l else some i
theorem chkAt_none : ∀ (l : List TTx) (i : Nat), (∀ (j : Nat) (t : TTx), l[j]? = some t → checkC t = 0) → chkAt i l = none
  | [], _, _ => rfl
  | t :: l, i, h => by
    unfold chkAt
    rw [if_pos (h 0 t rfl)]
    exact chkAt_none l (i + 1) (fun j u hu => h (j + 1) u hu)
theorem chkAt_some : ∀ (l : List TTx) (i k : Nat) (t : TTx), (∀ (j : Nat) (u : TTx), j < k → l[j]? = some u → checkC u = 0) → l[k]? = some t → checkC t ≠ 0 → chkAt i l = some (i + k, checkC t)
  | u :: l, i, 0, t, _, h, hc => by
    simp only [List.getElem?_cons_zero, Option.some.injEq] at h
    subst h
    unfold chkAt
    rw [if_neg hc]
    rfl
  | u :: l, i, k + 1, t, h0, h, hc => by
    unfold chkAt
    rw [if_pos (h0 0 u (by omega) rfl), chkAt_some l (i + 1) k t (fun j v hj hv => h0 (j + 1) v (by omega) hv) h hc, show i + 1 + k = i + (k + 1) by omega]
theorem basAt_none : ∀ (l : List TTx) (i : Nat), (∀ (j : Nat) (t : TTx), l[j]? = some t → baseB t = decide (i + j = 0)) → basAt i l = none
  | [], _, _ => rfl
  | t :: l, i, h => by
    unfold basAt
    rw [if_pos (show baseB t = decide (i = 0) from h 0 t rfl)]
    exact basAt_none l (i + 1) (fun j u hu => by rw [h (j + 1) u hu, show i + (j + 1) = i + 1 + j by omega])
theorem basAt_some : ∀ (l : List TTx) (i k : Nat) (t : TTx), (∀ (j : Nat) (u : TTx), j < k → l[j]? = some u → baseB u = decide (i + j = 0)) → l[k]? = some t → baseB t ≠ decide (i + k = 0) → basAt i l = some (i + k)
  | u :: l, i, 0, t, _, h, hc => by
    simp only [List.getElem?_cons_zero, Option.some.injEq] at h
    subst h
    unfold basAt
    rw [if_neg (show ¬ baseB u = decide (i = 0) from hc)]
    rfl
  | u :: l, i, k + 1, t, h0, h, hc => by
    unfold basAt
    rw [if_pos (show baseB u = decide (i = 0) from h0 0 u (by omega) rfl), basAt_some l (i + 1) k t (fun j v hj hv => by rw [h0 (j + 1) v (by omega) hv, show i + (j + 1) = i + 1 + j by omega]) h (by rw [show i + 1 + k = i + (k + 1) by omega]; exact hc), show i + 1 + k = i + (k + 1) by omega]
/-- What is amiss with one of them, and where. -/
def eachR (l : List TTx) : Nat × Option Nat := match chkAt 0 l with
  | some (p, c) => (c, some p)
  | none => match basAt 0 l with
    | some p => (7, some p)
    | none => (0, none)
theorem eachR_chk {l : List TTx} {k : Nat} {t : TTx} (h : ∀ (j : Nat) (u : TTx), j < k → l[j]? = some u → checkC u = 0) (ht : l[k]? = some t) (hc : checkC t ≠ 0) : eachR l = (checkC t, some k) := by
  unfold eachR
  rw [chkAt_some l 0 k t h ht hc, Nat.zero_add]
theorem eachR_bas {l : List TTx} {k : Nat} {t : TTx} (h0 : ∀ (j : Nat) (u : TTx), l[j]? = some u → checkC u = 0) (h : ∀ (j : Nat) (u : TTx), j < k → l[j]? = some u → baseB u = decide (j = 0)) (ht : l[k]? = some t) (hc : baseB t ≠ decide (k = 0)) : eachR l = (7, some k) := by
  unfold eachR
  rw [chkAt_none l 0 h0, basAt_some l 0 k t (fun j u hj hu => by rw [Nat.zero_add]; exact h j u hj hu) ht (by rw [Nat.zero_add]; exact hc), Nat.zero_add]
theorem eachR_fine {l : List TTx} (h0 : ∀ (j : Nat) (u : TTx), l[j]? = some u → checkC u = 0) (h : ∀ (j : Nat) (u : TTx), l[j]? = some u → baseB u = decide (j = 0)) : eachR l = (0, none) := by
  unfold eachR
  rw [chkAt_none l 0 h0, basAt_none l 0 (fun j u hu => by rw [Nat.zero_add]; exact h j u hu)]
/-- What is amiss with a block, and where. -/
def blkR (x : TBlk) : Nat × Option Nat :=
  if workB x.head.work = true then (22, none) else if x.txs.length = 0 ∨ 200 < x.txs.length then (4, none) else if 20000 < (blkB x).length then (3, none)
  else if (eachR x.txs).1 ≠ 0 then eachR x.txs else if twiceB (insAll x.txs) = true then (6, none) else if blRoot x = x.head.root then (0, none) else (8, none)
end Go.Proofs.YtcghbogkplcohaaDoor.Sha

/-
  Package block tells what is amiss with one of a block's transactions, and where. Nothing that was there turns. Conditions: a few transactions that lie in memory; the errors are there.
-/
namespace Go.Proofs.YtcghbogkplcohaaDoor.Sha
open Go Go.RowKit
def EaInv (n : Nat) (P : Nat → Prop) (w1 : World) (vi : Value) (wr : World) : Prop := ∃ k : Nat, k ≤ n ∧ vi = .int .i64 k ∧ P k ∧ Below w1.heap.size w1 wr
set_option maxHeartbeats 2000000 in
set_option maxRecDepth 100000 in
theorem bleach_any (E : Nat → Addr) (l : List TTx) (v : Value) (w : World) (h1 : TxsAt w v l) (hs : ∀ t ∈ l, TxSmall t) (hl : l.length ≤ 1000) (hE : Er6 w E) :
    Calls Tryd.prog 20 #[v] w fun e w' => ∃ u, e = .returned u ∧ FltV w' E u (eachR l) ∧ Below w.heap.size w w' := by
  obtain ⟨sp, cap, rfl⟩ := h1.shape
  obtain ⟨n, hn⟩ : ∃ n, n = l.length := ⟨_, rfl⟩
  rw [← hn] at h1 ⊢
  have HT := Lib.hid h1
  have NN := Lib.hid hn
  have TS := Lib.hid hs
  have HE := Lib.hid hE
  have bn : n ≤ 1000 := by rw [hn]; exact hl
  have B0 : Hid (Below w.heap.size w w) := Below.refl _ _
  clear h1 hn hs hl hE
  go_enter Tryd.func20, Tryd.ntmps20
  go_wp2_with fail
  go_loopw [10] (fun vi wr => EaInv n (fun k => ∀ (j : Nat) (u : TTx), j < k → l[j]? = some u → checkC u = 0) w vi wr) (fun i _ => n - (intOf i).toNat)
  case atStart => exact ⟨0, by omega, rfl, fun j u hj => by omega, Below.refl _ _⟩
  case round =>
    obtain ⟨k, hk, rfl, hp, B⟩ := hrel
    have B := Lib.hid B
    have HP := Lib.hid hp
    clear hp
    by_cases hlt : k < n
    · skip
      obtain ⟨b, o, hs1, _, hg⟩ := HT.out.get (by omega)
      obtain ⟨t, hgt⟩ : ∃ t, l[k]? = some t := ⟨_, List.getElem?_eq_getElem (by have := NN.out; omega)⟩
      obtain ⟨iv, ov, hr, hta⟩ := hg k t hgt
      have LC : Hid ((txL t iv ov).length = 4) := rfl
      have LC' : Hid ((txL t iv ov).toArray.size = 4) := rfl
      have ONE : Hid ((txL t iv ov).toArray.all (·.oneCell') = true) := by
        obtain ⟨_, iv', ov', e, h1, h2⟩ := hta
        have e : txL t iv ov = txL t iv' ov' := by simpa using e
        rw [e]
        exact tx_one h1 h2
      obtain ⟨ct, hct⟩ : ∃ ct, ct = txL t iv ov := ⟨_, rfl⟩
      rw [← hct] at hr hta LC LC' ONE
      have R := Lib.hid (range_below (range_below hr B0.out) B.out)
      have TW := Lib.hid hta
      have TA : Hid (∀ W, Below wr.heap.size wr W → TxAt W (.agg ct.toArray) t) := fun W hW => ((hta.below B0.out).below B.out).below hW
      have GT := Lib.hid hgt
      have p0 : 0 ≤ (k : Int) := by omega
      have q0 : (k : Int) < (n : Int) := by omega
      subst hs1
      clear hg hgt hr hta hct
      obtain ⟨g5, hg5⟩ : ∃ g5, g5 = wr.heap.size := ⟨_, rfl⟩
      obtain ⟨_, f2, f3, f4⟩ := fill_setup (Below.refl wr.heap.size wr) [nV 0, .slice none 0 0, .slice none 0 0, nV 0].toArray ct.toArray 32
      go_upto_region 4 with ((with_reducible show wpList _ _ _ _ _ _); first | (refine wpList_load_mid rfl 32 (.tmp 13) rfl b (o + k * 4) rfl ct _ R.out Tryd.underlying32 rfl (by rw [LC.out]; kernel_rfl) ?_; go_frame) | (refine wpList_store_row rfl 32 (.tmp 4) (.tmp 14) rfl wr.heap.size ct.toArray rfl rfl 32 _ (heap_alloc_new _ _) (by rw [LC'.out]; kernel_rfl) (by rw [LC'.out]; rfl) ONE.out ?_; go_frame))
      rw [← hg5] at f2 f3 f4 ⊢
      generalize hw5 : World.setRow _ _ _ = w5
      have e5 : World.setRow (wr.alloc (.cells [nV 0, .slice none 0 0, .slice none 0 0, nV 0].toArray 32)) g5 ct.toArray = w5 := hw5
      rw [e5] at f2 f4
      rw [hg5] at f4
      have F5 := Lib.hid f2
      have N5 := Lib.hid f4
      have B5 := Lib.hid (B.out.trans (f4.mono B.out.size))
      have G5 := Lib.hid hg5
      clear f2 f3 f4 hg5 hw5 e5
      obtain ⟨c, hc⟩ : ∃ c, c = checkC t := ⟨_, rfl⟩
      have TSM := Lib.hid (TS.out t (List.mem_of_getElem? GT.out))
      have CK : Hid (Calls Tryd.prog 34 #[.agg ct.toArray] w5 fun e w' => e = .returned (errV E c) ∧ Below w5.heap.size w5 w') := check_all E t _ w5 c hc (HE.out.below B5.out) (TA.out _ N5.out) TSM.out
      have HC := Lib.hid hc
      clear hc
      cases c with
      | zero =>
        have CK2 : Hid (Calls Tryd.prog 34 #[.agg ct.toArray] w5 fun e w' => e = .returned .nilIface ∧ Below w5.heap.size w5 w') := CK.out
        go_wp2_with (first | ((with_reducible show wpList _ _ _ _ _ _); (refine wpList_load_row rfl 32 (.tmp 4) rfl g5 rfl 32 ct.toArray (0, 0) _ F5.out Tryd.underlying32 rfl (by rw [LC'.out]; kernel_rfl) ?_; go_frame)) | (go_at_call 34; refine CK2.out.mono ?_; rintro e w6 ⟨rfl, hb6⟩; have B6 := Lib.hid (B5.out.trans (hb6.mono B5.out.size)); clear hb6))
        go_roundw
        case rel =>
          refine ⟨k + 1, by omega, by go_num, fun j u hj hu => ?_, B6.out⟩
          by_cases hjk : j < k
          · exact HP.out j u hjk hu
          · obtain rfl : j = k := by omega
            rw [GT.out] at hu
            cases hu
            exact HC.out.symm
        case measure => simp [intOf]; omega
      | succ q =>
        have CK2 : Hid (Calls Tryd.prog 34 #[.agg ct.toArray] w5 fun e w' => e = .returned (.iface 127 (.pointer (some (E q)))) ∧ Below w5.heap.size w5 w') := CK.out
        go_wp2_with (first | ((with_reducible show wpList _ _ _ _ _ _); first | (refine wpList_load_row rfl 32 (.tmp 4) rfl g5 rfl 32 ct.toArray (0, 0) _ F5.out Tryd.underlying32 rfl (by rw [LC'.out]; kernel_rfl) ?_; go_frame) | (refine wpList_buildTo rfl 81 _ rfl _ rfl #[.int .i64 (k : Int), .iface 127 (.pointer (some (E q)))] (by kernel_rfl) ?_; go_frame)) | (go_at_call 34; refine CK2.out.mono ?_; rintro e w6 ⟨rfl, hb6⟩; have B6 := Lib.hid (B5.out.trans (hb6.mono B5.out.size)); clear hb6))
        go_ret
        refine ⟨_, rfl, .inr ⟨q, k, w6.heap.size, ?_, rfl, heap_alloc_new _ _⟩, B6.out.alloc B6.out.size _⟩
        rw [eachR_chk HP.out GT.out (by rw [← HC.out]; omega), HC.out]
    · have hkn : k = n := by omega
      have hge : ¬ (k : Int) < (n : Int) := by omega
      have H0 : Hid (∀ (j : Nat) (u : TTx), l[j]? = some u → checkC u = 0) := fun j u hu => HP.out j u (by have := (List.getElem?_eq_some_iff.1 hu).1; have := NN.out; omega) hu
      clear hkn
      obtain ⟨wo, rfl⟩ : ∃ wo : World, wo = wr := ⟨_, rfl⟩
      have BO := Lib.hid B.out
      clear B HP
      go_wp2_with fail
      go_loopw [27] (fun vi wr => EaInv n (fun k => ∀ (j : Nat) (u : TTx), j < k → l[j]? = some u → baseB u = decide (j = 0)) w vi wr) (fun i _ => n - (intOf i).toNat)
      case atStart => exact ⟨0, by omega, rfl, fun j u hj => by omega, BO.out⟩
      case round =>
        clear BO hlt hge hk
        obtain ⟨k, hk, rfl, hp, B⟩ := hrel
        have B := Lib.hid B
        have HP := Lib.hid hp
        clear hp
        by_cases hlt : k < n
        · skip
          obtain ⟨b, o, hs1, _, hg⟩ := HT.out.get (by omega)
          obtain ⟨t, hgt⟩ : ∃ t, l[k]? = some t := ⟨_, List.getElem?_eq_getElem (by have := NN.out; omega)⟩
          obtain ⟨iv, ov, hr, hta⟩ := hg k t hgt
          have LC : Hid ((txL t iv ov).length = 4) := rfl
          have LC' : Hid ((txL t iv ov).toArray.size = 4) := rfl
          have ONE : Hid ((txL t iv ov).toArray.all (·.oneCell') = true) := by
            obtain ⟨_, iv', ov', e, h1, h2⟩ := hta
            have e : txL t iv ov = txL t iv' ov' := by simpa using e
            rw [e]
            exact tx_one h1 h2
          obtain ⟨ct, hct⟩ : ∃ ct, ct = txL t iv ov := ⟨_, rfl⟩
          rw [← hct] at hr hta LC LC' ONE
          have R := Lib.hid (range_below (range_below hr B0.out) B.out)
          have TW := Lib.hid hta
          have TA : Hid (∀ W, Below wr.heap.size wr W → TxAt W (.agg ct.toArray) t) := fun W hW => ((hta.below B0.out).below B.out).below hW
          have GT := Lib.hid hgt
          have p0 : 0 ≤ (k : Int) := by omega
          have q0 : (k : Int) < (n : Int) := by omega
          subst hs1
          clear hg hgt hr hta hct
          obtain ⟨g5, hg5⟩ : ∃ g5, g5 = wr.heap.size := ⟨_, rfl⟩
          obtain ⟨_, f2, f3, f4⟩ := fill_setup (Below.refl wr.heap.size wr) [nV 0, .slice none 0 0, .slice none 0 0, nV 0].toArray ct.toArray 32
          go_upto_region 11 with ((with_reducible show wpList _ _ _ _ _ _); first | (refine wpList_load_mid rfl 32 (.tmp 30) rfl b (o + k * 4) rfl ct _ R.out Tryd.underlying32 rfl (by rw [LC.out]; kernel_rfl) ?_; go_frame) | (refine wpList_store_row rfl 32 (.tmp 7) (.tmp 31) rfl wr.heap.size ct.toArray rfl rfl 32 _ (heap_alloc_new _ _) (by rw [LC'.out]; kernel_rfl) (by rw [LC'.out]; rfl) ONE.out ?_; go_frame))
          rw [← hg5] at f2 f3 f4 ⊢
          generalize hw5 : World.setRow _ _ _ = w5
          have e5 : World.setRow (wr.alloc (.cells [nV 0, .slice none 0 0, .slice none 0 0, nV 0].toArray 32)) g5 ct.toArray = w5 := hw5
          rw [e5] at f2 f4
          rw [hg5] at f4
          have F5 := Lib.hid f2
          have N5 := Lib.hid f4
          have B5 := Lib.hid (B.out.trans (f4.mono B.out.size))
          have G5 := Lib.hid hg5
          clear f2 f3 f4 hg5 hw5 e5
          obtain ⟨c, hc⟩ : ∃ c, c = baseB t := ⟨_, rfl⟩
          have CK : Hid (Calls Tryd.prog 35 #[.agg ct.toArray] w5 fun e w' => e = .returned (.bool c) ∧ Below w5.heap.size w5 w') := base_all t _ w5 c hc (TA.out _ N5.out) (TS.out t (List.mem_of_getElem? GT.out))
          have HC := Lib.hid hc
          obtain ⟨d, hd⟩ : ∃ d, d = decide (k = 0) := ⟨_, rfl⟩
          have e1 : ((k : Int) == 0) = d := by rw [hd, Bool.eq_iff_iff, beq_iff_eq, decide_eq_true_eq]; omega
          have HD := Lib.hid hd
          clear hc hd
          have q7 : ∀ W, Below w5.heap.size w5 W → W.cell? ⟨5, 0, none⟩ = some (.iface 127 (.pointer (some (E 6)))) := fun W hW => ((HE.out.below B5.out).below hW) 6 (by omega)
          have Q7 := Lib.hid q7
          clear q7
          by_cases hcd : c = d
          · subst hcd
            have e2 : (c != c) = false := by simp
            go_wp2_with (first | ((with_reducible show wpList _ _ _ _ _ _); (refine wpList_load_row rfl 32 (.tmp 7) rfl g5 rfl 32 ct.toArray (0, 0) _ F5.out Tryd.underlying32 rfl (by rw [LC'.out]; kernel_rfl) ?_; go_frame)) | (go_at_call 35; refine CK.out.mono ?_; rintro e w6 ⟨rfl, hb6⟩; have B6 := Lib.hid (B5.out.trans (hb6.mono B5.out.size)); clear hb6))
            go_roundw
            case rel =>
              refine ⟨k + 1, by omega, by go_num, fun j u hj hu => ?_, B6.out⟩
              by_cases hjk : j < k
              · exact HP.out j u hjk hu
              · obtain rfl : j = k := by omega
                rw [GT.out] at hu
                cases hu
                rw [← HC.out, HD.out]
            case measure => simp [intOf]; omega
          · have HCD := Lib.hid hcd
            obtain ⟨rfl, rfl⟩ | ⟨rfl, rfl⟩ : (c = true ∧ d = false) ∨ (c = false ∧ d = true) := by cases c <;> cases d <;> simp_all
            all_goals
              clear hcd
              go_wp2_with (first | ((with_reducible show wpList _ _ _ _ _ _); first | (refine wpList_load_row rfl 32 (.tmp 7) rfl g5 rfl 32 ct.toArray (0, 0) _ F5.out Tryd.underlying32 rfl (by rw [LC'.out]; kernel_rfl) ?_; go_frame) | (refine wpList_buildTo rfl 81 _ rfl _ rfl #[.int .i64 (k : Int), .iface 127 (.pointer (some (E 6)))] (by kernel_rfl) ?_; go_frame)) | (go_at_call 35; refine CK.out.mono ?_; rintro e w6 ⟨rfl, hb6⟩; have B6 := Lib.hid (B5.out.trans (hb6.mono B5.out.size)); have q8 := Q7.out w6 hb6; clear hb6))
              go_ret
              refine ⟨_, rfl, .inr ⟨6, k, w6.heap.size, ?_, rfl, heap_alloc_new _ _⟩, B6.out.alloc B6.out.size _⟩
              rw [eachR_bas H0.out HP.out GT.out (by rw [← HC.out, ← HD.out]; exact HCD.out)]
        · have hkn : k = n := by omega
          have hge : ¬ (k : Int) < (n : Int) := by omega
          have H1 : Hid (∀ (j : Nat) (u : TTx), l[j]? = some u → baseB u = decide (j = 0)) := fun j u hu => HP.out j u (by have := (List.getElem?_eq_some_iff.1 hu).1; have := NN.out; omega) hu
          clear hkn
          go_wp2_with fail
          go_ret
          exact ⟨_, rfl, .inl (by rw [eachR_fine H0.out H1.out]; exact ⟨rfl, rfl⟩), B.out⟩
end Go.Proofs.YtcghbogkplcohaaDoor.Sha

/-
  Package block tells what is amiss with a block, and where. Nothing that was there turns. Conditions: a block of a few transactions that lies in memory; the errors and the table are there.
-/
namespace Go.Proofs.YtcghbogkplcohaaDoor.Sha
open Go Go.RowKit
set_option maxHeartbeats 4000000 in
set_option maxRecDepth 100000 in
theorem blcheck_any (E : Nat → Addr) (x : TBlk) (v : Value) (w : World) (h1 : BlkAt w v x) (hs : BlkSmall x) (hk : KTab w) (hE : ErB w E) :
    Calls Tryd.prog 8 #[v] w fun e w' => ∃ u, e = .returned u ∧ FltV w' E u (blkR x) ∧ Below w.heap.size w w' := by
  have HK := Lib.hid hk
  have HE := Lib.hid hE
  have SZL := Lib.hid (hs.len h1.1)
  clear hk hE
  obtain ⟨hh, tv, rfl, ht⟩ := h1
  obtain ⟨sp, cap, rfl⟩ := ht.shape
  obtain ⟨n, hn⟩ : ∃ n, n = x.txs.length := ⟨_, rfl⟩
  rw [← hn] at ht ⊢
  have hcap : n ≤ cap := ht.len.2
  obtain ⟨cs, hcs⟩ : ∃ cs, cs = blL x.head (.slice sp n cap) := ⟨_, rfl⟩
  rw [← hcs]
  have CS := Lib.hid hcs
  have LCS : Hid (cs.length = 69) := by show _ = _; rw [hcs]; exact blL_length hh _
  have LCS' : Hid (cs.toArray.size = 69) := by show _ = _; rw [hcs]; exact blL_size hh _
  have BV : Hid (∀ W, Below w.heap.size w W → BlkAt W (.agg cs.toArray) x) := fun W hW => by rw [hcs]; exact ⟨hh, _, rfl, ht.below hW⟩
  have HH := Lib.hid hh
  have HT := Lib.hid ht
  have NN := Lib.hid hn
  have TS := Lib.hid hs
  have bn : n ≤ 1000 := by rw [hn]; exact hs.2
  clear hs
  clear hcs hh ht hn
  go_enter Tryd.func8, Tryd.ntmps8
  go_upto_region 1 with fail
  have f0 := heap_alloc_new w (.cells cs.toArray 37 (0, 0))
  have b0 := (Below.refl w.heap.size w).alloc (Nat.le_refl _) (.cells cs.toArray 37 (0, 0))
  generalize hw1 : World.alloc _ _ = w1
  have e1 : w.alloc (.cells cs.toArray 37 (0, 0)) = w1 := hw1
  rw [e1] at f0 b0
  have k0 := f0
  rw [CS.out] at k0
  have K : Hid (BlBox w1 w.heap.size x.head (.slice sp n cap)) := ⟨k0⟩
  have F0 := Lib.hid f0
  have B0 := Lib.hid b0
  clear hw1 e1 f0 b0 k0
  obtain ⟨wk, hwk⟩ : ∃ wk, wk = x.head.work := ⟨_, rfl⟩
  obtain ⟨ce, hce⟩ : ∃ ce, ce = if workB wk then Value.iface 127 (.pointer (some (E 21))) else .nilIface := ⟨_, rfl⟩
  have HC : Hid (Calls Tryd.prog 18 #[.agg (hdL x.head).toArray] w1 fun e w' => e = .returned ce ∧ Below w1.heap.size w1 w') :=
    check_hd x.head HH.out w1 (E 21) ((HE.out.below B0.out) 21 (by omega)) ce (by rw [hce, hwk])
  have HR : Hid (w1.rangeAt w.heap.size 0 (hdL x.head)) := K.out.head
  have HL : Hid ((hdL x.head).length = 68) := hdL_length HH.out
  obtain ⟨hl, hhl⟩ : ∃ hl, hl = hdL x.head := ⟨_, rfl⟩
  rw [← hhl] at HC HR HL
  have WK := Lib.hid hwk
  have CE := Lib.hid hce
  clear hhl hwk hce
  go_upto_region 2 with (first | ((with_reducible show wpList _ _ _ _ _ _); refine wpList_load_mid rfl 28 (.tmp 5) rfl w.heap.size 0 rfl hl _ HR.out Tryd.underlying28 rfl (by rw [HL.out]; kernel_rfl) ?_; go_frame) | (go_at_call 18; refine HC.out.mono ?_; rintro e w2 ⟨rfl, hb2⟩; have B2 := Lib.hid (B0.out.trans (hb2.mono B0.out.size)); have N2 := Lib.hid hb2; clear hb2))
  clear HC HR HL
  by_cases hw : workB wk = true
  · obtain rfl : ce = .iface 127 (.pointer (some (E 21))) := by rw [CE.out, if_pos hw]
    have HW := Lib.hid hw
    clear hw
    go_wp2_with fail
    go_ret
    exact ⟨_, rfl, .inl (by unfold blkR; rw [if_pos (by rw [← WK.out]; exact HW.out)]; exact ⟨rfl, rfl⟩), B2.out⟩
  obtain rfl : ce = .nilIface := by rw [CE.out, if_neg hw]
  have HW : Hid (blkR x = if x.txs.length = 0 ∨ 200 < x.txs.length then (4, none) else if 20000 < (blkB x).length then (3, none)
      else if (eachR x.txs).1 ≠ 0 then eachR x.txs else if twiceB (insAll x.txs) = true then (6, none) else if blRoot x = x.head.root then (0, none) else (8, none)) := by
    show _ = _
    unfold blkR
    rw [if_neg (by rw [← WK.out]; exact hw)]
  clear hw CE
  have c68 : w2.cell? ⟨w.heap.size, 68, none⟩ = some (.slice sp n cap) := (K.out.below N2.out).txs HH.out
  have q3 : w2.cell? ⟨0, 0, none⟩ = some (.iface 127 (.pointer (some (E 3)))) := (HE.out.below B2.out) 3 (by omega)
  have F2 := Lib.hid (row_below F0.out N2.out)
  by_cases hn0 : n = 0
  · subst hn0
    go_wp2_with fail
    go_ret
    exact ⟨_, rfl, .inl (by rw [HW.out, if_pos (.inl NN.out.symm)]; exact ⟨rfl, rfl⟩), B2.out⟩
  have t0 : ((n : Int) == 0) = false := by rw [beq_eq_false_iff_ne]; omega
  by_cases hn2 : 200 < n
  · have t1 : (n : Int) > 200 := by omega
    have HN2 := Lib.hid hn2
    clear hn0 hn2
    go_wp2_with fail
    go_ret
    exact ⟨_, rfl, .inl (by rw [HW.out, if_pos (.inr (by rw [← NN.out]; exact HN2.out))]; exact ⟨rfl, rfl⟩), B2.out⟩
  have t1 : ¬ (n : Int) > 200 := by omega
  have HW2 : Hid (blkR x = if 20000 < (blkB x).length then (3, none)
      else if (eachR x.txs).1 ≠ 0 then eachR x.txs else if twiceB (insAll x.txs) = true then (6, none) else if blRoot x = x.head.root then (0, none) else (8, none)) := by
    show _ = _
    rw [HW.out, if_neg (by rw [← NN.out]; omega)]
  clear HW hn0 hn2
  obtain ⟨sz, hsz⟩ : ∃ sz, sz = (blkB x).length := ⟨_, rfl⟩
  rw [← hsz] at HW2 SZL
  have bsz : sz ≤ 200200000000 := SZL.out
  have SZ : Hid (Calls Tryd.prog 19 #[.agg cs.toArray] w2 fun e w' => e = .returned (.int .i64 (sz : Int)) ∧ Below w2.heap.size w2 w') := by
    rw [hsz]
    exact blsize_any x _ w2 (BV.out w2 B2.out) TS.out
  clear hsz q3
  by_cases h20 : 20000 < sz
  · have t2 : (sz : Int) > 20000 := by omega
    have H20 := Lib.hid h20
    have QL : Hid (∀ W, Below w.heap.size w W → W.cell? ⟨1, 0, none⟩ = some (.iface 127 (.pointer (some (E 2))))) := fun W hW => (HE.out.below hW) 2 (by omega)
    clear h20
    go_wp2_with (first | ((with_reducible show wpList _ _ _ _ _ _); (refine wpList_load_row rfl 37 (.tmp 1) rfl w.heap.size rfl 37 cs.toArray (0, 0) _ F2.out Tryd.underlying37 rfl (by rw [LCS'.out]; kernel_rfl) ?_; go_frame)) | (go_at_call 19; refine SZ.out.mono ?_; rintro e w3 ⟨rfl, hb3⟩; have B3 := Lib.hid (B2.out.trans (hb3.mono B2.out.size)); have q2 := QL.out _ B3.out; clear hb3))
    go_ret
    exact ⟨_, rfl, .inl (by rw [HW2.out, if_pos H20.out]; exact ⟨rfl, rfl⟩), B3.out⟩
  have t2 : ¬ (sz : Int) > 20000 := by omega
  have HW3 : Hid (blkR x = if (eachR x.txs).1 ≠ 0 then eachR x.txs else if twiceB (insAll x.txs) = true then (6, none) else if blRoot x = x.head.root then (0, none) else (8, none)) := by
    show _ = _
    rw [HW2.out, if_neg h20]
  clear HW2 h20
  go_upto_region 9 with (first | ((with_reducible show wpList _ _ _ _ _ _); (refine wpList_load_row rfl 37 (.tmp 1) rfl w.heap.size rfl 37 cs.toArray (0, 0) _ F2.out Tryd.underlying37 rfl (by rw [LCS'.out]; kernel_rfl) ?_; go_frame)) | (go_at_call 19; refine SZ.out.mono ?_; rintro e w3 ⟨rfl, hb3⟩; have B3 := Lib.hid (B2.out.trans (hb3.mono B2.out.size)); have N3 := Lib.hid (N2.out.trans (hb3.mono N2.out.size)); clear hb3))
  clear c68 SZ t0 t1 t2
  have c68 : w3.cell? ⟨w.heap.size, 68, none⟩ = some (.slice sp n cap) := (K.out.below N3.out).txs HH.out
  have EC : Hid (Calls Tryd.prog 20 #[.slice sp n cap] w3 fun e w' => ∃ u, e = .returned u ∧ FltV w' E u (eachR x.txs) ∧ Below w3.heap.size w3 w') :=
    bleach_any E x.txs _ w3 (HT.out.below B3.out) TS.out.1 TS.out.2 (HE.out.below B3.out).e6
  go_wp2_with fail
  refine EC.out.mono ?_
  rintro e w4 ⟨u, rfl, hf, hb4⟩
  have B4 := Lib.hid (B3.out.trans (hb4.mono B3.out.size))
  have N4 := Lib.hid (N3.out.trans (hb4.mono N3.out.size))
  obtain ⟨er, her⟩ : ∃ er, er = eachR x.txs := ⟨_, rfl⟩
  rw [← her] at hf HW3
  clear c68 EC hb4 her
  rcases hf with ⟨hn, hu⟩ | ⟨q, p, g, hr, hu, hg⟩
  · obtain ⟨c, o⟩ := er
    obtain rfl : o = none := hn
    cases c with
    | succ q =>
      obtain rfl : u = .iface 127 (.pointer (some (E q))) := hu
      go_wp2_with fail
      go_ret
      exact ⟨_, rfl, .inl (by rw [HW3.out, if_pos (by simp)]; exact ⟨rfl, rfl⟩), B4.out⟩
    | zero =>
      obtain rfl : u = .nilIface := hu
      have HW4 : Hid (blkR x = if twiceB (insAll x.txs) = true then (6, none) else if blRoot x = x.head.root then (0, none) else (8, none)) := by
        show _ = _
        rw [HW3.out, if_neg (by simp)]
      clear HW3
      go_upto_region 12 with fail
      obtain ⟨tb, htb⟩ : ∃ tb, tb = twiceB (insAll x.txs) := ⟨_, rfl⟩
      rw [← htb] at HW4
      have TB : Hid (Calls Tryd.prog 21 #[.slice sp n cap] w4 fun e w' => e = .returned (.bool tb) ∧ Below w4.heap.size w4 w') :=
        bltwice_any x.txs _ w4 (HT.out.below B4.out) TS.out.1 TS.out.2 tb htb
      have c68 : w4.cell? ⟨w.heap.size, 68, none⟩ = some (.slice sp n cap) := (K.out.below N4.out).txs HH.out
      clear htb
      go_wp2_with fail
      refine TB.out.mono ?_
      rintro e w5 ⟨rfl, hb5⟩
      have B5 := Lib.hid (B4.out.trans (hb5.mono B4.out.size))
      have N5 := Lib.hid (N4.out.trans (hb5.mono N4.out.size))
      clear c68 TB hb5
      cases tb with
      | true =>
        have q5 : w5.cell? ⟨2, 0, none⟩ = some (.iface 127 (.pointer (some (E 5)))) := (HE.out.below B5.out) 5 (by omega)
        go_wp2_with fail
        go_ret
        exact ⟨_, rfl, .inl (by rw [HW4.out, if_pos (by simp)]; exact ⟨rfl, rfl⟩), B5.out⟩
      | false =>
        have HW5 : Hid (blkR x = if blRoot x = x.head.root then (0, none) else (8, none)) := by
          show _ = _
          rw [HW4.out, if_neg (by simp)]
        clear HW4
        go_wp2_with fail
        have K5 := Lib.hid (K.out.below N5.out)
        have F5 := Lib.hid (row_below F0.out N5.out)
        obtain ⟨R, hR⟩ : ∃ R, R = blRoot x := ⟨_, rfl⟩
        obtain ⟨R2, hR2⟩ : ∃ R2, R2 = x.head.root := ⟨_, rfl⟩
        have LR : Hid (R.length = 32) := by show _ = _; rw [hR]; exact blRoot_length x
        have LR2 : Hid (R2.length = 32) := by show _ = _; rw [hR2]; exact HH.out.2.2.1
        rw [← hR, ← hR2] at HW5
        have RC : Hid (∀ W, Below w.heap.size w W → Calls Tryd.prog 7 #[.agg cs.toArray] W fun e w' => e = .returned (.agg (R.map bV).toArray) ∧ Below W.heap.size W w') := fun W hW => by
          rw [hR]
          exact blroot_any x _ W (BV.out W hW) TS.out (HK.out.below hW)
        have RG : Hid (∀ W, Below w5.heap.size w5 W → W.rangeAt w.heap.size 33 (R2.map bV)) := fun W hW => by rw [hR2]; exact (K5.out.below hW).root HH.out
        have LX2 : Hid ((R2.map bV).length = 32) := by show _ = _; rw [List.length_map, LR2.out]
        have QR : Hid (∀ W, Below w.heap.size w W → W.cell? ⟨3, 0, none⟩ = some (.iface 127 (.pointer (some (E 7))))) := fun W hW => (HE.out.below hW) 7 (by omega)
        have nh := run_neq_hash R R2 LR.out LR2.out
        clear hR hR2
        refine wp_region_held_drew (S := (fun w' => Below w5.heap.size w5 w')) (by kernel_rfl) (Below.drew (Below.refl _ _)) (fun hHeld => ?_)
        generalize hwd : w5.drew = wd at hHeld ⊢
        clear hwd
        refine held_take (i := 0) (v := (.agg cs.toArray)) rfl (by kernel_rfl) (by kernel_rfl) (by kernel_rfl) (fun _ _ _ h => h) (yieldsIf_load_row (by rfl) 37 (.tmp 1) rfl w.heap.size rfl 37 cs.toArray (0, 0) _ (fun w' hw' => row_below F5.out hw') Tryd.underlying37 rfl (by rw [LCS'.out]; kernel_rfl)) hHeld ?_
        go_frame
        refine held_take (i := 2) (v := (.pointer (some ⟨w.heap.size, 0, none⟩))) rfl (by kernel_rfl) (by kernel_rfl) (by kernel_rfl) (fun _ _ _ h => h) (Or.inl ⟨by rfl, fun w' _ => by kernel_rfl⟩) hHeld ?_
        go_frame
        refine held_take (i := 3) (v := (.pointer (some ⟨w.heap.size, 33, none⟩))) rfl (by kernel_rfl) (by kernel_rfl) (by kernel_rfl) (fun _ _ _ h => h) (Or.inl ⟨by rfl, fun w' _ => by kernel_rfl⟩) hHeld ?_
        go_frame
        refine held_take (i := 4) (v := (.agg (R2.map bV).toArray)) rfl (by kernel_rfl) (by kernel_rfl) (by kernel_rfl) (fun _ _ _ h => h) (Sha.yieldsIf_load_mid (by rfl) 23 (.tmp 41) rfl w.heap.size (33) rfl (R2.map bV) _ (fun w' hw' => RG.out w' hw') Tryd.underlying23 rfl (by rw [LX2.out]; kernel_rfl)) hHeld ?_
        go_frame
        refine wpAnyH_ready (rs := [1]) (by kernel_rfl) (by simp) (held_cons rfl (fun K hK => ?_) AllReadyH.nil)
        go_simp
        refine (RC.out _ (B5.out.trans (hHeld.mono B5.out.size))).mono ?_
        rintro e v1 ⟨rfl, bb⟩
        have hv1 := hHeld.trans (bb.mono hHeld.size)
        clear bb hHeld
        go_wp2_with fail
        refine hK.out _ _ hv1 (fun hHeld => ?_)
        clear hK K hv1
        refine held_take (i := 5) (v := (.bool (!decide (R = R2)))) rfl (by kernel_rfl) (by kernel_rfl) (by kernel_rfl) (fun _ _ _ h => h) (Or.inl ⟨by rfl, fun w' _ => by go_simp⟩) hHeld ?_
        go_frame
        refine held_take (i := 6) (v := (.bool (!decide (R = R2)))) rfl (by kernel_rfl) (by kernel_rfl) (by kernel_rfl) (fun _ _ _ h => h) (Or.inl ⟨by rfl, fun w' _ => by kernel_rfl⟩) hHeld ?_
        go_frame
        refine wpAnyH_done (by kernel_rfl) ?_ _
        clear nh
        have B6 := Lib.hid (B5.out.trans (hHeld.mono B5.out.size))
        clear hHeld
        by_cases hrr : R = R2
        · have e1 : (!decide (R = R2)) = false := by rw [decide_eq_true hrr]; rfl
          rw [e1]
          have HRR := Lib.hid hrr
          clear hrr e1
          go_wp2_with fail
          go_ret
          exact ⟨_, rfl, .inl (by rw [HW5.out, if_pos HRR.out]; exact ⟨rfl, rfl⟩), B6.out⟩
        · have e1 : (!decide (R = R2)) = true := by rw [decide_eq_false hrr]; rfl
          rw [e1]
          have HRR := Lib.hid hrr
          clear hrr e1
          have q7 := QR.out _ B6.out
          go_wp2_with fail
          go_ret
          exact ⟨_, rfl, .inl (by rw [HW5.out, if_neg HRR.out]; exact ⟨rfl, rfl⟩), B6.out⟩
  · obtain rfl : u = .iface 79 (.pointer (some ⟨g, 0, none⟩)) := hu
    have HG := Lib.hid hg
    have HRr := Lib.hid hr
    clear hg hr
    go_wp2_with fail
    go_ret
    exact ⟨_, rfl, .inr ⟨q, p, g, by rw [HW3.out, HRr.out, if_pos (by simp)], rfl, HG.out⟩, B4.out⟩
end Go.Proofs.YtcghbogkplcohaaDoor.Sha

/-
  What the checks say of a first transaction and of the block that each chain begins with: nothing. No conditions beyond those that each states.
-/
namespace Go.Proofs.YtcghbogkplcohaaDoor.Sha
open Go Go.RowKit
theorem firstT_base (h32 val : Nat) (lock ex : List UInt8) : baseB (firstT h32 val lock ex) = true := by
  show isNullIn (firstX h32 ex) = true
  unfold isNullIn firstX
  rw [zH_null]
  rfl
theorem firstT_bytes {h32 val : Nat} {lock ex : List UInt8} (hl : lock.length = 32) (he : ex.length ≤ 76) : (txB (firstT h32 val lock ex)).length = 95 + ex.length := by
  have e1 : ∀ n, n < 253 → lenN n = 1 := fun n hn => by unfold lenN; rw [if_pos hn]
  simp only [txB, firstT, insB, outsB, inB, outB, firstX, List.flatMap_cons, List.flatMap_nil, List.length_append, leB_length, putL_length, List.length_cons, List.length_nil, zH_length, hl]
  rw [e1 1 (by omega), e1 (4 + ex.length) (by omega)]
  omega
theorem firstT_check {h32 val : Nat} {lock ex : List UInt8} (h1 : h32 ≤ 4294967295) (hv : val ≤ 2100000000000000) (hl : lock.length = 32) (he : ex.length ≤ 76) : checkC (firstT h32 val lock ex) = 0 := by
  rw [chkC_rest (by simp [firstT])]
  have hk : (firstX h32 ex).key.length = 4 + ex.length := by simp [firstX, leB_length]
  have hs : sumIs [val] = true := by
    unfold sumIs
    rw [decide_eq_true_eq, most_eq]
    simp
    omega
  rw [if_neg (by rw [firstT_bytes hl he]; omega), if_neg (by show ¬ 80 < max 0 (firstX h32 ex).key.length; omega), if_neg (by show ¬ sumIs [val] = false; rw [hs]; simp), if_neg (by show ¬ (false || false) = true; simp)]
  have hr : rightB (firstT h32 val lock ex) = true := by
    unfold rightB
    rw [firstT_base, if_pos rfl]
    show (!((decide ((firstX h32 ex).key.length < 4)) || false)) = true
    rw [hk, decide_eq_false (by omega)]
    rfl
  rw [hr, if_pos rfl]
theorem start_len : (blkB startX).length = 176 := by
  rw [blkB_len startX_ok]
  show 80 + lenN 1 + (txB startT ++ []).length = 176
  rw [List.append_nil, show (txB startT).length = 95 from firstT_bytes (sha_length _) (by simp)]
  rfl
theorem one_each {l : List TTx} {t : TTx} (h : l = [t]) (hc : checkC t = 0) (hb : baseB t = true) : eachR l = (0, none) := by
  subst h
  refine eachR_fine (fun j u hu => ?_) (fun j u hu => ?_)
  · cases j with
    | zero => simp at hu; rw [← hu]; exact hc
    | succ j => simp at hu
  · cases j with
    | zero => simp at hu; rw [← hu, hb]; rfl
    | succ j => simp at hu
theorem start_root : blRoot startX = startX.head.root := rfl
theorem start_fine : blkR startX = (0, none) := by
  unfold blkR
  rw [if_neg (by decide), if_neg (by simp [startX]), if_neg (by rw [start_len]; omega), one_each (l := startX.txs) rfl (firstT_check (by omega) (by omega) (sha_length _) (by simp)) (firstT_base _ _ _ _), if_neg (by simp), if_neg (by show ¬ (false || false) = true; simp), if_pos start_root]
set_option maxHeartbeats 2000000 in
set_option maxRecDepth 100000 in
theorem first7 (E : Nat → Addr) (w : World) (hk : KTab w) (hE : ErB w E) : Calls Tryd.prog 4 #[] w fun e w' => e = .returned (.bool true) ∧ Below w.heap.size w w' := by
  have HK := Lib.hid hk
  have HE := Lib.hid hE
  clear hk hE
  go_enter Tryd.func4, Tryd.ntmps4
  go_wp2_with fail
  refine (blstart_any w HK.out).mono ?_
  rintro e w1 ⟨v1, rfl, ha1, hb1⟩
  have B1 := Lib.hid hb1
  have CK : Hid (Calls Tryd.prog 8 #[v1] w1 fun e w' => e = .returned .nilIface ∧ Below w1.heap.size w1 w') := by
    refine (blcheck_any E startX v1 w1 ha1 startX_small (HK.out.below hb1) (HE.out.below hb1)).mono ?_
    rintro e w' ⟨u, rfl, hf, hb⟩
    rw [start_fine] at hf
    rcases hf with ⟨_, rfl⟩ | ⟨q, p, g, h, _⟩
    · exact ⟨rfl, hb⟩
    · cases h
  clear hb1 ha1
  go_wp2_with fail
  refine CK.out.mono ?_
  rintro e w2 ⟨rfl, hb2⟩
  have B2 := Lib.hid (B1.out.trans (hb2.mono B1.out.size))
  clear hb2 CK
  go_wp2_with fail
  refine (blstart_any w2 (HK.out.below B2.out)).mono ?_
  rintro e w3 ⟨v3, rfl, ha3, hb3⟩
  have B3 := Lib.hid (B2.out.trans (hb3.mono B2.out.size))
  have IC : Hid (Calls Tryd.prog 13 #[v3] w3 fun e w' => ∃ sp cap, e = .returned (.slice sp 1 cap) ∧ Below w3.heap.size w3 w') := by
    refine (ids_any startX v3 w3 ha3 startX_small (HK.out.below B3.out)).mono ?_
    rintro e w' ⟨v', rfl, ho, hb⟩
    obtain ⟨sp, cap, rfl⟩ := ho.at.shape
    exact ⟨sp, cap, rfl, hb⟩
  clear hb3 ha3
  go_wp2_with fail
  refine IC.out.mono ?_
  rintro e w4 ⟨sp, cap, rfl, hb4⟩
  have B4 := Lib.hid (B3.out.trans (hb4.mono B3.out.size))
  clear hb4 IC
  go_wp2_with fail
  go_ret
  exact ⟨rfl, B4.out⟩
end Go.Proofs.YtcghbogkplcohaaDoor.Sha

/-
  The blocks that the statement on kinds makes: what is amiss with each, by reckoning. No conditions.
-/
namespace Go.Proofs.YtcghbogkplcohaaDoor.Sha
open Go Go.RowKit
def kdX (i : Nat) : TIn := ⟨hOne, i, [], 0⟩
def kdT (i : Nat) : TTx := ⟨i, [kdX i], [⟨0, zH⟩], 0⟩
/-- The row that is made: the first one, and n - 1 behind it. -/
def kdL (n : Nat) : List TTx := firstT 3 5 zH [] :: (List.range (n - 1)).map fun i => kdT (i + 1)
/-- What is put in place of the one at a place. -/
def kdW (how at' : Nat) (t : TTx) : TTx :=
  if how = 0 then ⟨t.ver, t.ins, [], t.time⟩
  else if how = 1 then (if 0 < at' then firstT at' 1 zH [] else ⟨0, [⟨zH, 77, [], 0⟩], [⟨0, zH⟩], 0⟩)
  else if how = 2 then (if 0 < at' then ⟨t.ver, t.ins ++ t.ins, t.outs, t.time⟩ else t)
  else if 1 < at' then ⟨t.ver, [⟨hOne, 1, [], 0⟩], t.outs, t.time⟩ else t
def kdAt (n i : Nat) : TTx := if i = 0 then firstT 3 5 zH [] else kdT i
def kdC (n at' how : Nat) : List TTx := (kdL n).set at' (kdW how at' (kdAt n at'))
/-- What is amiss then. -/
def kdR (how at' : Nat) : Nat × Option Nat :=
  if how = 0 then (4, some at') else if how = 1 then (7, some at') else if how = 2 then (if 0 < at' then (6, some at') else (0, none)) else if 1 < at' then (6, none) else (0, none)
def rowR (l : List TTx) : Nat × Option Nat :=
  if l.length = 0 ∨ 200 < l.length then (4, none) else if 20000 < 80 + lenN l.length + (txsB l).length then (3, none)
  else if (eachR l).1 ≠ 0 then eachR l else if twiceB (insAll l) = true then (6, none) else (0, none)
theorem blkR_row {x : TBlk} (hh : HdOk x.head) (hw : workB x.head.work = false) (hr : blRoot x = x.head.root) : blkR x = rowR x.txs := by
  unfold blkR rowR
  rw [hw, if_neg (by simp), blkB_len hh, if_pos hr]
def smallB (t : TTx) : Bool := decide (t.ver ≤ 4294967295) && decide (t.time ≤ 4294967295) && decide (t.ins.length ≤ 1000) && decide (t.outs.length ≤ 1000)
  && (t.ins.all fun x => decide (x.h.length = 32) && decide (x.n ≤ 4294967295) && decide (x.seq ≤ 4294967295) && decide (x.key.length ≤ 100000)) && t.outs.all fun y => decide (y.lock.length = 32) && decide (y.val ≤ 18446744073709551615)
theorem smallB_small {t : TTx} (h : smallB t = true) : TxSmall t := by
  unfold smallB at h
  simp only [Bool.and_eq_true, decide_eq_true_eq, List.all_eq_true] at h
  obtain ⟨⟨⟨⟨⟨h1, h2⟩, h3⟩, h4⟩, h5⟩, h6⟩ := h
  exact ⟨⟨⟨h1, h2⟩, fun x hx => ⟨(h5 x hx).1.1.1, (h5 x hx).1.1.2, (h5 x hx).1.2⟩, fun y hy => h6 y hy, fun x hx => Nat.le_trans (h5 x hx).2 (by omega), by omega, by omega⟩, h3, h4, fun x hx => (h5 x hx).2⟩
set_option maxRecDepth 100000 in
theorem kd_row : ∀ n, n < 9 → ∀ at', at' < n + 2 → ∀ how, how < 4 → rowR (kdC (n + 2) at' how) = kdR how at' := by decide +kernel
set_option maxRecDepth 100000 in
theorem kd_smalls : ∀ n, n < 9 → ∀ at', at' < n + 2 → ∀ how, how < 4 → (kdC (n + 2) at' how).all smallB = true := by decide +kernel
theorem kd_small {n at' how : Nat} (hn : n < 9) (ha : at' < n + 2) (hh : how < 4) : ∀ t ∈ kdC (n + 2) at' how, TxSmall t := fun t ht => smallB_small (List.all_eq_true.1 (kd_smalls n hn at' ha how hh) t ht)
theorem kdL_length (n : Nat) (hn : 1 ≤ n) : (kdL n).length = n := by
  unfold kdL
  rw [List.length_cons, List.length_map, List.length_range]
  omega
theorem kdL_succ (n : Nat) (hn : 1 ≤ n) : kdL (n + 1) = kdL n ++ [kdT n] := by
  obtain ⟨m, rfl⟩ : ∃ m, n = m + 1 := ⟨n - 1, by omega⟩
  unfold kdL
  rw [Nat.add_sub_cancel, Nat.add_sub_cancel, List.range_succ, List.map_append]
  rfl
theorem kdL_get {n i : Nat} (h : i < n) : (kdL n)[i]? = some (kdAt n i) := by
  unfold kdL kdAt
  cases i with
  | zero => rfl
  | succ i =>
    rw [List.getElem?_cons_succ, List.getElem?_map, List.getElem?_range (by omega), if_neg (by omega)]
    rfl
theorem kdT_ok (i : Nat) (h : i ≤ 4294967295) : TxOk (kdT i) ∧ InOk (kdX i) := ⟨⟨h, by show 0 ≤ _; omega⟩, rfl, h, by show 0 ≤ _; omega⟩
theorem kdT_base (i : Nat) : baseB (kdT i) = false := by
  show isNullIn (kdX i) = false
  rfl
end Go.Proofs.YtcghbogkplcohaaDoor.Sha

/-
  The transactions that the statement on roots makes: nothing is amiss with one by itself; whether two of them spend one coin hangs on their numbers alone. No conditions beyond those that each states.
-/
namespace Go.Proofs.YtcghbogkplcohaaDoor.Sha
open Go Go.RowKit
def rtX (l : List UInt8) (i : Nat) : TIn := ⟨l, i, [], 0⟩
def rtT (l : List UInt8) (ver n val : Nat) : TTx := ⟨ver, [rtX l n], [⟨val, zH⟩], 0⟩
theorem rtX_null {l : List UInt8} {n : Nat} (hn : n ≤ 1000) : isNullIn (rtX l n) = false := by
  unfold isNullIn rtX
  rw [show decide (n = 4294967295) = false from decide_eq_false (by omega), Bool.and_false]
theorem rtT_base {l : List UInt8} {ver n val : Nat} (hn : n ≤ 1000) : baseB (rtT l ver n val) = false := rtX_null hn
theorem rtT_bytes {l : List UInt8} {ver n val : Nat} (hl : l.length = 32) : (txB (rtT l ver n val)).length = 91 := by
  have e1 : ∀ n, n < 253 → lenN n = 1 := fun n hn => by unfold lenN; rw [if_pos hn]
  simp only [txB, rtT, insB, outsB, inB, outB, rtX, List.flatMap_cons, List.flatMap_nil, List.length_append, leB_length, putL_length, List.length_cons, List.length_nil, zH_length, hl]
  rw [e1 1 (by omega), e1 0 (by omega)]
theorem rtT_check {l : List UInt8} {ver n val : Nat} (hl : l.length = 32) (hn : n ≤ 1000) (hv : val ≤ 1000) : checkC (rtT l ver n val) = 0 := by
  rw [chkC_rest (by simp [rtT])]
  have hs : sumIs [val] = true := by
    unfold sumIs
    rw [decide_eq_true_eq, most_eq]
    simp
    omega
  rw [if_neg (by rw [rtT_bytes hl]; omega), if_neg (by show ¬ 80 < max 0 (rtX l n).key.length; simp [rtX]), if_neg (by show ¬ sumIs [val] = false; rw [hs]; simp), if_neg (by show ¬ (false || false) = true; simp)]
  have hr : rightB (rtT l ver n val) = true := by
    unfold rightB
    rw [rtT_base hn]
    show (!(isNullIn (rtX l n) || false)) = true
    rw [rtX_null hn]
    rfl
  rw [hr, if_pos rfl]
def twiceN : List Nat → Bool
  | [] => false
  | n :: l => l.any (fun m => decide (n = m)) || twiceN l
theorem rt_any {l : List UInt8} {n : Nat} : ∀ ns : List Nat, (ns.map (rtX l)).any (samePtIn (rtX l n)) = ns.any (fun m => decide (n = m))
  | [] => rfl
  | m :: ns => by
    have ih := rt_any (l := l) (n := n) ns
    have e : samePtIn (rtX l n) (rtX l m) = decide (n = m) := by
      unfold samePtIn rtX
      simp
    show (samePtIn (rtX l n) (rtX l m) || (ns.map (rtX l)).any (samePtIn (rtX l n))) = (decide (n = m) || ns.any (fun m => decide (n = m)))
    rw [ih, e]
theorem rt_twice {l : List UInt8} : ∀ ns : List Nat, twiceB (ns.map (rtX l)) = twiceN ns
  | [] => rfl
  | n :: ns => by
    show ((ns.map (rtX l)).any (samePtIn (rtX l n)) || twiceB (ns.map (rtX l))) = (ns.any (fun m => decide (n = m)) || twiceN ns)
    rw [rt_any, rt_twice ns]
/-- The first one has another place than all of them. -/
theorem rt_first {l : List UInt8} {h32 : Nat} {ex : List UInt8} : ∀ ns : List Nat, (∀ n ∈ ns, n ≤ 1000) → (ns.map (rtX l)).any (samePtIn (firstX h32 ex)) = false
  | [], _ => rfl
  | n :: ns, h => by
    have ih := rt_first (l := l) (h32 := h32) (ex := ex) ns (fun m hm => h m (List.mem_cons_of_mem _ hm))
    have h1 := h n List.mem_cons_self
    have e : samePtIn (firstX h32 ex) (rtX l n) = false := by
      unfold samePtIn firstX rtX
      rw [show decide ((4294967295 : Nat) = n) = false from decide_eq_false (by omega), Bool.and_false]
    show (samePtIn (firstX h32 ex) (rtX l n) || (ns.map (rtX l)).any (samePtIn (firstX h32 ex))) = false
    rw [ih, e]
    rfl
end Go.Proofs.YtcghbogkplcohaaDoor.Sha

/-
  The rows of transactions that the statement on roots makes: what is amiss with each hangs on their numbers, and on the root. No conditions beyond those that each states.
-/
namespace Go.Proofs.YtcghbogkplcohaaDoor.Sha
open Go Go.RowKit
abbrev Tri := Nat × Nat × Nat
/-- The ones behind the first: version, number, value of each. -/
def rtXs (m : Nat) : List Tri := (List.range (m - 1)).map fun i => (i + 1, i + 1, i + 1)
def rtU (l : List UInt8) (x : Tri) : TTx := rtT l x.1 x.2.1 x.2.2
def rtL (l : List UInt8) (xs : List Tri) : List TTx := firstT 3 5 l [] :: xs.map (rtU l)
/-- What becomes of them. -/
def rtYs (m a h : Nat) : List Tri :=
  if h = 0 then (rtXs m).set (a - 1) (a, a, 1000) else if h = 1 then (rtXs m).take (a - 1) else if h = 2 then rtXs m ++ [(a, a, a)] else (rtXs m).set (a - 1) (77, a % (m - 1) + 1, a)
def rtTw (m a h : Nat) : Bool := decide (h = 2) || (decide (h = 3) && decide (a % (m - 1) + 1 ≠ a))
def triB (x : Tri) : Bool := decide (x.1 ≤ 1000) && decide (x.2.1 ≤ 1000) && decide (x.2.2 ≤ 1000)
def numsB (xs : List Tri) : List Nat := xs.map (·.2.1)
set_option maxRecDepth 100000 in
theorem rt_nums0 : ∀ m, m < 11 → ∀ a, a < m + 1 → ∀ h, h < 4 → (decide (twiceN (numsB (rtYs (m + 2) (a + 1) h)) = rtTw (m + 2) (a + 1) h) && (rtYs (m + 2) (a + 1) h).all triB && decide ((rtYs (m + 2) (a + 1) h).length ≤ 20)) = true := by decide +kernel
set_option maxRecDepth 100000 in
theorem rt_base0 : ∀ m, m < 11 → (decide (twiceN (numsB (rtXs (m + 2))) = false) && (rtXs (m + 2)).all triB && decide ((rtXs (m + 2)).length ≤ 20)) = true := by decide +kernel
def TriOk (xs : List Tri) : Prop := (∀ x ∈ xs, x.1 ≤ 1000 ∧ x.2.1 ≤ 1000 ∧ x.2.2 ≤ 1000) ∧ xs.length ≤ 20
theorem tri_ok {xs : List Tri} (h : xs.all triB = true) (hl : xs.length ≤ 20) : TriOk xs := ⟨fun x hx => by
  have := List.all_eq_true.1 h x hx
  simp only [triB, Bool.and_eq_true, decide_eq_true_eq] at this
  exact ⟨this.1.1, this.1.2, this.2⟩, hl⟩
theorem rt_nums {m a h : Nat} (hm : 2 ≤ m ∧ m ≤ 12) (ha : 1 ≤ a ∧ a < m) (hh : h < 4) : twiceN (numsB (rtYs m a h)) = rtTw m a h ∧ TriOk (rtYs m a h) := by
  have := rt_nums0 (m - 2) (by omega) (a - 1) (by omega) h hh
  rw [show m - 2 + 2 = m by omega, show a - 1 + 1 = a by omega] at this
  simp only [Bool.and_eq_true, decide_eq_true_eq] at this
  exact ⟨this.1.1, tri_ok this.1.2 this.2⟩
theorem rt_base {m : Nat} (hm : 2 ≤ m ∧ m ≤ 12) : twiceN (numsB (rtXs m)) = false ∧ TriOk (rtXs m) := by
  have := rt_base0 (m - 2) (by omega)
  rw [show m - 2 + 2 = m by omega] at this
  simp only [Bool.and_eq_true, decide_eq_true_eq] at this
  exact ⟨this.1.1, tri_ok this.1.2 this.2⟩
theorem rtXs_length (m : Nat) : (rtXs m).length = m - 1 := by simp [rtXs]
theorem rtXs_get {m i : Nat} (h : i < m - 1) : (rtXs m)[i]? = some (i + 1, i + 1, i + 1) := by
  unfold rtXs
  rw [List.getElem?_map, List.getElem?_range h]
  rfl
theorem rtL_succ (l : List UInt8) (m : Nat) (hm : 1 ≤ m) : rtL l (rtXs (m + 1)) = rtL l (rtXs m) ++ [rtT l m m m] := by
  obtain ⟨k, rfl⟩ : ∃ k, m = k + 1 := ⟨m - 1, by omega⟩
  unfold rtL rtXs
  rw [Nat.add_sub_cancel, Nat.add_sub_cancel, List.range_succ, List.map_append, List.map_append]
  rfl
theorem rtL_length (l : List UInt8) (xs : List Tri) : (rtL l xs).length = xs.length + 1 := by simp [rtL]
theorem rtU_bytes {l : List UInt8} (hl : l.length = 32) : ∀ xs : List Tri, (txsB (xs.map (rtU l))).length = 91 * xs.length
  | [] => rfl
  | x :: xs => by
    have ih := rtU_bytes hl xs
    show (txB (rtU l x) ++ txsB (xs.map (rtU l))).length = _
    rw [List.length_append, ih, show (txB (rtU l x)).length = 91 from rtT_bytes hl, List.length_cons]
    omega
theorem rtU_ins (l : List UInt8) : ∀ xs : List Tri, insAll (xs.map (rtU l)) = (numsB xs).map (rtX l)
  | [] => rfl
  | x :: xs => by
    have ih := rtU_ins l xs
    show rtX l x.2.1 :: insAll (xs.map (rtU l)) = _
    rw [ih]
    rfl
theorem rtL_each {l : List UInt8} (hl : l.length = 32) {xs : List Tri} (h : TriOk xs) : eachR (rtL l xs) = (0, none) := by
  have hb : ∀ u ∈ xs.map (rtU l), checkC u = 0 ∧ baseB u = false := fun u hu => by
    obtain ⟨x, hx, rfl⟩ := List.mem_map.1 hu
    have := h.1 x hx
    exact ⟨rtT_check hl this.2.1 this.2.2, rtT_base this.2.1⟩
  have h1 : chkAt 0 (rtL l xs) = none := chkAt_none _ 0 (fun j t hj => by
    cases j with
    | zero =>
      cases hj
      exact firstT_check (by omega) (by omega) hl (by simp)
    | succ j => exact (hb t (List.mem_of_getElem? (by simpa [rtL] using hj))).1)
  have h2 : basAt 0 (rtL l xs) = none := basAt_none _ 0 (fun j t hj => by
    cases j with
    | zero =>
      cases hj
      exact (firstT_base _ _ _ _).trans (by decide)
    | succ j =>
      rw [(hb t (List.mem_of_getElem? (by simpa [rtL] using hj))).2]
      exact (decide_eq_false (by omega)).symm)
  unfold eachR
  rw [h1, h2]
/-- What is amiss but for the root. -/
theorem rtL_row {l : List UInt8} (hl : l.length = 32) {xs : List Tri} (h : TriOk xs) : rowR (rtL l xs) = if twiceN (numsB xs) = true then (6, none) else (0, none) := by
  have e1 : lenN (xs.length + 1) = 1 := by unfold lenN; rw [if_pos (by have := h.2; omega)]
  have e2 : (txsB (rtL l xs)).length = 95 + 91 * xs.length := by
    show (txB (firstT 3 5 l []) ++ txsB (xs.map (rtU l))).length = _
    rw [List.length_append, rtU_bytes hl, firstT_bytes hl (by simp)]
    rfl
  have e3 : twiceB (insAll (rtL l xs)) = twiceN (numsB xs) := by
    show twiceB (firstX 3 [] :: insAll (xs.map (rtU l))) = _
    rw [rtU_ins]
    show (((numsB xs).map (rtX l)).any (samePtIn (firstX 3 [])) || twiceB ((numsB xs).map (rtX l))) = _
    rw [rt_first _ (fun n hn => by obtain ⟨x, hx, rfl⟩ := List.mem_map.1 hn; exact (h.1 x hx).2.1), rt_twice]
    rfl
  unfold rowR
  have hn := h.2
  rw [if_neg (by rw [rtL_length]; omega), if_neg (by rw [rtL_length, e1, e2]; omega), rtL_each hl h, if_neg (by simp), e3]
theorem rtL_small {l : List UInt8} (hl : l.length = 32) {xs : List Tri} (h : TriOk xs) (hd : THd) : BlkSmall ⟨hd, rtL l xs⟩ := by
  refine ⟨fun t ht => ?_, by show (rtL l xs).length ≤ _; rw [rtL_length]; have := h.2; omega⟩
  rcases List.mem_cons.1 ht with rfl | ht
  · exact firstT_came (by omega) (by omega) hl (by simp)
  · obtain ⟨x, hx, rfl⟩ := List.mem_map.1 ht
    have := h.1 x hx
    refine smallB_small ?_
    simp only [smallB, rtU, rtT, rtX, List.all_cons, List.all_nil, List.length_cons, List.length_nil, Bool.and_eq_true, Bool.and_true, decide_eq_true_eq, zH_length, hl]
    repeat' apply And.intro
    all_goals first | trivial | omega | exact decide_eq_true (by omega)
theorem rtT_ok (l : List UInt8) {ver n val : Nat} (h : ver ≤ 1000) : TxOk (rtT l ver n val) := ⟨by show ver ≤ _; omega, by show 0 ≤ _; omega⟩
/-- With the row as it should be the root alone tells. -/
theorem blkR_row0 {x : TBlk} (hh : HdOk x.head) (hw : workB x.head.work = false) (h : rowR x.txs = (0, none)) : blkR x = if blRoot x = x.head.root then (0, none) else (8, none) := by
  unfold rowR at h
  unfold blkR
  rw [hw, if_neg (by simp), blkB_len hh]
  split at h
  · cases h
  · rename_i h1
    rw [if_neg h1]
    split at h
    · cases h
    · rename_i h2
      rw [if_neg h2]
      split at h
      · rename_i h3
        rw [h] at h3
        exact absurd rfl h3
      · rename_i h3
        rw [if_neg h3]
        split at h
        · cases h
        · rename_i h4
          rw [if_neg h4]
theorem blkR_row6 {x : TBlk} (hh : HdOk x.head) (hw : workB x.head.work = false) (h : rowR x.txs = (6, none)) : blkR x = (6, none) := by
  unfold rowR at h
  unfold blkR
  rw [hw, if_neg (by simp), blkB_len hh]
  split at h
  · cases h
  · rename_i h1
    rw [if_neg h1]
    split at h
    · cases h
    · rename_i h2
      rw [if_neg h2]
      split at h
      · rename_i h3
        rw [if_pos h3, h]
      · rename_i h3
        rw [if_neg h3]
        split at h
        · rename_i h4
          rw [if_pos h4]
        · cases h
end Go.Proofs.YtcghbogkplcohaaDoor.Sha

/-
  Rows of transactions of one's own: each element's inputs and outputs stand on blocks of an interval of its own. No conditions.
-/
namespace Go.Proofs.YtcghbogkplcohaaDoor.Sha
open Go Go.RowKit
/-- An element: the transaction, its two slices, the interval of blocks that these stand on. -/
structure ETx where
  t : TTx
  iv : Value
  ov : Value
  lo : Nat
  hi : Nat
def ETx.cells (e : ETx) : List Value := txL e.t e.iv e.ov
def esL (es : List ETx) : List Value := es.flatMap ETx.cells
theorem esL_snoc (es : List ETx) (e : ETx) : esL (es ++ [e]) = esL es ++ e.cells := by simp [esL]
theorem esL_length : ∀ es : List ETx, (esL es).length = es.length * 4
  | [] => rfl
  | e :: es => by
    have ih := esL_length es
    show (e.cells ++ esL es).length = _
    rw [List.length_append, ih, List.length_cons]
    show 4 + _ = _
    omega
theorem esL_get : ∀ (es : List ETx) (i : Nat) (e : ETx), es[i]? = some e → ∀ j, j < 4 → (esL es)[i * 4 + j]? = e.cells[j]?
  | z :: es, 0, e, h, j, hj => by
    simp only [List.getElem?_cons_zero, Option.some.injEq] at h
    subst h
    show (z.cells ++ esL es)[0 * 4 + j]? = _
    rw [Nat.zero_mul, Nat.zero_add, List.getElem?_append_left (show j < z.cells.length from hj)]
  | z :: es, i + 1, e, h, j, hj => by
    rw [List.getElem?_cons_succ] at h
    show (z.cells ++ esL es)[(i + 1) * 4 + j]? = _
    rw [List.getElem?_append_right (show z.cells.length ≤ _ by show 4 ≤ _; omega), show (i + 1) * 4 + j - z.cells.length = i * 4 + j by show _ - 4 = _; omega]
    exact esL_get es i e h j hj
theorem esL_set : ∀ (es : List ETx) (i j : Nat) (e e' : ETx) (u : Value), es[i]? = some e → j < 4 → e'.cells = e.cells.set j u → (esL es).set (i * 4 + j) u = esL (es.set i e')
  | z :: es, 0, j, e, e', u, h, hj, hc => by
    simp only [List.getElem?_cons_zero, Option.some.injEq] at h
    subst h
    show (z.cells ++ esL es).set (0 * 4 + j) u = e'.cells ++ esL es
    rw [Nat.zero_mul, Nat.zero_add, List.set_append_left (h := show j < z.cells.length from hj), hc]
  | z :: es, i + 1, j, e, e', u, h, hj, hc => by
    rw [List.getElem?_cons_succ] at h
    show (z.cells ++ esL es).set ((i + 1) * 4 + j) u = z.cells ++ esL (es.set i e')
    rw [List.set_append_right (h := show z.cells.length ≤ _ by show 4 ≤ _; omega), show (i + 1) * 4 + j - z.cells.length = i * 4 + j by show _ - 4 = _; omega, esL_set es i j e e' u h hj hc]
/-- An own row whose elements read so is a row of transactions. -/
theorem TxsAt.of_own {w : World} {base : Nat} {v : Value} {es : List ETx} (h : w.ownsRow base 32 4 v es.length (esL es)) (ho : ∀ e ∈ es, TxOk e.t ∧ InsAt w e.iv e.t.ins ∧ OutsAt w e.ov e.t.outs) : TxsAt w v (es.map (·.t)) := by
  rcases h.2 with ⟨rfl, hn⟩ | ⟨g, cap, cur, rfl, _, hg, hc, _, hs, hx⟩
  · obtain rfl : es = [] := List.eq_nil_of_length_eq_zero hn
    exact TxsAt.nil _ _ _
  · refine ⟨_, _, by rw [List.length_map], by rw [List.length_map]; exact hc, fun _ => ⟨g, 0, rfl, fun i t ht => ?_⟩⟩
    rw [List.getElem?_map] at ht
    obtain ⟨e, he, rfl⟩ := Option.map_eq_some_iff.1 ht
    obtain ⟨h1, h2, h3⟩ := ho e (List.mem_of_getElem? he)
    refine ⟨h1, e.iv, e.ov, fun j u hj => ?_, h2, h3⟩
    have hj4 : j < 4 := (List.getElem?_eq_some_iff.1 hj).1
    have hi : i < es.length := (List.getElem?_eq_some_iff.1 he).1
    rw [Nat.zero_add, cell_of_row _ _ _ _ _ _ hg, ← Array.getElem?_toList]
    have e1 := esL_get es i e he j hj4
    rw [← hx, List.getElem?_take_of_lt (by omega)] at e1
    rw [e1]
    exact hj
/-- The row's shape, its block. -/
theorem own_blk {w : World} {base n size : Nat} {e : TypeId} {v : Value} {xs : List Value} (h : w.ownsRow base e size v n xs) (h0 : 0 < n) : ∃ g cap, v = .slice (some ⟨g, 0, none⟩) n cap ∧ base ≤ g ∧ g < w.heap.size ∧ n ≤ cap := by
  rcases h.2 with ⟨_, hn⟩ | ⟨g, cap, cur, rfl, hb, hg, hc, _⟩
  · omega
  · exact ⟨g, cap, rfl, hb, (Array.getElem?_eq_some_iff.1 hg).1, hc⟩
theorem own_range {w : World} {base n g cap size : Nat} {e : TypeId} {xs : List Value} (h : w.ownsRow base e size (.slice (some ⟨g, 0, none⟩) n cap) n xs) : w.rangeAt g 0 xs := by
  rcases h.2 with ⟨hv, _⟩ | ⟨g', cap', cur, hv, _, hg, _, _, _, hx⟩
  · cases hv
  · cases hv
    intro j u hj
    rw [Nat.zero_add, cell_of_row _ _ _ _ _ _ hg, ← Array.getElem?_toList]
    rw [← hx] at hj
    have := (List.getElem?_eq_some_iff.1 hj).1
    rw [List.getElem?_take_of_lt (by rw [List.length_take] at this; omega)] at hj
    exact hj
structure RowT (P : ETx → World → Prop) (base : Nat) (w : World) (v : Value) (es : List ETx) : Prop where
  own : w.ownsRow base 32 4 v es.length (esL es)
  ok : ∀ e ∈ es, TxOk e.t ∧ e.hi ≤ w.heap.size ∧ Sty (fun k => e.lo ≤ k ∧ k < e.hi) w (P e)
  apart : es.Pairwise (fun a b => a.hi ≤ b.lo)
  out : ∀ q, v.ownBlock = some q → ∀ e ∈ es, q < e.lo ∨ e.hi ≤ q
section
variable {P : ETx → World → Prop} {base : Nat} {w w' : World} {v v' : Value} {es : List ETx}
theorem RowT.nil : RowT P base w (.slice none 0 0) [] := ⟨World.ownsRow_nil _ _ _ _, fun e he => absurd he (by simp), List.Pairwise.nil, fun q hq => by simp [Value.ownBlock] at hq⟩
theorem RowT.at (h : RowT P base w v es) (hP : ∀ e W, P e W → InsAt W e.iv e.t.ins ∧ OutsAt W e.ov e.t.outs) : TxsAt w v (es.map (·.t)) :=
  TxsAt.of_own h.own fun e he => ⟨(h.ok e he).1, hP e w (h.ok e he).2.2.now⟩
theorem RowT.far {q : Option Nat} (h : RowT P base w v es) (hg : w.grownBy w' q) (h1 : v.ownBlock = none ∨ v.ownBlock ≠ q) (h2 : ∀ k, q = some k → ∀ e ∈ es, k < e.lo ∨ e.hi ≤ k) : RowT P base w' v es :=
  ⟨h.own.kept hg h1, fun e he => ⟨(h.ok e he).1, Nat.le_trans (h.ok e he).2.1 hg.size, (h.ok e he).2.2.on (Kps.grown hg fun k _ hk e2 => by
    have := h2 k e2.symm e he
    omega)⟩, h.apart, h.out⟩
theorem RowT.keep (h : RowT P base w v es) (hb : Below w.heap.size w w') : RowT P base w' v es :=
  ⟨own_kept h.own hb, fun e he => ⟨(h.ok e he).1, Nat.le_trans (h.ok e he).2.1 hb.size, (h.ok e he).2.2.on (Kps.new hb)⟩, h.apart, h.out⟩
theorem RowT.push (h : RowT P base w v es) {e : ETx} (ht : TxOk e.t) (hh : e.hi ≤ w.heap.size) (hp : Sty (fun k => e.lo ≤ k ∧ k < e.hi) w (P e)) (ha : ∀ a ∈ es, a.hi ≤ e.lo) (ho : ∀ q, v.ownBlock = some q → q < e.lo ∨ e.hi ≤ q)
    (hown : w'.ownsRow base 32 4 v' (es.length + 1) (esL es ++ e.cells)) (hg : w.grownBy w' v.ownBlock) (hat : v'.ownBlock = v.ownBlock ∨ v'.ownBlock = some w.heap.size) : RowT P base w' v' (es ++ [e]) := by
  have hall : ∀ a ∈ es ++ [e], TxOk a.t ∧ a.hi ≤ w.heap.size ∧ Sty (fun k => a.lo ≤ k ∧ k < a.hi) w (P a) ∧ ∀ q, v.ownBlock = some q → q < a.lo ∨ a.hi ≤ q := fun a hm => by
    rcases List.mem_append.1 hm with hm | hm
    · exact ⟨(h.ok a hm).1, (h.ok a hm).2.1, (h.ok a hm).2.2, fun q hq => h.out q hq a hm⟩
    · rw [List.mem_singleton.1 hm]
      exact ⟨ht, hh, hp, ho⟩
  refine ⟨by rw [esL_snoc, List.length_append]; exact hown, fun a hm => ?_, ?_, fun q hq a hm => ?_⟩
  · obtain ⟨h1, h2, h3, h4⟩ := hall a hm
    exact ⟨h1, Nat.le_trans h2 hg.size, h3.on (Kps.grown hg fun k _ hk e2 => by have := h4 k e2.symm; omega)⟩
  · rw [List.pairwise_append]
    refine ⟨h.apart, List.pairwise_singleton _ _, fun a hm b hb => ?_⟩
    rw [List.mem_singleton.1 hb]
    exact ha a hm
  · obtain ⟨h1, h2, h3, h4⟩ := hall a hm
    rcases hat with h5 | h5
    · exact h4 q (by rw [← h5]; exact hq)
    · rw [h5] at hq
      have := Option.some.inj hq
      exact .inr (by omega)
/-- Of two elements neither's interval meets the other's. -/
theorem RowT.two (h : RowT P base w v es) {i j : Nat} {a b : ETx} (hi : es[i]? = some a) (hj : es[j]? = some b) (hne : i ≠ j) : a.hi ≤ b.lo ∨ b.hi ≤ a.lo := by
  have hp := List.pairwise_iff_getElem.1 h.apart
  obtain ⟨h1, rfl⟩ := List.getElem?_eq_some_iff.1 hi
  obtain ⟨h2, rfl⟩ := List.getElem?_eq_some_iff.1 hj
  rcases Nat.lt_or_gt_of_ne hne with h3 | h3
  · exact .inl (hp i j h1 h2 h3)
  · exact .inr (hp j i h2 h1 h3)
end
end Go.Proofs.YtcghbogkplcohaaDoor.Sha
