/-
  Texts of this proof joined into one file: SqNeed, TxBuilds, TxLits, SqM2, SqMet, PsRow, SqSt, SqFirst, SmSt. What each holds, and under which conditions, its own first sentence tells.
-/
import Derived.Maps.OwnSet
import Derived.DeepKeys4
import Derived.Great.BuildSlice
import Derived.LaidEql
import Derived.Deep.DeepFit
import Derived.Test.YtmdbhpkfldnodaaMh02
import Derived.Test.YtmdbhpkfldnodaaMh01
/-
  The project's own: until when a transaction has to wait. Nothing that was there turns. Conditions: the transaction and the rows lie in memory, at most a million inputs, heights from -1 on.
-/
namespace Go.Proofs.Ytmdbhpkfldnodaa.Sha
open Go Go.RowKit
theorem info_i64 : (Try.prog.info? 2).map (fun i => (i.zero, i.size, i.bytes)) = some (some (.int .i64 0), 1, 8) := by kernel_rfl
theorem intC_one (x : Int) : ∀ v ∈ intC x, v.oneCell' = true := by
  intro v hv
  obtain rfl := List.mem_singleton.1 hv
  rfl
def SqI (E : List (Nat × Int × Nat)) (n : Nat) (w : World) (vh vp vi : Value) (wr : World) : Prop :=
  ∃ (i : Nat) (ah ap : Value), ah = vh ∧ ap = vp ∧ vi = .int .i64 (i : Int) ∧ i ≤ n ∧ RwOwn 1 2 w.heap.size wr ah ((hLs (E.take i)).map intC) ∧ RwOwn 1 2 w.heap.size wr ap ((pLs (E.take i)).map intC) ∧ (ah.ownBlock = none ∨ ah.ownBlock ≠ ap.ownBlock) ∧ Below w.heap.size w wr
/-- What Need answers. -/
def sqV (t : TTx) (hs : List Int) (ps : List Nat) : Int × Int := if t.ver < 2 then (-1, -1) else (grI (hLs (needE t hs ps)), grI (pLs (needE t hs ps)))
theorem sqV_needL {t : TTx} {hs : List Int} {ps : List Nat} (h : ∀ x ∈ hs, 0 ≤ x ∧ x ≤ 1099511627776) : sqV t hs ps = needL t hs ps := by
  unfold sqV needL
  by_cases hv : t.ver < 2
  · rw [if_pos hv, if_pos hv]
  · rw [if_neg hv, if_neg hv]
    refine need_gr (fun e he => ?_)
    unfold needE at he
    obtain ⟨_, h2⟩ := List.of_mem_zip (a := e.1) (b := e.2) he
    obtain ⟨h3, _⟩ := List.of_mem_zip (a := e.2.1) (b := e.2.2) h2
    exact h _ h3
set_option maxHeartbeats 4000000 in
set_option maxRecDepth 100000 in
theorem sqneed_any (w : World) (v vh vp : Value) (t : TTx) (hs : List Int) (ps : List Nat) (h : TxAt w v t) (hh : RwAt 1 w vh (hs.map intC)) (hp : RwAt 1 w vp (ps.map u32C)) (hl1 : hs.length = t.ins.length) (hl2 : ps.length = t.ins.length) (hm : t.ins.length ≤ 1000000) (hho : ∀ x ∈ hs, HtOk x) (hb : ∀ p ∈ ps, p ≤ 4294967295) :
    Calls Try.prog 8 #[v, vh, vp] w fun e w' => e = .returned (.tuple #[.int .i64 (sqV t hs ps).1, .int .i64 (sqV t hs ps).2, .bool true]) ∧ Below w.heap.size w w' := by
  obtain ⟨i0, hi, hz0, hz1, hz2⟩ := info_parts info_i64
  obtain ⟨_, iv, ov, rfl, hin, hou⟩ := h
  have TONE : Hid ((txL t iv ov).toArray.all (·.oneCell') = true) := tx_one hin hou
  have LT : Hid ((txL t iv ov).toArray.size = 4) := rfl
  have CO : Hid (∀ (W : World) (g : Nat), W.heap[g]? = some (.cells (txL t iv ov).toArray 35 (0, 0)) → W.cell? ⟨g, 0, none⟩ = some (.int .u32 (t.ver : Int)) ∧ W.cell? ⟨g, 1, none⟩ = some iv) := fun W g hg => ⟨(tx_cells hg).1, (tx_cells hg).2.1⟩
  obtain ⟨si, ci, rfl, _, hgi⟩ := hin
  obtain ⟨sh, ch, rfl⟩ := hh.shape
  obtain ⟨sp, cp, rfl⟩ := hp.shape
  simp only [List.length_map] at hh hp ⊢
  rw [hl1] at hh ⊢
  rw [hl2] at hp ⊢
  obtain ⟨n, hn⟩ : ∃ n, n = t.ins.length := ⟨_, rfl⟩
  rw [← hn] at hl1 hl2 hh hp hm CO TONE LT hgi ⊢
  have N := Lib.hid hn
  have HI := Lib.hid hgi
  have HH := Lib.hid hh
  have HP := Lib.hid hp
  have L1 := Lib.hid hl1
  have L2 := Lib.hid hl2
  have HPB := Lib.hid hb
  have HHO := Lib.hid hho
  have NM := Lib.hid hm
  obtain ⟨E, hE⟩ : ∃ E, E = needE t hs ps := ⟨_, rfl⟩
  have EL : Hid (E.length = n) := by show _ = _; rw [hE]; unfold needE; simp; omega
  have EG : Hid (∀ (i : Nat) (x : TIn) (h : Int) (p : Nat), t.ins[i]? = some x → hs[i]? = some h → ps[i]? = some p → E[i]? = some (x.seq, h, p)) := fun i x h p h1 h2 h3 => by rw [hE]; exact needE_get h1 h2 h3
  have NE : Hid (sqV t hs ps = if t.ver < 2 then (-1, -1) else (grI (hLs E), grI (pLs E))) := by rw [hE]; rfl
  obtain ⟨R, hR⟩ : ∃ R, R = sqV t hs ps := ⟨_, rfl⟩
  rw [← hR] at NE ⊢
  obtain ⟨vr, hvr⟩ : ∃ vr, vr = t.ver := ⟨_, rfl⟩
  rw [← hvr] at NE CO
  obtain ⟨ct, hct⟩ : ∃ ct, ct = txL t (.slice si n ci) ov := ⟨_, rfl⟩
  rw [← hct] at TONE LT CO ⊢
  clear hn hgi hh hp hl1 hl2 hE hR hvr hct hou hb hho hm
  go_enter Try.func8, Try.ntmps8
  go_upto_region 1 with fail
  have f3 := heap_alloc_new w (.cells ct.toArray 35 (0, 0))
  have b1 := (Below.refl w.heap.size w).alloc (Nat.le_refl _) (.cells ct.toArray 35 (0, 0))
  generalize hw1 : World.alloc _ _ = w1
  have e1 : w.alloc (.cells ct.toArray 35 (0, 0)) = w1 := hw1
  rw [e1] at f3 b1
  obtain ⟨g3, hg3⟩ : ∃ g3, g3 = w.heap.size := ⟨_, rfl⟩
  rw [← hg3] at f3 ⊢
  have F3 := Lib.hid f3
  have B1 := Lib.hid b1
  have c0 := (CO.out _ _ F3.out).1
  have c1 := (CO.out _ _ F3.out).2
  clear f3 b1 hw1 e1 hg3
  by_cases hv2 : vr < 2
  · have v2 : (vr : Int) < 2 := by omega
    have RE : Hid (R = (-1, -1)) := by show _ = _; rw [NE.out, if_pos hv2]
    clear hv2
    go_wp2_with fail
    refine bodyPost_ret (results_t3 rfl _ _) rfl ?_
    exact ⟨by rw [RE.out]; rfl, B1.out⟩
  · have v2 : ¬ (vr : Int) < 2 := by omega
    have RE : Hid (R = (grI (hLs E), grI (pLs E))) := by show _ = _; rw [NE.out, if_neg hv2]
    clear hv2
    go_wp2_with fail
    clear c0 c1
    go_loopw [9, 10, 34] (fun vh vp vi wr => SqI E n w1 vh vp vi wr) (fun _ _ vi _ => n - (intOf vi).toNat)
    case atStart => exact ⟨0, _, _, rfl, rfl, rfl, Nat.zero_le _, RwOwn.nil _ _ _ _, RwOwn.nil _ _ _ _, .inl rfl, Below.refl _ _⟩
    case round =>
      obtain ⟨i, ah, ap, rfl, rfl, rfl, hi2, h1, h2, hne, hb⟩ := hrel
      have AH := Lib.hid h1
      have AP := Lib.hid h2
      have NE2 := Lib.hid hne
      have B := Lib.hid hb
      have BB := Lib.hid (B1.out.trans (hb.mono B1.out.size))
      have F3R := row_below F3.out hb
      have c0 := (CO.out _ _ F3R).1
      have c1 := (CO.out _ _ F3R).2
      clear h1 h2 hne hb F3R
      by_cases hlt : i < n
      · obtain ⟨x, hx⟩ : ∃ x, t.ins[i]? = some x := ⟨_, List.getElem?_eq_getElem (by rw [← N.out]; exact hlt)⟩
        obtain ⟨hv, hhv⟩ : ∃ hv, hs[i]? = some hv := ⟨_, List.getElem?_eq_getElem (by rw [L1.out]; exact hlt)⟩
        obtain ⟨pv, hpv⟩ : ∃ pv, ps[i]? = some pv := ⟨_, List.getElem?_eq_getElem (by rw [L2.out]; exact hlt)⟩
        obtain ⟨bi, oi, rfl, hg⟩ := HI.out (by omega)
        have hin := (hg i x hx).below BB.out
        obtain ⟨ox, kv, hkv, hr⟩ := hin
        have IL : Hid ((inL x kv).toArray.size = 35) := by show _ = _; rw [List.size_toArray, inL_length x kv ox.1]
        have IR := Lib.hid hr
        have IO : Hid ((inL x kv).toArray.all (·.oneCell') = true) := in_one x kv (by obtain ⟨_, _, e⟩ := hkv.2; rw [e]; rfl)
        obtain ⟨bh, oh, rfl, hgh⟩ := (HH.out.below BB.out).get (by omega)
        have ch1 := int_cell (hgh i (intC hv) (by rw [List.getElem?_map, hhv]; rfl))
        obtain ⟨bp, op, rfl, hgp⟩ := (HP.out.below BB.out).get (by omega)
        have cp1 := u32_cell (hgp i (u32C pv) (by rw [List.getElem?_map, hpv]; rfl))
        have pb := HPB.out pv (List.mem_of_getElem? hpv)
        have hvb := HHO.out hv (List.mem_of_getElem? hhv)
        have EI := Lib.hid (EG.out i x hv pv hx hhv hpv)
        have SH := Lib.hid (sel_succ hSel EI.out)
        have SP := Lib.hid (sel_succ pSel EI.out)
        obtain ⟨sq, hsq⟩ : ∃ sq, sq = x.seq := ⟨_, rfl⟩
        have X34 : Hid ((inL x kv)[34]? = some (.int .u32 (sq : Int))) := by show _ = _; rw [inL, List.getElem?_append_right (by simp [ptL, ox.1]), hsq]; simp [ptL, ox.1, nV]
        have sb : sq ≤ 4294967295 := by rw [hsq]; exact ox.2.2
        rw [← hsq] at SH SP
        have LX : Hid ((inL x kv).length = 35) := inL_length x kv ox.1
        obtain ⟨cs, hcs⟩ : ∃ cs, cs = inL x kv := ⟨_, rfl⟩
        rw [← hcs] at X34 IL IR IO LX
        have bm : bits .and .u32 (sq : Int) 65535 = ((sq &&& 65535 : Nat) : Int) := bits_nat (b := 65535) sb (by omega)
        have bl : bits .and .u32 (sq : Int) 2147483648 = ((sq &&& 2147483648 : Nat) : Int) := bits_nat (b := 2147483648) sb (by omega)
        have bt : bits .and .u32 (sq : Int) 4194304 = ((sq &&& 4194304 : Nat) : Int) := bits_nat (b := 4194304) sb (by omega)
        have nb : (sq &&& 65535) ≤ 65535 := Nat.and_le_right
        have HS : Hid (hSel (sq, hv, pv) = if lockB sq then none else if timeB sq then none else some (hv + (spanN sq : Int) - 1)) := rfl
        have PS : Hid (pSel (sq, hv, pv) = if lockB sq then none else if timeB sq then some ((pv : Int) + 512 * (spanN sq : Int) - 1) else none) := rfl
        have LB : Hid (lockB sq = decide (sq &&& 2147483648 ≠ 0)) := rfl
        have TB : Hid (timeB sq = decide (sq &&& 4194304 ≠ 0)) := rfl
        have SN : spanN sq = sq &&& 65535 := rfl
        rw [SN] at HS PS
        obtain ⟨nn, hnn⟩ : ∃ nn, nn = sq &&& 65535 := ⟨_, rfl⟩
        rw [← hnn] at bm nb HS PS
        obtain ⟨lk, hlk⟩ : ∃ lk, lk = sq &&& 2147483648 := ⟨_, rfl⟩
        rw [← hlk] at bl LB
        obtain ⟨tk, htk⟩ : ∃ tk, tk = sq &&& 4194304 := ⟨_, rfl⟩
        rw [← htk] at bt TB
        have DAH : Hid (((hLs (E.take i)).map intC).length ≤ 1000000) := by show _ ≤ _; rw [List.length_map]; have h1 := sel_length hSel (E.take i); rw [List.length_take] at h1; have := NM.out; exact Nat.le_trans h1 (by omega)
        have DAP : Hid (((pLs (E.take i)).map intC).length ≤ 1000000) := by show _ ≤ _; rw [List.length_map]; have h1 := sel_length pSel (E.take i); rw [List.length_take] at h1; have := NM.out; exact Nat.le_trans h1 (by omega)
        have hm := NM.out
        have p0 : 0 ≤ (i : Int) := by omega
        have p1 : (i : Int) < (n : Int) := by omega
        have hv1 : -1 ≤ hv := hvb.1
        have hv2 : hv ≤ 1099511627776 := hvb.2
        have HB1 := Lib.hid hv1
        have HB2 := Lib.hid hv2
        have PB1 := Lib.hid pb
        clear hx hhv hpv hg hr ox hgh hgp hsq hnn hlk htk hcs hkv SN hvb hv1 hv2 pb sb
        obtain ⟨g5, hg5⟩ : ∃ g5, g5 = wr.heap.size := ⟨_, rfl⟩
        obtain ⟨_, f2, f3, f4⟩ := fill_setup (Below.refl wr.heap.size wr) (List.replicate 32 (bV 0) ++ [nV 0, .slice none 0 0, nV 0]).toArray cs.toArray 31
        go_upto_region 9 with ((with_reducible show wpList _ _ _ _ _ _); first | (refine wpList_load_mid rfl 31 (.tmp 37) rfl bi (oi + i * 35) rfl cs _ IR.out Try.underlying31 rfl (by rw [LX.out]; kernel_rfl) ?_; go_frame) | (refine wpList_store_row rfl 31 (.tmp 12) (.tmp 38) rfl wr.heap.size cs.toArray rfl rfl 31 _ (heap_alloc_new _ _) (by rw [IL.out]; kernel_rfl) (by rw [IL.out]; rfl) IO.out ?_; go_frame))
        rw [← hg5] at f2 f3 f4 ⊢
        generalize hw5 : World.setRow _ _ _ = w5
        have e5 : World.setRow (wr.alloc (.cells (List.replicate 32 (bV 0) ++ [nV 0, .slice none 0 0, nV 0]).toArray 31)) g5 cs.toArray = w5 := hw5
        rw [e5] at f2 f4
        rw [hg5] at f4
        have c5 : w5.cell? ⟨g5, 34, none⟩ = some (.int .u32 (sq : Int)) := by rw [cell_of_row _ _ _ _ _ _ f2, List.getElem?_toArray]; exact X34.out
        have B5 := Lib.hid (B.out.trans (f4.mono B.out.size))
        have AH5 := Lib.hid (AH.out.keep f4)
        have AP5 := Lib.hid (AP.out.keep f4)
        have ch5 := cell_below ch1 f4
        have cp5 := cell_below cp1 f4
        clear f2 f3 f4 hg5 hw5 e5 c0 c1 ch1 cp1 IR B AH AP
        by_cases hl0 : lk = 0
        · have l0 : ((lk : Int) != 0) = false := by simp; omega
          have LF : Hid (lockB sq = false) := by show _ = _; rw [LB.out]; simpa using hl0
          clear hl0
          by_cases ht0 : tk = 0
          · have t0 : ((tk : Int) != 0) = false := by simp; omega
            have TF : Hid (timeB sq = false) := by show _ = _; rw [TB.out]; simpa using ht0
            clear ht0
            have hv1 := HB1.out
            have hv2 := HB2.out
            have m1 : IntKind.i64.wrap (hv + (nn : Int)) = hv + (nn : Int) := IntWalk.i64_in _ (by omega)
            have m2 : IntKind.i64.wrap (hv + (nn : Int) - 1) = hv + (nn : Int) - 1 := IntWalk.i64_in _ (by omega)
            have SV : Hid (hLs (E.take (i + 1)) = hLs (E.take i) ++ [hv + (nn : Int) - 1]) := by show _ = _; unfold hLs; rw [SH.out, HS.out, LF.out, TF.out]; rfl
            have SW : Hid (pLs (E.take (i + 1)) = pLs (E.take i)) := by show _ = _; unfold pLs; rw [SP.out, PS.out, LF.out, TF.out]; simp
            go_wp2_with (at_builtin; refine wpList_append_own_at _ rfl _ _ 44 rfl w1.heap.size 2 i0 (.int .i64 0) 1 8 Try.underlying44 hi hz0 hz1 hz2 rfl (by decide) ah _ ((hLs (E.take i)).map intC).flatten rfl (AH5.out.1.alloc _) ⟨w5.heap.size, 0, none⟩ 1 1 [.int .i64 (hv + (nn : Int) - 1)] rfl rfl (cell_one_new _ _ _) (intC_one _) (by have := DAH.out; unfold maxLen; omega) (by have := DAH.out; omega) (by have := B5.out.size; simp; omega) ?_; intro v3 w3 q1 q2 _ q4; have NV : Hid (RwOwn 1 2 w1.heap.size w3 v3 ((hLs (E.take i)).map intC ++ [intC (hv + (nn : Int) - 1)])) := RwOwn.push AH5.out.2 rfl q1; have B6 := Lib.hid (own_grown (B5.out.alloc B5.out.size _) (Nat.le_refl _) (by have := B5.out.size; simp; omega) (AH5.out.1.alloc _) q2); have al := (Below.refl w5.heap.size w5).alloc (Nat.le_refl _) (.cells #[.int .i64 (hv + (nn : Int) - 1)] 2 (0, 0)); have OV := Lib.hid ((AP5.out.keep al).kept q2 (ne_swap NE2.out)); have NN : Hid (ap.ownBlock = none ∨ ap.ownBlock ≠ v3.ownBlock) := ne_new (ne_swap NE2.out) q4 (fun q hq => ((AP5.out.keep al).1.lt q hq).2); clear q1 q2 q4 al; go_frame)
            go_roundw
            case rel =>
              refine ⟨i + 1, _, _, rfl, rfl, by go_num, by omega, ?_, ?_, ne_swap NN.out, B6.out⟩
              · rw [SV.out, List.map_append]; exact NV.out
              · rw [SW.out]; exact OV.out
            case measure => simp [intOf] <;> omega
          · have t0 : ((tk : Int) != 0) = true := by simp; omega
            have TF : Hid (timeB sq = true) := by show _ = _; rw [TB.out]; simpa using ht0
            clear ht0
            have pb := PB1.out
            have m1 : IntKind.i64.wrap (512 * (nn : Int)) = 512 * (nn : Int) := IntWalk.i64_in _ (by omega)
            have m2 : IntKind.i64.wrap ((pv : Int) + 512 * (nn : Int)) = (pv : Int) + 512 * (nn : Int) := IntWalk.i64_in _ (by omega)
            have m3 : IntKind.i64.wrap ((pv : Int) + 512 * (nn : Int) - 1) = (pv : Int) + 512 * (nn : Int) - 1 := IntWalk.i64_in _ (by omega)
            have SV : Hid (pLs (E.take (i + 1)) = pLs (E.take i) ++ [(pv : Int) + 512 * (nn : Int) - 1]) := by show _ = _; unfold pLs; rw [SP.out, PS.out, LF.out, TF.out]; rfl
            have SW : Hid (hLs (E.take (i + 1)) = hLs (E.take i)) := by show _ = _; unfold hLs; rw [SH.out, HS.out, LF.out, TF.out]; simp
            go_wp2_with (at_builtin; refine wpList_append_own_at _ rfl _ _ 44 rfl w1.heap.size 2 i0 (.int .i64 0) 1 8 Try.underlying44 hi hz0 hz1 hz2 rfl (by decide) ap _ ((pLs (E.take i)).map intC).flatten rfl (AP5.out.1.alloc _) ⟨w5.heap.size, 0, none⟩ 1 1 [.int .i64 ((pv : Int) + 512 * (nn : Int) - 1)] rfl rfl (cell_one_new _ _ _) (intC_one _) (by have := DAP.out; unfold maxLen; omega) (by have := DAP.out; omega) (by have := B5.out.size; simp; omega) ?_; intro v3 w3 q1 q2 _ q4; have NV : Hid (RwOwn 1 2 w1.heap.size w3 v3 ((pLs (E.take i)).map intC ++ [intC ((pv : Int) + 512 * (nn : Int) - 1)])) := RwOwn.push AP5.out.2 rfl q1; have B6 := Lib.hid (own_grown (B5.out.alloc B5.out.size _) (Nat.le_refl _) (by have := B5.out.size; simp; omega) (AP5.out.1.alloc _) q2); have al := (Below.refl w5.heap.size w5).alloc (Nat.le_refl _) (.cells #[.int .i64 ((pv : Int) + 512 * (nn : Int) - 1)] 2 (0, 0)); have OV := Lib.hid ((AH5.out.keep al).kept q2 NE2.out); have NN : Hid (ah.ownBlock = none ∨ ah.ownBlock ≠ v3.ownBlock) := ne_new NE2.out q4 (fun q hq => ((AH5.out.keep al).1.lt q hq).2); clear q1 q2 q4 al; go_frame)
            go_roundw
            case rel =>
              refine ⟨i + 1, _, _, rfl, rfl, by go_num, by omega, ?_, ?_, NN.out, B6.out⟩
              · rw [SW.out]; exact OV.out
              · rw [SV.out, List.map_append]; exact NV.out
            case measure => simp [intOf] <;> omega
        · have l0 : ((lk : Int) != 0) = true := by simp; omega
          have LF : Hid (lockB sq = true) := by show _ = _; rw [LB.out]; simpa using hl0
          clear hl0
          have SV : Hid (pLs (E.take (i + 1)) = pLs (E.take i)) := by show _ = _; unfold pLs; rw [SP.out, PS.out, LF.out]; simp
          have SW : Hid (hLs (E.take (i + 1)) = hLs (E.take i)) := by show _ = _; unfold hLs; rw [SH.out, HS.out, LF.out]; simp
          go_wp2_with fail
          go_roundw
          case rel => exact ⟨i + 1, _, _, rfl, rfl, by go_num, by omega, by rw [SW.out]; exact AH5.out, by rw [SV.out]; exact AP5.out, NE2.out, B5.out⟩
          case measure => simp [intOf] <;> omega
      · have hin : i = n := by omega
        have TE : Hid (E.take i = E) := List.take_of_length_le (by rw [EL.out, hin]; exact Nat.le_refl _)
        have LE1 : Hid ((hLs E).length ≤ 4611686018427387904) := by show _ ≤ _; have h1 := sel_length hSel E; rw [EL.out] at h1; have := NM.out; exact Nat.le_trans h1 (by omega)
        have LE2 : Hid ((pLs E).length ≤ 4611686018427387904) := by show _ ≤ _; have h1 := sel_length pSel E; rw [EL.out] at h1; have := NM.out; exact Nat.le_trans h1 (by omega)
        rw [TE.out] at AH AP
        have G1 : Hid (∀ W, Below wr.heap.size wr W → Calls Try.prog 10 #[ah] W fun e w' => e = .returned (.int .i64 (grI (hLs E))) ∧ Below W.heap.size W w') := fun W hW => sqgreat_any _ _ W ((AH.out.keep hW).at (by decide)) LE1.out
        have G2 : Hid (∀ W, Below wr.heap.size wr W → Calls Try.prog 10 #[ap] W fun e w' => e = .returned (.int .i64 (grI (pLs E))) ∧ Below W.heap.size W w') := fun W hW => sqgreat_any _ _ W ((AP.out.keep hW).at (by decide)) LE2.out
        have i1 : ¬ (i : Int) < (n : Int) := by omega
        clear hin hlt
        go_wp2_with fail
        refine (G1.out _ (Below.refl _ _)).mono ?_
        rintro e w3 ⟨rfl, bb⟩
        have B3 := Lib.hid bb
        clear bb
        go_wp2_with fail
        refine (G2.out _ B3.out).mono ?_
        rintro e w4 ⟨rfl, bb⟩
        have B4 := Lib.hid (BB.out.trans ((B3.out.trans (bb.mono B3.out.size)).mono BB.out.size))
        clear bb
        go_wp2_with fail
        refine bodyPost_ret (results_t3 rfl _ _) rfl ?_
        exact ⟨by rw [RE.out]; rfl, B4.out⟩
end Go.Proofs.Ytmdbhpkfldnodaa.Sha

/-
  What literals of transactions, inputs, outputs and places lay. No conditions beyond those that each states.
-/
namespace Go.Proofs.Ytmdbhpkfldnodaa.Sha
open Go Go.RowKit
def zH : List UInt8 := List.replicate 32 0
theorem zH_length : zH.length = 32 := rfl
end Go.Proofs.Ytmdbhpkfldnodaa.Sha

/-
  Rows of one or two inputs, or outputs, as slices; what is amiss with transactions of few inputs. Conditions: those that each states.
-/
namespace Go.Proofs.Ytmdbhpkfldnodaa.Sha
open Go Go.RowKit
theorem insAt_one {w : World} {g : Nat} {x : TIn} {kv : Value} {fr : Nat × Nat} (h : w.heap[g]? = some (.cells (inL x kv).toArray 31 fr)) (hx : InOk x) (hk : KeyAt w kv x.key) : InsAt w (.slice (some ⟨g, 0, none⟩) 1 1) [x] :=
  ⟨_, 1, rfl, Nat.le_refl _, fun _ => ⟨g, 0, rfl, fun i y hy => by
    have hi := (List.getElem?_eq_some_iff.1 hy).1
    simp at hi
    subst hi
    simp only [List.getElem?_cons_zero, Option.some.injEq] at hy
    subst hy
    exact ⟨hx, kv, hk, range_of_box h⟩⟩⟩
theorem nil_key (w : World) : KeyAt w (.slice none 0 0) [] := ⟨.inl ⟨_, _, rfl, rfl⟩, _, _, rfl⟩
end Go.Proofs.Ytmdbhpkfldnodaa.Sha

/-
  One input that waits: what its bits say, and when it is met. Pure. Conditions: none.
-/
namespace Go.Proofs.Ytmdbhpkfldnodaa.Sha
open Go Go.RowKit
theorem and_bit (s i : Nat) : s &&& 2 ^ i = if s / 2 ^ i % 2 = 1 then 2 ^ i else 0 := by
  apply Nat.eq_of_testBit_eq
  intro j
  rw [Nat.testBit_and, Nat.testBit_two_pow]
  by_cases e : i = j
  · subst e
    rw [Nat.testBit_eq_decide_div_mod_eq]
    by_cases h : s / 2 ^ i % 2 = 1
    · rw [if_pos h, Nat.testBit_two_pow]; simp [h]
    · rw [if_neg h]; simp [h]
  · by_cases h : s / 2 ^ i % 2 = 1
    · rw [if_pos h, Nat.testBit_two_pow]; simp [e]
    · rw [if_neg h]; simp [e]
theorem lockB_div (s : Nat) : lockB s = decide (s / 2147483648 % 2 = 1) := by
  have h := and_bit s 31
  rw [show (2 : Nat) ^ 31 = 2147483648 by decide] at h
  unfold lockB
  rw [h]
  by_cases h2 : s / 2147483648 % 2 = 1
  · simp [h2]
  · simp [h2]
theorem timeB_div (s : Nat) : timeB s = decide (s / 4194304 % 2 = 1) := by
  have h := and_bit s 22
  rw [show (2 : Nat) ^ 22 = 4194304 by decide] at h
  unfold timeB
  rw [h]
  by_cases h2 : s / 4194304 % 2 = 1
  · simp [h2]
  · simp [h2]
theorem spanN_mod (s : Nat) : spanN s = s % 65536 := by
  unfold spanN
  exact Nat.and_two_pow_sub_one_eq_mod s 16
theorem or_time {n : Nat} (h : n < 4194304) : n ||| 4194304 = n + 4194304 := by
  have h1 := Nat.two_pow_add_eq_or_of_lt (i := 22) (b := n) h 1
  rw [show (2 : Nat) ^ 22 * 1 = 4194304 by decide] at h1
  rw [Nat.or_comm, ← h1, Nat.add_comm]
theorem or_lock {n : Nat} (h : n < 2147483648) : n ||| 2147483648 = n + 2147483648 := by
  have h1 := Nat.two_pow_add_eq_or_of_lt (i := 31) (b := n) h 1
  rw [show (2 : Nat) ^ 31 * 1 = 2147483648 by decide] at h1
  rw [Nat.or_comm, ← h1, Nat.add_comm]
theorem bits_or_nat {a b : Nat} (ha : a ≤ 4294967295) (hb : b ≤ 4294967295) : bits .or .u32 (a : Int) (b : Int) = ((a ||| b : Nat) : Int) := by
  have h := wv_or (UInt32.ofNat a) (UInt32.ofNat b)
  have e1 : wv (UInt32.ofNat a) = (a : Int) := by unfold wv; rw [UInt32.toNat_ofNat']; omega
  have e2 : wv (UInt32.ofNat b) = (b : Int) := by unfold wv; rw [UInt32.toNat_ofNat']; omega
  rw [e1, e2] at h
  rw [h]
  unfold wv
  rw [UInt32.toNat_or, UInt32.toNat_ofNat', UInt32.toNat_ofNat', Nat.mod_eq_of_lt (by omega), Nat.mod_eq_of_lt (by omega)]
theorem lock_names {s : Nat} (h : s < 2147483648) : ∃ t : Nat, Hid (t = s ||| 2147483648) ∧ Hid (bits .or .u32 (s : Int) 2147483648 = (t : Int)) ∧ Hid (t ≤ 4294967295) :=
  Exists.intro (s ||| 2147483648) ⟨Lib.hid (Eq.refl _), Lib.hid (bits_or_nat (a := s) (b := 2147483648) (by omega) (by omega)), Lib.hid (by rw [or_lock h]; omega)⟩
theorem time_names {n : Nat} (h : n < 65536) : ∃ t : Nat, Hid (t = n ||| 4194304) ∧ Hid (bits .or .u32 (n : Int) 4194304 = (t : Int)) ∧ Hid (t < 2147483648) :=
  Exists.intro (n ||| 4194304) ⟨Lib.hid (Eq.refl _), Lib.hid (bits_or_nat (a := n) (b := 4194304) (by omega) (by omega)), Lib.hid (by rw [or_time (by omega)]; omega)⟩
/-- An input that has nothing but its Seq. -/
def sqX (s : Nat) : TIn := ⟨zH, 0, [], s⟩
def sqT (ver s : Nat) : TTx := ⟨ver, [sqX s], [], 0⟩
def sqA : List Value := ptL zH 0 ++ [.slice none 0 0]
theorem sqX_cells (s : Nat) : inL (sqX s) (.slice none 0 0) = sqA ++ [nV s] := by
  unfold inL sqA sqX
  simp
theorem sqX_ok {s : Nat} (h : s ≤ 4294967295) : InOk (sqX s) := ⟨zH_length, Nat.zero_le _, h⟩
def sqmetB (t : TTx) (hs : List Int) (ps : List Nat) (height : Int) (past : Nat) : Bool := decide ((sqV t hs ps).1 < height) && decide ((sqV t hs ps).2 < (past : Int))
theorem sqV_old (s c p : Nat) : sqV (sqT 1 s) [(c : Int)] [p] = (-1, -1) := by
  unfold sqV
  exact if_pos (show (1 : Nat) < 2 by omega)
theorem needE_one (v s c p : Nat) : needE (sqT v s) [(c : Int)] [p] = [(s, (c : Int), p)] := rfl
theorem sel_one {α β : Type} (f : α → Option β) (e : α) : [e].filterMap f = (f e).toList := by cases hf : f e <;> simp [hf]
theorem sqV_two (s c p : Nat) : sqV (sqT 2 s) [(c : Int)] [p] = (grI (hSel (s, (c : Int), p)).toList, grI (pSel (s, (c : Int), p)).toList) := by
  unfold sqV
  refine (if_neg (show ¬ (2 : Nat) < 2 by omega)).trans ?_
  rw [needE_one]
  unfold hLs pLs
  rw [sel_one, sel_one]
theorem sqV_plain {n c p : Nat} (h : n < 65536) : sqV (sqT 2 n) [(c : Int)] [p] = ((c : Int) + n - 1, -1) := by
  have e1 : lockB n = false := by rw [lockB_div]; simp; omega
  have e2 : timeB n = false := by rw [timeB_div]; simp; omega
  rw [sqV_two]
  simp only [hSel, pSel, e1, e2, spanN_mod, Nat.mod_eq_of_lt h]
  rfl
theorem sqV_time {n c p : Nat} (h : n < 65536) : sqV (sqT 2 (n ||| 4194304)) [(c : Int)] [p] = (-1, (p : Int) + 512 * n - 1) := by
  rw [or_time (by omega), sqV_two]
  have e1 : lockB (n + 4194304) = false := by rw [lockB_div]; simp; omega
  have e2 : timeB (n + 4194304) = true := by rw [timeB_div]; simp; omega
  have e3 : spanN (n + 4194304) = n := by rw [spanN_mod]; omega
  simp only [hSel, pSel, e1, e2, e3]
  rfl
theorem sqV_lock {s c p : Nat} (h : s < 2147483648) : sqV (sqT 2 (s ||| 2147483648)) [(c : Int)] [p] = (-1, -1) := by
  rw [or_lock h, sqV_two]
  have e1 : lockB (s + 2147483648) = true := by rw [lockB_div]; simp; omega
  simp only [hSel, pSel, e1]
  rfl
end Go.Proofs.Ytmdbhpkfldnodaa.Sha

/-
  The project's own: whether a transaction has waited long enough, and that it has not where the rows are not as many as the inputs. Nothing that was there turns. Conditions: as for Need.
-/
namespace Go.Proofs.Ytmdbhpkfldnodaa.Sha
open Go Go.RowKit
set_option maxHeartbeats 2000000 in
set_option maxRecDepth 100000 in
theorem sqmet_any (w : World) (v vh vp : Value) (t : TTx) (hs : List Int) (ps : List Nat) (height : Int) (past : Nat) (h : TxAt w v t) (hh : RwAt 1 w vh (hs.map intC)) (hp : RwAt 1 w vp (ps.map u32C)) (hl1 : hs.length = t.ins.length) (hl2 : ps.length = t.ins.length) (hm : t.ins.length ≤ 1000000) (hho : ∀ x ∈ hs, HtOk x) (hb : ∀ p ∈ ps, p ≤ 4294967295) (hpa : past ≤ 4294967295) :
    Calls Try.prog 7 #[v, vh, vp, .int .i64 height, .int .u32 (past : Int)] w fun e w' => e = .returned (.bool (sqmetB t hs ps height past)) ∧ Below w.heap.size w w' := by
  have h0 := h
  obtain ⟨_, iv, ov, rfl, hin, hou⟩ := h
  have TONE : Hid ((txL t iv ov).toArray.all (·.oneCell') = true) := tx_one hin hou
  have LT : Hid ((txL t iv ov).toArray.size = 4) := rfl
  have ND : Hid (∀ W, Below w.heap.size w W → Calls Try.prog 8 #[.agg (txL t iv ov).toArray, vh, vp] W fun e w' => e = .returned (.tuple #[.int .i64 (sqV t hs ps).1, .int .i64 (sqV t hs ps).2, .bool true]) ∧ Below W.heap.size W w') := fun W hW => sqneed_any W _ vh vp t hs ps (h0.below hW) (hh.below hW) (hp.below hW) hl1 hl2 hm hho hb
  have ME : Hid (sqmetB t hs ps height past = (decide ((sqV t hs ps).1 < height) && decide ((sqV t hs ps).2 < (past : Int)))) := rfl
  obtain ⟨R, hR⟩ : ∃ R, R = sqmetB t hs ps height past := ⟨_, rfl⟩
  rw [← hR] at ME ⊢
  obtain ⟨a1, ha1⟩ : ∃ a1, a1 = (sqV t hs ps).1 := ⟨_, rfl⟩
  obtain ⟨a2, ha2⟩ : ∃ a2, a2 = (sqV t hs ps).2 := ⟨_, rfl⟩
  rw [← ha1, ← ha2] at ND ME
  obtain ⟨ct, hct⟩ : ∃ ct, ct = txL t iv ov := ⟨_, rfl⟩
  rw [← hct] at TONE LT ND ⊢
  clear h0 hin hou hh hp hl1 hl2 hm hho hb hR ha1 ha2 hct
  go_enter Try.func7, Try.ntmps7
  go_upto_region 1 with fail
  have f5 := heap_alloc_new w (.cells ct.toArray 35 (0, 0))
  have b1 := (Below.refl w.heap.size w).alloc (Nat.le_refl _) (.cells ct.toArray 35 (0, 0))
  generalize hw1 : World.alloc _ _ = w1
  have e1 : w.alloc (.cells ct.toArray 35 (0, 0)) = w1 := hw1
  rw [e1] at f5 b1
  obtain ⟨g5, hg5⟩ : ∃ g5, g5 = w.heap.size := ⟨_, rfl⟩
  rw [← hg5] at f5 ⊢
  have F5 := Lib.hid f5
  have B1 := Lib.hid b1
  clear f5 b1 hw1 e1 hg5
  go_wp2_with ((with_reducible show wpList _ _ _ _ _ _); (refine wpList_load_row rfl 35 (.tmp 5) rfl g5 rfl 35 ct.toArray (0, 0) _ F5.out Try.underlying35 rfl (by rw [LT.out]; kernel_rfl) ?_; go_frame))
  refine (ND.out w1 B1.out).mono ?_
  rintro e w2 ⟨rfl, bb⟩
  have B1 := Lib.hid (B1.out.trans (bb.mono B1.out.size))
  clear bb ND F5
  by_cases h1 : a1 < height
  · by_cases h2 : a2 < (past : Int)
    · have hw1 : IntKind.i64.wrap (past : Int) = (past : Int) := i64_stays (by omega)
      have hw2 : wrap64 (past : Int) = (past : Int) := by rw [← IntWalk.i64_left]; exact hw1
      have RV : Hid (R = true) := by show _ = _; rw [ME.out, decide_eq_true h1, decide_eq_true h2]; rfl
      have h3 : ¬ (past : Int) ≤ a2 := by omega
      have h4 : ¬ height ≤ a1 := by omega
      go_wp2_with fail
      go_ret
      exact ⟨by rw [RV.out]; first | rfl | (rw [decide_eq_true (show a2 < (past : Int) by omega)]; rfl), B1.out⟩
    · have hw1 : IntKind.i64.wrap (past : Int) = (past : Int) := i64_stays (by omega)
      have hw2 : wrap64 (past : Int) = (past : Int) := by rw [← IntWalk.i64_left]; exact hw1
      have RV : Hid (R = false) := by show _ = _; rw [ME.out, decide_eq_true h1, decide_eq_false h2]; rfl
      have h4 : ¬ height ≤ a1 := by omega
      have h3 : (past : Int) ≤ a2 := by omega
      go_wp2_with fail
      go_ret
      exact ⟨by rw [RV.out]; first | rfl | (rw [decide_eq_false (show ¬ a2 < (past : Int) by omega)]; rfl), B1.out⟩
  · have RV : Hid (R = false) := by show _ = _; rw [ME.out, decide_eq_false h1]; rfl
    have h4 : height ≤ a1 := by omega
    go_wp2_with fail
    go_ret
    exact ⟨by rw [RV.out]; rfl, B1.out⟩
set_option maxHeartbeats 2000000 in
set_option maxRecDepth 100000 in
theorem sqneed_no (w : World) (v : Value) (t : TTx) (sh sp : Option Addr) (a b ca cb : Nat) (h : TxAt w v t) (hne : a ≠ t.ins.length ∨ b ≠ t.ins.length) :
    Calls Try.prog 8 #[v, .slice sh a ca, .slice sp b cb] w fun e w' => e = .returned (.tuple #[.int .i64 0, .int .i64 0, .bool false]) ∧ Below w.heap.size w w' := by
  obtain ⟨_, iv, ov, rfl, hin, hou⟩ := h
  have TONE : Hid ((txL t iv ov).toArray.all (·.oneCell') = true) := tx_one hin hou
  have LT : Hid ((txL t iv ov).toArray.size = 4) := rfl
  have CO : Hid (∀ (W : World) (g : Nat), W.heap[g]? = some (.cells (txL t iv ov).toArray 35 (0, 0)) → W.cell? ⟨g, 1, none⟩ = some iv) := fun W g hg => (tx_cells hg).2.1
  obtain ⟨si, ci, rfl, _, hgi⟩ := hin
  obtain ⟨n, hn⟩ : ∃ n, n = t.ins.length := ⟨_, rfl⟩
  rw [← hn] at CO TONE LT hne ⊢
  obtain ⟨ct, hct⟩ : ∃ ct, ct = txL t (.slice si n ci) ov := ⟨_, rfl⟩
  rw [← hct] at TONE LT CO ⊢
  clear hn hgi hct hou
  go_enter Try.func8, Try.ntmps8
  go_upto_region 1 with fail
  have f3 := heap_alloc_new w (.cells ct.toArray 35 (0, 0))
  have b1 := (Below.refl w.heap.size w).alloc (Nat.le_refl _) (.cells ct.toArray 35 (0, 0))
  generalize hw1 : World.alloc _ _ = w1
  have e1 : w.alloc (.cells ct.toArray 35 (0, 0)) = w1 := hw1
  rw [e1] at f3 b1
  obtain ⟨g3, hg3⟩ : ∃ g3, g3 = w.heap.size := ⟨_, rfl⟩
  rw [← hg3] at f3 ⊢
  have B1 := Lib.hid b1
  have c1 := CO.out _ _ f3
  clear f3 b1 hw1 e1 hg3
  by_cases ha : a = n
  · have hb : b ≠ n := hne.resolve_left (fun k => k ha)
    subst ha
    have e1 : ((a : Int) != (a : Int)) = false := by simp
    have e2 : ((b : Int) != (a : Int)) = true := by simp; omega
    clear hne hb
    go_wp2_with fail
    refine bodyPost_ret (results_t3 rfl _ _) rfl ?_
    exact ⟨rfl, B1.out⟩
  · have e1 : ((a : Int) != (n : Int)) = true := by simp; omega
    clear hne ha
    go_wp2_with fail
    refine bodyPost_ret (results_t3 rfl _ _) rfl ?_
    exact ⟨rfl, B1.out⟩
set_option maxHeartbeats 2000000 in
set_option maxRecDepth 100000 in
theorem sqmet_no (w : World) (v : Value) (t : TTx) (sh sp : Option Addr) (a b ca cb : Nat) (height : Int) (past : Nat) (h : TxAt w v t) (hne : a ≠ t.ins.length ∨ b ≠ t.ins.length) :
    Calls Try.prog 7 #[v, .slice sh a ca, .slice sp b cb, .int .i64 height, .int .u32 (past : Int)] w fun e w' => e = .returned (.bool false) ∧ Below w.heap.size w w' := by
  have h0 := h
  obtain ⟨_, iv, ov, rfl, hin, hou⟩ := h
  have TONE : Hid ((txL t iv ov).toArray.all (·.oneCell') = true) := tx_one hin hou
  have LT : Hid ((txL t iv ov).toArray.size = 4) := rfl
  have ND : Hid (∀ W, Below w.heap.size w W → Calls Try.prog 8 #[.agg (txL t iv ov).toArray, .slice sh a ca, .slice sp b cb] W fun e w' => e = .returned (.tuple #[.int .i64 0, .int .i64 0, .bool false]) ∧ Below W.heap.size W w') := fun W hW => sqneed_no W _ t sh sp a b ca cb (h0.below hW) hne
  obtain ⟨ct, hct⟩ : ∃ ct, ct = txL t iv ov := ⟨_, rfl⟩
  rw [← hct] at TONE LT ND ⊢
  clear h0 hin hou hct hne
  go_enter Try.func7, Try.ntmps7
  go_upto_region 1 with fail
  have f5 := heap_alloc_new w (.cells ct.toArray 35 (0, 0))
  have b1 := (Below.refl w.heap.size w).alloc (Nat.le_refl _) (.cells ct.toArray 35 (0, 0))
  generalize hw1 : World.alloc _ _ = w1
  have e1 : w.alloc (.cells ct.toArray 35 (0, 0)) = w1 := hw1
  rw [e1] at f5 b1
  obtain ⟨g5, hg5⟩ : ∃ g5, g5 = w.heap.size := ⟨_, rfl⟩
  rw [← hg5] at f5 ⊢
  have F5 := Lib.hid f5
  have B1 := Lib.hid b1
  clear f5 b1 hw1 e1 hg5
  go_wp2_with ((with_reducible show wpList _ _ _ _ _ _); (refine wpList_load_row rfl 35 (.tmp 5) rfl g5 rfl 35 ct.toArray (0, 0) _ F5.out Try.underlying35 rfl (by rw [LT.out]; kernel_rfl) ?_; go_frame))
  refine (ND.out w1 B1.out).mono ?_
  rintro e w2 ⟨rfl, bb⟩
  have B1 := Lib.hid (B1.out.trans (bb.mono B1.out.size))
  clear bb ND F5
  go_wp2_with fail
  go_ret
  exact ⟨rfl, B1.out⟩
end Go.Proofs.Ytmdbhpkfldnodaa.Sha

/-
  A new block of 32-bit numbers as a row. No conditions.
-/
namespace Go.Proofs.Ytmdbhpkfldnodaa.Sha
open Go Go.RowKit
theorem ps_row {w : World} {g : Nat} {T : TypeId} (t : List Nat) (hb : w.heap[g]? = some (.cells (t.map (fun (x : Nat) => Value.int .u32 (x : Int))).toArray T (0, 0))) : RwAt 1 w (.slice (some ⟨g, 0, none⟩) t.length t.length) (t.map u32C) := by
  refine ⟨fun m hm => ?_, _, t.length, by rw [List.length_map], by rw [List.length_map]; exact Nat.le_refl _, fun h0 => ⟨g, 0, rfl, fun i x hx => ?_⟩⟩
  · obtain ⟨x, _, rfl⟩ := List.mem_map.1 hm
    rfl
  · rw [List.getElem?_map] at hx
    obtain ⟨y, hy, rfl⟩ := Option.map_eq_some_iff.1 hx
    intro j v hv
    rw [Nat.zero_add, Nat.mul_one]
    match j, hv with
    | 0, hv =>
      obtain rfl := Option.some.inj hv
      rw [Nat.add_zero, cell_of_row _ _ _ _ _ _ hb, List.getElem?_toArray, List.getElem?_map, hy]
      rfl
    | j + 1, hv => simp [u32C] at hv
end Go.Proofs.Ytmdbhpkfldnodaa.Sha

/-
  The state of the law of one input: a transaction in its box, its one input in its row; what Met answers of it. Conditions: none.
-/
namespace Go.Proofs.Ytmdbhpkfldnodaa.Sha
open Go Go.RowKit
def sqC (g ver : Nat) : List Value := [nV ver, .slice (some ⟨g, 0, none⟩) 1 1, .slice none 0 0, nV 0]
theorem int_row {w : World} {g : Nat} {T : TypeId} {x : Int} (hb : w.heap[g]? = some (.cells #[.int .i64 x] T (0, 0))) : RwAt 1 w (.slice (some ⟨g, 0, none⟩) 1 1) ([x].map intC) := by
  refine ⟨fun m hm => ?_, _, 1, rfl, Nat.le_refl _, fun h0 => ⟨g, 0, rfl, fun i m hm => ?_⟩⟩
  · obtain rfl := List.mem_singleton.1 hm
    rfl
  · match i, hm with
    | 0, hm =>
      obtain rfl := Option.some.inj hm
      intro j v hv
      match j, hv with
      | 0, hv =>
        obtain rfl := Option.some.inj hv
        rw [cell_of_row _ _ _ _ _ _ hb]
        rfl
      | j + 1, hv => simp [intC] at hv
    | i + 1, hm => simp at hm
theorem boxes_ab (w : World) (x y : Array Value) (T U : TypeId) :
    Below w.heap.size w ((w.alloc (.cells x T (0, 0))).alloc (.cells y U (0, 0)))
    ∧ ((w.alloc (.cells x T (0, 0))).alloc (.cells y U (0, 0))).heap[w.heap.size]? = some (.cells x T (0, 0))
    ∧ ((w.alloc (.cells x T (0, 0))).alloc (.cells y U (0, 0))).heap[w.heap.size + 1]? = some (.cells y U (0, 0)) := by
  refine ⟨((Below.refl w.heap.size w).alloc (Nat.le_refl _) _).alloc (by simp) _, row_below (heap_alloc_new w (.cells x T (0, 0))) ((Below.refl _ _).alloc (Nat.le_refl _) _), ?_⟩
  have h := heap_alloc_new (w.alloc (.cells x T (0, 0))) (.cells y U (0, 0))
  rw [World.size_alloc] at h
  exact h
theorem met_val {t : TTx} {c p : Nat} {a b : Int} (h : sqV t [(c : Int)] [p] = (a, b)) (height : Int) (past : Nat) : sqmetB t [(c : Int)] [p] height past = (decide (a < height) && decide (b < (past : Int))) := by
  unfold sqmetB
  rw [h]
theorem met_t1 {n c p s q : Nat} (hn : n < 65536) (hs : s = n ||| 4194304) (hq : (q : Int) = p + 512 * n) : sqmetB (sqT 2 s) [(c : Int)] [p] (c : Int) q = true := by
  rw [hs, met_val (sqV_time hn), decide_eq_true (by omega), decide_eq_true (by omega)]
  rfl
theorem met_t2 {n c p s q : Nat} (hn : n < 65536) (hs : s = n ||| 4194304) (hq : (q : Int) = p + 512 * n - 1) : sqmetB (sqT 2 s) [(c : Int)] [p] (c : Int) q = false := by
  rw [hs, met_val (sqV_time hn), decide_eq_false (p := (_ : Int) < (q : Int)) (by omega), Bool.and_false]
theorem met_p1 {n c p : Nat} (hn : n < 65536) : sqmetB (sqT 2 n) [(c : Int)] [p] ((c : Int) + (n : Int)) p = true := by
  rw [met_val (sqV_plain hn), decide_eq_true (by omega), decide_eq_true (by omega)]
  rfl
theorem met_p2 {n c p : Nat} (hn : n < 65536) : sqmetB (sqT 2 n) [(c : Int)] [p] ((c : Int) + (n : Int) - 1) p = false := by
  rw [met_val (sqV_plain hn), decide_eq_false (by omega), Bool.false_and]
theorem met_lock {s s2 c p : Nat} (hs : s < 2147483648) (h2 : s2 = s ||| 2147483648) : sqmetB (sqT 2 s2) [(c : Int)] [p] 0 0 = true := by
  rw [h2, met_val (sqV_lock hs)]
  rfl
theorem met_old {s c p : Nat} : sqmetB (sqT 1 s) [(c : Int)] [p] 0 0 = true := by
  rw [met_val (sqV_old s c p)]
  rfl
structure SqSt (w0 : World) (gT gI ver s : Nat) (W : World) : Prop where
  tx : W.heap[gT]? = some (.cells (sqC gI ver).toArray 35 (0, 0))
  row : W.heap[gI]? = some (.cells (sqA ++ [nV s]).toArray 31 (0, 0))
  below : Below w0.heap.size w0 W
  lowT : w0.heap.size ≤ gT
  lowI : w0.heap.size ≤ gI
  ne : gI < gT
variable {w0 W W' : World} {gT gI vr s : Nat}
theorem SqSt.keep (h : SqSt w0 gT gI vr s W) (hb : Below W.heap.size W W') : SqSt w0 gT gI vr s W' := ⟨row_below h.tx hb, row_below h.row hb, h.below.trans (hb.mono h.below.size), h.lowT, h.lowI, h.ne⟩
theorem SqSt.row2 (h : SqSt w0 gT gI vr s W) : W.heap[gI]? = some (.cells (sqA ++ [nV s] ++ []).toArray 31 (0, 0)) := by rw [List.append_nil]; exact h.row
theorem SqSt.seq {s' : Nat} (h : SqSt w0 gT gI vr s W) (hr : W'.heap[gI]? = some (.cells (sqA ++ [nV s'] ++ []).toArray 31 (0, 0))) (hg : W.grownBy W' (some gI)) : SqSt w0 gT gI vr s' W' :=
  ⟨row_far h.tx hg (fun e => by have := Option.some.inj e; have := h.ne; omega), by rw [List.append_nil] at hr; exact hr, h.below.grown hg h.below.size (fun q hq => by cases hq; exact h.lowI), h.lowT, h.lowI, h.ne⟩
theorem SqSt.ver {v' : Nat} (h : SqSt w0 gT gI vr s W) (hr : W'.heap[gT]? = some (.cells (([] : List Value) ++ [nV v'] ++ [Value.slice (some ⟨gI, 0, none⟩) 1 1, Value.slice none 0 0, nV 0]).toArray 35 (0, 0))) (hg : W.grownBy W' (some gT)) : SqSt w0 gT gI v' s W' :=
  ⟨hr, row_far h.row hg (fun e => by have := Option.some.inj e; have := h.ne; omega), h.below.grown hg h.below.size (fun q hq => by cases hq; exact h.lowT), h.lowT, h.lowI, h.ne⟩
theorem SqSt.at (h : SqSt w0 gT gI vr s W) (hs : s ≤ 4294967295) (hv : vr ≤ 4294967295) : TxAt W (.agg (sqC gI vr).toArray) (sqT vr s) := by
  refine ⟨⟨hv, Nat.zero_le _⟩, _, _, rfl, ?_, ⟨none, 0, rfl, Nat.le_refl _, fun h0 => absurd h0 (Nat.lt_irrefl 0)⟩⟩
  exact insAt_one (by rw [sqX_cells]; exact h.row) (sqX_ok hs) (nil_key W)
theorem sq_call (w : World) (v : Value) (ver s : Nat) (c p : Nat) (h : TxAt w v (sqT ver s)) (hc : c ≤ 1000000) (hp : p ≤ 4294967295) (height : Int) (past : Nat) (hpa : past ≤ 4294967295) :
    Calls Try.prog 7 #[v, .slice (some ⟨w.heap.size, 0, none⟩) 1 1, .slice (some ⟨w.heap.size + 1, 0, none⟩) 1 1, .int .i64 height, .int .u32 (past : Int)] ((w.alloc (.cells #[.int .i64 (c : Int)] 3)).alloc (.cells #[.int .u32 (p : Int)] 22)) fun e w' => e = .returned (.bool (sqmetB (sqT ver s) [(c : Int)] [p] height past)) ∧ Below w.heap.size w w' := by
  obtain ⟨b, f1, f2⟩ := boxes_ab w #[.int .i64 (c : Int)] #[.int .u32 (p : Int)] 3 22
  refine (sqmet_any _ _ _ _ (sqT ver s) [(c : Int)] [p] height past (h.below b) (int_row f1) (ps_row [p] f2) rfl rfl (by show (1 : Nat) ≤ _; omega) (fun x hx => ?_) (fun x hx => ?_) hpa).mono ?_
  · obtain rfl := List.mem_singleton.1 hx
    exact ⟨by omega, by omega⟩
  · obtain rfl := List.mem_singleton.1 hx
    exact hp
  · rintro e w' ⟨h1, h2⟩
    exact ⟨h1, b.trans (h2.mono b.size)⟩
theorem SqSt.met (h : SqSt w0 gT gI vr s W) (hs : s ≤ 4294967295) (hv : vr ≤ 4294967295) (c p : Nat) (hc : c ≤ 1000000) (hp : p ≤ 4294967295) (height : Int) (past : Nat) (hpa : past ≤ 4294967295) (r : Bool) (hr : sqmetB (sqT vr s) [(c : Int)] [p] height past = r) :
    Calls Try.prog 7 #[.agg (sqC gI vr).toArray, .slice (some ⟨W.heap.size, 0, none⟩) 1 1, .slice (some ⟨W.heap.size + 1, 0, none⟩) 1 1, .int .i64 height, .int .u32 (past : Int)] ((W.alloc (.cells #[.int .i64 (c : Int)] 3)).alloc (.cells #[.int .u32 (p : Int)] 22)) fun e w' => e = .returned (.bool r) ∧ SqSt w0 gT gI vr s w' := by
  refine (sq_call W _ vr s c p (h.at hs hv) hc hp height past hpa).mono ?_
  rintro e w' ⟨rfl, hb⟩
  exact ⟨by rw [hr], h.keep hb⟩
/-- At height and past 0, as literals. -/
theorem SqSt.met0 (h : SqSt w0 gT gI vr s W) (hs : s ≤ 4294967295) (hv : vr ≤ 4294967295) (c p : Nat) (hc : c ≤ 1000000) (hp : p ≤ 4294967295) (hr : sqmetB (sqT vr s) [(c : Int)] [p] 0 0 = true) :
    Calls Try.prog 7 #[.agg (sqC gI vr).toArray, .slice (some ⟨W.heap.size, 0, none⟩) 1 1, .slice (some ⟨W.heap.size + 1, 0, none⟩) 1 1, .int .i64 0, .int .u32 0] ((W.alloc (.cells #[.int .i64 (c : Int)] 3)).alloc (.cells #[.int .u32 (p : Int)] 22)) fun e w' => e = .returned (.bool true) ∧ SqSt w0 gT gI vr s w' := h.met hs hv c p hc hp 0 0 (by omega) true hr
theorem SqSt.no (h : SqSt w0 gT gI vr s W) (hs : s ≤ 4294967295) (hv : vr ≤ 4294967295) (height : Int) (past : Nat) :
    Calls Try.prog 7 #[.agg (sqC gI vr).toArray, .slice none 0 0, .slice none 0 0, .int .i64 height, .int .u32 (past : Int)] W fun e w' => e = .returned (.bool false) ∧ Below W.heap.size W w' :=
  sqmet_no W _ (sqT vr s) none none 0 0 0 0 height past (h.at hs hv) (.inl (by show 0 ≠ 1; omega))
end Go.Proofs.Ytmdbhpkfldnodaa.Sha

/-
  The chapter's examples. No conditions.
-/
namespace Go.Proofs.Ytmdbhpkfldnodaa.Sha
open Go Go.RowKit
theorem sqn_call (w : World) (v : Value) (ver s : Nat) (c p : Nat) (h : TxAt w v (sqT ver s)) (hc : c ≤ 1000000) (hp : p ≤ 4294967295) :
    Calls Try.prog 8 #[v, .slice (some ⟨w.heap.size, 0, none⟩) 1 1, .slice (some ⟨w.heap.size + 1, 0, none⟩) 1 1] ((w.alloc (.cells #[.int .i64 (c : Int)] 3)).alloc (.cells #[.int .u32 (p : Int)] 22)) fun e w' => e = .returned (.tuple #[.int .i64 (sqV (sqT ver s) [(c : Int)] [p]).1, .int .i64 (sqV (sqT ver s) [(c : Int)] [p]).2, .bool true]) ∧ Below w.heap.size w w' := by
  obtain ⟨b, f1, f2⟩ := boxes_ab w #[.int .i64 (c : Int)] #[.int .u32 (p : Int)] 3 22
  refine (sqneed_any _ _ _ _ (sqT ver s) [(c : Int)] [p] (h.below b) (int_row f1) (ps_row [p] f2) rfl rfl (by show (1 : Nat) ≤ _; omega) (fun x hx => ?_) (fun x hx => ?_)).mono ?_
  · obtain rfl := List.mem_singleton.1 hx
    exact ⟨by omega, by omega⟩
  · obtain rfl := List.mem_singleton.1 hx
    exact hp
  · rintro e w' ⟨h1, h2⟩
    exact ⟨h1, b.trans (h2.mono b.size)⟩
set_option maxHeartbeats 1000000 in
set_option maxRecDepth 100000 in
theorem sqfinal_zero (w : World) (a b : Int) : Calls Try.prog 9 #[.agg #[.int .u32 0, .slice none 0 0, .slice none 0 0, .int .u32 0], .int .i64 a, .int .u32 b] w fun e w' => e = .returned (.bool true) ∧ Below w.heap.size w w' := by
  go_enter Try.func9, Try.ntmps9
  have f0 := heap_alloc_new w (.cells #[.int .u32 0, .slice none 0 0, .slice none 0 0, .int .u32 0] 35 (0, 0))
  have bb := (Below.refl w.heap.size w).alloc (Nat.le_refl _) (.cells #[.int .u32 0, .slice none 0 0, .slice none 0 0, .int .u32 0] 35 (0, 0))
  go_upto_region 1 with fail
  generalize hq : World.alloc _ _ = w1 at f0 bb ⊢
  clear hq
  have c3 : w1.cell? ⟨w.heap.size, 3, none⟩ = some (.int .u32 0) := by rw [cell_of_row _ _ _ _ _ _ f0]; rfl
  go_wp2_with fail
  go_ret
  exact ⟨rfl, bb⟩
set_option maxHeartbeats 2000000 in
set_option maxRecDepth 100000 in
theorem sqfirst_any (w : World) : Calls Try.prog 5 #[] w fun e w' => e = .returned (.bool true) ∧ Below w.heap.size w w' := by
  obtain ⟨i0, hi, hz0, hz1, hz2⟩ := info_parts info_in
  go_enter Try.func5, Try.ntmps5
  go_wp2_with ((with_reducible show wpList _ _ _ _ _ _); first | (refine wpList_buildTo rfl 31 _ rfl _ rfl (sqA ++ [nV 3]).toArray (by kernel_rfl) ?_; go_frame) | (refine wpList_slice_one rfl 32 31 (.tmp 5) rfl (sqA ++ [nV 3]) rfl Try.underlying32 i0 _ hi hz0 (by rw [hz1]; rfl) (by show 0 < 35; omega) (by show 35 ≤ _; omega) ?_; have f0 := heap_alloc_new w (.cells (sqA ++ [nV 3]).toArray 31 (0, 0)); have bb := (Below.refl w.heap.size w).alloc (Nat.le_refl _) (.cells (sqA ++ [nV 3]).toArray 31 (0, 0)); generalize hq : World.alloc _ _ = w1; have e2 : w.alloc (.cells (sqA ++ [nV 3]).toArray 31 (0, 0)) = w1 := hq; rw [e2] at f0 bb; have F0 := Lib.hid f0; have B0 := Lib.hid bb; clear hq f0 bb e2; go_frame) | (refine wpList_buildTo rfl 35 _ rfl _ rfl (sqC w.heap.size 2).toArray (by kernel_rfl) ?_; go_frame))
  have TX : TxAt w1 (.agg (sqC w.heap.size 2).toArray) (sqT 2 3) := ⟨⟨by show (2 : Nat) ≤ _; omega, Nat.zero_le _⟩, _, _, rfl, insAt_one (by rw [sqX_cells]; exact F0.out) (sqX_ok (by omega)) (nil_key w1), ⟨none, 0, rfl, Nat.le_refl _, fun h0 => absurd h0 (Nat.lt_irrefl 0)⟩⟩
  refine (sqn_call w1 _ 2 3 5 9 TX (by omega) (by omega)).mono ?_
  rw [sqV_plain (by omega)]
  rintro e w2 ⟨rfl, hb⟩
  have B2 := Lib.hid (B0.out.trans (hb.mono B0.out.size))
  clear hb TX F0 B0
  go_wp2_with fail
  refine (sqfinal_zero w2 5 5).mono ?_
  rintro e w3 ⟨rfl, hb⟩
  have B3 := Lib.hid (B2.out.trans (hb.mono B2.out.size))
  clear hb
  go_wp2_with fail
  go_ret
  exact ⟨rfl, B3.out⟩
end Go.Proofs.Ytmdbhpkfldnodaa.Sha

/-
  The state of the law of several inputs: a transaction in its box, its inputs, heights and pasts in rows of their own. Conditions: none.
-/
namespace Go.Proofs.Ytmdbhpkfldnodaa.Sha
open Go Go.RowKit
def smC (vr : Nat) (iv : Value) : List Value := [nV vr, iv, .slice none 0 0, nV 0]
def smX (s : Nat) : List Value := sqA ++ [nV s]
theorem smX_length (s : Nat) : (smX s).length = 35 := rfl
theorem smX_one (s : Nat) : ∀ v ∈ smX s, v.oneCell' = true := by
  intro v hv
  unfold smX sqA ptL at hv
  rw [List.mem_append, List.mem_append, List.mem_append] at hv
  rcases hv with ((hv | hv) | hv) | hv
  · exact bV_one' _ v hv
  · obtain rfl := List.mem_singleton.1 hv; rfl
  · obtain rfl := List.mem_singleton.1 hv; rfl
  · obtain rfl := List.mem_singleton.1 hv; rfl
/-- Blocks of unlike types are apart. -/
theorem rw_apart {w : World} {T U : TypeId} {base base' k k' : Nat} {v v' : Value} {L L' : List (List Value)} (h : RwOwn k T base w v L) (h' : RwOwn k' U base' w v' L') (hT : T ≠ U) : v.ownBlock = none ∨ v.ownBlock ≠ v'.ownBlock := by
  rcases h.1.2 with ⟨rfl, _⟩ | ⟨g, cap, cur, rfl, _, hr, _⟩
  · exact .inl rfl
  · rcases h'.1.2 with ⟨rfl, _⟩ | ⟨g', cap', cur', rfl, _, hr', _⟩
    · exact .inr (fun e => by cases e)
    · refine .inr (fun e => ?_)
      have e2 : g = g' := Option.some.inj e
      subst e2
      rw [hr] at hr'
      cases hr'
      exact hT rfl
structure SmSt (w0 : World) (base g vr : Nat) (S : List Nat) (H : List Int) (Q : List Nat) (iv hv pv : Value) (W : World) : Prop where
  tx : W.heap[g]? = some (.cells (smC vr iv).toArray 35 (0, 0))
  ins : RwOwn 35 31 base W iv (S.map smX)
  hs : RwOwn 1 3 base W hv (H.map intC)
  ps : RwOwn 1 22 base W pv (Q.map u32C)
  below : Below w0.heap.size w0 W
  low : w0.heap.size ≤ g
  gb : g < base
  sz : base ≤ W.heap.size
variable {w0 W W' W2 : World} {base g vr : Nat} {S : List Nat} {H : List Int} {Q : List Nat} {iv hv pv : Value}
theorem SmSt.keep (h : SmSt w0 base g vr S H Q iv hv pv W) (hb : Below W.heap.size W W') : SmSt w0 base g vr S H Q iv hv pv W' :=
  ⟨row_below h.tx hb, h.ins.keep hb, h.hs.keep hb, h.ps.keep hb, h.below.trans (hb.mono h.below.size), h.low, h.gb, Nat.le_trans h.sz hb.size⟩
theorem SmSt.off {k : Nat} {T : TypeId} {v : Value} {L : List (List Value)} (h : SmSt w0 base g vr S H Q iv hv pv W) (ho : RwOwn k T base W' v L) : v.ownBlock = none ∨ v.ownBlock ≠ some g := own_far ho.1 h.gb
theorem SmSt.grown {k : Nat} {T : TypeId} {v : Value} {L : List (List Value)} (h : SmSt w0 base g vr S H Q iv hv pv W) (ho : RwOwn k T base W v L) (hg : W.grownBy W' v.ownBlock) : Below w0.heap.size w0 W' :=
  own_grown h.below (Nat.le_of_lt (Nat.lt_of_le_of_lt h.low h.gb)) h.below.size ho.1 hg
theorem SmSt.txrow {k : Nat} {T : TypeId} {v : Value} {L : List (List Value)} (h : SmSt w0 base g vr S H Q iv hv pv W) (ho : RwOwn k T base W v L) (hg : W.grownBy W' v.ownBlock) : W'.heap[g]? = some (.cells (smC vr iv).toArray 35 (0, 0)) := by
  rcases h.off ho with e | e
  · rw [e] at hg
    exact row_far h.tx hg (fun e => by cases e)
  · exact row_far h.tx hg e
theorem SmSt.pushH {x : Int} {hv' : Value} (h : SmSt w0 base g vr S H Q iv hv pv W) (ho : RwOwn 1 3 base W' hv' (H.map intC ++ [intC x])) (hg : W.grownBy W' hv.ownBlock) : SmSt w0 base g vr S (H ++ [x]) Q iv hv' pv W' :=
  ⟨h.txrow h.hs hg, h.ins.kept hg (rw_apart h.ins h.hs (by decide)), by rw [List.map_append]; exact ho, h.ps.kept hg (rw_apart h.ps h.hs (by decide)), h.grown h.hs hg, h.low, h.gb, Nat.le_trans h.sz hg.size⟩
theorem SmSt.pushP {x : Nat} {pv' : Value} (h : SmSt w0 base g vr S H Q iv hv pv W) (ho : RwOwn 1 22 base W' pv' (Q.map u32C ++ [u32C x])) (hg : W.grownBy W' pv.ownBlock) : SmSt w0 base g vr S H (Q ++ [x]) iv hv pv' W' :=
  ⟨h.txrow h.ps hg, h.ins.kept hg (rw_apart h.ins h.ps (by decide)), h.hs.kept hg (rw_apart h.hs h.ps (by decide)), by rw [List.map_append]; exact ho, h.grown h.ps hg, h.low, h.gb, Nat.le_trans h.sz hg.size⟩
theorem SmSt.pushI {x : Nat} {iv' : Value} (h : SmSt w0 base g vr S H Q iv hv pv W) (ho : RwOwn 35 31 base W' iv' (S.map smX ++ [smX x])) (hg : W.grownBy W' iv.ownBlock)
    (hr : W2.heap[g]? = some (.cells ([nV vr] ++ [iv'] ++ [.slice none 0 0, nV 0]).toArray 35 (0, 0))) (hg2 : W'.grownBy W2 (some g)) : SmSt w0 base g vr (S ++ [x]) H Q iv' hv pv W2 :=
  ⟨hr, by rw [List.map_append]; exact ho.kept hg2 (h.off ho), (h.hs.kept hg (rw_apart h.hs h.ins (by decide))).kept hg2 (h.off h.hs), (h.ps.kept hg (rw_apart h.ps h.ins (by decide))).kept hg2 (h.off h.ps),
    (h.grown h.ins hg).grown hg2 (h.grown h.ins hg).size (fun q hq => by cases hq; exact h.low), h.low, h.gb, Nat.le_trans h.sz (Nat.le_trans hg.size hg2.size)⟩
theorem SmSt.ver {v' : Nat} (h : SmSt w0 base g vr S H Q iv hv pv W) (hr : W'.heap[g]? = some (.cells (([] : List Value) ++ [nV v'] ++ [iv, Value.slice none 0 0, nV 0]).toArray 35 (0, 0))) (hg : W.grownBy W' (some g)) : SmSt w0 base g v' S H Q iv hv pv W' :=
  ⟨hr, h.ins.kept hg (h.off h.ins), h.hs.kept hg (h.off h.hs), h.ps.kept hg (h.off h.ps), h.below.grown hg h.below.size (fun q hq => by cases hq; exact h.low), h.low, h.gb, Nat.le_trans h.sz hg.size⟩
def smT (vr : Nat) (S : List Nat) : TTx := ⟨vr, S.map sqX, [], 0⟩
theorem SmSt.at (h : SmSt w0 base g vr S H Q iv hv pv W) (hs : ∀ s ∈ S, s ≤ 4294967295) (hv : vr ≤ 4294967295) : TxAt W (.agg (smC vr iv).toArray) (smT vr S) := by
  refine ⟨⟨hv, Nat.zero_le _⟩, _, _, rfl, ?_, ⟨none, 0, rfl, Nat.le_refl _, fun h0 => absurd h0 (Nat.lt_irrefl 0)⟩⟩
  obtain ⟨_, sp, cap, e, hc, hg⟩ := h.ins.at (by omega)
  rw [List.length_map] at e hc hg
  refine ⟨sp, cap, by rw [e]; show _ = Value.slice sp (S.map sqX).length cap; rw [List.length_map], by show (S.map sqX).length ≤ cap; rw [List.length_map]; exact hc, fun h0 => ?_⟩
  obtain ⟨b, o, hsp, hx⟩ := hg (by have h1 : 0 < (S.map sqX).length := h0; rw [List.length_map] at h1; exact h1)
  refine ⟨b, o, hsp, fun i x hi => ?_⟩
  have hi2 : (S.map sqX)[i]? = some x := hi
  rw [List.getElem?_map] at hi2
  obtain ⟨s, hs1, rfl⟩ := Option.map_eq_some_iff.1 hi2
  exact ⟨sqX_ok (hs s (List.mem_of_getElem? hs1)), _, nil_key W, by rw [sqX_cells]; exact hx i (smX s) (by rw [List.getElem?_map, hs1]; rfl)⟩
theorem needE_sm (vr : Nat) (S : List Nat) (H : List Int) (Q : List Nat) : needE (smT vr S) H Q = S.zip (H.zip Q) := by
  unfold needE smT
  show ((S.map sqX).map (·.seq)).zip _ = _
  rw [List.map_map, show (TIn.seq ∘ sqX) = id from rfl, List.map_id]
theorem zip_snoc {α β : Type} {l : List α} {m : List β} (h : l.length = m.length) (x : α) (y : β) : (l ++ [x]).zip (m ++ [y]) = l.zip m ++ [(x, y)] := by
  rw [List.zip_append h]
  rfl
def smF (S : List Nat) (H : List Int) (Q : List Nat) : Int × Int := (S.zip (H.zip Q)).foldl needStep (-1, -1)
theorem smF_snoc {S : List Nat} {H : List Int} {Q : List Nat} (h1 : S.length = H.length) (h2 : H.length = Q.length) (s : Nat) (x : Int) (p : Nat) : smF (S ++ [s]) (H ++ [x]) (Q ++ [p]) = needStep (smF S H Q) (s, x, p) := by
  unfold smF
  rw [zip_snoc h2, zip_snoc (by rw [List.length_zip]; omega), List.foldl_append]
  rfl
theorem sm_need {S : List Nat} {H : List Int} {Q : List Nat} (h : ∀ x ∈ H, 0 ≤ x ∧ x ≤ 100000) : sqV (smT 2 S) H Q = smF S H Q := by
  rw [sqV_needL (fun x hx => ⟨(h x hx).1, by have := (h x hx).2; omega⟩)]
  unfold needL
  rw [needE_sm]
  exact if_neg (show ¬ (2 : Nat) < 2 by omega)
theorem smX_all (s : Nat) : (smX s).toArray.all (·.oneCell') = true := by
  rw [show smX s = inL (sqX s) (.slice none 0 0) from (sqX_cells s).symm]
  exact in_one _ _ rfl
theorem needStep_val (hi la : Int) (s : Nat) (x : Int) (p : Nat) : needStep (hi, la) (s, x, p) = if lockB s then (hi, la) else if timeB s then (hi, max la ((p : Int) + 512 * (spanN s : Int) - 1)) else (max hi (addH x (spanN s)), la) := rfl
theorem smS_h {k : Nat} (hk : k < 65536) (hi la : Int) {x : Nat} (hx : x ≤ 100000) (p : Nat) : needStep (hi, la) (k, (x : Int), p) = (max hi ((x : Int) + k - 1), la) := by
  have e1 : lockB k = false := by rw [lockB_div]; simp; omega
  have e2 : timeB k = false := by rw [timeB_div]; simp; omega
  have e3 : spanN k = k := by rw [spanN_mod, Nat.mod_eq_of_lt hk]
  have e4 := addH_ok (h := (x : Int)) (s := k) ⟨by omega, by omega⟩
  rw [needStep_val, e1, e2, e4, e3, if_neg (by decide), if_neg (by decide)]
theorem smS_t {k : Nat} (hk : k < 65536) (hi la : Int) (x : Int) (p : Nat) : needStep (hi, la) (k ||| 4194304, x, p) = (hi, max la ((p : Int) + 512 * (k : Int) - 1)) := by
  rw [or_time (by omega)]
  generalize hs : k + 4194304 = s
  have e1 : lockB s = false := by rw [lockB_div]; simp; omega
  have e2 : timeB s = true := by rw [timeB_div]; simp; omega
  have e3 : spanN s = k := by rw [spanN_mod]; omega
  rw [needStep_val, e1, e2, e3, if_neg (by decide), if_pos rfl]
theorem smS_l {k : Nat} (hk : k < 2147483648) (hi la : Int) (x : Int) (p : Nat) : needStep (hi, la) (k ||| 2147483648, x, p) = (hi, la) := by
  rw [or_lock hk]
  generalize hs : k + 2147483648 = s
  have e1 : lockB s = true := by rw [lockB_div]; simp; omega
  rw [needStep_val, e1, if_pos rfl]
/-- What Need answers of the transaction in its box. -/
theorem SmSt.need (h : SmSt w0 base g vr S H Q iv hv pv W) (hs : ∀ s ∈ S, s ≤ 4294967295) (hH : ∀ x ∈ H, 0 ≤ x ∧ x ≤ 100000) (hQ : ∀ x ∈ Q, x ≤ 4294967295) (hvr : vr ≤ 4294967295) (h1 : S.length = H.length) (h2 : H.length = Q.length) (hn : S.length ≤ 10) (a b : Int) (hab : sqV (smT vr S) H Q = (a, b)) :
    Calls Try.prog 8 #[.agg (smC vr iv).toArray, hv, pv] W fun e w' => e = .returned (.tuple #[.int .i64 a, .int .i64 b, .bool true]) ∧ SmSt w0 base g vr S H Q iv hv pv w' := by
  have hl : (smT vr S).ins.length = S.length := by show (S.map sqX).length = _; rw [List.length_map]
  refine (sqneed_any W _ hv pv (smT vr S) H Q (h.at hs hvr) (h.hs.at (by omega)) (h.ps.at (by omega)) (by rw [hl, h1]) (by rw [hl, h1, h2]) (by rw [hl]; omega) (fun x hx => ⟨by have := (hH x hx).1; omega, by have := (hH x hx).2; omega⟩) hQ).mono ?_
  rintro e w' ⟨rfl, hb⟩
  exact ⟨by rw [hab], h.keep hb⟩
theorem SmSt.none (h : SmSt w0 base g vr S H Q iv hv pv W) (hs : ∀ s ∈ S, s ≤ 4294967295) (hvr : vr ≤ 4294967295) (hne : H.length ≠ S.length) :
    Calls Try.prog 8 #[.agg (smC vr iv).toArray, hv, pv] W fun e w' => e = .returned (.tuple #[.int .i64 0, .int .i64 0, .bool false]) ∧ SmSt w0 base g vr S H Q iv hv pv w' := by
  have hl : (smT vr S).ins.length = S.length := by show (S.map sqX).length = _; rw [List.length_map]
  obtain ⟨s1, c1, e1⟩ := (h.hs.at (by omega)).shape
  obtain ⟨s2, c2, e2⟩ := (h.ps.at (by omega)).shape
  have key := sqneed_no W _ (smT vr S) s1 s2 _ _ c1 c2 (h.at hs hvr) (.inl (by rw [hl, List.length_map]; exact hne) : (H.map intC).length ≠ (smT vr S).ins.length ∨ (Q.map u32C).length ≠ (smT vr S).ins.length)
  rw [← e1, ← e2] at key
  refine key.mono ?_
  rintro e w' ⟨h1, h2⟩
  exact ⟨h1, h.keep h2⟩
end Go.Proofs.Ytmdbhpkfldnodaa.Sha
