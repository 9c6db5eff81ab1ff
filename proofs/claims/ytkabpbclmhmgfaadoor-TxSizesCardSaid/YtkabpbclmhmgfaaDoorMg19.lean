/-
  The statement on how many bytes a transaction has, and on two read one behind the other, answers true, given what package tx is shown to answer. Conditions: the transactions lie in memory; the errors are there.
-/
import Derived.Test.YtkabpbclmhmgfaaDoorMg12
import Derived.Test.YtkabpbclmhmgfaaDoorMg13
import Derived.Test.YtkabpbclmhmgfaaDoorMg09
import Derived.Test.YtkabpbclmhmgfaaDoorMg04
namespace Go.Proofs.YtkabpbclmhmgfaaDoor.Sha
open Go Go.RowKit

/-- What a Reader's bytes are as a transaction. -/
structure TakeIs2 (bs : List UInt8) (t : TTx) (b : List UInt8) : Prop where
  eq : takeTx bs 0 = (t, b, 0)
def szI (l : List TIn) : Nat := l.foldl (fun n x => n + (41 + x.key.length)) 0
theorem szI_snoc {l : List TIn} {k : Nat} {x : TIn} (h : l[k]? = some x) : szI (l.take (k + 1)) = szI (l.take k) + (41 + x.key.length) := by
  have hk := List.getElem?_eq_some_iff.1 h
  rw [List.take_succ_eq_append_getElem hk.1, hk.2, szI, List.foldl_append]
  rfl
theorem szI_fold : ∀ (l : List TIn) (n : Nat), InsOk l → KeysLe l 80 → l.foldl (fun n x => n + (41 + x.key.length)) n = n + (insB l).length
  | [], n, _, _ => by simp [insB]
  | x :: l, n, h, hk => by
    rw [List.foldl_cons, szI_fold l _ (fun z hz => h z (List.mem_cons_of_mem _ hz)) (fun z hz => hk z (List.mem_cons_of_mem _ hz))]
    have e := inB_length x (h x List.mem_cons_self)
    have e2 := lenN_small (n := x.key.length) (by have := hk x List.mem_cons_self; omega)
    simp only [insB, List.flatMap_cons, List.length_append]
    omega
theorem size_plain {t : TTx} (h : TxRead t) : (txB t).length = 10 + 40 * t.outs.length + szI t.ins := by
  have h1 := h.small.bytes
  have h2 := szI_fold t.ins 0 h.2.1 h.2.2.2.1
  have h3 := lenN_small (n := t.ins.length) (by have := h.2.2.2.2.1; omega)
  have h4 := lenN_small (n := t.outs.length) (by have := h.2.2.2.2.2; omega)
  unfold szI
  omega
def SxInv (n A : Nat) (t : TTx) (w2 : World) (vs vi : Value) (wr : World) : Prop := ∃ k s : Nat, k ≤ n ∧ vi = .int .i64 k ∧ s = A + szI (t.ins.take k) ∧ vs = .int .i64 s ∧ w2 = wr
set_option maxHeartbeats 4000000 in
set_option maxRecDepth 100000 in
theorem txsizes_main (E : Nat → Addr) (HF : ∀ w, Calls Tryd.prog 9 #[] w fun e w' => e = .returned (.bool true) ∧ Below w.heap.size w w') (HBy : BytesC) (HSz : SizeC) (HCh : CheckC E) (HSa : SameC)
    (t u : TTx) (v v' : Value) (w : World) (hE : Er8 w E) (h1 : TxAt w v t) (h2 : TxAt w v' u) (k1 : TxCame t) (k2 : TxCame u) :
    Calls Tryd.prog 7 #[v, v'] w fun e w' => e = .returned (.bool true) ∧ Below w.heap.size w w' := by
  have H1 := Lib.hid h1
  have H2 := Lib.hid h2
  obtain ⟨_, iv, ov, rfl, hti, hto⟩ := h1
  obtain ⟨_, iv', ov', rfl, _, _⟩ := h2
  obtain ⟨si, ci, rfl, _, hti⟩ := hti
  obtain ⟨so, co, rfl, _, _⟩ := hto
  have HTI := Lib.hid hti
  obtain ⟨ni, hni⟩ : ∃ ni, ni = t.ins.length := ⟨_, rfl⟩
  obtain ⟨no, hno⟩ : ∃ no, no = t.outs.length := ⟨_, rfl⟩
  have NI := Lib.hid hni
  have NO := Lib.hid hno
  rw [← hni, ← hno] at H1
  rw [← hni, ← hno]
  obtain ⟨iv, hiv⟩ : ∃ iv, iv = Value.slice si ni ci := ⟨_, rfl⟩
  obtain ⟨ov, hov⟩ : ∃ ov, ov = Value.slice so no co := ⟨_, rfl⟩
  rw [← hiv, ← hov] at H1 ⊢
  have IV := Lib.hid hiv
  have OV := Lib.hid hov
  have HE := Lib.hid hE
  have K1 := Lib.hid k1
  have K2 := Lib.hid k2
  have HF := Lib.hid HF
  obtain ⟨i0, hi, hz0, hz1, hz2⟩ := info_parts info_u8
  clear hE k1 k2 hti hni hno hiv hov
  go_enter Tryd.func7, Tryd.ntmps7
  go_upto_region 1 with fail
  obtain ⟨b1, f1, f2⟩ := boxes2 w (txL t iv ov) (txL u iv' ov') 26
  generalize hw1 : World.alloc _ _ = w1
  rw [hw1] at b1 f1 f2
  have B := Lib.hid b1
  have F := Lib.hid f1
  have F' := Lib.hid f2
  clear hw1 b1 f1 f2
  go_upto_region 4 with (go_at_call 9; refine (HF.out _).mono ?_; rintro e w2 ⟨rfl, hb2⟩; have F := Lib.hid (row_below F.out hb2); have F' := Lib.hid (row_below F'.out hb2); have B := Lib.hid (B.out.trans (hb2.mono B.out.size)); clear hb2)
  obtain ⟨l1, hl1⟩ : ∃ l1, l1 = lightB t := ⟨_, rfl⟩
  obtain ⟨l2, hl2⟩ : ∃ l2, l2 = lightB u := ⟨_, rfl⟩
  have L1 := Lib.hid hl1
  have L2 := Lib.hid hl2
  clear hl1 hl2
  go_wp2_with ((with_reducible show wpList _ _ _ _ _ _); refine wpList_load_row rfl 26 (.tmp 2) rfl w.heap.size rfl 26 (txL t iv ov).toArray (0, 0) _ F.out Tryd.underlying26 rfl (by kernel_rfl) ?_; go_frame)
  refine (light_any t _ w2 (H1.out.below B.out) l1 L1.out K1.out.2.2.2.2.1).mono ?_
  rintro e w3 ⟨rfl, hb3⟩
  have F := Lib.hid (row_below F.out hb3)
  have F' := Lib.hid (row_below F'.out hb3)
  have B := Lib.hid (B.out.trans (hb3.mono B.out.size))
  clear hb3
  cases l1
  · go_wp2_with fail
    go_ret
    exact ⟨rfl, B.out⟩
  go_wp2_with ((with_reducible show wpList _ _ _ _ _ _); refine wpList_load_rowG 26 (.tmp 3) rfl (w.heap.size + 1) rfl 26 (txL u iv' ov').toArray (0, 0) _ F'.out Tryd.underlying26 rfl (by kernel_rfl) rfl ?_; go_frame)
  refine (light_any u _ w3 (H2.out.below B.out) l2 L2.out K2.out.2.2.2.2.1).mono ?_
  rintro e w4 ⟨rfl, hb4⟩
  have F := Lib.hid (row_below F.out hb4)
  have F' := Lib.hid (row_below F'.out hb4)
  have B := Lib.hid (B.out.trans (hb4.mono B.out.size))
  clear hb4
  cases l2
  · go_wp2_with fail
    go_ret
    exact ⟨rfl, B.out⟩
  have TS := Lib.hid (small_of_light K1.out L1.out.symm)
  have US := Lib.hid (small_of_light K2.out L2.out.symm)
  obtain ⟨cc, hcc⟩ : ∃ cc, cc = checkC t := ⟨_, rfl⟩
  obtain ⟨dd, hdd⟩ : ∃ dd, dd = checkC u := ⟨_, rfl⟩
  have HCC := Lib.hid hcc
  have HDD := Lib.hid hdd
  clear hcc hdd
  go_wp2_with ((with_reducible show wpList _ _ _ _ _ _); refine wpList_load_rowG 26 (.tmp 2) rfl w.heap.size rfl 26 (txL t iv ov).toArray (0, 0) _ F.out Tryd.underlying26 rfl (by kernel_rfl) rfl ?_; go_frame)
  refine (HCh t _ w4 cc HCC.out (HE.out.below B.out) (H1.out.below B.out) TS.out).mono ?_
  rintro e w4 ⟨rfl, hb4⟩
  have F := Lib.hid (row_below F.out hb4)
  have F' := Lib.hid (row_below F'.out hb4)
  have B := Lib.hid (B.out.trans (hb4.mono B.out.size))
  clear hb4
  cases cc with
  | succ q =>
    rw [show errV E (q + 1) = Value.iface 133 (.pointer (some (E q))) from rfl]
    go_wp2_with fail
    go_ret
    exact ⟨rfl, B.out⟩
  | zero =>
  rw [show errV E 0 = Value.nilIface from rfl]
  go_wp2_with ((with_reducible show wpList _ _ _ _ _ _); refine wpList_load_rowG 26 (.tmp 3) rfl (w.heap.size + 1) rfl 26 (txL u iv' ov').toArray (0, 0) _ F'.out Tryd.underlying26 rfl (by kernel_rfl) rfl ?_; go_frame)
  refine (HCh u _ w4 dd HDD.out (HE.out.below B.out) (H2.out.below B.out) US.out).mono ?_
  rintro e w5 ⟨rfl, hb5⟩
  have F := Lib.hid (row_below F.out hb5)
  have F' := Lib.hid (row_below F'.out hb5)
  have B := Lib.hid (B.out.trans (hb5.mono B.out.size))
  clear hb5
  cases dd with
  | succ q =>
    rw [show errV E (q + 1) = Value.iface 133 (.pointer (some (E q))) from rfl]
    go_wp2_with fail
    go_ret
    exact ⟨rfl, B.out⟩
  | zero =>
  rw [show errV E 0 = Value.nilIface from rfl]
  have RT := Lib.hid (read_fine TS.out.fit (fine_check HCC.out.symm))
  have RU := Lib.hid (read_fine US.out.fit (fine_check HDD.out.symm))
  have bni : ni ≤ 50 := by rw [NI.out]; exact RT.out.2.2.2.2.1
  have bno : no ≤ 50 := by rw [NO.out]; exact RT.out.2.2.2.2.2
  have c1 : w5.cell? ⟨w.heap.size, 1, none⟩ = some (.slice si ni ci) := by rw [cell_of_row _ _ _ _ _ _ F.out, ← IV.out]; rfl
  have c2 : w5.cell? ⟨w.heap.size, 2, none⟩ = some (.slice so no co) := by rw [cell_of_row _ _ _ _ _ _ F.out, ← OV.out]; rfl
  obtain ⟨A, hA⟩ : ∃ A, A = 10 + 40 * no := ⟨_, rfl⟩
  have HA := Lib.hid hA
  have hA2 : (10 : Int) + 40 * (no : Int) = (A : Int) := by omega
  have bA : A ≤ 2010 := by omega
  clear hA
  go_wp2_with fail
  try rw [hA2]
  clear c2 hA2
  go_loopw [6, 7] (fun vs vi wr => SxInv ni A t w5 vs vi wr) (fun _ i _ => ni - (intOf i).toNat)
  case atStart => exact ⟨0, A, by omega, rfl, by simp [szI], rfl, rfl⟩
  case round =>
  obtain ⟨k, s, hk, rfl, hs, rfl, rfl⟩ := hrel
  have HSm := Lib.hid hs
  clear hs
  by_cases hlt : k < ni
  · have hkx : k < t.ins.length := by have := NI.out; omega
    obtain ⟨b1, o1, hs1, he1⟩ := HTI.out (by omega)
    have g1 := he1 k _ (List.getElem?_eq_getElem hkx)
    obtain ⟨x, hx⟩ : ∃ x, x = t.ins[k] := ⟨_, rfl⟩
    rw [← hx] at g1
    have hgx : t.ins[k]? = some x := by rw [hx]; exact List.getElem?_eq_getElem _
    obtain ⟨hx1, kx, hkx2, hr1⟩ := g1
    obtain ⟨sx, cx, hkv⟩ := hkx2.2
    obtain ⟨kl, hkl⟩ : ∃ kl, kl = x.key.length := ⟨_, rfl⟩
    rw [← hkl] at hkv
    have bkl : kl ≤ 80 := by rw [hkl]; exact RT.out.2.2.2.1 x (List.mem_of_getElem? hgx)
    have ck : w5.cell? ⟨b1, o1 + k * 35 + 33, none⟩ = some (.slice sx kl cx) := by
      rw [← hkv]
      exact in_key hx1.1 (range_below hr1 B.out)
    have bs : s ≤ 1000000000 := by
      have h1 := size_plain RT.out
      have h2 := szI_snoc hgx
      have h3 := TS.out.ins0
      have h4 : szI (t.ins.take k) ≤ (insB (t.ins.take k)).length := by
        have := szI_fold (t.ins.take k) 0 (fun z hz => RT.out.2.1 z (List.mem_of_mem_take hz)) (fun z hz => RT.out.2.2.2.1 z (List.mem_of_mem_take hz))
        unfold szI
        omega
      have h5 := ins_part hgx
      have h6 := HSm.out
      omega
    rw [hs1] at c1
    have p0 : 0 ≤ (k : Int) := by omega
    have q0 : (k : Int) < (ni : Int) := by omega
    have GX := Lib.hid hgx
    have KL := Lib.hid hkl
    clear hx hgx he1 hs1 hx1 hkx2 hr1 hkv hkl hkx
    go_wp2_with fail
    go_roundw
    case rel => exact ⟨k + 1, s + 41 + kl, by omega, by go_num, by rw [szI_snoc GX.out, HSm.out, KL.out]; omega, by go_num, rfl⟩
    case measure => simp [intOf]; omega
  have hkn : k = ni := by omega
  have hge : ¬ (k : Int) < (ni : Int) := by omega
  obtain ⟨nb, hnb⟩ : ∃ nb, nb = (txB t).length := ⟨_, rfl⟩
  have hsn : s = nb := by
    have h1 := size_plain RT.out
    have h2 := HSm.out
    have h3 := HA.out
    rw [hkn, NI.out, List.take_length] at h2
    rw [← NO.out] at h1
    omega
  subst hsn
  have NB := Lib.hid hnb
  have HSN : Hid (∀ w', Below w5.heap.size w5 w' → Calls Tryd.prog 14 #[.agg (txL t iv ov).toArray] w' fun e w'' => e = .returned (.int .i64 (s : Int)) ∧ Below w'.heap.size w' w'') := fun w' hw' => by rw [hnb]; exact HSz t _ w' ((H1.out.below B.out).below hw') TS.out
  have LT5 : Hid ((txB t).length ≤ 35184372088832) := TS.out.len
  have LU5 : Hid ((txB u).length ≤ 35184372088832) := US.out.len
  have H1 := Lib.hid (H1.out.below B.out)
  have H2 := Lib.hid (H2.out.below B.out)
  have HE := Lib.hid (HE.out.below B.out)
  have TKT : TakeIs2 (txB t ++ txB u) t (txB u) := ⟨take_own RT.out (txB u)⟩
  have TKU : TakeIs2 (txB u) u [] := ⟨by have := take_own RU.out []; rwa [List.append_nil] at this⟩
  obtain ⟨ss, hss⟩ : ∃ ss : Bool, ss = true ↔ t = u := by
    by_cases h : t = u
    · exact ⟨true, by simp [h]⟩
    · exact ⟨false, by simp [h]⟩
  have HSS := Lib.hid hss
  have HSB : Hid (ss = decide (txB t = txB u)) := by show _ = _; rw [Bool.eq_iff_iff, decide_eq_true_eq, hss]; exact ⟨fun h => by rw [h], fun h => txB_inj TS.out.fit US.out.fit h⟩
  have HLN : Hid ((txB t).length ≤ 70368744177680) := Nat.le_trans TS.out.len (by omega)
  have HKT : Hid (KeysLe t.ins 70368744177664) := fun x hx => Nat.le_trans (TS.out.2.2.2 x hx) (by omega)
  have HKU : Hid (KeysLe u.ins 70368744177664) := fun x hx => Nat.le_trans (US.out.2.2.2 x hx) (by omega)
  clear hkn hnb hss hlt hk HSm
  go_wp2_with fail
  clear c1 hge
  refine wp_region_held_drew (S := (fun w' => Below w5.heap.size w5 w')) (by kernel_rfl) (Below.drew (Below.refl _ _)) (fun hHeld => ?_)
  generalize hwd : w5.drew = wd
  rw [hwd] at hHeld
  clear hwd
  refine held_take (i := 0) (v := (.agg (txL t iv ov).toArray)) rfl (by kernel_rfl) (by kernel_rfl) (by kernel_rfl) (fun _ _ _ h => h) (yieldsIf_load_row (by rfl) 26 _ rfl w.heap.size rfl 26 _ (0, 0) _ (fun w' hw' => row_below F.out hw') Tryd.underlying26 rfl (by kernel_rfl)) hHeld ?_
  go_frame
  refine held_take (i := 2) (v := (.agg (txL u iv' ov').toArray)) rfl (by kernel_rfl) (by kernel_rfl) (by kernel_rfl) (fun _ _ _ h => h) (yieldsIf_load_row (by rfl) 26 _ rfl (w.heap.size + 1) rfl 26 _ (0, 0) _ (fun w' hw' => row_below F'.out hw') Tryd.underlying26 rfl (by kernel_rfl)) hHeld ?_
  go_frame
  refine wpAnyH_ready (rs := [1]) (by kernel_rfl) (by simp) (held_cons rfl (fun K hK => ?_) AllReadyH.nil)
  go_simp
  refine (HBy t _ wd (H1.out.below hHeld) TS.out).mono ?_
  rintro e m1 ⟨v6, rfl, ho, hb⟩
  have hc : CopyB wd m1 v6 (txB t) := ⟨ho, hb⟩
  have C1 := Lib.hid (hc.start hHeld)
  have HX := Lib.hid (hHeld.trans (hb.mono hHeld.size))
  clear ho hb hc hHeld
  go_wp2_with fail
  refine hK.out _ _ HX.out (fun hHeld => ?_)
  clear hK K HX
  refine wpAnyH_ready (rs := [3]) (by kernel_rfl) (by simp) (held_cons rfl (fun K hK => ?_) AllReadyH.nil)
  go_simp
  refine (HBy u _ m1 (H2.out.below hHeld) US.out).mono ?_
  rintro e m2 ⟨v7, rfl, ho, hb⟩
  have SU := Lib.hid (src_own ho)
  have C2 := Lib.hid (C1.out.keep hb)
  have HX := Lib.hid (hHeld.trans (hb.mono hHeld.size))
  clear ho hb hHeld C1
  go_wp2_with fail
  refine hK.out _ _ HX.out (fun hHeld => ?_)
  clear hK K HX
  refine wpAnyH_ready (rs := [4]) (by kernel_rfl) (by simp) (held_cons rfl (fun K hK => ?_) AllReadyH.nil)
  rw [if_pos (by rfl)]
  refine wp_append_g m2 (.tmp 57) (.tmp 59) 29 rfl w5.heap.size 5 i0 Tryd.underlying29 hi hz0 hz1 hz2 v6 _ _ rfl C2.out.1 v7 (txB u) rfl SU.out (by have := LT5.out; have := LU5.out; omega) C2.out.2.size ?_
  intro v8 m3 a1 a2 a3
  have C3 := Lib.hid (C2.out.app a1 a2)
  clear a1 a2 a3 hHeld C2
  go_frame
  refine hK.out _ _ C3.out.2 (fun hHeld => ?_)
  clear hK K
  refine held_take (i := 5) (v := v8) rfl (by kernel_rfl) (by kernel_rfl) (by kernel_rfl) (fun _ _ _ h => h) (Or.inl ⟨by rfl, fun w' _ => by kernel_rfl⟩) hHeld ?_
  go_frame
  refine wpAnyH_done (by kernel_rfl) ?_ _
  clear hHeld
  go_wp2_with fail
  refine (read_any E (txB t ++ txB u) v8 m3 C3.out.src (by rw [List.length_append]; have := LT5.out; have := LU5.out; omega)).mono ?_
  rintro e w6 ⟨m, r, rfl, i1, hb6, hr6, _⟩
  have B6 := Lib.hid (C3.out.2.trans (hb6.mono C3.out.2.size))
  have ER : Hid (ErR w6 E r) := ⟨HE.out.er.below B6.out, HE.out.er.lt (Nat.le_trans C3.out.2.size hr6)⟩
  have WR : Hid (w5.heap.size ≤ r) := Nat.le_trans C3.out.2.size hr6
  obtain ⟨m', hm', i2⟩ := rd_low i1 ER.out
  have R6 := Lib.hid i2
  have M6 := Lib.hid hm'
  have RL6 : Hid (r < w6.heap.size) := i2.lt
  have BLN : Hid ((txB t ++ txB u).length ≤ 70368744177664) := by show _ ≤ _; rw [List.length_append]; have := LT5.out; have := LU5.out; omega
  clear i1 hb6 hr6 i2 hm' C3
  go_wp2_with fail
  refine (take_tx E m' (txB t ++ txB u) 0 r w6 ER.out R6.out M6.out BLN.out t (txB u) 0 TKT.eq).mono ?_
  rintro e w7 ⟨v9, rfl, i2, g2', hta⟩
  have R7 := Lib.hid i2
  have GR7 := Lib.hid g2'
  have TA7 := Lib.hid hta
  have B7 := Lib.hid (B6.out.grown g2' B6.out.size (fun k hk => by cases hk; exact WR.out))
  have hta2 := hta r RL6.out w7 (grownBy_refl _ _)
  obtain ⟨_, ivA, ovA, rfl, q1, q2⟩ := hta2
  have ONEA := Lib.hid (tx_one q1 q2)
  clear i2 g2' hta q1 q2 R6
  go_upto_region 16 with ((with_reducible show wpList _ _ _ _ _ _); refine wpList_store_row rfl 26 (.tmp 10) (.tmp 66) rfl w7.heap.size (txL t ivA ovA).toArray rfl rfl 26 _ (heap_alloc_new _ _) (by kernel_rfl) rfl ONEA.out ?_; go_frame)
  obtain ⟨_, f2, _, f4⟩ := fill_setup (Below.refl w7.heap.size w7) [nV 0, .slice none 0 0, .slice none 0 0, nV 0].toArray (txL t ivA ovA).toArray 26
  obtain ⟨g10, hg⟩ : ∃ g10, g10 = w7.heap.size := ⟨_, rfl⟩
  generalize hwn : World.setRow _ _ _ = w8
  have en : World.setRow (w7.alloc (.cells [nV 0, .slice none 0 0, .slice none 0 0, nV 0].toArray 26)) w7.heap.size (txL t ivA ovA).toArray = w8 := hwn
  rw [en] at f2 f4
  rw [← hg] at f2 ⊢
  have Nw8 := Lib.hid f4
  have FNw8 := Lib.hid f2
  have Sg10 := Lib.hid hg
  clear f2 f4 hwn en hg
  have R8 := Lib.hid (R7.out.below Nw8.out)
  have M8 : Hid (m' < w8.heap.size) := Nat.lt_of_lt_of_le M6.out (Nat.le_trans GR7.out.size Nw8.out.size)
  have ER8 : Hid (ErR w8 E r) := (ER.out.grown GR7.out).below Nw8.out
  have B8 := Lib.hid (B7.out.trans (Nw8.out.mono B7.out.size))
  have G10 : Hid (g10 ≠ r) := by show _ ≠ _; have := GR7.out.size; have := RL6.out; have := Sg10.out; omega
  have BLU : Hid ((txB u).length ≤ 70368744177664) := Nat.le_trans LU5.out (by omega)
  clear R7
  go_wp2_with fail
  refine (take_tx E m' (txB u) 0 r w8 ER8.out R8.out M8.out BLU.out u [] 0 TKU.eq).mono ?_
  rintro e w9 ⟨v10, rfl, i2, g2', hta⟩
  have R9 := Lib.hid i2
  have TAA := Lib.hid (TA7.out r RL6.out w9 (grownBy_trans (grownBy_of_below Nw8.out _) g2'))
  have FA9 := Lib.hid (row_far FNw8.out g2' (fun e => G10.out (Option.some.inj e).symm))
  have B9 := Lib.hid (B8.out.grown g2' B8.out.size (fun k hk => by cases hk; exact WR.out))
  have hta2 := hta r R8.out.lt w9 (grownBy_refl _ _)
  have UB9 := Lib.hid hta2
  obtain ⟨_, ivB, ovB, rfl, q1, q2⟩ := hta2
  have ONEB := Lib.hid (tx_one q1 q2)
  clear i2 g2' hta q1 q2 R8
  go_upto_region 17 with ((with_reducible show wpList _ _ _ _ _ _); refine wpList_store_row rfl 26 (.tmp 11) (.tmp 68) rfl w9.heap.size (txL u ivB ovB).toArray rfl rfl 26 _ (heap_alloc_new _ _) (by kernel_rfl) rfl ONEB.out ?_; go_frame)
  obtain ⟨_, f2, _, f4⟩ := fill_setup (Below.refl w9.heap.size w9) [nV 0, .slice none 0 0, .slice none 0 0, nV 0].toArray (txL u ivB ovB).toArray 26
  obtain ⟨g11, hg⟩ : ∃ g11, g11 = w9.heap.size := ⟨_, rfl⟩
  generalize hwn : World.setRow _ _ _ = wz
  have en : World.setRow (w9.alloc (.cells [nV 0, .slice none 0 0, .slice none 0 0, nV 0].toArray 26)) w9.heap.size (txL u ivB ovB).toArray = wz := hwn
  rw [en] at f2 f4
  rw [← hg] at f2 ⊢
  have Nwz := Lib.hid f4
  have FNwz := Lib.hid f2
  have Sg11 := Lib.hid hg
  clear f2 f4 hwn en hg
  have FA := Lib.hid (row_below FA9.out Nwz.out)
  have FB := Lib.hid FNwz.out
  have BZ5 := Lib.hid (B9.out.trans (Nwz.out.mono B9.out.size))
  have BZ := Lib.hid (B.out.trans (BZ5.out.mono B.out.size))
  have F := Lib.hid (row_below F.out BZ5.out)
  have F' := Lib.hid (row_below F'.out BZ5.out)
  have H1 := Lib.hid (H1.out.below BZ5.out)
  have H2 := Lib.hid (H2.out.below BZ5.out)
  have TA := Lib.hid (TAA.out.below Nwz.out)
  have UB := Lib.hid (UB9.out.below Nwz.out)
  have RZ := Lib.hid (R9.out.below Nwz.out)
  have HSN : Hid (∀ w', Below wz.heap.size wz w' → Calls Tryd.prog 14 #[.agg (txL t iv ov).toArray] w' fun e w'' => e = .returned (.int .i64 (s : Int)) ∧ Below w'.heap.size w' w'') := fun w' hw' => HSN.out w' (BZ5.out.trans (hw'.mono BZ5.out.size))
  have LFT : Hid (∀ w', Below wz.heap.size wz w' → Calls Tryd.prog 31 #[.pointer (some ⟨r, 0, none⟩)] w' fun e w'' => e = .returned (.int .i64 0) ∧ w' = w'') := fun w' hw' => left_any E m' [] 0 r w' (RZ.out.below hw')
  have EFT : Hid (∀ w', Below wz.heap.size wz w' → Calls Tryd.prog 32 #[.pointer (some ⟨r, 0, none⟩)] w' fun e w'' => e = .returned .nilIface ∧ w' = w'') := fun w' hw' => err_any E m' [] 0 r w' (RZ.out.below hw')
  refine wp_region_held_drew (S := (fun w' => Below wz.heap.size wz w')) (by kernel_rfl) (Below.drew (Below.refl _ _)) (fun hHeld => ?_)
  generalize hwd : wz.drew = wd
  rw [hwd] at hHeld
  clear hwd
  refine held_take (i := 0) (v := (.bool true)) rfl (by kernel_rfl) (by kernel_rfl) (by kernel_rfl) (fun _ _ _ h => h) (Or.inl ⟨by rfl, fun w' _ => by kernel_rfl⟩) hHeld ?_
  go_frame
  refine held_take (i := 1) (v := (.bool true)) rfl (by kernel_rfl) (by kernel_rfl) (by kernel_rfl) (fun _ _ _ h => h) (Or.inl ⟨by rfl, fun w' _ => by kernel_rfl⟩) hHeld ?_
  go_frame
  refine held_take (i := 2) (v := (.agg (txL t iv ov).toArray)) rfl (by kernel_rfl) (by kernel_rfl) (by kernel_rfl) (fun _ _ _ h => h) (yieldsIf_load_row (by rfl) 26 _ rfl w.heap.size rfl 26 _ (0, 0) _ (fun w' hw' => row_below F.out hw') Tryd.underlying26 rfl (by kernel_rfl)) hHeld ?_
  go_frame
  refine held_take (i := 4) (v := (.int .i64 (s : Int))) rfl (by kernel_rfl) (by kernel_rfl) (by kernel_rfl) (fun _ _ _ h => h) (Or.inl ⟨by rfl, fun w' _ => by kernel_rfl⟩) hHeld ?_
  go_frame
  refine wpAnyH_ready (rs := [3]) (by kernel_rfl) (by simp) (held_cons rfl (fun K hK => ?_) AllReadyH.nil)
  go_simp
  refine (HSN.out wd hHeld).mono ?_
  rintro e n1 ⟨rfl, hb8⟩
  have hb9 := hHeld.trans (hb8.mono hHeld.size)
  clear hHeld
  go_wp2_with fail
  refine hK.out _ _ hb9 (fun hHeld => ?_)
  clear hK K hb8 hb9
  refine held_take (i := 5) (v := (.bool true)) rfl (by kernel_rfl) (by kernel_rfl) (by kernel_rfl) (fun _ _ _ h => h) (Or.inl ⟨by rfl, fun w' _ => by go_simp⟩) hHeld ?_
  go_frame
  refine held_take (i := 6) (v := (.bool true)) rfl (by kernel_rfl) (by kernel_rfl) (by kernel_rfl) (fun _ _ _ h => h) (Or.inl ⟨by rfl, fun w' _ => by kernel_rfl⟩) hHeld ?_
  go_frame
  refine held_take (i := 7) (v := (.bool true)) rfl (by kernel_rfl) (by kernel_rfl) (by kernel_rfl) (fun _ _ _ h => h) (Or.inl ⟨by rfl, fun w' _ => by kernel_rfl⟩) hHeld ?_
  go_frame
  refine held_take (i := 8) (v := (.agg (txL t ivA ovA).toArray)) rfl (by kernel_rfl) (by kernel_rfl) (by kernel_rfl) (fun _ _ _ h => h) (yieldsIf_load_row (by rfl) 26 _ rfl g10 rfl 26 _ (0, 0) _ (fun w' hw' => row_below FA.out hw') Tryd.underlying26 rfl (by kernel_rfl)) hHeld ?_
  go_frame
  refine held_take (i := 9) (v := (.agg (txL t iv ov).toArray)) rfl (by kernel_rfl) (by kernel_rfl) (by kernel_rfl) (fun _ _ _ h => h) (yieldsIf_load_row (by rfl) 26 _ rfl w.heap.size rfl 26 _ (0, 0) _ (fun w' hw' => row_below F.out hw') Tryd.underlying26 rfl (by kernel_rfl)) hHeld ?_
  go_frame
  refine wpAnyH_ready (rs := [10]) (by kernel_rfl) (by simp) (held_cons rfl (fun K hK => ?_) AllReadyH.nil)
  go_simp
  refine (sametx_any t t _ _ n1 (TA.out.below hHeld) (H1.out.below hHeld) HKT.out true (by simp) (Nat.le_trans TS.out.2.1 (by omega)) (Nat.le_trans TS.out.2.2.1 (by omega))).mono ?_
  rintro e n2 ⟨rfl, hb8⟩
  have hb9 := hHeld.trans (hb8.mono hHeld.size)
  clear hHeld
  go_wp2_with fail
  refine hK.out _ _ hb9 (fun hHeld => ?_)
  clear hK K hb8 hb9
  refine held_take (i := 11) (v := (.bool true)) rfl (by kernel_rfl) (by kernel_rfl) (by kernel_rfl) (fun _ _ _ h => h) (Or.inl ⟨by rfl, fun w' _ => by kernel_rfl⟩) hHeld ?_
  go_frame
  refine held_take (i := 12) (v := (.bool true)) rfl (by kernel_rfl) (by kernel_rfl) (by kernel_rfl) (fun _ _ _ h => h) (Or.inl ⟨by rfl, fun w' _ => by kernel_rfl⟩) hHeld ?_
  go_frame
  refine held_take (i := 13) (v := (.agg (txL u ivB ovB).toArray)) rfl (by kernel_rfl) (by kernel_rfl) (by kernel_rfl) (fun _ _ _ h => h) (yieldsIf_load_row (by rfl) 26 _ rfl g11 rfl 26 _ (0, 0) _ (fun w' hw' => row_below FB.out hw') Tryd.underlying26 rfl (by kernel_rfl)) hHeld ?_
  go_frame
  refine held_take (i := 14) (v := (.agg (txL u iv' ov').toArray)) rfl (by kernel_rfl) (by kernel_rfl) (by kernel_rfl) (fun _ _ _ h => h) (yieldsIf_load_row (by rfl) 26 _ rfl (w.heap.size + 1) rfl 26 _ (0, 0) _ (fun w' hw' => row_below F'.out hw') Tryd.underlying26 rfl (by kernel_rfl)) hHeld ?_
  go_frame
  refine wpAnyH_ready (rs := [15]) (by kernel_rfl) (by simp) (held_cons rfl (fun K hK => ?_) AllReadyH.nil)
  go_simp
  refine (sametx_any u u _ _ n2 (UB.out.below hHeld) (H2.out.below hHeld) HKU.out true (by simp) (Nat.le_trans US.out.2.1 (by omega)) (Nat.le_trans US.out.2.2.1 (by omega))).mono ?_
  rintro e n3 ⟨rfl, hb8⟩
  have hb9 := hHeld.trans (hb8.mono hHeld.size)
  clear hHeld
  go_wp2_with fail
  refine hK.out _ _ hb9 (fun hHeld => ?_)
  clear hK K hb8 hb9
  refine held_take (i := 16) (v := (.bool true)) rfl (by kernel_rfl) (by kernel_rfl) (by kernel_rfl) (fun _ _ _ h => h) (Or.inl ⟨by rfl, fun w' _ => by kernel_rfl⟩) hHeld ?_
  go_frame
  refine held_take (i := 17) (v := (.bool true)) rfl (by kernel_rfl) (by kernel_rfl) (by kernel_rfl) (fun _ _ _ h => h) (Or.inl ⟨by rfl, fun w' _ => by kernel_rfl⟩) hHeld ?_
  go_frame
  refine held_take (i := 18) (v := (.pointer (some ⟨r, 0, none⟩))) rfl (by kernel_rfl) (by kernel_rfl) (by kernel_rfl) (fun _ _ _ h => h) (Or.inl ⟨by rfl, fun w' _ => by kernel_rfl⟩) hHeld ?_
  go_frame
  refine wpAnyH_ready (rs := [19]) (by kernel_rfl) (by simp) (held_cons rfl (fun K hK => ?_) AllReadyH.nil)
  go_simp
  refine (LFT.out n3 hHeld).mono ?_
  rintro e w' ⟨rfl, rfl⟩
  go_wp2_with fail
  refine hK.out _ _ hHeld (fun hHeld => ?_)
  clear hK K
  refine held_take (i := 20) (v := (.bool true)) rfl (by kernel_rfl) (by kernel_rfl) (by kernel_rfl) (fun _ _ _ h => h) (Or.inl ⟨by rfl, fun w' _ => by kernel_rfl⟩) hHeld ?_
  go_frame
  refine held_take (i := 21) (v := (.bool true)) rfl (by kernel_rfl) (by kernel_rfl) (by kernel_rfl) (fun _ _ _ h => h) (Or.inl ⟨by rfl, fun w' _ => by kernel_rfl⟩) hHeld ?_
  go_frame
  refine held_take (i := 22) (v := (.bool true)) rfl (by kernel_rfl) (by kernel_rfl) (by kernel_rfl) (fun _ _ _ h => h) (Or.inl ⟨by rfl, fun w' _ => by kernel_rfl⟩) hHeld ?_
  go_frame
  refine held_take (i := 23) (v := (.pointer (some ⟨r, 0, none⟩))) rfl (by kernel_rfl) (by kernel_rfl) (by kernel_rfl) (fun _ _ _ h => h) (Or.inl ⟨by rfl, fun w' _ => by kernel_rfl⟩) hHeld ?_
  go_frame
  refine wpAnyH_ready (rs := [24]) (by kernel_rfl) (by simp) (held_cons rfl (fun K hK => ?_) AllReadyH.nil)
  go_simp
  refine (EFT.out n3 hHeld).mono ?_
  rintro e w' ⟨rfl, rfl⟩
  go_wp2_with fail
  refine hK.out _ _ hHeld (fun hHeld => ?_)
  clear hK K
  refine held_take (i := 25) (v := (.bool true)) rfl (by kernel_rfl) (by kernel_rfl) (by kernel_rfl) (fun _ _ _ h => h) (Or.inl ⟨by rfl, fun w' _ => by go_simp⟩) hHeld ?_
  go_frame
  refine held_take (i := 26) (v := (.bool true)) rfl (by kernel_rfl) (by kernel_rfl) (by kernel_rfl) (fun _ _ _ h => h) (Or.inl ⟨by rfl, fun w' _ => by kernel_rfl⟩) hHeld ?_
  go_frame
  refine held_take (i := 27) (v := (.bool true)) rfl (by kernel_rfl) (by kernel_rfl) (by kernel_rfl) (fun _ _ _ h => h) (Or.inl ⟨by rfl, fun w' _ => by kernel_rfl⟩) hHeld ?_
  go_frame
  refine held_take (i := 28) (v := (.agg (txL t iv ov).toArray)) rfl (by kernel_rfl) (by kernel_rfl) (by kernel_rfl) (fun _ _ _ h => h) (yieldsIf_load_row (by rfl) 26 _ rfl w.heap.size rfl 26 _ (0, 0) _ (fun w' hw' => row_below F.out hw') Tryd.underlying26 rfl (by kernel_rfl)) hHeld ?_
  go_frame
  refine held_take (i := 29) (v := (.agg (txL u iv' ov').toArray)) rfl (by kernel_rfl) (by kernel_rfl) (by kernel_rfl) (fun _ _ _ h => h) (yieldsIf_load_row (by rfl) 26 _ rfl (w.heap.size + 1) rfl 26 _ (0, 0) _ (fun w' hw' => row_below F'.out hw') Tryd.underlying26 rfl (by kernel_rfl)) hHeld ?_
  go_frame
  refine held_take (i := 31) (v := (.agg (txL t iv ov).toArray)) rfl (by kernel_rfl) (by kernel_rfl) (by kernel_rfl) (fun _ _ _ h => h) (yieldsIf_load_row (by rfl) 26 _ rfl w.heap.size rfl 26 _ (0, 0) _ (fun w' hw' => row_below F.out hw') Tryd.underlying26 rfl (by kernel_rfl)) hHeld ?_
  go_frame
  refine held_take (i := 33) (v := (.agg (txL u iv' ov').toArray)) rfl (by kernel_rfl) (by kernel_rfl) (by kernel_rfl) (fun _ _ _ h => h) (yieldsIf_load_row (by rfl) 26 _ rfl (w.heap.size + 1) rfl 26 _ (0, 0) _ (fun w' hw' => row_below F'.out hw') Tryd.underlying26 rfl (by kernel_rfl)) hHeld ?_
  go_frame
  refine wpAnyH_ready (rs := [30]) (by kernel_rfl) (by simp) (held_cons rfl (fun K hK => ?_) AllReadyH.nil)
  go_simp
  refine (HSa t u _ _ n3 ss HSS.out (H1.out.below hHeld) (H2.out.below hHeld) TS.out US.out).mono ?_
  rintro e n4 ⟨rfl, hb8⟩
  have hb9 := hHeld.trans (hb8.mono hHeld.size)
  clear hHeld
  go_wp2_with fail
  refine hK.out _ _ hb9 (fun hHeld => ?_)
  clear hK K hb8 hb9
  refine wpAnyH_ready (rs := [32]) (by kernel_rfl) (by simp) (held_cons rfl (fun K hK => ?_) AllReadyH.nil)
  go_simp
  refine (HBy t _ n4 (H1.out.below hHeld) TS.out).mono ?_
  rintro e n5 ⟨v24, rfl, ho, hb8⟩
  have O24 := Lib.hid (src_own ho)
  clear ho
  have hb9 := hHeld.trans (hb8.mono hHeld.size)
  clear hHeld
  go_wp2_with fail
  refine hK.out _ _ hb9 (fun hHeld => ?_)
  clear hK K hb8 hb9
  refine wpAnyH_ready (rs := [34]) (by kernel_rfl) (by simp) (held_cons rfl (fun K hK => ?_) AllReadyH.nil)
  go_simp
  refine (HBy u _ n5 (H2.out.below hHeld) US.out).mono ?_
  rintro e n6 ⟨v25, rfl, ho, hb8⟩
  have O25 := Lib.hid (src_own ho)
  have O24 := Lib.hid (O24.out.below hb8)
  clear ho
  have hb9 := hHeld.trans (hb8.mono hHeld.size)
  clear hHeld
  go_wp2_with fail
  refine hK.out _ _ hb9 (fun hHeld => ?_)
  clear hK K hb8 hb9
  refine wpAnyH_ready (rs := [35]) (by kernel_rfl) (by simp) (held_cons rfl (fun K hK => ?_) AllReadyH.nil)
  go_simp
  refine (same_bytes_v (txB t) (txB u) _ _ ss n6 O24.out O25.out HSB.out HLN.out).mono ?_
  rintro e n7 ⟨rfl, hb8⟩
  have hb9 := hHeld.trans (hb8.mono hHeld.size)
  clear hHeld
  go_wp2_with fail
  refine hK.out _ _ hb9 (fun hHeld => ?_)
  clear hK K hb8 hb9
  refine held_take (i := 36) (v := (.bool true)) rfl (by kernel_rfl) (by kernel_rfl) (by kernel_rfl) (fun _ _ _ h => h) (Or.inl ⟨by rfl, fun w' _ => by cases ss <;> kernel_rfl⟩) hHeld ?_
  go_frame
  refine held_take (i := 37) (v := (.bool true)) rfl (by kernel_rfl) (by kernel_rfl) (by kernel_rfl) (fun _ _ _ h => h) (Or.inl ⟨by rfl, fun w' _ => by kernel_rfl⟩) hHeld ?_
  go_frame
  refine held_take (i := 38) (v := (.bool true)) rfl (by kernel_rfl) (by kernel_rfl) (by kernel_rfl) (fun _ _ _ h => h) (Or.inl ⟨by rfl, fun w' _ => by kernel_rfl⟩) hHeld ?_
  go_frame
  refine wpAnyH_done (by kernel_rfl) ?_ _
  have HW := Lib.hid (BZ.out.trans (hHeld.mono BZ.out.size))
  clear hHeld
  go_wp2_with fail
  go_ret
  exact ⟨rfl, HW.out⟩
end Go.Proofs.YtkabpbclmhmgfaaDoor.Sha
