/-
  The statement on the kinds of transactions that a block may hold answers true. Conditions: the errors and the table of the rounds' words are there.
-/
import Derived.Deep.CutBlock
import Derived.Deep.CutRange
import Derived.Test.YtdamhoagiooicaaDoorMg21
import Derived.Test.YtdamhoagiooicaaDoorMg17
import Derived.Test.YtdamhoagiooicaaDoorMg18
import Derived.Test.YtdamhoagiooicaaDoorMg02
import Derived.Test.YtdamhoagiooicaaDoorMg20
import Derived.Test.YtdamhoagiooicaaDoorMg03
namespace Go.Proofs.YtdamhoagiooicaaDoor.Sha
open Go Go.RowKit
theorem fltv_none {w : World} {E : Nat → Addr} {v : Value} {c : Nat} (h : FltV w E v (c, none)) : v = errV E c := by
  rcases h with ⟨_, h⟩ | ⟨q, p, g, h, _⟩
  · exact h
  · simp at h
set_option maxHeartbeats 2000000 in
set_option maxRecDepth 100000 in
theorem blockkinds_main (E : Nat → Addr) (n0 a0 h0 : Int) (w : World) (hn0 : -9223372036854775808 ≤ n0 ∧ n0 ≤ 9223372036854775807) (ha0 : -9223372036854775808 ≤ a0 ∧ a0 ≤ 9223372036854775807) (hh0 : -9223372036854775808 ≤ h0 ∧ h0 ≤ 9223372036854775807) (hE : Errs w E) (hk : KTab w) :
    Calls Tryd.prog 5 #[.int .i64 n0, .int .i64 a0, .int .i64 h0] w fun e w' => e = .returned (.bool true) ∧ Below w.heap.size w w' := by
  have HE := Lib.hid hE
  have HK := Lib.hid hk
  have HF : Hid (∀ W, Below w.heap.size w W → Calls Tryd.prog 7 #[] W fun e w' => e = .returned (.bool true) ∧ Below W.heap.size W w') := fun W hW => first7 E W (hk.below hW) (hE.below hW).eB
  obtain ⟨m, hm, hm2⟩ := numb_nat n0 9 (by omega)
  obtain ⟨n, hn⟩ : ∃ n, n = m + 2 := ⟨_, rfl⟩
  obtain ⟨a, ha, ha2⟩ := numb_nat a0 n (by omega)
  obtain ⟨h, hh, hh2⟩ := numb_nat h0 4 (by omega)
  have HN1 : Hid (∀ W, Calls Tryd.prog 14 #[.int .i64 n0, .int .i64 9] W fun e w' => e = .returned (.int .i64 (m : Int)) ∧ W = w') := fun W => by
    have q : numb n0 9 = (m : Int) := hm
    rw [← q]
    exact numb_any n0 9 (by omega) (by omega) hn0 W
  have HN2 : Hid (∀ W, Calls Tryd.prog 14 #[.int .i64 a0, .int .i64 (n : Int)] W fun e w' => e = .returned (.int .i64 (a : Int)) ∧ W = w') := fun W => by rw [← ha]; exact numb_any a0 (n : Int) (by omega) (by omega) ha0 W
  have HN3 : Hid (∀ W, Calls Tryd.prog 14 #[.int .i64 h0, .int .i64 4] W fun e w' => e = .returned (.int .i64 (h : Int)) ∧ W = w') := fun W => by
    have q : numb h0 4 = (h : Int) := hh
    rw [← q]
    exact numb_any h0 4 (by omega) (by omega) hh0 W
  have wn : IntKind.i64.wrap ((m : Int) + 2) = (n : Int) := by rw [i64_stays (by omega)]; omega
  have bn : 2 ≤ n ∧ n ≤ 10 := by omega
  have NM := Lib.hid hn
  have HM2 := Lib.hid hm2
  have AN := Lib.hid ha2
  have HH := Lib.hid hh2
  have BN := Lib.hid bn
  obtain ⟨i0, hi, hz0, hz1, hz2⟩ := info_parts info_txc
  obtain ⟨i1, hi1, hy0, hy1, hy2⟩ := info_parts info_in
  obtain ⟨i2, hi2, hx0, hx1, hx2⟩ := info_parts info_out
  have LO : Hid ((outL ⟨0, zH⟩).length = 33) := rfl
  clear hE hk hm hn ha hh hn0 ha0 hh0 hm2 ha2 hh2 bn
  go_enter Tryd.func5, Tryd.ntmps5
  go_wp2_with fail
  refine (HF.out _ (Below.refl _ _)).mono ?_
  rintro e w1 ⟨rfl, hb1⟩
  have B1 := Lib.hid hb1
  clear hb1
  go_wp2_with fail
  refine (HN1.out _).mono ?_
  rintro e w' ⟨rfl, rfl⟩
  go_wp2_with fail
  refine (HN2.out _).mono ?_
  rintro e w' ⟨rfl, rfl⟩
  clear HF HN1 HN2 wn
  go_wp2_with ((with_reducible show wpList _ _ _ _ _ _); first | (refine wpList_buildTo rfl 36 _ rfl _ rfl (hdL kdHd).toArray (by kernel_rfl) ?_; go_frame) | (refine wpList_buildTo rfl 24 _ rfl _ rfl (zH.map bV).toArray (by kernel_rfl) ?_; go_frame))
  refine (rfirst_any 3 3 5 zH [] (.slice none 0 0) w1 (by decide) (by omega) (by omega) rfl (nil_src _) (by simp)).mono ?_
  rintro e w2 ⟨u, rfl, tn, hb2⟩
  obtain ⟨e0, et, rfl, eok, elo, ehi, est⟩ := kd_first (firstT_base _ _ _ _) tn
  obtain ⟨base, hbase⟩ : ∃ base, base = w1.heap.size := ⟨_, rfl⟩
  have B2 := Lib.hid (B1.out.trans (hb2.mono B1.out.size))
  have B1S : Hid (base = w1.heap.size) := hbase
  have WB : Hid (w.heap.size ≤ base) := by rw [hbase]; exact B1.out.size
  have BS : Hid (base ≤ w2.heap.size) := by rw [hbase]; exact hb2.size
  have LC : Hid (e0.cells.length = 4) := rfl
  have ET := Lib.hid et
  have EO := Lib.hid (And.intro eok (And.intro elo ehi))
  have ES := Lib.hid est
  clear tn hb2 et eok elo ehi est hbase
  go_upto_region 7 with ((with_reducible show wpList _ _ _ _ _ _); first | (refine wpList_slice_one rfl 37 32 (.tmp 24) rfl (e0.cells) rfl Tryd.underlying37 i0 _ hi hz0 (by rw [hz1]; rfl) (by show 0 < 4; omega) (by show 4 ≤ _; omega) ?_; have nf := heap_alloc_new w2 (.cells (e0.cells).toArray 32 (0, 0)); have bb := (Below.refl w2.heap.size w2).alloc (Nat.le_refl _) (.cells (e0.cells).toArray 32 (0, 0)); obtain ⟨gv, hgv⟩ : ∃ g, g = w2.heap.size := ⟨_, rfl⟩; have Hgv := Lib.hid hgv; generalize hq : World.alloc _ _ = w3; have e2 : w2.alloc (.cells (e0.cells).toArray 32 (0, 0)) = w3 := hq; rw [e2] at nf bb; rw [← hgv] at nf ⊢; have NV := Lib.hid nf; have B3 := Lib.hid (B2.out.trans (bb.mono B2.out.size)); have ES := Lib.hid (ES.out.on (Kps.new bb)); clear nf bb hq e2 hgv; go_frame) | (refine wpList_buildTo rfl 39 _ rfl _ rfl (blL kdHd (.slice (some ⟨gv, 0, none⟩) 1 1)).toArray (by kernel_rfl) ?_; go_frame) | (refine wpList_store_row rfl 39 (.tmp 8) (.tmp 26) rfl w3.heap.size (blL kdHd (.slice (some ⟨gv, 0, none⟩) 1 1)).toArray rfl rfl 39 _ (heap_alloc_new _ _) (by kernel_rfl) rfl (blL_one rfl) ?_; go_frame))
  obtain ⟨_, f2, f3, f4⟩ := fill_setup (Below.refl w3.heap.size w3) Tryd.zeroCells39 (blL kdHd (.slice (some ⟨gv, 0, none⟩) 1 1)).toArray 39
  obtain ⟨g8, hg8⟩ : ∃ g, g = w3.heap.size := ⟨_, rfl⟩
  generalize hw4 : World.setRow _ _ _ = w4
  rw [hw4] at f2 f3 f4
  rw [← hg8] at f2 ⊢
  have gvl := (Array.getElem?_eq_some_iff.1 NV.out).1
  have ST : Hid (KdB base g8 kdHd (.slice (some ⟨gv, 0, none⟩) 1 1) (.slice (some ⟨gv, 0, none⟩) 1 1) [e0] w w4) := by
    have h1 := Hgv.out
    have h2 := BS.out
    have h3 := EO.out.2.2
    refine ⟨B3.out.trans (f4.mono B3.out.size), ⟨f2⟩, (kd_row1 NV.out (by omega) EO.out.1 (by omega) ES.out).keep f4, fun e => ?_, fun e he => ?_, WB.out, by omega, fun e he => by rw [List.mem_singleton.1 he]; have := EO.out.2.1; have := B1S.out; omega⟩
    · have : gv = g8 := Option.some.inj e
      omega
    · rw [List.mem_singleton.1 he]
      exact .inr (by omega)
  have HES : Hid ([e0].map (·.t) = kdL 1) := by show [e0.t] = _; rw [ET.out]; rfl
  clear f2 f3 f4 hw4 hg8 gvl NV ES B3
  go_wp2_with fail
  go_loopw [9] (fun vi wr => KdInv n base g8 kdHd w vi wr) (fun i _ => n - (intOf i).toNat)
  case atStart => exact ⟨1, [e0], _, by have := BN.out; omega, by omega, rfl, HES.out, ST.out⟩
  case round =>
    clear ST HES
    obtain ⟨k, es, v, hk, hk1, rfl, hes, hst⟩ := hrel
    have ST := Lib.hid hst
    have HES := Lib.hid hes
    have LE : Hid (es.length = k) := by show _ = _; rw [← List.length_map (·.t), hes, kdL_length k hk1]
    have c68 : wr.cell? ⟨g8, 68, none⟩ = some v := hst.box.txs kdHd_ok
    clear hst hes
    by_cases hlt : k < n
    · have bn := BN.out
      have wu : IntKind.u32.wrap (k : Int) = (k : Int) := by rw [IntWalk.u32_in]; omega
      have LX : Hid ((inL (kdX k) (.slice none 0 0)).length = 35) := rfl
      have LT0 : Hid (4 = 4) := rfl
      have LL : Hid (es.length ≤ 10) := by show _ ≤ _; rw [LE.out]; omega
      have KB : Hid (k ≤ 4294967295) := by show _ ≤ _; omega
      have EF : Hid ((∀ a ∈ es, a.hi ≤ wr.heap.size) ∧ (∀ q, v.ownBlock = some q → q < wr.heap.size) ∧ g8 < wr.heap.size) := ⟨fun a ha => (ST.out.row.ok a ha).2.1, fun q hq => (ST.out.row.own.lt q hq).2, ST.out.lt⟩
      have lt0 : (k : Int) < (n : Int) := by omega
      go_upto_region 9 with ((with_reducible show wpList _ _ _ _ _ _); first | (refine wpList_buildTo rfl 24 _ rfl _ rfl (hOne.map bV).toArray (by kernel_rfl) ?_; go_frame) | (refine wpList_buildTo rfl 44 _ rfl _ rfl (ptL hOne k).toArray (by kernel_rfl) ?_; go_frame) | (refine wpList_buildTo rfl 46 _ rfl _ rfl (inL (kdX k) (.slice none 0 0)).toArray (by kernel_rfl) ?_; go_frame) | (refine wpList_slice_one rfl 29 46 (.tmp 40) rfl ((inL (kdX k) (.slice none 0 0))) rfl Tryd.underlying29 i1 _ hi1 hy0 (by rw [hy1]; rfl) (by show 0 < 35; omega) (by show 35 ≤ _; omega) ?_; have nf := heap_alloc_new wr (.cells ((inL (kdX k) (.slice none 0 0))).toArray 46 (0, 0)); have bb := (Below.refl wr.heap.size wr).alloc (Nat.le_refl _) (.cells ((inL (kdX k) (.slice none 0 0))).toArray 46 (0, 0)); obtain ⟨gi, hgi⟩ : ∃ g, g = wr.heap.size := ⟨_, rfl⟩; have Hgi := Lib.hid hgi; generalize hq : World.alloc _ _ = wa; have e2 : wr.alloc (.cells ((inL (kdX k) (.slice none 0 0))).toArray 46 (0, 0)) = wa := hq; rw [e2] at nf bb; rw [← hgi] at nf ⊢; have NI := Lib.hid nf; have ST := Lib.hid (ST.out.below bb); clear nf bb hq e2 hgi; go_frame) | (refine wpList_buildTo rfl 48 _ rfl _ rfl (outL ⟨0, zH⟩).toArray (by kernel_rfl) ?_; go_frame) | (refine wpList_slice_one rfl 30 48 (.tmp 42) rfl ((outL ⟨0, zH⟩)) rfl Tryd.underlying30 i2 _ hi2 hx0 (by rw [hx1]; rfl) (by show 0 < 33; omega) (by show 33 ≤ _; omega) ?_; have nf := heap_alloc_new wa (.cells ((outL ⟨0, zH⟩)).toArray 48 (0, 0)); have bb := (Below.refl wa.heap.size wa).alloc (Nat.le_refl _) (.cells ((outL ⟨0, zH⟩)).toArray 48 (0, 0)); obtain ⟨go, hgo⟩ : ∃ g, g = wa.heap.size := ⟨_, rfl⟩; have Hgo := Lib.hid hgo; generalize hq : World.alloc _ _ = wb; have e2 : wa.alloc (.cells ((outL ⟨0, zH⟩)).toArray 48 (0, 0)) = wb := hq; rw [e2] at nf bb; rw [← hgo] at nf ⊢; have NO := Lib.hid nf; have ST := Lib.hid (ST.out.below bb); have GIO := Lib.hid ((by rw [hgo]; exact (Array.getElem?_eq_some_iff.1 NI.out).1 : gi < go)); have NI := Lib.hid (row_below NI.out bb); clear nf bb hq e2 hgo; go_frame) | (refine wpList_buildTo rfl 32 _ rfl _ rfl (txL (kdT k) (.slice (some ⟨gi, 0, none⟩) 1 1) (.slice (some ⟨go, 0, none⟩) 1 1)).toArray (by kernel_rfl) ?_; go_frame) | (refine wpList_slice_one rfl 37 32 (.tmp 44) rfl ((txL (kdT k) (.slice (some ⟨gi, 0, none⟩) 1 1) (.slice (some ⟨go, 0, none⟩) 1 1))) rfl Tryd.underlying37 i0 _ hi hz0 (by rw [hz1]; rfl) (by show 0 < 4; omega) (by show 4 ≤ _; omega) ?_; have nf := heap_alloc_new wb (.cells ((txL (kdT k) (.slice (some ⟨gi, 0, none⟩) 1 1) (.slice (some ⟨go, 0, none⟩) 1 1))).toArray 32 (0, 0)); have bb := (Below.refl wb.heap.size wb).alloc (Nat.le_refl _) (.cells ((txL (kdT k) (.slice (some ⟨gi, 0, none⟩) 1 1) (.slice (some ⟨go, 0, none⟩) 1 1))).toArray 32 (0, 0)); obtain ⟨gt, hgt⟩ : ∃ g, g = wb.heap.size := ⟨_, rfl⟩; have Hgt := Lib.hid hgt; generalize hq : World.alloc _ _ = wc; have e2 : wb.alloc (.cells ((txL (kdT k) (.slice (some ⟨gi, 0, none⟩) 1 1) (.slice (some ⟨go, 0, none⟩) 1 1))).toArray 32 (0, 0)) = wc := hq; rw [e2] at nf bb; rw [← hgt] at nf ⊢; have NT := Lib.hid nf; have ST := Lib.hid (ST.out.below bb); have NI := Lib.hid (row_below NI.out bb); have NO := Lib.hid (row_below NO.out bb); clear nf bb hq e2 hgt; go_frame) | (refine wpList_append_own_at _ rfl (.tmp 33) (.tmp 45) 37 rfl base 32 i0 (.agg [nV 0, .slice none 0 0, .slice none 0 0, nV 0].toArray) 4 64 Tryd.underlying37 hi hz0 hz1 hz2 (by kernel_rfl) (by decide) v es.length (esL es) rfl ST.out.row.own ⟨gt, 0, none⟩ 1 1 (txL (kdT k) (.slice (some ⟨gi, 0, none⟩) 1 1) (.slice (some ⟨go, 0, none⟩) 1 1)) rfl rfl (fun j u hj => by rw [Addr.add_mid]; exact range_of_box NT.out j u hj) (kd_ones k gi go) (by have := LL.out; unfold maxLen; omega) (by have := LL.out; omega) ST.out.low ?_; intro v5 wd q1 q2 _ q3; have VO := Lib.hid (own_one q1); have ST := Lib.hid (ST.out.push (e := ⟨kdT k, (.slice (some ⟨gi, 0, none⟩) 1 1), (.slice (some ⟨go, 0, none⟩) 1 1), gi, go + 1⟩) (kdT_ok k KB.out).1 (Array.getElem?_eq_some_iff.1 NO.out).1 (kd_el NI.out NO.out GIO.out KB.out) (fun a ha => by have := EF.out.1 a ha; have := Hgi.out; show a.hi ≤ gi; omega) (fun q hq => by have := EF.out.2.1 q hq; have := Hgi.out; show q < gi; omega) (by have := EF.out.2.2; have := Hgi.out; show g8 < gi; omega) q1 q2 q3); clear q1 q2 q3; go_frame) | (refine st_bltxs (g := g8) (h := kdHd) (tv := v) rfl (.tmp 47) (.tmp 46) rfl rfl v5 rfl VO.out kdHd_ok ST.out.box ?_; intro we q1 q2; have ST := Lib.hid (ST.out.store q1 q2); clear q1 q2; go_frame))
      clear c68 wu
      go_wp2_with fail
      go_roundw
      case rel =>
        refine ⟨k + 1, es ++ [⟨kdT k, (.slice (some ⟨gi, 0, none⟩) 1 1), (.slice (some ⟨go, 0, none⟩) 1 1), gi, go + 1⟩], v5, by omega, by omega, by go_num, ?_, ST.out⟩
        rw [List.map_append, HES.out, kdL_succ k hk1]
        rfl
      case measure => simp [intOf]; omega
    · obtain rfl : k = n := by omega
      have hge : ¬ (k : Int) < (k : Int) := by omega
      go_wp2_with fail
      refine (HN3.out _).mono ?_
      rintro e w' ⟨rfl, rfl⟩
      go_upto_block 2 with fail
      obtain ⟨gw, cap, hv, _, _, hcp⟩ := own_blk ST.out.row.own (by have := LE.out; omega)
      rw [LE.out] at hv hcp
      subst hv
      have A1 := AN.out
      have p0 : 0 ≤ (a : Int) := by omega
      have q0 : (a : Int) < (k : Int) := by omega
      have OW : Hid (wr.ownsRow base 32 4 (.slice (some ⟨gw, 0, none⟩) k cap) k (esL es)) := by have h := ST.out.row.own; rw [LE.out] at h; exact h
      obtain ⟨e, he⟩ : ∃ e, es[a]? = some e := ⟨_, List.getElem?_eq_getElem (by have := LE.out; omega)⟩
      have GE := Lib.hid he
      have ET : Hid (e.t = kdAt k a) := by
        have h1 : (es.map (·.t))[a]? = some e.t := by rw [List.getElem?_map, he]; rfl
        rw [HES.out, kdL_get A1] at h1
        exact (Option.some.inj h1).symm
      clear he hcp
      have G8W : Hid (w.heap.size ≤ g8) := Nat.le_trans ST.out.wb ST.out.bg
      obtain ⟨wi, hwi⟩ : ∃ wi : Int, wi = (kdWant h a : Int) := ⟨_, rfl⟩
      obtain ⟨pl, hpl⟩ : ∃ pl, pl = decide (h ≠ 3) := ⟨_, rfl⟩
      have WI := Lib.hid hwi
      have PL := Lib.hid hpl
      clear hwi hpl
      go_cut [10, 11] from 50 to 113 (fun v10 v11 wx => v10 = .int .i64 wi ∧ v11 = .bool pl ∧ KdD g8 gw k cap (kdC k a h) w wx)
      case first =>
        by_cases h0 : h = 0
        · have e0 : ((h : Int) == 0) = true := by rw [beq_iff_eq]; omega
          have H0 := Lib.hid h0
          clear h0
          go_wp2_with ((with_reducible show wpList _ _ _ _ _ _); refine wpList_plain rfl fun _ hKk => wp_store_own 30 (.tmp 67) (.const (.slice none 0 0)) rfl gw (a * 4 + 2) base 4 k cap 32 (esL es) (.slice none 0 0) rfl rfl rfl (by kernel_rfl) OW.out (by have := AN.out; omega) ?_; intro wx q1 q2; have D := Lib.hid (And.intro q1 q2); clear q1 q2; refine hKk _ _ ?_; clear hKk; go_frame)
          go_meet
          case rel =>
            rw [H0.out, WI.out, PL.out, H0.out]
            refine ⟨rfl, rfl, ?_⟩
            have hs := esL_set es a 2 e ⟨⟨e.t.ver, e.t.ins, [], e.t.time⟩, e.iv, .slice none 0 0, e.lo, e.hi⟩ (.slice none 0 0) GE.out (by omega) rfl
            have hp := ST.out.el GE.out D.out.2
            have hd := ST.out.set LE.out (i := a) (e' := ⟨⟨e.t.ver, e.t.ins, [], e.t.time⟩, e.iv, .slice none 0 0, e.lo, e.hi⟩) hp.2 (fun U hU => ⟨(hp.1 U hU).1, outs_none _⟩) (by rw [← hs]; exact D.out.1) D.out.2
            rwa [kd_map (how := 0) HES.out (by show (⟨e.t.ver, e.t.ins, [], e.t.time⟩ : TTx) = _; rw [ET.out]; rfl)] at hd
        have e0 : ((h : Int) == 0) = false := by rw [beq_eq_false_iff_ne]; omega
        by_cases h1 : h = 1
        · have e1 : ((h : Int) == 1) = true := by rw [beq_iff_eq]; omega
          have H1 := Lib.hid h1
          by_cases ha : 0 < a
          · have HA := Lib.hid ha
            have lt1 : (0 : Int) < (a : Int) := by omega
            have WA : Hid (IntKind.u32.wrap (a : Int) = (a : Int)) := by show _ = _; have := BN.out; rw [IntWalk.u32_in]; omega
            have LA : Hid (a ≤ 4294967295) := by show _ ≤ _; have := BN.out; omega
            clear h0 h1 ha
            go_wp2_with fail
            refine wp_region_held_drew (S := (fun w' => Below w.heap.size w w' ∧ BlBox w' g8 kdHd (.slice (some ⟨gw, 0, none⟩) k cap))) (by kernel_rfl) (⟨Below.drew ST.out.bel, ST.out.box.below (Below.drew (Below.refl _ _))⟩) (fun hHeld => ?_)
            have ST := Lib.hid (ST.out.below (Below.drew (Below.refl _ _)))
            generalize hwd : wr.drew = wd at ST hHeld ⊢
            clear hwd
            refine held_take (i := 0) (v := (.pointer (some ⟨g8, 68, none⟩))) rfl (by kernel_rfl) (by kernel_rfl) (by kernel_rfl) (fun _ _ _ h => h) (Or.inl ⟨by rfl, fun w' _ => by kernel_rfl⟩) hHeld ?_
            go_frame
            refine held_take (i := 1) (v := (.slice (some ⟨gw, 0, none⟩) k cap)) rfl (by kernel_rfl) (by kernel_rfl) (by kernel_rfl) (fun _ _ _ h => h) (yieldsIf_load_one (by rfl) 37 (.tmp 72) rfl g8 (68) rfl _ _ (fun w' hw' => hw'.2.txs kdHd_ok) Tryd.underlying37 rfl) hHeld ?_
            go_frame
            refine held_take (i := 2) (v := (.int .i64 (a : Int))) rfl (by kernel_rfl) (by kernel_rfl) (by kernel_rfl) (fun _ _ _ h => h) (Or.inl ⟨by rfl, fun w' _ => by kernel_rfl⟩) hHeld ?_
            go_frame
            refine held_take (i := 3) (v := (.int .i64 (a : Int))) rfl (by kernel_rfl) (by kernel_rfl) (by kernel_rfl) (fun _ _ _ h => h) (Or.inl ⟨by rfl, fun w' _ => by kernel_rfl⟩) hHeld ?_
            go_frame
            refine held_take (i := 4) (v := (.agg (zH.map bV).toArray)) rfl (by kernel_rfl) (by kernel_rfl) (by kernel_rfl) (fun _ _ _ h => h) (Or.inl ⟨by rfl, fun w' _ => by kernel_rfl⟩) hHeld ?_
            go_frame
            refine wpAnyH_ready (rs := [5]) (by kernel_rfl) (by simp) (held_cons rfl (fun K hK => ?_) AllReadyH.nil)
            go_simp
            refine (rfirst_any (a : Int) a 1 zH [] _ _ WA.out LA.out (by omega) rfl (nil_src _) (by simp)).mono ?_
            rintro e v1 ⟨u, rfl, tn, bb⟩
            obtain ⟨e', he1, rfl, he2, he3, he4, he5⟩ := kd_first (firstT_base _ _ _ _) tn
            have EN : Hid (e'.t = firstT a 1 zH [] ∧ TxOk e'.t) := Lib.hid ⟨he1, he2⟩
            have GL : Hid (gw < e'.lo ∧ g8 < e'.lo) := Lib.hid (by rw [he3]; exact ⟨ST.out.at3.2.2, ST.out.lt⟩)
            have EP := Lib.hid he5
            clear tn he1 he2 he3 he4 he5
            have ST := Lib.hid (ST.out.below bb)
            have hv1 := (show _ ∧ _ from ⟨hHeld.1.trans (bb.mono hHeld.1.size), hHeld.2.below bb⟩)
            clear bb hHeld
            go_wp2_with fail
            refine hK.out _ _ hv1 (fun hHeld => ?_)
            clear hK K hv1
            refine held_take (i := 6) (v := (.pointer (some ⟨gw, a * 4, none⟩))) rfl (by kernel_rfl) (by kernel_rfl) (by kernel_rfl) (fun _ _ _ h => h) (Or.inl ⟨by rfl, fun w' _ => by go_simp⟩) hHeld ?_
            go_frame
            refine wpAnyH_ready (rs := [7]) (by kernel_rfl) (by simp) (held_cons rfl (fun K hK => ?_) AllReadyH.nil)
            rw [if_pos (by rfl)]
            refine wp_store_el2 32 (.tmp 78) (.tmp 77) rfl gw a base k cap 32 es e' rfl rfl (pd_ones EP.out.now.1) (by kernel_rfl) (ST.out.own LE.out) LE.out AN.out ?_
            intro v2 q1 q2
            have XT := Lib.hid (ST.out.set LE.out (i := a) EN.out.2 ((EP.out.on (Kps.grown q2 (fun j _ hj e2 => by have := GL.out; have h5 : j = gw := Option.some.inj e2; have h6 := hj.1; omega))).imp (fun j _ hj => by have := GL.out; have h6 := hj.1; show j ≠ g8; omega) (fun _ p => p.1)) q1 q2)
            have hS : Below w.heap.size w v2 ∧ BlBox v2 g8 kdHd (.slice (some ⟨gw, 0, none⟩) k cap) := ⟨XT.out.1, XT.out.2.1⟩
            clear q1 q2 hHeld
            go_frame
            refine hK.out _ _ hS (fun hHeld => ?_)
            clear hK K hS
            refine wpAnyH_done (by kernel_rfl) ?_ _
            clear hHeld
            go_wp2_with fail
            go_meet
            case rel =>
              have hd := XT.out
              rw [kd_map (how := 1) HES.out (by rw [EN.out.1]; unfold kdW; rw [if_neg (by omega), if_pos rfl, if_pos HA.out])] at hd
              rw [WI.out, PL.out, H1.out]
              exact ⟨rfl, rfl, hd⟩
          · have lt1 : ¬ (0 : Int) < (a : Int) := by omega
            obtain rfl : a = 0 := by omega
            clear h0 h1 ha
            go_wp2_with ((with_reducible show wpList _ _ _ _ _ _); first | (refine wpList_buildTo rfl 44 _ rfl _ rfl (ptL zH 77).toArray (by kernel_rfl) ?_; go_frame) | (refine wpList_buildTo rfl 46 _ rfl _ rfl (inL ⟨zH, 77, [], 0⟩ (.slice none 0 0)).toArray (by kernel_rfl) ?_; go_frame) | (refine wpList_slice_one rfl 29 46 (.tmp 82) rfl ((inL ⟨zH, 77, [], 0⟩ (.slice none 0 0))) rfl Tryd.underlying29 i1 _ hi1 hy0 (by rw [hy1]; rfl) (by show 0 < 35; omega) (by show 35 ≤ _; omega) ?_; have nf := heap_alloc_new wr (.cells ((inL ⟨zH, 77, [], 0⟩ (.slice none 0 0))).toArray 46 (0, 0)); have bb := (Below.refl wr.heap.size wr).alloc (Nat.le_refl _) (.cells ((inL ⟨zH, 77, [], 0⟩ (.slice none 0 0))).toArray 46 (0, 0)); obtain ⟨gi, hgi⟩ : ∃ g, g = wr.heap.size := ⟨_, rfl⟩; have Hgi := Lib.hid hgi; generalize hq : World.alloc _ _ = wa; have e2 : wr.alloc (.cells ((inL ⟨zH, 77, [], 0⟩ (.slice none 0 0))).toArray 46 (0, 0)) = wa := hq; rw [e2] at nf bb; rw [← hgi] at nf ⊢; have NI := Lib.hid nf; have GIA := Lib.hid ((by rw [hgi]; exact ⟨ST.out.at3.2.2, ST.out.lt⟩ : gw < gi ∧ g8 < gi)); have ST := Lib.hid (ST.out.below bb); clear nf bb hq e2 hgi; go_frame) | (refine wpList_buildTo rfl 48 _ rfl _ rfl (outL ⟨0, zH⟩).toArray (by kernel_rfl) ?_; go_frame) | (refine wpList_slice_one rfl 30 48 (.tmp 84) rfl ((outL ⟨0, zH⟩)) rfl Tryd.underlying30 i2 _ hi2 hx0 (by rw [hx1]; rfl) (by show 0 < 33; omega) (by show 33 ≤ _; omega) ?_; have nf := heap_alloc_new wa (.cells ((outL ⟨0, zH⟩)).toArray 48 (0, 0)); have bb := (Below.refl wa.heap.size wa).alloc (Nat.le_refl _) (.cells ((outL ⟨0, zH⟩)).toArray 48 (0, 0)); obtain ⟨go, hgo⟩ : ∃ g, g = wa.heap.size := ⟨_, rfl⟩; have Hgo := Lib.hid hgo; generalize hq : World.alloc _ _ = wb; have e2 : wa.alloc (.cells ((outL ⟨0, zH⟩)).toArray 48 (0, 0)) = wb := hq; rw [e2] at nf bb; rw [← hgo] at nf ⊢; have NO := Lib.hid nf; have GOA := Lib.hid ((by rw [hgo]; exact ⟨ST.out.at3.2.2, ST.out.lt⟩ : gw < go ∧ g8 < go)); have ST := Lib.hid (ST.out.below bb); have NI := Lib.hid (row_below NI.out bb); clear nf bb hq e2 hgo; go_frame) | (refine wpList_buildTo rfl 32 _ rfl _ rfl (txL ⟨0, [⟨zH, 77, [], 0⟩], [⟨0, zH⟩], 0⟩ (.slice (some ⟨gi, 0, none⟩) 1 1) (.slice (some ⟨go, 0, none⟩) 1 1)).toArray (by kernel_rfl) ?_; go_frame) | (refine wpList_plain rfl fun _ hKk => wp_store_el2 32 (.tmp 87) (.tmp 86) rfl gw 0 base k cap 32 es ⟨⟨0, [⟨zH, 77, [], 0⟩], [⟨0, zH⟩], 0⟩, .slice (some ⟨gi, 0, none⟩) 1 1, .slice (some ⟨go, 0, none⟩) 1 1, 0, 0⟩ rfl rfl (kd_ones2 gi go) (by kernel_rfl) (ST.out.own LE.out) LE.out AN.out ?_; intro wx q1 q2; have D := Lib.hid (And.intro q1 q2); clear q1 q2; refine hKk _ _ ?_; clear hKk; go_frame))
            go_meet
            case rel =>
              have ri := row_far NI.out D.out.2 (fun e2 => by have h5 : gw = gi := Option.some.inj e2; have := GIA.out; omega)
              have ro := row_far NO.out D.out.2 (fun e2 => by have h5 : gw = go := Option.some.inj e2; have := GOA.out; omega)
              have hd := ST.out.set LE.out (i := 0) (e' := ⟨⟨0, [⟨zH, 77, [], 0⟩], [⟨0, zH⟩], 0⟩, .slice (some ⟨gi, 0, none⟩) 1 1, .slice (some ⟨go, 0, none⟩) 1 1, 0, 0⟩) ⟨by show 0 ≤ _; omega, by show 0 ≤ _; omega⟩ (fun U hU => ⟨insAt_one (row_kps ri hU (by have := GIA.out; show gi ≠ g8; omega)) ⟨rfl, by show 77 ≤ _; omega, by show 0 ≤ _; omega⟩ (nil_key _), outsAt_one (row_kps ro hU (by have := GOA.out; show go ≠ g8; omega)) ⟨rfl, by show 0 ≤ _; omega⟩⟩) D.out.1 D.out.2
              rw [kd_map (how := 1) HES.out (by show (⟨0, [⟨zH, 77, [], 0⟩], [⟨0, zH⟩], 0⟩ : TTx) = _; unfold kdW; rw [if_neg (by omega), if_pos rfl, if_neg (by omega)])] at hd
              rw [WI.out, PL.out, H1.out]
              exact ⟨rfl, rfl, hd⟩
        have e1 : ((h : Int) == 1) = false := by rw [beq_eq_false_iff_ne]; omega
        by_cases h2 : h = 2
        · have e2 : ((h : Int) == 2) = true := by rw [beq_iff_eq]; omega
          have H2 := Lib.hid h2
          by_cases ha : 0 < a
          · have HA := Lib.hid ha
            have lt1 : (0 : Int) < (a : Int) := by omega
            have LA : Hid (a ≤ 4294967295) := by show _ ≤ _; have := BN.out; omega
            have hp := (ST.out.row.ok e (List.mem_of_getElem? GE.out)).2.2.now
            obtain ⟨gi, go, x, y, hiv, hov, hins, houts, hoy, hrow, hrow2, hlo, hgg, hhi⟩ := hp.2 (by rw [ET.out, kdAt_pos ha]; exact kdT_base a)
            obtain rfl : kdX a = x := by
              have h5 : e.t.ins = [kdX a] := by rw [ET.out, kdAt_pos ha]; rfl
              rw [hins] at h5
              simpa using h5.symm
            have INE : Hid (e.t.ins ++ e.t.ins = [kdX a, kdX a]) := by show _ = _; rw [hins]; rfl
            have IVE := Lib.hid hiv
            have RI := Lib.hid hrow
            have GIW : Hid (gw ≠ gi) := by
              show _ ≠ _
              have := ST.out.row.out gw rfl e (List.mem_of_getElem? GE.out)
              omega
            clear h0 h1 h2 ha hp hiv hov hins houts hoy hrow hrow2 hlo hgg hhi
            go_wp2_with fail
            refine wp_region_held_drew (S := (fun w' => Below w.heap.size w w' ∧ BlBox w' g8 kdHd (.slice (some ⟨gw, 0, none⟩) k cap) ∧ w'.heap[gi]? = some (.cells (inL (kdX a) (.slice none 0 0)).toArray 46 (0, 0)))) (by kernel_rfl) (⟨Below.drew ST.out.bel, ST.out.box.below (Below.drew (Below.refl _ _)), row_below RI.out (Below.drew (Below.refl _ _))⟩) (fun hHeld => ?_)
            have ST := Lib.hid (ST.out.below (Below.drew (Below.refl _ _)))
            generalize hwd : wr.drew = wd at ST hHeld ⊢
            clear hwd
            refine held_take (i := 0) (v := (.pointer (some ⟨g8, 68, none⟩))) rfl (by kernel_rfl) (by kernel_rfl) (by kernel_rfl) (fun _ _ _ h => h) (Or.inl ⟨by rfl, fun w' _ => by kernel_rfl⟩) hHeld ?_
            go_frame
            refine held_take (i := 1) (v := (.slice (some ⟨gw, 0, none⟩) k cap)) rfl (by kernel_rfl) (by kernel_rfl) (by kernel_rfl) (fun _ _ _ h => h) (yieldsIf_load_one (by rfl) 37 (.tmp 92) rfl g8 (68) rfl _ _ (fun w' hw' => hw'.2.1.txs kdHd_ok) Tryd.underlying37 rfl) hHeld ?_
            go_frame
            refine held_take (i := 2) (v := (.int .i64 (a : Int))) rfl (by kernel_rfl) (by kernel_rfl) (by kernel_rfl) (fun _ _ _ h => h) (Or.inl ⟨by rfl, fun w' _ => by kernel_rfl⟩) hHeld ?_
            go_frame
            refine held_take (i := 3) (v := (.pointer (some ⟨g8, 68, none⟩))) rfl (by kernel_rfl) (by kernel_rfl) (by kernel_rfl) (fun _ _ _ h => h) (Or.inl ⟨by rfl, fun w' _ => by kernel_rfl⟩) hHeld ?_
            go_frame
            refine held_take (i := 4) (v := (.slice (some ⟨gw, 0, none⟩) k cap)) rfl (by kernel_rfl) (by kernel_rfl) (by kernel_rfl) (fun _ _ _ h => h) (yieldsIf_load_one (by rfl) 37 (.tmp 95) rfl g8 (68) rfl _ _ (fun w' hw' => hw'.2.1.txs kdHd_ok) Tryd.underlying37 rfl) hHeld ?_
            go_frame
            refine held_take (i := 5) (v := (.int .i64 (a : Int))) rfl (by kernel_rfl) (by kernel_rfl) (by kernel_rfl) (fun _ _ _ h => h) (Or.inl ⟨by rfl, fun w' _ => by kernel_rfl⟩) hHeld ?_
            go_frame
            refine held_take (i := 6) (v := (.pointer (some ⟨gw, a * 4, none⟩))) rfl (by kernel_rfl) (by kernel_rfl) (by kernel_rfl) (fun _ _ _ h => h) (Or.inl ⟨by rfl, fun w' _ => by go_simp⟩) hHeld ?_
            go_frame
            refine held_take (i := 7) (v := (.pointer (some ⟨gw, a * 4 + 1, none⟩))) rfl (by kernel_rfl) (by kernel_rfl) (by kernel_rfl) (fun _ _ _ h => h) (Or.inl ⟨by rfl, fun w' _ => by kernel_rfl⟩) hHeld ?_
            go_frame
            refine held_take (i := 9) (v := (.pointer (some ⟨g8, 68, none⟩))) rfl (by kernel_rfl) (by kernel_rfl) (by kernel_rfl) (fun _ _ _ h => h) (Or.inl ⟨by rfl, fun w' _ => by kernel_rfl⟩) hHeld ?_
            go_frame
            refine held_take (i := 10) (v := (.slice (some ⟨gw, 0, none⟩) k cap)) rfl (by kernel_rfl) (by kernel_rfl) (by kernel_rfl) (fun _ _ _ h => h) (yieldsIf_load_one (by rfl) 37 (.tmp 101) rfl g8 (68) rfl _ _ (fun w' hw' => hw'.2.1.txs kdHd_ok) Tryd.underlying37 rfl) hHeld ?_
            go_frame
            refine held_take (i := 11) (v := (.int .i64 (a : Int))) rfl (by kernel_rfl) (by kernel_rfl) (by kernel_rfl) (fun _ _ _ h => h) (Or.inl ⟨by rfl, fun w' _ => by kernel_rfl⟩) hHeld ?_
            go_frame
            refine held_take (i := 12) (v := (.pointer (some ⟨gw, a * 4, none⟩))) rfl (by kernel_rfl) (by kernel_rfl) (by kernel_rfl) (fun _ _ _ h => h) (Or.inl ⟨by rfl, fun w' _ => by go_simp⟩) hHeld ?_
            go_frame
            refine held_take (i := 13) (v := (.pointer (some ⟨gw, a * 4 + 1, none⟩))) rfl (by kernel_rfl) (by kernel_rfl) (by kernel_rfl) (fun _ _ _ h => h) (Or.inl ⟨by rfl, fun w' _ => by kernel_rfl⟩) hHeld ?_
            go_frame
            refine wpAnyH_ready (rs := [8, 14]) (by kernel_rfl) (by simp) (held_cons rfl (fun K hK => ?_) (held_cons rfl (fun K hK => ?_) AllReadyH.nil))
            · skip
              rw [if_pos (by rfl)]
              refine wp_load_cell 29 (.tmp 99) rfl gw (a * 4 + 1) rfl (.slice (some ⟨gi, 0, none⟩) 1 1) _ (by rw [← IVE.out]; exact ST.out.cell LE.out GE.out) Tryd.underlying29 rfl ?_
              go_frame
              refine hK.out _ _ hHeld (fun hHeld => ?_)
              clear hK K
              refine wpAnyH_ready (rs := [14]) (by kernel_rfl) (by simp) (held_cons rfl (fun K hK => ?_) AllReadyH.nil)
              rw [if_pos (by rfl)]
              refine wp_load_cell 29 (.tmp 105) rfl gw (a * 4 + 1) rfl (.slice (some ⟨gi, 0, none⟩) 1 1) _ (by rw [← IVE.out]; exact ST.out.cell LE.out GE.out) Tryd.underlying29 rfl ?_
              go_frame
              refine hK.out _ _ hHeld (fun hHeld => ?_)
              clear hK K
              refine held_take (i := 15) (v := (.pointer (some ⟨gi, 0, none⟩))) rfl (by kernel_rfl) (by kernel_rfl) (by kernel_rfl) (fun _ _ _ h => h) (Or.inl ⟨by rfl, fun w' _ => by go_simp⟩) hHeld ?_
              go_frame
              refine held_take (i := 16) (v := (.agg (inL (kdX a) (.slice none 0 0)).toArray)) rfl (by kernel_rfl) (by kernel_rfl) (by kernel_rfl) (fun _ _ _ h => h) (yieldsIf_load_row (by rfl) 46 (.tmp 107) rfl gi rfl 46 (inL (kdX a) (.slice none 0 0)).toArray (0, 0) _ (fun w' hw' => hw'.2.2) Tryd.underlying46 rfl (by kernel_rfl)) hHeld ?_
              go_frame
              refine wpAnyH_ready (rs := [17]) (by kernel_rfl) (by simp) (held_cons rfl (fun K hK => ?_) AllReadyH.nil)
              rw [if_pos (by rfl)]
              refine wp_slice_one 29 46 (.tmp 108) rfl (inL (kdX a) (.slice none 0 0)) rfl Tryd.underlying29 i1 _ hi1 hy0 (by rw [hy1]; rfl) (by show 0 < 35; omega) (by show 35 ≤ _; omega) ?_
              have nf := heap_alloc_new wd (.cells (inL (kdX a) (.slice none 0 0)).toArray 46 (0, 0))
              have bb := (Below.refl wd.heap.size wd).alloc (Nat.le_refl _) (.cells (inL (kdX a) (.slice none 0 0)).toArray 46 (0, 0))
              obtain ⟨gv3, hgv3⟩ : ∃ g, g = wd.heap.size := ⟨_, rfl⟩
              generalize hqv3 : World.alloc _ _ = v3
              have ev3 : wd.alloc (.cells (inL (kdX a) (.slice none 0 0)).toArray 46 (0, 0)) = v3 := hqv3
              rw [ev3] at nf bb
              rw [← hgv3] at nf ⊢
              have NF := Lib.hid nf
              have ST := Lib.hid (ST.out.below bb)
              have hv3 := (show _ ∧ _ ∧ _ from ⟨hHeld.1.trans (bb.mono hHeld.1.size), hHeld.2.1.below bb, row_below hHeld.2.2 bb⟩)
              clear nf bb hqv3 ev3 hgv3 hHeld
              go_frame
              refine hK.out _ _ hv3 (fun hHeld => ?_)
              clear hK K hv3
              refine wpAnyH_ready (rs := [18]) (by kernel_rfl) (by simp) (held_cons rfl (fun K hK => ?_) AllReadyH.nil)
              rw [if_pos (by rfl)]
              obtain ⟨gA, hgA⟩ : ∃ g, g = v3.heap.size := ⟨_, rfl⟩
              have GA : Hid (gA ≠ gw ∧ gA ≠ g8) := Lib.hid ⟨by have := ST.out.at3.2.2; omega, by have := ST.out.lt; omega⟩
              refine wp_append_full v3 (.tmp 100) (.tmp 109) 29 rfl 46 i1 (.agg (List.replicate 32 (bV 0) ++ [nV 0, .slice none 0 0, nV 0]).toArray) 35 72 Tryd.underlying29 hi1 hy0 hy1 hy2 (by kernel_rfl) gi 1 1 (inL (kdX a) (.slice none 0 0)) rfl rfl (fun j u hj => by rw [Addr.add_mid]; exact range_of_box hHeld.2.2 j u hj) ⟨gv3, 0, none⟩ 1 1 (inL (kdX a) (.slice none 0 0)) rfl rfl (fun j u hj => by rw [Addr.add_mid]; exact range_of_box NF.out j u hj) (by omega) (by unfold maxLen; omega) (by omega) ?_
              intro C v4 q1 bb
              rw [← hgA] at q1 ⊢
              have IO := Lib.hid q1
              have ST := Lib.hid (ST.out.below bb)
              have hv4 := (show _ ∧ _ ∧ _ from ⟨hHeld.1.trans (bb.mono hHeld.1.size), hHeld.2.1.below bb, row_below hHeld.2.2 bb⟩)
              clear q1 bb hgA hHeld
              go_frame
              refine hK.out _ _ hv4 (fun hHeld => ?_)
              clear hK K hv4
              refine held_take (i := 19) (v := (.pointer (some ⟨gw, a * 4, none⟩))) rfl (by kernel_rfl) (by kernel_rfl) (by kernel_rfl) (fun _ _ _ h => h) (Or.inl ⟨by rfl, fun w' _ => by go_simp⟩) hHeld ?_
              go_frame
              refine held_take (i := 20) (v := (.pointer (some ⟨gw, a * 4 + 1, none⟩))) rfl (by kernel_rfl) (by kernel_rfl) (by kernel_rfl) (fun _ _ _ h => h) (Or.inl ⟨by rfl, fun w' _ => by kernel_rfl⟩) hHeld ?_
              go_frame
              refine wpAnyH_ready (rs := [21]) (by kernel_rfl) (by simp) (held_cons rfl (fun K hK => ?_) AllReadyH.nil)
              rw [if_pos (by rfl)]
              refine wp_store_own 29 (.tmp 112) (.tmp 110) rfl gw (a * 4 + 1) base 4 k cap 32 (esL es) (.slice (some ⟨gA, 0, none⟩) (1 + 1) C) rfl rfl rfl (by kernel_rfl) (ST.out.own LE.out) (by have := AN.out; omega) ?_
              intro v5 q1 q2
              have hs := esL_set es a 1 e ⟨⟨e.t.ver, e.t.ins ++ e.t.ins, e.t.outs, e.t.time⟩, .slice (some ⟨gA, 0, none⟩) (1 + 1) C, e.ov, e.lo, e.hi⟩ (.slice (some ⟨gA, 0, none⟩) (1 + 1) C) GE.out (by omega) rfl
              rw [hs] at q1
              have hp := ST.out.el GE.out q2
              have io := IO.out.kept q2 (.inr (fun e2 => GA.out.1 (Option.some.inj e2)))
              have XT := Lib.hid (ST.out.set LE.out (i := a) (e' := ⟨⟨e.t.ver, e.t.ins ++ e.t.ins, e.t.outs, e.t.time⟩, .slice (some ⟨gA, 0, none⟩) (1 + 1) C, e.ov, e.lo, e.hi⟩) hp.2 (fun U hU => ⟨by rw [INE.out]; exact ins_two (own_kps2 io hU GA.out.2) (kdT_ok a LA.out).2 rfl, (hp.1 U hU).2⟩) q1 q2)
              have hS : Below w.heap.size w v5 ∧ BlBox v5 g8 kdHd (.slice (some ⟨gw, 0, none⟩) k cap) ∧ v5.heap[gi]? = some (.cells (inL (kdX a) (.slice none 0 0)).toArray 46 (0, 0)) := ⟨XT.out.1, XT.out.2.1, row_far hHeld.2.2 q2 (fun e2 => GIW.out (Option.some.inj e2))⟩
              clear q1 q2 hHeld hs hp io
              go_frame
              refine hK.out _ _ hS (fun hHeld => ?_)
              clear hK K hS
              refine wpAnyH_done (by kernel_rfl) ?_ _
              clear hHeld
              go_wp2_with fail
              go_meet
              case rel =>
                have hd := XT.out
                rw [kd_map (how := 2) HES.out (by show (⟨e.t.ver, e.t.ins ++ e.t.ins, e.t.outs, e.t.time⟩ : TTx) = _; rw [ET.out]; unfold kdW; rw [if_neg (by omega), if_neg (by omega), if_pos rfl, if_pos HA.out])] at hd
                rw [WI.out, PL.out, H2.out]
                refine ⟨?_, rfl, hd⟩
                have : kdWant 2 a = 106 := by unfold kdWant; rw [if_neg (by omega), if_neg (by omega), if_pos rfl, if_pos HA.out]
                rw [this]
                rfl
            · skip
              rw [if_pos (by rfl)]
              refine wp_load_cell 29 (.tmp 105) rfl gw (a * 4 + 1) rfl (.slice (some ⟨gi, 0, none⟩) 1 1) _ (by rw [← IVE.out]; exact ST.out.cell LE.out GE.out) Tryd.underlying29 rfl ?_
              go_frame
              refine hK.out _ _ hHeld (fun hHeld => ?_)
              clear hK K
              refine held_take (i := 15) (v := (.pointer (some ⟨gi, 0, none⟩))) rfl (by kernel_rfl) (by kernel_rfl) (by kernel_rfl) (fun _ _ _ h => h) (Or.inl ⟨by rfl, fun w' _ => by go_simp⟩) hHeld ?_
              go_frame
              refine held_take (i := 16) (v := (.agg (inL (kdX a) (.slice none 0 0)).toArray)) rfl (by kernel_rfl) (by kernel_rfl) (by kernel_rfl) (fun _ _ _ h => h) (yieldsIf_load_row (by rfl) 46 (.tmp 107) rfl gi rfl 46 (inL (kdX a) (.slice none 0 0)).toArray (0, 0) _ (fun w' hw' => hw'.2.2) Tryd.underlying46 rfl (by kernel_rfl)) hHeld ?_
              go_frame
              refine wpAnyH_ready (rs := [8, 17]) (by kernel_rfl) (by simp) (held_cons rfl (fun K hK => ?_) (held_cons rfl (fun K hK => ?_) AllReadyH.nil))
              · skip
                rw [if_pos (by rfl)]
                refine wp_load_cell 29 (.tmp 99) rfl gw (a * 4 + 1) rfl (.slice (some ⟨gi, 0, none⟩) 1 1) _ (by rw [← IVE.out]; exact ST.out.cell LE.out GE.out) Tryd.underlying29 rfl ?_
                go_frame
                refine hK.out _ _ hHeld (fun hHeld => ?_)
                clear hK K
                refine wpAnyH_ready (rs := [17]) (by kernel_rfl) (by simp) (held_cons rfl (fun K hK => ?_) AllReadyH.nil)
                rw [if_pos (by rfl)]
                refine wp_slice_one 29 46 (.tmp 108) rfl (inL (kdX a) (.slice none 0 0)) rfl Tryd.underlying29 i1 _ hi1 hy0 (by rw [hy1]; rfl) (by show 0 < 35; omega) (by show 35 ≤ _; omega) ?_
                have nf := heap_alloc_new wd (.cells (inL (kdX a) (.slice none 0 0)).toArray 46 (0, 0))
                have bb := (Below.refl wd.heap.size wd).alloc (Nat.le_refl _) (.cells (inL (kdX a) (.slice none 0 0)).toArray 46 (0, 0))
                obtain ⟨gv8, hgv8⟩ : ∃ g, g = wd.heap.size := ⟨_, rfl⟩
                generalize hqv8 : World.alloc _ _ = v8
                have ev8 : wd.alloc (.cells (inL (kdX a) (.slice none 0 0)).toArray 46 (0, 0)) = v8 := hqv8
                rw [ev8] at nf bb
                rw [← hgv8] at nf ⊢
                have NF := Lib.hid nf
                have ST := Lib.hid (ST.out.below bb)
                have hv8 := (show _ ∧ _ ∧ _ from ⟨hHeld.1.trans (bb.mono hHeld.1.size), hHeld.2.1.below bb, row_below hHeld.2.2 bb⟩)
                clear nf bb hqv8 ev8 hgv8 hHeld
                go_frame
                refine hK.out _ _ hv8 (fun hHeld => ?_)
                clear hK K hv8
                refine wpAnyH_ready (rs := [18]) (by kernel_rfl) (by simp) (held_cons rfl (fun K hK => ?_) AllReadyH.nil)
                rw [if_pos (by rfl)]
                obtain ⟨gA, hgA⟩ : ∃ g, g = v8.heap.size := ⟨_, rfl⟩
                have GA : Hid (gA ≠ gw ∧ gA ≠ g8) := Lib.hid ⟨by have := ST.out.at3.2.2; omega, by have := ST.out.lt; omega⟩
                refine wp_append_full v8 (.tmp 100) (.tmp 109) 29 rfl 46 i1 (.agg (List.replicate 32 (bV 0) ++ [nV 0, .slice none 0 0, nV 0]).toArray) 35 72 Tryd.underlying29 hi1 hy0 hy1 hy2 (by kernel_rfl) gi 1 1 (inL (kdX a) (.slice none 0 0)) rfl rfl (fun j u hj => by rw [Addr.add_mid]; exact range_of_box hHeld.2.2 j u hj) ⟨gv8, 0, none⟩ 1 1 (inL (kdX a) (.slice none 0 0)) rfl rfl (fun j u hj => by rw [Addr.add_mid]; exact range_of_box NF.out j u hj) (by omega) (by unfold maxLen; omega) (by omega) ?_
                intro C v9 q1 bb
                rw [← hgA] at q1 ⊢
                have IO := Lib.hid q1
                have ST := Lib.hid (ST.out.below bb)
                have hv9 := (show _ ∧ _ ∧ _ from ⟨hHeld.1.trans (bb.mono hHeld.1.size), hHeld.2.1.below bb, row_below hHeld.2.2 bb⟩)
                clear q1 bb hgA hHeld
                go_frame
                refine hK.out _ _ hv9 (fun hHeld => ?_)
                clear hK K hv9
                refine held_take (i := 19) (v := (.pointer (some ⟨gw, a * 4, none⟩))) rfl (by kernel_rfl) (by kernel_rfl) (by kernel_rfl) (fun _ _ _ h => h) (Or.inl ⟨by rfl, fun w' _ => by go_simp⟩) hHeld ?_
                go_frame
                refine held_take (i := 20) (v := (.pointer (some ⟨gw, a * 4 + 1, none⟩))) rfl (by kernel_rfl) (by kernel_rfl) (by kernel_rfl) (fun _ _ _ h => h) (Or.inl ⟨by rfl, fun w' _ => by kernel_rfl⟩) hHeld ?_
                go_frame
                refine wpAnyH_ready (rs := [21]) (by kernel_rfl) (by simp) (held_cons rfl (fun K hK => ?_) AllReadyH.nil)
                rw [if_pos (by rfl)]
                refine wp_store_own 29 (.tmp 112) (.tmp 110) rfl gw (a * 4 + 1) base 4 k cap 32 (esL es) (.slice (some ⟨gA, 0, none⟩) (1 + 1) C) rfl rfl rfl (by kernel_rfl) (ST.out.own LE.out) (by have := AN.out; omega) ?_
                intro v10 q1 q2
                have hs := esL_set es a 1 e ⟨⟨e.t.ver, e.t.ins ++ e.t.ins, e.t.outs, e.t.time⟩, .slice (some ⟨gA, 0, none⟩) (1 + 1) C, e.ov, e.lo, e.hi⟩ (.slice (some ⟨gA, 0, none⟩) (1 + 1) C) GE.out (by omega) rfl
                rw [hs] at q1
                have hp := ST.out.el GE.out q2
                have io := IO.out.kept q2 (.inr (fun e2 => GA.out.1 (Option.some.inj e2)))
                have XT := Lib.hid (ST.out.set LE.out (i := a) (e' := ⟨⟨e.t.ver, e.t.ins ++ e.t.ins, e.t.outs, e.t.time⟩, .slice (some ⟨gA, 0, none⟩) (1 + 1) C, e.ov, e.lo, e.hi⟩) hp.2 (fun U hU => ⟨by rw [INE.out]; exact ins_two (own_kps2 io hU GA.out.2) (kdT_ok a LA.out).2 rfl, (hp.1 U hU).2⟩) q1 q2)
                have hS : Below w.heap.size w v10 ∧ BlBox v10 g8 kdHd (.slice (some ⟨gw, 0, none⟩) k cap) ∧ v10.heap[gi]? = some (.cells (inL (kdX a) (.slice none 0 0)).toArray 46 (0, 0)) := ⟨XT.out.1, XT.out.2.1, row_far hHeld.2.2 q2 (fun e2 => GIW.out (Option.some.inj e2))⟩
                clear q1 q2 hHeld hs hp io
                go_frame
                refine hK.out _ _ hS (fun hHeld => ?_)
                clear hK K hS
                refine wpAnyH_done (by kernel_rfl) ?_ _
                clear hHeld
                go_wp2_with fail
                go_meet
                case rel =>
                  have hd := XT.out
                  rw [kd_map (how := 2) HES.out (by show (⟨e.t.ver, e.t.ins ++ e.t.ins, e.t.outs, e.t.time⟩ : TTx) = _; rw [ET.out]; unfold kdW; rw [if_neg (by omega), if_neg (by omega), if_pos rfl, if_pos HA.out])] at hd
                  rw [WI.out, PL.out, H2.out]
                  refine ⟨?_, rfl, hd⟩
                  have : kdWant 2 a = 106 := by unfold kdWant; rw [if_neg (by omega), if_neg (by omega), if_pos rfl, if_pos HA.out]
                  rw [this]
                  rfl
              · skip
                rw [if_pos (by rfl)]
                refine wp_slice_one 29 46 (.tmp 108) rfl (inL (kdX a) (.slice none 0 0)) rfl Tryd.underlying29 i1 _ hi1 hy0 (by rw [hy1]; rfl) (by show 0 < 35; omega) (by show 35 ≤ _; omega) ?_
                have nf := heap_alloc_new wd (.cells (inL (kdX a) (.slice none 0 0)).toArray 46 (0, 0))
                have bb := (Below.refl wd.heap.size wd).alloc (Nat.le_refl _) (.cells (inL (kdX a) (.slice none 0 0)).toArray 46 (0, 0))
                obtain ⟨gv11, hgv11⟩ : ∃ g, g = wd.heap.size := ⟨_, rfl⟩
                generalize hqv11 : World.alloc _ _ = v11
                have ev11 : wd.alloc (.cells (inL (kdX a) (.slice none 0 0)).toArray 46 (0, 0)) = v11 := hqv11
                rw [ev11] at nf bb
                rw [← hgv11] at nf ⊢
                have NF := Lib.hid nf
                have ST := Lib.hid (ST.out.below bb)
                have hv11 := (show _ ∧ _ ∧ _ from ⟨hHeld.1.trans (bb.mono hHeld.1.size), hHeld.2.1.below bb, row_below hHeld.2.2 bb⟩)
                clear nf bb hqv11 ev11 hgv11 hHeld
                go_frame
                refine hK.out _ _ hv11 (fun hHeld => ?_)
                clear hK K hv11
                refine wpAnyH_ready (rs := [8]) (by kernel_rfl) (by simp) (held_cons rfl (fun K hK => ?_) AllReadyH.nil)
                rw [if_pos (by rfl)]
                refine wp_load_cell 29 (.tmp 99) rfl gw (a * 4 + 1) rfl (.slice (some ⟨gi, 0, none⟩) 1 1) _ (by rw [← IVE.out]; exact ST.out.cell LE.out GE.out) Tryd.underlying29 rfl ?_
                go_frame
                refine hK.out _ _ hHeld (fun hHeld => ?_)
                clear hK K
                refine wpAnyH_ready (rs := [18]) (by kernel_rfl) (by simp) (held_cons rfl (fun K hK => ?_) AllReadyH.nil)
                rw [if_pos (by rfl)]
                obtain ⟨gA, hgA⟩ : ∃ g, g = v11.heap.size := ⟨_, rfl⟩
                have GA : Hid (gA ≠ gw ∧ gA ≠ g8) := Lib.hid ⟨by have := ST.out.at3.2.2; omega, by have := ST.out.lt; omega⟩
                refine wp_append_full v11 (.tmp 100) (.tmp 109) 29 rfl 46 i1 (.agg (List.replicate 32 (bV 0) ++ [nV 0, .slice none 0 0, nV 0]).toArray) 35 72 Tryd.underlying29 hi1 hy0 hy1 hy2 (by kernel_rfl) gi 1 1 (inL (kdX a) (.slice none 0 0)) rfl rfl (fun j u hj => by rw [Addr.add_mid]; exact range_of_box hHeld.2.2 j u hj) ⟨gv11, 0, none⟩ 1 1 (inL (kdX a) (.slice none 0 0)) rfl rfl (fun j u hj => by rw [Addr.add_mid]; exact range_of_box NF.out j u hj) (by omega) (by unfold maxLen; omega) (by omega) ?_
                intro C v13 q1 bb
                rw [← hgA] at q1 ⊢
                have IO := Lib.hid q1
                have ST := Lib.hid (ST.out.below bb)
                have hv13 := (show _ ∧ _ ∧ _ from ⟨hHeld.1.trans (bb.mono hHeld.1.size), hHeld.2.1.below bb, row_below hHeld.2.2 bb⟩)
                clear q1 bb hgA hHeld
                go_frame
                refine hK.out _ _ hv13 (fun hHeld => ?_)
                clear hK K hv13
                refine held_take (i := 19) (v := (.pointer (some ⟨gw, a * 4, none⟩))) rfl (by kernel_rfl) (by kernel_rfl) (by kernel_rfl) (fun _ _ _ h => h) (Or.inl ⟨by rfl, fun w' _ => by go_simp⟩) hHeld ?_
                go_frame
                refine held_take (i := 20) (v := (.pointer (some ⟨gw, a * 4 + 1, none⟩))) rfl (by kernel_rfl) (by kernel_rfl) (by kernel_rfl) (fun _ _ _ h => h) (Or.inl ⟨by rfl, fun w' _ => by kernel_rfl⟩) hHeld ?_
                go_frame
                refine wpAnyH_ready (rs := [21]) (by kernel_rfl) (by simp) (held_cons rfl (fun K hK => ?_) AllReadyH.nil)
                rw [if_pos (by rfl)]
                refine wp_store_own 29 (.tmp 112) (.tmp 110) rfl gw (a * 4 + 1) base 4 k cap 32 (esL es) (.slice (some ⟨gA, 0, none⟩) (1 + 1) C) rfl rfl rfl (by kernel_rfl) (ST.out.own LE.out) (by have := AN.out; omega) ?_
                intro v14 q1 q2
                have hs := esL_set es a 1 e ⟨⟨e.t.ver, e.t.ins ++ e.t.ins, e.t.outs, e.t.time⟩, .slice (some ⟨gA, 0, none⟩) (1 + 1) C, e.ov, e.lo, e.hi⟩ (.slice (some ⟨gA, 0, none⟩) (1 + 1) C) GE.out (by omega) rfl
                rw [hs] at q1
                have hp := ST.out.el GE.out q2
                have io := IO.out.kept q2 (.inr (fun e2 => GA.out.1 (Option.some.inj e2)))
                have XT := Lib.hid (ST.out.set LE.out (i := a) (e' := ⟨⟨e.t.ver, e.t.ins ++ e.t.ins, e.t.outs, e.t.time⟩, .slice (some ⟨gA, 0, none⟩) (1 + 1) C, e.ov, e.lo, e.hi⟩) hp.2 (fun U hU => ⟨by rw [INE.out]; exact ins_two (own_kps2 io hU GA.out.2) (kdT_ok a LA.out).2 rfl, (hp.1 U hU).2⟩) q1 q2)
                have hS : Below w.heap.size w v14 ∧ BlBox v14 g8 kdHd (.slice (some ⟨gw, 0, none⟩) k cap) ∧ v14.heap[gi]? = some (.cells (inL (kdX a) (.slice none 0 0)).toArray 46 (0, 0)) := ⟨XT.out.1, XT.out.2.1, row_far hHeld.2.2 q2 (fun e2 => GIW.out (Option.some.inj e2))⟩
                clear q1 q2 hHeld hs hp io
                go_frame
                refine hK.out _ _ hS (fun hHeld => ?_)
                clear hK K hS
                refine wpAnyH_done (by kernel_rfl) ?_ _
                clear hHeld
                go_wp2_with fail
                go_meet
                case rel =>
                  have hd := XT.out
                  rw [kd_map (how := 2) HES.out (by show (⟨e.t.ver, e.t.ins ++ e.t.ins, e.t.outs, e.t.time⟩ : TTx) = _; rw [ET.out]; unfold kdW; rw [if_neg (by omega), if_neg (by omega), if_pos rfl, if_pos HA.out])] at hd
                  rw [WI.out, PL.out, H2.out]
                  refine ⟨?_, rfl, hd⟩
                  have : kdWant 2 a = 106 := by unfold kdWant; rw [if_neg (by omega), if_neg (by omega), if_pos rfl, if_pos HA.out]
                  rw [this]
                  rfl
          · have lt1 : ¬ (0 : Int) < (a : Int) := by omega
            have H4 := Lib.hid ha
            clear h0 h1 h2 ha
            go_wp2_with fail
            go_meet
            case rel =>
              rw [WI.out, PL.out, H2.out]
              refine ⟨?_, rfl, ST.out.stay LE.out HES.out AN.out ?_⟩
              · have : kdWant 2 a = 0 := by unfold kdWant; rw [if_neg (by omega), if_neg (by omega), if_pos rfl, if_neg H4.out]
                rw [this]
                rfl
              · unfold kdW
                rw [if_neg (by omega), if_neg (by omega), if_pos rfl, if_neg H4.out]
        have e2 : ((h : Int) == 2) = false := by rw [beq_eq_false_iff_ne]; omega
        have H3 : Hid (h = 3) := by have := HH.out; show _ = _; omega
        by_cases h4 : 1 < a
        · have lt1 : (1 : Int) < (a : Int) := by omega
          have hp := (ST.out.row.ok e (List.mem_of_getElem? GE.out)).2.2.now
          have HA := Lib.hid h4
          obtain ⟨gi, go, x, y, hiv, hov, hins, houts, hoy, hrow, hrow2, hlo, hgg, hhi⟩ := hp.2 (by rw [ET.out, kdAt_pos (by omega)]; exact kdT_base a)
          obtain rfl : kdX a = x := by
            have h5 : e.t.ins = [kdX a] := by rw [ET.out, kdAt_pos (by omega)]; rfl
            rw [hins] at h5
            simpa using h5.symm
          have c1 := ST.out.cell LE.out GE.out
          rw [hiv] at c1
          have RI := Lib.hid hrow
          have RO := Lib.hid hrow2
          have GG : Hid (e.lo ≤ gi ∧ gi < go ∧ go < e.hi ∧ gi ≠ g8 ∧ go ≠ g8 ∧ w.heap.size ≤ gi) := by
            have h5 := ST.out.off e (List.mem_of_getElem? GE.out)
            have h6 := ST.out.lowE GE.out
            have h7 := ST.out.wb
            exact ⟨hlo, hgg, hhi, by omega, by omega, by omega⟩
          have SH : Hid (e.iv = .slice (some ⟨gi, 0, none⟩) 1 1 ∧ e.ov = .slice (some ⟨go, 0, none⟩) 1 1 ∧ e.t.outs = [y] ∧ OutOk y) := ⟨hiv, hov, houts, hoy⟩
          clear h0 h1 h2 h4 hp hiv hov hins houts hoy hrow hrow2 hlo hgg hhi
          go_wp2_with ((with_reducible show wpList _ _ _ _ _ _); refine wpList_store_part rfl 28 (.tmp 60) (.const (.int .u32 1)) rfl gi 32 (hOne.map bV) [nV a] [.slice none 0 0, nV 0] [nV 1] 46 (nV 1) rfl rfl rfl rfl rfl RI.out (by kernel_rfl) (one_mem rfl) ?_; intro wx q1 q2; have D := Lib.hid (And.intro q1 q2); clear q1 q2; go_frame)
          go_meet
          case rel =>
            have ri : wx.heap[gi]? = some (.cells (inL ⟨hOne, 1, [], 0⟩ (.slice none 0 0)).toArray 46 (0, 0)) := D.out.1
            have ro := row_far RO.out D.out.2 (fun e2 => by have h5 : gi = go := Option.some.inj e2; have := GG.out; omega)
            have hd := ST.out.inner LE.out GE.out (e' := ⟨⟨e.t.ver, [⟨hOne, 1, [], 0⟩], e.t.outs, e.t.time⟩, e.iv, e.ov, e.lo, e.hi⟩) rfl (ST.out.row.ok e (List.mem_of_getElem? GE.out)).1 (fun U hU => ⟨by rw [SH.out.1]; exact insAt_one (row_kps ri hU GG.out.2.2.2.1) ⟨rfl, by show 1 ≤ _; omega, by show 0 ≤ _; omega⟩ (nil_key _), by rw [SH.out.2.1]; show OutsAt U _ e.t.outs; rw [SH.out.2.2.1]; exact outsAt_one (row_kps ro hU GG.out.2.2.2.2.1) SH.out.2.2.2⟩) D.out.2 ⟨GG.out.1, Nat.lt_trans GG.out.2.1 GG.out.2.2.1⟩ GG.out.2.2.2.2.2
            rw [kd_map (how := 3) HES.out (by show (⟨e.t.ver, [⟨hOne, 1, [], 0⟩], e.t.outs, e.t.time⟩ : TTx) = _; rw [ET.out]; unfold kdW; rw [if_neg (by omega), if_neg (by omega), if_neg (by omega), if_pos HA.out])] at hd
            rw [WI.out, PL.out, H3.out]
            refine ⟨?_, rfl, hd⟩
            have : kdWant 3 a = 106 := by unfold kdWant; rw [if_neg (by omega), if_neg (by omega), if_neg (by omega), if_pos HA.out]
            rw [this]
            rfl
        · have lt1 : ¬ (1 : Int) < (a : Int) := by omega
          have H4 := Lib.hid h4
          clear h0 h1 h2 h4
          go_wp2_with fail
          go_meet
          case rel =>
            rw [WI.out, PL.out, H3.out]
            refine ⟨?_, rfl, ST.out.stay LE.out HES.out AN.out ?_⟩
            · have : kdWant 3 a = 0 := by unfold kdWant; rw [if_neg (by omega), if_neg (by omega), if_neg (by omega), if_neg H4.out]
              rw [this]
              rfl
            · unfold kdW
              rw [if_neg (by omega), if_neg (by omega), if_neg (by omega), if_neg H4.out]
      case rest =>
        obtain ⟨rfl, rfl, hb0, hbx, htx⟩ := hcut
        obtain ⟨ts, hts⟩ : ∃ ts, ts = kdC k a h := ⟨_, rfl⟩
        rw [← hts] at htx
        have TL : Hid (ts.length = k) := by show _ = _; rw [hts]; unfold kdC; rw [List.length_set]; exact kdL_length k (by have := NM.out; omega)
        have SM0 : Hid (∀ t ∈ ts, TxSmall t) := by
          show ∀ t ∈ ts, TxSmall t
          have hnm := NM.out
          rw [hts, hnm]
          exact kd_small HM2.out (by omega) HH.out
        have ROW : Hid (rowR ts = kdR h a) := by
          show _ = _
          have hnm := NM.out
          rw [hts, hnm]
          exact kd_row m HM2.out a (by omega) h HH.out
        have SM : Hid (∀ hd : THd, BlkSmall ⟨hd, ts⟩) := fun hd => ⟨SM0.out, by show ts.length ≤ _; have := TL.out; have := BN.out; omega⟩
        have BX := Lib.hid hbx
        have TX := Lib.hid htx
        have B0 := Lib.hid hb0
        obtain ⟨vs, hvs⟩ : ∃ vs : Value, vs = .slice (some ⟨gw, 0, none⟩) k cap := ⟨_, rfl⟩
        rw [← hvs] at BX TX
        obtain ⟨cs, hcs⟩ : ∃ cs, cs = blL kdHd vs := ⟨_, rfl⟩
        have LCS' : Hid (cs.toArray.size = 69) := by show _ = _; rw [hcs]; exact blL_size kdHd_ok _
        have F : Hid (wc.heap[g8]? = some (.cells cs.toArray 39 (0, 0))) := by show _ = _; rw [hcs]; exact BX.out.row
        have HB : Hid (BlkAt wc (.agg cs.toArray) ⟨kdHd, ts⟩) := ⟨kdHd_ok, vs, by rw [hcs], TX.out.now⟩
        clear hbx htx hb0 hcs hts OW ST HES
        go_wp2_with ((with_reducible show wpList _ _ _ _ _ _); (refine wpList_load_row rfl 39 (.tmp 8) rfl g8 rfl 39 cs.toArray (0, 0) _ F.out Tryd.underlying39 rfl (by rw [LCS'.out]; kernel_rfl) ?_; go_frame))
        refine (blroot_any ⟨kdHd, ts⟩ _ wc HB.out (SM.out _) (HK.out.below B0.out)).mono ?_
        rintro e6 w6 ⟨rfl, hb6⟩
        obtain ⟨r, hr⟩ : ∃ r, r = blRoot ⟨kdHd, ts⟩ := ⟨_, rfl⟩
        have LR : Hid (r.length = 32) := by show _ = _; rw [hr]; exact blRoot_length _
        rw [← hr]
        have HR := Lib.hid hr
        have BX := Lib.hid (BX.out.below hb6)
        have TX := Lib.hid (TX.out.on (Kps.new hb6))
        have B6 := Lib.hid (B0.out.trans (hb6.mono B0.out.size))
        clear hr hb6 F HB LCS'
        go_upto_region 31 with ((with_reducible show wpList _ _ _ _ _ _); refine st_blroot (g := g8) (h := kdHd) (tv := vs) rfl (.tmp 116) (.tmp 114) rfl rfl r LR.out rfl kdHd_ok BX.out ?_; intro w7 q1 q2; have BX7 := Lib.hid q1; have TX7 := Lib.hid (TX.out w7 (Kps.grown q2 (fun j _ hj e => hj (Option.some.inj e)))); have B7 := Lib.hid (B6.out.grown q2 B6.out.size (fun j hj => by cases hj; exact G8W.out)); clear q1 q2; go_frame)
        obtain ⟨hd2, hhd2⟩ : ∃ hd2 : THd, hd2 = { kdHd with root := r } := ⟨_, rfl⟩
        rw [← hhd2] at BX7
        have HD2 : Hid (HdOk hd2) := by show HdOk _; rw [hhd2]; exact ⟨kdHd_ok.1, kdHd_ok.2.1, LR.out, kdHd_ok.2.2.2.1, kdHd_ok.2.2.2.2.1, kdHd_ok.2.2.2.2.2⟩
        have RX : Hid (blkR ⟨hd2, ts⟩ = kdR h a) := by
          show _ = _
          rw [blkR_row HD2.out (by rw [hhd2]; rfl) (by rw [hhd2]; exact HR.out.symm)]
          exact ROW.out
        obtain ⟨cs, hcs⟩ : ∃ cs, cs = blL hd2 vs := ⟨_, rfl⟩
        have LCS' : Hid (cs.toArray.size = 69) := by show _ = _; rw [hcs]; exact blL_size HD2.out _
        have F : Hid (w7.heap[g8]? = some (.cells cs.toArray 39 (0, 0))) := by show _ = _; rw [hcs]; exact BX7.out.row
        have HB : Hid (BlkAt w7 (.agg cs.toArray) ⟨hd2, ts⟩) := ⟨HD2.out, vs, by rw [hcs], TX7.out⟩
        clear hhd2 hcs
        go_wp2_with ((with_reducible show wpList _ _ _ _ _ _); (refine wpList_load_row rfl 39 (.tmp 8) rfl g8 rfl 39 cs.toArray (0, 0) _ F.out Tryd.underlying39 rfl (by rw [LCS'.out]; kernel_rfl) ?_; go_frame))
        refine (blcheck_any E ⟨hd2, ts⟩ _ w7 HB.out (SM.out _) (HK.out.below B7.out) (HE.out.below B7.out).eB).mono ?_
        rintro e8 w8 ⟨u, rfl, hf, hb8⟩
        rw [RX.out] at hf
        have B8 := Lib.hid (B7.out.trans (hb8.mono B7.out.size))
        have three := kd_three h a HH.out
        clear hb8 F HB LCS' BX7 TX7 BX TX
        rcases three with ⟨h1, h2⟩ | ⟨h1, q, hq, h2, h3⟩ | ⟨h1, h2, h3⟩
        · rw [h2] at hf
          obtain rfl := fltv_none hf
          obtain rfl : wi = 0 := by rw [WI.out, h1]; rfl
          clear h1 h2 hf
          rw [show errV E 0 = Value.nilIface from rfl]
          go_wp2_with fail
          go_ret
          exact ⟨rfl, B8.out⟩
        · rw [h2] at hf
          obtain rfl : pl = true := by rw [PL.out]; exact decide_eq_true h1
          have hw1 : wi = ((101 + q : Nat) : Int) := by rw [WI.out, h3]
          have ne : (wi == 0) = false := by rw [beq_eq_false_iff_ne]; omega
          have HW : Hid (wi ≠ 0) := by show _ ≠ _; omega
          have SA : Hid (∀ W, Below w8.heap.size w8 W → Calls Tryd.prog 20 #[u, .agg (pC wi (a : Int)).toArray] W fun e w' => e = .returned (.bool true) ∧ Below W.heap.size W w') := fun W hW => by
            rw [hw1]
            exact same_at E q a u W (HE.out.below (B8.out.trans (hW.mono B8.out.size))) hq (hf.below hW)
          clear h1 h2 h3 hf hw1
          go_wp2_with fail
          refine (placed_any wi (a : Int) HW.out _).mono ?_
          rintro e9 w9 ⟨rfl, hb9⟩
          have B9 := Lib.hid hb9
          clear hb9
          go_wp2_with fail
          refine (SA.out _ B9.out).mono ?_
          rintro e10 w10 ⟨rfl, hb10⟩
          have B10 := Lib.hid (B8.out.trans ((B9.out.trans (hb10.mono B9.out.size)).mono B8.out.size))
          clear hb10
          go_wp2_with fail
          go_ret
          exact ⟨rfl, B10.out⟩
        · rw [h2] at hf
          obtain rfl := fltv_none hf
          obtain rfl : pl = false := by rw [PL.out, h1]; rfl
          obtain rfl : wi = 106 := by rw [WI.out, h3]; rfl
          clear h1 h2 h3 hf
          go_wp2_with fail
          refine (is_any E 6 106 true rfl _ (HE.out.below B8.out) (by omega)).mono ?_
          rintro e9 w9 ⟨rfl, hb9⟩
          have B9 := Lib.hid (B8.out.trans (hb9.mono B8.out.size))
          clear hb9
          go_wp2_with fail
          go_ret
          exact ⟨rfl, B9.out⟩
end Go.Proofs.YtdamhoagiooicaaDoor.Sha
