/-
  The statement on roots answers true. Conditions: the errors and the table of the rounds' words are there.
-/
import Derived.Deep.CutBlock
import Derived.Deep.CutRange
import Derived.Test.YtcghbogkplcohaaDoorMg16
import Derived.Test.YtcghbogkplcohaaDoorMg14
import Derived.Test.YtcghbogkplcohaaDoorMg01
import Derived.Test.YtcghbogkplcohaaDoorMg05
import Derived.Test.YtcghbogkplcohaaDoorMg07
import Derived.Test.YtcghbogkplcohaaDoorMg13
namespace Go.Proofs.YtcghbogkplcohaaDoor.Sha
open Go Go.RowKit
theorem fltv_nil {w : World} {E : Nat → Addr} {v : Value} {c : Nat} (h : FltV w E v (c, none)) : v = errV E c := by
  rcases h with ⟨_, h⟩ | ⟨q, p, g, h, _⟩
  · exact h
  · simp at h
set_option maxHeartbeats 2000000 in
set_option maxRecDepth 100000 in
theorem blockroots_main (E : Nat → Addr) (n0 a0 h0 : Int) (lk : List UInt8) (w : World) (hn0 : -9223372036854775808 ≤ n0 ∧ n0 ≤ 9223372036854775807) (ha0 : -9223372036854775808 ≤ a0 ∧ a0 ≤ 9223372036854775807) (hh0 : -9223372036854775808 ≤ h0 ∧ h0 ≤ 9223372036854775807) (hlk : lk.length = 32) (hE : Errs w E) (hk : KTab w) :
    Calls Tryd.prog 3 #[.int .i64 n0, .int .i64 a0, .int .i64 h0, .agg (lk.map bV).toArray] w fun e w' => e = .returned (.bool true) ∧ Below w.heap.size w w' := by
  have HE := Lib.hid hE
  have HK := Lib.hid hk
  have LK := Lib.hid hlk
  have LH : Hid ((lk.map bV).toArray.size = 32) := by show _ = _; simp [hlk]
  have HF : Hid (∀ W, Below w.heap.size w W → Calls Tryd.prog 4 #[] W fun e w' => e = .returned (.bool true) ∧ Below W.heap.size W w') := fun W hW => first7 E W (hk.below hW) (hE.below hW).eB
  obtain ⟨m, hm, hm2⟩ := numb_nat n0 11 (by omega)
  obtain ⟨n, hn⟩ : ∃ n, n = m + 2 := ⟨_, rfl⟩
  obtain ⟨nq, hnq⟩ : ∃ q, q = m + 1 := ⟨_, rfl⟩
  obtain ⟨a1, ha, ha2⟩ := numb_nat a0 nq (by omega)
  obtain ⟨a, haa⟩ : ∃ a, a = a1 + 1 := ⟨_, rfl⟩
  obtain ⟨h, hh, hh2⟩ := numb_nat h0 4 (by omega)
  have HN1 : Hid (∀ W, Calls Tryd.prog 5 #[.int .i64 n0, .int .i64 11] W fun e w' => e = .returned (.int .i64 (m : Int)) ∧ W = w') := fun W => by
    have q : numb n0 11 = (m : Int) := hm
    rw [← q]
    exact numb_any n0 11 (by omega) (by omega) hn0 W
  have HN2 : Hid (∀ W, Calls Tryd.prog 5 #[.int .i64 a0, .int .i64 (nq : Int)] W fun e w' => e = .returned (.int .i64 (a1 : Int)) ∧ W = w') := fun W => by rw [← ha]; exact numb_any a0 (nq : Int) (by omega) (by omega) ha0 W
  have HN3 : Hid (∀ W, Calls Tryd.prog 5 #[.int .i64 h0, .int .i64 4] W fun e w' => e = .returned (.int .i64 (h : Int)) ∧ W = w') := fun W => by
    have q : numb h0 4 = (h : Int) := hh
    rw [← q]
    exact numb_any h0 4 (by omega) (by omega) hh0 W
  have wn : IntKind.i64.wrap ((m : Int) + 2) = (n : Int) := by rw [i64_stays (by omega)]; omega
  have wnq : IntKind.i64.wrap ((n : Int) - 1) = (nq : Int) := by rw [i64_stays (by omega)]; omega
  have wa : IntKind.i64.wrap ((a1 : Int) + 1) = (a : Int) := by rw [i64_stays (by omega)]; omega
  have bn : 2 ≤ n ∧ n ≤ 12 := by omega
  have AN : Hid (1 ≤ a ∧ a < n) := by show _ ∧ _; omega
  have HH := Lib.hid hh2
  have BN := Lib.hid bn
  obtain ⟨i0, hi, hz0, hz1, hz2⟩ := info_parts info_txc
  obtain ⟨i1, hi1, hy0, hy1, hy2⟩ := info_parts info_in
  obtain ⟨i2, hi2, hx0, hx1, hx2⟩ := info_parts info_out
  clear hE hk hm hn ha hh hn0 ha0 hh0 hm2 ha2 hh2 bn hnq haa hlk
  go_enter Tryd.func3, Tryd.ntmps3
  go_upto_region 1 with fail
  have f7 := heap_alloc_new w (.cells (lk.map bV).toArray 23 (0, 0))
  have b0 := (Below.refl w.heap.size w).alloc (Nat.le_refl _) (.cells (lk.map bV).toArray 23 (0, 0))
  generalize hw1 : World.alloc _ _ = w1
  have e1 : w.alloc (.cells (lk.map bV).toArray 23 (0, 0)) = w1 := hw1
  rw [e1] at f7 b0
  obtain ⟨g7, hg7⟩ : ∃ g, g = w.heap.size := ⟨_, rfl⟩
  rw [← hg7] at f7 ⊢
  have F7 := Lib.hid f7
  have B1 := Lib.hid b0
  clear hw1 e1 hg7 f7 b0
  go_wp2_with fail
  refine (HF.out _ B1.out).mono ?_
  rintro e w2 ⟨rfl, hb1⟩
  have B2 := Lib.hid hb1
  clear hb1
  go_wp2_with fail
  refine (HN1.out _).mono ?_
  rintro e w' ⟨rfl, rfl⟩
  go_wp2_with fail
  refine (HN2.out _).mono ?_
  rintro e w' ⟨rfl, rfl⟩
  clear HF HN1 HN2 wn wnq
  go_wp2_with ((with_reducible show wpList _ _ _ _ _ _); first | (refine wpList_buildTo rfl 28 _ rfl _ rfl (hdL kdHd).toArray (by kernel_rfl) ?_; go_frame) | (refine wpList_load_row rfl 23 (.tmp 7) rfl g7 rfl 23 (lk.map bV).toArray (0, 0) _ (row_below F7.out B2.out) Tryd.underlying23 rfl (by rw [LH.out]; kernel_rfl) ?_; go_frame))
  refine (blfirst_any 3 3 5 lk [] (.slice none 0 0) w2 (by decide) (by omega) (by omega) LK.out (nil_src _) (by simp)).mono ?_
  rintro e w3 ⟨u, rfl, tn, hb2⟩
  obtain ⟨e0, et, rfl, eok, elo, ehi, est⟩ := kd_first (firstT_base _ _ _ _) tn
  obtain ⟨base, hbase⟩ : ∃ base, base = w2.heap.size := ⟨_, rfl⟩
  have B3 := Lib.hid (B2.out.trans (hb2.mono B2.out.size))
  have B1S : Hid (base = w2.heap.size) := hbase
  have WB : Hid (w1.heap.size ≤ base) := by rw [hbase]; exact B2.out.size
  have BS : Hid (base ≤ w3.heap.size) := by rw [hbase]; exact hb2.size
  have LC : Hid (e0.cells.length = 4) := rfl
  have ET := Lib.hid et
  have EO := Lib.hid (And.intro eok (And.intro elo ehi))
  have ES := Lib.hid est
  clear tn hb2 et eok elo ehi est hbase wa
  go_upto_region 7 with ((with_reducible show wpList _ _ _ _ _ _); first | (refine wpList_slice_one rfl 35 32 (.tmp 29) rfl (e0.cells) rfl Tryd.underlying35 i0 _ hi hz0 (by rw [hz1, LC.out]) (by rw [LC.out]; omega) (by rw [LC.out]; omega) ?_; have nf := heap_alloc_new w3 (.cells (e0.cells).toArray 32 (0, 0)); have bb := (Below.refl w3.heap.size w3).alloc (Nat.le_refl _) (.cells (e0.cells).toArray 32 (0, 0)); obtain ⟨gv, hgv⟩ : ∃ g, g = w3.heap.size := ⟨_, rfl⟩; have Hgv := Lib.hid hgv; generalize hq : World.alloc _ _ = w4; have e2 : w3.alloc (.cells (e0.cells).toArray 32 (0, 0)) = w4 := hq; rw [e2] at nf bb; rw [← hgv] at nf ⊢; have NV := Lib.hid nf; have B4 := Lib.hid (B3.out.trans (bb.mono B3.out.size)); have ES := Lib.hid (ES.out.on (Kps.new bb)); clear nf bb hq e2 hgv; go_frame) | (refine wpList_buildTo rfl 37 _ rfl _ rfl (blL kdHd (.slice (some ⟨gv, 0, none⟩) 1 1)).toArray (by kernel_rfl) ?_; go_frame) | (refine wpList_store_row rfl 37 (.tmp 10) (.tmp 31) rfl w4.heap.size (blL kdHd (.slice (some ⟨gv, 0, none⟩) 1 1)).toArray rfl rfl 37 _ (heap_alloc_new _ _) (by kernel_rfl) (by kernel_rfl) (blL_one rfl) ?_; go_frame))
  obtain ⟨_, f2, f3, f4⟩ := fill_setup (Below.refl w4.heap.size w4) Tryd.zeroCells37 (blL kdHd (.slice (some ⟨gv, 0, none⟩) 1 1)).toArray 37
  obtain ⟨g8, hg8⟩ : ∃ g, g = w4.heap.size := ⟨_, rfl⟩
  generalize hw5 : World.setRow _ _ _ = w5
  rw [hw5] at f2 f3 f4
  rw [← hg8] at f2 ⊢
  have gvl := (Array.getElem?_eq_some_iff.1 NV.out).1
  have ST : Hid (KdB base g8 kdHd (.slice (some ⟨gv, 0, none⟩) 1 1) (.slice (some ⟨gv, 0, none⟩) 1 1) [e0] w1 w5) := by
    have h1 := Hgv.out
    have h2 := BS.out
    have h3 := EO.out.2.2
    refine ⟨B4.out.trans (f4.mono B4.out.size), ⟨f2⟩, (kd_row1 NV.out (by omega) EO.out.1 (by omega) ES.out).keep f4, fun e => ?_, fun e he => ?_, WB.out, by omega, fun e he => by rw [List.mem_singleton.1 he]; have := EO.out.2.1; have := B1S.out; omega⟩
    · have : gv = g8 := Option.some.inj e
      omega
    · rw [List.mem_singleton.1 he]
      exact .inr (by omega)
  have HES : Hid ([e0].map (·.t) = rtL lk (rtXs 1)) := by show [e0.t] = _; rw [ET.out]; rfl
  clear f2 f3 f4 hw5 hg8 gvl NV ES B4
  go_wp2_with fail
  go_loopw [11] (fun vi wr => RtInv n base g8 lk kdHd w1 vi wr) (fun i _ => n - (intOf i).toNat)
  case atStart => exact ⟨1, [e0], _, by have := BN.out; omega, by omega, rfl, HES.out, ST.out⟩
  case round =>
    clear ST HES
    obtain ⟨k, es, v, hk, hk1, rfl, hes, hst⟩ := hrel
    have ST := Lib.hid hst
    have HES := Lib.hid hes
    have LE : Hid (es.length = k) := by show _ = _; rw [← List.length_map (·.t), hes, rtL_length, rtXs_length]; omega
    have c68 : wr.cell? ⟨g8, 68, none⟩ = some v := hst.box.txs kdHd_ok
    clear hst hes
    by_cases hlt : k < n
    · have bn := BN.out
      have wu : IntKind.u32.wrap (k : Int) = (k : Int) := by rw [IntWalk.u32_in]; omega
      have wv : IntKind.u64.wrap (k : Int) = (k : Int) := by rw [IntKind.wrap_u64]; omega
      have LX : Hid ((inL (rtX lk k) (.slice none 0 0)).length = 35) := inL_length _ _ LK.out
      have LO : Hid ((outL ⟨k, zH⟩).length = 33) := rfl
      have BPT : Hid (Tryd.prog.built 39 [(0, .agg (lk.map bV).toArray), (1, .int .u32 (k : Int))] = some (ptL lk k).toArray) := built_pt lk k LK.out
      have BIN : Hid (Tryd.prog.built 42 [(0, .agg (ptL lk k).toArray)] = some (inL (rtX lk k) (.slice none 0 0)).toArray) := built_inp (rtX lk k) LK.out rfl
      have LT0 : Hid (∀ gi go : Nat, (txL (rtT lk k k k) (.slice (some ⟨gi, 0, none⟩) 1 1) (.slice (some ⟨go, 0, none⟩) 1 1)).length = 4) := fun _ _ => rfl
      have LL : Hid (es.length ≤ 12) := by show _ ≤ _; rw [LE.out]; omega
      have KB : Hid (k ≤ 1000) := by show _ ≤ _; omega
      have EF : Hid ((∀ a ∈ es, a.hi ≤ wr.heap.size) ∧ (∀ q, v.ownBlock = some q → q < wr.heap.size) ∧ g8 < wr.heap.size) := ⟨fun a ha => (ST.out.row.ok a ha).2.1, fun q hq => (ST.out.row.own.lt q hq).2, ST.out.lt⟩
      have lt0 : (k : Int) < (n : Int) := by omega
      go_upto_region 9 with ((with_reducible show wpList _ _ _ _ _ _); first | (refine wpList_load_row rfl 23 (.tmp 7) rfl g7 rfl 23 (lk.map bV).toArray (0, 0) _ (row_below F7.out (by first | exact ST.out.bel | exact ST.out.bel)) Tryd.underlying23 rfl (by rw [LH.out]; kernel_rfl) ?_; go_frame) | (refine wpList_buildTo rfl 39 _ rfl _ rfl (ptL lk k).toArray (by rw [← BPT.out]; kernel_rfl) ?_; go_frame) | (refine wpList_buildTo rfl 42 _ rfl _ rfl (inL (rtX lk k) (.slice none 0 0)).toArray (by rw [← BIN.out]; kernel_rfl) ?_; go_frame) | (refine wpList_slice_one rfl 29 42 (.tmp 45) rfl ((inL (rtX lk k) (.slice none 0 0))) rfl Tryd.underlying29 i1 _ hi1 hy0 (by rw [hy1, LX.out]) (by rw [LX.out]; omega) (by rw [LX.out]; omega) ?_; have nf := heap_alloc_new wr (.cells ((inL (rtX lk k) (.slice none 0 0))).toArray 42 (0, 0)); have bb := (Below.refl wr.heap.size wr).alloc (Nat.le_refl _) (.cells ((inL (rtX lk k) (.slice none 0 0))).toArray 42 (0, 0)); obtain ⟨gi, hgi⟩ : ∃ g, g = wr.heap.size := ⟨_, rfl⟩; have Hgi := Lib.hid hgi; generalize hq : World.alloc _ _ = wa; have e2 : wr.alloc (.cells ((inL (rtX lk k) (.slice none 0 0))).toArray 42 (0, 0)) = wa := hq; rw [e2] at nf bb; rw [← hgi] at nf ⊢; have NI := Lib.hid nf; have ST := Lib.hid (ST.out.below bb); clear nf bb hq e2 hgi; go_frame) | (refine wpList_buildTo rfl 44 _ rfl _ rfl (outL ⟨k, zH⟩).toArray (by kernel_rfl) ?_; go_frame) | (refine wpList_slice_one rfl 30 44 (.tmp 49) rfl ((outL ⟨k, zH⟩)) rfl Tryd.underlying30 i2 _ hi2 hx0 (by rw [hx1, LO.out]) (by rw [LO.out]; omega) (by rw [LO.out]; omega) ?_; have nf := heap_alloc_new wa (.cells ((outL ⟨k, zH⟩)).toArray 44 (0, 0)); have bb := (Below.refl wa.heap.size wa).alloc (Nat.le_refl _) (.cells ((outL ⟨k, zH⟩)).toArray 44 (0, 0)); obtain ⟨go, hgo⟩ : ∃ g, g = wa.heap.size := ⟨_, rfl⟩; have Hgo := Lib.hid hgo; generalize hq : World.alloc _ _ = wb; have e2 : wa.alloc (.cells ((outL ⟨k, zH⟩)).toArray 44 (0, 0)) = wb := hq; rw [e2] at nf bb; rw [← hgo] at nf ⊢; have NO := Lib.hid nf; have ST := Lib.hid (ST.out.below bb); have GIO := Lib.hid ((by rw [hgo]; exact (Array.getElem?_eq_some_iff.1 NI.out).1 : gi < go)); have NI := Lib.hid (row_below NI.out bb); clear nf bb hq e2 hgo; go_frame) | (refine wpList_buildTo rfl 32 _ rfl _ rfl (txL (rtT lk k k k) (.slice (some ⟨gi, 0, none⟩) 1 1) (.slice (some ⟨go, 0, none⟩) 1 1)).toArray (by kernel_rfl) ?_; go_frame) | (refine wpList_slice_one rfl 35 32 (.tmp 51) rfl ((txL (rtT lk k k k) (.slice (some ⟨gi, 0, none⟩) 1 1) (.slice (some ⟨go, 0, none⟩) 1 1))) rfl Tryd.underlying35 i0 _ hi hz0 (by rw [hz1, LT0.out]) (by rw [LT0.out]; omega) (by rw [LT0.out]; omega) ?_; have nf := heap_alloc_new wb (.cells ((txL (rtT lk k k k) (.slice (some ⟨gi, 0, none⟩) 1 1) (.slice (some ⟨go, 0, none⟩) 1 1))).toArray 32 (0, 0)); have bb := (Below.refl wb.heap.size wb).alloc (Nat.le_refl _) (.cells ((txL (rtT lk k k k) (.slice (some ⟨gi, 0, none⟩) 1 1) (.slice (some ⟨go, 0, none⟩) 1 1))).toArray 32 (0, 0)); obtain ⟨gt, hgt⟩ : ∃ g, g = wb.heap.size := ⟨_, rfl⟩; have Hgt := Lib.hid hgt; generalize hq : World.alloc _ _ = wc; have e2 : wb.alloc (.cells ((txL (rtT lk k k k) (.slice (some ⟨gi, 0, none⟩) 1 1) (.slice (some ⟨go, 0, none⟩) 1 1))).toArray 32 (0, 0)) = wc := hq; rw [e2] at nf bb; rw [← hgt] at nf ⊢; have NT := Lib.hid nf; have ST := Lib.hid (ST.out.below bb); have NI := Lib.hid (row_below NI.out bb); have NO := Lib.hid (row_below NO.out bb); clear nf bb hq e2 hgt; go_frame) | (refine wpList_append_own_at _ rfl (.tmp 38) (.tmp 52) 35 rfl base 32 i0 (.agg [nV 0, .slice none 0 0, .slice none 0 0, nV 0].toArray) 4 64 Tryd.underlying35 hi hz0 hz1 hz2 (by kernel_rfl) (by decide) v es.length (esL es) rfl ST.out.row.own ⟨gt, 0, none⟩ 1 1 (txL (rtT lk k k k) (.slice (some ⟨gi, 0, none⟩) 1 1) (.slice (some ⟨go, 0, none⟩) 1 1)) rfl rfl (fun j u hj => by rw [Addr.add_mid]; exact range_of_box NT.out j u hj) (rt_ones lk k gi go) (by have := LL.out; unfold maxLen; omega) (by have := LL.out; omega) ST.out.low ?_; intro v5 wd q1 q2 _ q3; have VO := Lib.hid (own_one q1); have ST := Lib.hid (ST.out.push (e := ⟨rtT lk k k k, (.slice (some ⟨gi, 0, none⟩) 1 1), (.slice (some ⟨go, 0, none⟩) 1 1), gi, go + 1⟩) (rtT_ok lk KB.out) (Array.getElem?_eq_some_iff.1 NO.out).1 (rt_el LK.out NI.out NO.out GIO.out KB.out) (fun a ha => by have := EF.out.1 a ha; have := Hgi.out; show a.hi ≤ gi; omega) (fun q hq => by have := EF.out.2.1 q hq; have := Hgi.out; show q < gi; omega) (by have := EF.out.2.2; have := Hgi.out; show g8 < gi; omega) q1 q2 q3); clear q1 q2 q3; go_frame) | (refine st_bltxs (g := g8) (h := kdHd) (tv := v) rfl (.tmp 54) (.tmp 53) rfl rfl v5 rfl VO.out kdHd_ok ST.out.box ?_; intro we q1 q2; have ST := Lib.hid (ST.out.store q1 q2); clear q1 q2; go_frame))
      clear c68 wu wv
      go_wp2_with fail
      go_roundw
      case rel =>
        refine ⟨k + 1, es ++ [⟨rtT lk k k k, (.slice (some ⟨gi, 0, none⟩) 1 1), (.slice (some ⟨go, 0, none⟩) 1 1), gi, go + 1⟩], v5, by omega, by omega, by go_num, ?_, ST.out⟩
        rw [List.map_append, HES.out, rtL_succ lk k hk1]
        rfl
      case measure => simp [intOf]; omega
    · obtain rfl : n = k := by omega
      have hge : ¬ (n : Int) < (n : Int) := by omega
      obtain ⟨gw, cw, hv, _, hgwl, hcp⟩ := own_blk ST.out.row.own (by have := LE.out; have := BN.out; omega)
      rw [LE.out] at hv
      subst hv
      have TXS : Hid (Sty (fun j => j ≠ g8) wr (fun U => TxsAt U (.slice (some ⟨gw, 0, none⟩) n cw) (es.map (·.t)))) := kd_txs (by have h := ST.out.row.own; rw [LE.out] at h; exact h) LE.out (fun e => ST.out.vo (by rw [e]; rfl)) fun x hx => ⟨(ST.out.row.ok x hx).1, ((ST.out.row.ok x hx).2.2).imp (fun j _ hj => by have := ST.out.off x hx; show j ≠ g8; omega) (fun U hU => hU.1)⟩
      obtain ⟨ts, hts⟩ : ∃ ts, ts = rtL lk (rtXs n) := ⟨_, rfl⟩
      rw [HES.out, ← hts] at TXS
      obtain ⟨vs, hvs⟩ : ∃ vs : Value, vs = .slice (some ⟨gw, 0, none⟩) n cw := ⟨_, rfl⟩
      rw [← hvs] at TXS
      have BX := ST.out.box
      rw [← hvs] at BX
      have BX := Lib.hid BX
      have TSE := Lib.hid hts
      have BASE := rt_base BN.out
      have TL : Hid (ts.length = n) := by show _ = _; rw [hts, rtL_length, rtXs_length]; have := BN.out; omega
      have SM : Hid (∀ hd : THd, BlkSmall ⟨hd, ts⟩) := fun hd => by rw [hts]; exact rtL_small LK.out BASE.2 hd
      have ROW : Hid (rowR ts = (0, none)) := by show _ = _; rw [hts, rtL_row LK.out BASE.2, BASE.1]; rfl
      have G8W : Hid (w1.heap.size ≤ g8) := Nat.le_trans ST.out.wb ST.out.bg
      have BR := Lib.hid ST.out.bel
      obtain ⟨cs0, hcs0⟩ : ∃ cs, cs = blL kdHd vs := ⟨_, rfl⟩
      have LC0 : Hid (cs0.toArray.size = 69) := by show _ = _; rw [hcs0]; exact blL_size kdHd_ok _
      have F : Hid (wr.heap[g8]? = some (.cells cs0.toArray 37 (0, 0))) := by show _ = _; rw [hcs0]; exact BX.out.row
      have HB0 : Hid (BlkAt wr (.agg cs0.toArray) ⟨kdHd, ts⟩) := ⟨kdHd_ok, vs, by rw [hcs0], TXS.out.now⟩
      clear hts hvs BASE hcs0 ST HES hcp hgwl c68
      go_wp2_with ((with_reducible show wpList _ _ _ _ _ _); (refine wpList_load_row rfl 37 (.tmp 10) rfl g8 rfl 37 cs0.toArray (0, 0) _ F.out Tryd.underlying37 rfl (by rw [LC0.out]; kernel_rfl) ?_; go_frame))
      refine (blroot_any ⟨kdHd, ts⟩ _ wr HB0.out (SM.out _) (HK.out.below (B1.out.trans (BR.out.mono B1.out.size)))).mono ?_
      rintro e6 w6 ⟨rfl, hb6⟩
      obtain ⟨r, hr⟩ : ∃ r, r = blRoot ⟨kdHd, ts⟩ := ⟨_, rfl⟩
      have LR : Hid (r.length = 32) := by show _ = _; rw [hr]; exact blRoot_length _
      rw [← hr]
      have BX := Lib.hid (BX.out.below hb6)
      have TXS := Lib.hid (TXS.out.on (Kps.new hb6))
      have B6 := Lib.hid (BR.out.trans (hb6.mono BR.out.size))
      have HR0 := Lib.hid hr
      clear hb6 F HB0 LC0 BR hr
      go_upto_region 12 with ((with_reducible show wpList _ _ _ _ _ _); refine st_blroot (g := g8) (h := kdHd) (tv := vs) rfl (.tmp 58) (.tmp 56) rfl rfl r LR.out rfl kdHd_ok BX.out ?_; intro w7 q1 q2; have BX7 := Lib.hid q1; have TX7 := Lib.hid (TXS.out w7 (Kps.grown q2 (fun j _ hj e => hj (Option.some.inj e)))); have B7 := Lib.hid (B6.out.grown q2 B6.out.size (fun j hj => by cases hj; exact G8W.out)); clear q1 q2; go_frame)
      obtain ⟨hd2, hhd2⟩ : ∃ hd2 : THd, hd2 = { kdHd with root := r } := ⟨_, rfl⟩
      rw [← hhd2] at BX7
      have HD2 : Hid (HdOk hd2) := by show HdOk _; rw [hhd2]; exact ⟨kdHd_ok.1, kdHd_ok.2.1, LR.out, kdHd_ok.2.2.2.1, kdHd_ok.2.2.2.2.1, kdHd_ok.2.2.2.2.2⟩
      have HR : Hid (r = blRoot ⟨hd2, ts⟩) := by show _ = _; rw [HR0.out]; rfl
      have HDR : Hid (hd2.root = r) := by show _ = _; rw [hhd2]
      have HW2 : Hid (workB hd2.work = false) := by show _ = _; rw [hhd2]; rfl
      have RXB : Hid (blkR ⟨hd2, ts⟩ = (0, none)) := by
        show _ = _
        rw [blkR_row0 HD2.out HW2.out ROW.out, ← HR.out, HDR.out, if_pos rfl]
      have CB : Hid (∀ W cs, BlkAt W (.agg cs) ⟨hd2, ts⟩ → Below w1.heap.size w1 W → Calls Tryd.prog 8 #[.agg cs] W fun e w' => e = .returned .nilIface ∧ Below W.heap.size W w') := fun W cs h hb => (blcheck_any E ⟨hd2, ts⟩ _ W h (SM.out _) (HK.out.below (B1.out.trans (hb.mono B1.out.size))) (HE.out.below (B1.out.trans (hb.mono B1.out.size))).eB).mono fun e w' ⟨u, he, hf, hbw⟩ => by
        rw [RXB.out] at hf
        rw [he, fltv_nil hf]
        exact ⟨rfl, hbw⟩
      obtain ⟨cs, hcs⟩ : ∃ cs, cs = blL hd2 vs := ⟨_, rfl⟩
      have LCS : Hid (cs.toArray.size = 69) := by show _ = _; rw [hcs]; exact blL_size HD2.out _
      have FB7 : Hid (w7.heap[g8]? = some (.cells cs.toArray 37 (0, 0))) := by show _ = _; rw [hcs]; exact BX7.out.row
      have HB7 : Hid (BlkAt w7 (.agg cs.toArray) ⟨hd2, ts⟩) := ⟨HD2.out, vs, by rw [hcs], TX7.out⟩
      clear hhd2 hcs BX7 TX7 BX TXS B6
      go_wp2_with ((with_reducible show wpList _ _ _ _ _ _); (refine wpList_load_row rfl 37 (.tmp 10) rfl g8 rfl 37 cs.toArray (0, 0) _ FB7.out Tryd.underlying37 rfl (by rw [LCS.out]; kernel_rfl) ?_; go_frame))
      refine (CB.out _ _ HB7.out B7.out).mono ?_
      rintro e w8 ⟨rfl, bb⟩
      have HB8 := Lib.hid (HB7.out.below bb)
      have FB8 := Lib.hid (row_below FB7.out bb)
      have B8 := Lib.hid (B7.out.trans (bb.mono B7.out.size))
      clear bb HB7 FB7 B7
      go_wp2_with ((with_reducible show wpList _ _ _ _ _ _); (refine wpList_load_row rfl 37 (.tmp 10) rfl g8 rfl 37 cs.toArray (0, 0) _ FB8.out Tryd.underlying37 rfl (by rw [LCS.out]; kernel_rfl) ?_; go_frame))
      refine (blclone_any ⟨hd2, ts⟩ _ w8 HB8.out (SM.out _) (by show 0 < ts.length; rw [TL.out]; have := BN.out; omega)).mono ?_
      rintro e w9 ⟨g1, gq, base2, n9, cap, es0, es, rfl, hes, hn9, hcl⟩
      have HCL := Lib.hid hcl
      have EST0 := Lib.hid hes
      have N9 := Lib.hid hn9
      have L9 : Hid (n9 = n) := by show _ = _; rw [hn9, ← List.length_map (·.t), hes]; exact TL.out
      clear hes hn9 hcl
      obtain ⟨c9, hc9⟩ : ∃ cs, cs = blL hd2 (.slice (some ⟨gq, 0, none⟩) n9 cap) := ⟨_, rfl⟩
      have LC9 : Hid (c9.toArray.size = 69) := by show _ = _; rw [hc9]; exact blL_size HD2.out _
      have ON9 : Hid (c9.toArray.all (·.oneCell') = true) := by show _ = _; rw [hc9]; exact blL_one rfl
      rw [show (blL (TBlk.mk hd2 ts).head (Value.slice (some ⟨gq, 0, none⟩) n9 cap)) = c9 from hc9.symm]
      have C9 := Lib.hid hc9
      clear hc9
      go_upto_region 15 with ((with_reducible show wpList _ _ _ _ _ _); (refine wpList_store_row rfl 37 (.tmp 12) (.tmp 63) rfl w9.heap.size c9.toArray rfl rfl 37 _ (heap_alloc_new _ _) (by rw [LC9.out]; kernel_rfl) (by rw [LC9.out]; kernel_rfl) ON9.out ?_; go_frame))
      obtain ⟨_, f2, f3, f4⟩ := fill_setup (Below.refl w9.heap.size w9) Tryd.zeroCells37 c9.toArray 37
      obtain ⟨gc, hgc⟩ : ∃ g, g = w9.heap.size := ⟨_, rfl⟩
      generalize hy2 : World.setRow _ _ _ = y2
      rw [hy2] at f2 f3 f4
      rw [← hgc] at f2 ⊢
      have ST : Hid (RtC gc gq n9 cap base2 hd2 es w8 y2) := RtC.of HCL.out N9.out f4 ⟨by rw [← C9.out]; exact f2⟩ (by omega)
      rw [L9.out] at ST
      have EST : Hid (es.map (·.t) = rtL lk (rtXs n)) := by show _ = _; rw [EST0.out]; exact TSE.out
      have NC : Hid (n ≤ cap) := by
        have h := ST.out.txs.len
        exact h.2
      have l68 := ST.out.box.txs HD2.out
      clear f2 f3 f4 hgc hy2 HCL EST0 N9 C9 LC9 ON9
      obtain rfl := L9.out.symm
      go_upto_region 17 with fail
      clear l68 L9
      go_wp2_with fail
      refine (HN3.out _).mono ?_
      rintro e w' ⟨rfl, rfl⟩
      clear HN3
      obtain ⟨base, hbb⟩ : ∃ b, b = base2 := ⟨_, rfl⟩
      subst hbb
      go_upto_block 2 with fail
      have A1 := AN.out
      have p0 : 0 ≤ (a : Int) := by omega
      have q0 : (a : Int) < (n : Int) := by omega
      obtain ⟨e0, he⟩ : ∃ e, es[a]? = some e := ⟨_, List.getElem?_eq_getElem (by rw [ST.out.len]; omega)⟩
      have GE := Lib.hid he
      have TE : Hid (e0.t = rtT lk a a a) := by
        have h1 : (es.map (·.t))[a]? = some e0.t := by rw [List.getElem?_map, he]; rfl
        rw [EST.out, rtL_get A1] at h1
        exact (Option.some.inj h1).symm
      clear he
      obtain ⟨wi, hwi⟩ : ∃ wi : Int, wi = if rtTw n a h then 106 else 108 := ⟨_, rfl⟩
      have WI := Lib.hid hwi
      clear hwi
      have c68 := ST.out.box.txs HD2.out
      go_cut [13] from 71 to 126 (fun v13 wx => v13 = .int .i64 wi ∧ RtZ gc hd2 (rtL lk (rtYs n a h)) w8 wx)
      case first =>
        by_cases h0 : h = 0
        · have e0' : ((h : Int) == 0) = true := by rw [beq_iff_eq]; omega
          subst h0
          obtain ⟨gi, ci, go, co, b1, b2, b3, kv, hiv, hov, hcs, hb1, hb3, hgi, hgo⟩ := ST.out.parts GE.out (x := rtX lk a) (y := ⟨a, zH⟩) (by rw [TE.out]; rfl) (by rw [TE.out]; rfl)
          have CS := Lib.hid hcs
          have OVE := Lib.hid hov
          have GO := Lib.hid hgo
          have c2 : y2.cell? ⟨gq, a * 4 + 2, none⟩ = some (.slice (some ⟨go, 0, none⟩) 1 co) := by rw [ST.out.cell GE.out (by omega), ← hov]; rfl
          have WE : Hid (wi = 108) := by show _ = _; rw [WI.out]; rfl
          clear hiv hov hcs hb1 hb3 hgi hgo
          go_wp2_with ((with_reducible show wpList _ _ _ _ _ _); refine wpList_plain rfl fun _ hKk => wp_store_own 34 (.tmp 107) (.const (.int .u64 1000)) rfl go 0 b3 33 1 co 44 (outsL [⟨a, zH⟩]) (uV 1000) rfl rfl rfl (by kernel_rfl) (by have h := CS.out.outs.1; rw [OVE.out] at h; exact h) (by omega) ?_; intro wx q1 q2; have D := Lib.hid (And.intro q1 q2); clear q1 q2; refine hKk _ _ ?_; clear hKk; go_frame)
          go_meet
          case rel =>
            refine ⟨by rw [WE.out], ?_⟩
            have cs2 := CS.out.val (g := go) (s := 1000) (by rw [OVE.out]; rfl) (by omega) (by rw [OVE.out]; exact D.out.1) D.out.2
            have h := ST.out.swap GE.out (e' := ⟨rtT lk a a 1000, e0.iv, e0.ov, e0.lo, e0.hi⟩) (by show [nV a, e0.iv, e0.ov, nV 0] = [nV e0.t.ver, e0.iv, e0.ov, nV e0.t.time]; rw [TE.out]; rfl) (rtT_ok lk (by have := AN.out; have := BN.out; omega)) D.out.2 GO.out cs2.ins.at cs2.outs.at
            rw [EST.out] at h
            rw [rtYs_0 (by have := AN.out; omega)]
            exact h
        have e0' : ((h : Int) == 0) = false := by rw [beq_eq_false_iff_ne]; omega
        by_cases h1 : h = 1
        · have e1 : ((h : Int) == 1) = true := by rw [beq_iff_eq]; omega
          subst h1
          have WE : Hid (wi = 108) := by show _ = _; rw [WI.out]; rfl
          have an : (a : Int) ≤ (n : Int) := by omega
          have ac : (a : Int) ≤ (cap : Int) := by have := NC.out; omega
          go_wp2_with ((with_reducible show wpList _ _ _ _ _ _); refine st_bltxs (g := gc) (h := hd2) (tv := (.slice (some ⟨gq, 0, none⟩) n cap)) rfl (.tmp 114) (.tmp 113) rfl rfl (.slice (some ⟨gq, 0, none⟩) a cap) rfl rfl HD2.out ST.out.box ?_; intro wx q1 q2; have D := Lib.hid (And.intro q1 q2); clear q1 q2; go_frame)
          go_meet
          case rel =>
            refine ⟨by rw [WE.out], ?_⟩
            have h := ST.out.slim (a := a) (by have := AN.out; omega) D.out.2 D.out.1
            rw [EST.out] at h
            rw [rtYs_1 (by have := AN.out; omega)]
            exact h
        have e1 : ((h : Int) == 1) = false := by rw [beq_eq_false_iff_ne]; omega
        by_cases h2 : h = 2
        · have e2 : ((h : Int) == 2) = true := by rw [beq_iff_eq]; omega
          subst h2
          have WE : Hid (wi = 106) := by show _ = _; rw [WI.out]; rfl
          have EON : Hid (∀ u ∈ e0.cells, u.oneCell' = true) := pc_ones (ST.out.ok e0 (List.mem_of_getElem? GE.out)).2.2.2.2.now
          go_upto_region 28 with fail
          refine wp_region_held_drew (S := (fun w' => True)) (by kernel_rfl) (trivial) (fun hHeld => ?_)
          have ST := Lib.hid (ST.out.below (Below.drew (Below.refl _ _)))
          generalize hwd : y2.drew = wd at ST hHeld ⊢
          clear hwd
          refine held_take (i := 0) (v := (.pointer (some ⟨gc, 68, none⟩))) rfl (by kernel_rfl) (by kernel_rfl) (by kernel_rfl) (fun _ _ _ h => h) (Or.inl ⟨by rfl, fun w' _ => by kernel_rfl⟩) hHeld ?_
          go_frame
          refine held_take (i := 2) (v := (.pointer (some ⟨gc, 68, none⟩))) rfl (by kernel_rfl) (by kernel_rfl) (by kernel_rfl) (fun _ _ _ h => h) (Or.inl ⟨by rfl, fun w' _ => by kernel_rfl⟩) hHeld ?_
          go_frame
          refine held_take (i := 4) (v := (.int .i64 (a : Int))) rfl (by kernel_rfl) (by kernel_rfl) (by kernel_rfl) (fun _ _ _ h => h) (Or.inl ⟨by rfl, fun w' _ => by kernel_rfl⟩) hHeld ?_
          go_frame
          refine wpAnyH_ready (rs := [1, 3]) (by kernel_rfl) (by simp) (held_cons rfl (fun K hK => ?_) (held_cons rfl (fun K hK => ?_) AllReadyH.nil))
          · skip
            rw [if_pos (by rfl)]
            refine wp_load_cell 35 (.tmp 117) rfl gc 68 rfl (.slice (some ⟨gq, 0, none⟩) n cap) _ (ST.out.box.txs HD2.out) Tryd.underlying35 rfl ?_
            go_frame
            refine hK.out _ _ hHeld (fun hHeld => ?_)
            clear hK K
            refine wpAnyH_ready (rs := [3]) (by kernel_rfl) (by simp) (held_cons rfl (fun K hK => ?_) AllReadyH.nil)
            rw [if_pos (by rfl)]
            refine wp_load_cell 35 (.tmp 119) rfl gc 68 rfl (.slice (some ⟨gq, 0, none⟩) n cap) _ (ST.out.box.txs HD2.out) Tryd.underlying35 rfl ?_
            go_frame
            refine hK.out _ _ hHeld (fun hHeld => ?_)
            clear hK K
            refine held_take (i := 5) (v := (.pointer (some ⟨gq, a * 4, none⟩))) rfl (by kernel_rfl) (by kernel_rfl) (by kernel_rfl) (fun _ _ _ h => h) (Or.inl ⟨by rfl, fun w' _ => by go_simp⟩) hHeld ?_
            go_frame
            refine wpAnyH_ready (rs := [6]) (by kernel_rfl) (by simp) (held_cons rfl (fun K hK => ?_) AllReadyH.nil)
            rw [if_pos (by rfl)]
            refine wp_load_mid 32 (.tmp 122) rfl gq (a * 4) rfl e0.cells _ (fun j u hj => by have hj4 : j < 4 := (List.getElem?_eq_some_iff.1 hj).1; rw [ST.out.cell GE.out hj4]; exact hj) Tryd.underlying32 rfl (by kernel_rfl) ?_
            go_frame
            refine hK.out _ _ hHeld (fun hHeld => ?_)
            clear hK K
            refine wpAnyH_ready (rs := [7]) (by kernel_rfl) (by simp) (held_cons rfl (fun K hK => ?_) AllReadyH.nil)
            rw [if_pos (by rfl)]
            refine wp_slice_one 35 32 (.tmp 123) rfl e0.cells rfl Tryd.underlying35 i0 _ hi hz0 (by rw [hz1]; rfl) (by show 0 < 4; omega) (by show 4 ≤ _; omega) ?_
            have nf := heap_alloc_new wd (.cells (e0.cells).toArray 32 (0, 0))
            have bb := (Below.refl wd.heap.size wd).alloc (Nat.le_refl _) (.cells (e0.cells).toArray 32 (0, 0))
            obtain ⟨gv4, hgv4⟩ : ∃ g, g = wd.heap.size := ⟨_, rfl⟩
            generalize hqv4 : World.alloc _ _ = v4
            have ev4 : wd.alloc (.cells (e0.cells).toArray 32 (0, 0)) = v4 := hqv4
            rw [ev4] at nf bb
            rw [← hgv4] at nf ⊢
            have NF := Lib.hid nf
            have ST := Lib.hid (ST.out.below bb)
            have hv4 := trivial
            clear nf bb hqv4 ev4 hgv4 hHeld
            go_frame
            refine hK.out _ _ hv4 (fun hHeld => ?_)
            clear hK K hv4
            refine wpAnyH_ready (rs := [8]) (by kernel_rfl) (by simp) (held_cons rfl (fun K hK => ?_) AllReadyH.nil)
            rw [if_pos (by rfl)]
            have GCL : Hid (gc < v4.heap.size) := ST.out.box.lt
            refine wp_append_row v4 (.tmp 118) (.tmp 124) 35 rfl base 32 i0 (.agg [nV 0, .slice none 0 0, .slice none 0 0, nV 0].toArray) 4 64 Tryd.underlying35 hi hz0 hz1 hz2 (by kernel_rfl) (by decide) (.slice (some ⟨gq, 0, none⟩) n cap) n (esL es) rfl ST.out.own ⟨gv4, 0, none⟩ 1 1 e0.cells rfl rfl (fun j u hj => by rw [Addr.add_mid]; exact range_of_box NF.out j u hj) EON.out (by have := BN.out; unfold maxLen; omega) (by have := BN.out; omega) (by have := (Array.getElem?_eq_some_iff.1 NF.out).1; have h1 := ST.out.g0; have h2 := GCL.out; have h3 := (ST.out.own.lt gq rfl).2; omega) ?_
            intro vx6 v5 q1 q2 q3
            have MR := Lib.hid (ST.out.more GE.out q1 q2)
            have V6 : Hid (vx6.ownBlock ≠ some gc) := fun e => q3.elim (fun h => ST.out.ne (Option.some.inj (h.symm.trans e))) (fun h => by have := Option.some.inj (h.symm.trans e); have := GCL.out; omega)
            have VO := Lib.hid (own_one q1)
            clear q1 q2 q3
            go_frame
            refine hK.out _ _ trivial (fun hHeld => ?_)
            clear hK K
            refine held_take (i := 9) (v := (.pointer (some ⟨gc, 68, none⟩))) rfl (by kernel_rfl) (by kernel_rfl) (by kernel_rfl) (fun _ _ _ h => h) (Or.inl ⟨by rfl, fun w' _ => by kernel_rfl⟩) hHeld ?_
            go_frame
            refine wpAnyH_ready (rs := [10]) (by kernel_rfl) (by simp) (held_cons rfl (fun K hK => ?_) AllReadyH.nil)
            rw [if_pos (by rfl)]
            refine wp_store_part 35 (.tmp 126) (.tmp 125) rfl gc 68 (hdL hd2) [(.slice (some ⟨gq, 0, none⟩) n cap)] [] [vx6] 37 vx6 rfl rfl (cells_one VO.out) (hdL_length HD2.out) rfl (by rw [MR.out.2.1.row]; simp [blL]) (by kernel_rfl) (one_mem VO.out) ?_
            intro v6 q1 q2
            have BX : BlBox v6 gc hd2 vx6 := ⟨by rw [q1]; simp [blL]⟩
            have RZ : Hid (RtZ gc hd2 (rtL lk (rtYs n a 2)) w8 v6) := by
              have h := MR.out.2.2 v6 q2 V6.out BX
              rw [EST.out, TE.out] at h
              rw [rtYs_2]
              exact h
            clear q1 q2 BX
            go_frame
            refine hK.out _ _ trivial (fun hHeld => ?_)
            clear hK K
            refine wpAnyH_done (by kernel_rfl) ?_ _
            clear hHeld
            go_wp2_with fail
            go_meet
            case rel => exact ⟨by rw [WE.out], RZ.out⟩
          · skip
            rw [if_pos (by rfl)]
            refine wp_load_cell 35 (.tmp 119) rfl gc 68 rfl (.slice (some ⟨gq, 0, none⟩) n cap) _ (ST.out.box.txs HD2.out) Tryd.underlying35 rfl ?_
            go_frame
            refine hK.out _ _ hHeld (fun hHeld => ?_)
            clear hK K
            refine held_take (i := 5) (v := (.pointer (some ⟨gq, a * 4, none⟩))) rfl (by kernel_rfl) (by kernel_rfl) (by kernel_rfl) (fun _ _ _ h => h) (Or.inl ⟨by rfl, fun w' _ => by go_simp⟩) hHeld ?_
            go_frame
            refine wpAnyH_ready (rs := [1, 6]) (by kernel_rfl) (by simp) (held_cons rfl (fun K hK => ?_) (held_cons rfl (fun K hK => ?_) AllReadyH.nil))
            · skip
              rw [if_pos (by rfl)]
              refine wp_load_cell 35 (.tmp 117) rfl gc 68 rfl (.slice (some ⟨gq, 0, none⟩) n cap) _ (ST.out.box.txs HD2.out) Tryd.underlying35 rfl ?_
              go_frame
              refine hK.out _ _ hHeld (fun hHeld => ?_)
              clear hK K
              refine wpAnyH_ready (rs := [6]) (by kernel_rfl) (by simp) (held_cons rfl (fun K hK => ?_) AllReadyH.nil)
              rw [if_pos (by rfl)]
              refine wp_load_mid 32 (.tmp 122) rfl gq (a * 4) rfl e0.cells _ (fun j u hj => by have hj4 : j < 4 := (List.getElem?_eq_some_iff.1 hj).1; rw [ST.out.cell GE.out hj4]; exact hj) Tryd.underlying32 rfl (by kernel_rfl) ?_
              go_frame
              refine hK.out _ _ hHeld (fun hHeld => ?_)
              clear hK K
              refine wpAnyH_ready (rs := [7]) (by kernel_rfl) (by simp) (held_cons rfl (fun K hK => ?_) AllReadyH.nil)
              rw [if_pos (by rfl)]
              refine wp_slice_one 35 32 (.tmp 123) rfl e0.cells rfl Tryd.underlying35 i0 _ hi hz0 (by rw [hz1]; rfl) (by show 0 < 4; omega) (by show 4 ≤ _; omega) ?_
              have nf := heap_alloc_new wd (.cells (e0.cells).toArray 32 (0, 0))
              have bb := (Below.refl wd.heap.size wd).alloc (Nat.le_refl _) (.cells (e0.cells).toArray 32 (0, 0))
              obtain ⟨gv10, hgv10⟩ : ∃ g, g = wd.heap.size := ⟨_, rfl⟩
              generalize hqv10 : World.alloc _ _ = v10
              have ev10 : wd.alloc (.cells (e0.cells).toArray 32 (0, 0)) = v10 := hqv10
              rw [ev10] at nf bb
              rw [← hgv10] at nf ⊢
              have NF := Lib.hid nf
              have ST := Lib.hid (ST.out.below bb)
              have hv10 := trivial
              clear nf bb hqv10 ev10 hgv10 hHeld
              go_frame
              refine hK.out _ _ hv10 (fun hHeld => ?_)
              clear hK K hv10
              refine wpAnyH_ready (rs := [8]) (by kernel_rfl) (by simp) (held_cons rfl (fun K hK => ?_) AllReadyH.nil)
              rw [if_pos (by rfl)]
              have GCL : Hid (gc < v10.heap.size) := ST.out.box.lt
              refine wp_append_row v10 (.tmp 118) (.tmp 124) 35 rfl base 32 i0 (.agg [nV 0, .slice none 0 0, .slice none 0 0, nV 0].toArray) 4 64 Tryd.underlying35 hi hz0 hz1 hz2 (by kernel_rfl) (by decide) (.slice (some ⟨gq, 0, none⟩) n cap) n (esL es) rfl ST.out.own ⟨gv10, 0, none⟩ 1 1 e0.cells rfl rfl (fun j u hj => by rw [Addr.add_mid]; exact range_of_box NF.out j u hj) EON.out (by have := BN.out; unfold maxLen; omega) (by have := BN.out; omega) (by have := (Array.getElem?_eq_some_iff.1 NF.out).1; have h1 := ST.out.g0; have h2 := GCL.out; have h3 := (ST.out.own.lt gq rfl).2; omega) ?_
              intro vx6 v11 q1 q2 q3
              have MR := Lib.hid (ST.out.more GE.out q1 q2)
              have V6 : Hid (vx6.ownBlock ≠ some gc) := fun e => q3.elim (fun h => ST.out.ne (Option.some.inj (h.symm.trans e))) (fun h => by have := Option.some.inj (h.symm.trans e); have := GCL.out; omega)
              have VO := Lib.hid (own_one q1)
              clear q1 q2 q3
              go_frame
              refine hK.out _ _ trivial (fun hHeld => ?_)
              clear hK K
              refine held_take (i := 9) (v := (.pointer (some ⟨gc, 68, none⟩))) rfl (by kernel_rfl) (by kernel_rfl) (by kernel_rfl) (fun _ _ _ h => h) (Or.inl ⟨by rfl, fun w' _ => by kernel_rfl⟩) hHeld ?_
              go_frame
              refine wpAnyH_ready (rs := [10]) (by kernel_rfl) (by simp) (held_cons rfl (fun K hK => ?_) AllReadyH.nil)
              rw [if_pos (by rfl)]
              refine wp_store_part 35 (.tmp 126) (.tmp 125) rfl gc 68 (hdL hd2) [(.slice (some ⟨gq, 0, none⟩) n cap)] [] [vx6] 37 vx6 rfl rfl (cells_one VO.out) (hdL_length HD2.out) rfl (by rw [MR.out.2.1.row]; simp [blL]) (by kernel_rfl) (one_mem VO.out) ?_
              intro v12 q1 q2
              have BX : BlBox v12 gc hd2 vx6 := ⟨by rw [q1]; simp [blL]⟩
              have RZ : Hid (RtZ gc hd2 (rtL lk (rtYs n a 2)) w8 v12) := by
                have h := MR.out.2.2 v12 q2 V6.out BX
                rw [EST.out, TE.out] at h
                rw [rtYs_2]
                exact h
              clear q1 q2 BX
              go_frame
              refine hK.out _ _ trivial (fun hHeld => ?_)
              clear hK K
              refine wpAnyH_done (by kernel_rfl) ?_ _
              clear hHeld
              go_wp2_with fail
              go_meet
              case rel => exact ⟨by rw [WE.out], RZ.out⟩
            · skip
              rw [if_pos (by rfl)]
              refine wp_load_mid 32 (.tmp 122) rfl gq (a * 4) rfl e0.cells _ (fun j u hj => by have hj4 : j < 4 := (List.getElem?_eq_some_iff.1 hj).1; rw [ST.out.cell GE.out hj4]; exact hj) Tryd.underlying32 rfl (by kernel_rfl) ?_
              go_frame
              refine hK.out _ _ hHeld (fun hHeld => ?_)
              clear hK K
              refine wpAnyH_ready (rs := [1, 7]) (by kernel_rfl) (by simp) (held_cons rfl (fun K hK => ?_) (held_cons rfl (fun K hK => ?_) AllReadyH.nil))
              · skip
                rw [if_pos (by rfl)]
                refine wp_load_cell 35 (.tmp 117) rfl gc 68 rfl (.slice (some ⟨gq, 0, none⟩) n cap) _ (ST.out.box.txs HD2.out) Tryd.underlying35 rfl ?_
                go_frame
                refine hK.out _ _ hHeld (fun hHeld => ?_)
                clear hK K
                refine wpAnyH_ready (rs := [7]) (by kernel_rfl) (by simp) (held_cons rfl (fun K hK => ?_) AllReadyH.nil)
                rw [if_pos (by rfl)]
                refine wp_slice_one 35 32 (.tmp 123) rfl e0.cells rfl Tryd.underlying35 i0 _ hi hz0 (by rw [hz1]; rfl) (by show 0 < 4; omega) (by show 4 ≤ _; omega) ?_
                have nf := heap_alloc_new wd (.cells (e0.cells).toArray 32 (0, 0))
                have bb := (Below.refl wd.heap.size wd).alloc (Nat.le_refl _) (.cells (e0.cells).toArray 32 (0, 0))
                obtain ⟨gv15, hgv15⟩ : ∃ g, g = wd.heap.size := ⟨_, rfl⟩
                generalize hqv15 : World.alloc _ _ = v15
                have ev15 : wd.alloc (.cells (e0.cells).toArray 32 (0, 0)) = v15 := hqv15
                rw [ev15] at nf bb
                rw [← hgv15] at nf ⊢
                have NF := Lib.hid nf
                have ST := Lib.hid (ST.out.below bb)
                have hv15 := trivial
                clear nf bb hqv15 ev15 hgv15 hHeld
                go_frame
                refine hK.out _ _ hv15 (fun hHeld => ?_)
                clear hK K hv15
                refine wpAnyH_ready (rs := [8]) (by kernel_rfl) (by simp) (held_cons rfl (fun K hK => ?_) AllReadyH.nil)
                rw [if_pos (by rfl)]
                have GCL : Hid (gc < v15.heap.size) := ST.out.box.lt
                refine wp_append_row v15 (.tmp 118) (.tmp 124) 35 rfl base 32 i0 (.agg [nV 0, .slice none 0 0, .slice none 0 0, nV 0].toArray) 4 64 Tryd.underlying35 hi hz0 hz1 hz2 (by kernel_rfl) (by decide) (.slice (some ⟨gq, 0, none⟩) n cap) n (esL es) rfl ST.out.own ⟨gv15, 0, none⟩ 1 1 e0.cells rfl rfl (fun j u hj => by rw [Addr.add_mid]; exact range_of_box NF.out j u hj) EON.out (by have := BN.out; unfold maxLen; omega) (by have := BN.out; omega) (by have := (Array.getElem?_eq_some_iff.1 NF.out).1; have h1 := ST.out.g0; have h2 := GCL.out; have h3 := (ST.out.own.lt gq rfl).2; omega) ?_
                intro vx6 v16 q1 q2 q3
                have MR := Lib.hid (ST.out.more GE.out q1 q2)
                have V6 : Hid (vx6.ownBlock ≠ some gc) := fun e => q3.elim (fun h => ST.out.ne (Option.some.inj (h.symm.trans e))) (fun h => by have := Option.some.inj (h.symm.trans e); have := GCL.out; omega)
                have VO := Lib.hid (own_one q1)
                clear q1 q2 q3
                go_frame
                refine hK.out _ _ trivial (fun hHeld => ?_)
                clear hK K
                refine held_take (i := 9) (v := (.pointer (some ⟨gc, 68, none⟩))) rfl (by kernel_rfl) (by kernel_rfl) (by kernel_rfl) (fun _ _ _ h => h) (Or.inl ⟨by rfl, fun w' _ => by kernel_rfl⟩) hHeld ?_
                go_frame
                refine wpAnyH_ready (rs := [10]) (by kernel_rfl) (by simp) (held_cons rfl (fun K hK => ?_) AllReadyH.nil)
                rw [if_pos (by rfl)]
                refine wp_store_part 35 (.tmp 126) (.tmp 125) rfl gc 68 (hdL hd2) [(.slice (some ⟨gq, 0, none⟩) n cap)] [] [vx6] 37 vx6 rfl rfl (cells_one VO.out) (hdL_length HD2.out) rfl (by rw [MR.out.2.1.row]; simp [blL]) (by kernel_rfl) (one_mem VO.out) ?_
                intro v17 q1 q2
                have BX : BlBox v17 gc hd2 vx6 := ⟨by rw [q1]; simp [blL]⟩
                have RZ : Hid (RtZ gc hd2 (rtL lk (rtYs n a 2)) w8 v17) := by
                  have h := MR.out.2.2 v17 q2 V6.out BX
                  rw [EST.out, TE.out] at h
                  rw [rtYs_2]
                  exact h
                clear q1 q2 BX
                go_frame
                refine hK.out _ _ trivial (fun hHeld => ?_)
                clear hK K
                refine wpAnyH_done (by kernel_rfl) ?_ _
                clear hHeld
                go_wp2_with fail
                go_meet
                case rel => exact ⟨by rw [WE.out], RZ.out⟩
              · skip
                rw [if_pos (by rfl)]
                refine wp_slice_one 35 32 (.tmp 123) rfl e0.cells rfl Tryd.underlying35 i0 _ hi hz0 (by rw [hz1]; rfl) (by show 0 < 4; omega) (by show 4 ≤ _; omega) ?_
                have nf := heap_alloc_new wd (.cells (e0.cells).toArray 32 (0, 0))
                have bb := (Below.refl wd.heap.size wd).alloc (Nat.le_refl _) (.cells (e0.cells).toArray 32 (0, 0))
                obtain ⟨gv18, hgv18⟩ : ∃ g, g = wd.heap.size := ⟨_, rfl⟩
                generalize hqv18 : World.alloc _ _ = v18
                have ev18 : wd.alloc (.cells (e0.cells).toArray 32 (0, 0)) = v18 := hqv18
                rw [ev18] at nf bb
                rw [← hgv18] at nf ⊢
                have NF := Lib.hid nf
                have ST := Lib.hid (ST.out.below bb)
                have hv18 := trivial
                clear nf bb hqv18 ev18 hgv18 hHeld
                go_frame
                refine hK.out _ _ hv18 (fun hHeld => ?_)
                clear hK K hv18
                refine wpAnyH_ready (rs := [1]) (by kernel_rfl) (by simp) (held_cons rfl (fun K hK => ?_) AllReadyH.nil)
                rw [if_pos (by rfl)]
                refine wp_load_cell 35 (.tmp 117) rfl gc 68 rfl (.slice (some ⟨gq, 0, none⟩) n cap) _ (ST.out.box.txs HD2.out) Tryd.underlying35 rfl ?_
                go_frame
                refine hK.out _ _ hHeld (fun hHeld => ?_)
                clear hK K
                refine wpAnyH_ready (rs := [8]) (by kernel_rfl) (by simp) (held_cons rfl (fun K hK => ?_) AllReadyH.nil)
                rw [if_pos (by rfl)]
                have GCL : Hid (gc < v18.heap.size) := ST.out.box.lt
                refine wp_append_row v18 (.tmp 118) (.tmp 124) 35 rfl base 32 i0 (.agg [nV 0, .slice none 0 0, .slice none 0 0, nV 0].toArray) 4 64 Tryd.underlying35 hi hz0 hz1 hz2 (by kernel_rfl) (by decide) (.slice (some ⟨gq, 0, none⟩) n cap) n (esL es) rfl ST.out.own ⟨gv18, 0, none⟩ 1 1 e0.cells rfl rfl (fun j u hj => by rw [Addr.add_mid]; exact range_of_box NF.out j u hj) EON.out (by have := BN.out; unfold maxLen; omega) (by have := BN.out; omega) (by have := (Array.getElem?_eq_some_iff.1 NF.out).1; have h1 := ST.out.g0; have h2 := GCL.out; have h3 := (ST.out.own.lt gq rfl).2; omega) ?_
                intro vx6 v20 q1 q2 q3
                have MR := Lib.hid (ST.out.more GE.out q1 q2)
                have V6 : Hid (vx6.ownBlock ≠ some gc) := fun e => q3.elim (fun h => ST.out.ne (Option.some.inj (h.symm.trans e))) (fun h => by have := Option.some.inj (h.symm.trans e); have := GCL.out; omega)
                have VO := Lib.hid (own_one q1)
                clear q1 q2 q3
                go_frame
                refine hK.out _ _ trivial (fun hHeld => ?_)
                clear hK K
                refine held_take (i := 9) (v := (.pointer (some ⟨gc, 68, none⟩))) rfl (by kernel_rfl) (by kernel_rfl) (by kernel_rfl) (fun _ _ _ h => h) (Or.inl ⟨by rfl, fun w' _ => by kernel_rfl⟩) hHeld ?_
                go_frame
                refine wpAnyH_ready (rs := [10]) (by kernel_rfl) (by simp) (held_cons rfl (fun K hK => ?_) AllReadyH.nil)
                rw [if_pos (by rfl)]
                refine wp_store_part 35 (.tmp 126) (.tmp 125) rfl gc 68 (hdL hd2) [(.slice (some ⟨gq, 0, none⟩) n cap)] [] [vx6] 37 vx6 rfl rfl (cells_one VO.out) (hdL_length HD2.out) rfl (by rw [MR.out.2.1.row]; simp [blL]) (by kernel_rfl) (one_mem VO.out) ?_
                intro v21 q1 q2
                have BX : BlBox v21 gc hd2 vx6 := ⟨by rw [q1]; simp [blL]⟩
                have RZ : Hid (RtZ gc hd2 (rtL lk (rtYs n a 2)) w8 v21) := by
                  have h := MR.out.2.2 v21 q2 V6.out BX
                  rw [EST.out, TE.out] at h
                  rw [rtYs_2]
                  exact h
                clear q1 q2 BX
                go_frame
                refine hK.out _ _ trivial (fun hHeld => ?_)
                clear hK K
                refine wpAnyH_done (by kernel_rfl) ?_ _
                clear hHeld
                go_wp2_with fail
                go_meet
                case rel => exact ⟨by rw [WE.out], RZ.out⟩
        have e2 : ((h : Int) == 2) = false := by rw [beq_eq_false_iff_ne]; omega
        obtain rfl : h = 3 := by have := HH.out; omega
        obtain ⟨gi, ci, go, co, b1, b2, b3, kv, hiv, hov, hcs, hb1, hb3, hgi, hgo⟩ := ST.out.parts GE.out (x := rtX lk a) (y := ⟨a, zH⟩) (by rw [TE.out]; rfl) (by rw [TE.out]; rfl)
        obtain ⟨x, hx⟩ : ∃ x, x = rtX lk a := ⟨_, rfl⟩
        rw [← hx] at hcs
        have CS := Lib.hid hcs
        have IVE := Lib.hid hiv
        have GI := Lib.hid hgi
        have GQ := Lib.hid (And.intro hb1 hb3)
        obtain ⟨z, hz⟩ : ∃ z, z = a % (n - 1) := ⟨_, rfl⟩
        obtain ⟨z1, hz1'⟩ : ∃ z1, z1 = z + 1 := ⟨_, rfl⟩
        have zlt : z < n - 1 := by rw [hz]; exact Nat.mod_lt _ (by omega)
        have ZB : Hid (z1 ≤ 4294967295) := by show _ ≤ _; have := BN.out; omega
        have ZE : Hid (a % (n - 1) + 1 = z1) := by show _ = _; rw [hz1', hz]
        have XE : Hid ((⟨x.h, z1, x.key, x.seq⟩ : TIn) = rtX lk z1) := by show _ = _; rw [hx]; rfl
        have YE : Hid ((⟨a, zH⟩ : TOut) = ⟨a, zH⟩) := rfl
        obtain ⟨q, hq⟩ : ∃ q, q = n - 1 := ⟨_, rfl⟩
        have wq : IntKind.i64.wrap ((n : Int) - 1) = (q : Int) := by have := BN.out; rw [i64_stays (by omega)]; omega
        have qn : ((q : Int) == 0) = false := by rw [beq_eq_false_iff_ne]; omega
        have qn0 : ¬ q = 0 := by omega
        have qn1 : ¬ (q : Int) = 0 := by omega
        have wz : Int.tmod (a : Int) (q : Int) = (z : Int) := by rw [hz, hq, ← Int.ofNat_tmod]
        have wz1 : IntKind.i64.wrap ((z : Int) + 1) = (z1 : Int) := by have := BN.out; rw [i64_stays (by omega)]; omega
        have wz2 : IntKind.u32.wrap (z1 : Int) = (z1 : Int) := by have := ZB.out; rw [IntWalk.u32_in]; omega
        have c19 : y2.drew.cell? ⟨gq, a * 4 + 1, none⟩ = some (.slice (some ⟨gi, 0, none⟩) 1 ci) := by rw [(ST.out.below (Below.drew (Below.refl _ _))).cell GE.out (by omega), ← hiv]; rfl
        clear hiv hov hcs hb1 hb3 hgi hgo hx hz hz1' hq zlt
        go_upto_region 19 with fail
        refine wp_region_held_drew (S := (fun w' => BlBox w' gc hd2 (.slice (some ⟨gq, 0, none⟩) n cap) ∧ w'.cell? ⟨gq, a * 4 + 1, none⟩ = some (.slice (some ⟨gi, 0, none⟩) 1 ci))) (by kernel_rfl) (⟨ST.out.box.below (Below.drew (Below.refl _ _)), c19⟩) (fun hHeld => ?_)
        have ST := Lib.hid (ST.out.below (Below.drew (Below.refl _ _)))
        have CS := Lib.hid (CS.out.keep (Below.drew (Below.refl _ _)))
        generalize hwd : y2.drew = wd at ST CS hHeld ⊢
        clear hwd
        refine held_take (i := 0) (v := (.pointer (some ⟨gc, 68, none⟩))) rfl (by kernel_rfl) (by kernel_rfl) (by kernel_rfl) (fun _ _ _ h => h) (Or.inl ⟨by rfl, fun w' _ => by kernel_rfl⟩) hHeld ?_
        go_frame
        refine held_take (i := 1) (v := (.slice (some ⟨gq, 0, none⟩) n cap)) rfl (by kernel_rfl) (by kernel_rfl) (by kernel_rfl) (fun _ _ _ h => h) (yieldsIf_load_one (by rfl) 35 (.tmp 71) rfl gc (68) rfl _ _ (fun w' hw' => hw'.1.txs HD2.out) Tryd.underlying35 rfl) hHeld ?_
        go_frame
        refine held_take (i := 2) (v := (.int .i64 (a : Int))) rfl (by kernel_rfl) (by kernel_rfl) (by kernel_rfl) (fun _ _ _ h => h) (Or.inl ⟨by rfl, fun w' _ => by kernel_rfl⟩) hHeld ?_
        go_frame
        refine held_take (i := 3) (v := (.pointer (some ⟨gq, a * 4, none⟩))) rfl (by kernel_rfl) (by kernel_rfl) (by kernel_rfl) (fun _ _ _ h => h) (Or.inl ⟨by rfl, fun w' _ => by go_simp⟩) hHeld ?_
        go_frame
        refine held_take (i := 4) (v := (.pointer (some ⟨gq, a * 4 + 1, none⟩))) rfl (by kernel_rfl) (by kernel_rfl) (by kernel_rfl) (fun _ _ _ h => h) (Or.inl ⟨by rfl, fun w' _ => by kernel_rfl⟩) hHeld ?_
        go_frame
        refine held_take (i := 5) (v := (.slice (some ⟨gi, 0, none⟩) 1 ci)) rfl (by kernel_rfl) (by kernel_rfl) (by kernel_rfl) (fun _ _ _ h => h) (yieldsIf_load_one (by rfl) 29 (.tmp 75) rfl gq (a * 4 + 1) rfl _ _ (fun w' hw' => hw'.2) Tryd.underlying29 rfl) hHeld ?_
        go_frame
        refine held_take (i := 6) (v := (.int .i64 (a : Int))) rfl (by kernel_rfl) (by kernel_rfl) (by kernel_rfl) (fun _ _ _ h => h) (Or.inl ⟨by rfl, fun w' _ => by kernel_rfl⟩) hHeld ?_
        go_frame
        refine held_take (i := 7) (v := (.int .i64 (n : Int))) rfl (by kernel_rfl) (by kernel_rfl) (by kernel_rfl) (fun _ _ _ h => h) (Or.inl ⟨by rfl, fun w' _ => by kernel_rfl⟩) hHeld ?_
        go_frame
        refine held_take (i := 8) (v := (.int .i64 (q : Int))) rfl (by kernel_rfl) (by kernel_rfl) (by kernel_rfl) (fun _ _ _ h => h) (Or.inl ⟨by rfl, fun w' _ => by go_simp⟩) hHeld ?_
        go_frame
        refine held_take (i := 9) (v := (.int .i64 (z : Int))) rfl (by kernel_rfl) (by kernel_rfl) (by kernel_rfl) (fun _ _ _ h => h) (Or.inl ⟨by rfl, fun w' _ => by go_simp⟩) hHeld ?_
        go_frame
        refine held_take (i := 10) (v := (.int .i64 (z1 : Int))) rfl (by kernel_rfl) (by kernel_rfl) (by kernel_rfl) (fun _ _ _ h => h) (Or.inl ⟨by rfl, fun w' _ => by go_simp⟩) hHeld ?_
        go_frame
        refine held_take (i := 11) (v := (.int .u32 (z1 : Int))) rfl (by kernel_rfl) (by kernel_rfl) (by kernel_rfl) (fun _ _ _ h => h) (Or.inl ⟨by rfl, fun w' _ => by go_simp⟩) hHeld ?_
        go_frame
        refine held_take (i := 12) (v := (.pointer (some ⟨gi, 0, none⟩))) rfl (by kernel_rfl) (by kernel_rfl) (by kernel_rfl) (fun _ _ _ h => h) (Or.inl ⟨by rfl, fun w' _ => by go_simp⟩) hHeld ?_
        go_frame
        refine held_take (i := 13) (v := (.pointer (some ⟨gi, 0, none⟩))) rfl (by kernel_rfl) (by kernel_rfl) (by kernel_rfl) (fun _ _ _ h => h) (Or.inl ⟨by rfl, fun w' _ => by kernel_rfl⟩) hHeld ?_
        go_frame
        refine held_take (i := 14) (v := (.pointer (some ⟨gi, 32, none⟩))) rfl (by kernel_rfl) (by kernel_rfl) (by kernel_rfl) (fun _ _ _ h => h) (Or.inl ⟨by rfl, fun w' _ => by kernel_rfl⟩) hHeld ?_
        go_frame
        refine wpAnyH_ready (rs := [15]) (by kernel_rfl) (by simp) (held_cons rfl (fun K hK => ?_) AllReadyH.nil)
        rw [if_pos (by rfl)]
        refine wp_store_own 26 (.tmp 85) (.tmp 82) rfl gi 32 b1 35 1 ci 42 (insL [x] [kv]) (nV z1) rfl rfl rfl (by kernel_rfl) (by have h := CS.out.ins.2.1; rw [IVE.out] at h; exact h) (by omega) ?_
        intro v1 q1 q2
        have MD := Lib.hid (ST.out.mid GE.out q2 GI.out)
        have CS2 := Lib.hid (CS.out.num (g := gi) (s := z1) (by rw [IVE.out]; rfl) ZB.out (by rw [IVE.out]; exact q1) q2)
        have GR := Lib.hid q2
        have hv1 : BlBox v1 gc hd2 (.slice (some ⟨gq, 0, none⟩) n cap) ∧ v1.cell? ⟨gq, a * 4 + 1, none⟩ = some (.slice (some ⟨gi, 0, none⟩) 1 ci) := ⟨MD.out.2.1, by rw [MD.out.2.2.1.cellAt (a * 4 + 1) (by have := AN.out; omega), esL_get es a e0 GE.out 1 (by omega), ← IVE.out]; rfl⟩
        clear q1 q2 hHeld
        go_frame
        refine hK.out _ _ hv1 (fun hHeld => ?_)
        clear hK K hv1
        refine wpAnyH_done (by kernel_rfl) ?_ _
        clear hHeld
        have c68 := MD.out.2.1.txs HD2.out
        go_upto_region 21 with ((with_reducible show wpList _ _ _ _ _ _); refine wpList_plain rfl fun _ hKk => wp_store_own 26 (.tmp 90) (.const (.int .u32 77)) rfl gq (a * 4 + 0) base 4 n cap 32 (esL es) (nV 77) rfl rfl rfl (by kernel_rfl) MD.out.2.2.1 (by have := AN.out; omega) ?_; intro wy q1 q2; have D := Lib.hid (And.intro q1 q2); clear q1 q2; refine hKk _ _ ?_; clear hKk; go_frame)
        have RZ : Hid (RtZ gc hd2 (rtL lk (rtYs n a 3)) w8 wy) := by
          have hs := esL_set es a 0 e0 ⟨rtT lk 77 z1 a, e0.iv, e0.ov, e0.lo, e0.hi⟩ (nV 77) GE.out (by omega) (by show [nV 77, e0.iv, e0.ov, nV 0] = ([nV e0.t.ver, e0.iv, e0.ov, nV e0.t.time] : List Value).set 0 (nV 77); rw [TE.out]; rfl)
          have own := D.out.1
          rw [hs] at own
          have i2 := CS2.out.ins.other D.out.2 GQ.out.1
          have o2 := CS2.out.outs.other D.out.2 GQ.out.2
          have h := ST.out.swap2 GE.out (e' := ⟨rtT lk 77 z1 a, e0.iv, e0.ov, e0.lo, e0.hi⟩) (rtT_ok lk (by omega)) GR.out GI.out own D.out.2 (by have h := i2.at; rw [XE.out] at h; exact h) (by have h := o2.at; rw [YE.out] at h; exact h)
          rw [EST.out] at h
          rw [rtYs_3 (by have := AN.out; omega), show a % (n - 1) + 1 = z1 from ZE.out]
          exact h
        clear c68 D MD CS2 GR CS ST
        by_cases hza : z1 = a
        · have h1 : ((z1 : Int) == (a : Int)) = true := by rw [beq_iff_eq]; omega
          have h2 : ((z1 : Int) != (a : Int)) = false := by simp [hza]
          have WE : Hid (wi = 108) := by show _ = _; rw [WI.out]; unfold rtTw; rw [ZE.out, hza]; simp
          rw [hza] at wz1
          go_wp2_with fail
          go_meet
          case rel => exact ⟨by rw [WE.out], RZ.out⟩
        · have h1 : ((z1 : Int) == (a : Int)) = false := by rw [beq_eq_false_iff_ne]; omega
          have h2 : ((z1 : Int) != (a : Int)) = true := by rw [bne_iff_ne]; omega
          have WE : Hid (wi = 106) := by show _ = _; rw [WI.out]; unfold rtTw; rw [ZE.out]; simp [hza]
          go_wp2_with fail
          go_meet
          case rel => exact ⟨by rw [WE.out], RZ.out⟩
      case rest =>
        obtain ⟨rfl, hz⟩ := hcut
        rename World => ya
        obtain ⟨hb, vz, hbx, htx⟩ := hz
        have NUM : Hid (twiceN (numsB (rtYs n a h)) = rtTw n a h ∧ TriOk (rtYs n a h)) := rt_nums (by have := BN.out; omega) AN.out HH.out
        obtain ⟨ts2, hts2⟩ : ∃ ts, ts = rtL lk (rtYs n a h) := ⟨_, rfl⟩
        rw [← hts2] at htx
        obtain ⟨cc, hcc⟩ : ∃ cc, cc = blL hd2 vz := ⟨_, rfl⟩
        have LCC : Hid (cc.toArray.size = 69) := by show _ = _; rw [hcc]; exact blL_size HD2.out _
        have FC : Hid (ya.heap[gc]? = some (.cells cc.toArray 37 (0, 0))) := by show _ = _; rw [hcc]; exact hbx.row
        have HC : Hid (BlkAt ya (.agg cc.toArray) ⟨hd2, ts2⟩) := ⟨HD2.out, vz, by rw [hcc], htx⟩
        have SM2 : Hid (BlkSmall ⟨hd2, ts2⟩) := by show BlkSmall _; rw [hts2]; exact rtL_small LK.out NUM.out.2 hd2
        have ROW2 : Hid (rowR ts2 = if rtTw n a h = true then (6, none) else (0, none)) := by show _ = _; rw [hts2, rtL_row LK.out NUM.out.2, NUM.out.1]
        obtain ⟨rc, hrc⟩ : ∃ rc, rc = blRoot ⟨hd2, ts2⟩ := ⟨_, rfl⟩
        have LRC : Hid (rc.length = 32) := by show _ = _; rw [hrc]; exact blRoot_length _
        have BB : Hid (Below w1.heap.size w1 ya) := B8.out.trans (hb.mono B8.out.size)
        have HB : Hid (BlkAt ya (.agg cs.toArray) ⟨hd2, ts⟩) := HB8.out.below hb
        have FB : Hid (ya.heap[g8]? = some (.cells cs.toArray 37 (0, 0))) := row_below FB8.out hb
        have RC : Hid (∀ W, BlkAt W (.agg cc.toArray) ⟨hd2, ts2⟩ → Below w1.heap.size w1 W → Calls Tryd.prog 7 #[.agg cc.toArray] W fun e w' => e = .returned (.agg (rc.map bV).toArray) ∧ Below W.heap.size W w') := fun W h hbw => by rw [hrc]; exact blroot_any _ _ W h SM2.out (HK.out.below (B1.out.trans (hbw.mono B1.out.size)))
        have RB : Hid (∀ W, BlkAt W (.agg cs.toArray) ⟨hd2, ts⟩ → Below w1.heap.size w1 W → Calls Tryd.prog 7 #[.agg cs.toArray] W fun e w' => e = .returned (.agg (r.map bV).toArray) ∧ Below W.heap.size W w') := fun W h hbw => by rw [HR.out]; exact blroot_any ⟨hd2, ts⟩ _ W h (SM.out _) (HK.out.below (B1.out.trans (hbw.mono B1.out.size)))
        obtain ⟨sq, hsq⟩ : ∃ sq, sq = decide (rc = r) := ⟨_, rfl⟩
        have SQ := Lib.hid hsq
        have RX2 : Hid (blkR ⟨hd2, ts2⟩ = if rtTw n a h = true then (6, none) else if sq = true then (0, none) else (8, none)) := by
          show _ = _
          have hw : workB hd2.work = false := HW2.out
          cases ht : rtTw n a h with
          | true =>
            rw [if_pos rfl]
            exact blkR_row6 HD2.out hw (by rw [ROW2.out, ht]; rfl)
          | false =>
            rw [if_neg (by simp), blkR_row0 HD2.out hw (by rw [ROW2.out, ht]; rfl), ← hrc, HDR.out, hsq]
            by_cases he : rc = r
            · rw [if_pos he, if_pos (by rw [decide_eq_true he])]
            · rw [if_neg he, if_neg (by rw [decide_eq_false he]; simp)]
        clear hb hbx htx hts2 hcc hrc hsq ST EST
        go_wp2_with ((with_reducible show wpList _ _ _ _ _ _); (refine wpList_load_row rfl 37 (.tmp 12) rfl gc rfl 37 cc.toArray (0, 0) _ FC.out Tryd.underlying37 rfl (by rw [LCC.out]; kernel_rfl) ?_; go_frame))
        refine (blcheck_any E ⟨hd2, ts2⟩ _ ya HC.out SM2.out (HK.out.below (B1.out.trans (BB.out.mono B1.out.size))) (HE.out.below (B1.out.trans (BB.out.mono B1.out.size))).eB).mono ?_
        rintro e wb ⟨u, rfl, hf, bb⟩
        rw [RX2.out] at hf
        have HC := Lib.hid (HC.out.below bb)
        have HB := Lib.hid (HB.out.below bb)
        have FC := Lib.hid (row_below FC.out bb)
        have FB := Lib.hid (row_below FB.out bb)
        have BB := Lib.hid (BB.out.trans (bb.mono BB.out.size))
        clear bb
        go_upto_region 31 with fail
        cases ht : rtTw n a h with
        | true =>
          rw [ht, if_pos rfl] at hf
          obtain rfl := fltv_nil hf
          obtain rfl : wi = 106 := by rw [WI.out, ht]; rfl
          clear hf ht WI
          refine wp_region_held_drew (S := (fun w' => w'.heap[gc]? = some (.cells cc.toArray 37 (0, 0)) ∧ w'.heap[g8]? = some (.cells cs.toArray 37 (0, 0)))) (by kernel_rfl) (⟨row_below FC.out (Below.drew (Below.refl _ _)), row_below FB.out (Below.drew (Below.refl _ _))⟩) (fun hHeld => ?_)
          have HC := Lib.hid (HC.out.below (Below.drew (Below.refl _ _)))
          have HB := Lib.hid (HB.out.below (Below.drew (Below.refl _ _)))
          have BB := Lib.hid (BB.out.trans ((Below.drew (Below.refl _ _)).mono BB.out.size))
          generalize hwd : wb.drew = wd at HC HB BB hHeld ⊢
          clear hwd
          refine held_take (i := 0) (v := (.agg cc.toArray)) rfl (by kernel_rfl) (by kernel_rfl) (by kernel_rfl) (fun _ _ _ h => h) (yieldsIf_load_row (by rfl) 37 (.tmp 12) rfl gc rfl 37 cc.toArray (0, 0) _ (fun w' hw' => hw'.1) Tryd.underlying37 rfl (by rw [LCC.out]; kernel_rfl)) hHeld ?_
          go_frame
          refine held_take (i := 2) (v := (.agg cs.toArray)) rfl (by kernel_rfl) (by kernel_rfl) (by kernel_rfl) (fun _ _ _ h => h) (yieldsIf_load_row (by rfl) 37 (.tmp 10) rfl g8 rfl 37 cs.toArray (0, 0) _ (fun w' hw' => hw'.2) Tryd.underlying37 rfl (by rw [LCS.out]; kernel_rfl)) hHeld ?_
          go_frame
          refine wpAnyH_ready (rs := [1]) (by kernel_rfl) (by simp) (held_cons rfl (fun K hK => ?_) AllReadyH.nil)
          go_simp
          refine (RC.out _ HC.out BB.out).mono ?_
          rintro e v1 ⟨rfl, bb⟩
          have HC := Lib.hid (HC.out.below bb)
          have HB := Lib.hid (HB.out.below bb)
          have BB := Lib.hid (BB.out.trans (bb.mono BB.out.size))
          have hv1 := (show _ ∧ _ from ⟨row_below hHeld.1 bb, row_below hHeld.2 bb⟩)
          clear bb hHeld
          go_wp2_with fail
          refine hK.out _ _ hv1 (fun hHeld => ?_)
          clear hK K hv1
          refine wpAnyH_ready (rs := [3]) (by kernel_rfl) (by simp) (held_cons rfl (fun K hK => ?_) AllReadyH.nil)
          go_simp
          refine (RB.out _ HB.out BB.out).mono ?_
          rintro e v2 ⟨rfl, bb⟩
          have HC := Lib.hid (HC.out.below bb)
          have HB := Lib.hid (HB.out.below bb)
          have BB := Lib.hid (BB.out.trans (bb.mono BB.out.size))
          have hv2 := (show _ ∧ _ from ⟨row_below hHeld.1 bb, row_below hHeld.2 bb⟩)
          clear bb hHeld
          go_wp2_with fail
          refine hK.out _ _ hv2 (fun hHeld => ?_)
          clear hK K hv2
          refine wpAnyH_ready (rs := [4]) (by kernel_rfl) (by simp) (held_cons rfl (fun K hK => ?_) AllReadyH.nil)
          go_simp
          refine (same_v rc r sq LRC.out LR.out SQ.out _).mono ?_
          rintro e v3 ⟨rfl, bb⟩
          have HC := Lib.hid (HC.out.below bb)
          have HB := Lib.hid (HB.out.below bb)
          have BB := Lib.hid (BB.out.trans (bb.mono BB.out.size))
          have hv3 := (show _ ∧ _ from ⟨row_below hHeld.1 bb, row_below hHeld.2 bb⟩)
          clear bb hHeld
          go_wp2_with fail
          refine hK.out _ _ hv3 (fun hHeld => ?_)
          clear hK K hv3
          refine held_take (i := 5) (v := (.bool sq)) rfl (by kernel_rfl) (by kernel_rfl) (by kernel_rfl) (fun _ _ _ h => h) (Or.inl ⟨by rfl, fun w' _ => by kernel_rfl⟩) hHeld ?_
          go_frame
          refine wpAnyH_done (by kernel_rfl) ?_ _
          have FB2 := Lib.hid hHeld.2
          clear hHeld FB FC
          go_wp2_with fail
          refine (is_any E 6 106 true rfl _ (HE.out.below (B1.out.trans (BB.out.mono B1.out.size))) (by omega)).mono ?_
          rintro e zz ⟨rfl, bb⟩
          have HB := Lib.hid (HB.out.below bb)
          have FB2 := Lib.hid (row_below FB2.out bb)
          have BB := Lib.hid (BB.out.trans (bb.mono BB.out.size))
          clear bb
          go_wp2_with ((with_reducible show wpList _ _ _ _ _ _); (refine wpList_load_rowG 37 (.tmp 10) rfl g8 rfl 37 cs.toArray (0, 0) _ FB2.out Tryd.underlying37 rfl (by rw [LCS.out]; kernel_rfl) rfl ?_; go_frame))
          refine (CB.out _ _ HB.out BB.out).mono ?_
          rintro e zy ⟨rfl, bb⟩
          have BB := Lib.hid (BB.out.trans (bb.mono BB.out.size))
          clear bb
          go_wp2_with fail
          go_ret
          exact ⟨rfl, B1.out.trans (BB.out.mono B1.out.size)⟩
        | false =>
          rw [ht, if_neg (by simp)] at hf
          obtain rfl : wi = 108 := by rw [WI.out, ht]; rfl
          cases sq with
          | true =>
            rw [if_pos rfl] at hf
            obtain rfl := fltv_nil hf
            clear hf ht WI
            refine wp_region_held_drew (S := (fun w' => w'.heap[gc]? = some (.cells cc.toArray 37 (0, 0)) ∧ w'.heap[g8]? = some (.cells cs.toArray 37 (0, 0)))) (by kernel_rfl) (⟨row_below FC.out (Below.drew (Below.refl _ _)), row_below FB.out (Below.drew (Below.refl _ _))⟩) (fun hHeld => ?_)
            have HC := Lib.hid (HC.out.below (Below.drew (Below.refl _ _)))
            have HB := Lib.hid (HB.out.below (Below.drew (Below.refl _ _)))
            have BB := Lib.hid (BB.out.trans ((Below.drew (Below.refl _ _)).mono BB.out.size))
            generalize hwd : wb.drew = wd at HC HB BB hHeld ⊢
            clear hwd
            refine held_take (i := 0) (v := (.agg cc.toArray)) rfl (by kernel_rfl) (by kernel_rfl) (by kernel_rfl) (fun _ _ _ h => h) (yieldsIf_load_row (by rfl) 37 (.tmp 12) rfl gc rfl 37 cc.toArray (0, 0) _ (fun w' hw' => hw'.1) Tryd.underlying37 rfl (by rw [LCC.out]; kernel_rfl)) hHeld ?_
            go_frame
            refine held_take (i := 2) (v := (.agg cs.toArray)) rfl (by kernel_rfl) (by kernel_rfl) (by kernel_rfl) (fun _ _ _ h => h) (yieldsIf_load_row (by rfl) 37 (.tmp 10) rfl g8 rfl 37 cs.toArray (0, 0) _ (fun w' hw' => hw'.2) Tryd.underlying37 rfl (by rw [LCS.out]; kernel_rfl)) hHeld ?_
            go_frame
            refine wpAnyH_ready (rs := [1]) (by kernel_rfl) (by simp) (held_cons rfl (fun K hK => ?_) AllReadyH.nil)
            go_simp
            refine (RC.out _ HC.out BB.out).mono ?_
            rintro e v1 ⟨rfl, bb⟩
            have HC := Lib.hid (HC.out.below bb)
            have HB := Lib.hid (HB.out.below bb)
            have BB := Lib.hid (BB.out.trans (bb.mono BB.out.size))
            have hv1 := (show _ ∧ _ from ⟨row_below hHeld.1 bb, row_below hHeld.2 bb⟩)
            clear bb hHeld
            go_wp2_with fail
            refine hK.out _ _ hv1 (fun hHeld => ?_)
            clear hK K hv1
            refine wpAnyH_ready (rs := [3]) (by kernel_rfl) (by simp) (held_cons rfl (fun K hK => ?_) AllReadyH.nil)
            go_simp
            refine (RB.out _ HB.out BB.out).mono ?_
            rintro e v2 ⟨rfl, bb⟩
            have HC := Lib.hid (HC.out.below bb)
            have HB := Lib.hid (HB.out.below bb)
            have BB := Lib.hid (BB.out.trans (bb.mono BB.out.size))
            have hv2 := (show _ ∧ _ from ⟨row_below hHeld.1 bb, row_below hHeld.2 bb⟩)
            clear bb hHeld
            go_wp2_with fail
            refine hK.out _ _ hv2 (fun hHeld => ?_)
            clear hK K hv2
            refine wpAnyH_ready (rs := [4]) (by kernel_rfl) (by simp) (held_cons rfl (fun K hK => ?_) AllReadyH.nil)
            go_simp
            refine (same_v rc r true LRC.out LR.out SQ.out _).mono ?_
            rintro e v3 ⟨rfl, bb⟩
            have HC := Lib.hid (HC.out.below bb)
            have HB := Lib.hid (HB.out.below bb)
            have BB := Lib.hid (BB.out.trans (bb.mono BB.out.size))
            have hv3 := (show _ ∧ _ from ⟨row_below hHeld.1 bb, row_below hHeld.2 bb⟩)
            clear bb hHeld
            go_wp2_with fail
            refine hK.out _ _ hv3 (fun hHeld => ?_)
            clear hK K hv3
            refine held_take (i := 5) (v := (.bool true)) rfl (by kernel_rfl) (by kernel_rfl) (by kernel_rfl) (fun _ _ _ h => h) (Or.inl ⟨by rfl, fun w' _ => by kernel_rfl⟩) hHeld ?_
            go_frame
            refine wpAnyH_done (by kernel_rfl) ?_ _
            have FB2 := Lib.hid hHeld.2
            clear hHeld FB FC
            rw [show errV E 0 = Value.nilIface from rfl]
            go_wp2_with fail
            refine (is_any E 0 108 false rfl _ (HE.out.below (B1.out.trans (BB.out.mono B1.out.size))) (by omega)).mono ?_
            rintro e zz ⟨rfl, bb⟩
            have HB := Lib.hid (HB.out.below bb)
            have FB2 := Lib.hid (row_below FB2.out bb)
            have BB := Lib.hid (BB.out.trans (bb.mono BB.out.size))
            clear bb
            go_wp2_with ((with_reducible show wpList _ _ _ _ _ _); (refine wpList_load_rowG 37 (.tmp 10) rfl g8 rfl 37 cs.toArray (0, 0) _ FB2.out Tryd.underlying37 rfl (by rw [LCS.out]; kernel_rfl) rfl ?_; go_frame))
            refine (CB.out _ _ HB.out BB.out).mono ?_
            rintro e zy ⟨rfl, bb⟩
            have BB := Lib.hid (BB.out.trans (bb.mono BB.out.size))
            clear bb
            go_wp2_with fail
            go_ret
            exact ⟨rfl, B1.out.trans (BB.out.mono B1.out.size)⟩
          | false =>
            rw [if_neg (by simp)] at hf
            obtain rfl := fltv_nil hf
            clear hf ht WI
            refine wp_region_held_drew (S := (fun w' => w'.heap[gc]? = some (.cells cc.toArray 37 (0, 0)) ∧ w'.heap[g8]? = some (.cells cs.toArray 37 (0, 0)))) (by kernel_rfl) (⟨row_below FC.out (Below.drew (Below.refl _ _)), row_below FB.out (Below.drew (Below.refl _ _))⟩) (fun hHeld => ?_)
            have HC := Lib.hid (HC.out.below (Below.drew (Below.refl _ _)))
            have HB := Lib.hid (HB.out.below (Below.drew (Below.refl _ _)))
            have BB := Lib.hid (BB.out.trans ((Below.drew (Below.refl _ _)).mono BB.out.size))
            generalize hwd : wb.drew = wd at HC HB BB hHeld ⊢
            clear hwd
            refine held_take (i := 0) (v := (.agg cc.toArray)) rfl (by kernel_rfl) (by kernel_rfl) (by kernel_rfl) (fun _ _ _ h => h) (yieldsIf_load_row (by rfl) 37 (.tmp 12) rfl gc rfl 37 cc.toArray (0, 0) _ (fun w' hw' => hw'.1) Tryd.underlying37 rfl (by rw [LCC.out]; kernel_rfl)) hHeld ?_
            go_frame
            refine held_take (i := 2) (v := (.agg cs.toArray)) rfl (by kernel_rfl) (by kernel_rfl) (by kernel_rfl) (fun _ _ _ h => h) (yieldsIf_load_row (by rfl) 37 (.tmp 10) rfl g8 rfl 37 cs.toArray (0, 0) _ (fun w' hw' => hw'.2) Tryd.underlying37 rfl (by rw [LCS.out]; kernel_rfl)) hHeld ?_
            go_frame
            refine wpAnyH_ready (rs := [1]) (by kernel_rfl) (by simp) (held_cons rfl (fun K hK => ?_) AllReadyH.nil)
            go_simp
            refine (RC.out _ HC.out BB.out).mono ?_
            rintro e v1 ⟨rfl, bb⟩
            have HC := Lib.hid (HC.out.below bb)
            have HB := Lib.hid (HB.out.below bb)
            have BB := Lib.hid (BB.out.trans (bb.mono BB.out.size))
            have hv1 := (show _ ∧ _ from ⟨row_below hHeld.1 bb, row_below hHeld.2 bb⟩)
            clear bb hHeld
            go_wp2_with fail
            refine hK.out _ _ hv1 (fun hHeld => ?_)
            clear hK K hv1
            refine wpAnyH_ready (rs := [3]) (by kernel_rfl) (by simp) (held_cons rfl (fun K hK => ?_) AllReadyH.nil)
            go_simp
            refine (RB.out _ HB.out BB.out).mono ?_
            rintro e v2 ⟨rfl, bb⟩
            have HC := Lib.hid (HC.out.below bb)
            have HB := Lib.hid (HB.out.below bb)
            have BB := Lib.hid (BB.out.trans (bb.mono BB.out.size))
            have hv2 := (show _ ∧ _ from ⟨row_below hHeld.1 bb, row_below hHeld.2 bb⟩)
            clear bb hHeld
            go_wp2_with fail
            refine hK.out _ _ hv2 (fun hHeld => ?_)
            clear hK K hv2
            refine wpAnyH_ready (rs := [4]) (by kernel_rfl) (by simp) (held_cons rfl (fun K hK => ?_) AllReadyH.nil)
            go_simp
            refine (same_v rc r false LRC.out LR.out SQ.out _).mono ?_
            rintro e v3 ⟨rfl, bb⟩
            have HC := Lib.hid (HC.out.below bb)
            have HB := Lib.hid (HB.out.below bb)
            have BB := Lib.hid (BB.out.trans (bb.mono BB.out.size))
            have hv3 := (show _ ∧ _ from ⟨row_below hHeld.1 bb, row_below hHeld.2 bb⟩)
            clear bb hHeld
            go_wp2_with fail
            refine hK.out _ _ hv3 (fun hHeld => ?_)
            clear hK K hv3
            refine held_take (i := 5) (v := (.bool false)) rfl (by kernel_rfl) (by kernel_rfl) (by kernel_rfl) (fun _ _ _ h => h) (Or.inl ⟨by rfl, fun w' _ => by kernel_rfl⟩) hHeld ?_
            go_frame
            refine wpAnyH_done (by kernel_rfl) ?_ _
            have FB2 := Lib.hid hHeld.2
            clear hHeld FB FC
            go_wp2_with fail
            refine (is_any E 8 108 true rfl _ (HE.out.below (B1.out.trans (BB.out.mono B1.out.size))) (by omega)).mono ?_
            rintro e zz ⟨rfl, bb⟩
            have HB := Lib.hid (HB.out.below bb)
            have FB2 := Lib.hid (row_below FB2.out bb)
            have BB := Lib.hid (BB.out.trans (bb.mono BB.out.size))
            clear bb
            go_wp2_with ((with_reducible show wpList _ _ _ _ _ _); (refine wpList_load_rowG 37 (.tmp 10) rfl g8 rfl 37 cs.toArray (0, 0) _ FB2.out Tryd.underlying37 rfl (by rw [LCS.out]; kernel_rfl) rfl ?_; go_frame))
            refine (CB.out _ _ HB.out BB.out).mono ?_
            rintro e zy ⟨rfl, bb⟩
            have BB := Lib.hid (BB.out.trans (bb.mono BB.out.size))
            clear bb
            go_wp2_with fail
            go_ret
            exact ⟨rfl, B1.out.trans (BB.out.mono B1.out.size)⟩
end Go.Proofs.YtcghbogkplcohaaDoor.Sha
